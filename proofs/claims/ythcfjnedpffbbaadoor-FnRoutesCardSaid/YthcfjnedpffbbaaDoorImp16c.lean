/-
  Chapter 16's program, its routes: what is proved here is what straight, RouteXY, RouteYX and slices.Reverse of ints return, and that they write nothing that was there. Condition: none beyond the contracts' own.
-/
import Derived.Test.YthcfjnedpffbbaaDoorImp16b
import Derived.Test.YthcfjnedpffbbaaDoorFabB
namespace Go.Proofs.YthcfjnedpffbbaaDoor
open Go.RowKit

theorem own_past {W : World} {lo n c R : Nat} {A : Option Addr} {xs : List Value} {t : TypeId} {x y : Int} (k : Own W lo 3 A n c xs) (r : Duo2 W R t x y) (ht : t ≠ 3) (a b : Value) : Own ((W.setCell ⟨R, 0, none⟩ a).setCell ⟨R, 1, none⟩ b) lo 3 A n c xs :=
  k.grown (two_grown16 W R a b) (fun ad hA e => own_not16 k r ht (by rw [hA]; exact e))
def sliceLen : Value → Nat
  | .slice _ n _ => n
  | _ => 0
theorem near_cmp {x u : Nat} : ((near x u : Nat) : Int) = (x : Int) + cmp16 (u : Int) (x : Int) := by
  unfold near cmp16
  repeat' split
  all_goals omega
theorem near_same (x : Nat) : near x x = x := by unfold near; rw [if_neg (by omega), if_neg (by omega)]
theorem straight_step {x y p q : Nat} (h1 : x < 5) (h2 : y < 5) (h3 : p < 5) (h4 : q < 5) (hs : x = p ∨ y = q) (hne : ¬ (x = p ∧ y = q)) : xyR x y p q = (near x p, near y q) :: xyR (near x p) (near y q) p q ∧ (near x p = p ∨ near y q = q) := by
  by_cases hx : x = p
  · have hy : y ≠ q := fun h => hne ⟨hx, h⟩
    have := rt_y (al := true) h1 h2 h3 h4 hy (fun _ => hx)
    subst hx
    rw [near_same]
    exact ⟨this, Or.inl rfl⟩
  · have hy : y = q := by omega
    have := rt_x (al := true) h1 h2 h3 h4 hx (Or.inl rfl)
    subst hy
    rw [near_same]
    exact ⟨this, Or.inr rfl⟩
set_option maxRecDepth 100000 in
set_option maxHeartbeats 8000000 in
theorem straight_any {A : Option Addr} {n c lo a w tx ty : Nat} {h : Int} {zs : List Int} {W : World} (hO : Own W lo 3 A n c (ints .i64 zs)) (hlo : lo ≤ W.heap.size) (hn : n ≤ 1000) (hw : 1 ≤ w ∧ w ≤ 5) (hz : zs[n - 1]? = some (a : Int)) (ha : a ≤ 65536) (hab : a % w < 5 ∧ a / w < 5) (ht : tx < 5 ∧ ty < 5) (hs : a % w = tx ∨ a / w = ty) :
    Calls Tryd.prog 50 #[.agg #[.int .i64 (w : Int), .int .i64 h], .slice A n c, .agg #[.int .i64 (tx : Int), .int .i64 (ty : Int)]] W fun e W' => ∃ A' n' c', e = .returned (.slice A' n' c') ∧ Own W' lo 3 A' n' c' (ints .i64 (zs ++ nodes w (xyR (a % w) (a / w) tx ty))) ∧ Below lo W W' := by
  obtain ⟨i0, hi, hz0, hz1, hz2⟩ := info_parts Tryd.infoInt
  have hl := hO.has.len
  have hn1 : n - 1 < n := by
    have := (List.getElem?_eq_some_iff.1 hz).1
    omega
  obtain ⟨F, hF⟩ : ∃ F, zs ++ nodes w (xyR (a % w) (a / w) tx ty) = F := ⟨_, rfl⟩
  have HF := Lib.hid hF
  have HFL : Hid (F.length ≤ 1100) := by
    show F.length ≤ 1100
    rw [← hF, List.length_append, nodes_len]
    have := (routes_len hab.1 hab.2 ht.1 ht.2).1.2
    unfold xyS at this
    rw [List.length_cons] at this
    omega
  rw [hF]
  have S1 := Lib.hid (fun W => spotOf_any (w := w) (a := a) (h := h) (W := W) (by omega) (by omega) (by omega))
  obtain ⟨x0, hx⟩ : ∃ x, a % w = x := ⟨_, rfl⟩
  obtain ⟨y0, hy⟩ : ∃ y, a / w = y := ⟨_, rfl⟩
  rw [hx, hy] at S1 hs hab HF
  obtain ⟨Wa, hWa⟩ : ∃ Wa, W.alloc (.cells #[.int .i64 (w : Int), .int .i64 h] 51) = Wa := ⟨_, rfl⟩
  have Ka : Duo2 Wa W.heap.size 51 (w : Int) h := hWa ▸ duo2_alloc W _ _ _
  have Ba : Below W.heap.size W Wa := hWa ▸ below_alloc16 W _
  obtain ⟨W0, hW0⟩ : ∃ W0, Wa.alloc (.cells #[.int .i64 (tx : Int), .int .i64 (ty : Int)] 54) = W0 := ⟨_, rfl⟩
  have K0 : Duo2 W0 Wa.heap.size 54 (tx : Int) (ty : Int) := hW0 ▸ duo2_alloc Wa _ _ _
  have Bb : Below Wa.heap.size Wa W0 := hW0 ▸ below_alloc16 Wa _
  have B0 := bel_trans Ba Bb
  have KA := Ka.bel Bb
  have sw : W.heap.size < Wa.heap.size := Ka.lt
  obtain ⟨BT, hBT⟩ : ∃ BT, Wa.heap.size = BT := ⟨_, rfl⟩
  rw [hBT] at K0 sw
  obtain ⟨b, o, z, rfl, hbl, hx1, hc⟩ := hO.has.at_ hn1
  obtain rfl : z = (a : Int) := by rw [hz] at hx1; injection hx1 with e; exact e.symm
  have hc0 := (B0.cell (p := ⟨b, o + (n - 1), none⟩) hbl).trans hc
  have t1 : IntKind.i64.wrap ((n : Int) - 1) = (n : Int) - 1 := IntWalk.i64_in _ (by omega)
  have n1 : ((n : Int) - 1).toNat = n - 1 := by omega
  have g0 : (0 : Int) ≤ (n : Int) - 1 := by omega
  have g1 : (n : Int) - 1 < (n : Int) := by omega
  have g2 : 1 ≤ n := by omega
  have g3 : (1 : Int) ≤ (n : Int) := by omega
  have g4 : 0 < n := by omega
  have g5 : (0 : Int) < (n : Int) := by omega
  have HO := Lib.hid hO
  have HC := Lib.hid hc
  clear hF hx hy hz hx1 hc Ka Ba Bb hO hl
  go_enter Tryd.func50, Tryd.ntmps50
  go_upto_region 1 with fail
  try rw [hBT]
  clear hBT hW0 hWa
  go_cut [7] from 8 to 29 (fun s wx => ∃ R7, s = .pointer (some ⟨R7, 0, none⟩) ∧ Duo2 wx R7 54 (x0 : Int) (y0 : Int) ∧ W.heap.size < R7 ∧ R7 ≠ BT ∧ Duo2 wx W.heap.size 51 (w : Int) h ∧ Duo2 wx BT 54 (tx : Int) (ty : Int) ∧ Below W.heap.size W wx)
  case first =>
    obtain ⟨X0, hX⟩ : ∃ X0, W0.drew = X0 := ⟨_, rfl⟩
    have KB : Duo2 X0 W.heap.size 51 (w : Int) h := hX ▸ KA
    have KT : Duo2 X0 BT 54 (tx : Int) (ty : Int) := hX ▸ K0
    have T : Below W.heap.size W X0 := hX ▸ B0.drew
    obtain ⟨e0, e1⟩ := KB.cells
    have e2 : X0.cell? ⟨b, o + (n - 1), none⟩ = some (.int .i64 (a : Int)) := hX ▸ hc0
    refine wp_region_held_drew (S := (fun w' => (w'.cell? ⟨W.heap.size, 0, none⟩ = some (.int .i64 (w : Int)) ∧ w'.cell? ⟨W.heap.size, 1, none⟩ = some (.int .i64 h)) ∧ w'.cell? ⟨b, o + (n - 1), none⟩ = some (.int .i64 (a : Int)))) (by kernel_rfl) ?_ (fun hHeld => ?_)
    · rw [hX]; exact ⟨⟨e0, e1⟩, e2⟩
    rw [hX] at hHeld ⊢
    clear hX e0 e1 B0 KA K0 hc0
    refine wpAnyH_take (i := 0) (v := ?_) rfl (by kernel_rfl) (by kernel_rfl) (by kernel_rfl) (fun _ _ _ h => h) (Or.inl ⟨by rfl, ?_⟩) (by assumption) ?_
    rotate_left
    (intro wS hSw; (try dsimp only at hSw); go_simp; try with_reducible rfl)
    (try simp only [Act.put, List.setIfInBounds_toArray])
    refine wpAnyH_take (i := 1) (v := ?_) rfl (by kernel_rfl) (by kernel_rfl) (by kernel_rfl) (fun _ _ _ h => h) (Or.inl ⟨by rfl, ?_⟩) (by assumption) ?_
    rotate_left
    (intro wS hSw; (try dsimp only at hSw); go_simp; try with_reducible rfl)
    (try simp only [Act.put])
    refine wpAnyH_take (i := 2) (v := ?_) rfl (by kernel_rfl) (by kernel_rfl) (by kernel_rfl) (fun _ _ _ h => h) (Or.inl ⟨by rfl, ?_⟩) (by assumption) ?_
    rotate_left
    (intro wS hSw; (try dsimp only at hSw); go_simp; try with_reducible rfl)
    (try simp only [Act.put])
    refine wpAnyH_take (i := 3) (v := ?_) rfl (by kernel_rfl) (by kernel_rfl) (by kernel_rfl) (fun _ _ _ h => h) (Or.inl ⟨by rfl, ?_⟩) (by assumption) ?_
    rotate_left
    (intro wS hSw; (try dsimp only at hSw); go_simp; try with_reducible rfl)
    (try simp only [Act.put])
    refine wpAnyH_take (i := 4) (v := ?_) rfl (by kernel_rfl) (by kernel_rfl) (by kernel_rfl) (fun _ _ _ h => h) (Or.inl ⟨by rfl, ?_⟩) (by assumption) ?_
    rotate_left
    (intro wS hSw; (try dsimp only at hSw); go_simp; try with_reducible rfl)
    (try simp only [Act.put])
    refine wpAnyH_take (i := 5) (v := ?_) rfl (by kernel_rfl) (by kernel_rfl) (by kernel_rfl) (fun _ _ _ h => h) (Or.inl ⟨by rfl, ?_⟩) (by assumption) ?_
    rotate_left
    (intro wS hSw; (try dsimp only at hSw); go_simp; try with_reducible rfl)
    (try simp only [Act.put])
    refine wpAnyH_take (i := 6) (v := ?_) rfl (by kernel_rfl) (by kernel_rfl) (by kernel_rfl) (fun _ _ _ h => h) (Or.inl ⟨by rfl, ?_⟩) (by assumption) ?_
    rotate_left
    (intro wS hSw; (try dsimp only at hSw); go_simp; try with_reducible rfl)
    (try simp only [Act.put])
    refine wpAnyH_ready (rs := [7, 8]) (by kernel_rfl) (by simp) ?_
    refine AllReadyH.cons rfl (fun K hK => ?_) (AllReadyH.cons rfl (fun K hK => ?_) AllReadyH.nil)
    · go_simp
      go_at_call 49
      refine (S1.out _).mono ?_
      rintro e X1 ⟨rfl, BB⟩
      have KB1 := KB.bel BB
      have KT1 := KT.bel BB
      have T1 := T.trans (BB.mono (by have := T.size; omega))
      obtain ⟨u0, u1⟩ := KB1.cells
      have u2 := (T1.cell (p := ⟨b, o + (n - 1), none⟩) hbl).trans HC.out
      refine hK.out _ _ ?_ ?_
      · exact ⟨⟨u0, u1⟩, u2⟩
      intro hHeld
      clear hK K
      (try simp only [Act.put, List.setIfInBounds_toArray, List.set_cons_zero, List.set_cons_succ])
      refine wpAnyH_ready (rs := [8]) (by kernel_rfl) (by simp) ?_
      refine AllReadyH.cons rfl (fun K hK => ?_) AllReadyH.nil
      go_simp
      obtain ⟨X2, hX2⟩ : ∃ Y, X1.alloc (.cells #[.int .i64 0, .int .i64 0] 54) = Y := ⟨_, rfl⟩
      have BB2 : Below X1.heap.size X1 X2 := hX2 ▸ below_alloc16 X1 _
      have D : Duo2 X2 X1.heap.size 54 0 0 := hX2 ▸ duo2_alloc X1 _ 0 0
      rw [hX2]
      clear hX2
      have KB2 := KB1.bel BB2
      have KT2 := KT1.bel BB2
      have T2 := T1.trans (BB2.mono (by have := T1.size; omega))
      have HGT : W.heap.size < X1.heap.size := KB1.lt
      have HNE : X1.heap.size ≠ BT := by have := KT1.lt; omega
      obtain ⟨v0, v1⟩ := KB2.cells
      have v2 := (T2.cell (p := ⟨b, o + (n - 1), none⟩) hbl).trans HC.out
      refine hK.out _ _ ?_ ?_
      · exact ⟨⟨v0, v1⟩, v2⟩
      intro hHeld
      clear hK K
      (try simp only [Act.put, List.setIfInBounds_toArray, List.set_cons_zero, List.set_cons_succ])
      obtain ⟨p0, p1⟩ := D.cells
      have f0 := D.open_ 0
      have f1 := D.open_ 1
      have hb := D.apart KB2 (by decide)
      have KB3 := KB2.past hb (.int .i64 (x0 : Int)) (.int .i64 (y0 : Int))
      have KT3 := KT2.past HNE (.int .i64 (x0 : Int)) (.int .i64 (y0 : Int))
      have D3 := D.put (x0 : Int) (y0 : Int)
      have T3 := put_below2 T2 (Nat.le_of_lt HGT) (.int .i64 (x0 : Int)) (.int .i64 (y0 : Int))
      obtain ⟨q0, q1⟩ := KB3.cells
      have q2 := (T3.cell (p := ⟨b, o + (n - 1), none⟩) hbl).trans HC.out
      refine wpAnyH_ready (rs := [9]) (by kernel_rfl) (by simp) ?_
      refine AllReadyH.cons rfl (fun K hK => ?_) AllReadyH.nil
      go_simp
      refine hK.out _ _ ?_ ?_
      · exact ⟨⟨q0, q1⟩, q2⟩
      intro hHeld
      clear hK K
      (try simp only [Act.put, List.setIfInBounds_toArray, List.set_cons_zero, List.set_cons_succ])
      refine wpAnyH_done (by kernel_rfl) ?_ _
      go_wp2_with (fail)
      go_meet
      exact ⟨_, rfl, D3, HGT, HNE, KB3, KT3, T3⟩
    · go_simp
      obtain ⟨X1, hX1⟩ : ∃ Y, X0.alloc (.cells #[.int .i64 0, .int .i64 0] 54) = Y := ⟨_, rfl⟩
      have BB : Below X0.heap.size X0 X1 := hX1 ▸ below_alloc16 X0 _
      have D0 : Duo2 X1 X0.heap.size 54 0 0 := hX1 ▸ duo2_alloc X0 _ 0 0
      rw [hX1]
      clear hX1
      have KB1 := KB.bel BB
      have KT1 := KT.bel BB
      have T1 := T.trans (BB.mono (by have := T.size; omega))
      have HGT : W.heap.size < X0.heap.size := KB.lt
      have HNE : X0.heap.size ≠ BT := by have := KT.lt; omega
      obtain ⟨u0, u1⟩ := KB1.cells
      have u2 := (T1.cell (p := ⟨b, o + (n - 1), none⟩) hbl).trans HC.out
      refine hK.out _ _ ?_ ?_
      · exact ⟨⟨u0, u1⟩, u2⟩
      intro hHeld
      clear hK K
      (try simp only [Act.put, List.setIfInBounds_toArray, List.set_cons_zero, List.set_cons_succ])
      refine wpAnyH_ready (rs := [7]) (by kernel_rfl) (by simp) ?_
      refine AllReadyH.cons rfl (fun K hK => ?_) AllReadyH.nil
      go_simp
      go_at_call 49
      refine (S1.out _).mono ?_
      rintro e X2 ⟨rfl, BB2⟩
      have KB2 := KB1.bel BB2
      have KT2 := KT1.bel BB2
      have D := D0.bel BB2
      have T2 := T1.trans (BB2.mono (by have := T1.size; omega))
      obtain ⟨v0, v1⟩ := KB2.cells
      have v2 := (T2.cell (p := ⟨b, o + (n - 1), none⟩) hbl).trans HC.out
      refine hK.out _ _ ?_ ?_
      · exact ⟨⟨v0, v1⟩, v2⟩
      intro hHeld
      clear hK K
      (try simp only [Act.put, List.setIfInBounds_toArray, List.set_cons_zero, List.set_cons_succ])
      obtain ⟨p0, p1⟩ := D.cells
      have f0 := D.open_ 0
      have f1 := D.open_ 1
      have hb := D.apart KB2 (by decide)
      have KB3 := KB2.past hb (.int .i64 (x0 : Int)) (.int .i64 (y0 : Int))
      have KT3 := KT2.past HNE (.int .i64 (x0 : Int)) (.int .i64 (y0 : Int))
      have D3 := D.put (x0 : Int) (y0 : Int)
      have T3 := put_below2 T2 (Nat.le_of_lt HGT) (.int .i64 (x0 : Int)) (.int .i64 (y0 : Int))
      obtain ⟨q0, q1⟩ := KB3.cells
      have q2 := (T3.cell (p := ⟨b, o + (n - 1), none⟩) hbl).trans HC.out
      refine wpAnyH_ready (rs := [9]) (by kernel_rfl) (by simp) ?_
      refine AllReadyH.cons rfl (fun K hK => ?_) AllReadyH.nil
      go_simp
      refine hK.out _ _ ?_ ?_
      · exact ⟨⟨q0, q1⟩, q2⟩
      intro hHeld
      clear hK K
      (try simp only [Act.put, List.setIfInBounds_toArray, List.set_cons_zero, List.set_cons_succ])
      refine wpAnyH_done (by kernel_rfl) ?_ _
      go_wp2_with (fail)
      go_meet
      exact ⟨_, rfl, D3, HGT, HNE, KB3, KT3, T3⟩
  case rest =>
    obtain ⟨R7, rfl, D7, hR7, hRT, KB, KT, T⟩ := hcut
    have O1 := HO.out.bel T
    clear S1 hc0 KA K0 B0
    go_wp2
    go_loopw [1] (fun v wr => ∃ (x y k c1 : Nat) (A1 : Option Addr) (ws : List Int), v = .slice A1 k c1 ∧ Own wr lo 3 A1 k c1 (ints .i64 ws) ∧ Hid (ws ++ nodes w (xyR x y tx ty) = F) ∧ Hid ((x < 5 ∧ y < 5) ∧ (x = tx ∨ y = ty)) ∧ Duo2 wr R7 54 (x : Int) (y : Int) ∧ Duo2 wr W.heap.size 51 (w : Int) h ∧ Duo2 wr BT 54 (tx : Int) (ty : Int) ∧ Below lo W wr) (fun v _ => F.length - sliceLen v)
    case atStart =>
      have h1 : Hid ((x0 < 5 ∧ y0 < 5) ∧ (x0 = tx ∨ y0 = ty)) := ⟨hab, hs⟩
      exact ⟨x0, y0, n, c, _, zs, rfl, O1, HF, h1, D7, KB, KT, T.mono hlo⟩
    case round =>
      obtain ⟨x, y, k, c1, A1, ws, rfl, O2, HZ, HB, D2, KB2, KT2, T2⟩ := hrel
      have hkl : k = ws.length := O2.has.len.symm
      have hk2 : k ≤ F.length := by have := congrArg List.length HZ.out; rw [List.length_append] at this; omega
      have hk3 := HFL.out
      have hge := T2.size
      obtain ⟨a0, a1⟩ := D2.cells
      obtain ⟨b0, b1⟩ := KT2.cells
      obtain ⟨⟨x5, y5⟩, hsh⟩ := HB.out
      by_cases hend : x = tx ∧ y = ty
      · have HE : Hid (ws = F) := by
          have := HZ.out
          rw [hend.1, hend.2, xyR_nil] at this
          show ws = F
          simpa [nodes] using this
        have hxx : ((x : Int) == (tx : Int)) = true := by simp; omega
        have hyy : ((y : Int) == (ty : Int)) = true := by simp; omega
        clear hend hsh hkl
        go_wp2
        go_ret
        exact ⟨_, _, _, rfl, by rw [← HE.out]; exact O2, T2⟩
      obtain ⟨g1', g2'⟩ := straight_step x5 y5 ht.1 ht.2 hsh hend
      have HZ2 : Hid ((ws ++ [((atN w (near x tx, near y ty) : Nat) : Int)]) ++ nodes w (xyR (near x tx) (near y ty) tx ty) = F) := by
        have := HZ.out
        rw [g1', nodes_cons] at this
        rw [List.append_assoc]
        exact this
      have x5' := near_le x5 ht.1
      have y5' := near_le y5 ht.2
      have HB2 : Hid ((near x tx < 5 ∧ near y ty < 5) ∧ (near x tx = tx ∨ near y ty = ty)) := ⟨⟨x5', y5'⟩, g2'⟩
      have CN := Lib.hid (fun W => nodeAt_any (w := w) (x := near x tx) (y := near y ty) (h := h) (W := W) (by omega) (by omega) (by omega))
      have CT := Lib.hid (fun W => towards_any (x := (x : Int)) (y := (y : Int)) (u := (tx : Int)) (v := (ty : Int)) (W := W) rfl rfl)
      have ec1 : -1 ≤ cmp16 (tx : Int) (x : Int) ∧ cmp16 (tx : Int) (x : Int) ≤ 1 := by unfold cmp16; repeat' split; all_goals omega
      have ec2 : -1 ≤ cmp16 (ty : Int) (y : Int) ∧ cmp16 (ty : Int) (y : Int) ≤ 1 := by unfold cmp16; repeat' split; all_goals omega
      have CP := fun W => plus_any (x := (x : Int)) (y := (y : Int)) (u := cmp16 (tx : Int) (x : Int)) (v := cmp16 (ty : Int) (y : Int)) (W := W) (by omega) (by omega) (by omega) (by omega)
      rw [← near_cmp, ← near_cmp] at CP
      have CP := Lib.hid CP
      obtain ⟨N, hN⟩ : ∃ N, atN w (near x tx, near y ty) = N := ⟨_, rfl⟩
      rw [hN] at CN HZ2
      generalize cmp16 (tx : Int) (x : Int) = d1 at *
      generalize cmp16 (ty : Int) (y : Int) = d2 at *
      have hE : ((((x : Int) == (tx : Int)) = true) ∧ (((y : Int) == (ty : Int)) = false)) ∨ ((((x : Int) == (tx : Int)) = false) ∧ ((((y : Int) == (ty : Int)) = true) ∨ (((y : Int) == (ty : Int)) = false))) := by
        by_cases hxt : x = tx
        · refine Or.inl ⟨by simp; omega, by simp; omega⟩
        · refine Or.inr ⟨by simp; omega, ?_⟩
          cases ((y : Int) == (ty : Int))
          · exact Or.inr rfl
          · exact Or.inl rfl
      have HRNE := D2.apart KB2 (by decide)
      have h75 := hRT
      generalize near x tx = x' at *
      generalize near y ty = y' at *
      clear hend hsh g1' g2' hN
      have HKL : Hid (k + 1 ≤ F.length) := by
        show k + 1 ≤ F.length
        have := congrArg List.length HZ2.out
        rw [List.length_append, List.length_append] at this
        have e1 : [((N : Nat) : Int)].length = 1 := rfl
        omega
      clear hkl hk2 hk3
      rcases hE with ⟨hxx, hyy⟩ | ⟨hxx, hyy | hyy⟩
      all_goals
        go_upto_region 3 with fail
        go_cut [7] from 16 to 29 (fun s wx => s = .pointer (some ⟨R7, 0, none⟩) ∧ Duo2 wx R7 54 (x' : Int) (y' : Int) ∧ Duo2 wx BT 54 (tx : Int) (ty : Int) ∧ Duo2 wx W.heap.size 51 (w : Int) h ∧ Own wx lo 3 A1 k c1 (ints .i64 ws) ∧ Below lo W wx)
        case first =>
          go_region_law (first | (go_simp; go_at_call 83; refine (CT.out _).mono ?_; rintro e w5 ⟨rfl, B5⟩; have D5 := D2.belD B5; have T5 := KT2.belD B5; have KB5 := KB2.belD B5; have B5 := bel_ofdrew B5; obtain ⟨h2, h3⟩ := D5.cells; obtain ⟨h4, h5⟩ := T5.cells) | (go_simp; go_at_call 82; refine (CP.out _).mono ?_; rintro e w6 ⟨rfl, B6⟩; have D6 := D5.bel B6; have T6 := T5.bel B6; have KB6 := KB5.bel B6; obtain ⟨k2, k3⟩ := D6.cells; have k4 := D6.open_ 0; have k5 := D6.open_ 1))
          all_goals
            have B56 := bel_trans B5 B6
            have O6 := O2.bel B56
            have T26 := T2.trans (B56.mono (show lo ≤ wr.heap.size by omega))
            obtain ⟨Y, hY⟩ : ∃ Y, (w6.setCell ⟨R7, 0, none⟩ (.int .i64 (x' : Int))).setCell ⟨R7, 1, none⟩ (.int .i64 (y' : Int)) = Y := ⟨_, rfl⟩
            have DY : Duo2 Y R7 54 (x' : Int) (y' : Int) := hY ▸ D6.put (x' : Int) (y' : Int)
            have KTY : Duo2 Y BT 54 (tx : Int) (ty : Int) := hY ▸ T6.past hRT (.int .i64 (x' : Int)) (.int .i64 (y' : Int))
            have KBY : Duo2 Y W.heap.size 51 (w : Int) h := hY ▸ KB6.past HRNE (.int .i64 (x' : Int)) (.int .i64 (y' : Int))
            have OY : Own Y lo 3 A1 k c1 (ints .i64 ws) := hY ▸ own_past O6 D6 (by decide) (.int .i64 (x' : Int)) (.int .i64 (y' : Int))
            have TY : Below lo W Y := hY ▸ put_below2 T26 (show lo ≤ R7 by omega) (.int .i64 (x' : Int)) (.int .i64 (y' : Int))
            rw [hY]
            go_wp2_with (fail)
            go_meet
            exact ⟨rfl, DY, KTY, KBY, OY, TY⟩
        case rest =>
            obtain ⟨rfl, DY, KTY, KBY, OY, TY⟩ := hcut
            have hgY := TY.size
            have hk11 := HKL.out
            have hk12 := HFL.out
            obtain ⟨a2, a3⟩ := DY.cells
            obtain ⟨b2, b3⟩ := KBY.cells
            go_wp2_with (fail)
            refine (CN.out _).mono ?_
            rintro e w7 ⟨rfl, B7⟩
            have O7 := OY.bel B7
            have D7' := DY.bel B7
            have KT7 := KTY.bel B7
            have KB7 := KBY.bel B7
            have T7 := TY.trans (B7.mono (show lo ≤ wc.heap.size by omega))
            have hg7 := T7.size
            go_wp2_with (at_builtin; refine wpList_apps _ rfl (.tmp 24) (.tmp 28) 25 rfl lo 3 i0 (.int .i64 0) 8 Tryd.underlying25 hi hz0 hz1 hz2 rfl A1 k c1 _ rfl O7 1 1 #[.int .i64 (N : Int)] rfl rfl (by simp [Value.oneCell']) (by decide) (by omega) (by decide) (by omega) ?_; intro g3 c3 w3 O3 G3 B3 _)
            go_roundw
            case rel => exact ⟨x', y', k + 1, _, _, _, rfl, by rw [ints_snoc16]; exact O3, HZ2, HB2, D7'.grown G3 (own_not16 O7 D7' (by decide)), KB7.grown G3 (own_not16 O7 KB7 (by decide)), KT7.grown G3 (own_not16 O7 KT7 (by decide)), T7.trans B3⟩
            case measure => simp [sliceLen]; omega
end Go.Proofs.YthcfjnedpffbbaaDoor
