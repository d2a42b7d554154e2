/-
  Chapter 16's program, its wires: what is proved here is what fabric.wire and WireOf return, and that they write nothing that was there. The table of steps holds what the program's text lays.
-/
import Derived.Test.YthcfjnedpffbbaaDoorImp16a
import Derived.Deep.RegionWith
import Derived.Deep.CutRange
namespace Go.Proofs.YthcfjnedpffbbaaDoor
open Go.RowKit

/-- The table of the steps along the wires lies in the world as it was laid. -/
def stepCells : Array Value := #[.int .i64 1, .int .i64 0, .int .i64 (-1), .int .i64 0, .int .i64 0, .int .i64 1, .int .i64 0, .int .i64 (-1)]
def StepsIn (w : World) : Prop := ∃ t fr, w.heap[0]? = some (.cells stepCells t fr)
theorem StepsIn.lt {w : World} (h : StepsIn w) : 0 < w.heap.size := by obtain ⟨_, _, h⟩ := h; exact (Array.getElem?_eq_some_iff.1 h).1
theorem StepsIn.bel {w w' : World} (h : StepsIn w) (hb : Below w.heap.size w w') : StepsIn w' := by
  have hl := h.lt
  obtain ⟨t, fr, h⟩ := h
  exact ⟨t, fr, (hb.block _ hl).trans h⟩
theorem StepsIn.load {w : World} (h : StepsIn w) : (loadVar 98 ⟨0, 0, none⟩).run Tryd.prog w = .ok (.agg stepCells) w := by
  obtain ⟨t, fr, h⟩ := h
  exact run_loadVar_row w _ t 98 stepCells fr _ h Tryd.underlying98 rfl (by kernel_rfl)
theorem steps_index0 (w : World) : (Instr.index 98 (.agg #[.int .i64 1, .int .i64 0, .int .i64 (-1), .int .i64 0, .int .i64 0, .int .i64 1, .int .i64 0, .int .i64 (-1)]) (.int .i64 0)).run Tryd.prog w = .ok (.agg #[.int .i64 1, .int .i64 0]) w := by kernel_rfl
theorem steps_index1 (w : World) : (Instr.index 98 (.agg #[.int .i64 1, .int .i64 0, .int .i64 (-1), .int .i64 0, .int .i64 0, .int .i64 1, .int .i64 0, .int .i64 (-1)]) (.int .i64 1)).run Tryd.prog w = .ok (.agg #[.int .i64 (-1), .int .i64 0]) w := by kernel_rfl
theorem steps_index2 (w : World) : (Instr.index 98 (.agg #[.int .i64 1, .int .i64 0, .int .i64 (-1), .int .i64 0, .int .i64 0, .int .i64 1, .int .i64 0, .int .i64 (-1)]) (.int .i64 2)).run Tryd.prog w = .ok (.agg #[.int .i64 0, .int .i64 1]) w := by kernel_rfl
theorem steps_index3 (w : World) : (Instr.index 98 (.agg #[.int .i64 1, .int .i64 0, .int .i64 (-1), .int .i64 0, .int .i64 0, .int .i64 1, .int .i64 0, .int .i64 (-1)]) (.int .i64 3)).run Tryd.prog w = .ok (.agg #[.int .i64 0, .int .i64 (-1)]) w := by kernel_rfl
theorem B5x {a b : World} (h : Below a.heap.size a b) : Below a.heap.size a b := h
theorem ret_ib {x y : Int} {b c : Bool} (h : x = y) (h2 : b = c) : Ending.returned (.tuple #[.int .i64 x, .bool b]) = .returned (.tuple #[.int .i64 y, .bool c]) := by rw [h, h2]
/- The four sides on which a neighbour can be. -/
def sideT (k x y p q : Nat) : Prop := match k with
  | 0 => p = x + 1 ∧ y = q
  | 1 => x = p + 1 ∧ y = q
  | 2 => x = p ∧ q = y + 1
  | _ => x = p ∧ y = q + 1
theorem sides_next {k x y p q : Nat} (h : ∀ j, j < k → ¬ sideT j x y p q) (h2 : ¬ sideT k x y p q) : ∀ j, j < k + 1 → ¬ sideT j x y p q := fun j hj => by
  by_cases e : j = k
  · rw [e]; exact h2
  · exact h j (by omega)
theorem wire_side {w h n m x y p q k : Nat} (kk : okN w h n ∧ okN w h m) (hx : n % w = x) (hy : n / w = y) (hp : m % w = p) (hq : m / w = q) (hk : k < 4) (h1 : ∀ j, j < k → ¬ sideT j x y p q) (h2 : sideT k x y p q) :
    wireI (w : Int) (h : Int) (n : Int) (m : Int) = ((4 * n + k : Nat) : Int) := by
  unfold wireI
  rw [if_pos kk]
  show wireW w n m = _
  unfold wireW
  rw [hx, hy, hp, hq]
  have : k = 0 ∨ k = 1 ∨ k = 2 ∨ k = 3 := by omega
  rcases this with rfl | rfl | rfl | rfl
  · have g2 : p = x + 1 ∧ y = q := h2
    rw [if_pos ⟨g2.2, g2.1⟩]; rfl
  · have g2 : x = p + 1 ∧ y = q := h2
    rw [if_neg (by omega), if_pos ⟨g2.2, g2.1⟩]
  · have g2 : x = p ∧ q = y + 1 := h2
    rw [if_neg (by omega), if_neg (by omega), if_pos g2]
  · have g2 : x = p ∧ y = q + 1 := h2
    rw [if_neg (by omega), if_neg (by omega), if_neg (by omega), if_pos g2]
theorem wire_none {w h n m x y p q : Nat} (kk : okN w h n ∧ okN w h m) (hx : n % w = x) (hy : n / w = y) (hp : m % w = p) (hq : m / w = q) (h1 : ∀ j, j < 4 → ¬ sideT j x y p q) :
    wireI (w : Int) (h : Int) (n : Int) (m : Int) = -1 := by
  unfold wireI
  rw [if_pos kk]
  show wireW w n m = _
  unfold wireW
  rw [hx, hy, hp, hq]
  have g0 : ¬ (p = x + 1 ∧ y = q) := h1 0 (by omega)
  have g1 : ¬ (x = p + 1 ∧ y = q) := h1 1 (by omega)
  have g2 : ¬ (x = p ∧ q = y + 1) := h1 2 (by omega)
  have g3 : ¬ (x = p ∧ y = q + 1) := h1 3 (by omega)
  rw [if_neg (by omega), if_neg (by omega), if_neg (by omega), if_neg (by omega)]
set_option maxRecDepth 100000 in
set_option maxHeartbeats 8000000 in
theorem wire_yes {w h a b v : Int} {ok : Bool} {W : World} (hT : StepsIn W) (ka : okN w h a) (kb : okN w h b) (hv : (if 0 ≤ wireI w h a b then wireI w h a b else 0) = v) (hok : decide (0 ≤ wireI w h a b) = ok) : Calls Tryd.prog 55 #[.agg #[.int .i64 w, .int .i64 h], .int .i64 a, .int .i64 b] W fun e W' => e = .returned (.tuple #[.int .i64 v, .bool ok]) ∧ Below W.heap.size W W' := by
  have HV := Lib.hid (show (if 0 ≤ wireI w h a b then wireI w h a b else 0) = v ∧ decide (0 ≤ wireI w h a b) = ok from ⟨hv, hok⟩)
  clear hv hok
  have hla := okN_lt ka
  have hlb := okN_lt kb
  have C1 := Lib.hid (fun W => isNode_b (W := W) (decide_eq_true ka))
  have C2 := Lib.hid (fun W => isNode_b (W := W) (decide_eq_true kb))
  obtain ⟨W0, H0, n, rfl, rfl, rfl, hw, hh, _, _⟩ := spot_of ka
  obtain ⟨W1, H1, m, hq1, hq2, rfl, _, _, _, _⟩ := spot_of kb
  obtain rfl : W0 = W1 := by omega
  obtain rfl : H0 = H1 := by omega
  clear hq1 hq2
  have S1 := Lib.hid (fun W => spotOf_any (w := W0) (a := n) (h := (H0 : Int)) (W := W) (by omega) (by omega) (by omega))
  have S2 := Lib.hid (fun W => spotOf_any (w := W0) (a := m) (h := (H0 : Int)) (W := W) (by omega) (by omega) (by omega))
  obtain ⟨Wa, hWa⟩ : ∃ Wa, W.alloc (.cells #[.int .i64 (W0 : Int), .int .i64 (H0 : Int)] 51) = Wa := ⟨_, rfl⟩
  have Ka : Duo2 Wa W.heap.size 51 (W0 : Int) (H0 : Int) := hWa ▸ duo2_alloc W _ _ _
  have Ba : Below W.heap.size W Wa := hWa ▸ below_alloc16 W _
  obtain ⟨v0, v1⟩ := Ka.cells
  go_enter Tryd.func55, Tryd.ntmps55
  go_wp2_with (fail)
  refine (C1.out _).mono ?_
  rintro e w1 ⟨rfl, B1⟩
  obtain ⟨u0, u1⟩ := (Ka.bel B1).cells
  have T1 := bel_trans Ba B1
  have K1 := Ka.bel B1
  go_wp2_with (fail)
  refine (C2.out _).mono ?_
  rintro e w2 ⟨rfl, B2⟩
  have T2 := bel_trans T1 B2
  have K2 := K1.bel B2
  clear v0 v1 u0 u1 Ka K1 B1 B2 Ba T1
  obtain ⟨x, hx⟩ : ∃ x, n % W0 = x := ⟨_, rfl⟩
  obtain ⟨y, hy⟩ : ∃ y, n / W0 = y := ⟨_, rfl⟩
  obtain ⟨p, hp⟩ : ∃ p, m % W0 = p := ⟨_, rfl⟩
  obtain ⟨q, hq⟩ : ∃ q, m / W0 = q := ⟨_, rfl⟩
  rw [hx, hy] at S1
  rw [hp, hq] at S2
  go_upto_region 3 with fail
  go_cut [8, 9] from 22 to 42 (fun s t wx => ∃ R8 R9, s = .pointer (some ⟨R8, 0, none⟩) ∧ t = .pointer (some ⟨R9, 0, none⟩) ∧ Duo2 wx R8 54 (x : Int) (y : Int) ∧ Duo2 wx R9 54 (p : Int) (q : Int) ∧ Duo2 wx W.heap.size 51 (W0 : Int) (H0 : Int) ∧ Below W.heap.size W wx)
  case first =>
    obtain ⟨X0, hX⟩ : ∃ X0, w2.drew = X0 := ⟨_, rfl⟩
    have KB : Duo2 X0 W.heap.size 51 (W0 : Int) (H0 : Int) := hX ▸ K2
    have T : Below W.heap.size W X0 := hX ▸ T2.drew
    obtain ⟨e0, e1⟩ := KB.cells
    refine wp_region_held_drew (S := (fun w' => w'.cell? ⟨W.heap.size, 0, none⟩ = some (.int .i64 (W0 : Int)) ∧ w'.cell? ⟨W.heap.size, 1, none⟩ = some (.int .i64 (H0 : Int)))) (by kernel_rfl) ?_ (fun hHeld => ?_)
    · rw [hX]; exact ⟨e0, e1⟩
    rw [hX] at hHeld ⊢
    clear hX e0 e1 T2 K2 C1 C2
    refine wpAnyH_take (i := 0) (v := ?_) rfl (by kernel_rfl) (by kernel_rfl) (by kernel_rfl) (fun _ _ _ h => h) (Or.inl ⟨by rfl, ?_⟩) (by assumption) ?_
    rotate_left
    (intro wS hSw; (try dsimp only at hSw); go_simp; try with_reducible rfl)
    (try simp only [Act.put, List.setIfInBounds_toArray])
    refine wpAnyH_take (i := 1) (v := ?_) rfl (by kernel_rfl) (by kernel_rfl) (by kernel_rfl) (fun _ _ _ h => h) (Or.inl ⟨by rfl, ?_⟩) (by assumption) ?_
    rotate_left
    (intro wS hSw; (try dsimp only at hSw); go_simp; try with_reducible rfl)
    (try simp only [Act.put])
    refine wpAnyH_take (i := 3) (v := ?_) rfl (by kernel_rfl) (by kernel_rfl) (by kernel_rfl) (fun _ _ _ h => h) (Or.inl ⟨by rfl, ?_⟩) (by assumption) ?_
    rotate_left
    (intro wS hSw; (try dsimp only at hSw); go_simp; try with_reducible rfl)
    (try simp only [Act.put])
    refine wpAnyH_take (i := 4) (v := ?_) rfl (by kernel_rfl) (by kernel_rfl) (by kernel_rfl) (fun _ _ _ h => h) (Or.inl ⟨by rfl, ?_⟩) (by assumption) ?_
    rotate_left
    (intro wS hSw; (try dsimp only at hSw); go_simp; try with_reducible rfl)
    (try simp only [Act.put])
    refine wpAnyH_ready (rs := [2, 6, 7]) (by kernel_rfl) (by simp) ?_
    refine AllReadyH.cons rfl (fun K hK => ?_) (AllReadyH.cons rfl (fun K hK => ?_) (AllReadyH.cons rfl (fun K hK => ?_) AllReadyH.nil))
    · go_simp
      go_at_call 49
      refine (S1.out _).mono ?_
      rintro e X1 ⟨rfl, BB⟩
      have KB2 := KB.bel BB
      have T2 := T.trans (BB.mono (by have := T.size; omega))
      obtain ⟨e0, e1⟩ := KB2.cells
      refine hK.out _ _ ?_ ?_
      · exact ⟨e0, e1⟩
      intro hHeld
      clear hK K BB KB T
      have KB := KB2
      have T := T2
      clear KB2 T2 e0 e1
      (try simp only [Act.put, List.setIfInBounds_toArray, List.set_cons_zero, List.set_cons_succ])
      refine wpAnyH_ready (rs := [5, 6, 7]) (by kernel_rfl) (by simp) ?_
      refine AllReadyH.cons rfl (fun K hK => ?_) (AllReadyH.cons rfl (fun K hK => ?_) (AllReadyH.cons rfl (fun K hK => ?_) AllReadyH.nil))
      · go_simp
        go_at_call 49
        refine (S2.out _).mono ?_
        rintro e X2 ⟨rfl, BB⟩
        have KB2 := KB.bel BB
        have T2 := T.trans (BB.mono (by have := T.size; omega))
        obtain ⟨e0, e1⟩ := KB2.cells
        refine hK.out _ _ ?_ ?_
        · exact ⟨e0, e1⟩
        intro hHeld
        clear hK K BB KB T
        have KB := KB2
        have T := T2
        clear KB2 T2 e0 e1
        (try simp only [Act.put, List.setIfInBounds_toArray, List.set_cons_zero, List.set_cons_succ])
        refine wpAnyH_ready (rs := [6, 7]) (by kernel_rfl) (by simp) ?_
        refine AllReadyH.cons rfl (fun K hK => ?_) (AllReadyH.cons rfl (fun K hK => ?_) AllReadyH.nil)
        · go_simp
          obtain ⟨X3, hY⟩ : ∃ Y, X2.alloc (.cells #[.int .i64 0, .int .i64 0] 54) = Y := ⟨_, rfl⟩
          have BB : Below X2.heap.size X2 X3 := hY ▸ below_alloc16 X2 _
          have KB2 := KB.bel BB
          have T2 := T.trans (BB.mono (by have := T.size; omega))
          have G8 : W.heap.size ≤ X2.heap.size := T.size
          have D82 : Duo2 X3 X2.heap.size 54 0 0 := hY ▸ duo2_alloc X2 _ 0 0
          rw [hY]
          clear hY
          obtain ⟨e0, e1⟩ := KB2.cells
          refine hK.out _ _ ?_ ?_
          · exact ⟨e0, e1⟩
          intro hHeld
          clear hK K BB KB T
          have KB := KB2
          have T := T2
          clear KB2 T2 e0 e1
          have D8 := D82
          clear D82
          (try simp only [Act.put, List.setIfInBounds_toArray, List.set_cons_zero, List.set_cons_succ])
          refine wpAnyH_ready (rs := [7]) (by kernel_rfl) (by simp) ?_
          refine AllReadyH.cons rfl (fun K hK => ?_) AllReadyH.nil
          · go_simp
            obtain ⟨X4, hY⟩ : ∃ Y, X3.alloc (.cells #[.int .i64 0, .int .i64 0] 54) = Y := ⟨_, rfl⟩
            have BB : Below X3.heap.size X3 X4 := hY ▸ below_alloc16 X3 _
            have KB2 := KB.bel BB
            have T2 := T.trans (BB.mono (by have := T.size; omega))
            have D82 := D8.bel BB
            have G9 : W.heap.size ≤ X3.heap.size := T.size
            have D92 : Duo2 X4 X3.heap.size 54 0 0 := hY ▸ duo2_alloc X3 _ 0 0
            have HNE : X2.heap.size ≠ X3.heap.size := by have := D8.lt; omega
            rw [hY]
            clear hY
            obtain ⟨e0, e1⟩ := KB2.cells
            refine hK.out _ _ ?_ ?_
            · exact ⟨e0, e1⟩
            intro hHeld
            clear hK K BB KB T D8
            have KB := KB2
            have T := T2
            clear KB2 T2 e0 e1
            have D8 := D82
            clear D82
            have D9 := D92
            clear D92
            (try simp only [Act.put, List.setIfInBounds_toArray, List.set_cons_zero, List.set_cons_succ])
            obtain ⟨e0, e1⟩ := D8.cells
            have f0 := D8.open_ 0
            have f1 := D8.open_ 1
            have hb8 := D8.apart KB (by decide)
            have hb9 := D9.apart KB (by decide)
            have KB2 := KB.past hb8 (.int .i64 (x : Int)) (.int .i64 (y : Int))
            have D82 := D8.put (x : Int) (y : Int)
            have D92 := D9.past HNE (.int .i64 (x : Int)) (.int .i64 (y : Int))
            have T2 := put_below2 T (show W.heap.size ≤ X2.heap.size by omega) (.int .i64 (x : Int)) (.int .i64 (y : Int))
            refine wpAnyH_ready (rs := [8]) (by kernel_rfl) (by simp) ?_
            refine AllReadyH.cons rfl (fun K hK => ?_) AllReadyH.nil
            go_simp
            obtain ⟨Y, hY⟩ : ∃ Y, (X4.setCell ⟨X2.heap.size, 0, none⟩ (.int .i64 (x : Int))).setCell ⟨X2.heap.size, 1, none⟩ (.int .i64 (y : Int)) = Y := ⟨_, rfl⟩
            rw [hY] at KB2 D82 D92 T2
            rw [hY]
            obtain ⟨h0, h1⟩ := KB2.cells
            refine hK.out _ _ ?_ ?_
            · exact ⟨h0, h1⟩
            intro hHeld
            clear hK K hY e0 e1 f0 f1 KB T D8 D9 h0 h1
            (try simp only [Act.put, List.setIfInBounds_toArray, List.set_cons_zero, List.set_cons_succ])
            obtain ⟨e0, e1⟩ := D92.cells
            have f0 := D92.open_ 0
            have f1 := D92.open_ 1
            have KB3 := KB2.past hb9 (.int .i64 (p : Int)) (.int .i64 (q : Int))
            have D93 := D92.put (p : Int) (q : Int)
            have D83 := D82.past (Ne.symm HNE) (.int .i64 (p : Int)) (.int .i64 (q : Int))
            have T3 := put_below2 T2 (show W.heap.size ≤ X3.heap.size by omega) (.int .i64 (p : Int)) (.int .i64 (q : Int))
            refine wpAnyH_ready (rs := [9]) (by kernel_rfl) (by simp) ?_
            refine AllReadyH.cons rfl (fun K hK => ?_) AllReadyH.nil
            go_simp
            obtain ⟨Z, hZ⟩ : ∃ Z, (Y.setCell ⟨X3.heap.size, 0, none⟩ (.int .i64 (p : Int))).setCell ⟨X3.heap.size, 1, none⟩ (.int .i64 (q : Int)) = Z := ⟨_, rfl⟩
            rw [hZ] at KB3 D83 D93 T3
            rw [hZ]
            obtain ⟨h0, h1⟩ := KB3.cells
            refine hK.out _ _ ?_ ?_
            · exact ⟨h0, h1⟩
            intro hHeld
            clear hK K hZ e0 e1 f0 f1 KB2 T2 D82 D92 h0 h1
            (try simp only [Act.put, List.setIfInBounds_toArray, List.set_cons_zero, List.set_cons_succ])
            refine wpAnyH_done (by kernel_rfl) ?_ _
            go_wp2_with (fail)
            go_meet
            exact ⟨_, _, rfl, rfl, D83, D93, KB3, T3⟩
        · go_simp
          obtain ⟨X5, hY⟩ : ∃ Y, X2.alloc (.cells #[.int .i64 0, .int .i64 0] 54) = Y := ⟨_, rfl⟩
          have BB : Below X2.heap.size X2 X5 := hY ▸ below_alloc16 X2 _
          have KB2 := KB.bel BB
          have T2 := T.trans (BB.mono (by have := T.size; omega))
          have G9 : W.heap.size ≤ X2.heap.size := T.size
          have D92 : Duo2 X5 X2.heap.size 54 0 0 := hY ▸ duo2_alloc X2 _ 0 0
          rw [hY]
          clear hY
          obtain ⟨e0, e1⟩ := KB2.cells
          refine hK.out _ _ ?_ ?_
          · exact ⟨e0, e1⟩
          intro hHeld
          clear hK K BB KB T
          have KB := KB2
          have T := T2
          clear KB2 T2 e0 e1
          have D9 := D92
          clear D92
          (try simp only [Act.put, List.setIfInBounds_toArray, List.set_cons_zero, List.set_cons_succ])
          refine wpAnyH_ready (rs := [6]) (by kernel_rfl) (by simp) ?_
          refine AllReadyH.cons rfl (fun K hK => ?_) AllReadyH.nil
          · go_simp
            obtain ⟨X6, hY⟩ : ∃ Y, X5.alloc (.cells #[.int .i64 0, .int .i64 0] 54) = Y := ⟨_, rfl⟩
            have BB : Below X5.heap.size X5 X6 := hY ▸ below_alloc16 X5 _
            have KB2 := KB.bel BB
            have T2 := T.trans (BB.mono (by have := T.size; omega))
            have D92 := D9.bel BB
            have G8 : W.heap.size ≤ X5.heap.size := T.size
            have D82 : Duo2 X6 X5.heap.size 54 0 0 := hY ▸ duo2_alloc X5 _ 0 0
            have HNE : X5.heap.size ≠ X2.heap.size := by have := D9.lt; omega
            rw [hY]
            clear hY
            obtain ⟨e0, e1⟩ := KB2.cells
            refine hK.out _ _ ?_ ?_
            · exact ⟨e0, e1⟩
            intro hHeld
            clear hK K BB KB T D9
            have KB := KB2
            have T := T2
            clear KB2 T2 e0 e1
            have D8 := D82
            clear D82
            have D9 := D92
            clear D92
            (try simp only [Act.put, List.setIfInBounds_toArray, List.set_cons_zero, List.set_cons_succ])
            obtain ⟨e0, e1⟩ := D8.cells
            have f0 := D8.open_ 0
            have f1 := D8.open_ 1
            have hb8 := D8.apart KB (by decide)
            have hb9 := D9.apart KB (by decide)
            have KB2 := KB.past hb8 (.int .i64 (x : Int)) (.int .i64 (y : Int))
            have D82 := D8.put (x : Int) (y : Int)
            have D92 := D9.past HNE (.int .i64 (x : Int)) (.int .i64 (y : Int))
            have T2 := put_below2 T (show W.heap.size ≤ X5.heap.size by omega) (.int .i64 (x : Int)) (.int .i64 (y : Int))
            refine wpAnyH_ready (rs := [8]) (by kernel_rfl) (by simp) ?_
            refine AllReadyH.cons rfl (fun K hK => ?_) AllReadyH.nil
            go_simp
            obtain ⟨Y, hY⟩ : ∃ Y, (X6.setCell ⟨X5.heap.size, 0, none⟩ (.int .i64 (x : Int))).setCell ⟨X5.heap.size, 1, none⟩ (.int .i64 (y : Int)) = Y := ⟨_, rfl⟩
            rw [hY] at KB2 D82 D92 T2
            rw [hY]
            obtain ⟨h0, h1⟩ := KB2.cells
            refine hK.out _ _ ?_ ?_
            · exact ⟨h0, h1⟩
            intro hHeld
            clear hK K hY e0 e1 f0 f1 KB T D8 D9 h0 h1
            (try simp only [Act.put, List.setIfInBounds_toArray, List.set_cons_zero, List.set_cons_succ])
            obtain ⟨e0, e1⟩ := D92.cells
            have f0 := D92.open_ 0
            have f1 := D92.open_ 1
            have KB3 := KB2.past hb9 (.int .i64 (p : Int)) (.int .i64 (q : Int))
            have D93 := D92.put (p : Int) (q : Int)
            have D83 := D82.past (Ne.symm HNE) (.int .i64 (p : Int)) (.int .i64 (q : Int))
            have T3 := put_below2 T2 (show W.heap.size ≤ X2.heap.size by omega) (.int .i64 (p : Int)) (.int .i64 (q : Int))
            refine wpAnyH_ready (rs := [9]) (by kernel_rfl) (by simp) ?_
            refine AllReadyH.cons rfl (fun K hK => ?_) AllReadyH.nil
            go_simp
            obtain ⟨Z, hZ⟩ : ∃ Z, (Y.setCell ⟨X2.heap.size, 0, none⟩ (.int .i64 (p : Int))).setCell ⟨X2.heap.size, 1, none⟩ (.int .i64 (q : Int)) = Z := ⟨_, rfl⟩
            rw [hZ] at KB3 D83 D93 T3
            rw [hZ]
            obtain ⟨h0, h1⟩ := KB3.cells
            refine hK.out _ _ ?_ ?_
            · exact ⟨h0, h1⟩
            intro hHeld
            clear hK K hZ e0 e1 f0 f1 KB2 T2 D82 D92 h0 h1
            (try simp only [Act.put, List.setIfInBounds_toArray, List.set_cons_zero, List.set_cons_succ])
            refine wpAnyH_done (by kernel_rfl) ?_ _
            go_wp2_with (fail)
            go_meet
            exact ⟨_, _, rfl, rfl, D83, D93, KB3, T3⟩
      · go_simp
        obtain ⟨X7, hY⟩ : ∃ Y, X1.alloc (.cells #[.int .i64 0, .int .i64 0] 54) = Y := ⟨_, rfl⟩
        have BB : Below X1.heap.size X1 X7 := hY ▸ below_alloc16 X1 _
        have KB2 := KB.bel BB
        have T2 := T.trans (BB.mono (by have := T.size; omega))
        have G8 : W.heap.size ≤ X1.heap.size := T.size
        have D82 : Duo2 X7 X1.heap.size 54 0 0 := hY ▸ duo2_alloc X1 _ 0 0
        rw [hY]
        clear hY
        obtain ⟨e0, e1⟩ := KB2.cells
        refine hK.out _ _ ?_ ?_
        · exact ⟨e0, e1⟩
        intro hHeld
        clear hK K BB KB T
        have KB := KB2
        have T := T2
        clear KB2 T2 e0 e1
        have D8 := D82
        clear D82
        (try simp only [Act.put, List.setIfInBounds_toArray, List.set_cons_zero, List.set_cons_succ])
        refine wpAnyH_ready (rs := [5, 7]) (by kernel_rfl) (by simp) ?_
        refine AllReadyH.cons rfl (fun K hK => ?_) (AllReadyH.cons rfl (fun K hK => ?_) AllReadyH.nil)
        · go_simp
          go_at_call 49
          refine (S2.out _).mono ?_
          rintro e X8 ⟨rfl, BB⟩
          have KB2 := KB.bel BB
          have T2 := T.trans (BB.mono (by have := T.size; omega))
          have D82 := D8.bel BB
          obtain ⟨e0, e1⟩ := KB2.cells
          refine hK.out _ _ ?_ ?_
          · exact ⟨e0, e1⟩
          intro hHeld
          clear hK K BB KB T D8
          have KB := KB2
          have T := T2
          clear KB2 T2 e0 e1
          have D8 := D82
          clear D82
          (try simp only [Act.put, List.setIfInBounds_toArray, List.set_cons_zero, List.set_cons_succ])
          refine wpAnyH_ready (rs := [7]) (by kernel_rfl) (by simp) ?_
          refine AllReadyH.cons rfl (fun K hK => ?_) AllReadyH.nil
          · go_simp
            obtain ⟨X9, hY⟩ : ∃ Y, X8.alloc (.cells #[.int .i64 0, .int .i64 0] 54) = Y := ⟨_, rfl⟩
            have BB : Below X8.heap.size X8 X9 := hY ▸ below_alloc16 X8 _
            have KB2 := KB.bel BB
            have T2 := T.trans (BB.mono (by have := T.size; omega))
            have D82 := D8.bel BB
            have G9 : W.heap.size ≤ X8.heap.size := T.size
            have D92 : Duo2 X9 X8.heap.size 54 0 0 := hY ▸ duo2_alloc X8 _ 0 0
            have HNE : X1.heap.size ≠ X8.heap.size := by have := D8.lt; omega
            rw [hY]
            clear hY
            obtain ⟨e0, e1⟩ := KB2.cells
            refine hK.out _ _ ?_ ?_
            · exact ⟨e0, e1⟩
            intro hHeld
            clear hK K BB KB T D8
            have KB := KB2
            have T := T2
            clear KB2 T2 e0 e1
            have D8 := D82
            clear D82
            have D9 := D92
            clear D92
            (try simp only [Act.put, List.setIfInBounds_toArray, List.set_cons_zero, List.set_cons_succ])
            obtain ⟨e0, e1⟩ := D8.cells
            have f0 := D8.open_ 0
            have f1 := D8.open_ 1
            have hb8 := D8.apart KB (by decide)
            have hb9 := D9.apart KB (by decide)
            have KB2 := KB.past hb8 (.int .i64 (x : Int)) (.int .i64 (y : Int))
            have D82 := D8.put (x : Int) (y : Int)
            have D92 := D9.past HNE (.int .i64 (x : Int)) (.int .i64 (y : Int))
            have T2 := put_below2 T (show W.heap.size ≤ X1.heap.size by omega) (.int .i64 (x : Int)) (.int .i64 (y : Int))
            refine wpAnyH_ready (rs := [8]) (by kernel_rfl) (by simp) ?_
            refine AllReadyH.cons rfl (fun K hK => ?_) AllReadyH.nil
            go_simp
            obtain ⟨Y, hY⟩ : ∃ Y, (X9.setCell ⟨X1.heap.size, 0, none⟩ (.int .i64 (x : Int))).setCell ⟨X1.heap.size, 1, none⟩ (.int .i64 (y : Int)) = Y := ⟨_, rfl⟩
            rw [hY] at KB2 D82 D92 T2
            rw [hY]
            obtain ⟨h0, h1⟩ := KB2.cells
            refine hK.out _ _ ?_ ?_
            · exact ⟨h0, h1⟩
            intro hHeld
            clear hK K hY e0 e1 f0 f1 KB T D8 D9 h0 h1
            (try simp only [Act.put, List.setIfInBounds_toArray, List.set_cons_zero, List.set_cons_succ])
            obtain ⟨e0, e1⟩ := D92.cells
            have f0 := D92.open_ 0
            have f1 := D92.open_ 1
            have KB3 := KB2.past hb9 (.int .i64 (p : Int)) (.int .i64 (q : Int))
            have D93 := D92.put (p : Int) (q : Int)
            have D83 := D82.past (Ne.symm HNE) (.int .i64 (p : Int)) (.int .i64 (q : Int))
            have T3 := put_below2 T2 (show W.heap.size ≤ X8.heap.size by omega) (.int .i64 (p : Int)) (.int .i64 (q : Int))
            refine wpAnyH_ready (rs := [9]) (by kernel_rfl) (by simp) ?_
            refine AllReadyH.cons rfl (fun K hK => ?_) AllReadyH.nil
            go_simp
            obtain ⟨Z, hZ⟩ : ∃ Z, (Y.setCell ⟨X8.heap.size, 0, none⟩ (.int .i64 (p : Int))).setCell ⟨X8.heap.size, 1, none⟩ (.int .i64 (q : Int)) = Z := ⟨_, rfl⟩
            rw [hZ] at KB3 D83 D93 T3
            rw [hZ]
            obtain ⟨h0, h1⟩ := KB3.cells
            refine hK.out _ _ ?_ ?_
            · exact ⟨h0, h1⟩
            intro hHeld
            clear hK K hZ e0 e1 f0 f1 KB2 T2 D82 D92 h0 h1
            (try simp only [Act.put, List.setIfInBounds_toArray, List.set_cons_zero, List.set_cons_succ])
            refine wpAnyH_done (by kernel_rfl) ?_ _
            go_wp2_with (fail)
            go_meet
            exact ⟨_, _, rfl, rfl, D83, D93, KB3, T3⟩
        · go_simp
          obtain ⟨X10, hY⟩ : ∃ Y, X7.alloc (.cells #[.int .i64 0, .int .i64 0] 54) = Y := ⟨_, rfl⟩
          have BB : Below X7.heap.size X7 X10 := hY ▸ below_alloc16 X7 _
          have KB2 := KB.bel BB
          have T2 := T.trans (BB.mono (by have := T.size; omega))
          have D82 := D8.bel BB
          have G9 : W.heap.size ≤ X7.heap.size := T.size
          have D92 : Duo2 X10 X7.heap.size 54 0 0 := hY ▸ duo2_alloc X7 _ 0 0
          have HNE : X1.heap.size ≠ X7.heap.size := by have := D8.lt; omega
          rw [hY]
          clear hY
          obtain ⟨e0, e1⟩ := KB2.cells
          refine hK.out _ _ ?_ ?_
          · exact ⟨e0, e1⟩
          intro hHeld
          clear hK K BB KB T D8
          have KB := KB2
          have T := T2
          clear KB2 T2 e0 e1
          have D8 := D82
          clear D82
          have D9 := D92
          clear D92
          (try simp only [Act.put, List.setIfInBounds_toArray, List.set_cons_zero, List.set_cons_succ])
          refine wpAnyH_ready (rs := [5]) (by kernel_rfl) (by simp) ?_
          refine AllReadyH.cons rfl (fun K hK => ?_) AllReadyH.nil
          · go_simp
            go_at_call 49
            refine (S2.out _).mono ?_
            rintro e X11 ⟨rfl, BB⟩
            have KB2 := KB.bel BB
            have T2 := T.trans (BB.mono (by have := T.size; omega))
            have D82 := D8.bel BB
            have D92 := D9.bel BB
            obtain ⟨e0, e1⟩ := KB2.cells
            refine hK.out _ _ ?_ ?_
            · exact ⟨e0, e1⟩
            intro hHeld
            clear hK K BB KB T D8 D9
            have KB := KB2
            have T := T2
            clear KB2 T2 e0 e1
            have D8 := D82
            clear D82
            have D9 := D92
            clear D92
            (try simp only [Act.put, List.setIfInBounds_toArray, List.set_cons_zero, List.set_cons_succ])
            obtain ⟨e0, e1⟩ := D8.cells
            have f0 := D8.open_ 0
            have f1 := D8.open_ 1
            have hb8 := D8.apart KB (by decide)
            have hb9 := D9.apart KB (by decide)
            have KB2 := KB.past hb8 (.int .i64 (x : Int)) (.int .i64 (y : Int))
            have D82 := D8.put (x : Int) (y : Int)
            have D92 := D9.past HNE (.int .i64 (x : Int)) (.int .i64 (y : Int))
            have T2 := put_below2 T (show W.heap.size ≤ X1.heap.size by omega) (.int .i64 (x : Int)) (.int .i64 (y : Int))
            refine wpAnyH_ready (rs := [8]) (by kernel_rfl) (by simp) ?_
            refine AllReadyH.cons rfl (fun K hK => ?_) AllReadyH.nil
            go_simp
            obtain ⟨Y, hY⟩ : ∃ Y, (X11.setCell ⟨X1.heap.size, 0, none⟩ (.int .i64 (x : Int))).setCell ⟨X1.heap.size, 1, none⟩ (.int .i64 (y : Int)) = Y := ⟨_, rfl⟩
            rw [hY] at KB2 D82 D92 T2
            rw [hY]
            obtain ⟨h0, h1⟩ := KB2.cells
            refine hK.out _ _ ?_ ?_
            · exact ⟨h0, h1⟩
            intro hHeld
            clear hK K hY e0 e1 f0 f1 KB T D8 D9 h0 h1
            (try simp only [Act.put, List.setIfInBounds_toArray, List.set_cons_zero, List.set_cons_succ])
            obtain ⟨e0, e1⟩ := D92.cells
            have f0 := D92.open_ 0
            have f1 := D92.open_ 1
            have KB3 := KB2.past hb9 (.int .i64 (p : Int)) (.int .i64 (q : Int))
            have D93 := D92.put (p : Int) (q : Int)
            have D83 := D82.past (Ne.symm HNE) (.int .i64 (p : Int)) (.int .i64 (q : Int))
            have T3 := put_below2 T2 (show W.heap.size ≤ X7.heap.size by omega) (.int .i64 (p : Int)) (.int .i64 (q : Int))
            refine wpAnyH_ready (rs := [9]) (by kernel_rfl) (by simp) ?_
            refine AllReadyH.cons rfl (fun K hK => ?_) AllReadyH.nil
            go_simp
            obtain ⟨Z, hZ⟩ : ∃ Z, (Y.setCell ⟨X7.heap.size, 0, none⟩ (.int .i64 (p : Int))).setCell ⟨X7.heap.size, 1, none⟩ (.int .i64 (q : Int)) = Z := ⟨_, rfl⟩
            rw [hZ] at KB3 D83 D93 T3
            rw [hZ]
            obtain ⟨h0, h1⟩ := KB3.cells
            refine hK.out _ _ ?_ ?_
            · exact ⟨h0, h1⟩
            intro hHeld
            clear hK K hZ e0 e1 f0 f1 KB2 T2 D82 D92 h0 h1
            (try simp only [Act.put, List.setIfInBounds_toArray, List.set_cons_zero, List.set_cons_succ])
            refine wpAnyH_done (by kernel_rfl) ?_ _
            go_wp2_with (fail)
            go_meet
            exact ⟨_, _, rfl, rfl, D83, D93, KB3, T3⟩
      · go_simp
        obtain ⟨X12, hY⟩ : ∃ Y, X1.alloc (.cells #[.int .i64 0, .int .i64 0] 54) = Y := ⟨_, rfl⟩
        have BB : Below X1.heap.size X1 X12 := hY ▸ below_alloc16 X1 _
        have KB2 := KB.bel BB
        have T2 := T.trans (BB.mono (by have := T.size; omega))
        have G9 : W.heap.size ≤ X1.heap.size := T.size
        have D92 : Duo2 X12 X1.heap.size 54 0 0 := hY ▸ duo2_alloc X1 _ 0 0
        rw [hY]
        clear hY
        obtain ⟨e0, e1⟩ := KB2.cells
        refine hK.out _ _ ?_ ?_
        · exact ⟨e0, e1⟩
        intro hHeld
        clear hK K BB KB T
        have KB := KB2
        have T := T2
        clear KB2 T2 e0 e1
        have D9 := D92
        clear D92
        (try simp only [Act.put, List.setIfInBounds_toArray, List.set_cons_zero, List.set_cons_succ])
        refine wpAnyH_ready (rs := [5, 6]) (by kernel_rfl) (by simp) ?_
        refine AllReadyH.cons rfl (fun K hK => ?_) (AllReadyH.cons rfl (fun K hK => ?_) AllReadyH.nil)
        · go_simp
          go_at_call 49
          refine (S2.out _).mono ?_
          rintro e X13 ⟨rfl, BB⟩
          have KB2 := KB.bel BB
          have T2 := T.trans (BB.mono (by have := T.size; omega))
          have D92 := D9.bel BB
          obtain ⟨e0, e1⟩ := KB2.cells
          refine hK.out _ _ ?_ ?_
          · exact ⟨e0, e1⟩
          intro hHeld
          clear hK K BB KB T D9
          have KB := KB2
          have T := T2
          clear KB2 T2 e0 e1
          have D9 := D92
          clear D92
          (try simp only [Act.put, List.setIfInBounds_toArray, List.set_cons_zero, List.set_cons_succ])
          refine wpAnyH_ready (rs := [6]) (by kernel_rfl) (by simp) ?_
          refine AllReadyH.cons rfl (fun K hK => ?_) AllReadyH.nil
          · go_simp
            obtain ⟨X14, hY⟩ : ∃ Y, X13.alloc (.cells #[.int .i64 0, .int .i64 0] 54) = Y := ⟨_, rfl⟩
            have BB : Below X13.heap.size X13 X14 := hY ▸ below_alloc16 X13 _
            have KB2 := KB.bel BB
            have T2 := T.trans (BB.mono (by have := T.size; omega))
            have D92 := D9.bel BB
            have G8 : W.heap.size ≤ X13.heap.size := T.size
            have D82 : Duo2 X14 X13.heap.size 54 0 0 := hY ▸ duo2_alloc X13 _ 0 0
            have HNE : X13.heap.size ≠ X1.heap.size := by have := D9.lt; omega
            rw [hY]
            clear hY
            obtain ⟨e0, e1⟩ := KB2.cells
            refine hK.out _ _ ?_ ?_
            · exact ⟨e0, e1⟩
            intro hHeld
            clear hK K BB KB T D9
            have KB := KB2
            have T := T2
            clear KB2 T2 e0 e1
            have D8 := D82
            clear D82
            have D9 := D92
            clear D92
            (try simp only [Act.put, List.setIfInBounds_toArray, List.set_cons_zero, List.set_cons_succ])
            obtain ⟨e0, e1⟩ := D8.cells
            have f0 := D8.open_ 0
            have f1 := D8.open_ 1
            have hb8 := D8.apart KB (by decide)
            have hb9 := D9.apart KB (by decide)
            have KB2 := KB.past hb8 (.int .i64 (x : Int)) (.int .i64 (y : Int))
            have D82 := D8.put (x : Int) (y : Int)
            have D92 := D9.past HNE (.int .i64 (x : Int)) (.int .i64 (y : Int))
            have T2 := put_below2 T (show W.heap.size ≤ X13.heap.size by omega) (.int .i64 (x : Int)) (.int .i64 (y : Int))
            refine wpAnyH_ready (rs := [8]) (by kernel_rfl) (by simp) ?_
            refine AllReadyH.cons rfl (fun K hK => ?_) AllReadyH.nil
            go_simp
            obtain ⟨Y, hY⟩ : ∃ Y, (X14.setCell ⟨X13.heap.size, 0, none⟩ (.int .i64 (x : Int))).setCell ⟨X13.heap.size, 1, none⟩ (.int .i64 (y : Int)) = Y := ⟨_, rfl⟩
            rw [hY] at KB2 D82 D92 T2
            rw [hY]
            obtain ⟨h0, h1⟩ := KB2.cells
            refine hK.out _ _ ?_ ?_
            · exact ⟨h0, h1⟩
            intro hHeld
            clear hK K hY e0 e1 f0 f1 KB T D8 D9 h0 h1
            (try simp only [Act.put, List.setIfInBounds_toArray, List.set_cons_zero, List.set_cons_succ])
            obtain ⟨e0, e1⟩ := D92.cells
            have f0 := D92.open_ 0
            have f1 := D92.open_ 1
            have KB3 := KB2.past hb9 (.int .i64 (p : Int)) (.int .i64 (q : Int))
            have D93 := D92.put (p : Int) (q : Int)
            have D83 := D82.past (Ne.symm HNE) (.int .i64 (p : Int)) (.int .i64 (q : Int))
            have T3 := put_below2 T2 (show W.heap.size ≤ X1.heap.size by omega) (.int .i64 (p : Int)) (.int .i64 (q : Int))
            refine wpAnyH_ready (rs := [9]) (by kernel_rfl) (by simp) ?_
            refine AllReadyH.cons rfl (fun K hK => ?_) AllReadyH.nil
            go_simp
            obtain ⟨Z, hZ⟩ : ∃ Z, (Y.setCell ⟨X1.heap.size, 0, none⟩ (.int .i64 (p : Int))).setCell ⟨X1.heap.size, 1, none⟩ (.int .i64 (q : Int)) = Z := ⟨_, rfl⟩
            rw [hZ] at KB3 D83 D93 T3
            rw [hZ]
            obtain ⟨h0, h1⟩ := KB3.cells
            refine hK.out _ _ ?_ ?_
            · exact ⟨h0, h1⟩
            intro hHeld
            clear hK K hZ e0 e1 f0 f1 KB2 T2 D82 D92 h0 h1
            (try simp only [Act.put, List.setIfInBounds_toArray, List.set_cons_zero, List.set_cons_succ])
            refine wpAnyH_done (by kernel_rfl) ?_ _
            go_wp2_with (fail)
            go_meet
            exact ⟨_, _, rfl, rfl, D83, D93, KB3, T3⟩
        · go_simp
          obtain ⟨X15, hY⟩ : ∃ Y, X12.alloc (.cells #[.int .i64 0, .int .i64 0] 54) = Y := ⟨_, rfl⟩
          have BB : Below X12.heap.size X12 X15 := hY ▸ below_alloc16 X12 _
          have KB2 := KB.bel BB
          have T2 := T.trans (BB.mono (by have := T.size; omega))
          have D92 := D9.bel BB
          have G8 : W.heap.size ≤ X12.heap.size := T.size
          have D82 : Duo2 X15 X12.heap.size 54 0 0 := hY ▸ duo2_alloc X12 _ 0 0
          have HNE : X12.heap.size ≠ X1.heap.size := by have := D9.lt; omega
          rw [hY]
          clear hY
          obtain ⟨e0, e1⟩ := KB2.cells
          refine hK.out _ _ ?_ ?_
          · exact ⟨e0, e1⟩
          intro hHeld
          clear hK K BB KB T D9
          have KB := KB2
          have T := T2
          clear KB2 T2 e0 e1
          have D8 := D82
          clear D82
          have D9 := D92
          clear D92
          (try simp only [Act.put, List.setIfInBounds_toArray, List.set_cons_zero, List.set_cons_succ])
          refine wpAnyH_ready (rs := [5]) (by kernel_rfl) (by simp) ?_
          refine AllReadyH.cons rfl (fun K hK => ?_) AllReadyH.nil
          · go_simp
            go_at_call 49
            refine (S2.out _).mono ?_
            rintro e X16 ⟨rfl, BB⟩
            have KB2 := KB.bel BB
            have T2 := T.trans (BB.mono (by have := T.size; omega))
            have D82 := D8.bel BB
            have D92 := D9.bel BB
            obtain ⟨e0, e1⟩ := KB2.cells
            refine hK.out _ _ ?_ ?_
            · exact ⟨e0, e1⟩
            intro hHeld
            clear hK K BB KB T D8 D9
            have KB := KB2
            have T := T2
            clear KB2 T2 e0 e1
            have D8 := D82
            clear D82
            have D9 := D92
            clear D92
            (try simp only [Act.put, List.setIfInBounds_toArray, List.set_cons_zero, List.set_cons_succ])
            obtain ⟨e0, e1⟩ := D8.cells
            have f0 := D8.open_ 0
            have f1 := D8.open_ 1
            have hb8 := D8.apart KB (by decide)
            have hb9 := D9.apart KB (by decide)
            have KB2 := KB.past hb8 (.int .i64 (x : Int)) (.int .i64 (y : Int))
            have D82 := D8.put (x : Int) (y : Int)
            have D92 := D9.past HNE (.int .i64 (x : Int)) (.int .i64 (y : Int))
            have T2 := put_below2 T (show W.heap.size ≤ X12.heap.size by omega) (.int .i64 (x : Int)) (.int .i64 (y : Int))
            refine wpAnyH_ready (rs := [8]) (by kernel_rfl) (by simp) ?_
            refine AllReadyH.cons rfl (fun K hK => ?_) AllReadyH.nil
            go_simp
            obtain ⟨Y, hY⟩ : ∃ Y, (X16.setCell ⟨X12.heap.size, 0, none⟩ (.int .i64 (x : Int))).setCell ⟨X12.heap.size, 1, none⟩ (.int .i64 (y : Int)) = Y := ⟨_, rfl⟩
            rw [hY] at KB2 D82 D92 T2
            rw [hY]
            obtain ⟨h0, h1⟩ := KB2.cells
            refine hK.out _ _ ?_ ?_
            · exact ⟨h0, h1⟩
            intro hHeld
            clear hK K hY e0 e1 f0 f1 KB T D8 D9 h0 h1
            (try simp only [Act.put, List.setIfInBounds_toArray, List.set_cons_zero, List.set_cons_succ])
            obtain ⟨e0, e1⟩ := D92.cells
            have f0 := D92.open_ 0
            have f1 := D92.open_ 1
            have KB3 := KB2.past hb9 (.int .i64 (p : Int)) (.int .i64 (q : Int))
            have D93 := D92.put (p : Int) (q : Int)
            have D83 := D82.past (Ne.symm HNE) (.int .i64 (p : Int)) (.int .i64 (q : Int))
            have T3 := put_below2 T2 (show W.heap.size ≤ X1.heap.size by omega) (.int .i64 (p : Int)) (.int .i64 (q : Int))
            refine wpAnyH_ready (rs := [9]) (by kernel_rfl) (by simp) ?_
            refine AllReadyH.cons rfl (fun K hK => ?_) AllReadyH.nil
            go_simp
            obtain ⟨Z, hZ⟩ : ∃ Z, (Y.setCell ⟨X1.heap.size, 0, none⟩ (.int .i64 (p : Int))).setCell ⟨X1.heap.size, 1, none⟩ (.int .i64 (q : Int)) = Z := ⟨_, rfl⟩
            rw [hZ] at KB3 D83 D93 T3
            rw [hZ]
            obtain ⟨h0, h1⟩ := KB3.cells
            refine hK.out _ _ ?_ ?_
            · exact ⟨h0, h1⟩
            intro hHeld
            clear hK K hZ e0 e1 f0 f1 KB2 T2 D82 D92 h0 h1
            (try simp only [Act.put, List.setIfInBounds_toArray, List.set_cons_zero, List.set_cons_succ])
            refine wpAnyH_done (by kernel_rfl) ?_ _
            go_wp2_with (fail)
            go_meet
            exact ⟨_, _, rfl, rfl, D83, D93, KB3, T3⟩
    · go_simp
      obtain ⟨X17, hY⟩ : ∃ Y, X0.alloc (.cells #[.int .i64 0, .int .i64 0] 54) = Y := ⟨_, rfl⟩
      have BB : Below X0.heap.size X0 X17 := hY ▸ below_alloc16 X0 _
      have KB2 := KB.bel BB
      have T2 := T.trans (BB.mono (by have := T.size; omega))
      have G8 : W.heap.size ≤ X0.heap.size := T.size
      have D82 : Duo2 X17 X0.heap.size 54 0 0 := hY ▸ duo2_alloc X0 _ 0 0
      rw [hY]
      clear hY
      obtain ⟨e0, e1⟩ := KB2.cells
      refine hK.out _ _ ?_ ?_
      · exact ⟨e0, e1⟩
      intro hHeld
      clear hK K BB KB T
      have KB := KB2
      have T := T2
      clear KB2 T2 e0 e1
      have D8 := D82
      clear D82
      (try simp only [Act.put, List.setIfInBounds_toArray, List.set_cons_zero, List.set_cons_succ])
      refine wpAnyH_ready (rs := [2, 7]) (by kernel_rfl) (by simp) ?_
      refine AllReadyH.cons rfl (fun K hK => ?_) (AllReadyH.cons rfl (fun K hK => ?_) AllReadyH.nil)
      · go_simp
        go_at_call 49
        refine (S1.out _).mono ?_
        rintro e X18 ⟨rfl, BB⟩
        have KB2 := KB.bel BB
        have T2 := T.trans (BB.mono (by have := T.size; omega))
        have D82 := D8.bel BB
        obtain ⟨e0, e1⟩ := KB2.cells
        refine hK.out _ _ ?_ ?_
        · exact ⟨e0, e1⟩
        intro hHeld
        clear hK K BB KB T D8
        have KB := KB2
        have T := T2
        clear KB2 T2 e0 e1
        have D8 := D82
        clear D82
        (try simp only [Act.put, List.setIfInBounds_toArray, List.set_cons_zero, List.set_cons_succ])
        refine wpAnyH_ready (rs := [5, 7]) (by kernel_rfl) (by simp) ?_
        refine AllReadyH.cons rfl (fun K hK => ?_) (AllReadyH.cons rfl (fun K hK => ?_) AllReadyH.nil)
        · go_simp
          go_at_call 49
          refine (S2.out _).mono ?_
          rintro e X19 ⟨rfl, BB⟩
          have KB2 := KB.bel BB
          have T2 := T.trans (BB.mono (by have := T.size; omega))
          have D82 := D8.bel BB
          obtain ⟨e0, e1⟩ := KB2.cells
          refine hK.out _ _ ?_ ?_
          · exact ⟨e0, e1⟩
          intro hHeld
          clear hK K BB KB T D8
          have KB := KB2
          have T := T2
          clear KB2 T2 e0 e1
          have D8 := D82
          clear D82
          (try simp only [Act.put, List.setIfInBounds_toArray, List.set_cons_zero, List.set_cons_succ])
          refine wpAnyH_ready (rs := [7]) (by kernel_rfl) (by simp) ?_
          refine AllReadyH.cons rfl (fun K hK => ?_) AllReadyH.nil
          · go_simp
            obtain ⟨X20, hY⟩ : ∃ Y, X19.alloc (.cells #[.int .i64 0, .int .i64 0] 54) = Y := ⟨_, rfl⟩
            have BB : Below X19.heap.size X19 X20 := hY ▸ below_alloc16 X19 _
            have KB2 := KB.bel BB
            have T2 := T.trans (BB.mono (by have := T.size; omega))
            have D82 := D8.bel BB
            have G9 : W.heap.size ≤ X19.heap.size := T.size
            have D92 : Duo2 X20 X19.heap.size 54 0 0 := hY ▸ duo2_alloc X19 _ 0 0
            have HNE : X0.heap.size ≠ X19.heap.size := by have := D8.lt; omega
            rw [hY]
            clear hY
            obtain ⟨e0, e1⟩ := KB2.cells
            refine hK.out _ _ ?_ ?_
            · exact ⟨e0, e1⟩
            intro hHeld
            clear hK K BB KB T D8
            have KB := KB2
            have T := T2
            clear KB2 T2 e0 e1
            have D8 := D82
            clear D82
            have D9 := D92
            clear D92
            (try simp only [Act.put, List.setIfInBounds_toArray, List.set_cons_zero, List.set_cons_succ])
            obtain ⟨e0, e1⟩ := D8.cells
            have f0 := D8.open_ 0
            have f1 := D8.open_ 1
            have hb8 := D8.apart KB (by decide)
            have hb9 := D9.apart KB (by decide)
            have KB2 := KB.past hb8 (.int .i64 (x : Int)) (.int .i64 (y : Int))
            have D82 := D8.put (x : Int) (y : Int)
            have D92 := D9.past HNE (.int .i64 (x : Int)) (.int .i64 (y : Int))
            have T2 := put_below2 T (show W.heap.size ≤ X0.heap.size by omega) (.int .i64 (x : Int)) (.int .i64 (y : Int))
            refine wpAnyH_ready (rs := [8]) (by kernel_rfl) (by simp) ?_
            refine AllReadyH.cons rfl (fun K hK => ?_) AllReadyH.nil
            go_simp
            obtain ⟨Y, hY⟩ : ∃ Y, (X20.setCell ⟨X0.heap.size, 0, none⟩ (.int .i64 (x : Int))).setCell ⟨X0.heap.size, 1, none⟩ (.int .i64 (y : Int)) = Y := ⟨_, rfl⟩
            rw [hY] at KB2 D82 D92 T2
            rw [hY]
            obtain ⟨h0, h1⟩ := KB2.cells
            refine hK.out _ _ ?_ ?_
            · exact ⟨h0, h1⟩
            intro hHeld
            clear hK K hY e0 e1 f0 f1 KB T D8 D9 h0 h1
            (try simp only [Act.put, List.setIfInBounds_toArray, List.set_cons_zero, List.set_cons_succ])
            obtain ⟨e0, e1⟩ := D92.cells
            have f0 := D92.open_ 0
            have f1 := D92.open_ 1
            have KB3 := KB2.past hb9 (.int .i64 (p : Int)) (.int .i64 (q : Int))
            have D93 := D92.put (p : Int) (q : Int)
            have D83 := D82.past (Ne.symm HNE) (.int .i64 (p : Int)) (.int .i64 (q : Int))
            have T3 := put_below2 T2 (show W.heap.size ≤ X19.heap.size by omega) (.int .i64 (p : Int)) (.int .i64 (q : Int))
            refine wpAnyH_ready (rs := [9]) (by kernel_rfl) (by simp) ?_
            refine AllReadyH.cons rfl (fun K hK => ?_) AllReadyH.nil
            go_simp
            obtain ⟨Z, hZ⟩ : ∃ Z, (Y.setCell ⟨X19.heap.size, 0, none⟩ (.int .i64 (p : Int))).setCell ⟨X19.heap.size, 1, none⟩ (.int .i64 (q : Int)) = Z := ⟨_, rfl⟩
            rw [hZ] at KB3 D83 D93 T3
            rw [hZ]
            obtain ⟨h0, h1⟩ := KB3.cells
            refine hK.out _ _ ?_ ?_
            · exact ⟨h0, h1⟩
            intro hHeld
            clear hK K hZ e0 e1 f0 f1 KB2 T2 D82 D92 h0 h1
            (try simp only [Act.put, List.setIfInBounds_toArray, List.set_cons_zero, List.set_cons_succ])
            refine wpAnyH_done (by kernel_rfl) ?_ _
            go_wp2_with (fail)
            go_meet
            exact ⟨_, _, rfl, rfl, D83, D93, KB3, T3⟩
        · go_simp
          obtain ⟨X21, hY⟩ : ∃ Y, X18.alloc (.cells #[.int .i64 0, .int .i64 0] 54) = Y := ⟨_, rfl⟩
          have BB : Below X18.heap.size X18 X21 := hY ▸ below_alloc16 X18 _
          have KB2 := KB.bel BB
          have T2 := T.trans (BB.mono (by have := T.size; omega))
          have D82 := D8.bel BB
          have G9 : W.heap.size ≤ X18.heap.size := T.size
          have D92 : Duo2 X21 X18.heap.size 54 0 0 := hY ▸ duo2_alloc X18 _ 0 0
          have HNE : X0.heap.size ≠ X18.heap.size := by have := D8.lt; omega
          rw [hY]
          clear hY
          obtain ⟨e0, e1⟩ := KB2.cells
          refine hK.out _ _ ?_ ?_
          · exact ⟨e0, e1⟩
          intro hHeld
          clear hK K BB KB T D8
          have KB := KB2
          have T := T2
          clear KB2 T2 e0 e1
          have D8 := D82
          clear D82
          have D9 := D92
          clear D92
          (try simp only [Act.put, List.setIfInBounds_toArray, List.set_cons_zero, List.set_cons_succ])
          refine wpAnyH_ready (rs := [5]) (by kernel_rfl) (by simp) ?_
          refine AllReadyH.cons rfl (fun K hK => ?_) AllReadyH.nil
          · go_simp
            go_at_call 49
            refine (S2.out _).mono ?_
            rintro e X22 ⟨rfl, BB⟩
            have KB2 := KB.bel BB
            have T2 := T.trans (BB.mono (by have := T.size; omega))
            have D82 := D8.bel BB
            have D92 := D9.bel BB
            obtain ⟨e0, e1⟩ := KB2.cells
            refine hK.out _ _ ?_ ?_
            · exact ⟨e0, e1⟩
            intro hHeld
            clear hK K BB KB T D8 D9
            have KB := KB2
            have T := T2
            clear KB2 T2 e0 e1
            have D8 := D82
            clear D82
            have D9 := D92
            clear D92
            (try simp only [Act.put, List.setIfInBounds_toArray, List.set_cons_zero, List.set_cons_succ])
            obtain ⟨e0, e1⟩ := D8.cells
            have f0 := D8.open_ 0
            have f1 := D8.open_ 1
            have hb8 := D8.apart KB (by decide)
            have hb9 := D9.apart KB (by decide)
            have KB2 := KB.past hb8 (.int .i64 (x : Int)) (.int .i64 (y : Int))
            have D82 := D8.put (x : Int) (y : Int)
            have D92 := D9.past HNE (.int .i64 (x : Int)) (.int .i64 (y : Int))
            have T2 := put_below2 T (show W.heap.size ≤ X0.heap.size by omega) (.int .i64 (x : Int)) (.int .i64 (y : Int))
            refine wpAnyH_ready (rs := [8]) (by kernel_rfl) (by simp) ?_
            refine AllReadyH.cons rfl (fun K hK => ?_) AllReadyH.nil
            go_simp
            obtain ⟨Y, hY⟩ : ∃ Y, (X22.setCell ⟨X0.heap.size, 0, none⟩ (.int .i64 (x : Int))).setCell ⟨X0.heap.size, 1, none⟩ (.int .i64 (y : Int)) = Y := ⟨_, rfl⟩
            rw [hY] at KB2 D82 D92 T2
            rw [hY]
            obtain ⟨h0, h1⟩ := KB2.cells
            refine hK.out _ _ ?_ ?_
            · exact ⟨h0, h1⟩
            intro hHeld
            clear hK K hY e0 e1 f0 f1 KB T D8 D9 h0 h1
            (try simp only [Act.put, List.setIfInBounds_toArray, List.set_cons_zero, List.set_cons_succ])
            obtain ⟨e0, e1⟩ := D92.cells
            have f0 := D92.open_ 0
            have f1 := D92.open_ 1
            have KB3 := KB2.past hb9 (.int .i64 (p : Int)) (.int .i64 (q : Int))
            have D93 := D92.put (p : Int) (q : Int)
            have D83 := D82.past (Ne.symm HNE) (.int .i64 (p : Int)) (.int .i64 (q : Int))
            have T3 := put_below2 T2 (show W.heap.size ≤ X18.heap.size by omega) (.int .i64 (p : Int)) (.int .i64 (q : Int))
            refine wpAnyH_ready (rs := [9]) (by kernel_rfl) (by simp) ?_
            refine AllReadyH.cons rfl (fun K hK => ?_) AllReadyH.nil
            go_simp
            obtain ⟨Z, hZ⟩ : ∃ Z, (Y.setCell ⟨X18.heap.size, 0, none⟩ (.int .i64 (p : Int))).setCell ⟨X18.heap.size, 1, none⟩ (.int .i64 (q : Int)) = Z := ⟨_, rfl⟩
            rw [hZ] at KB3 D83 D93 T3
            rw [hZ]
            obtain ⟨h0, h1⟩ := KB3.cells
            refine hK.out _ _ ?_ ?_
            · exact ⟨h0, h1⟩
            intro hHeld
            clear hK K hZ e0 e1 f0 f1 KB2 T2 D82 D92 h0 h1
            (try simp only [Act.put, List.setIfInBounds_toArray, List.set_cons_zero, List.set_cons_succ])
            refine wpAnyH_done (by kernel_rfl) ?_ _
            go_wp2_with (fail)
            go_meet
            exact ⟨_, _, rfl, rfl, D83, D93, KB3, T3⟩
      · go_simp
        obtain ⟨X23, hY⟩ : ∃ Y, X17.alloc (.cells #[.int .i64 0, .int .i64 0] 54) = Y := ⟨_, rfl⟩
        have BB : Below X17.heap.size X17 X23 := hY ▸ below_alloc16 X17 _
        have KB2 := KB.bel BB
        have T2 := T.trans (BB.mono (by have := T.size; omega))
        have D82 := D8.bel BB
        have G9 : W.heap.size ≤ X17.heap.size := T.size
        have D92 : Duo2 X23 X17.heap.size 54 0 0 := hY ▸ duo2_alloc X17 _ 0 0
        have HNE : X0.heap.size ≠ X17.heap.size := by have := D8.lt; omega
        rw [hY]
        clear hY
        obtain ⟨e0, e1⟩ := KB2.cells
        refine hK.out _ _ ?_ ?_
        · exact ⟨e0, e1⟩
        intro hHeld
        clear hK K BB KB T D8
        have KB := KB2
        have T := T2
        clear KB2 T2 e0 e1
        have D8 := D82
        clear D82
        have D9 := D92
        clear D92
        (try simp only [Act.put, List.setIfInBounds_toArray, List.set_cons_zero, List.set_cons_succ])
        refine wpAnyH_ready (rs := [2]) (by kernel_rfl) (by simp) ?_
        refine AllReadyH.cons rfl (fun K hK => ?_) AllReadyH.nil
        · go_simp
          go_at_call 49
          refine (S1.out _).mono ?_
          rintro e X24 ⟨rfl, BB⟩
          have KB2 := KB.bel BB
          have T2 := T.trans (BB.mono (by have := T.size; omega))
          have D82 := D8.bel BB
          have D92 := D9.bel BB
          obtain ⟨e0, e1⟩ := KB2.cells
          refine hK.out _ _ ?_ ?_
          · exact ⟨e0, e1⟩
          intro hHeld
          clear hK K BB KB T D8 D9
          have KB := KB2
          have T := T2
          clear KB2 T2 e0 e1
          have D8 := D82
          clear D82
          have D9 := D92
          clear D92
          (try simp only [Act.put, List.setIfInBounds_toArray, List.set_cons_zero, List.set_cons_succ])
          refine wpAnyH_ready (rs := [5]) (by kernel_rfl) (by simp) ?_
          refine AllReadyH.cons rfl (fun K hK => ?_) AllReadyH.nil
          · go_simp
            go_at_call 49
            refine (S2.out _).mono ?_
            rintro e X25 ⟨rfl, BB⟩
            have KB2 := KB.bel BB
            have T2 := T.trans (BB.mono (by have := T.size; omega))
            have D82 := D8.bel BB
            have D92 := D9.bel BB
            obtain ⟨e0, e1⟩ := KB2.cells
            refine hK.out _ _ ?_ ?_
            · exact ⟨e0, e1⟩
            intro hHeld
            clear hK K BB KB T D8 D9
            have KB := KB2
            have T := T2
            clear KB2 T2 e0 e1
            have D8 := D82
            clear D82
            have D9 := D92
            clear D92
            (try simp only [Act.put, List.setIfInBounds_toArray, List.set_cons_zero, List.set_cons_succ])
            obtain ⟨e0, e1⟩ := D8.cells
            have f0 := D8.open_ 0
            have f1 := D8.open_ 1
            have hb8 := D8.apart KB (by decide)
            have hb9 := D9.apart KB (by decide)
            have KB2 := KB.past hb8 (.int .i64 (x : Int)) (.int .i64 (y : Int))
            have D82 := D8.put (x : Int) (y : Int)
            have D92 := D9.past HNE (.int .i64 (x : Int)) (.int .i64 (y : Int))
            have T2 := put_below2 T (show W.heap.size ≤ X0.heap.size by omega) (.int .i64 (x : Int)) (.int .i64 (y : Int))
            refine wpAnyH_ready (rs := [8]) (by kernel_rfl) (by simp) ?_
            refine AllReadyH.cons rfl (fun K hK => ?_) AllReadyH.nil
            go_simp
            obtain ⟨Y, hY⟩ : ∃ Y, (X25.setCell ⟨X0.heap.size, 0, none⟩ (.int .i64 (x : Int))).setCell ⟨X0.heap.size, 1, none⟩ (.int .i64 (y : Int)) = Y := ⟨_, rfl⟩
            rw [hY] at KB2 D82 D92 T2
            rw [hY]
            obtain ⟨h0, h1⟩ := KB2.cells
            refine hK.out _ _ ?_ ?_
            · exact ⟨h0, h1⟩
            intro hHeld
            clear hK K hY e0 e1 f0 f1 KB T D8 D9 h0 h1
            (try simp only [Act.put, List.setIfInBounds_toArray, List.set_cons_zero, List.set_cons_succ])
            obtain ⟨e0, e1⟩ := D92.cells
            have f0 := D92.open_ 0
            have f1 := D92.open_ 1
            have KB3 := KB2.past hb9 (.int .i64 (p : Int)) (.int .i64 (q : Int))
            have D93 := D92.put (p : Int) (q : Int)
            have D83 := D82.past (Ne.symm HNE) (.int .i64 (p : Int)) (.int .i64 (q : Int))
            have T3 := put_below2 T2 (show W.heap.size ≤ X17.heap.size by omega) (.int .i64 (p : Int)) (.int .i64 (q : Int))
            refine wpAnyH_ready (rs := [9]) (by kernel_rfl) (by simp) ?_
            refine AllReadyH.cons rfl (fun K hK => ?_) AllReadyH.nil
            go_simp
            obtain ⟨Z, hZ⟩ : ∃ Z, (Y.setCell ⟨X17.heap.size, 0, none⟩ (.int .i64 (p : Int))).setCell ⟨X17.heap.size, 1, none⟩ (.int .i64 (q : Int)) = Z := ⟨_, rfl⟩
            rw [hZ] at KB3 D83 D93 T3
            rw [hZ]
            obtain ⟨h0, h1⟩ := KB3.cells
            refine hK.out _ _ ?_ ?_
            · exact ⟨h0, h1⟩
            intro hHeld
            clear hK K hZ e0 e1 f0 f1 KB2 T2 D82 D92 h0 h1
            (try simp only [Act.put, List.setIfInBounds_toArray, List.set_cons_zero, List.set_cons_succ])
            refine wpAnyH_done (by kernel_rfl) ?_ _
            go_wp2_with (fail)
            go_meet
            exact ⟨_, _, rfl, rfl, D83, D93, KB3, T3⟩
    · go_simp
      obtain ⟨X26, hY⟩ : ∃ Y, X0.alloc (.cells #[.int .i64 0, .int .i64 0] 54) = Y := ⟨_, rfl⟩
      have BB : Below X0.heap.size X0 X26 := hY ▸ below_alloc16 X0 _
      have KB2 := KB.bel BB
      have T2 := T.trans (BB.mono (by have := T.size; omega))
      have G9 : W.heap.size ≤ X0.heap.size := T.size
      have D92 : Duo2 X26 X0.heap.size 54 0 0 := hY ▸ duo2_alloc X0 _ 0 0
      rw [hY]
      clear hY
      obtain ⟨e0, e1⟩ := KB2.cells
      refine hK.out _ _ ?_ ?_
      · exact ⟨e0, e1⟩
      intro hHeld
      clear hK K BB KB T
      have KB := KB2
      have T := T2
      clear KB2 T2 e0 e1
      have D9 := D92
      clear D92
      (try simp only [Act.put, List.setIfInBounds_toArray, List.set_cons_zero, List.set_cons_succ])
      refine wpAnyH_ready (rs := [2, 6]) (by kernel_rfl) (by simp) ?_
      refine AllReadyH.cons rfl (fun K hK => ?_) (AllReadyH.cons rfl (fun K hK => ?_) AllReadyH.nil)
      · go_simp
        go_at_call 49
        refine (S1.out _).mono ?_
        rintro e X27 ⟨rfl, BB⟩
        have KB2 := KB.bel BB
        have T2 := T.trans (BB.mono (by have := T.size; omega))
        have D92 := D9.bel BB
        obtain ⟨e0, e1⟩ := KB2.cells
        refine hK.out _ _ ?_ ?_
        · exact ⟨e0, e1⟩
        intro hHeld
        clear hK K BB KB T D9
        have KB := KB2
        have T := T2
        clear KB2 T2 e0 e1
        have D9 := D92
        clear D92
        (try simp only [Act.put, List.setIfInBounds_toArray, List.set_cons_zero, List.set_cons_succ])
        refine wpAnyH_ready (rs := [5, 6]) (by kernel_rfl) (by simp) ?_
        refine AllReadyH.cons rfl (fun K hK => ?_) (AllReadyH.cons rfl (fun K hK => ?_) AllReadyH.nil)
        · go_simp
          go_at_call 49
          refine (S2.out _).mono ?_
          rintro e X28 ⟨rfl, BB⟩
          have KB2 := KB.bel BB
          have T2 := T.trans (BB.mono (by have := T.size; omega))
          have D92 := D9.bel BB
          obtain ⟨e0, e1⟩ := KB2.cells
          refine hK.out _ _ ?_ ?_
          · exact ⟨e0, e1⟩
          intro hHeld
          clear hK K BB KB T D9
          have KB := KB2
          have T := T2
          clear KB2 T2 e0 e1
          have D9 := D92
          clear D92
          (try simp only [Act.put, List.setIfInBounds_toArray, List.set_cons_zero, List.set_cons_succ])
          refine wpAnyH_ready (rs := [6]) (by kernel_rfl) (by simp) ?_
          refine AllReadyH.cons rfl (fun K hK => ?_) AllReadyH.nil
          · go_simp
            obtain ⟨X29, hY⟩ : ∃ Y, X28.alloc (.cells #[.int .i64 0, .int .i64 0] 54) = Y := ⟨_, rfl⟩
            have BB : Below X28.heap.size X28 X29 := hY ▸ below_alloc16 X28 _
            have KB2 := KB.bel BB
            have T2 := T.trans (BB.mono (by have := T.size; omega))
            have D92 := D9.bel BB
            have G8 : W.heap.size ≤ X28.heap.size := T.size
            have D82 : Duo2 X29 X28.heap.size 54 0 0 := hY ▸ duo2_alloc X28 _ 0 0
            have HNE : X28.heap.size ≠ X0.heap.size := by have := D9.lt; omega
            rw [hY]
            clear hY
            obtain ⟨e0, e1⟩ := KB2.cells
            refine hK.out _ _ ?_ ?_
            · exact ⟨e0, e1⟩
            intro hHeld
            clear hK K BB KB T D9
            have KB := KB2
            have T := T2
            clear KB2 T2 e0 e1
            have D8 := D82
            clear D82
            have D9 := D92
            clear D92
            (try simp only [Act.put, List.setIfInBounds_toArray, List.set_cons_zero, List.set_cons_succ])
            obtain ⟨e0, e1⟩ := D8.cells
            have f0 := D8.open_ 0
            have f1 := D8.open_ 1
            have hb8 := D8.apart KB (by decide)
            have hb9 := D9.apart KB (by decide)
            have KB2 := KB.past hb8 (.int .i64 (x : Int)) (.int .i64 (y : Int))
            have D82 := D8.put (x : Int) (y : Int)
            have D92 := D9.past HNE (.int .i64 (x : Int)) (.int .i64 (y : Int))
            have T2 := put_below2 T (show W.heap.size ≤ X28.heap.size by omega) (.int .i64 (x : Int)) (.int .i64 (y : Int))
            refine wpAnyH_ready (rs := [8]) (by kernel_rfl) (by simp) ?_
            refine AllReadyH.cons rfl (fun K hK => ?_) AllReadyH.nil
            go_simp
            obtain ⟨Y, hY⟩ : ∃ Y, (X29.setCell ⟨X28.heap.size, 0, none⟩ (.int .i64 (x : Int))).setCell ⟨X28.heap.size, 1, none⟩ (.int .i64 (y : Int)) = Y := ⟨_, rfl⟩
            rw [hY] at KB2 D82 D92 T2
            rw [hY]
            obtain ⟨h0, h1⟩ := KB2.cells
            refine hK.out _ _ ?_ ?_
            · exact ⟨h0, h1⟩
            intro hHeld
            clear hK K hY e0 e1 f0 f1 KB T D8 D9 h0 h1
            (try simp only [Act.put, List.setIfInBounds_toArray, List.set_cons_zero, List.set_cons_succ])
            obtain ⟨e0, e1⟩ := D92.cells
            have f0 := D92.open_ 0
            have f1 := D92.open_ 1
            have KB3 := KB2.past hb9 (.int .i64 (p : Int)) (.int .i64 (q : Int))
            have D93 := D92.put (p : Int) (q : Int)
            have D83 := D82.past (Ne.symm HNE) (.int .i64 (p : Int)) (.int .i64 (q : Int))
            have T3 := put_below2 T2 (show W.heap.size ≤ X0.heap.size by omega) (.int .i64 (p : Int)) (.int .i64 (q : Int))
            refine wpAnyH_ready (rs := [9]) (by kernel_rfl) (by simp) ?_
            refine AllReadyH.cons rfl (fun K hK => ?_) AllReadyH.nil
            go_simp
            obtain ⟨Z, hZ⟩ : ∃ Z, (Y.setCell ⟨X0.heap.size, 0, none⟩ (.int .i64 (p : Int))).setCell ⟨X0.heap.size, 1, none⟩ (.int .i64 (q : Int)) = Z := ⟨_, rfl⟩
            rw [hZ] at KB3 D83 D93 T3
            rw [hZ]
            obtain ⟨h0, h1⟩ := KB3.cells
            refine hK.out _ _ ?_ ?_
            · exact ⟨h0, h1⟩
            intro hHeld
            clear hK K hZ e0 e1 f0 f1 KB2 T2 D82 D92 h0 h1
            (try simp only [Act.put, List.setIfInBounds_toArray, List.set_cons_zero, List.set_cons_succ])
            refine wpAnyH_done (by kernel_rfl) ?_ _
            go_wp2_with (fail)
            go_meet
            exact ⟨_, _, rfl, rfl, D83, D93, KB3, T3⟩
        · go_simp
          obtain ⟨X30, hY⟩ : ∃ Y, X27.alloc (.cells #[.int .i64 0, .int .i64 0] 54) = Y := ⟨_, rfl⟩
          have BB : Below X27.heap.size X27 X30 := hY ▸ below_alloc16 X27 _
          have KB2 := KB.bel BB
          have T2 := T.trans (BB.mono (by have := T.size; omega))
          have D92 := D9.bel BB
          have G8 : W.heap.size ≤ X27.heap.size := T.size
          have D82 : Duo2 X30 X27.heap.size 54 0 0 := hY ▸ duo2_alloc X27 _ 0 0
          have HNE : X27.heap.size ≠ X0.heap.size := by have := D9.lt; omega
          rw [hY]
          clear hY
          obtain ⟨e0, e1⟩ := KB2.cells
          refine hK.out _ _ ?_ ?_
          · exact ⟨e0, e1⟩
          intro hHeld
          clear hK K BB KB T D9
          have KB := KB2
          have T := T2
          clear KB2 T2 e0 e1
          have D8 := D82
          clear D82
          have D9 := D92
          clear D92
          (try simp only [Act.put, List.setIfInBounds_toArray, List.set_cons_zero, List.set_cons_succ])
          refine wpAnyH_ready (rs := [5]) (by kernel_rfl) (by simp) ?_
          refine AllReadyH.cons rfl (fun K hK => ?_) AllReadyH.nil
          · go_simp
            go_at_call 49
            refine (S2.out _).mono ?_
            rintro e X31 ⟨rfl, BB⟩
            have KB2 := KB.bel BB
            have T2 := T.trans (BB.mono (by have := T.size; omega))
            have D82 := D8.bel BB
            have D92 := D9.bel BB
            obtain ⟨e0, e1⟩ := KB2.cells
            refine hK.out _ _ ?_ ?_
            · exact ⟨e0, e1⟩
            intro hHeld
            clear hK K BB KB T D8 D9
            have KB := KB2
            have T := T2
            clear KB2 T2 e0 e1
            have D8 := D82
            clear D82
            have D9 := D92
            clear D92
            (try simp only [Act.put, List.setIfInBounds_toArray, List.set_cons_zero, List.set_cons_succ])
            obtain ⟨e0, e1⟩ := D8.cells
            have f0 := D8.open_ 0
            have f1 := D8.open_ 1
            have hb8 := D8.apart KB (by decide)
            have hb9 := D9.apart KB (by decide)
            have KB2 := KB.past hb8 (.int .i64 (x : Int)) (.int .i64 (y : Int))
            have D82 := D8.put (x : Int) (y : Int)
            have D92 := D9.past HNE (.int .i64 (x : Int)) (.int .i64 (y : Int))
            have T2 := put_below2 T (show W.heap.size ≤ X27.heap.size by omega) (.int .i64 (x : Int)) (.int .i64 (y : Int))
            refine wpAnyH_ready (rs := [8]) (by kernel_rfl) (by simp) ?_
            refine AllReadyH.cons rfl (fun K hK => ?_) AllReadyH.nil
            go_simp
            obtain ⟨Y, hY⟩ : ∃ Y, (X31.setCell ⟨X27.heap.size, 0, none⟩ (.int .i64 (x : Int))).setCell ⟨X27.heap.size, 1, none⟩ (.int .i64 (y : Int)) = Y := ⟨_, rfl⟩
            rw [hY] at KB2 D82 D92 T2
            rw [hY]
            obtain ⟨h0, h1⟩ := KB2.cells
            refine hK.out _ _ ?_ ?_
            · exact ⟨h0, h1⟩
            intro hHeld
            clear hK K hY e0 e1 f0 f1 KB T D8 D9 h0 h1
            (try simp only [Act.put, List.setIfInBounds_toArray, List.set_cons_zero, List.set_cons_succ])
            obtain ⟨e0, e1⟩ := D92.cells
            have f0 := D92.open_ 0
            have f1 := D92.open_ 1
            have KB3 := KB2.past hb9 (.int .i64 (p : Int)) (.int .i64 (q : Int))
            have D93 := D92.put (p : Int) (q : Int)
            have D83 := D82.past (Ne.symm HNE) (.int .i64 (p : Int)) (.int .i64 (q : Int))
            have T3 := put_below2 T2 (show W.heap.size ≤ X0.heap.size by omega) (.int .i64 (p : Int)) (.int .i64 (q : Int))
            refine wpAnyH_ready (rs := [9]) (by kernel_rfl) (by simp) ?_
            refine AllReadyH.cons rfl (fun K hK => ?_) AllReadyH.nil
            go_simp
            obtain ⟨Z, hZ⟩ : ∃ Z, (Y.setCell ⟨X0.heap.size, 0, none⟩ (.int .i64 (p : Int))).setCell ⟨X0.heap.size, 1, none⟩ (.int .i64 (q : Int)) = Z := ⟨_, rfl⟩
            rw [hZ] at KB3 D83 D93 T3
            rw [hZ]
            obtain ⟨h0, h1⟩ := KB3.cells
            refine hK.out _ _ ?_ ?_
            · exact ⟨h0, h1⟩
            intro hHeld
            clear hK K hZ e0 e1 f0 f1 KB2 T2 D82 D92 h0 h1
            (try simp only [Act.put, List.setIfInBounds_toArray, List.set_cons_zero, List.set_cons_succ])
            refine wpAnyH_done (by kernel_rfl) ?_ _
            go_wp2_with (fail)
            go_meet
            exact ⟨_, _, rfl, rfl, D83, D93, KB3, T3⟩
      · go_simp
        obtain ⟨X32, hY⟩ : ∃ Y, X26.alloc (.cells #[.int .i64 0, .int .i64 0] 54) = Y := ⟨_, rfl⟩
        have BB : Below X26.heap.size X26 X32 := hY ▸ below_alloc16 X26 _
        have KB2 := KB.bel BB
        have T2 := T.trans (BB.mono (by have := T.size; omega))
        have D92 := D9.bel BB
        have G8 : W.heap.size ≤ X26.heap.size := T.size
        have D82 : Duo2 X32 X26.heap.size 54 0 0 := hY ▸ duo2_alloc X26 _ 0 0
        have HNE : X26.heap.size ≠ X0.heap.size := by have := D9.lt; omega
        rw [hY]
        clear hY
        obtain ⟨e0, e1⟩ := KB2.cells
        refine hK.out _ _ ?_ ?_
        · exact ⟨e0, e1⟩
        intro hHeld
        clear hK K BB KB T D9
        have KB := KB2
        have T := T2
        clear KB2 T2 e0 e1
        have D8 := D82
        clear D82
        have D9 := D92
        clear D92
        (try simp only [Act.put, List.setIfInBounds_toArray, List.set_cons_zero, List.set_cons_succ])
        refine wpAnyH_ready (rs := [2]) (by kernel_rfl) (by simp) ?_
        refine AllReadyH.cons rfl (fun K hK => ?_) AllReadyH.nil
        · go_simp
          go_at_call 49
          refine (S1.out _).mono ?_
          rintro e X33 ⟨rfl, BB⟩
          have KB2 := KB.bel BB
          have T2 := T.trans (BB.mono (by have := T.size; omega))
          have D82 := D8.bel BB
          have D92 := D9.bel BB
          obtain ⟨e0, e1⟩ := KB2.cells
          refine hK.out _ _ ?_ ?_
          · exact ⟨e0, e1⟩
          intro hHeld
          clear hK K BB KB T D8 D9
          have KB := KB2
          have T := T2
          clear KB2 T2 e0 e1
          have D8 := D82
          clear D82
          have D9 := D92
          clear D92
          (try simp only [Act.put, List.setIfInBounds_toArray, List.set_cons_zero, List.set_cons_succ])
          refine wpAnyH_ready (rs := [5]) (by kernel_rfl) (by simp) ?_
          refine AllReadyH.cons rfl (fun K hK => ?_) AllReadyH.nil
          · go_simp
            go_at_call 49
            refine (S2.out _).mono ?_
            rintro e X34 ⟨rfl, BB⟩
            have KB2 := KB.bel BB
            have T2 := T.trans (BB.mono (by have := T.size; omega))
            have D82 := D8.bel BB
            have D92 := D9.bel BB
            obtain ⟨e0, e1⟩ := KB2.cells
            refine hK.out _ _ ?_ ?_
            · exact ⟨e0, e1⟩
            intro hHeld
            clear hK K BB KB T D8 D9
            have KB := KB2
            have T := T2
            clear KB2 T2 e0 e1
            have D8 := D82
            clear D82
            have D9 := D92
            clear D92
            (try simp only [Act.put, List.setIfInBounds_toArray, List.set_cons_zero, List.set_cons_succ])
            obtain ⟨e0, e1⟩ := D8.cells
            have f0 := D8.open_ 0
            have f1 := D8.open_ 1
            have hb8 := D8.apart KB (by decide)
            have hb9 := D9.apart KB (by decide)
            have KB2 := KB.past hb8 (.int .i64 (x : Int)) (.int .i64 (y : Int))
            have D82 := D8.put (x : Int) (y : Int)
            have D92 := D9.past HNE (.int .i64 (x : Int)) (.int .i64 (y : Int))
            have T2 := put_below2 T (show W.heap.size ≤ X26.heap.size by omega) (.int .i64 (x : Int)) (.int .i64 (y : Int))
            refine wpAnyH_ready (rs := [8]) (by kernel_rfl) (by simp) ?_
            refine AllReadyH.cons rfl (fun K hK => ?_) AllReadyH.nil
            go_simp
            obtain ⟨Y, hY⟩ : ∃ Y, (X34.setCell ⟨X26.heap.size, 0, none⟩ (.int .i64 (x : Int))).setCell ⟨X26.heap.size, 1, none⟩ (.int .i64 (y : Int)) = Y := ⟨_, rfl⟩
            rw [hY] at KB2 D82 D92 T2
            rw [hY]
            obtain ⟨h0, h1⟩ := KB2.cells
            refine hK.out _ _ ?_ ?_
            · exact ⟨h0, h1⟩
            intro hHeld
            clear hK K hY e0 e1 f0 f1 KB T D8 D9 h0 h1
            (try simp only [Act.put, List.setIfInBounds_toArray, List.set_cons_zero, List.set_cons_succ])
            obtain ⟨e0, e1⟩ := D92.cells
            have f0 := D92.open_ 0
            have f1 := D92.open_ 1
            have KB3 := KB2.past hb9 (.int .i64 (p : Int)) (.int .i64 (q : Int))
            have D93 := D92.put (p : Int) (q : Int)
            have D83 := D82.past (Ne.symm HNE) (.int .i64 (p : Int)) (.int .i64 (q : Int))
            have T3 := put_below2 T2 (show W.heap.size ≤ X0.heap.size by omega) (.int .i64 (p : Int)) (.int .i64 (q : Int))
            refine wpAnyH_ready (rs := [9]) (by kernel_rfl) (by simp) ?_
            refine AllReadyH.cons rfl (fun K hK => ?_) AllReadyH.nil
            go_simp
            obtain ⟨Z, hZ⟩ : ∃ Z, (Y.setCell ⟨X0.heap.size, 0, none⟩ (.int .i64 (p : Int))).setCell ⟨X0.heap.size, 1, none⟩ (.int .i64 (q : Int)) = Z := ⟨_, rfl⟩
            rw [hZ] at KB3 D83 D93 T3
            rw [hZ]
            obtain ⟨h0, h1⟩ := KB3.cells
            refine hK.out _ _ ?_ ?_
            · exact ⟨h0, h1⟩
            intro hHeld
            clear hK K hZ e0 e1 f0 f1 KB2 T2 D82 D92 h0 h1
            (try simp only [Act.put, List.setIfInBounds_toArray, List.set_cons_zero, List.set_cons_succ])
            refine wpAnyH_done (by kernel_rfl) ?_ _
            go_wp2_with (fail)
            go_meet
            exact ⟨_, _, rfl, rfl, D83, D93, KB3, T3⟩
  case rest =>
    obtain ⟨R8, R9, rfl, rfl, D8, D9, KB, T⟩ := hcut
    have HT2 := Lib.hid (hT.bel T)
    obtain ⟨gt, gfr, hrow⟩ := hT.bel T
    have l0 := cell_of_row wc _ 0 _ _ _ hrow
    have l1 := cell_of_row wc _ 1 _ _ _ hrow
    have l2 := cell_of_row wc _ 2 _ _ _ hrow
    have l3 := cell_of_row wc _ 3 _ _ _ hrow
    have l4 := cell_of_row wc _ 4 _ _ _ hrow
    have l5 := cell_of_row wc _ 5 _ _ _ hrow
    have l6 := cell_of_row wc _ 6 _ _ _ hrow
    have l7 := cell_of_row wc _ 7 _ _ _ hrow
    simp only [stepCells, List.getElem?_toArray, List.getElem?_cons_zero, List.getElem?_cons_succ] at l0 l1 l2 l3 l4 l5 l6 l7
    have i0 := steps_index0
    have i1 := steps_index1
    have i2 := steps_index2
    have i3 := steps_index3
    have hxl : x < 65536 := by have := Nat.mod_lt n (y := W0) (by omega); omega
    have hyl : y ≤ 65536 := by have := Nat.div_le_self n W0; omega
    have hpl : p < 65536 := by have := Nat.mod_lt m (y := W0) (by omega); omega
    have hql : q ≤ 65536 := by have := Nat.div_le_self m W0; omega
    have HW : Hid (∀ k, k < 4 → (∀ j, j < k → ¬ sideT j x y p q) → sideT k x y p q → wireI (W0 : Int) (H0 : Int) (n : Int) (m : Int) = ((4 * n + k : Nat) : Int)) := fun k hk h1 h2 => wire_side ⟨ka, kb⟩ hx hy hp hq hk h1 h2
    have HWN : Hid ((∀ j, j < 4 → ¬ sideT j x y p q) → wireI (W0 : Int) (H0 : Int) (n : Int) (m : Int) = -1) := fun h1 => wire_none ⟨ka, kb⟩ hx hy hp hq h1
    clear hrow hT ka kb hx hy hp hq S1 S2 C1 C2 K2 T2
    go_wp2
    clear l0 l1 l2 l3 l4 l5 l6 l7
    go_loopw [29] (fun t wr => ∃ k : Nat, k ≤ 4 ∧ t = .int .i64 (k : Int) ∧ Hid (∀ j, j < k → ¬ sideT j x y p q) ∧ Below wc.heap.size wc wr) (fun t _ => 4 - (intOf t).toNat)
    case atStart =>
      have h1 : Hid (∀ j, j < 0 → ¬ sideT j x y p q) := fun j hj => by omega
      exact ⟨0, by omega, rfl, h1, Below.refl _ _⟩
    case round =>
      obtain ⟨k, hk, rfl, HN, B⟩ := hrel
      have KD8 := D8.bel B
      have KD9 := D9.bel B
      have TB := bel_trans T B
      by_cases hlt : k < 4
      rotate_left
      · have hltB : decide ((k : Int) < 4) = false := by simp; omega
        obtain rfl : k = 4 := by omega
        have HE := Lib.hid (HWN.out HN.out)
        go_wp2
        go_ret2
        have e1 : (if (0 : Int) ≤ -1 then (-1 : Int) else 0) = 0 := by decide
        have e2 : decide ((0 : Int) ≤ -1) = false := by decide
        have e3 := HV.out
        rw [HE.out, e1, e2] at e3
        exact ⟨ret_ib e3.1 e3.2, TB⟩
      have hltB : decide ((k : Int) < 4) = true := by simp; omega
      have hk4 : k = 0 ∨ k = 1 ∨ k = 2 ∨ k = 3 := by omega
      rcases hk4 with rfl | rfl | rfl | rfl
      · obtain ⟨A, hA⟩ : ∃ A, (x : Int) + 1 = A := ⟨_, rfl⟩
        obtain ⟨B', hB'⟩ : ∃ B', (y : Int) + 0 = B' := ⟨_, rfl⟩
        have CP := fun W => plus_any (x := (x : Int)) (y := (y : Int)) (u := 1) (v := 0) (W := W) (by omega) (by omega) (by omega) (by omega)
        rw [hA, hB'] at CP
        have CP := Lib.hid CP
        have hsd : sideT 0 x y p q ↔ A = (p : Int) ∧ B' = (q : Int) := by
          show (p = x + 1 ∧ y = q) ↔ _
          omega
        obtain ⟨bA, hbA⟩ : ∃ v, (A == (p : Int)) = v := ⟨_, rfl⟩
        obtain ⟨bB, hbB⟩ : ∃ v, (B' == (q : Int)) = v := ⟨_, rfl⟩
        have HS : Hid ((bA && bB) = true ↔ sideT 0 x y p q) := by
          show _ ↔ _
          rw [hsd, ← hbA, ← hbB]
          simp
        have HWK := Lib.hid (HW.out 0 (by omega) HN.out)
        clear hA hB' hsd hlt
        cases bA <;> cases bB
        · go_wp2
          obtain ⟨Y, hY⟩ : ∃ Y, wr.alloc (.cells #[.int .i64 1, .int .i64 0] 54) = Y := ⟨_, rfl⟩
          have BY : Below wr.heap.size wr Y := hY ▸ below_alloc16 wr _
          have D11 : Duo2 Y wr.heap.size 54 1 0 := hY ▸ duo2_alloc wr _ _ _
          have YD8 := KD8.bel BY
          have YD9 := KD9.bel BY
          have TY := bel_trans TB BY
          have BBY := bel_trans B BY
          obtain ⟨a0, a1⟩ := YD8.cells
          obtain ⟨b0, b1⟩ := YD9.cells
          obtain ⟨c0, c1⟩ := D11.cells
          rw [hY]
          clear hY
          go_region_held3 (fun w' => (w'.cell? ⟨R8, 0, none⟩ = some (.int .i64 (x : Int)) ∧ w'.cell? ⟨R8, 1, none⟩ = some (.int .i64 (y : Int))) ∧ (w'.cell? ⟨R9, 0, none⟩ = some (.int .i64 (p : Int)) ∧ w'.cell? ⟨R9, 1, none⟩ = some (.int .i64 (q : Int))) ∧ w'.cell? ⟨wr.heap.size, 0, none⟩ = some (.int .i64 1) ∧ w'.cell? ⟨wr.heap.size, 1, none⟩ = some (.int .i64 0)) (first | exact ⟨⟨a0, a1⟩, ⟨b0, b1⟩, c0, c1⟩ | exact ⟨EA, EB, EC⟩) (first | (go_at_call 82; refine (CP.out _).mono ?_; rintro e w5 ⟨rfl, B5⟩; have EA := (YD8.belD B5).cells; have EB := (YD9.belD B5).cells; have EC := (D11.belD B5).cells; have T5 := bel_ofdrew B5))
          have TF := bel_trans TY T5
          have BF := bel_trans BBY T5
          have HN2 : Hid (∀ j, j < 0 + 1 → ¬ sideT j x y p q) := sides_next HN.out (fun hh => absurd (HS.out.2 hh) (by decide))
          go_wp2
          go_roundw
          case rel => exact ⟨0 + 1, by omega, by go_num, HN2, BF⟩
          case measure => simp [intOf]
        · go_wp2
          obtain ⟨Y, hY⟩ : ∃ Y, wr.alloc (.cells #[.int .i64 1, .int .i64 0] 54) = Y := ⟨_, rfl⟩
          have BY : Below wr.heap.size wr Y := hY ▸ below_alloc16 wr _
          have D11 : Duo2 Y wr.heap.size 54 1 0 := hY ▸ duo2_alloc wr _ _ _
          have YD8 := KD8.bel BY
          have YD9 := KD9.bel BY
          have TY := bel_trans TB BY
          have BBY := bel_trans B BY
          obtain ⟨a0, a1⟩ := YD8.cells
          obtain ⟨b0, b1⟩ := YD9.cells
          obtain ⟨c0, c1⟩ := D11.cells
          rw [hY]
          clear hY
          go_region_held3 (fun w' => (w'.cell? ⟨R8, 0, none⟩ = some (.int .i64 (x : Int)) ∧ w'.cell? ⟨R8, 1, none⟩ = some (.int .i64 (y : Int))) ∧ (w'.cell? ⟨R9, 0, none⟩ = some (.int .i64 (p : Int)) ∧ w'.cell? ⟨R9, 1, none⟩ = some (.int .i64 (q : Int))) ∧ w'.cell? ⟨wr.heap.size, 0, none⟩ = some (.int .i64 1) ∧ w'.cell? ⟨wr.heap.size, 1, none⟩ = some (.int .i64 0)) (first | exact ⟨⟨a0, a1⟩, ⟨b0, b1⟩, c0, c1⟩ | exact ⟨EA, EB, EC⟩) (first | (go_at_call 82; refine (CP.out _).mono ?_; rintro e w5 ⟨rfl, B5⟩; have EA := (YD8.belD B5).cells; have EB := (YD9.belD B5).cells; have EC := (D11.belD B5).cells; have T5 := bel_ofdrew B5))
          have TF := bel_trans TY T5
          have BF := bel_trans BBY T5
          have HN2 : Hid (∀ j, j < 0 + 1 → ¬ sideT j x y p q) := sides_next HN.out (fun hh => absurd (HS.out.2 hh) (by decide))
          go_wp2
          go_roundw
          case rel => exact ⟨0 + 1, by omega, by go_num, HN2, BF⟩
          case measure => simp [intOf]
        · go_wp2
          obtain ⟨Y, hY⟩ : ∃ Y, wr.alloc (.cells #[.int .i64 1, .int .i64 0] 54) = Y := ⟨_, rfl⟩
          have BY : Below wr.heap.size wr Y := hY ▸ below_alloc16 wr _
          have D11 : Duo2 Y wr.heap.size 54 1 0 := hY ▸ duo2_alloc wr _ _ _
          have YD8 := KD8.bel BY
          have YD9 := KD9.bel BY
          have TY := bel_trans TB BY
          have BBY := bel_trans B BY
          obtain ⟨a0, a1⟩ := YD8.cells
          obtain ⟨b0, b1⟩ := YD9.cells
          obtain ⟨c0, c1⟩ := D11.cells
          rw [hY]
          clear hY
          go_region_held3 (fun w' => (w'.cell? ⟨R8, 0, none⟩ = some (.int .i64 (x : Int)) ∧ w'.cell? ⟨R8, 1, none⟩ = some (.int .i64 (y : Int))) ∧ (w'.cell? ⟨R9, 0, none⟩ = some (.int .i64 (p : Int)) ∧ w'.cell? ⟨R9, 1, none⟩ = some (.int .i64 (q : Int))) ∧ w'.cell? ⟨wr.heap.size, 0, none⟩ = some (.int .i64 1) ∧ w'.cell? ⟨wr.heap.size, 1, none⟩ = some (.int .i64 0)) (first | exact ⟨⟨a0, a1⟩, ⟨b0, b1⟩, c0, c1⟩ | exact ⟨EA, EB, EC⟩) (first | (go_at_call 82; refine (CP.out _).mono ?_; rintro e w5 ⟨rfl, B5⟩; have EA := (YD8.belD B5).cells; have EB := (YD9.belD B5).cells; have EC := (D11.belD B5).cells; have T5 := bel_ofdrew B5))
          have TF := bel_trans TY T5
          have BF := bel_trans BBY T5
          have HN2 : Hid (∀ j, j < 0 + 1 → ¬ sideT j x y p q) := sides_next HN.out (fun hh => absurd (HS.out.2 hh) (by decide))
          go_wp2
          go_roundw
          case rel => exact ⟨0 + 1, by omega, by go_num, HN2, BF⟩
          case measure => simp [intOf]
        · go_wp2
          obtain ⟨Y, hY⟩ : ∃ Y, wr.alloc (.cells #[.int .i64 1, .int .i64 0] 54) = Y := ⟨_, rfl⟩
          have BY : Below wr.heap.size wr Y := hY ▸ below_alloc16 wr _
          have D11 : Duo2 Y wr.heap.size 54 1 0 := hY ▸ duo2_alloc wr _ _ _
          have YD8 := KD8.bel BY
          have YD9 := KD9.bel BY
          have TY := bel_trans TB BY
          have BBY := bel_trans B BY
          obtain ⟨a0, a1⟩ := YD8.cells
          obtain ⟨b0, b1⟩ := YD9.cells
          obtain ⟨c0, c1⟩ := D11.cells
          rw [hY]
          clear hY
          go_region_held3 (fun w' => (w'.cell? ⟨R8, 0, none⟩ = some (.int .i64 (x : Int)) ∧ w'.cell? ⟨R8, 1, none⟩ = some (.int .i64 (y : Int))) ∧ (w'.cell? ⟨R9, 0, none⟩ = some (.int .i64 (p : Int)) ∧ w'.cell? ⟨R9, 1, none⟩ = some (.int .i64 (q : Int))) ∧ w'.cell? ⟨wr.heap.size, 0, none⟩ = some (.int .i64 1) ∧ w'.cell? ⟨wr.heap.size, 1, none⟩ = some (.int .i64 0)) (first | exact ⟨⟨a0, a1⟩, ⟨b0, b1⟩, c0, c1⟩ | exact ⟨EA, EB, EC⟩) (first | (go_at_call 82; refine (CP.out _).mono ?_; rintro e w5 ⟨rfl, B5⟩; have EA := (YD8.belD B5).cells; have EB := (YD9.belD B5).cells; have EC := (D11.belD B5).cells; have T5 := bel_ofdrew B5))
          have TF := bel_trans TY T5
          have BF := bel_trans BBY T5
          have HE := Lib.hid (HWK.out (HS.out.1 rfl))
          go_wp2
          go_ret2
          have e3 := HV.out
          rw [HE.out, if_pos (Int.natCast_nonneg _), decide_eq_true (Int.natCast_nonneg _)] at e3
          exact ⟨ret_ib (by rw [← e3.1]; omega) e3.2, TF⟩
      · obtain ⟨A, hA⟩ : ∃ A, (x : Int) + (-1) = A := ⟨_, rfl⟩
        obtain ⟨B', hB'⟩ : ∃ B', (y : Int) + 0 = B' := ⟨_, rfl⟩
        have CP := fun W => plus_any (x := (x : Int)) (y := (y : Int)) (u := (-1)) (v := 0) (W := W) (by omega) (by omega) (by omega) (by omega)
        rw [hA, hB'] at CP
        have CP := Lib.hid CP
        have hsd : sideT 1 x y p q ↔ A = (p : Int) ∧ B' = (q : Int) := by
          show (x = p + 1 ∧ y = q) ↔ _
          omega
        obtain ⟨bA, hbA⟩ : ∃ v, (A == (p : Int)) = v := ⟨_, rfl⟩
        obtain ⟨bB, hbB⟩ : ∃ v, (B' == (q : Int)) = v := ⟨_, rfl⟩
        have HS : Hid ((bA && bB) = true ↔ sideT 1 x y p q) := by
          show _ ↔ _
          rw [hsd, ← hbA, ← hbB]
          simp
        have HWK := Lib.hid (HW.out 1 (by omega) HN.out)
        clear hA hB' hsd hlt
        cases bA <;> cases bB
        · go_wp2
          obtain ⟨Y, hY⟩ : ∃ Y, wr.alloc (.cells #[.int .i64 (-1), .int .i64 0] 54) = Y := ⟨_, rfl⟩
          have BY : Below wr.heap.size wr Y := hY ▸ below_alloc16 wr _
          have D11 : Duo2 Y wr.heap.size 54 (-1) 0 := hY ▸ duo2_alloc wr _ _ _
          have YD8 := KD8.bel BY
          have YD9 := KD9.bel BY
          have TY := bel_trans TB BY
          have BBY := bel_trans B BY
          obtain ⟨a0, a1⟩ := YD8.cells
          obtain ⟨b0, b1⟩ := YD9.cells
          obtain ⟨c0, c1⟩ := D11.cells
          rw [hY]
          clear hY
          go_region_held3 (fun w' => (w'.cell? ⟨R8, 0, none⟩ = some (.int .i64 (x : Int)) ∧ w'.cell? ⟨R8, 1, none⟩ = some (.int .i64 (y : Int))) ∧ (w'.cell? ⟨R9, 0, none⟩ = some (.int .i64 (p : Int)) ∧ w'.cell? ⟨R9, 1, none⟩ = some (.int .i64 (q : Int))) ∧ w'.cell? ⟨wr.heap.size, 0, none⟩ = some (.int .i64 (-1)) ∧ w'.cell? ⟨wr.heap.size, 1, none⟩ = some (.int .i64 0)) (first | exact ⟨⟨a0, a1⟩, ⟨b0, b1⟩, c0, c1⟩ | exact ⟨EA, EB, EC⟩) (first | (go_at_call 82; refine (CP.out _).mono ?_; rintro e w5 ⟨rfl, B5⟩; have EA := (YD8.belD B5).cells; have EB := (YD9.belD B5).cells; have EC := (D11.belD B5).cells; have T5 := bel_ofdrew B5))
          have TF := bel_trans TY T5
          have BF := bel_trans BBY T5
          have HN2 : Hid (∀ j, j < 1 + 1 → ¬ sideT j x y p q) := sides_next HN.out (fun hh => absurd (HS.out.2 hh) (by decide))
          go_wp2
          go_roundw
          case rel => exact ⟨1 + 1, by omega, by go_num, HN2, BF⟩
          case measure => simp [intOf]
        · go_wp2
          obtain ⟨Y, hY⟩ : ∃ Y, wr.alloc (.cells #[.int .i64 (-1), .int .i64 0] 54) = Y := ⟨_, rfl⟩
          have BY : Below wr.heap.size wr Y := hY ▸ below_alloc16 wr _
          have D11 : Duo2 Y wr.heap.size 54 (-1) 0 := hY ▸ duo2_alloc wr _ _ _
          have YD8 := KD8.bel BY
          have YD9 := KD9.bel BY
          have TY := bel_trans TB BY
          have BBY := bel_trans B BY
          obtain ⟨a0, a1⟩ := YD8.cells
          obtain ⟨b0, b1⟩ := YD9.cells
          obtain ⟨c0, c1⟩ := D11.cells
          rw [hY]
          clear hY
          go_region_held3 (fun w' => (w'.cell? ⟨R8, 0, none⟩ = some (.int .i64 (x : Int)) ∧ w'.cell? ⟨R8, 1, none⟩ = some (.int .i64 (y : Int))) ∧ (w'.cell? ⟨R9, 0, none⟩ = some (.int .i64 (p : Int)) ∧ w'.cell? ⟨R9, 1, none⟩ = some (.int .i64 (q : Int))) ∧ w'.cell? ⟨wr.heap.size, 0, none⟩ = some (.int .i64 (-1)) ∧ w'.cell? ⟨wr.heap.size, 1, none⟩ = some (.int .i64 0)) (first | exact ⟨⟨a0, a1⟩, ⟨b0, b1⟩, c0, c1⟩ | exact ⟨EA, EB, EC⟩) (first | (go_at_call 82; refine (CP.out _).mono ?_; rintro e w5 ⟨rfl, B5⟩; have EA := (YD8.belD B5).cells; have EB := (YD9.belD B5).cells; have EC := (D11.belD B5).cells; have T5 := bel_ofdrew B5))
          have TF := bel_trans TY T5
          have BF := bel_trans BBY T5
          have HN2 : Hid (∀ j, j < 1 + 1 → ¬ sideT j x y p q) := sides_next HN.out (fun hh => absurd (HS.out.2 hh) (by decide))
          go_wp2
          go_roundw
          case rel => exact ⟨1 + 1, by omega, by go_num, HN2, BF⟩
          case measure => simp [intOf]
        · go_wp2
          obtain ⟨Y, hY⟩ : ∃ Y, wr.alloc (.cells #[.int .i64 (-1), .int .i64 0] 54) = Y := ⟨_, rfl⟩
          have BY : Below wr.heap.size wr Y := hY ▸ below_alloc16 wr _
          have D11 : Duo2 Y wr.heap.size 54 (-1) 0 := hY ▸ duo2_alloc wr _ _ _
          have YD8 := KD8.bel BY
          have YD9 := KD9.bel BY
          have TY := bel_trans TB BY
          have BBY := bel_trans B BY
          obtain ⟨a0, a1⟩ := YD8.cells
          obtain ⟨b0, b1⟩ := YD9.cells
          obtain ⟨c0, c1⟩ := D11.cells
          rw [hY]
          clear hY
          go_region_held3 (fun w' => (w'.cell? ⟨R8, 0, none⟩ = some (.int .i64 (x : Int)) ∧ w'.cell? ⟨R8, 1, none⟩ = some (.int .i64 (y : Int))) ∧ (w'.cell? ⟨R9, 0, none⟩ = some (.int .i64 (p : Int)) ∧ w'.cell? ⟨R9, 1, none⟩ = some (.int .i64 (q : Int))) ∧ w'.cell? ⟨wr.heap.size, 0, none⟩ = some (.int .i64 (-1)) ∧ w'.cell? ⟨wr.heap.size, 1, none⟩ = some (.int .i64 0)) (first | exact ⟨⟨a0, a1⟩, ⟨b0, b1⟩, c0, c1⟩ | exact ⟨EA, EB, EC⟩) (first | (go_at_call 82; refine (CP.out _).mono ?_; rintro e w5 ⟨rfl, B5⟩; have EA := (YD8.belD B5).cells; have EB := (YD9.belD B5).cells; have EC := (D11.belD B5).cells; have T5 := bel_ofdrew B5))
          have TF := bel_trans TY T5
          have BF := bel_trans BBY T5
          have HN2 : Hid (∀ j, j < 1 + 1 → ¬ sideT j x y p q) := sides_next HN.out (fun hh => absurd (HS.out.2 hh) (by decide))
          go_wp2
          go_roundw
          case rel => exact ⟨1 + 1, by omega, by go_num, HN2, BF⟩
          case measure => simp [intOf]
        · go_wp2
          obtain ⟨Y, hY⟩ : ∃ Y, wr.alloc (.cells #[.int .i64 (-1), .int .i64 0] 54) = Y := ⟨_, rfl⟩
          have BY : Below wr.heap.size wr Y := hY ▸ below_alloc16 wr _
          have D11 : Duo2 Y wr.heap.size 54 (-1) 0 := hY ▸ duo2_alloc wr _ _ _
          have YD8 := KD8.bel BY
          have YD9 := KD9.bel BY
          have TY := bel_trans TB BY
          have BBY := bel_trans B BY
          obtain ⟨a0, a1⟩ := YD8.cells
          obtain ⟨b0, b1⟩ := YD9.cells
          obtain ⟨c0, c1⟩ := D11.cells
          rw [hY]
          clear hY
          go_region_held3 (fun w' => (w'.cell? ⟨R8, 0, none⟩ = some (.int .i64 (x : Int)) ∧ w'.cell? ⟨R8, 1, none⟩ = some (.int .i64 (y : Int))) ∧ (w'.cell? ⟨R9, 0, none⟩ = some (.int .i64 (p : Int)) ∧ w'.cell? ⟨R9, 1, none⟩ = some (.int .i64 (q : Int))) ∧ w'.cell? ⟨wr.heap.size, 0, none⟩ = some (.int .i64 (-1)) ∧ w'.cell? ⟨wr.heap.size, 1, none⟩ = some (.int .i64 0)) (first | exact ⟨⟨a0, a1⟩, ⟨b0, b1⟩, c0, c1⟩ | exact ⟨EA, EB, EC⟩) (first | (go_at_call 82; refine (CP.out _).mono ?_; rintro e w5 ⟨rfl, B5⟩; have EA := (YD8.belD B5).cells; have EB := (YD9.belD B5).cells; have EC := (D11.belD B5).cells; have T5 := bel_ofdrew B5))
          have TF := bel_trans TY T5
          have BF := bel_trans BBY T5
          have HE := Lib.hid (HWK.out (HS.out.1 rfl))
          go_wp2
          go_ret2
          have e3 := HV.out
          rw [HE.out, if_pos (Int.natCast_nonneg _), decide_eq_true (Int.natCast_nonneg _)] at e3
          exact ⟨ret_ib (by rw [← e3.1]; omega) e3.2, TF⟩
      · obtain ⟨A, hA⟩ : ∃ A, (x : Int) + 0 = A := ⟨_, rfl⟩
        obtain ⟨B', hB'⟩ : ∃ B', (y : Int) + 1 = B' := ⟨_, rfl⟩
        have CP := fun W => plus_any (x := (x : Int)) (y := (y : Int)) (u := 0) (v := 1) (W := W) (by omega) (by omega) (by omega) (by omega)
        rw [hA, hB'] at CP
        have CP := Lib.hid CP
        have hsd : sideT 2 x y p q ↔ A = (p : Int) ∧ B' = (q : Int) := by
          show (x = p ∧ q = y + 1) ↔ _
          omega
        obtain ⟨bA, hbA⟩ : ∃ v, (A == (p : Int)) = v := ⟨_, rfl⟩
        obtain ⟨bB, hbB⟩ : ∃ v, (B' == (q : Int)) = v := ⟨_, rfl⟩
        have HS : Hid ((bA && bB) = true ↔ sideT 2 x y p q) := by
          show _ ↔ _
          rw [hsd, ← hbA, ← hbB]
          simp
        have HWK := Lib.hid (HW.out 2 (by omega) HN.out)
        clear hA hB' hsd hlt
        cases bA <;> cases bB
        · go_wp2
          obtain ⟨Y, hY⟩ : ∃ Y, wr.alloc (.cells #[.int .i64 0, .int .i64 1] 54) = Y := ⟨_, rfl⟩
          have BY : Below wr.heap.size wr Y := hY ▸ below_alloc16 wr _
          have D11 : Duo2 Y wr.heap.size 54 0 1 := hY ▸ duo2_alloc wr _ _ _
          have YD8 := KD8.bel BY
          have YD9 := KD9.bel BY
          have TY := bel_trans TB BY
          have BBY := bel_trans B BY
          obtain ⟨a0, a1⟩ := YD8.cells
          obtain ⟨b0, b1⟩ := YD9.cells
          obtain ⟨c0, c1⟩ := D11.cells
          rw [hY]
          clear hY
          go_region_held3 (fun w' => (w'.cell? ⟨R8, 0, none⟩ = some (.int .i64 (x : Int)) ∧ w'.cell? ⟨R8, 1, none⟩ = some (.int .i64 (y : Int))) ∧ (w'.cell? ⟨R9, 0, none⟩ = some (.int .i64 (p : Int)) ∧ w'.cell? ⟨R9, 1, none⟩ = some (.int .i64 (q : Int))) ∧ w'.cell? ⟨wr.heap.size, 0, none⟩ = some (.int .i64 0) ∧ w'.cell? ⟨wr.heap.size, 1, none⟩ = some (.int .i64 1)) (first | exact ⟨⟨a0, a1⟩, ⟨b0, b1⟩, c0, c1⟩ | exact ⟨EA, EB, EC⟩) (first | (go_at_call 82; refine (CP.out _).mono ?_; rintro e w5 ⟨rfl, B5⟩; have EA := (YD8.belD B5).cells; have EB := (YD9.belD B5).cells; have EC := (D11.belD B5).cells; have T5 := bel_ofdrew B5))
          have TF := bel_trans TY T5
          have BF := bel_trans BBY T5
          have HN2 : Hid (∀ j, j < 2 + 1 → ¬ sideT j x y p q) := sides_next HN.out (fun hh => absurd (HS.out.2 hh) (by decide))
          go_wp2
          go_roundw
          case rel => exact ⟨2 + 1, by omega, by go_num, HN2, BF⟩
          case measure => simp [intOf]
        · go_wp2
          obtain ⟨Y, hY⟩ : ∃ Y, wr.alloc (.cells #[.int .i64 0, .int .i64 1] 54) = Y := ⟨_, rfl⟩
          have BY : Below wr.heap.size wr Y := hY ▸ below_alloc16 wr _
          have D11 : Duo2 Y wr.heap.size 54 0 1 := hY ▸ duo2_alloc wr _ _ _
          have YD8 := KD8.bel BY
          have YD9 := KD9.bel BY
          have TY := bel_trans TB BY
          have BBY := bel_trans B BY
          obtain ⟨a0, a1⟩ := YD8.cells
          obtain ⟨b0, b1⟩ := YD9.cells
          obtain ⟨c0, c1⟩ := D11.cells
          rw [hY]
          clear hY
          go_region_held3 (fun w' => (w'.cell? ⟨R8, 0, none⟩ = some (.int .i64 (x : Int)) ∧ w'.cell? ⟨R8, 1, none⟩ = some (.int .i64 (y : Int))) ∧ (w'.cell? ⟨R9, 0, none⟩ = some (.int .i64 (p : Int)) ∧ w'.cell? ⟨R9, 1, none⟩ = some (.int .i64 (q : Int))) ∧ w'.cell? ⟨wr.heap.size, 0, none⟩ = some (.int .i64 0) ∧ w'.cell? ⟨wr.heap.size, 1, none⟩ = some (.int .i64 1)) (first | exact ⟨⟨a0, a1⟩, ⟨b0, b1⟩, c0, c1⟩ | exact ⟨EA, EB, EC⟩) (first | (go_at_call 82; refine (CP.out _).mono ?_; rintro e w5 ⟨rfl, B5⟩; have EA := (YD8.belD B5).cells; have EB := (YD9.belD B5).cells; have EC := (D11.belD B5).cells; have T5 := bel_ofdrew B5))
          have TF := bel_trans TY T5
          have BF := bel_trans BBY T5
          have HN2 : Hid (∀ j, j < 2 + 1 → ¬ sideT j x y p q) := sides_next HN.out (fun hh => absurd (HS.out.2 hh) (by decide))
          go_wp2
          go_roundw
          case rel => exact ⟨2 + 1, by omega, by go_num, HN2, BF⟩
          case measure => simp [intOf]
        · go_wp2
          obtain ⟨Y, hY⟩ : ∃ Y, wr.alloc (.cells #[.int .i64 0, .int .i64 1] 54) = Y := ⟨_, rfl⟩
          have BY : Below wr.heap.size wr Y := hY ▸ below_alloc16 wr _
          have D11 : Duo2 Y wr.heap.size 54 0 1 := hY ▸ duo2_alloc wr _ _ _
          have YD8 := KD8.bel BY
          have YD9 := KD9.bel BY
          have TY := bel_trans TB BY
          have BBY := bel_trans B BY
          obtain ⟨a0, a1⟩ := YD8.cells
          obtain ⟨b0, b1⟩ := YD9.cells
          obtain ⟨c0, c1⟩ := D11.cells
          rw [hY]
          clear hY
          go_region_held3 (fun w' => (w'.cell? ⟨R8, 0, none⟩ = some (.int .i64 (x : Int)) ∧ w'.cell? ⟨R8, 1, none⟩ = some (.int .i64 (y : Int))) ∧ (w'.cell? ⟨R9, 0, none⟩ = some (.int .i64 (p : Int)) ∧ w'.cell? ⟨R9, 1, none⟩ = some (.int .i64 (q : Int))) ∧ w'.cell? ⟨wr.heap.size, 0, none⟩ = some (.int .i64 0) ∧ w'.cell? ⟨wr.heap.size, 1, none⟩ = some (.int .i64 1)) (first | exact ⟨⟨a0, a1⟩, ⟨b0, b1⟩, c0, c1⟩ | exact ⟨EA, EB, EC⟩) (first | (go_at_call 82; refine (CP.out _).mono ?_; rintro e w5 ⟨rfl, B5⟩; have EA := (YD8.belD B5).cells; have EB := (YD9.belD B5).cells; have EC := (D11.belD B5).cells; have T5 := bel_ofdrew B5))
          have TF := bel_trans TY T5
          have BF := bel_trans BBY T5
          have HN2 : Hid (∀ j, j < 2 + 1 → ¬ sideT j x y p q) := sides_next HN.out (fun hh => absurd (HS.out.2 hh) (by decide))
          go_wp2
          go_roundw
          case rel => exact ⟨2 + 1, by omega, by go_num, HN2, BF⟩
          case measure => simp [intOf]
        · go_wp2
          obtain ⟨Y, hY⟩ : ∃ Y, wr.alloc (.cells #[.int .i64 0, .int .i64 1] 54) = Y := ⟨_, rfl⟩
          have BY : Below wr.heap.size wr Y := hY ▸ below_alloc16 wr _
          have D11 : Duo2 Y wr.heap.size 54 0 1 := hY ▸ duo2_alloc wr _ _ _
          have YD8 := KD8.bel BY
          have YD9 := KD9.bel BY
          have TY := bel_trans TB BY
          have BBY := bel_trans B BY
          obtain ⟨a0, a1⟩ := YD8.cells
          obtain ⟨b0, b1⟩ := YD9.cells
          obtain ⟨c0, c1⟩ := D11.cells
          rw [hY]
          clear hY
          go_region_held3 (fun w' => (w'.cell? ⟨R8, 0, none⟩ = some (.int .i64 (x : Int)) ∧ w'.cell? ⟨R8, 1, none⟩ = some (.int .i64 (y : Int))) ∧ (w'.cell? ⟨R9, 0, none⟩ = some (.int .i64 (p : Int)) ∧ w'.cell? ⟨R9, 1, none⟩ = some (.int .i64 (q : Int))) ∧ w'.cell? ⟨wr.heap.size, 0, none⟩ = some (.int .i64 0) ∧ w'.cell? ⟨wr.heap.size, 1, none⟩ = some (.int .i64 1)) (first | exact ⟨⟨a0, a1⟩, ⟨b0, b1⟩, c0, c1⟩ | exact ⟨EA, EB, EC⟩) (first | (go_at_call 82; refine (CP.out _).mono ?_; rintro e w5 ⟨rfl, B5⟩; have EA := (YD8.belD B5).cells; have EB := (YD9.belD B5).cells; have EC := (D11.belD B5).cells; have T5 := bel_ofdrew B5))
          have TF := bel_trans TY T5
          have BF := bel_trans BBY T5
          have HE := Lib.hid (HWK.out (HS.out.1 rfl))
          go_wp2
          go_ret2
          have e3 := HV.out
          rw [HE.out, if_pos (Int.natCast_nonneg _), decide_eq_true (Int.natCast_nonneg _)] at e3
          exact ⟨ret_ib (by rw [← e3.1]; omega) e3.2, TF⟩
      · obtain ⟨A, hA⟩ : ∃ A, (x : Int) + 0 = A := ⟨_, rfl⟩
        obtain ⟨B', hB'⟩ : ∃ B', (y : Int) + (-1) = B' := ⟨_, rfl⟩
        have CP := fun W => plus_any (x := (x : Int)) (y := (y : Int)) (u := 0) (v := (-1)) (W := W) (by omega) (by omega) (by omega) (by omega)
        rw [hA, hB'] at CP
        have CP := Lib.hid CP
        have hsd : sideT 3 x y p q ↔ A = (p : Int) ∧ B' = (q : Int) := by
          show (x = p ∧ y = q + 1) ↔ _
          omega
        obtain ⟨bA, hbA⟩ : ∃ v, (A == (p : Int)) = v := ⟨_, rfl⟩
        obtain ⟨bB, hbB⟩ : ∃ v, (B' == (q : Int)) = v := ⟨_, rfl⟩
        have HS : Hid ((bA && bB) = true ↔ sideT 3 x y p q) := by
          show _ ↔ _
          rw [hsd, ← hbA, ← hbB]
          simp
        have HWK := Lib.hid (HW.out 3 (by omega) HN.out)
        clear hA hB' hsd hlt
        cases bA <;> cases bB
        · go_wp2
          obtain ⟨Y, hY⟩ : ∃ Y, wr.alloc (.cells #[.int .i64 0, .int .i64 (-1)] 54) = Y := ⟨_, rfl⟩
          have BY : Below wr.heap.size wr Y := hY ▸ below_alloc16 wr _
          have D11 : Duo2 Y wr.heap.size 54 0 (-1) := hY ▸ duo2_alloc wr _ _ _
          have YD8 := KD8.bel BY
          have YD9 := KD9.bel BY
          have TY := bel_trans TB BY
          have BBY := bel_trans B BY
          obtain ⟨a0, a1⟩ := YD8.cells
          obtain ⟨b0, b1⟩ := YD9.cells
          obtain ⟨c0, c1⟩ := D11.cells
          rw [hY]
          clear hY
          go_region_held3 (fun w' => (w'.cell? ⟨R8, 0, none⟩ = some (.int .i64 (x : Int)) ∧ w'.cell? ⟨R8, 1, none⟩ = some (.int .i64 (y : Int))) ∧ (w'.cell? ⟨R9, 0, none⟩ = some (.int .i64 (p : Int)) ∧ w'.cell? ⟨R9, 1, none⟩ = some (.int .i64 (q : Int))) ∧ w'.cell? ⟨wr.heap.size, 0, none⟩ = some (.int .i64 0) ∧ w'.cell? ⟨wr.heap.size, 1, none⟩ = some (.int .i64 (-1))) (first | exact ⟨⟨a0, a1⟩, ⟨b0, b1⟩, c0, c1⟩ | exact ⟨EA, EB, EC⟩) (first | (go_at_call 82; refine (CP.out _).mono ?_; rintro e w5 ⟨rfl, B5⟩; have EA := (YD8.belD B5).cells; have EB := (YD9.belD B5).cells; have EC := (D11.belD B5).cells; have T5 := bel_ofdrew B5))
          have TF := bel_trans TY T5
          have BF := bel_trans BBY T5
          have HN2 : Hid (∀ j, j < 3 + 1 → ¬ sideT j x y p q) := sides_next HN.out (fun hh => absurd (HS.out.2 hh) (by decide))
          go_wp2
          go_roundw
          case rel => exact ⟨3 + 1, by omega, by go_num, HN2, BF⟩
          case measure => simp [intOf]
        · go_wp2
          obtain ⟨Y, hY⟩ : ∃ Y, wr.alloc (.cells #[.int .i64 0, .int .i64 (-1)] 54) = Y := ⟨_, rfl⟩
          have BY : Below wr.heap.size wr Y := hY ▸ below_alloc16 wr _
          have D11 : Duo2 Y wr.heap.size 54 0 (-1) := hY ▸ duo2_alloc wr _ _ _
          have YD8 := KD8.bel BY
          have YD9 := KD9.bel BY
          have TY := bel_trans TB BY
          have BBY := bel_trans B BY
          obtain ⟨a0, a1⟩ := YD8.cells
          obtain ⟨b0, b1⟩ := YD9.cells
          obtain ⟨c0, c1⟩ := D11.cells
          rw [hY]
          clear hY
          go_region_held3 (fun w' => (w'.cell? ⟨R8, 0, none⟩ = some (.int .i64 (x : Int)) ∧ w'.cell? ⟨R8, 1, none⟩ = some (.int .i64 (y : Int))) ∧ (w'.cell? ⟨R9, 0, none⟩ = some (.int .i64 (p : Int)) ∧ w'.cell? ⟨R9, 1, none⟩ = some (.int .i64 (q : Int))) ∧ w'.cell? ⟨wr.heap.size, 0, none⟩ = some (.int .i64 0) ∧ w'.cell? ⟨wr.heap.size, 1, none⟩ = some (.int .i64 (-1))) (first | exact ⟨⟨a0, a1⟩, ⟨b0, b1⟩, c0, c1⟩ | exact ⟨EA, EB, EC⟩) (first | (go_at_call 82; refine (CP.out _).mono ?_; rintro e w5 ⟨rfl, B5⟩; have EA := (YD8.belD B5).cells; have EB := (YD9.belD B5).cells; have EC := (D11.belD B5).cells; have T5 := bel_ofdrew B5))
          have TF := bel_trans TY T5
          have BF := bel_trans BBY T5
          have HN2 : Hid (∀ j, j < 3 + 1 → ¬ sideT j x y p q) := sides_next HN.out (fun hh => absurd (HS.out.2 hh) (by decide))
          go_wp2
          go_roundw
          case rel => exact ⟨3 + 1, by omega, by go_num, HN2, BF⟩
          case measure => simp [intOf]
        · go_wp2
          obtain ⟨Y, hY⟩ : ∃ Y, wr.alloc (.cells #[.int .i64 0, .int .i64 (-1)] 54) = Y := ⟨_, rfl⟩
          have BY : Below wr.heap.size wr Y := hY ▸ below_alloc16 wr _
          have D11 : Duo2 Y wr.heap.size 54 0 (-1) := hY ▸ duo2_alloc wr _ _ _
          have YD8 := KD8.bel BY
          have YD9 := KD9.bel BY
          have TY := bel_trans TB BY
          have BBY := bel_trans B BY
          obtain ⟨a0, a1⟩ := YD8.cells
          obtain ⟨b0, b1⟩ := YD9.cells
          obtain ⟨c0, c1⟩ := D11.cells
          rw [hY]
          clear hY
          go_region_held3 (fun w' => (w'.cell? ⟨R8, 0, none⟩ = some (.int .i64 (x : Int)) ∧ w'.cell? ⟨R8, 1, none⟩ = some (.int .i64 (y : Int))) ∧ (w'.cell? ⟨R9, 0, none⟩ = some (.int .i64 (p : Int)) ∧ w'.cell? ⟨R9, 1, none⟩ = some (.int .i64 (q : Int))) ∧ w'.cell? ⟨wr.heap.size, 0, none⟩ = some (.int .i64 0) ∧ w'.cell? ⟨wr.heap.size, 1, none⟩ = some (.int .i64 (-1))) (first | exact ⟨⟨a0, a1⟩, ⟨b0, b1⟩, c0, c1⟩ | exact ⟨EA, EB, EC⟩) (first | (go_at_call 82; refine (CP.out _).mono ?_; rintro e w5 ⟨rfl, B5⟩; have EA := (YD8.belD B5).cells; have EB := (YD9.belD B5).cells; have EC := (D11.belD B5).cells; have T5 := bel_ofdrew B5))
          have TF := bel_trans TY T5
          have BF := bel_trans BBY T5
          have HN2 : Hid (∀ j, j < 3 + 1 → ¬ sideT j x y p q) := sides_next HN.out (fun hh => absurd (HS.out.2 hh) (by decide))
          go_wp2
          go_roundw
          case rel => exact ⟨3 + 1, by omega, by go_num, HN2, BF⟩
          case measure => simp [intOf]
        · go_wp2
          obtain ⟨Y, hY⟩ : ∃ Y, wr.alloc (.cells #[.int .i64 0, .int .i64 (-1)] 54) = Y := ⟨_, rfl⟩
          have BY : Below wr.heap.size wr Y := hY ▸ below_alloc16 wr _
          have D11 : Duo2 Y wr.heap.size 54 0 (-1) := hY ▸ duo2_alloc wr _ _ _
          have YD8 := KD8.bel BY
          have YD9 := KD9.bel BY
          have TY := bel_trans TB BY
          have BBY := bel_trans B BY
          obtain ⟨a0, a1⟩ := YD8.cells
          obtain ⟨b0, b1⟩ := YD9.cells
          obtain ⟨c0, c1⟩ := D11.cells
          rw [hY]
          clear hY
          go_region_held3 (fun w' => (w'.cell? ⟨R8, 0, none⟩ = some (.int .i64 (x : Int)) ∧ w'.cell? ⟨R8, 1, none⟩ = some (.int .i64 (y : Int))) ∧ (w'.cell? ⟨R9, 0, none⟩ = some (.int .i64 (p : Int)) ∧ w'.cell? ⟨R9, 1, none⟩ = some (.int .i64 (q : Int))) ∧ w'.cell? ⟨wr.heap.size, 0, none⟩ = some (.int .i64 0) ∧ w'.cell? ⟨wr.heap.size, 1, none⟩ = some (.int .i64 (-1))) (first | exact ⟨⟨a0, a1⟩, ⟨b0, b1⟩, c0, c1⟩ | exact ⟨EA, EB, EC⟩) (first | (go_at_call 82; refine (CP.out _).mono ?_; rintro e w5 ⟨rfl, B5⟩; have EA := (YD8.belD B5).cells; have EB := (YD9.belD B5).cells; have EC := (D11.belD B5).cells; have T5 := bel_ofdrew B5))
          have TF := bel_trans TY T5
          have BF := bel_trans BBY T5
          have HE := Lib.hid (HWK.out (HS.out.1 rfl))
          go_wp2
          go_ret2
          have e3 := HV.out
          rw [HE.out, if_pos (Int.natCast_nonneg _), decide_eq_true (Int.natCast_nonneg _)] at e3
          exact ⟨ret_ib (by rw [← e3.1]; omega) e3.2, TF⟩
set_option maxHeartbeats 2000000 in
theorem wire_any {w h a b v : Int} {ok : Bool} {W : World} (hT : StepsIn W) (hv : (if 0 ≤ wireI w h a b then wireI w h a b else 0) = v) (hok : decide (0 ≤ wireI w h a b) = ok) : Calls Tryd.prog 55 #[.agg #[.int .i64 w, .int .i64 h], .int .i64 a, .int .i64 b] W fun e W' => e = .returned (.tuple #[.int .i64 v, .bool ok]) ∧ Below W.heap.size W W' := by
  by_cases ka : okN w h a
  · by_cases kb : okN w h b
    · exact wire_yes hT ka kb hv hok
    have e1 : wireI w h a b = -1 := by unfold wireI; rw [if_neg (fun hh => kb hh.2)]
    rw [e1] at hv hok
    have HV := Lib.hid (show (0 : Int) = v ∧ false = ok from ⟨by simpa using hv, by simpa using hok⟩)
    have C1 := Lib.hid (fun W => isNode_b (W := W) (decide_eq_true ka))
    have C2 := Lib.hid (fun W => isNode_b (W := W) (decide_eq_false kb))
    obtain ⟨Wa, hWa⟩ : ∃ Wa, W.alloc (.cells #[.int .i64 w, .int .i64 h] 51) = Wa := ⟨_, rfl⟩
    have Ka : Duo2 Wa W.heap.size 51 w h := hWa ▸ duo2_alloc W _ _ _
    have Ba : Below W.heap.size W Wa := hWa ▸ below_alloc16 W _
    obtain ⟨v0, v1⟩ := Ka.cells
    clear hv hok e1 ka kb hT
    go_enter Tryd.func55, Tryd.ntmps55
    go_wp2_with (fail)
    refine (C1.out _).mono ?_
    rintro e w1 ⟨rfl, B1⟩
    obtain ⟨u0, u1⟩ := (Ka.bel B1).cells
    have T1 := bel_trans Ba B1
    go_wp2_with (fail)
    refine (C2.out _).mono ?_
    rintro e w2 ⟨rfl, B2⟩
    have T2 := bel_trans T1 B2
    go_wp2
    go_ret2
    exact ⟨ret_ib HV.out.1 HV.out.2, T2⟩
  · have e1 : wireI w h a b = -1 := by unfold wireI; rw [if_neg (fun hh => ka hh.1)]
    rw [e1] at hv hok
    have HV := Lib.hid (show (0 : Int) = v ∧ false = ok from ⟨by simpa using hv, by simpa using hok⟩)
    have C1 := Lib.hid (fun W => isNode_b (W := W) (decide_eq_false ka))
    obtain ⟨Wa, hWa⟩ : ∃ Wa, W.alloc (.cells #[.int .i64 w, .int .i64 h] 51) = Wa := ⟨_, rfl⟩
    have Ka : Duo2 Wa W.heap.size 51 w h := hWa ▸ duo2_alloc W _ _ _
    have Ba : Below W.heap.size W Wa := hWa ▸ below_alloc16 W _
    obtain ⟨v0, v1⟩ := Ka.cells
    clear hv hok e1 ka hT
    go_enter Tryd.func55, Tryd.ntmps55
    go_wp2_with (fail)
    refine (C1.out _).mono ?_
    rintro e w1 ⟨rfl, B1⟩
    have T1 := bel_trans Ba B1
    go_wp2
    go_ret2
    exact ⟨ret_ib HV.out.1 HV.out.2, T1⟩
set_option maxHeartbeats 2000000 in
theorem implWireOf_r {w h a b u : Int} {W : World} (hT : StepsIn W) (hu : wireI w h a b = u) : Calls Tryd.prog 23 #[.int .i64 w, .int .i64 h, .int .i64 a, .int .i64 b] W fun e W' => e = .returned (.int .i64 u) ∧ Below W.heap.size W W' := by
  have hge := wireI_ge w h a b
  by_cases h0 : 0 ≤ wireI w h a b
  · have C := Lib.hid (wire_any (W := W) hT (if_pos h0) (decide_eq_true h0))
    rw [hu] at C
    clear hu h0 hge hT
    go_enter Tryd.func23, Tryd.ntmps23
    go_wp2_with (fail)
    refine C.out.mono ?_
    rintro e w1 ⟨rfl, B1⟩
    go_wp2
    go_ret
    exact ⟨rfl, B1⟩
  · have C := Lib.hid (wire_any (W := W) hT (if_neg h0) (decide_eq_false h0))
    have HU := Lib.hid (show u = -1 by omega)
    clear hu h0 hge hT
    go_enter Tryd.func23, Tryd.ntmps23
    go_wp2_with (fail)
    refine C.out.mono ?_
    rintro e w1 ⟨rfl, B1⟩
    go_wp2
    go_ret
    exact ⟨ret_int HU.out.symm, B1⟩
end Go.Proofs.YthcfjnedpffbbaaDoor
