/-
  Chapter 16's program, the two routes: what is proved here is what RouteXY, RouteYX and slices.Reverse of ints return, and that they write nothing that was there. No condition.
-/
import Derived.Test.YthcfjnedpffbbaaDoorImp16c
namespace Go.Proofs.YthcfjnedpffbbaaDoor
open Go.RowKit

theorem Duo2.under {w w' : World} {B n : Nat} {e : TypeId} {x y : Int} (h : Duo2 w B e x y) (hb : Below n w w') (hn : B < n) : Duo2 w' B e x y := (hb.block B hn).trans h
theorem route_cons {w a : Nat} (x y p q : Nat) (hx : a % w = x) (hy : a / w = y) : [(a : Int)] ++ nodes w (xyR x y p q) = nodes w (xyS x y p q) := by
  unfold xyS nodes
  rw [← hx, ← hy]
  simp [atN_of]
theorem route_last {w x y p q : Nat} (hx : x < 5) (hy : y < 5) (hp : p < 5) (hq : q < 5) : (nodes w (xyS x y p q))[(nodes w (xyS x y p q)).length - 1]? = some ((atN w (p, q) : Nat) : Int) := by
  have h1 := (all_routes x hx y hy p hp q hq).2.2.1
  have h2 := (routes_len hx hy hp hq).1
  have h3 := nodes_at w (xyS x y p q) (i := (xyS x y p q).length - 1) (by omega)
  rw [h1] at h3
  rw [nodes_len, List.getElem?_eq_getElem (by rw [nodes_len]; omega)]
  rw [List.getD_eq_getElem?_getD, List.getElem?_eq_getElem (by rw [nodes_len]; omega)] at h3
  exact congrArg some h3
theorem nodes_app (w : Nat) (a b : List (Nat × Nat)) : nodes w (a ++ b) = nodes w a ++ nodes w b := by simp [nodes]
set_option maxRecDepth 100000 in
set_option maxHeartbeats 8000000 in
theorem implRouteXY_any (w h a b : Int) (W : World) : Calls Tryd.prog 16 #[.int .i64 w, .int .i64 h, .int .i64 a, .int .i64 b] W fun e W' => ∃ A' n' c', e = .returned (.slice A' n' c') ∧ Own W' W.heap.size 3 A' n' c' (ints .i64 (routeXY w h a b)) ∧ Below W.heap.size W W' := by
  by_cases ka : okN w h a
  rotate_left
  · have C1 := Lib.hid (fun W => isNode_b (W := W) (decide_eq_false ka))
    have e1 : routeXY w h a b = [] := by unfold routeXY; rw [if_neg (fun k => ka k.1)]
    rw [e1]
    clear ka e1
    go_enter Tryd.func16, Tryd.ntmps16
    go_wp2_with (fail)
    refine (C1.out _).mono ?_
    rintro e w1 ⟨rfl, B1⟩
    have T1 := bel_trans (below_alloc16 W _) B1
    go_wp2
    go_ret
    exact ⟨_, _, _, rfl, World.ownsRow_nil _ _ _ _, T1⟩
  by_cases kb : okN w h b
  rotate_left
  · have C1 := Lib.hid (fun W => isNode_b (W := W) (decide_eq_true ka))
    have C2 := Lib.hid (fun W => isNode_b (W := W) (decide_eq_false kb))
    have e1 : routeXY w h a b = [] := by unfold routeXY; rw [if_neg (fun k => kb k.2)]
    rw [e1]
    clear ka kb e1
    go_enter Tryd.func16, Tryd.ntmps16
    go_wp2_with (fail)
    refine (C1.out _).mono ?_
    rintro e w1 ⟨rfl, B1⟩
    have K1 := (duo2_alloc W 51 w h).bel B1
    have T1 := bel_trans (below_alloc16 W _) B1
    obtain ⟨u0, u1⟩ := K1.cells
    go_wp2_with (fail)
    refine (C2.out _).mono ?_
    rintro e w2 ⟨rfl, B2⟩
    have T2 := bel_trans T1 B2
    go_wp2
    go_ret
    exact ⟨_, _, _, rfl, World.ownsRow_nil _ _ _ _, T2⟩
  have hla := okN_lt ka
  have hlb := okN_lt kb
  have C1 := Lib.hid (fun W => isNode_b (W := W) (decide_eq_true ka))
  have C2 := Lib.hid (fun W => isNode_b (W := W) (decide_eq_true kb))
  have e1 : routeXY w h a b = xyL w.toNat a.toNat b.toNat := by unfold routeXY; rw [if_pos ⟨ka, kb⟩]
  rw [e1]
  clear e1
  obtain ⟨W0, H0, n, rfl, rfl, rfl, hw, hh, hxw, hyw⟩ := spot_of ka
  obtain ⟨W1, H1, m, hq1, hq2, rfl, _, _, hpw, hqw⟩ := spot_of kb
  obtain rfl : W0 = W1 := by omega
  obtain rfl : H0 = H1 := by omega
  clear hq1 hq2
  have S1 := Lib.hid (fun W => spotOf_any (w := W0) (a := n) (h := (H0 : Int)) (W := W) (by omega) (by omega) (by omega))
  have S2 := Lib.hid (fun W => spotOf_any (w := W0) (a := m) (h := (H0 : Int)) (W := W) (by omega) (by omega) (by omega))
  have hG : ∀ x y p q, n % W0 = x → n / W0 = y → m % W0 = p → m / W0 = q → xyL (W0 : Int).toNat (n : Int).toNat (m : Int).toNat = nodes W0 (xyS x y p q) := by
    rintro x y p q rfl rfl rfl rfl
    rfl
  obtain ⟨x, hx⟩ : ∃ x, n % W0 = x := ⟨_, rfl⟩
  obtain ⟨y, hy⟩ : ∃ y, n / W0 = y := ⟨_, rfl⟩
  obtain ⟨p, hp⟩ : ∃ p, m % W0 = p := ⟨_, rfl⟩
  obtain ⟨q, hq⟩ : ∃ q, m / W0 = q := ⟨_, rfl⟩
  rw [hG x y p q hx hy hp hq]
  rw [hx, hy] at S1
  rw [hp, hq] at S2
  rw [hx] at hxw
  rw [hy] at hyw
  rw [hp] at hpw
  rw [hq] at hqw
  have HX := Lib.hid (show n % W0 = x ∧ n / W0 = y from ⟨hx, hy⟩)
  clear hx hy hp hq hG
  go_enter Tryd.func16, Tryd.ntmps16
  go_wp2_with (fail)
  refine (C1.out _).mono ?_
  rintro e w1 ⟨rfl, B1⟩
  have K1 := (duo2_alloc W 51 (W0 : Int) (H0 : Int)).bel B1
  have T1 := bel_trans (below_alloc16 W _) B1
  obtain ⟨u0, u1⟩ := K1.cells
  go_wp2_with (fail)
  refine (C2.out _).mono ?_
  rintro e w2 ⟨rfl, B2⟩
  have T2 := bel_trans T1 B2
  have K2 := K1.bel B2
  obtain ⟨u20, u21⟩ := K2.cells
  clear u0 u1 K1 B1 B2 T1
  go_upto_region 4 with fail
  go_cut [10, 11] from 25 to 42 (fun s t wx => ∃ R8 R9, s = .pointer (some ⟨R8, 0, none⟩) ∧ t = .pointer (some ⟨R9, 0, none⟩) ∧ Duo2 wx R8 54 (x : Int) (y : Int) ∧ Duo2 wx R9 54 (p : Int) (q : Int) ∧ Duo2 wx W.heap.size 51 (W0 : Int) (H0 : Int) ∧ Below W.heap.size W wx)
  case first =>
    obtain ⟨X0, hX⟩ : ∃ X0, w2.drew = X0 := ⟨_, rfl⟩
    have KB : Duo2 X0 W.heap.size 51 (W0 : Int) (H0 : Int) := hX ▸ K2
    have T : Below W.heap.size W X0 := hX ▸ T2.drew
    obtain ⟨e0, e1⟩ := KB.cells
    refine wp_region_held_drew (S := (fun w' => w'.cell? ⟨W.heap.size, 0, none⟩ = some (.int .i64 (W0 : Int)) ∧ w'.cell? ⟨W.heap.size, 1, none⟩ = some (.int .i64 (H0 : Int)))) (by kernel_rfl) ?_ (fun hHeld => ?_)
    · rw [hX]; exact ⟨e0, e1⟩
    rw [hX] at hHeld ⊢
    clear hX e0 e1 T2 K2 C1 C2
    refine wpAnyH_take (i := 0) (v := ?_) rfl (by kernel_rfl) (by kernel_rfl) (by kernel_rfl) (fun _ _ _ h => h) (Or.inl ⟨by rfl, ?_⟩) (by assumption) ?_
    rotate_left
    (intro wS hSw; (try dsimp only at hSw); go_simp; try with_reducible rfl)
    (try simp only [Act.put, List.setIfInBounds_toArray])
    refine wpAnyH_take (i := 1) (v := ?_) rfl (by kernel_rfl) (by kernel_rfl) (by kernel_rfl) (fun _ _ _ h => h) (Or.inl ⟨by rfl, ?_⟩) (by assumption) ?_
    rotate_left
    (intro wS hSw; (try dsimp only at hSw); go_simp; try with_reducible rfl)
    (try simp only [Act.put])
    refine wpAnyH_take (i := 3) (v := ?_) rfl (by kernel_rfl) (by kernel_rfl) (by kernel_rfl) (fun _ _ _ h => h) (Or.inl ⟨by rfl, ?_⟩) (by assumption) ?_
    rotate_left
    (intro wS hSw; (try dsimp only at hSw); go_simp; try with_reducible rfl)
    (try simp only [Act.put])
    refine wpAnyH_take (i := 4) (v := ?_) rfl (by kernel_rfl) (by kernel_rfl) (by kernel_rfl) (fun _ _ _ h => h) (Or.inl ⟨by rfl, ?_⟩) (by assumption) ?_
    rotate_left
    (intro wS hSw; (try dsimp only at hSw); go_simp; try with_reducible rfl)
    (try simp only [Act.put])
    refine wpAnyH_ready (rs := [2, 6, 7]) (by kernel_rfl) (by simp) ?_
    refine AllReadyH.cons rfl (fun K hK => ?_) (AllReadyH.cons rfl (fun K hK => ?_) (AllReadyH.cons rfl (fun K hK => ?_) AllReadyH.nil))
    · go_simp
      go_at_call 49
      refine (S1.out _).mono ?_
      rintro e X1 ⟨rfl, BB⟩
      have KB2 := KB.bel BB
      have T2 := T.trans (BB.mono (by have := T.size; omega))
      obtain ⟨e0, e1⟩ := KB2.cells
      refine hK.out _ _ ?_ ?_
      · exact ⟨e0, e1⟩
      intro hHeld
      clear hK K BB KB T
      have KB := KB2
      have T := T2
      clear KB2 T2 e0 e1
      (try simp only [Act.put, List.setIfInBounds_toArray, List.set_cons_zero, List.set_cons_succ])
      refine wpAnyH_ready (rs := [5, 6, 7]) (by kernel_rfl) (by simp) ?_
      refine AllReadyH.cons rfl (fun K hK => ?_) (AllReadyH.cons rfl (fun K hK => ?_) (AllReadyH.cons rfl (fun K hK => ?_) AllReadyH.nil))
      · go_simp
        go_at_call 49
        refine (S2.out _).mono ?_
        rintro e X2 ⟨rfl, BB⟩
        have KB2 := KB.bel BB
        have T2 := T.trans (BB.mono (by have := T.size; omega))
        obtain ⟨e0, e1⟩ := KB2.cells
        refine hK.out _ _ ?_ ?_
        · exact ⟨e0, e1⟩
        intro hHeld
        clear hK K BB KB T
        have KB := KB2
        have T := T2
        clear KB2 T2 e0 e1
        (try simp only [Act.put, List.setIfInBounds_toArray, List.set_cons_zero, List.set_cons_succ])
        refine wpAnyH_ready (rs := [6, 7]) (by kernel_rfl) (by simp) ?_
        refine AllReadyH.cons rfl (fun K hK => ?_) (AllReadyH.cons rfl (fun K hK => ?_) AllReadyH.nil)
        · go_simp
          obtain ⟨X3, hY⟩ : ∃ Y, X2.alloc (.cells #[.int .i64 0, .int .i64 0] 54) = Y := ⟨_, rfl⟩
          have BB : Below X2.heap.size X2 X3 := hY ▸ below_alloc16 X2 _
          have KB2 := KB.bel BB
          have T2 := T.trans (BB.mono (by have := T.size; omega))
          have G8 : W.heap.size ≤ X2.heap.size := T.size
          have D82 : Duo2 X3 X2.heap.size 54 0 0 := hY ▸ duo2_alloc X2 _ 0 0
          rw [hY]
          clear hY
          obtain ⟨e0, e1⟩ := KB2.cells
          refine hK.out _ _ ?_ ?_
          · exact ⟨e0, e1⟩
          intro hHeld
          clear hK K BB KB T
          have KB := KB2
          have T := T2
          clear KB2 T2 e0 e1
          have D8 := D82
          clear D82
          (try simp only [Act.put, List.setIfInBounds_toArray, List.set_cons_zero, List.set_cons_succ])
          refine wpAnyH_ready (rs := [7]) (by kernel_rfl) (by simp) ?_
          refine AllReadyH.cons rfl (fun K hK => ?_) AllReadyH.nil
          · go_simp
            obtain ⟨X4, hY⟩ : ∃ Y, X3.alloc (.cells #[.int .i64 0, .int .i64 0] 54) = Y := ⟨_, rfl⟩
            have BB : Below X3.heap.size X3 X4 := hY ▸ below_alloc16 X3 _
            have KB2 := KB.bel BB
            have T2 := T.trans (BB.mono (by have := T.size; omega))
            have D82 := D8.bel BB
            have G9 : W.heap.size ≤ X3.heap.size := T.size
            have D92 : Duo2 X4 X3.heap.size 54 0 0 := hY ▸ duo2_alloc X3 _ 0 0
            have HNE : X2.heap.size ≠ X3.heap.size := by have := D8.lt; omega
            rw [hY]
            clear hY
            obtain ⟨e0, e1⟩ := KB2.cells
            refine hK.out _ _ ?_ ?_
            · exact ⟨e0, e1⟩
            intro hHeld
            clear hK K BB KB T D8
            have KB := KB2
            have T := T2
            clear KB2 T2 e0 e1
            have D8 := D82
            clear D82
            have D9 := D92
            clear D92
            (try simp only [Act.put, List.setIfInBounds_toArray, List.set_cons_zero, List.set_cons_succ])
            obtain ⟨e0, e1⟩ := D8.cells
            have f0 := D8.open_ 0
            have f1 := D8.open_ 1
            have hb8 := D8.apart KB (by decide)
            have hb9 := D9.apart KB (by decide)
            have KB2 := KB.past hb8 (.int .i64 (x : Int)) (.int .i64 (y : Int))
            have D82 := D8.put (x : Int) (y : Int)
            have D92 := D9.past HNE (.int .i64 (x : Int)) (.int .i64 (y : Int))
            have T2 := put_below2 T (show W.heap.size ≤ X2.heap.size by omega) (.int .i64 (x : Int)) (.int .i64 (y : Int))
            refine wpAnyH_ready (rs := [8]) (by kernel_rfl) (by simp) ?_
            refine AllReadyH.cons rfl (fun K hK => ?_) AllReadyH.nil
            go_simp
            obtain ⟨Y, hY⟩ : ∃ Y, (X4.setCell ⟨X2.heap.size, 0, none⟩ (.int .i64 (x : Int))).setCell ⟨X2.heap.size, 1, none⟩ (.int .i64 (y : Int)) = Y := ⟨_, rfl⟩
            rw [hY] at KB2 D82 D92 T2
            rw [hY]
            obtain ⟨h0, h1⟩ := KB2.cells
            refine hK.out _ _ ?_ ?_
            · exact ⟨h0, h1⟩
            intro hHeld
            clear hK K hY e0 e1 f0 f1 KB T D8 D9 h0 h1
            (try simp only [Act.put, List.setIfInBounds_toArray, List.set_cons_zero, List.set_cons_succ])
            obtain ⟨e0, e1⟩ := D92.cells
            have f0 := D92.open_ 0
            have f1 := D92.open_ 1
            have KB3 := KB2.past hb9 (.int .i64 (p : Int)) (.int .i64 (q : Int))
            have D93 := D92.put (p : Int) (q : Int)
            have D83 := D82.past (Ne.symm HNE) (.int .i64 (p : Int)) (.int .i64 (q : Int))
            have T3 := put_below2 T2 (show W.heap.size ≤ X3.heap.size by omega) (.int .i64 (p : Int)) (.int .i64 (q : Int))
            refine wpAnyH_ready (rs := [9]) (by kernel_rfl) (by simp) ?_
            refine AllReadyH.cons rfl (fun K hK => ?_) AllReadyH.nil
            go_simp
            obtain ⟨Z, hZ⟩ : ∃ Z, (Y.setCell ⟨X3.heap.size, 0, none⟩ (.int .i64 (p : Int))).setCell ⟨X3.heap.size, 1, none⟩ (.int .i64 (q : Int)) = Z := ⟨_, rfl⟩
            rw [hZ] at KB3 D83 D93 T3
            rw [hZ]
            obtain ⟨h0, h1⟩ := KB3.cells
            refine hK.out _ _ ?_ ?_
            · exact ⟨h0, h1⟩
            intro hHeld
            clear hK K hZ e0 e1 f0 f1 KB2 T2 D82 D92 h0 h1
            (try simp only [Act.put, List.setIfInBounds_toArray, List.set_cons_zero, List.set_cons_succ])
            refine wpAnyH_done (by kernel_rfl) ?_ _
            go_wp2_with (fail)
            go_meet
            exact ⟨_, _, rfl, rfl, D83, D93, KB3, T3⟩
        · go_simp
          obtain ⟨X5, hY⟩ : ∃ Y, X2.alloc (.cells #[.int .i64 0, .int .i64 0] 54) = Y := ⟨_, rfl⟩
          have BB : Below X2.heap.size X2 X5 := hY ▸ below_alloc16 X2 _
          have KB2 := KB.bel BB
          have T2 := T.trans (BB.mono (by have := T.size; omega))
          have G9 : W.heap.size ≤ X2.heap.size := T.size
          have D92 : Duo2 X5 X2.heap.size 54 0 0 := hY ▸ duo2_alloc X2 _ 0 0
          rw [hY]
          clear hY
          obtain ⟨e0, e1⟩ := KB2.cells
          refine hK.out _ _ ?_ ?_
          · exact ⟨e0, e1⟩
          intro hHeld
          clear hK K BB KB T
          have KB := KB2
          have T := T2
          clear KB2 T2 e0 e1
          have D9 := D92
          clear D92
          (try simp only [Act.put, List.setIfInBounds_toArray, List.set_cons_zero, List.set_cons_succ])
          refine wpAnyH_ready (rs := [6]) (by kernel_rfl) (by simp) ?_
          refine AllReadyH.cons rfl (fun K hK => ?_) AllReadyH.nil
          · go_simp
            obtain ⟨X6, hY⟩ : ∃ Y, X5.alloc (.cells #[.int .i64 0, .int .i64 0] 54) = Y := ⟨_, rfl⟩
            have BB : Below X5.heap.size X5 X6 := hY ▸ below_alloc16 X5 _
            have KB2 := KB.bel BB
            have T2 := T.trans (BB.mono (by have := T.size; omega))
            have D92 := D9.bel BB
            have G8 : W.heap.size ≤ X5.heap.size := T.size
            have D82 : Duo2 X6 X5.heap.size 54 0 0 := hY ▸ duo2_alloc X5 _ 0 0
            have HNE : X5.heap.size ≠ X2.heap.size := by have := D9.lt; omega
            rw [hY]
            clear hY
            obtain ⟨e0, e1⟩ := KB2.cells
            refine hK.out _ _ ?_ ?_
            · exact ⟨e0, e1⟩
            intro hHeld
            clear hK K BB KB T D9
            have KB := KB2
            have T := T2
            clear KB2 T2 e0 e1
            have D8 := D82
            clear D82
            have D9 := D92
            clear D92
            (try simp only [Act.put, List.setIfInBounds_toArray, List.set_cons_zero, List.set_cons_succ])
            obtain ⟨e0, e1⟩ := D8.cells
            have f0 := D8.open_ 0
            have f1 := D8.open_ 1
            have hb8 := D8.apart KB (by decide)
            have hb9 := D9.apart KB (by decide)
            have KB2 := KB.past hb8 (.int .i64 (x : Int)) (.int .i64 (y : Int))
            have D82 := D8.put (x : Int) (y : Int)
            have D92 := D9.past HNE (.int .i64 (x : Int)) (.int .i64 (y : Int))
            have T2 := put_below2 T (show W.heap.size ≤ X5.heap.size by omega) (.int .i64 (x : Int)) (.int .i64 (y : Int))
            refine wpAnyH_ready (rs := [8]) (by kernel_rfl) (by simp) ?_
            refine AllReadyH.cons rfl (fun K hK => ?_) AllReadyH.nil
            go_simp
            obtain ⟨Y, hY⟩ : ∃ Y, (X6.setCell ⟨X5.heap.size, 0, none⟩ (.int .i64 (x : Int))).setCell ⟨X5.heap.size, 1, none⟩ (.int .i64 (y : Int)) = Y := ⟨_, rfl⟩
            rw [hY] at KB2 D82 D92 T2
            rw [hY]
            obtain ⟨h0, h1⟩ := KB2.cells
            refine hK.out _ _ ?_ ?_
            · exact ⟨h0, h1⟩
            intro hHeld
            clear hK K hY e0 e1 f0 f1 KB T D8 D9 h0 h1
            (try simp only [Act.put, List.setIfInBounds_toArray, List.set_cons_zero, List.set_cons_succ])
            obtain ⟨e0, e1⟩ := D92.cells
            have f0 := D92.open_ 0
            have f1 := D92.open_ 1
            have KB3 := KB2.past hb9 (.int .i64 (p : Int)) (.int .i64 (q : Int))
            have D93 := D92.put (p : Int) (q : Int)
            have D83 := D82.past (Ne.symm HNE) (.int .i64 (p : Int)) (.int .i64 (q : Int))
            have T3 := put_below2 T2 (show W.heap.size ≤ X2.heap.size by omega) (.int .i64 (p : Int)) (.int .i64 (q : Int))
            refine wpAnyH_ready (rs := [9]) (by kernel_rfl) (by simp) ?_
            refine AllReadyH.cons rfl (fun K hK => ?_) AllReadyH.nil
            go_simp
            obtain ⟨Z, hZ⟩ : ∃ Z, (Y.setCell ⟨X2.heap.size, 0, none⟩ (.int .i64 (p : Int))).setCell ⟨X2.heap.size, 1, none⟩ (.int .i64 (q : Int)) = Z := ⟨_, rfl⟩
            rw [hZ] at KB3 D83 D93 T3
            rw [hZ]
            obtain ⟨h0, h1⟩ := KB3.cells
            refine hK.out _ _ ?_ ?_
            · exact ⟨h0, h1⟩
            intro hHeld
            clear hK K hZ e0 e1 f0 f1 KB2 T2 D82 D92 h0 h1
            (try simp only [Act.put, List.setIfInBounds_toArray, List.set_cons_zero, List.set_cons_succ])
            refine wpAnyH_done (by kernel_rfl) ?_ _
            go_wp2_with (fail)
            go_meet
            exact ⟨_, _, rfl, rfl, D83, D93, KB3, T3⟩
      · go_simp
        obtain ⟨X7, hY⟩ : ∃ Y, X1.alloc (.cells #[.int .i64 0, .int .i64 0] 54) = Y := ⟨_, rfl⟩
        have BB : Below X1.heap.size X1 X7 := hY ▸ below_alloc16 X1 _
        have KB2 := KB.bel BB
        have T2 := T.trans (BB.mono (by have := T.size; omega))
        have G8 : W.heap.size ≤ X1.heap.size := T.size
        have D82 : Duo2 X7 X1.heap.size 54 0 0 := hY ▸ duo2_alloc X1 _ 0 0
        rw [hY]
        clear hY
        obtain ⟨e0, e1⟩ := KB2.cells
        refine hK.out _ _ ?_ ?_
        · exact ⟨e0, e1⟩
        intro hHeld
        clear hK K BB KB T
        have KB := KB2
        have T := T2
        clear KB2 T2 e0 e1
        have D8 := D82
        clear D82
        (try simp only [Act.put, List.setIfInBounds_toArray, List.set_cons_zero, List.set_cons_succ])
        refine wpAnyH_ready (rs := [5, 7]) (by kernel_rfl) (by simp) ?_
        refine AllReadyH.cons rfl (fun K hK => ?_) (AllReadyH.cons rfl (fun K hK => ?_) AllReadyH.nil)
        · go_simp
          go_at_call 49
          refine (S2.out _).mono ?_
          rintro e X8 ⟨rfl, BB⟩
          have KB2 := KB.bel BB
          have T2 := T.trans (BB.mono (by have := T.size; omega))
          have D82 := D8.bel BB
          obtain ⟨e0, e1⟩ := KB2.cells
          refine hK.out _ _ ?_ ?_
          · exact ⟨e0, e1⟩
          intro hHeld
          clear hK K BB KB T D8
          have KB := KB2
          have T := T2
          clear KB2 T2 e0 e1
          have D8 := D82
          clear D82
          (try simp only [Act.put, List.setIfInBounds_toArray, List.set_cons_zero, List.set_cons_succ])
          refine wpAnyH_ready (rs := [7]) (by kernel_rfl) (by simp) ?_
          refine AllReadyH.cons rfl (fun K hK => ?_) AllReadyH.nil
          · go_simp
            obtain ⟨X9, hY⟩ : ∃ Y, X8.alloc (.cells #[.int .i64 0, .int .i64 0] 54) = Y := ⟨_, rfl⟩
            have BB : Below X8.heap.size X8 X9 := hY ▸ below_alloc16 X8 _
            have KB2 := KB.bel BB
            have T2 := T.trans (BB.mono (by have := T.size; omega))
            have D82 := D8.bel BB
            have G9 : W.heap.size ≤ X8.heap.size := T.size
            have D92 : Duo2 X9 X8.heap.size 54 0 0 := hY ▸ duo2_alloc X8 _ 0 0
            have HNE : X1.heap.size ≠ X8.heap.size := by have := D8.lt; omega
            rw [hY]
            clear hY
            obtain ⟨e0, e1⟩ := KB2.cells
            refine hK.out _ _ ?_ ?_
            · exact ⟨e0, e1⟩
            intro hHeld
            clear hK K BB KB T D8
            have KB := KB2
            have T := T2
            clear KB2 T2 e0 e1
            have D8 := D82
            clear D82
            have D9 := D92
            clear D92
            (try simp only [Act.put, List.setIfInBounds_toArray, List.set_cons_zero, List.set_cons_succ])
            obtain ⟨e0, e1⟩ := D8.cells
            have f0 := D8.open_ 0
            have f1 := D8.open_ 1
            have hb8 := D8.apart KB (by decide)
            have hb9 := D9.apart KB (by decide)
            have KB2 := KB.past hb8 (.int .i64 (x : Int)) (.int .i64 (y : Int))
            have D82 := D8.put (x : Int) (y : Int)
            have D92 := D9.past HNE (.int .i64 (x : Int)) (.int .i64 (y : Int))
            have T2 := put_below2 T (show W.heap.size ≤ X1.heap.size by omega) (.int .i64 (x : Int)) (.int .i64 (y : Int))
            refine wpAnyH_ready (rs := [8]) (by kernel_rfl) (by simp) ?_
            refine AllReadyH.cons rfl (fun K hK => ?_) AllReadyH.nil
            go_simp
            obtain ⟨Y, hY⟩ : ∃ Y, (X9.setCell ⟨X1.heap.size, 0, none⟩ (.int .i64 (x : Int))).setCell ⟨X1.heap.size, 1, none⟩ (.int .i64 (y : Int)) = Y := ⟨_, rfl⟩
            rw [hY] at KB2 D82 D92 T2
            rw [hY]
            obtain ⟨h0, h1⟩ := KB2.cells
            refine hK.out _ _ ?_ ?_
            · exact ⟨h0, h1⟩
            intro hHeld
            clear hK K hY e0 e1 f0 f1 KB T D8 D9 h0 h1
            (try simp only [Act.put, List.setIfInBounds_toArray, List.set_cons_zero, List.set_cons_succ])
            obtain ⟨e0, e1⟩ := D92.cells
            have f0 := D92.open_ 0
            have f1 := D92.open_ 1
            have KB3 := KB2.past hb9 (.int .i64 (p : Int)) (.int .i64 (q : Int))
            have D93 := D92.put (p : Int) (q : Int)
            have D83 := D82.past (Ne.symm HNE) (.int .i64 (p : Int)) (.int .i64 (q : Int))
            have T3 := put_below2 T2 (show W.heap.size ≤ X8.heap.size by omega) (.int .i64 (p : Int)) (.int .i64 (q : Int))
            refine wpAnyH_ready (rs := [9]) (by kernel_rfl) (by simp) ?_
            refine AllReadyH.cons rfl (fun K hK => ?_) AllReadyH.nil
            go_simp
            obtain ⟨Z, hZ⟩ : ∃ Z, (Y.setCell ⟨X8.heap.size, 0, none⟩ (.int .i64 (p : Int))).setCell ⟨X8.heap.size, 1, none⟩ (.int .i64 (q : Int)) = Z := ⟨_, rfl⟩
            rw [hZ] at KB3 D83 D93 T3
            rw [hZ]
            obtain ⟨h0, h1⟩ := KB3.cells
            refine hK.out _ _ ?_ ?_
            · exact ⟨h0, h1⟩
            intro hHeld
            clear hK K hZ e0 e1 f0 f1 KB2 T2 D82 D92 h0 h1
            (try simp only [Act.put, List.setIfInBounds_toArray, List.set_cons_zero, List.set_cons_succ])
            refine wpAnyH_done (by kernel_rfl) ?_ _
            go_wp2_with (fail)
            go_meet
            exact ⟨_, _, rfl, rfl, D83, D93, KB3, T3⟩
        · go_simp
          obtain ⟨X10, hY⟩ : ∃ Y, X7.alloc (.cells #[.int .i64 0, .int .i64 0] 54) = Y := ⟨_, rfl⟩
          have BB : Below X7.heap.size X7 X10 := hY ▸ below_alloc16 X7 _
          have KB2 := KB.bel BB
          have T2 := T.trans (BB.mono (by have := T.size; omega))
          have D82 := D8.bel BB
          have G9 : W.heap.size ≤ X7.heap.size := T.size
          have D92 : Duo2 X10 X7.heap.size 54 0 0 := hY ▸ duo2_alloc X7 _ 0 0
          have HNE : X1.heap.size ≠ X7.heap.size := by have := D8.lt; omega
          rw [hY]
          clear hY
          obtain ⟨e0, e1⟩ := KB2.cells
          refine hK.out _ _ ?_ ?_
          · exact ⟨e0, e1⟩
          intro hHeld
          clear hK K BB KB T D8
          have KB := KB2
          have T := T2
          clear KB2 T2 e0 e1
          have D8 := D82
          clear D82
          have D9 := D92
          clear D92
          (try simp only [Act.put, List.setIfInBounds_toArray, List.set_cons_zero, List.set_cons_succ])
          refine wpAnyH_ready (rs := [5]) (by kernel_rfl) (by simp) ?_
          refine AllReadyH.cons rfl (fun K hK => ?_) AllReadyH.nil
          · go_simp
            go_at_call 49
            refine (S2.out _).mono ?_
            rintro e X11 ⟨rfl, BB⟩
            have KB2 := KB.bel BB
            have T2 := T.trans (BB.mono (by have := T.size; omega))
            have D82 := D8.bel BB
            have D92 := D9.bel BB
            obtain ⟨e0, e1⟩ := KB2.cells
            refine hK.out _ _ ?_ ?_
            · exact ⟨e0, e1⟩
            intro hHeld
            clear hK K BB KB T D8 D9
            have KB := KB2
            have T := T2
            clear KB2 T2 e0 e1
            have D8 := D82
            clear D82
            have D9 := D92
            clear D92
            (try simp only [Act.put, List.setIfInBounds_toArray, List.set_cons_zero, List.set_cons_succ])
            obtain ⟨e0, e1⟩ := D8.cells
            have f0 := D8.open_ 0
            have f1 := D8.open_ 1
            have hb8 := D8.apart KB (by decide)
            have hb9 := D9.apart KB (by decide)
            have KB2 := KB.past hb8 (.int .i64 (x : Int)) (.int .i64 (y : Int))
            have D82 := D8.put (x : Int) (y : Int)
            have D92 := D9.past HNE (.int .i64 (x : Int)) (.int .i64 (y : Int))
            have T2 := put_below2 T (show W.heap.size ≤ X1.heap.size by omega) (.int .i64 (x : Int)) (.int .i64 (y : Int))
            refine wpAnyH_ready (rs := [8]) (by kernel_rfl) (by simp) ?_
            refine AllReadyH.cons rfl (fun K hK => ?_) AllReadyH.nil
            go_simp
            obtain ⟨Y, hY⟩ : ∃ Y, (X11.setCell ⟨X1.heap.size, 0, none⟩ (.int .i64 (x : Int))).setCell ⟨X1.heap.size, 1, none⟩ (.int .i64 (y : Int)) = Y := ⟨_, rfl⟩
            rw [hY] at KB2 D82 D92 T2
            rw [hY]
            obtain ⟨h0, h1⟩ := KB2.cells
            refine hK.out _ _ ?_ ?_
            · exact ⟨h0, h1⟩
            intro hHeld
            clear hK K hY e0 e1 f0 f1 KB T D8 D9 h0 h1
            (try simp only [Act.put, List.setIfInBounds_toArray, List.set_cons_zero, List.set_cons_succ])
            obtain ⟨e0, e1⟩ := D92.cells
            have f0 := D92.open_ 0
            have f1 := D92.open_ 1
            have KB3 := KB2.past hb9 (.int .i64 (p : Int)) (.int .i64 (q : Int))
            have D93 := D92.put (p : Int) (q : Int)
            have D83 := D82.past (Ne.symm HNE) (.int .i64 (p : Int)) (.int .i64 (q : Int))
            have T3 := put_below2 T2 (show W.heap.size ≤ X7.heap.size by omega) (.int .i64 (p : Int)) (.int .i64 (q : Int))
            refine wpAnyH_ready (rs := [9]) (by kernel_rfl) (by simp) ?_
            refine AllReadyH.cons rfl (fun K hK => ?_) AllReadyH.nil
            go_simp
            obtain ⟨Z, hZ⟩ : ∃ Z, (Y.setCell ⟨X7.heap.size, 0, none⟩ (.int .i64 (p : Int))).setCell ⟨X7.heap.size, 1, none⟩ (.int .i64 (q : Int)) = Z := ⟨_, rfl⟩
            rw [hZ] at KB3 D83 D93 T3
            rw [hZ]
            obtain ⟨h0, h1⟩ := KB3.cells
            refine hK.out _ _ ?_ ?_
            · exact ⟨h0, h1⟩
            intro hHeld
            clear hK K hZ e0 e1 f0 f1 KB2 T2 D82 D92 h0 h1
            (try simp only [Act.put, List.setIfInBounds_toArray, List.set_cons_zero, List.set_cons_succ])
            refine wpAnyH_done (by kernel_rfl) ?_ _
            go_wp2_with (fail)
            go_meet
            exact ⟨_, _, rfl, rfl, D83, D93, KB3, T3⟩
      · go_simp
        obtain ⟨X12, hY⟩ : ∃ Y, X1.alloc (.cells #[.int .i64 0, .int .i64 0] 54) = Y := ⟨_, rfl⟩
        have BB : Below X1.heap.size X1 X12 := hY ▸ below_alloc16 X1 _
        have KB2 := KB.bel BB
        have T2 := T.trans (BB.mono (by have := T.size; omega))
        have G9 : W.heap.size ≤ X1.heap.size := T.size
        have D92 : Duo2 X12 X1.heap.size 54 0 0 := hY ▸ duo2_alloc X1 _ 0 0
        rw [hY]
        clear hY
        obtain ⟨e0, e1⟩ := KB2.cells
        refine hK.out _ _ ?_ ?_
        · exact ⟨e0, e1⟩
        intro hHeld
        clear hK K BB KB T
        have KB := KB2
        have T := T2
        clear KB2 T2 e0 e1
        have D9 := D92
        clear D92
        (try simp only [Act.put, List.setIfInBounds_toArray, List.set_cons_zero, List.set_cons_succ])
        refine wpAnyH_ready (rs := [5, 6]) (by kernel_rfl) (by simp) ?_
        refine AllReadyH.cons rfl (fun K hK => ?_) (AllReadyH.cons rfl (fun K hK => ?_) AllReadyH.nil)
        · go_simp
          go_at_call 49
          refine (S2.out _).mono ?_
          rintro e X13 ⟨rfl, BB⟩
          have KB2 := KB.bel BB
          have T2 := T.trans (BB.mono (by have := T.size; omega))
          have D92 := D9.bel BB
          obtain ⟨e0, e1⟩ := KB2.cells
          refine hK.out _ _ ?_ ?_
          · exact ⟨e0, e1⟩
          intro hHeld
          clear hK K BB KB T D9
          have KB := KB2
          have T := T2
          clear KB2 T2 e0 e1
          have D9 := D92
          clear D92
          (try simp only [Act.put, List.setIfInBounds_toArray, List.set_cons_zero, List.set_cons_succ])
          refine wpAnyH_ready (rs := [6]) (by kernel_rfl) (by simp) ?_
          refine AllReadyH.cons rfl (fun K hK => ?_) AllReadyH.nil
          · go_simp
            obtain ⟨X14, hY⟩ : ∃ Y, X13.alloc (.cells #[.int .i64 0, .int .i64 0] 54) = Y := ⟨_, rfl⟩
            have BB : Below X13.heap.size X13 X14 := hY ▸ below_alloc16 X13 _
            have KB2 := KB.bel BB
            have T2 := T.trans (BB.mono (by have := T.size; omega))
            have D92 := D9.bel BB
            have G8 : W.heap.size ≤ X13.heap.size := T.size
            have D82 : Duo2 X14 X13.heap.size 54 0 0 := hY ▸ duo2_alloc X13 _ 0 0
            have HNE : X13.heap.size ≠ X1.heap.size := by have := D9.lt; omega
            rw [hY]
            clear hY
            obtain ⟨e0, e1⟩ := KB2.cells
            refine hK.out _ _ ?_ ?_
            · exact ⟨e0, e1⟩
            intro hHeld
            clear hK K BB KB T D9
            have KB := KB2
            have T := T2
            clear KB2 T2 e0 e1
            have D8 := D82
            clear D82
            have D9 := D92
            clear D92
            (try simp only [Act.put, List.setIfInBounds_toArray, List.set_cons_zero, List.set_cons_succ])
            obtain ⟨e0, e1⟩ := D8.cells
            have f0 := D8.open_ 0
            have f1 := D8.open_ 1
            have hb8 := D8.apart KB (by decide)
            have hb9 := D9.apart KB (by decide)
            have KB2 := KB.past hb8 (.int .i64 (x : Int)) (.int .i64 (y : Int))
            have D82 := D8.put (x : Int) (y : Int)
            have D92 := D9.past HNE (.int .i64 (x : Int)) (.int .i64 (y : Int))
            have T2 := put_below2 T (show W.heap.size ≤ X13.heap.size by omega) (.int .i64 (x : Int)) (.int .i64 (y : Int))
            refine wpAnyH_ready (rs := [8]) (by kernel_rfl) (by simp) ?_
            refine AllReadyH.cons rfl (fun K hK => ?_) AllReadyH.nil
            go_simp
            obtain ⟨Y, hY⟩ : ∃ Y, (X14.setCell ⟨X13.heap.size, 0, none⟩ (.int .i64 (x : Int))).setCell ⟨X13.heap.size, 1, none⟩ (.int .i64 (y : Int)) = Y := ⟨_, rfl⟩
            rw [hY] at KB2 D82 D92 T2
            rw [hY]
            obtain ⟨h0, h1⟩ := KB2.cells
            refine hK.out _ _ ?_ ?_
            · exact ⟨h0, h1⟩
            intro hHeld
            clear hK K hY e0 e1 f0 f1 KB T D8 D9 h0 h1
            (try simp only [Act.put, List.setIfInBounds_toArray, List.set_cons_zero, List.set_cons_succ])
            obtain ⟨e0, e1⟩ := D92.cells
            have f0 := D92.open_ 0
            have f1 := D92.open_ 1
            have KB3 := KB2.past hb9 (.int .i64 (p : Int)) (.int .i64 (q : Int))
            have D93 := D92.put (p : Int) (q : Int)
            have D83 := D82.past (Ne.symm HNE) (.int .i64 (p : Int)) (.int .i64 (q : Int))
            have T3 := put_below2 T2 (show W.heap.size ≤ X1.heap.size by omega) (.int .i64 (p : Int)) (.int .i64 (q : Int))
            refine wpAnyH_ready (rs := [9]) (by kernel_rfl) (by simp) ?_
            refine AllReadyH.cons rfl (fun K hK => ?_) AllReadyH.nil
            go_simp
            obtain ⟨Z, hZ⟩ : ∃ Z, (Y.setCell ⟨X1.heap.size, 0, none⟩ (.int .i64 (p : Int))).setCell ⟨X1.heap.size, 1, none⟩ (.int .i64 (q : Int)) = Z := ⟨_, rfl⟩
            rw [hZ] at KB3 D83 D93 T3
            rw [hZ]
            obtain ⟨h0, h1⟩ := KB3.cells
            refine hK.out _ _ ?_ ?_
            · exact ⟨h0, h1⟩
            intro hHeld
            clear hK K hZ e0 e1 f0 f1 KB2 T2 D82 D92 h0 h1
            (try simp only [Act.put, List.setIfInBounds_toArray, List.set_cons_zero, List.set_cons_succ])
            refine wpAnyH_done (by kernel_rfl) ?_ _
            go_wp2_with (fail)
            go_meet
            exact ⟨_, _, rfl, rfl, D83, D93, KB3, T3⟩
        · go_simp
          obtain ⟨X15, hY⟩ : ∃ Y, X12.alloc (.cells #[.int .i64 0, .int .i64 0] 54) = Y := ⟨_, rfl⟩
          have BB : Below X12.heap.size X12 X15 := hY ▸ below_alloc16 X12 _
          have KB2 := KB.bel BB
          have T2 := T.trans (BB.mono (by have := T.size; omega))
          have D92 := D9.bel BB
          have G8 : W.heap.size ≤ X12.heap.size := T.size
          have D82 : Duo2 X15 X12.heap.size 54 0 0 := hY ▸ duo2_alloc X12 _ 0 0
          have HNE : X12.heap.size ≠ X1.heap.size := by have := D9.lt; omega
          rw [hY]
          clear hY
          obtain ⟨e0, e1⟩ := KB2.cells
          refine hK.out _ _ ?_ ?_
          · exact ⟨e0, e1⟩
          intro hHeld
          clear hK K BB KB T D9
          have KB := KB2
          have T := T2
          clear KB2 T2 e0 e1
          have D8 := D82
          clear D82
          have D9 := D92
          clear D92
          (try simp only [Act.put, List.setIfInBounds_toArray, List.set_cons_zero, List.set_cons_succ])
          refine wpAnyH_ready (rs := [5]) (by kernel_rfl) (by simp) ?_
          refine AllReadyH.cons rfl (fun K hK => ?_) AllReadyH.nil
          · go_simp
            go_at_call 49
            refine (S2.out _).mono ?_
            rintro e X16 ⟨rfl, BB⟩
            have KB2 := KB.bel BB
            have T2 := T.trans (BB.mono (by have := T.size; omega))
            have D82 := D8.bel BB
            have D92 := D9.bel BB
            obtain ⟨e0, e1⟩ := KB2.cells
            refine hK.out _ _ ?_ ?_
            · exact ⟨e0, e1⟩
            intro hHeld
            clear hK K BB KB T D8 D9
            have KB := KB2
            have T := T2
            clear KB2 T2 e0 e1
            have D8 := D82
            clear D82
            have D9 := D92
            clear D92
            (try simp only [Act.put, List.setIfInBounds_toArray, List.set_cons_zero, List.set_cons_succ])
            obtain ⟨e0, e1⟩ := D8.cells
            have f0 := D8.open_ 0
            have f1 := D8.open_ 1
            have hb8 := D8.apart KB (by decide)
            have hb9 := D9.apart KB (by decide)
            have KB2 := KB.past hb8 (.int .i64 (x : Int)) (.int .i64 (y : Int))
            have D82 := D8.put (x : Int) (y : Int)
            have D92 := D9.past HNE (.int .i64 (x : Int)) (.int .i64 (y : Int))
            have T2 := put_below2 T (show W.heap.size ≤ X12.heap.size by omega) (.int .i64 (x : Int)) (.int .i64 (y : Int))
            refine wpAnyH_ready (rs := [8]) (by kernel_rfl) (by simp) ?_
            refine AllReadyH.cons rfl (fun K hK => ?_) AllReadyH.nil
            go_simp
            obtain ⟨Y, hY⟩ : ∃ Y, (X16.setCell ⟨X12.heap.size, 0, none⟩ (.int .i64 (x : Int))).setCell ⟨X12.heap.size, 1, none⟩ (.int .i64 (y : Int)) = Y := ⟨_, rfl⟩
            rw [hY] at KB2 D82 D92 T2
            rw [hY]
            obtain ⟨h0, h1⟩ := KB2.cells
            refine hK.out _ _ ?_ ?_
            · exact ⟨h0, h1⟩
            intro hHeld
            clear hK K hY e0 e1 f0 f1 KB T D8 D9 h0 h1
            (try simp only [Act.put, List.setIfInBounds_toArray, List.set_cons_zero, List.set_cons_succ])
            obtain ⟨e0, e1⟩ := D92.cells
            have f0 := D92.open_ 0
            have f1 := D92.open_ 1
            have KB3 := KB2.past hb9 (.int .i64 (p : Int)) (.int .i64 (q : Int))
            have D93 := D92.put (p : Int) (q : Int)
            have D83 := D82.past (Ne.symm HNE) (.int .i64 (p : Int)) (.int .i64 (q : Int))
            have T3 := put_below2 T2 (show W.heap.size ≤ X1.heap.size by omega) (.int .i64 (p : Int)) (.int .i64 (q : Int))
            refine wpAnyH_ready (rs := [9]) (by kernel_rfl) (by simp) ?_
            refine AllReadyH.cons rfl (fun K hK => ?_) AllReadyH.nil
            go_simp
            obtain ⟨Z, hZ⟩ : ∃ Z, (Y.setCell ⟨X1.heap.size, 0, none⟩ (.int .i64 (p : Int))).setCell ⟨X1.heap.size, 1, none⟩ (.int .i64 (q : Int)) = Z := ⟨_, rfl⟩
            rw [hZ] at KB3 D83 D93 T3
            rw [hZ]
            obtain ⟨h0, h1⟩ := KB3.cells
            refine hK.out _ _ ?_ ?_
            · exact ⟨h0, h1⟩
            intro hHeld
            clear hK K hZ e0 e1 f0 f1 KB2 T2 D82 D92 h0 h1
            (try simp only [Act.put, List.setIfInBounds_toArray, List.set_cons_zero, List.set_cons_succ])
            refine wpAnyH_done (by kernel_rfl) ?_ _
            go_wp2_with (fail)
            go_meet
            exact ⟨_, _, rfl, rfl, D83, D93, KB3, T3⟩
    · go_simp
      obtain ⟨X17, hY⟩ : ∃ Y, X0.alloc (.cells #[.int .i64 0, .int .i64 0] 54) = Y := ⟨_, rfl⟩
      have BB : Below X0.heap.size X0 X17 := hY ▸ below_alloc16 X0 _
      have KB2 := KB.bel BB
      have T2 := T.trans (BB.mono (by have := T.size; omega))
      have G8 : W.heap.size ≤ X0.heap.size := T.size
      have D82 : Duo2 X17 X0.heap.size 54 0 0 := hY ▸ duo2_alloc X0 _ 0 0
      rw [hY]
      clear hY
      obtain ⟨e0, e1⟩ := KB2.cells
      refine hK.out _ _ ?_ ?_
      · exact ⟨e0, e1⟩
      intro hHeld
      clear hK K BB KB T
      have KB := KB2
      have T := T2
      clear KB2 T2 e0 e1
      have D8 := D82
      clear D82
      (try simp only [Act.put, List.setIfInBounds_toArray, List.set_cons_zero, List.set_cons_succ])
      refine wpAnyH_ready (rs := [2, 7]) (by kernel_rfl) (by simp) ?_
      refine AllReadyH.cons rfl (fun K hK => ?_) (AllReadyH.cons rfl (fun K hK => ?_) AllReadyH.nil)
      · go_simp
        go_at_call 49
        refine (S1.out _).mono ?_
        rintro e X18 ⟨rfl, BB⟩
        have KB2 := KB.bel BB
        have T2 := T.trans (BB.mono (by have := T.size; omega))
        have D82 := D8.bel BB
        obtain ⟨e0, e1⟩ := KB2.cells
        refine hK.out _ _ ?_ ?_
        · exact ⟨e0, e1⟩
        intro hHeld
        clear hK K BB KB T D8
        have KB := KB2
        have T := T2
        clear KB2 T2 e0 e1
        have D8 := D82
        clear D82
        (try simp only [Act.put, List.setIfInBounds_toArray, List.set_cons_zero, List.set_cons_succ])
        refine wpAnyH_ready (rs := [5, 7]) (by kernel_rfl) (by simp) ?_
        refine AllReadyH.cons rfl (fun K hK => ?_) (AllReadyH.cons rfl (fun K hK => ?_) AllReadyH.nil)
        · go_simp
          go_at_call 49
          refine (S2.out _).mono ?_
          rintro e X19 ⟨rfl, BB⟩
          have KB2 := KB.bel BB
          have T2 := T.trans (BB.mono (by have := T.size; omega))
          have D82 := D8.bel BB
          obtain ⟨e0, e1⟩ := KB2.cells
          refine hK.out _ _ ?_ ?_
          · exact ⟨e0, e1⟩
          intro hHeld
          clear hK K BB KB T D8
          have KB := KB2
          have T := T2
          clear KB2 T2 e0 e1
          have D8 := D82
          clear D82
          (try simp only [Act.put, List.setIfInBounds_toArray, List.set_cons_zero, List.set_cons_succ])
          refine wpAnyH_ready (rs := [7]) (by kernel_rfl) (by simp) ?_
          refine AllReadyH.cons rfl (fun K hK => ?_) AllReadyH.nil
          · go_simp
            obtain ⟨X20, hY⟩ : ∃ Y, X19.alloc (.cells #[.int .i64 0, .int .i64 0] 54) = Y := ⟨_, rfl⟩
            have BB : Below X19.heap.size X19 X20 := hY ▸ below_alloc16 X19 _
            have KB2 := KB.bel BB
            have T2 := T.trans (BB.mono (by have := T.size; omega))
            have D82 := D8.bel BB
            have G9 : W.heap.size ≤ X19.heap.size := T.size
            have D92 : Duo2 X20 X19.heap.size 54 0 0 := hY ▸ duo2_alloc X19 _ 0 0
            have HNE : X0.heap.size ≠ X19.heap.size := by have := D8.lt; omega
            rw [hY]
            clear hY
            obtain ⟨e0, e1⟩ := KB2.cells
            refine hK.out _ _ ?_ ?_
            · exact ⟨e0, e1⟩
            intro hHeld
            clear hK K BB KB T D8
            have KB := KB2
            have T := T2
            clear KB2 T2 e0 e1
            have D8 := D82
            clear D82
            have D9 := D92
            clear D92
            (try simp only [Act.put, List.setIfInBounds_toArray, List.set_cons_zero, List.set_cons_succ])
            obtain ⟨e0, e1⟩ := D8.cells
            have f0 := D8.open_ 0
            have f1 := D8.open_ 1
            have hb8 := D8.apart KB (by decide)
            have hb9 := D9.apart KB (by decide)
            have KB2 := KB.past hb8 (.int .i64 (x : Int)) (.int .i64 (y : Int))
            have D82 := D8.put (x : Int) (y : Int)
            have D92 := D9.past HNE (.int .i64 (x : Int)) (.int .i64 (y : Int))
            have T2 := put_below2 T (show W.heap.size ≤ X0.heap.size by omega) (.int .i64 (x : Int)) (.int .i64 (y : Int))
            refine wpAnyH_ready (rs := [8]) (by kernel_rfl) (by simp) ?_
            refine AllReadyH.cons rfl (fun K hK => ?_) AllReadyH.nil
            go_simp
            obtain ⟨Y, hY⟩ : ∃ Y, (X20.setCell ⟨X0.heap.size, 0, none⟩ (.int .i64 (x : Int))).setCell ⟨X0.heap.size, 1, none⟩ (.int .i64 (y : Int)) = Y := ⟨_, rfl⟩
            rw [hY] at KB2 D82 D92 T2
            rw [hY]
            obtain ⟨h0, h1⟩ := KB2.cells
            refine hK.out _ _ ?_ ?_
            · exact ⟨h0, h1⟩
            intro hHeld
            clear hK K hY e0 e1 f0 f1 KB T D8 D9 h0 h1
            (try simp only [Act.put, List.setIfInBounds_toArray, List.set_cons_zero, List.set_cons_succ])
            obtain ⟨e0, e1⟩ := D92.cells
            have f0 := D92.open_ 0
            have f1 := D92.open_ 1
            have KB3 := KB2.past hb9 (.int .i64 (p : Int)) (.int .i64 (q : Int))
            have D93 := D92.put (p : Int) (q : Int)
            have D83 := D82.past (Ne.symm HNE) (.int .i64 (p : Int)) (.int .i64 (q : Int))
            have T3 := put_below2 T2 (show W.heap.size ≤ X19.heap.size by omega) (.int .i64 (p : Int)) (.int .i64 (q : Int))
            refine wpAnyH_ready (rs := [9]) (by kernel_rfl) (by simp) ?_
            refine AllReadyH.cons rfl (fun K hK => ?_) AllReadyH.nil
            go_simp
            obtain ⟨Z, hZ⟩ : ∃ Z, (Y.setCell ⟨X19.heap.size, 0, none⟩ (.int .i64 (p : Int))).setCell ⟨X19.heap.size, 1, none⟩ (.int .i64 (q : Int)) = Z := ⟨_, rfl⟩
            rw [hZ] at KB3 D83 D93 T3
            rw [hZ]
            obtain ⟨h0, h1⟩ := KB3.cells
            refine hK.out _ _ ?_ ?_
            · exact ⟨h0, h1⟩
            intro hHeld
            clear hK K hZ e0 e1 f0 f1 KB2 T2 D82 D92 h0 h1
            (try simp only [Act.put, List.setIfInBounds_toArray, List.set_cons_zero, List.set_cons_succ])
            refine wpAnyH_done (by kernel_rfl) ?_ _
            go_wp2_with (fail)
            go_meet
            exact ⟨_, _, rfl, rfl, D83, D93, KB3, T3⟩
        · go_simp
          obtain ⟨X21, hY⟩ : ∃ Y, X18.alloc (.cells #[.int .i64 0, .int .i64 0] 54) = Y := ⟨_, rfl⟩
          have BB : Below X18.heap.size X18 X21 := hY ▸ below_alloc16 X18 _
          have KB2 := KB.bel BB
          have T2 := T.trans (BB.mono (by have := T.size; omega))
          have D82 := D8.bel BB
          have G9 : W.heap.size ≤ X18.heap.size := T.size
          have D92 : Duo2 X21 X18.heap.size 54 0 0 := hY ▸ duo2_alloc X18 _ 0 0
          have HNE : X0.heap.size ≠ X18.heap.size := by have := D8.lt; omega
          rw [hY]
          clear hY
          obtain ⟨e0, e1⟩ := KB2.cells
          refine hK.out _ _ ?_ ?_
          · exact ⟨e0, e1⟩
          intro hHeld
          clear hK K BB KB T D8
          have KB := KB2
          have T := T2
          clear KB2 T2 e0 e1
          have D8 := D82
          clear D82
          have D9 := D92
          clear D92
          (try simp only [Act.put, List.setIfInBounds_toArray, List.set_cons_zero, List.set_cons_succ])
          refine wpAnyH_ready (rs := [5]) (by kernel_rfl) (by simp) ?_
          refine AllReadyH.cons rfl (fun K hK => ?_) AllReadyH.nil
          · go_simp
            go_at_call 49
            refine (S2.out _).mono ?_
            rintro e X22 ⟨rfl, BB⟩
            have KB2 := KB.bel BB
            have T2 := T.trans (BB.mono (by have := T.size; omega))
            have D82 := D8.bel BB
            have D92 := D9.bel BB
            obtain ⟨e0, e1⟩ := KB2.cells
            refine hK.out _ _ ?_ ?_
            · exact ⟨e0, e1⟩
            intro hHeld
            clear hK K BB KB T D8 D9
            have KB := KB2
            have T := T2
            clear KB2 T2 e0 e1
            have D8 := D82
            clear D82
            have D9 := D92
            clear D92
            (try simp only [Act.put, List.setIfInBounds_toArray, List.set_cons_zero, List.set_cons_succ])
            obtain ⟨e0, e1⟩ := D8.cells
            have f0 := D8.open_ 0
            have f1 := D8.open_ 1
            have hb8 := D8.apart KB (by decide)
            have hb9 := D9.apart KB (by decide)
            have KB2 := KB.past hb8 (.int .i64 (x : Int)) (.int .i64 (y : Int))
            have D82 := D8.put (x : Int) (y : Int)
            have D92 := D9.past HNE (.int .i64 (x : Int)) (.int .i64 (y : Int))
            have T2 := put_below2 T (show W.heap.size ≤ X0.heap.size by omega) (.int .i64 (x : Int)) (.int .i64 (y : Int))
            refine wpAnyH_ready (rs := [8]) (by kernel_rfl) (by simp) ?_
            refine AllReadyH.cons rfl (fun K hK => ?_) AllReadyH.nil
            go_simp
            obtain ⟨Y, hY⟩ : ∃ Y, (X22.setCell ⟨X0.heap.size, 0, none⟩ (.int .i64 (x : Int))).setCell ⟨X0.heap.size, 1, none⟩ (.int .i64 (y : Int)) = Y := ⟨_, rfl⟩
            rw [hY] at KB2 D82 D92 T2
            rw [hY]
            obtain ⟨h0, h1⟩ := KB2.cells
            refine hK.out _ _ ?_ ?_
            · exact ⟨h0, h1⟩
            intro hHeld
            clear hK K hY e0 e1 f0 f1 KB T D8 D9 h0 h1
            (try simp only [Act.put, List.setIfInBounds_toArray, List.set_cons_zero, List.set_cons_succ])
            obtain ⟨e0, e1⟩ := D92.cells
            have f0 := D92.open_ 0
            have f1 := D92.open_ 1
            have KB3 := KB2.past hb9 (.int .i64 (p : Int)) (.int .i64 (q : Int))
            have D93 := D92.put (p : Int) (q : Int)
            have D83 := D82.past (Ne.symm HNE) (.int .i64 (p : Int)) (.int .i64 (q : Int))
            have T3 := put_below2 T2 (show W.heap.size ≤ X18.heap.size by omega) (.int .i64 (p : Int)) (.int .i64 (q : Int))
            refine wpAnyH_ready (rs := [9]) (by kernel_rfl) (by simp) ?_
            refine AllReadyH.cons rfl (fun K hK => ?_) AllReadyH.nil
            go_simp
            obtain ⟨Z, hZ⟩ : ∃ Z, (Y.setCell ⟨X18.heap.size, 0, none⟩ (.int .i64 (p : Int))).setCell ⟨X18.heap.size, 1, none⟩ (.int .i64 (q : Int)) = Z := ⟨_, rfl⟩
            rw [hZ] at KB3 D83 D93 T3
            rw [hZ]
            obtain ⟨h0, h1⟩ := KB3.cells
            refine hK.out _ _ ?_ ?_
            · exact ⟨h0, h1⟩
            intro hHeld
            clear hK K hZ e0 e1 f0 f1 KB2 T2 D82 D92 h0 h1
            (try simp only [Act.put, List.setIfInBounds_toArray, List.set_cons_zero, List.set_cons_succ])
            refine wpAnyH_done (by kernel_rfl) ?_ _
            go_wp2_with (fail)
            go_meet
            exact ⟨_, _, rfl, rfl, D83, D93, KB3, T3⟩
      · go_simp
        obtain ⟨X23, hY⟩ : ∃ Y, X17.alloc (.cells #[.int .i64 0, .int .i64 0] 54) = Y := ⟨_, rfl⟩
        have BB : Below X17.heap.size X17 X23 := hY ▸ below_alloc16 X17 _
        have KB2 := KB.bel BB
        have T2 := T.trans (BB.mono (by have := T.size; omega))
        have D82 := D8.bel BB
        have G9 : W.heap.size ≤ X17.heap.size := T.size
        have D92 : Duo2 X23 X17.heap.size 54 0 0 := hY ▸ duo2_alloc X17 _ 0 0
        have HNE : X0.heap.size ≠ X17.heap.size := by have := D8.lt; omega
        rw [hY]
        clear hY
        obtain ⟨e0, e1⟩ := KB2.cells
        refine hK.out _ _ ?_ ?_
        · exact ⟨e0, e1⟩
        intro hHeld
        clear hK K BB KB T D8
        have KB := KB2
        have T := T2
        clear KB2 T2 e0 e1
        have D8 := D82
        clear D82
        have D9 := D92
        clear D92
        (try simp only [Act.put, List.setIfInBounds_toArray, List.set_cons_zero, List.set_cons_succ])
        refine wpAnyH_ready (rs := [2]) (by kernel_rfl) (by simp) ?_
        refine AllReadyH.cons rfl (fun K hK => ?_) AllReadyH.nil
        · go_simp
          go_at_call 49
          refine (S1.out _).mono ?_
          rintro e X24 ⟨rfl, BB⟩
          have KB2 := KB.bel BB
          have T2 := T.trans (BB.mono (by have := T.size; omega))
          have D82 := D8.bel BB
          have D92 := D9.bel BB
          obtain ⟨e0, e1⟩ := KB2.cells
          refine hK.out _ _ ?_ ?_
          · exact ⟨e0, e1⟩
          intro hHeld
          clear hK K BB KB T D8 D9
          have KB := KB2
          have T := T2
          clear KB2 T2 e0 e1
          have D8 := D82
          clear D82
          have D9 := D92
          clear D92
          (try simp only [Act.put, List.setIfInBounds_toArray, List.set_cons_zero, List.set_cons_succ])
          refine wpAnyH_ready (rs := [5]) (by kernel_rfl) (by simp) ?_
          refine AllReadyH.cons rfl (fun K hK => ?_) AllReadyH.nil
          · go_simp
            go_at_call 49
            refine (S2.out _).mono ?_
            rintro e X25 ⟨rfl, BB⟩
            have KB2 := KB.bel BB
            have T2 := T.trans (BB.mono (by have := T.size; omega))
            have D82 := D8.bel BB
            have D92 := D9.bel BB
            obtain ⟨e0, e1⟩ := KB2.cells
            refine hK.out _ _ ?_ ?_
            · exact ⟨e0, e1⟩
            intro hHeld
            clear hK K BB KB T D8 D9
            have KB := KB2
            have T := T2
            clear KB2 T2 e0 e1
            have D8 := D82
            clear D82
            have D9 := D92
            clear D92
            (try simp only [Act.put, List.setIfInBounds_toArray, List.set_cons_zero, List.set_cons_succ])
            obtain ⟨e0, e1⟩ := D8.cells
            have f0 := D8.open_ 0
            have f1 := D8.open_ 1
            have hb8 := D8.apart KB (by decide)
            have hb9 := D9.apart KB (by decide)
            have KB2 := KB.past hb8 (.int .i64 (x : Int)) (.int .i64 (y : Int))
            have D82 := D8.put (x : Int) (y : Int)
            have D92 := D9.past HNE (.int .i64 (x : Int)) (.int .i64 (y : Int))
            have T2 := put_below2 T (show W.heap.size ≤ X0.heap.size by omega) (.int .i64 (x : Int)) (.int .i64 (y : Int))
            refine wpAnyH_ready (rs := [8]) (by kernel_rfl) (by simp) ?_
            refine AllReadyH.cons rfl (fun K hK => ?_) AllReadyH.nil
            go_simp
            obtain ⟨Y, hY⟩ : ∃ Y, (X25.setCell ⟨X0.heap.size, 0, none⟩ (.int .i64 (x : Int))).setCell ⟨X0.heap.size, 1, none⟩ (.int .i64 (y : Int)) = Y := ⟨_, rfl⟩
            rw [hY] at KB2 D82 D92 T2
            rw [hY]
            obtain ⟨h0, h1⟩ := KB2.cells
            refine hK.out _ _ ?_ ?_
            · exact ⟨h0, h1⟩
            intro hHeld
            clear hK K hY e0 e1 f0 f1 KB T D8 D9 h0 h1
            (try simp only [Act.put, List.setIfInBounds_toArray, List.set_cons_zero, List.set_cons_succ])
            obtain ⟨e0, e1⟩ := D92.cells
            have f0 := D92.open_ 0
            have f1 := D92.open_ 1
            have KB3 := KB2.past hb9 (.int .i64 (p : Int)) (.int .i64 (q : Int))
            have D93 := D92.put (p : Int) (q : Int)
            have D83 := D82.past (Ne.symm HNE) (.int .i64 (p : Int)) (.int .i64 (q : Int))
            have T3 := put_below2 T2 (show W.heap.size ≤ X17.heap.size by omega) (.int .i64 (p : Int)) (.int .i64 (q : Int))
            refine wpAnyH_ready (rs := [9]) (by kernel_rfl) (by simp) ?_
            refine AllReadyH.cons rfl (fun K hK => ?_) AllReadyH.nil
            go_simp
            obtain ⟨Z, hZ⟩ : ∃ Z, (Y.setCell ⟨X17.heap.size, 0, none⟩ (.int .i64 (p : Int))).setCell ⟨X17.heap.size, 1, none⟩ (.int .i64 (q : Int)) = Z := ⟨_, rfl⟩
            rw [hZ] at KB3 D83 D93 T3
            rw [hZ]
            obtain ⟨h0, h1⟩ := KB3.cells
            refine hK.out _ _ ?_ ?_
            · exact ⟨h0, h1⟩
            intro hHeld
            clear hK K hZ e0 e1 f0 f1 KB2 T2 D82 D92 h0 h1
            (try simp only [Act.put, List.setIfInBounds_toArray, List.set_cons_zero, List.set_cons_succ])
            refine wpAnyH_done (by kernel_rfl) ?_ _
            go_wp2_with (fail)
            go_meet
            exact ⟨_, _, rfl, rfl, D83, D93, KB3, T3⟩
    · go_simp
      obtain ⟨X26, hY⟩ : ∃ Y, X0.alloc (.cells #[.int .i64 0, .int .i64 0] 54) = Y := ⟨_, rfl⟩
      have BB : Below X0.heap.size X0 X26 := hY ▸ below_alloc16 X0 _
      have KB2 := KB.bel BB
      have T2 := T.trans (BB.mono (by have := T.size; omega))
      have G9 : W.heap.size ≤ X0.heap.size := T.size
      have D92 : Duo2 X26 X0.heap.size 54 0 0 := hY ▸ duo2_alloc X0 _ 0 0
      rw [hY]
      clear hY
      obtain ⟨e0, e1⟩ := KB2.cells
      refine hK.out _ _ ?_ ?_
      · exact ⟨e0, e1⟩
      intro hHeld
      clear hK K BB KB T
      have KB := KB2
      have T := T2
      clear KB2 T2 e0 e1
      have D9 := D92
      clear D92
      (try simp only [Act.put, List.setIfInBounds_toArray, List.set_cons_zero, List.set_cons_succ])
      refine wpAnyH_ready (rs := [2, 6]) (by kernel_rfl) (by simp) ?_
      refine AllReadyH.cons rfl (fun K hK => ?_) (AllReadyH.cons rfl (fun K hK => ?_) AllReadyH.nil)
      · go_simp
        go_at_call 49
        refine (S1.out _).mono ?_
        rintro e X27 ⟨rfl, BB⟩
        have KB2 := KB.bel BB
        have T2 := T.trans (BB.mono (by have := T.size; omega))
        have D92 := D9.bel BB
        obtain ⟨e0, e1⟩ := KB2.cells
        refine hK.out _ _ ?_ ?_
        · exact ⟨e0, e1⟩
        intro hHeld
        clear hK K BB KB T D9
        have KB := KB2
        have T := T2
        clear KB2 T2 e0 e1
        have D9 := D92
        clear D92
        (try simp only [Act.put, List.setIfInBounds_toArray, List.set_cons_zero, List.set_cons_succ])
        refine wpAnyH_ready (rs := [5, 6]) (by kernel_rfl) (by simp) ?_
        refine AllReadyH.cons rfl (fun K hK => ?_) (AllReadyH.cons rfl (fun K hK => ?_) AllReadyH.nil)
        · go_simp
          go_at_call 49
          refine (S2.out _).mono ?_
          rintro e X28 ⟨rfl, BB⟩
          have KB2 := KB.bel BB
          have T2 := T.trans (BB.mono (by have := T.size; omega))
          have D92 := D9.bel BB
          obtain ⟨e0, e1⟩ := KB2.cells
          refine hK.out _ _ ?_ ?_
          · exact ⟨e0, e1⟩
          intro hHeld
          clear hK K BB KB T D9
          have KB := KB2
          have T := T2
          clear KB2 T2 e0 e1
          have D9 := D92
          clear D92
          (try simp only [Act.put, List.setIfInBounds_toArray, List.set_cons_zero, List.set_cons_succ])
          refine wpAnyH_ready (rs := [6]) (by kernel_rfl) (by simp) ?_
          refine AllReadyH.cons rfl (fun K hK => ?_) AllReadyH.nil
          · go_simp
            obtain ⟨X29, hY⟩ : ∃ Y, X28.alloc (.cells #[.int .i64 0, .int .i64 0] 54) = Y := ⟨_, rfl⟩
            have BB : Below X28.heap.size X28 X29 := hY ▸ below_alloc16 X28 _
            have KB2 := KB.bel BB
            have T2 := T.trans (BB.mono (by have := T.size; omega))
            have D92 := D9.bel BB
            have G8 : W.heap.size ≤ X28.heap.size := T.size
            have D82 : Duo2 X29 X28.heap.size 54 0 0 := hY ▸ duo2_alloc X28 _ 0 0
            have HNE : X28.heap.size ≠ X0.heap.size := by have := D9.lt; omega
            rw [hY]
            clear hY
            obtain ⟨e0, e1⟩ := KB2.cells
            refine hK.out _ _ ?_ ?_
            · exact ⟨e0, e1⟩
            intro hHeld
            clear hK K BB KB T D9
            have KB := KB2
            have T := T2
            clear KB2 T2 e0 e1
            have D8 := D82
            clear D82
            have D9 := D92
            clear D92
            (try simp only [Act.put, List.setIfInBounds_toArray, List.set_cons_zero, List.set_cons_succ])
            obtain ⟨e0, e1⟩ := D8.cells
            have f0 := D8.open_ 0
            have f1 := D8.open_ 1
            have hb8 := D8.apart KB (by decide)
            have hb9 := D9.apart KB (by decide)
            have KB2 := KB.past hb8 (.int .i64 (x : Int)) (.int .i64 (y : Int))
            have D82 := D8.put (x : Int) (y : Int)
            have D92 := D9.past HNE (.int .i64 (x : Int)) (.int .i64 (y : Int))
            have T2 := put_below2 T (show W.heap.size ≤ X28.heap.size by omega) (.int .i64 (x : Int)) (.int .i64 (y : Int))
            refine wpAnyH_ready (rs := [8]) (by kernel_rfl) (by simp) ?_
            refine AllReadyH.cons rfl (fun K hK => ?_) AllReadyH.nil
            go_simp
            obtain ⟨Y, hY⟩ : ∃ Y, (X29.setCell ⟨X28.heap.size, 0, none⟩ (.int .i64 (x : Int))).setCell ⟨X28.heap.size, 1, none⟩ (.int .i64 (y : Int)) = Y := ⟨_, rfl⟩
            rw [hY] at KB2 D82 D92 T2
            rw [hY]
            obtain ⟨h0, h1⟩ := KB2.cells
            refine hK.out _ _ ?_ ?_
            · exact ⟨h0, h1⟩
            intro hHeld
            clear hK K hY e0 e1 f0 f1 KB T D8 D9 h0 h1
            (try simp only [Act.put, List.setIfInBounds_toArray, List.set_cons_zero, List.set_cons_succ])
            obtain ⟨e0, e1⟩ := D92.cells
            have f0 := D92.open_ 0
            have f1 := D92.open_ 1
            have KB3 := KB2.past hb9 (.int .i64 (p : Int)) (.int .i64 (q : Int))
            have D93 := D92.put (p : Int) (q : Int)
            have D83 := D82.past (Ne.symm HNE) (.int .i64 (p : Int)) (.int .i64 (q : Int))
            have T3 := put_below2 T2 (show W.heap.size ≤ X0.heap.size by omega) (.int .i64 (p : Int)) (.int .i64 (q : Int))
            refine wpAnyH_ready (rs := [9]) (by kernel_rfl) (by simp) ?_
            refine AllReadyH.cons rfl (fun K hK => ?_) AllReadyH.nil
            go_simp
            obtain ⟨Z, hZ⟩ : ∃ Z, (Y.setCell ⟨X0.heap.size, 0, none⟩ (.int .i64 (p : Int))).setCell ⟨X0.heap.size, 1, none⟩ (.int .i64 (q : Int)) = Z := ⟨_, rfl⟩
            rw [hZ] at KB3 D83 D93 T3
            rw [hZ]
            obtain ⟨h0, h1⟩ := KB3.cells
            refine hK.out _ _ ?_ ?_
            · exact ⟨h0, h1⟩
            intro hHeld
            clear hK K hZ e0 e1 f0 f1 KB2 T2 D82 D92 h0 h1
            (try simp only [Act.put, List.setIfInBounds_toArray, List.set_cons_zero, List.set_cons_succ])
            refine wpAnyH_done (by kernel_rfl) ?_ _
            go_wp2_with (fail)
            go_meet
            exact ⟨_, _, rfl, rfl, D83, D93, KB3, T3⟩
        · go_simp
          obtain ⟨X30, hY⟩ : ∃ Y, X27.alloc (.cells #[.int .i64 0, .int .i64 0] 54) = Y := ⟨_, rfl⟩
          have BB : Below X27.heap.size X27 X30 := hY ▸ below_alloc16 X27 _
          have KB2 := KB.bel BB
          have T2 := T.trans (BB.mono (by have := T.size; omega))
          have D92 := D9.bel BB
          have G8 : W.heap.size ≤ X27.heap.size := T.size
          have D82 : Duo2 X30 X27.heap.size 54 0 0 := hY ▸ duo2_alloc X27 _ 0 0
          have HNE : X27.heap.size ≠ X0.heap.size := by have := D9.lt; omega
          rw [hY]
          clear hY
          obtain ⟨e0, e1⟩ := KB2.cells
          refine hK.out _ _ ?_ ?_
          · exact ⟨e0, e1⟩
          intro hHeld
          clear hK K BB KB T D9
          have KB := KB2
          have T := T2
          clear KB2 T2 e0 e1
          have D8 := D82
          clear D82
          have D9 := D92
          clear D92
          (try simp only [Act.put, List.setIfInBounds_toArray, List.set_cons_zero, List.set_cons_succ])
          refine wpAnyH_ready (rs := [5]) (by kernel_rfl) (by simp) ?_
          refine AllReadyH.cons rfl (fun K hK => ?_) AllReadyH.nil
          · go_simp
            go_at_call 49
            refine (S2.out _).mono ?_
            rintro e X31 ⟨rfl, BB⟩
            have KB2 := KB.bel BB
            have T2 := T.trans (BB.mono (by have := T.size; omega))
            have D82 := D8.bel BB
            have D92 := D9.bel BB
            obtain ⟨e0, e1⟩ := KB2.cells
            refine hK.out _ _ ?_ ?_
            · exact ⟨e0, e1⟩
            intro hHeld
            clear hK K BB KB T D8 D9
            have KB := KB2
            have T := T2
            clear KB2 T2 e0 e1
            have D8 := D82
            clear D82
            have D9 := D92
            clear D92
            (try simp only [Act.put, List.setIfInBounds_toArray, List.set_cons_zero, List.set_cons_succ])
            obtain ⟨e0, e1⟩ := D8.cells
            have f0 := D8.open_ 0
            have f1 := D8.open_ 1
            have hb8 := D8.apart KB (by decide)
            have hb9 := D9.apart KB (by decide)
            have KB2 := KB.past hb8 (.int .i64 (x : Int)) (.int .i64 (y : Int))
            have D82 := D8.put (x : Int) (y : Int)
            have D92 := D9.past HNE (.int .i64 (x : Int)) (.int .i64 (y : Int))
            have T2 := put_below2 T (show W.heap.size ≤ X27.heap.size by omega) (.int .i64 (x : Int)) (.int .i64 (y : Int))
            refine wpAnyH_ready (rs := [8]) (by kernel_rfl) (by simp) ?_
            refine AllReadyH.cons rfl (fun K hK => ?_) AllReadyH.nil
            go_simp
            obtain ⟨Y, hY⟩ : ∃ Y, (X31.setCell ⟨X27.heap.size, 0, none⟩ (.int .i64 (x : Int))).setCell ⟨X27.heap.size, 1, none⟩ (.int .i64 (y : Int)) = Y := ⟨_, rfl⟩
            rw [hY] at KB2 D82 D92 T2
            rw [hY]
            obtain ⟨h0, h1⟩ := KB2.cells
            refine hK.out _ _ ?_ ?_
            · exact ⟨h0, h1⟩
            intro hHeld
            clear hK K hY e0 e1 f0 f1 KB T D8 D9 h0 h1
            (try simp only [Act.put, List.setIfInBounds_toArray, List.set_cons_zero, List.set_cons_succ])
            obtain ⟨e0, e1⟩ := D92.cells
            have f0 := D92.open_ 0
            have f1 := D92.open_ 1
            have KB3 := KB2.past hb9 (.int .i64 (p : Int)) (.int .i64 (q : Int))
            have D93 := D92.put (p : Int) (q : Int)
            have D83 := D82.past (Ne.symm HNE) (.int .i64 (p : Int)) (.int .i64 (q : Int))
            have T3 := put_below2 T2 (show W.heap.size ≤ X0.heap.size by omega) (.int .i64 (p : Int)) (.int .i64 (q : Int))
            refine wpAnyH_ready (rs := [9]) (by kernel_rfl) (by simp) ?_
            refine AllReadyH.cons rfl (fun K hK => ?_) AllReadyH.nil
            go_simp
            obtain ⟨Z, hZ⟩ : ∃ Z, (Y.setCell ⟨X0.heap.size, 0, none⟩ (.int .i64 (p : Int))).setCell ⟨X0.heap.size, 1, none⟩ (.int .i64 (q : Int)) = Z := ⟨_, rfl⟩
            rw [hZ] at KB3 D83 D93 T3
            rw [hZ]
            obtain ⟨h0, h1⟩ := KB3.cells
            refine hK.out _ _ ?_ ?_
            · exact ⟨h0, h1⟩
            intro hHeld
            clear hK K hZ e0 e1 f0 f1 KB2 T2 D82 D92 h0 h1
            (try simp only [Act.put, List.setIfInBounds_toArray, List.set_cons_zero, List.set_cons_succ])
            refine wpAnyH_done (by kernel_rfl) ?_ _
            go_wp2_with (fail)
            go_meet
            exact ⟨_, _, rfl, rfl, D83, D93, KB3, T3⟩
      · go_simp
        obtain ⟨X32, hY⟩ : ∃ Y, X26.alloc (.cells #[.int .i64 0, .int .i64 0] 54) = Y := ⟨_, rfl⟩
        have BB : Below X26.heap.size X26 X32 := hY ▸ below_alloc16 X26 _
        have KB2 := KB.bel BB
        have T2 := T.trans (BB.mono (by have := T.size; omega))
        have D92 := D9.bel BB
        have G8 : W.heap.size ≤ X26.heap.size := T.size
        have D82 : Duo2 X32 X26.heap.size 54 0 0 := hY ▸ duo2_alloc X26 _ 0 0
        have HNE : X26.heap.size ≠ X0.heap.size := by have := D9.lt; omega
        rw [hY]
        clear hY
        obtain ⟨e0, e1⟩ := KB2.cells
        refine hK.out _ _ ?_ ?_
        · exact ⟨e0, e1⟩
        intro hHeld
        clear hK K BB KB T D9
        have KB := KB2
        have T := T2
        clear KB2 T2 e0 e1
        have D8 := D82
        clear D82
        have D9 := D92
        clear D92
        (try simp only [Act.put, List.setIfInBounds_toArray, List.set_cons_zero, List.set_cons_succ])
        refine wpAnyH_ready (rs := [2]) (by kernel_rfl) (by simp) ?_
        refine AllReadyH.cons rfl (fun K hK => ?_) AllReadyH.nil
        · go_simp
          go_at_call 49
          refine (S1.out _).mono ?_
          rintro e X33 ⟨rfl, BB⟩
          have KB2 := KB.bel BB
          have T2 := T.trans (BB.mono (by have := T.size; omega))
          have D82 := D8.bel BB
          have D92 := D9.bel BB
          obtain ⟨e0, e1⟩ := KB2.cells
          refine hK.out _ _ ?_ ?_
          · exact ⟨e0, e1⟩
          intro hHeld
          clear hK K BB KB T D8 D9
          have KB := KB2
          have T := T2
          clear KB2 T2 e0 e1
          have D8 := D82
          clear D82
          have D9 := D92
          clear D92
          (try simp only [Act.put, List.setIfInBounds_toArray, List.set_cons_zero, List.set_cons_succ])
          refine wpAnyH_ready (rs := [5]) (by kernel_rfl) (by simp) ?_
          refine AllReadyH.cons rfl (fun K hK => ?_) AllReadyH.nil
          · go_simp
            go_at_call 49
            refine (S2.out _).mono ?_
            rintro e X34 ⟨rfl, BB⟩
            have KB2 := KB.bel BB
            have T2 := T.trans (BB.mono (by have := T.size; omega))
            have D82 := D8.bel BB
            have D92 := D9.bel BB
            obtain ⟨e0, e1⟩ := KB2.cells
            refine hK.out _ _ ?_ ?_
            · exact ⟨e0, e1⟩
            intro hHeld
            clear hK K BB KB T D8 D9
            have KB := KB2
            have T := T2
            clear KB2 T2 e0 e1
            have D8 := D82
            clear D82
            have D9 := D92
            clear D92
            (try simp only [Act.put, List.setIfInBounds_toArray, List.set_cons_zero, List.set_cons_succ])
            obtain ⟨e0, e1⟩ := D8.cells
            have f0 := D8.open_ 0
            have f1 := D8.open_ 1
            have hb8 := D8.apart KB (by decide)
            have hb9 := D9.apart KB (by decide)
            have KB2 := KB.past hb8 (.int .i64 (x : Int)) (.int .i64 (y : Int))
            have D82 := D8.put (x : Int) (y : Int)
            have D92 := D9.past HNE (.int .i64 (x : Int)) (.int .i64 (y : Int))
            have T2 := put_below2 T (show W.heap.size ≤ X26.heap.size by omega) (.int .i64 (x : Int)) (.int .i64 (y : Int))
            refine wpAnyH_ready (rs := [8]) (by kernel_rfl) (by simp) ?_
            refine AllReadyH.cons rfl (fun K hK => ?_) AllReadyH.nil
            go_simp
            obtain ⟨Y, hY⟩ : ∃ Y, (X34.setCell ⟨X26.heap.size, 0, none⟩ (.int .i64 (x : Int))).setCell ⟨X26.heap.size, 1, none⟩ (.int .i64 (y : Int)) = Y := ⟨_, rfl⟩
            rw [hY] at KB2 D82 D92 T2
            rw [hY]
            obtain ⟨h0, h1⟩ := KB2.cells
            refine hK.out _ _ ?_ ?_
            · exact ⟨h0, h1⟩
            intro hHeld
            clear hK K hY e0 e1 f0 f1 KB T D8 D9 h0 h1
            (try simp only [Act.put, List.setIfInBounds_toArray, List.set_cons_zero, List.set_cons_succ])
            obtain ⟨e0, e1⟩ := D92.cells
            have f0 := D92.open_ 0
            have f1 := D92.open_ 1
            have KB3 := KB2.past hb9 (.int .i64 (p : Int)) (.int .i64 (q : Int))
            have D93 := D92.put (p : Int) (q : Int)
            have D83 := D82.past (Ne.symm HNE) (.int .i64 (p : Int)) (.int .i64 (q : Int))
            have T3 := put_below2 T2 (show W.heap.size ≤ X0.heap.size by omega) (.int .i64 (p : Int)) (.int .i64 (q : Int))
            refine wpAnyH_ready (rs := [9]) (by kernel_rfl) (by simp) ?_
            refine AllReadyH.cons rfl (fun K hK => ?_) AllReadyH.nil
            go_simp
            obtain ⟨Z, hZ⟩ : ∃ Z, (Y.setCell ⟨X0.heap.size, 0, none⟩ (.int .i64 (p : Int))).setCell ⟨X0.heap.size, 1, none⟩ (.int .i64 (q : Int)) = Z := ⟨_, rfl⟩
            rw [hZ] at KB3 D83 D93 T3
            rw [hZ]
            obtain ⟨h0, h1⟩ := KB3.cells
            refine hK.out _ _ ?_ ?_
            · exact ⟨h0, h1⟩
            intro hHeld
            clear hK K hZ e0 e1 f0 f1 KB2 T2 D82 D92 h0 h1
            (try simp only [Act.put, List.setIfInBounds_toArray, List.set_cons_zero, List.set_cons_succ])
            refine wpAnyH_done (by kernel_rfl) ?_ _
            go_wp2_with (fail)
            go_meet
            exact ⟨_, _, rfl, rfl, D83, D93, KB3, T3⟩
  case rest =>
    obtain ⟨R8, R9, rfl, rfl, D8, D9, KB, T⟩ := hcut
    clear S1 S2 C1 C2 K2 T2
    obtain ⟨X0, hX⟩ : ∃ X0, wc.drew = X0 := ⟨_, rfl⟩
    have KB : Duo2 X0 W.heap.size 51 (W0 : Int) (H0 : Int) := hX ▸ KB
    have D8 : Duo2 X0 R8 54 (x : Int) (y : Int) := hX ▸ D8
    have D9 : Duo2 X0 R9 54 (p : Int) (q : Int) := hX ▸ D9
    have T : Below W.heap.size W X0 := hX ▸ T.drew
    obtain ⟨e0, e1⟩ := KB.cells
    obtain ⟨e2, e3⟩ := D8.cells
    obtain ⟨e4, e5⟩ := D9.cells
    go_wp2
    refine wp_region_held_drew (S := (fun w' => (w'.cell? ⟨W.heap.size, 0, none⟩ = some (.int .i64 (W0 : Int)) ∧ w'.cell? ⟨W.heap.size, 1, none⟩ = some (.int .i64 (H0 : Int))) ∧ (w'.cell? ⟨R8, 0, none⟩ = some (.int .i64 (x : Int)) ∧ w'.cell? ⟨R8, 1, none⟩ = some (.int .i64 (y : Int))) ∧ (w'.cell? ⟨R9, 0, none⟩ = some (.int .i64 (p : Int)) ∧ w'.cell? ⟨R9, 1, none⟩ = some (.int .i64 (q : Int))))) (by kernel_rfl) ?_ (fun hHeld => ?_)
    · rw [hX]; exact ⟨⟨e0, e1⟩, ⟨e2, e3⟩, e4, e5⟩
    rw [hX] at hHeld ⊢
    have hx5 : x < 5 := by omega
    have hy5 : y < 5 := by omega
    have hp5 : p < 5 := by omega
    have hq5 : q < 5 := by omega
    clear hX e0 e1 e2 e3 e4 e5
    refine wpAnyH_take (i := 0) (v := ?_) rfl (by kernel_rfl) (by kernel_rfl) (by kernel_rfl) (fun _ _ _ h => h) (Or.inl ⟨by rfl, ?_⟩) (by assumption) ?_
    rotate_left
    (intro wS hSw; (try dsimp only at hSw); go_simp; try with_reducible rfl)
    (try simp only [Act.put, List.setIfInBounds_toArray])
    refine wpAnyH_take (i := 1) (v := ?_) rfl (by kernel_rfl) (by kernel_rfl) (by kernel_rfl) (fun _ _ _ h => h) (Or.inl ⟨by rfl, ?_⟩) (by assumption) ?_
    rotate_left
    (intro wS hSw; (try dsimp only at hSw); go_simp; try with_reducible rfl)
    (try simp only [Act.put])
    refine wpAnyH_take (i := 2) (v := ?_) rfl (by kernel_rfl) (by kernel_rfl) (by kernel_rfl) (fun _ _ _ h => h) (Or.inl ⟨by rfl, ?_⟩) (by assumption) ?_
    rotate_left
    (intro wS hSw; (try dsimp only at hSw); go_simp; try with_reducible rfl)
    (try simp only [Act.put])
    refine wpAnyH_take (i := 4) (v := ?_) rfl (by kernel_rfl) (by kernel_rfl) (by kernel_rfl) (fun _ _ _ h => h) (Or.inl ⟨by rfl, ?_⟩) (by assumption) ?_
    rotate_left
    (intro wS hSw; (try dsimp only at hSw); go_simp; try with_reducible rfl)
    (try simp only [Act.put])
    refine wpAnyH_take (i := 5) (v := ?_) rfl (by kernel_rfl) (by kernel_rfl) (by kernel_rfl) (fun _ _ _ h => h) (Or.inl ⟨by rfl, ?_⟩) (by assumption) ?_
    rotate_left
    (intro wS hSw; (try dsimp only at hSw); go_simp; try with_reducible rfl)
    (try simp only [Act.put])
    refine wpAnyH_take (i := 6) (v := ?_) rfl (by kernel_rfl) (by kernel_rfl) (by kernel_rfl) (fun _ _ _ h => h) (Or.inl ⟨by rfl, ?_⟩) (by assumption) ?_
    rotate_left
    (intro wS hSw; (try dsimp only at hSw); go_simp; try with_reducible rfl)
    (try simp only [Act.put])
    refine wpAnyH_take (i := 7) (v := ?_) rfl (by kernel_rfl) (by kernel_rfl) (by kernel_rfl) (fun _ _ _ h => h) (Or.inl ⟨by rfl, ?_⟩) (by assumption) ?_
    rotate_left
    (intro wS hSw; (try dsimp only at hSw); go_simp; try with_reducible rfl)
    (try simp only [Act.put])
    refine wpAnyH_take (i := 8) (v := ?_) rfl (by kernel_rfl) (by kernel_rfl) (by kernel_rfl) (fun _ _ _ h => h) (Or.inl ⟨by rfl, ?_⟩) (by assumption) ?_
    rotate_left
    (intro wS hSw; (try dsimp only at hSw); go_simp; try with_reducible rfl)
    (try simp only [Act.put])
    refine wpAnyH_take (i := 10) (v := ?_) rfl (by kernel_rfl) (by kernel_rfl) (by kernel_rfl) (fun _ _ _ h => h) (Or.inl ⟨by rfl, ?_⟩) (by assumption) ?_
    rotate_left
    (intro wS hSw; (try dsimp only at hSw); go_simp; try with_reducible rfl)
    (try simp only [Act.put])
    refine wpAnyH_ready (rs := [3]) (by kernel_rfl) (by simp) ?_
    refine AllReadyH.cons rfl (fun K hK => ?_) AllReadyH.nil
    go_simp
    obtain ⟨X1, hX1⟩ : ∃ Y, X0.alloc (.cells #[.int .i64 (n : Int)] 3) = Y := ⟨_, rfl⟩
    have O1 : Own X1 X0.heap.size 3 (some ⟨X0.heap.size, 0, none⟩) 1 1 (ints .i64 [(n : Int)]) := hX1 ▸ litI1 X0 (n : Int)
    have BB : Below X0.heap.size X0 X1 := hX1 ▸ below_alloc16 X0 _
    rw [hX1]
    clear hX1
    have KB1 := KB.bel BB
    have D81 := D8.bel BB
    have D91 := D9.bel BB
    have T1 := T.trans (BB.mono (by have := T.size; omega))
    obtain ⟨a0, a1⟩ := KB1.cells
    obtain ⟨a2, a3⟩ := D81.cells
    obtain ⟨a4, a5⟩ := D91.cells
    refine hK.out _ _ ?_ ?_
    · exact ⟨⟨a0, a1⟩, ⟨a2, a3⟩, a4, a5⟩
    intro hHeld
    clear hK K
    (try simp only [Act.put, List.setIfInBounds_toArray, List.set_cons_zero, List.set_cons_succ])
    refine wpAnyH_ready (rs := [9]) (by kernel_rfl) (by simp) ?_
    refine AllReadyH.cons rfl (fun K hK => ?_) AllReadyH.nil
    go_simp
    go_at_call 50
    refine (straight_any (a := n) O1 (by have := BB.size; omega) (by omega) hw rfl (by omega) (by rw [HX.out.1, HX.out.2]; exact ⟨hx5, hy5⟩) ⟨hp5, hy5⟩ (Or.inr HX.out.2)).mono ?_
    rintro e X2 ⟨A2, n2, c2, rfl, O2, B2⟩
    rw [HX.out.1, HX.out.2, route_cons x y p y HX.out.1 HX.out.2] at O2
    have KB2 := KB1.under B2 KB.lt
    have D82 := D81.under B2 D8.lt
    have D92 := D91.under B2 D9.lt
    have T2 := T1.trans (B2.mono (by have := T.size; omega))
    obtain ⟨b0, b1⟩ := KB2.cells
    obtain ⟨b2, b3⟩ := D82.cells
    obtain ⟨b4, b5⟩ := D92.cells
    refine hK.out _ _ ?_ ?_
    · exact ⟨⟨b0, b1⟩, ⟨b2, b3⟩, b4, b5⟩
    intro hHeld
    clear hK K
    (try simp only [Act.put, List.setIfInBounds_toArray, List.set_cons_zero, List.set_cons_succ])
    have hn2 := O2.has.len
    have hn3 : n2 ≤ 30 := by rw [← hn2, nodes_len]; exact (routes_len hx5 hy5 hp5 hy5).1.2
    have hlast := route_last (w := W0) hx5 hy5 hp5 hy5
    rw [hn2] at hlast
    have hmod := atN_mod (w := W0) (s := (p, y)) hpw
    have hbig := atN_lt (w := W0) (h := H0) (s := (p, y)) hpw hyw
    have h25 : W0 * H0 ≤ 5 * 5 := Nat.mul_le_mul hw.2 hh.2
    have hsz := B2.size
    have hsz1 := BB.size
    refine wpAnyH_ready (rs := [11]) (by kernel_rfl) (by simp) ?_
    refine AllReadyH.cons rfl (fun K hK => ?_) AllReadyH.nil
    go_simp
    go_at_call 50
    refine (straight_any (a := atN W0 (p, y)) O2 (by omega) (by omega) hw hlast (by omega) (by rw [hmod.1, hmod.2]; exact ⟨hp5, hy5⟩) ⟨hp5, hq5⟩ (Or.inl hmod.1)).mono ?_
    rintro e X3 ⟨A3, n3, c3, rfl, O3, B3⟩
    rw [hmod.1, hmod.2] at O3
    have KB3 := KB2.under B3 KB.lt
    have D83 := D82.under B3 D8.lt
    have D93 := D92.under B3 D9.lt
    have T3 := T2.trans (B3.mono (by have := T.size; omega))
    obtain ⟨d0, d1⟩ := KB3.cells
    obtain ⟨d2, d3⟩ := D83.cells
    obtain ⟨d4, d5⟩ := D93.cells
    refine hK.out _ _ ?_ ?_
    · exact ⟨⟨d0, d1⟩, ⟨d2, d3⟩, d4, d5⟩
    intro hHeld
    clear hK K
    (try simp only [Act.put, List.setIfInBounds_toArray, List.set_cons_zero, List.set_cons_succ])
    refine wpAnyH_take (i := 12) (v := ?_) rfl (by kernel_rfl) (by kernel_rfl) (by kernel_rfl) (fun _ _ _ h => h) (Or.inl ⟨by rfl, ?_⟩) (by assumption) ?_
    rotate_left
    (intro wS hSw; (try dsimp only at hSw); go_simp; try with_reducible rfl)
    (try simp only [Act.put, List.setIfInBounds_toArray])
    refine wpAnyH_done (by kernel_rfl) ?_ _
    have HE : Hid (nodes W0 (xyS x y p y) ++ nodes W0 (xyR p y p q) = nodes W0 (xyS x y p q)) := by
      show _ = _
      have h9 := (all_steps x hx5 y hy5 p hp5 q hq5).2.2.2.2.1
      rw [← nodes_app]
      unfold xyS
      rw [List.cons_append, h9]
    rw [HE.out] at O3
    have O4 := O3.mono (show W.heap.size ≤ X0.heap.size from T.size)
    go_wp2
    go_ret
    exact ⟨_, _, _, rfl, O4, T3⟩
end Go.Proofs.YthcfjnedpffbbaaDoor
