/-
  Chapter 15's model, its small functions: what is proved here is what l15Time, ExchangeValid, TwiceAhead, WayOf, l15Span and SpanHas return, and that they write nothing that was there. No condition.
-/
import Derived.Test.YtmifhkhanjiklaaRowsQ
import Derived.Test.YtmifhkhanjiklaaPar
namespace Go.Proofs.Ytmifhkhanjiklaa
open Go.RowKit

theorem l15Time_yes {x : Int} (w : World) (h : tmOk x) :
    Calls Try.prog 54 #[.int .i64 x] w fun e w' => e = .returned (.bool true) ∧ w = w' := by
  have C := Lib.hid (l1In_yes x (-1000000) 1000000 w h.1 h.2)
  clear h
  go_enter Try.func54, Try.ntmps54
  go_wp2_with (fail)
  refine C.out.mono ?_
  rintro e w' ⟨rfl, rfl⟩
  go_wp2
  go_ret
  exact ⟨rfl, rfl⟩
theorem l15Time_no {x : Int} (w : World) (h : ¬ tmOk x) :
    Calls Try.prog 54 #[.int .i64 x] w fun e w' => e = .returned (.bool false) ∧ w = w' := by
  have C := Lib.hid (l1In_no x (-1000000) 1000000 w h)
  clear h
  go_enter Try.func54, Try.ntmps54
  go_wp2_with (fail)
  refine C.out.mono ?_
  rintro e w' ⟨rfl, rfl⟩
  go_wp2
  go_ret
  exact ⟨rfl, rfl⟩
set_option maxHeartbeats 2000000 in
theorem specExchangeValid_b {x y z u : Int} {w : World} {b : Bool} (hb : decide (exOk (x, y, z, u)) = b) :
    Calls Try.prog 29 #[.agg #[.int .i64 x, .int .i64 y, .int .i64 z, .int .i64 u]] w fun e w' => e = .returned (.bool b) ∧ Below w.heap.size w w' := by
  have HB := Lib.hid hb
  clear hb
  have BA := (Below.refl w.heap.size w).alloc (Nat.le_refl _) (.cells #[.int .i64 x, .int .i64 y, .int .i64 z, .int .i64 u] 26)
  by_cases h0 : tmOk x
  rotate_left
  · have HE := Lib.hid (show decide (exOk (x, y, z, u)) = false from decide_eq_false fun hh => h0 hh.1)
    have C0 := Lib.hid (fun W => l15Time_no W h0)
    clear h0
    go_enter Try.func29, Try.ntmps29
    go_wp2_with (fail)
    refine (C0.out _).mono ?_
    rintro e w' ⟨rfl, rfl⟩
    go_wp2
    go_ret
    exact ⟨ret_bool (HE.out.symm.trans HB.out), BA⟩
  have C0 := Lib.hid (fun W => l15Time_yes W h0)
  by_cases h1 : tmOk y
  rotate_left
  · have HE := Lib.hid (show decide (exOk (x, y, z, u)) = false from decide_eq_false fun hh => h1 hh.2.1)
    have C1 := Lib.hid (fun W => l15Time_no W h1)
    clear h0 h1
    go_enter Try.func29, Try.ntmps29
    go_wp2_with (fail)
    refine (C0.out _).mono ?_
    rintro e w' ⟨rfl, rfl⟩
    go_wp2_with (fail)
    refine (C1.out _).mono ?_
    rintro e w' ⟨rfl, rfl⟩
    go_wp2
    go_ret
    exact ⟨ret_bool (HE.out.symm.trans HB.out), BA⟩
  have C1 := Lib.hid (fun W => l15Time_yes W h1)
  by_cases h2 : tmOk z
  rotate_left
  · have HE := Lib.hid (show decide (exOk (x, y, z, u)) = false from decide_eq_false fun hh => h2 hh.2.2.1)
    have C2 := Lib.hid (fun W => l15Time_no W h2)
    clear h0 h1 h2
    go_enter Try.func29, Try.ntmps29
    go_wp2_with (fail)
    refine (C0.out _).mono ?_
    rintro e w' ⟨rfl, rfl⟩
    go_wp2_with (fail)
    refine (C1.out _).mono ?_
    rintro e w' ⟨rfl, rfl⟩
    go_wp2_with (fail)
    refine (C2.out _).mono ?_
    rintro e w' ⟨rfl, rfl⟩
    go_wp2
    go_ret
    exact ⟨ret_bool (HE.out.symm.trans HB.out), BA⟩
  have C2 := Lib.hid (fun W => l15Time_yes W h2)
  by_cases h3 : tmOk u
  rotate_left
  · have HE := Lib.hid (show decide (exOk (x, y, z, u)) = false from decide_eq_false fun hh => h3 hh.2.2.2.1)
    have C3 := Lib.hid (fun W => l15Time_no W h3)
    clear h0 h1 h2 h3
    go_enter Try.func29, Try.ntmps29
    go_wp2_with (fail)
    refine (C0.out _).mono ?_
    rintro e w' ⟨rfl, rfl⟩
    go_wp2_with (fail)
    refine (C1.out _).mono ?_
    rintro e w' ⟨rfl, rfl⟩
    go_wp2_with (fail)
    refine (C2.out _).mono ?_
    rintro e w' ⟨rfl, rfl⟩
    go_wp2_with (fail)
    refine (C3.out _).mono ?_
    rintro e w' ⟨rfl, rfl⟩
    go_wp2
    go_ret
    exact ⟨ret_bool (HE.out.symm.trans HB.out), BA⟩
  have C3 := Lib.hid (fun W => l15Time_yes W h3)
  have g0 := h0
  have g1 := h1
  have g2 := h2
  have g3 := h3
  unfold tmOk at g0 g1 g2 g3
  have w1 : IntKind.i64.wrap (u - x) = u - x := IntWalk.i64_in _ (by omega)
  have w2 : IntKind.i64.wrap (z - y) = z - y := IntWalk.i64_in _ (by omega)
  have n1 : -9223372036854775808 ≤ u - x := by omega
  have n2 : u - x ≤ 9223372036854775807 := by omega
  have n3 : -9223372036854775808 ≤ z - y := by omega
  have n4 : z - y ≤ 9223372036854775807 := by omega
  clear g0 g1 g2 g3
  by_cases h4 : x ≤ u
  rotate_left
  · have HE := Lib.hid (show decide (exOk (x, y, z, u)) = false from decide_eq_false fun hh => h4 (by have e1 := hh.2.2.2.2.1; have e2 := hh.2.2.2.2.2; dsimp only at e1 e2; omega))
    have s4 : decide (u ≥ x) = false := by simp; omega
    have t4 : decide (x ≤ u) = false := by simp; omega
    clear h0 h1 h2 h3 h4
    go_enter Try.func29, Try.ntmps29
    go_wp2_with (fail)
    refine (C0.out _).mono ?_
    rintro e w' ⟨rfl, rfl⟩
    go_wp2_with (fail)
    refine (C1.out _).mono ?_
    rintro e w' ⟨rfl, rfl⟩
    go_wp2_with (fail)
    refine (C2.out _).mono ?_
    rintro e w' ⟨rfl, rfl⟩
    go_wp2_with (fail)
    refine (C3.out _).mono ?_
    rintro e w' ⟨rfl, rfl⟩
    go_wp2
    go_ret
    exact ⟨ret_bool (HE.out.symm.trans HB.out), BA⟩
  have s4 : decide (u ≥ x) = true := by simp; omega
  have t4 : decide (x ≤ u) = true := by simp; omega
  by_cases h5 : y ≤ z
  rotate_left
  · have HE := Lib.hid (show decide (exOk (x, y, z, u)) = false from decide_eq_false fun hh => h5 hh.2.2.2.2.1)
    have s5 : decide (z ≥ y) = false := by simp; omega
    have t5 : decide (y ≤ z) = false := by simp; omega
    clear h0 h1 h2 h3 h4 h5
    go_enter Try.func29, Try.ntmps29
    go_wp2_with (fail)
    refine (C0.out _).mono ?_
    rintro e w' ⟨rfl, rfl⟩
    go_wp2_with (fail)
    refine (C1.out _).mono ?_
    rintro e w' ⟨rfl, rfl⟩
    go_wp2_with (fail)
    refine (C2.out _).mono ?_
    rintro e w' ⟨rfl, rfl⟩
    go_wp2_with (fail)
    refine (C3.out _).mono ?_
    rintro e w' ⟨rfl, rfl⟩
    go_wp2
    go_ret
    exact ⟨ret_bool (HE.out.symm.trans HB.out), BA⟩
  have s5 : decide (z ≥ y) = true := by simp; omega
  have t5 : decide (y ≤ z) = true := by simp; omega
  by_cases h6 : z - y ≤ u - x
  rotate_left
  · have HE := Lib.hid (show decide (exOk (x, y, z, u)) = false from decide_eq_false fun hh => h6 hh.2.2.2.2.2)
    have s6 : decide (u - x ≥ z - y) = false := by simp; omega
    have t6 : decide (z - y ≤ u - x) = false := by simp; omega
    clear h0 h1 h2 h3 h4 h5 h6
    go_enter Try.func29, Try.ntmps29
    go_wp2_with (fail)
    refine (C0.out _).mono ?_
    rintro e w' ⟨rfl, rfl⟩
    go_wp2_with (fail)
    refine (C1.out _).mono ?_
    rintro e w' ⟨rfl, rfl⟩
    go_wp2_with (fail)
    refine (C2.out _).mono ?_
    rintro e w' ⟨rfl, rfl⟩
    go_wp2_with (fail)
    refine (C3.out _).mono ?_
    rintro e w' ⟨rfl, rfl⟩
    go_wp2
    go_ret
    exact ⟨ret_bool (HE.out.symm.trans HB.out), BA⟩
  have s6 : decide (u - x ≥ z - y) = true := by simp; omega
  have t6 : decide (z - y ≤ u - x) = true := by simp; omega
  have HE := Lib.hid (show decide (exOk (x, y, z, u)) = true from decide_eq_true (⟨h0, h1, h2, h3, h5, h6⟩))
  clear h0 h1 h2 h3 h4 h5 h6
  go_enter Try.func29, Try.ntmps29
  go_wp2_with (fail)
  refine (C0.out _).mono ?_
  rintro e w' ⟨rfl, rfl⟩
  go_wp2_with (fail)
  refine (C1.out _).mono ?_
  rintro e w' ⟨rfl, rfl⟩
  go_wp2_with (fail)
  refine (C2.out _).mono ?_
  rintro e w' ⟨rfl, rfl⟩
  go_wp2_with (fail)
  refine (C3.out _).mono ?_
  rintro e w' ⟨rfl, rfl⟩
  go_wp2
  go_ret
  exact ⟨ret_bool (HE.out.symm.trans HB.out), BA⟩
set_option maxHeartbeats 2000000 in
theorem specTwiceAhead_r {x y z u v : Int} {w : World} (hv : twI (x, y, z, u) = v) :
    Calls Try.prog 27 #[.agg #[.int .i64 x, .int .i64 y, .int .i64 z, .int .i64 u]] w fun e w' => e = .returned (.int .i64 v) ∧ Below w.heap.size w w' := by
  have HV := Lib.hid hv
  clear hv
  obtain ⟨W1, hW1⟩ : ∃ W1, w.alloc (.cells #[.int .i64 x, .int .i64 y, .int .i64 z, .int .i64 u] 26) = W1 := ⟨_, rfl⟩
  have B1 : Below w.heap.size w W1 := hW1 ▸ below_allocQ w _
  have hR : W1.heap[w.heap.size]? = some (.cells #[.int .i64 x, .int .i64 y, .int .i64 z, .int .i64 u] 26 (0, 0)) := by rw [← hW1]; exact heap_alloc_new w _
  have hlt : w.heap.size < W1.heap.size := (Array.getElem?_eq_some_iff.1 hR).1
  obtain ⟨x0, x1, x2, x3⟩ := cells4Q hR
  by_cases h : exOk (x, y, z, u)
  rotate_left
  · have C := Lib.hid (specExchangeValid_b (w := W1) (decide_eq_false h))
    have HE := Lib.hid (show (0 : Int) = v by rw [← HV.out]; unfold twI; rw [if_neg h])
    clear h
    go_enter Try.func27, Try.ntmps27
    go_wp2_with (fail)
    refine C.out.mono ?_
    rintro e w2 ⟨rfl, B2⟩
    have B3 := bel_trans B1 B2
    go_wp2
    go_ret
    exact ⟨ret_int HE.out, B3⟩
  have C := Lib.hid (specExchangeValid_b (w := W1) (decide_eq_true h))
  have hb := h
  unfold exOk tmOk at hb
  dsimp only at hb
  have HE := Lib.hid (show y - x + z - u = v by rw [← HV.out]; unfold twI; rw [if_pos h])
  have w1 : IntKind.i64.wrap (y - x) = y - x := IntWalk.i64_in _ (by omega)
  have w1a : -9223372036854775808 ≤ y - x := by omega
  have w1b : y - x ≤ 9223372036854775807 := by omega
  have w2 : IntKind.i64.wrap (y - x + z) = y - x + z := IntWalk.i64_in _ (by omega)
  have w2a : -9223372036854775808 ≤ y - x + z := by omega
  have w2b : y - x + z ≤ 9223372036854775807 := by omega
  have w3 : IntKind.i64.wrap (y - x + z - u) = y - x + z - u := IntWalk.i64_in _ (by omega)
  have w3a : -9223372036854775808 ≤ y - x + z - u := by omega
  have w3b : y - x + z - u ≤ 9223372036854775807 := by omega
  clear h hb
  go_enter Try.func27, Try.ntmps27
  go_wp2_with (fail)
  refine C.out.mono ?_
  rintro e w2 ⟨rfl, B2⟩
  have B3 := bel_trans B1 B2
  have y0 := (B2.cell (p := ⟨w.heap.size, 0, none⟩) hlt).trans x0
  have y1 := (B2.cell (p := ⟨w.heap.size, 1, none⟩) hlt).trans x1
  have y2 := (B2.cell (p := ⟨w.heap.size, 2, none⟩) hlt).trans x2
  have y3 := (B2.cell (p := ⟨w.heap.size, 3, none⟩) hlt).trans x3
  clear hR x0 x1 x2 x3 B1 B2
  go_wp2
  go_ret
  exact ⟨ret_int HE.out, B3⟩
set_option maxHeartbeats 2000000 in
theorem specWayOf_r {x y z u v : Int} {w : World} (hv : wayI (x, y, z, u) = v) :
    Calls Try.prog 28 #[.agg #[.int .i64 x, .int .i64 y, .int .i64 z, .int .i64 u]] w fun e w' => e = .returned (.int .i64 v) ∧ Below w.heap.size w w' := by
  have HV := Lib.hid hv
  clear hv
  obtain ⟨W1, hW1⟩ : ∃ W1, w.alloc (.cells #[.int .i64 x, .int .i64 y, .int .i64 z, .int .i64 u] 26) = W1 := ⟨_, rfl⟩
  have B1 : Below w.heap.size w W1 := hW1 ▸ below_allocQ w _
  have hR : W1.heap[w.heap.size]? = some (.cells #[.int .i64 x, .int .i64 y, .int .i64 z, .int .i64 u] 26 (0, 0)) := by rw [← hW1]; exact heap_alloc_new w _
  have hlt : w.heap.size < W1.heap.size := (Array.getElem?_eq_some_iff.1 hR).1
  obtain ⟨x0, x1, x2, x3⟩ := cells4Q hR
  by_cases h : exOk (x, y, z, u)
  rotate_left
  · have C := Lib.hid (specExchangeValid_b (w := W1) (decide_eq_false h))
    have HE := Lib.hid (show (-1 : Int) = v by rw [← HV.out]; unfold wayI; rw [if_neg h])
    clear h
    go_enter Try.func28, Try.ntmps28
    go_wp2_with (fail)
    refine C.out.mono ?_
    rintro e w2 ⟨rfl, B2⟩
    have B3 := bel_trans B1 B2
    go_wp2
    go_ret
    exact ⟨ret_int HE.out, B3⟩
  have C := Lib.hid (specExchangeValid_b (w := W1) (decide_eq_true h))
  have hb := h
  unfold exOk tmOk at hb
  dsimp only at hb
  have HE := Lib.hid (show u - x - (z - y) = v by rw [← HV.out]; unfold wayI; rw [if_pos h])
  have w1 : IntKind.i64.wrap (u - x) = u - x := IntWalk.i64_in _ (by omega)
  have w1a : -9223372036854775808 ≤ u - x := by omega
  have w1b : u - x ≤ 9223372036854775807 := by omega
  have w2 : IntKind.i64.wrap (z - y) = z - y := IntWalk.i64_in _ (by omega)
  have w2a : -9223372036854775808 ≤ z - y := by omega
  have w2b : z - y ≤ 9223372036854775807 := by omega
  have w3 : IntKind.i64.wrap (u - x - (z - y)) = u - x - (z - y) := IntWalk.i64_in _ (by omega)
  have w3a : -9223372036854775808 ≤ u - x - (z - y) := by omega
  have w3b : u - x - (z - y) ≤ 9223372036854775807 := by omega
  clear h hb
  go_enter Try.func28, Try.ntmps28
  go_wp2_with (fail)
  refine C.out.mono ?_
  rintro e w2 ⟨rfl, B2⟩
  have B3 := bel_trans B1 B2
  have y0 := (B2.cell (p := ⟨w.heap.size, 0, none⟩) hlt).trans x0
  have y1 := (B2.cell (p := ⟨w.heap.size, 1, none⟩) hlt).trans x1
  have y2 := (B2.cell (p := ⟨w.heap.size, 2, none⟩) hlt).trans x2
  have y3 := (B2.cell (p := ⟨w.heap.size, 3, none⟩) hlt).trans x3
  clear hR x0 x1 x2 x3 B1 B2
  go_wp2
  go_ret
  exact ⟨ret_int HE.out, B3⟩
set_option maxHeartbeats 2000000 in
theorem l15Span_b {x y : Int} {w : World} {b : Bool} (hb : decide (spOk (x, y)) = b) :
    Calls Try.prog 67 #[.agg #[.int .i64 x, .int .i64 y]] w fun e w' => e = .returned (.bool b) ∧ Below w.heap.size w w' := by
  have HB := Lib.hid hb
  clear hb
  have BA := (Below.refl w.heap.size w).alloc (Nat.le_refl _) (.cells #[.int .i64 x, .int .i64 y] 30)
  by_cases h0 : -4000000 ≤ x ∧ x ≤ 4000000
  rotate_left
  · have HE := Lib.hid (show decide (spOk (x, y)) = false from decide_eq_false fun hh => h0 (by have h2 := hh.1; have h3 := hh.2.1; have h4 := hh.2.2; dsimp only at h2 h3 h4; omega))
    have C0 := Lib.hid (fun W => l1In_no x (-4000000) 4000000 W h0)
    clear h0
    go_enter Try.func67, Try.ntmps67
    go_wp2_with (fail)
    refine (C0.out _).mono ?_
    rintro e w' ⟨rfl, rfl⟩
    go_wp2
    go_ret
    exact ⟨ret_bool (HE.out.symm.trans HB.out), BA⟩
  have C0 := Lib.hid (fun W => l1In_yes x (-4000000) 4000000 W h0.1 h0.2)
  by_cases h1 : x ≤ y ∧ y ≤ 4000000
  rotate_left
  · have HE := Lib.hid (show decide (spOk (x, y)) = false from decide_eq_false fun hh => h1 hh.2)
    have C1 := Lib.hid (fun W => l1In_no y x 4000000 W h1)
    clear h0 h1
    go_enter Try.func67, Try.ntmps67
    go_wp2_with (fail)
    refine (C0.out _).mono ?_
    rintro e w' ⟨rfl, rfl⟩
    go_wp2_with (fail)
    refine (C1.out _).mono ?_
    rintro e w' ⟨rfl, rfl⟩
    go_wp2
    go_ret
    exact ⟨ret_bool (HE.out.symm.trans HB.out), BA⟩
  have C1 := Lib.hid (fun W => l1In_yes y x 4000000 W h1.1 h1.2)
  have HE := Lib.hid (show decide (spOk (x, y)) = true from decide_eq_true (⟨h0.1, h1⟩))
  clear h0 h1
  go_enter Try.func67, Try.ntmps67
  go_wp2_with (fail)
  refine (C0.out _).mono ?_
  rintro e w' ⟨rfl, rfl⟩
  go_wp2_with (fail)
  refine (C1.out _).mono ?_
  rintro e w' ⟨rfl, rfl⟩
  go_wp2
  go_ret
  exact ⟨ret_bool (HE.out.symm.trans HB.out), BA⟩
set_option maxHeartbeats 2000000 in
theorem specSpanHas_b {x y n : Int} {w : World} {b : Bool} (hb : decide (hasS (x, y) n) = b) :
    Calls Try.prog 37 #[.agg #[.int .i64 x, .int .i64 y], .int .i64 n] w fun e w' => e = .returned (.bool b) ∧ Below w.heap.size w w' := by
  have HB := Lib.hid hb
  clear hb
  obtain ⟨W1, hW1⟩ : ∃ W1, w.alloc (.cells #[.int .i64 x, .int .i64 y] 30) = W1 := ⟨_, rfl⟩
  have B1 : Below w.heap.size w W1 := hW1 ▸ below_allocQ w _
  have hR : W1.heap[w.heap.size]? = some (.cells #[.int .i64 x, .int .i64 y] 30 (0, 0)) := by rw [← hW1]; exact heap_alloc_new w _
  have hlt : w.heap.size < W1.heap.size := (Array.getElem?_eq_some_iff.1 hR).1
  obtain ⟨x0, x1⟩ := cells2D hR
  by_cases h : spOk (x, y)
  rotate_left
  · have C := Lib.hid (l15Span_b (w := W1) (decide_eq_false h))
    have HE := Lib.hid (show decide (hasS (x, y) n) = false from decide_eq_false fun hh => h hh.1)
    clear h
    go_enter Try.func37, Try.ntmps37
    go_wp2_with (fail)
    refine C.out.mono ?_
    rintro e w2 ⟨rfl, B2⟩
    have B3 := bel_trans B1 B2
    have y0 := (B2.cell (p := ⟨w.heap.size, 0, none⟩) hlt).trans x0
    have y1 := (B2.cell (p := ⟨w.heap.size, 1, none⟩) hlt).trans x1
    clear hR x0 x1 B1 B2
    go_wp2
    go_ret
    exact ⟨ret_bool (HE.out.symm.trans HB.out), B3⟩
  have C := Lib.hid (l15Span_b (w := W1) (decide_eq_true h))
  by_cases h1 : x ≤ n ∧ n ≤ y
  rotate_left
  · have C1 := Lib.hid (fun W => l1In_no n x y W h1)
    have HE := Lib.hid (show decide (hasS (x, y) n) = false from decide_eq_false fun hh => h1 hh.2)
    clear h h1
    go_enter Try.func37, Try.ntmps37
    go_wp2_with (fail)
    refine C.out.mono ?_
    rintro e w2 ⟨rfl, B2⟩
    have B3 := bel_trans B1 B2
    have y0 := (B2.cell (p := ⟨w.heap.size, 0, none⟩) hlt).trans x0
    have y1 := (B2.cell (p := ⟨w.heap.size, 1, none⟩) hlt).trans x1
    clear hR x0 x1 B1 B2
    go_wp2_with (fail)
    refine (C1.out _).mono ?_
    rintro e w' ⟨rfl, rfl⟩
    go_wp2
    go_ret
    exact ⟨ret_bool (HE.out.symm.trans HB.out), B3⟩
  have C1 := Lib.hid (fun W => l1In_yes n x y W h1.1 h1.2)
  have HE := Lib.hid (show decide (hasS (x, y) n) = true from decide_eq_true ⟨h, h1⟩)
  clear h h1
  go_enter Try.func37, Try.ntmps37
  go_wp2_with (fail)
  refine C.out.mono ?_
  rintro e w2 ⟨rfl, B2⟩
  have B3 := bel_trans B1 B2
  have y0 := (B2.cell (p := ⟨w.heap.size, 0, none⟩) hlt).trans x0
  have y1 := (B2.cell (p := ⟨w.heap.size, 1, none⟩) hlt).trans x1
  clear hR x0 x1 B1 B2
  go_wp2_with (fail)
  refine (C1.out _).mono ?_
  rintro e w' ⟨rfl, rfl⟩
  go_wp2
  go_ret
  exact ⟨ret_bool (HE.out.symm.trans HB.out), B3⟩
end Go.Proofs.Ytmifhkhanjiklaa
