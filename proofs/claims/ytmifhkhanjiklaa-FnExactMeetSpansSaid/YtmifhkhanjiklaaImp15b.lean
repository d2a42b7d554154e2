/-
  Chapter 15's program: what is proved here is what TalkTimes and SpanOf return, and that they write nothing that was there. No condition.
-/
import Derived.Test.YtmifhkhanjiklaaImp15a
namespace Go.Proofs.Ytmifhkhanjiklaa
open Go.RowKit

set_option maxRecDepth 100000 in
set_option maxHeartbeats 8000000 in
theorem implTalkTimes_r {a t k b n x y z u : Int} {ok : Bool} {w : World} (hx : talkI a t k b n = (x, y, z, u)) (hok : decide (talkOk a t k b n) = ok) :
    Calls Try.prog 18 #[.int .i64 a, .int .i64 t, .int .i64 k, .int .i64 b, .int .i64 n] w fun e w' => e = .returned (.tuple #[.agg #[.int .i64 x, .int .i64 y, .int .i64 z, .int .i64 u], .bool ok]) ∧ Below w.heap.size w w' := by
  obtain ⟨W0, hW0⟩ : ∃ W0, w.alloc (.cells #[.int .i64 0, .int .i64 0, .int .i64 0, .int .i64 0] 26) = W0 := ⟨_, rfl⟩
  have K0 : QRow W0 w.heap.size 26 0 0 0 0 := hW0 ▸ qRow_alloc w _ 0 0 0 0
  have B0 : Below w.heap.size w W0 := hW0 ▸ below_allocQ w _
  have sz0 := B0.size
  have f0 := K0.open_ 0
  have f1 := K0.open_ 1
  have f2 := K0.open_ 2
  have f3 := K0.open_ 3
  obtain ⟨k0, k1, k2, k3⟩ := K0.cells
  have HF0 := Lib.hid (K0.put 0 0 0 0)
  have HB0 := Lib.hid (put_belowQ B0 (R := w.heap.size) (Nat.le_refl _) (.int .i64 0) (.int .i64 0) (.int .i64 0) (.int .i64 0))
  have bad : ¬ talkOk a t k b n → Hid ((0, 0, 0, 0) = (x, y, z, u) ∧ false = ok) := fun h => ⟨by rw [← hx]; exact (if_neg h).symm, by rw [← hok]; exact (decide_eq_false h).symm⟩
  have good : talkOk a t k b n → Hid (talkX a t k b n = (x, y, z, u) ∧ true = ok) := fun h => ⟨by rw [← hx]; exact (if_pos h).symm, by rw [← hok]; exact (decide_eq_true h).symm⟩
  clear hx hok
  by_cases h0 : tmOk a
  rotate_left
  · have C0 := Lib.hid (isTime_no W0 h0)
    have HE := bad (fun hh => h0 hh.1)
    clear bad good h0
    go_enter Try.func18, Try.ntmps18
    go_wp2_with (fail)
    refine C0.out.mono ?_
    rintro e w' ⟨rfl, rfl⟩
    go_wp2
    refine bodyPost_ret (results_row_tmpQ rfl _ _ _ _ _ _ _ rfl HF0.out Try.underlying26 rfl (by kernel_rfl)) rfl ?_
    exact ⟨ret_quad HE.out.1 HE.out.2, HB0.out⟩
  have C0 := Lib.hid (isTime_yes W0 h0)
  by_cases h1 : 0 ≤ t ∧ t ≤ 1000
  rotate_left
  · have C1 := Lib.hid (isNeed_no W0 h1)
    have HE := bad (fun hh => h1 hh.2.1)
    clear bad good h0 h1
    go_enter Try.func18, Try.ntmps18
    go_wp2_with (fail)
    refine C0.out.mono ?_
    rintro e w' ⟨rfl, rfl⟩
    go_wp2_with (fail)
    refine C1.out.mono ?_
    rintro e w' ⟨rfl, rfl⟩
    go_wp2
    refine bodyPost_ret (results_row_tmpQ rfl _ _ _ _ _ _ _ rfl HF0.out Try.underlying26 rfl (by kernel_rfl)) rfl ?_
    exact ⟨ret_quad HE.out.1 HE.out.2, HB0.out⟩
  have C1 := Lib.hid (isNeed_yes W0 h1)
  by_cases h2 : 0 ≤ k ∧ k ≤ 1000
  rotate_left
  · have C2 := Lib.hid (isNeed_no W0 h2)
    have HE := bad (fun hh => h2 hh.2.2.1)
    clear bad good h0 h1 h2
    go_enter Try.func18, Try.ntmps18
    go_wp2_with (fail)
    refine C0.out.mono ?_
    rintro e w' ⟨rfl, rfl⟩
    go_wp2_with (fail)
    refine C1.out.mono ?_
    rintro e w' ⟨rfl, rfl⟩
    go_wp2_with (fail)
    refine C2.out.mono ?_
    rintro e w' ⟨rfl, rfl⟩
    go_wp2
    refine bodyPost_ret (results_row_tmpQ rfl _ _ _ _ _ _ _ rfl HF0.out Try.underlying26 rfl (by kernel_rfl)) rfl ?_
    exact ⟨ret_quad HE.out.1 HE.out.2, HB0.out⟩
  have C2 := Lib.hid (isNeed_yes W0 h2)
  by_cases h3 : 0 ≤ b ∧ b ≤ 1000
  rotate_left
  · have C3 := Lib.hid (isNeed_no W0 h3)
    have HE := bad (fun hh => h3 hh.2.2.2.1)
    clear bad good h0 h1 h2 h3
    go_enter Try.func18, Try.ntmps18
    go_wp2_with (fail)
    refine C0.out.mono ?_
    rintro e w' ⟨rfl, rfl⟩
    go_wp2_with (fail)
    refine C1.out.mono ?_
    rintro e w' ⟨rfl, rfl⟩
    go_wp2_with (fail)
    refine C2.out.mono ?_
    rintro e w' ⟨rfl, rfl⟩
    go_wp2_with (fail)
    refine C3.out.mono ?_
    rintro e w' ⟨rfl, rfl⟩
    go_wp2
    refine bodyPost_ret (results_row_tmpQ rfl _ _ _ _ _ _ _ rfl HF0.out Try.underlying26 rfl (by kernel_rfl)) rfl ?_
    exact ⟨ret_quad HE.out.1 HE.out.2, HB0.out⟩
  have C3 := Lib.hid (isNeed_yes W0 h3)
  by_cases hn : tmOk n
  rotate_left
  · obtain ⟨y1, hy1⟩ : ∃ v, IntKind.i64.wrap (n + t) = v := ⟨_, rfl⟩
    obtain ⟨y2, hy2⟩ : ∃ v, IntKind.i64.wrap (y1 + a) = v := ⟨_, rfl⟩
    obtain ⟨y3, hy3⟩ : ∃ v, IntKind.i64.wrap (y2 + k) = v := ⟨_, rfl⟩
    obtain ⟨y4, hy4⟩ : ∃ v, IntKind.i64.wrap (y1 + k) = v := ⟨_, rfl⟩
    obtain ⟨y5, hy5⟩ : ∃ v, IntKind.i64.wrap (y4 + b) = v := ⟨_, rfl⟩
    obtain ⟨W1, hW1⟩ : ∃ W1, W0.alloc (.cells #[.int .i64 n, .int .i64 y2, .int .i64 y3, .int .i64 y5] 26) = W1 := ⟨_, rfl⟩
    have K1 : QRow W1 W0.heap.size 26 n y2 y3 y5 := hW1 ▸ qRow_alloc W0 _ _ _ _ _
    have B1 : Below W0.heap.size W0 W1 := hW1 ▸ below_allocQ W0 _
    have K01 := K0.bel B1
    have B01 := bel_trans B0 B1
    obtain ⟨v0, v1, v2, v3⟩ := K1.cells
    have CE := Lib.hid (implExchangeValid_b (w := W1) (b := false) (decide_eq_false (fun hh : exOk (n, y2, y3, y5) => hn hh.1)))
    have HE := bad (fun hh => hn hh.2.2.2.2.1)
    clear bad good hn h0 h1 h2 h3
    go_enter Try.func18, Try.ntmps18
    go_wp2_with (fail)
    refine C0.out.mono ?_
    rintro e w' ⟨rfl, rfl⟩
    go_wp2_with (fail)
    refine C1.out.mono ?_
    rintro e w' ⟨rfl, rfl⟩
    go_wp2_with (fail)
    refine C2.out.mono ?_
    rintro e w' ⟨rfl, rfl⟩
    go_wp2_with (fail)
    refine C3.out.mono ?_
    rintro e w' ⟨rfl, rfl⟩
    go_wp2_with (fail)
    refine CE.out.mono ?_
    rintro e w2 ⟨rfl, B2⟩
    have K2 := K01.bel B2
    have s2 := bel_trans B01 B2
    have g0 := K2.open_ 0
    have g1 := K2.open_ 1
    have g2 := K2.open_ 2
    have g3 := K2.open_ 3
    obtain ⟨q0, q1, q2, q3⟩ := K2.cells
    have HF := Lib.hid (K2.put 0 0 0 0)
    have HB := Lib.hid (put_belowQ s2 (R := w.heap.size) (Nat.le_refl _) (.int .i64 0) (.int .i64 0) (.int .i64 0) (.int .i64 0))
    clear B2 s2 K2 K01 K1 B1 B01 K0 B0
    go_wp2
    refine bodyPost_ret (results_row_tmpQ rfl _ _ _ _ _ _ _ rfl HF.out Try.underlying26 rfl (by kernel_rfl)) rfl ?_
    exact ⟨ret_quad HE.out.1 HE.out.2, HB.out⟩
  have hna := hn
  have haa := h0
  unfold tmOk at hna haa
  have w1 : IntKind.i64.wrap (n + t) = n + t := IntWalk.i64_in _ (by omega)
  have w1a : -9223372036854775808 ≤ n + t := by omega
  have w1b : n + t ≤ 9223372036854775807 := by omega
  have w2 : IntKind.i64.wrap (n + t + a) = n + t + a := IntWalk.i64_in _ (by omega)
  have w2a : -9223372036854775808 ≤ n + t + a := by omega
  have w2b : n + t + a ≤ 9223372036854775807 := by omega
  have w3 : IntKind.i64.wrap (n + t + a + k) = n + t + a + k := IntWalk.i64_in _ (by omega)
  have w3a : -9223372036854775808 ≤ n + t + a + k := by omega
  have w3b : n + t + a + k ≤ 9223372036854775807 := by omega
  have w4 : IntKind.i64.wrap (n + t + k) = n + t + k := IntWalk.i64_in _ (by omega)
  have w4a : -9223372036854775808 ≤ n + t + k := by omega
  have w4b : n + t + k ≤ 9223372036854775807 := by omega
  have w5 : IntKind.i64.wrap (n + t + k + b) = n + t + k + b := IntWalk.i64_in _ (by omega)
  have w5a : -9223372036854775808 ≤ n + t + k + b := by omega
  have w5b : n + t + k + b ≤ 9223372036854775807 := by omega
  clear hna haa
  obtain ⟨W1, hW1⟩ : ∃ W1, W0.alloc (.cells #[.int .i64 n, .int .i64 (n + t + a), .int .i64 (n + t + a + k), .int .i64 (n + t + k + b)] 26) = W1 := ⟨_, rfl⟩
  have K1 : QRow W1 W0.heap.size 26 n (n + t + a) (n + t + a + k) (n + t + k + b) := hW1 ▸ qRow_alloc W0 _ _ _ _ _
  have B1 : Below W0.heap.size W0 W1 := hW1 ▸ below_allocQ W0 _
  have K01 := K0.bel B1
  have B01 := bel_trans B0 B1
  obtain ⟨v0, v1, v2, v3⟩ := K1.cells
  by_cases hE : exOk (talkX a t k b n)
  rotate_left
  · have CE := Lib.hid (implExchangeValid_b (w := W1) (decide_eq_false hE))
    have HE := bad (fun hh => hE hh.2.2.2.2.2)
    clear bad good hE h0 h1 h2 h3 hn
    go_enter Try.func18, Try.ntmps18
    go_wp2_with (fail)
    refine C0.out.mono ?_
    rintro e w' ⟨rfl, rfl⟩
    go_wp2_with (fail)
    refine C1.out.mono ?_
    rintro e w' ⟨rfl, rfl⟩
    go_wp2_with (fail)
    refine C2.out.mono ?_
    rintro e w' ⟨rfl, rfl⟩
    go_wp2_with (fail)
    refine C3.out.mono ?_
    rintro e w' ⟨rfl, rfl⟩
    go_wp2_with (fail)
    refine CE.out.mono ?_
    rintro e w2 ⟨rfl, B2⟩
    have K2 := K01.bel B2
    have s2 := bel_trans B01 B2
    have g0 := K2.open_ 0
    have g1 := K2.open_ 1
    have g2 := K2.open_ 2
    have g3 := K2.open_ 3
    obtain ⟨q0, q1, q2, q3⟩ := K2.cells
    have HF := Lib.hid (K2.put 0 0 0 0)
    have HB := Lib.hid (put_belowQ s2 (R := w.heap.size) (Nat.le_refl _) (.int .i64 0) (.int .i64 0) (.int .i64 0) (.int .i64 0))
    clear B2 s2 K2 K01 K1 B1 B01 K0 B0
    go_wp2
    refine bodyPost_ret (results_row_tmpQ rfl _ _ _ _ _ _ _ rfl HF.out Try.underlying26 rfl (by kernel_rfl)) rfl ?_
    exact ⟨ret_quad HE.out.1 HE.out.2, HB.out⟩
  have CE := Lib.hid (implExchangeValid_b (w := W1) (decide_eq_true hE))
  have HE := good ⟨h0, h1, h2, h3, hn, hE⟩
  clear bad good hE h0 h1 h2 h3 hn
  go_enter Try.func18, Try.ntmps18
  go_wp2_with (fail)
  refine C0.out.mono ?_
  rintro e w' ⟨rfl, rfl⟩
  go_wp2_with (fail)
  refine C1.out.mono ?_
  rintro e w' ⟨rfl, rfl⟩
  go_wp2_with (fail)
  refine C2.out.mono ?_
  rintro e w' ⟨rfl, rfl⟩
  go_wp2_with (fail)
  refine C3.out.mono ?_
  rintro e w' ⟨rfl, rfl⟩
  go_wp2_with (fail)
  refine CE.out.mono ?_
  rintro e w2 ⟨rfl, B2⟩
  have K2 := K01.bel B2
  have s2 := bel_trans B01 B2
  have g0 := K2.open_ 0
  have g1 := K2.open_ 1
  have g2 := K2.open_ 2
  have g3 := K2.open_ 3
  obtain ⟨q0, q1, q2, q3⟩ := K2.cells
  obtain ⟨c0, c1, c2, c3⟩ := (K1.bel B2).cells
  have HF := Lib.hid (K2.put n (n + t + a) (n + t + a + k) (n + t + k + b))
  have HB := Lib.hid (put_belowQ s2 (R := w.heap.size) (Nat.le_refl _) (.int .i64 n) (.int .i64 (n + t + a)) (.int .i64 (n + t + a + k)) (.int .i64 (n + t + k + b)))
  clear B2 s2 K2 K01 K1 B1 B01 K0 B0
  go_wp2
  refine bodyPost_ret (results_row_tmpQ rfl _ _ _ _ _ _ _ rfl HF.out Try.underlying26 rfl (by kernel_rfl)) rfl ?_
  exact ⟨ret_quad HE.out.1 HE.out.2, HB.out⟩
set_option maxRecDepth 100000 in
set_option maxHeartbeats 8000000 in
theorem implSpanOf_r {x y z u p q : Int} {ok : Bool} {w : World} (hx : spanI (x, y, z, u) = (p, q)) (hok : decide (exOk (x, y, z, u)) = ok) :
    Calls Try.prog 20 #[.agg #[.int .i64 x, .int .i64 y, .int .i64 z, .int .i64 u]] w fun e w' => e = .returned (.tuple #[.agg #[.int .i64 p, .int .i64 q], .bool ok]) ∧ Below w.heap.size w w' := by
  obtain ⟨Wa, hWa⟩ : ∃ Wa, w.alloc (.cells #[.int .i64 x, .int .i64 y, .int .i64 z, .int .i64 u] 26) = Wa := ⟨_, rfl⟩
  have Ka : QRow Wa w.heap.size 26 x y z u := hWa ▸ qRow_alloc w _ _ _ _ _
  have Ba : Below w.heap.size w Wa := hWa ▸ below_allocQ w _
  obtain ⟨W0, hW0⟩ : ∃ W0, Wa.alloc (.cells #[.int .i64 0, .int .i64 0] 30) = W0 := ⟨_, rfl⟩
  have K0 : DRow W0 Wa.heap.size 30 0 0 := hW0 ▸ dRow_alloc Wa _ 0 0
  have Bb : Below Wa.heap.size Wa W0 := hW0 ▸ below_allocQ Wa _
  have B0 := bel_trans Ba Bb
  have KQ := Ka.bel Bb
  obtain ⟨v0, v1, v2, v3⟩ := KQ.cells
  have sa := Ba.size
  have sr : w.heap.size < Wa.heap.size := Ka.lt
  have hRne : Wa.heap.size ≠ w.heap.size := by omega
  have HX := Lib.hid hx
  have HOK := Lib.hid hok
  clear hx hok
  by_cases h : exOk (x, y, z, u)
  rotate_left
  · have C := Lib.hid (implExchangeValid_b (w := W0) (decide_eq_false h))
    have HE := Lib.hid (show (0, 0) = (p, q) ∧ false = ok from ⟨by rw [← HX.out]; exact (if_neg h).symm, by rw [← HOK.out]; exact (decide_eq_false h).symm⟩)
    clear h
    go_enter Try.func20, Try.ntmps20
    go_wp2_with (fail)
    refine C.out.mono ?_
    rintro e w2 ⟨rfl, B2⟩
    have K2 := K0.bel B2
    have s2 := bel_trans B0 B2
    have g0 := K2.open_ 0
    have g1 := K2.open_ 1
    obtain ⟨q0, q1⟩ := K2.cells
    have HF := Lib.hid (K2.put 0 0)
    have HB := Lib.hid (put_belowD s2 (R := Wa.heap.size) sa (.int .i64 0) (.int .i64 0))
    clear B2 s2 K2 K0 B0 Ba Bb Ka KQ
    go_wp2
    refine bodyPost_ret (results_row_tmpQ rfl _ _ _ _ _ _ _ rfl HF.out Try.underlying30 rfl (by kernel_rfl)) rfl ?_
    exact ⟨ret_duo HE.out.1 HE.out.2, HB.out⟩
  have C := Lib.hid (implExchangeValid_b (w := W0) (decide_eq_true h))
  have HE := Lib.hid (show spanX (x, y, z, u) = (p, q) ∧ true = ok from ⟨by rw [← HX.out]; exact (if_pos h).symm, by rw [← HOK.out]; exact (decide_eq_true h).symm⟩)
  have tb := tw_bound (x, y, z, u)
  have wb := way_bound (x, y, z, u)
  obtain ⟨a, ha⟩ : ∃ v, twI (x, y, z, u) = v := ⟨_, rfl⟩
  obtain ⟨b, hb⟩ : ∃ v, wayI (x, y, z, u) = v := ⟨_, rfl⟩
  rw [ha] at tb
  rw [hb] at wb
  have HE2 : Hid ((a - b, a + b) = (p, q)) := by have := HE.out.1; unfold spanX at this; rw [ha, hb] at this; exact this
  have CT := Lib.hid (fun W => implTwiceAhead_r (w := W) ha)
  have CW := Lib.hid (fun W => implWayOf_r (w := W) hb)
  have w1 : IntKind.i64.wrap (a - b) = a - b := IntWalk.i64_in _ (by omega)
  have w2 : IntKind.i64.wrap (a + b) = a + b := IntWalk.i64_in _ (by omega)
  have : -9223372036854775808 ≤ a - b := by omega
  have : a - b ≤ 9223372036854775807 := by omega
  have : -9223372036854775808 ≤ a + b := by omega
  have : a + b ≤ 9223372036854775807 := by omega
  clear h ha hb tb wb
  go_enter Try.func20, Try.ntmps20
  go_wp2_with (fail)
  refine C.out.mono ?_
  rintro e w2 ⟨rfl, B2⟩
  have K2 := K0.bel B2
  have s2 := bel_trans B0 B2
  have g0 := K2.open_ 0
  have g1 := K2.open_ 1
  obtain ⟨q0, q1⟩ := K2.cells
  have KQ2 := KQ.bel B2
  obtain ⟨c0, c1, c2, c3⟩ := KQ2.cells
  have BL0 : Below w2.heap.size w2 w2.drew := (Below.refl _ _).drew
  have AF := Lib.hid (fun (V V' : World) (h1 : Below w2.heap.size w2 V) (h2 : Below V.heap.size V V') => (show (V'.cell? ⟨w.heap.size, 0, none⟩ = some (.int .i64 x) ∧ V'.cell? ⟨w.heap.size, 1, none⟩ = some (.int .i64 y) ∧ V'.cell? ⟨w.heap.size, 2, none⟩ = some (.int .i64 z) ∧ V'.cell? ⟨w.heap.size, 3, none⟩ = some (.int .i64 u)) ∧ (V'.frozen? ⟨Wa.heap.size, 0, none⟩ = false ∧ V'.frozen? ⟨Wa.heap.size, 1, none⟩ = false ∧ V'.cell? ⟨Wa.heap.size, 0, none⟩ = some (.int .i64 0) ∧ V'.cell? ⟨Wa.heap.size, 1, none⟩ = some (.int .i64 0)) ∧ Below w2.heap.size w2 V' from ⟨(KQ2.bel (bel_trans h1 h2)).cells, ⟨(K2.bel (bel_trans h1 h2)).open_ 0, (K2.bel (bel_trans h1 h2)).open_ 1, (K2.bel (bel_trans h1 h2)).cells.1, (K2.bel (bel_trans h1 h2)).cells.2⟩, bel_trans h1 h2⟩))
  have FF := Lib.hid (fun (V : World) (h1 : Below w2.heap.size w2 V) => (show DRow ((V.setCell ⟨Wa.heap.size, 0, none⟩ (.int .i64 (a - b))).setCell ⟨Wa.heap.size, 1, none⟩ (.int .i64 (a + b))) Wa.heap.size 30 (a - b) (a + b) ∧ Below w.heap.size w ((V.setCell ⟨Wa.heap.size, 0, none⟩ (.int .i64 (a - b))).setCell ⟨Wa.heap.size, 1, none⟩ (.int .i64 (a + b))) from ⟨(K2.bel h1).put _ _, put_belowD (bel_trans s2 h1) sa _ _⟩))
  clear B2 s2 K2 K0 B0 Ba Bb Ka KQ KQ2
  go_wp2
  go_region_held3 (fun w' => w'.cell? ⟨w.heap.size, 0, none⟩ = some (.int .i64 x) ∧ w'.cell? ⟨w.heap.size, 1, none⟩ = some (.int .i64 y) ∧ w'.cell? ⟨w.heap.size, 2, none⟩ = some (.int .i64 z) ∧ w'.cell? ⟨w.heap.size, 3, none⟩ = some (.int .i64 u)) (first | exact ⟨c0, c1, c2, c3⟩ | exact ⟨s0, s1, s2, s3⟩ | exact ⟨far2Q hRne s0, far2Q hRne s1, far2Q hRne s2, far2Q hRne s3⟩) (first | (go_at_call 23; refine (CT.out _).mono ?_; rintro e w5 ⟨rfl, B5⟩; obtain ⟨⟨s0, s1, s2, s3⟩, ⟨fz0, fz1, rc0, rc1⟩, BL0⟩ := AF.out _ _ (by assumption) B5) | (go_at_call 22; refine (CW.out _).mono ?_; rintro e w5 ⟨rfl, B5⟩; obtain ⟨⟨s0, s1, s2, s3⟩, ⟨fz0, fz1, rc0, rc1⟩, BL0⟩ := AF.out _ _ (by assumption) B5))
  all_goals
    go_wp2
    refine bodyPost_ret (results_row_tmpQ rfl _ _ _ _ _ _ _ rfl (FF.out _ BL0).1 Try.underlying30 rfl (by kernel_rfl)) rfl ?_
    exact ⟨ret_duo HE2.out HE.out.2, (FF.out _ BL0).2⟩
end Go.Proofs.Ytmifhkhanjiklaa
