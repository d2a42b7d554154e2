/-
  Chapter 13's model: what is proved here is what RunCredits, CreditSlots and OpenSlots return, and that they write nothing that was there. Condition: lengths up to 2^24.
-/
import Derived.Test.YtkdjcfejkgpplaaCredB
namespace Go.Proofs.Ytkdjcfejkgpplaa
open Go.RowKit

theorem credI_yes {a d m sl : Nat} {ds : List Int} (h : credOk a d m ds sl) : credI a d m ds sl = runC a d m (opOf ds) sl := if_pos h
theorem ret_crt {s k m t : Int} {f ok ok' : Bool} {r : CR} (e1 : s = r.s) (e2 : k = r.k) (e3 : m = r.m) (e4 : t = r.t) (e5 : f = r.f) (e6 : ok = ok') : Ending.returned (.tuple #[.agg #[.int .i64 s, .int .i64 k, .int .i64 m, .int .i64 t, .bool f], .bool ok]) = .returned (.tuple #[crV r, .bool ok']) := by unfold crV; rw [e1, e2, e3, e4, e5, e6]

set_option maxHeartbeats 4000000 in
theorem specRunCredits_any {D : Option Addr} {q e : Nat} {ds : List Int} {a d m sl : Int} {w : World} {R : CR} {ok : Bool} (hD : Has w D q (ints .i64 ds)) (hn : q ≤ 16777216) (hR : credI a d m ds sl = R) (hok : decide (credOk a d m ds sl) = ok) :
    Calls Try.prog 15 #[.int .i64 a, .int .i64 d, .int .i64 m, .slice D q e, .int .i64 sl] w fun e w' => e = .returned (.tuple #[crV R, .bool ok]) ∧ Below w.heap.size w w' := by
  obtain ⟨W0, hW0⟩ : ∃ W0, w.alloc (.cells #[.int .i64 0, .int .i64 0, .int .i64 0, .int .i64 0, .bool false] 27) = W0 := ⟨_, rfl⟩
  have K0 : CrRow W0 w.heap.size 0 0 0 0 false := hW0 ▸ crRow_alloc w 0 0 0 0 false
  have B0 : Below w.heap.size w W0 := hW0 ▸ below_alloc13 w _
  have sz0 := B0.size
  obtain ⟨k0, k1, k2, k3, k4⟩ := K0.cells
  have f0 := K0.open_ 0
  have f1 := K0.open_ 1
  have f2 := K0.open_ 2
  have f3 := K0.open_ 3
  have f4 := K0.open_ 4
  have HF0 := Lib.hid (K0.put 0 0 0 0 false)
  have HB0 := Lib.hid (put_below B0 (R := w.heap.size) (Nat.le_refl _) 0 0 0 0 false)
  have bad : ¬ credOk a d m ds sl → Hid (R = CR.zero ∧ ok = false) := fun h => ⟨by rw [← hR]; exact if_neg h, by rw [← hok]; exact decide_eq_false h⟩
  by_cases h1 : fitsOk a d m
  rotate_left
  · have C := Lib.hid (l13Fits_b (w := W0) (decide_eq_false h1))
    have HE := bad (fun hh => h1 hh.1)
    clear h1 bad hR hok
    go_enter Try.func15, Try.ntmps15
    go_wp2_with (fail)
    refine C.out.mono ?_
    rintro e w' ⟨rfl, rfl⟩
    go_wp2
    refine bodyPost_ret (results_row_tmp13 rfl _ _ _ _ _ _ _ rfl HF0.out Try.underlying27 rfl (by kernel_rfl)) rfl ?_
    rw [HE.out.1, HE.out.2]
    exact ⟨rfl, HB0.out⟩
  have C := Lib.hid (l13Fits_b (w := W0) (decide_eq_true h1))
  by_cases h2 : drainOk ds
  rotate_left
  · have C2 := Lib.hid (l13Drain_b (c := e) (hD.bel B0) hn (decide_eq_false h2))
    have HE := bad (fun hh => h2 hh.2.1)
    clear h1 h2 bad hR hok
    go_enter Try.func15, Try.ntmps15
    go_wp2_with (fail)
    refine C.out.mono ?_
    rintro e w' ⟨rfl, rfl⟩
    go_wp2_with (fail)
    refine C2.out.mono ?_
    rintro e w' ⟨rfl, rfl⟩
    go_wp2
    refine bodyPost_ret (results_row_tmp13 rfl _ _ _ _ _ _ _ rfl HF0.out Try.underlying27 rfl (by kernel_rfl)) rfl ?_
    rw [HE.out.1, HE.out.2]
    exact ⟨rfl, HB0.out⟩
  have C2 := Lib.hid (l13Drain_b (c := e) (hD.bel B0) hn (decide_eq_true h2))
  by_cases h3 : 0 ≤ sl ∧ sl ≤ 3000
  rotate_left
  · have C3 := Lib.hid (l1In_no sl 0 3000 W0 h3)
    have HE := bad (fun hh => h3 hh.2.2)
    clear h1 h2 h3 bad hR hok
    go_enter Try.func15, Try.ntmps15
    go_wp2_with (fail)
    refine C.out.mono ?_
    rintro e w' ⟨rfl, rfl⟩
    go_wp2_with (fail)
    refine C2.out.mono ?_
    rintro e w' ⟨rfl, rfl⟩
    go_wp2_with (fail)
    refine C3.out.mono ?_
    rintro e w' ⟨rfl, rfl⟩
    go_wp2
    refine bodyPost_ret (results_row_tmp13 rfl _ _ _ _ _ _ _ rfl HF0.out Try.underlying27 rfl (by kernel_rfl)) rfl ?_
    rw [HE.out.1, HE.out.2]
    exact ⟨rfl, HB0.out⟩
  have C3 := Lib.hid (l1In_yes sl 0 3000 W0 h3.1 h3.2)
  have hall : credOk a d m ds sl := ⟨h1, h2, h3⟩
  obtain ⟨a', rfl⟩ := Int.eq_ofNat_of_zero_le (show 0 ≤ a by have := h1.1; omega)
  obtain ⟨d', rfl⟩ := Int.eq_ofNat_of_zero_le (show 0 ≤ d by have := h1.2.1; omega)
  obtain ⟨m', rfl⟩ := Int.eq_ofNat_of_zero_le (show 0 ≤ m by have := h1.2.2; omega)
  obtain ⟨s', rfl⟩ := Int.eq_ofNat_of_zero_le h3.1
  have C4 := Lib.hid (l13Run_any (e := e) (hD.bel B0) h2 (rm := a') (d := d') (mn := m') (sl := s') (by have := h1.1; omega) (by have := h1.2.1; omega) (by have := h1.2.2; omega) (by omega) ((credI_yes hall).symm.trans hR))
  have HOK := Lib.hid (show true = ok by rw [← hok]; exact (decide_eq_true hall).symm)
  clear h1 h2 h3 bad hR hok hall k0 k1 k2 k3 k4 f0 f1 f2 f3 f4
  obtain ⟨rs, rk, rm, rt, rf⟩ := R
  unfold crV at C4
  go_enter Try.func15, Try.ntmps15
  go_wp2_with (fail)
  refine C.out.mono ?_
  rintro e w' ⟨rfl, rfl⟩
  go_wp2_with (fail)
  refine C2.out.mono ?_
  rintro e w' ⟨rfl, rfl⟩
  go_wp2_with (fail)
  refine C3.out.mono ?_
  rintro e w' ⟨rfl, rfl⟩
  go_wp2_with (fail)
  refine C4.out.mono ?_
  rintro e w4 ⟨rfl, B4⟩
  have K4 := K0.bel B4
  obtain ⟨k0, k1, k2, k3, k4⟩ := K4.cells
  have f0 := K4.open_ 0
  have f1 := K4.open_ 1
  have f2 := K4.open_ 2
  have f3 := K4.open_ 3
  have f4 := K4.open_ 4
  have HF := Lib.hid (K4.put rs rk rm rt rf)
  have HB := Lib.hid (put_below (bel_trans B0 B4) (R := w.heap.size) (Nat.le_refl _) rs rk rm rt rf)
  go_wp2
  refine bodyPost_ret (results_row_tmp13 rfl _ _ _ _ _ _ _ rfl HF.out Try.underlying27 rfl (by kernel_rfl)) rfl ?_
  exact ⟨ret_crt rfl rfl rfl rfl rfl HOK.out, HB.out⟩

set_option maxHeartbeats 4000000 in
theorem specCreditSlots_any {a d m r : Int} {w : World} (hr : slotsI a d m = r) :
    Calls Try.prog 18 #[.int .i64 a, .int .i64 d, .int .i64 m] w fun e w' => e = .returned (.int .i64 r) ∧ Below w.heap.size w w' := by
  by_cases h1 : fitsOk a d m
  rotate_left
  · have C := Lib.hid (l13Fits_b (w := w) (decide_eq_false h1))
    have HE := Lib.hid (show (-1 : Int) = r by rw [← hr]; exact (if_neg h1).symm)
    clear h1 hr
    go_enter Try.func18, Try.ntmps18
    go_wp2_with (fail)
    refine C.out.mono ?_
    rintro e w' ⟨rfl, rfl⟩
    go_wp2
    go_ret
    exact ⟨ret_int HE.out, Below.refl _ _⟩
  have C := Lib.hid (l13Fits_b (w := w) (decide_eq_true h1))
  unfold slotsI at hr
  rw [if_pos h1, ← opOf_one] at hr
  obtain ⟨a', rfl⟩ := Int.eq_ofNat_of_zero_le (show 0 ≤ a by have := h1.1; omega)
  obtain ⟨d', rfl⟩ := Int.eq_ofNat_of_zero_le (show 0 ≤ d by have := h1.2.1; omega)
  obtain ⟨m', rfl⟩ := Int.eq_ofNat_of_zero_le (show 0 ≤ m by have := h1.2.2; omega)
  obtain ⟨R, hR⟩ : ∃ R, runC a' d' m' (opOf [1]) 3000 = R := ⟨_, rfl⟩
  simp only [Int.toNat_natCast] at hr
  rw [hR] at hr
  obtain ⟨W0, hW0⟩ : ∃ W0, w.alloc (.cells #[.int .i64 1] 3) = W0 := ⟨_, rfl⟩
  have O0 : Has W0 (some ⟨w.heap.size, 0, none⟩) 1 (ints .i64 [1]) := by rw [← hW0]; exact Has.row #[.int .i64 1] rfl rfl (by unfold maxLen; omega)
  have B0 : Below w.heap.size w W0 := hW0 ▸ below_alloc13 w _
  have C4 := Lib.hid (l13Run_any (e := 1) O0 drainOk_one (rm := a') (d := d') (mn := m') (sl := 3000) (by have := h1.1; omega) (by have := h1.2.1; omega) (by have := h1.2.2; omega) (by omega) hR)
  obtain ⟨rs, rk, rm, rt, rf⟩ := R
  unfold crV at C4
  have HR := Lib.hid hr
  have hge := B0.size
  clear hr h1 hR O0
  go_enter Try.func18, Try.ntmps18
  go_wp2_with (fail)
  refine C.out.mono ?_
  rintro e w' ⟨rfl, rfl⟩
  go_wp2_with (fail)
  refine C4.out.mono ?_
  rintro e w4 ⟨rfl, B4⟩
  obtain ⟨W5, hW5⟩ : ∃ W5, w4.alloc (.cells #[.int .i64 (rs : Int), .int .i64 (rk : Int), .int .i64 (rm : Int), .int .i64 (rt : Int), .bool rf] 27) = W5 := ⟨_, rfl⟩
  have K5 : CrRow (w4.alloc (.cells #[.int .i64 0, .int .i64 0, .int .i64 0, .int .i64 0, .bool false] 27)) w4.heap.size 0 0 0 0 false := crRow_alloc w4 0 0 0 0 false
  have B5 := bel_trans (bel_trans B0 B4) (below_alloc13 w4 (.cells #[.int .i64 0, .int .i64 0, .int .i64 0, .int .i64 0, .bool false] 27))
  have h45 := Nat.le_trans B0.size B4.size
  obtain ⟨V5, hV5⟩ : ∃ V5, w4.alloc (.cells #[.int .i64 0, .int .i64 0, .int .i64 0, .int .i64 0, .bool false] 27) = V5 := ⟨_, rfl⟩
  rw [hV5] at K5 B5
  obtain ⟨k0, k1, k2, k3, k4⟩ := K5.cells
  have f0 := K5.open_ 0
  have f1 := K5.open_ 1
  have f2 := K5.open_ 2
  have f3 := K5.open_ 3
  have f4 := K5.open_ 4
  have K6 := K5.put rs rk rm rt rf
  have HB := Lib.hid (put_below B5 (R := w4.heap.size) h45 rs rk rm rt rf)
  obtain ⟨x0, x1, x2, x3, x4⟩ := K6.cells
  clear hW5 W5
  cases rf with
  | true =>
    have HE := Lib.hid (show (rt : Int) = r from HR.out)
    go_wp2
    go_ret
    exact ⟨ret_int HE.out, HB.out⟩
  | false =>
    have HE := Lib.hid (show (-1 : Int) = r from HR.out)
    go_wp2
    go_ret
    exact ⟨ret_int HE.out, HB.out⟩

set_option maxHeartbeats 4000000 in
theorem specOpenSlots_any {A : Option Addr} {n c : Nat} {ds : List Int} {a k r : Int} {w : World} (h : Has w A n (ints .i64 ds)) (hn : n ≤ 16777216) (hr : openI ds a k = r) :
    Calls Try.prog 24 #[.slice A n c, .int .i64 a, .int .i64 k] w fun e w' => e = .returned (.int .i64 r) ∧ w = w' := by
  have bad : ¬ (drainOk ds ∧ slotOk a ∧ slotOk k) → Hid ((-1 : Int) = r) := fun hh => by
    have : (-1 : Int) = r := by rw [← hr]; exact (if_neg hh).symm
    exact this
  by_cases h1 : drainOk ds
  rotate_left
  · have C := Lib.hid (l13Drain_b (c := c) h hn (decide_eq_false h1))
    have HE := bad (fun hh => h1 hh.1)
    clear h1 bad hr
    go_enter Try.func24, Try.ntmps24
    go_wp2_with (fail)
    refine C.out.mono ?_
    rintro e w' ⟨rfl, rfl⟩
    go_wp2
    go_ret
    exact ⟨ret_int HE.out, rfl⟩
  have C := Lib.hid (l13Drain_b (c := c) h hn (decide_eq_true h1))
  by_cases h2 : 0 ≤ a ∧ a ≤ 3000
  rotate_left
  · have C2 := Lib.hid (l1In_no a 0 3000 w h2)
    have HE := bad (fun hh => h2 hh.2.1)
    clear h1 h2 bad hr
    go_enter Try.func24, Try.ntmps24
    go_wp2_with (fail)
    refine C.out.mono ?_
    rintro e w' ⟨rfl, rfl⟩
    go_wp2_with (fail)
    refine C2.out.mono ?_
    rintro e w' ⟨rfl, rfl⟩
    go_wp2
    go_ret
    exact ⟨ret_int HE.out, rfl⟩
  have C2 := Lib.hid (l1In_yes a 0 3000 w h2.1 h2.2)
  by_cases h3 : 0 ≤ k ∧ k ≤ 3000
  rotate_left
  · have C3 := Lib.hid (l1In_no k 0 3000 w h3)
    have HE := bad (fun hh => h3 hh.2.2)
    clear h1 h2 h3 bad hr
    go_enter Try.func24, Try.ntmps24
    go_wp2_with (fail)
    refine C.out.mono ?_
    rintro e w' ⟨rfl, rfl⟩
    go_wp2_with (fail)
    refine C2.out.mono ?_
    rintro e w' ⟨rfl, rfl⟩
    go_wp2_with (fail)
    refine C3.out.mono ?_
    rintro e w' ⟨rfl, rfl⟩
    go_wp2
    go_ret
    exact ⟨ret_int HE.out, rfl⟩
  have C3 := Lib.hid (l1In_yes k 0 3000 w h3.1 h3.2)
  obtain ⟨f, rfl⟩ := Int.eq_ofNat_of_zero_le h2.1
  obtain ⟨m, rfl⟩ := Int.eq_ofNat_of_zero_le h3.1
  have HR := Lib.hid (show (cntF (opOf ds) f m : Int) = r by rw [← hr]; exact (if_pos (show drainOk ds ∧ slotOk (f : Int) ∧ slotOk (m : Int) from ⟨h1, h2, h3⟩)).symm)
  have HDR := Lib.hid (fun t => drain_at h1 t)
  have hl := h.len
  have hp := drainOk_pos h1
  rw [hl] at hp
  have hf := h2.2
  have hm := h3.2
  clear h1 h2 h3 bad hr
  go_enter Try.func24, Try.ntmps24
  go_wp2_with (fail)
  refine C.out.mono ?_
  rintro e w' ⟨rfl, rfl⟩
  go_wp2_with (fail)
  refine C2.out.mono ?_
  rintro e w' ⟨rfl, rfl⟩
  go_wp2_with (fail)
  refine C3.out.mono ?_
  rintro e w' ⟨rfl, rfl⟩
  go_wp2
  go_loop [7, 8] (fun v i => ∃ (k S : Nat), k ≤ m ∧ i = .int .i64 (k : Int) ∧ v = .int .i64 (S : Int) ∧ S ≤ k ∧ Hid (cntF (opOf ds) f k = S)) (fun _ i => m - (intOf i).toNat)
  case atStart =>
    have H1 : Hid (cntF (opOf ds) f 0 = 0) := by
      have : cntF (opOf ds) f 0 = 0 := rfl
      exact this
    exact ⟨0, 0, Nat.zero_le _, rfl, rfl, Nat.le_refl _, H1⟩
  case round =>
    obtain ⟨k, S, hk, rfl, rfl, hS, HS⟩ := hrel
    by_cases hlt : k < m
    · have hltB : decide ((k : Int) < (m : Int)) = true := by simp; omega
      obtain ⟨i, hi⟩ : ∃ i, f + k = i := ⟨_, rfl⟩
      obtain ⟨r', hr'⟩ : ∃ r', i % n = r' := ⟨_, rfl⟩
      have hrq : r' < n := by rw [← hr']; exact Nat.mod_lt _ (by omega)
      obtain ⟨z, hz, hzv, _⟩ := HDR.out i
      rw [hl, hr'] at hz
      obtain ⟨bb, o, z', rfl, hbl, hx, hc⟩ := h.at_ hrq
      obtain rfl : z' = z := by rw [hz] at hx; injection hx with hx; exact hx.symm
      obtain ⟨b, hb⟩ : ∃ b, (opOf ds i).toNat = b := ⟨_, rfl⟩
      have hb1 : b ≤ 1 := by rw [← hb]; exact toNat_le _
      rw [hb] at hzv
      subst hzv
      have HS2 : Hid (cntF (opOf ds) f (k + 1) = S + b) := by
        have : cntF (opOf ds) f (k + 1) = S + b := by rw [cntF, HS.out, hi, hb]
        exact this
      have e1 : (f : Int) + (k : Int) = (i : Int) := by omega
      have m1 : Int.tmod (i : Int) (n : Int) = (r' : Int) := by rw [Int.tmod_eq_emod_of_nonneg (by omega), ← hr']; exact (Int.natCast_emod i n).symm
      have m2 : (i : Int) % (n : Int) = (r' : Int) := by rw [← hr']; exact (Int.natCast_emod i n).symm
      have hqB : ((n : Int) == 0) = false := by simp; omega
      clear hz hx hr' hi hb
      go_wp2
      go_round
      case rel => exact ⟨k + 1, S + b, by omega, by go_num, by go_num, by omega, HS2⟩
      case measure => simp [intOf]; omega
    · have hltB : decide ((k : Int) < (m : Int)) = false := by simp; omega
      obtain rfl : k = m := by omega
      have HE := Lib.hid (show (S : Int) = r by rw [← HR.out, HS.out])
      go_wp2
      go_ret
      exact ⟨ret_int HE.out, rfl⟩
end Go.Proofs.Ytkdjcfejkgpplaa
