/-
  Chapter 11's program, flows, scores and the wire of a flow: what is proved here is what FlowOf, ScoreOf and MemberFor return, and that they write nothing that was there. Condition: lengths up to 2^24.
-/
import Derived.Test.YtimddobedgopiaaFlowA
namespace Go.Proofs.Ytimddobedgopiaa
open Go.RowKit

theorem isOne_b {n : Int} {b : Bool} (w : World) (hb : decide (0 ≤ n ∧ n ≤ 14) = b) : Calls Try.prog 50 #[.int .i64 n] w fun e w' => e = .returned (.bool b) ∧ w = w' := by
  subst hb
  by_cases h0 : 0 ≤ n
  · have a0 : decide (n ≥ 0) = true := decide_eq_true h0
    have a0' : decide (0 ≤ n) = true := decide_eq_true h0
    by_cases h1 : n < 15
    · have a1 : decide (n < 15) = true := decide_eq_true h1
      have HB := Lib.hid (decide_eq_true (show 0 ≤ n ∧ n ≤ 14 by omega))
      clear h0 h1
      go_enter Try.func50, Try.ntmps50
      go_wp2
      go_ret
      exact ⟨ret_bool HB.out.symm, rfl⟩
    · have a1 : decide (n < 15) = false := decide_eq_false h1
      have HB := Lib.hid (decide_eq_false (show ¬ (0 ≤ n ∧ n ≤ 14) by omega))
      clear h0 h1
      go_enter Try.func50, Try.ntmps50
      go_wp2
      go_ret
      exact ⟨ret_bool HB.out.symm, rfl⟩
  · have a0 : decide (n ≥ 0) = false := decide_eq_false h0
    have a0' : decide (0 ≤ n) = false := decide_eq_false h0
    have HB := Lib.hid (decide_eq_false (show ¬ (0 ≤ n ∧ n ≤ 14) by omega))
    clear h0
    go_enter Try.func50, Try.ntmps50
    go_wp2
    go_ret
    exact ⟨ret_bool HB.out.symm, rfl⟩
theorem isStation_b {n : Int} {b : Bool} (w : World) (hb : decide (0 ≤ n ∧ n ≤ 15) = b) : Calls Try.prog 51 #[.int .i64 n] w fun e w' => e = .returned (.bool b) ∧ w = w' := by
  subst hb
  by_cases h0 : 0 ≤ n ∧ n ≤ 14
  · have C := Lib.hid (isOne_b (b := true) w (decide_eq_true h0))
    have HB := Lib.hid (decide_eq_true (show 0 ≤ n ∧ n ≤ 15 by omega))
    clear h0
    go_enter Try.func51, Try.ntmps51
    go_wp2_with (go_at_call 50; refine C.out.mono ?_; rintro e w' ⟨rfl, rfl⟩)
    go_ret
    exact ⟨ret_bool HB.out.symm, rfl⟩
  · have C := Lib.hid (isOne_b (b := false) w (decide_eq_false h0))
    by_cases h1 : n = 15
    · have a1 : (n == 15) = true := by simp [h1]
      have a2 : decide (n = 15) = true := decide_eq_true h1
      have HB := Lib.hid (decide_eq_true (show 0 ≤ n ∧ n ≤ 15 by omega))
      clear h0 h1
      go_enter Try.func51, Try.ntmps51
      go_wp2_with (go_at_call 50; refine C.out.mono ?_; rintro e w' ⟨rfl, rfl⟩)
      go_ret
      exact ⟨ret_bool HB.out.symm, rfl⟩
    · have a1 : (n == 15) = false := by simp [h1]
      have a2 : decide (n = 15) = false := decide_eq_false h1
      have HB := Lib.hid (decide_eq_false (show ¬ (0 ≤ n ∧ n ≤ 15) by omega))
      clear h0 h1
      go_enter Try.func51, Try.ntmps51
      go_wp2_with (go_at_call 50; refine C.out.mono ?_; rintro e w' ⟨rfl, rfl⟩)
      go_ret
      exact ⟨ret_bool HB.out.symm, rfl⟩

set_option maxHeartbeats 1000000 in
theorem implFlowOf_r {a b r : Int} {w : World} (hr : flowI a b = r) :
    Calls Try.prog 16 #[.int .i64 a, .int .i64 b] w fun e w' => e = .returned (.int .i64 r) ∧ w = w' := by
  unfold flowI at hr
  by_cases h1 : 0 ≤ a ∧ a ≤ 14
  · have C1 := Lib.hid (isOne_b w (decide_eq_true h1))
    by_cases h2 : 0 ≤ b ∧ b ≤ 15
    · have C2 := Lib.hid (isStation_b w (decide_eq_true h2))
      rw [if_pos ⟨h1.1, h1.2, h2⟩] at hr
      have w1 : IntKind.i64.wrap (15 * a) = 15 * a := IntWalk.i64_in _ (by omega)
      have t1 : b.tmod 15 = b % 15 := Int.tmod_eq_emod_of_nonneg h2.1
      have w2 : IntKind.i64.wrap (15 * a + b % 15) = 15 * a + b % 15 := IntWalk.i64_in _ (by omega)
      have b1 : -9223372036854775808 ≤ 15 * a := by omega
      have b2 : 15 * a ≤ 9223372036854775807 := by omega
      have b3 : -9223372036854775808 ≤ 15 * a + b % 15 := by omega
      have b4 : 15 * a + b % 15 ≤ 9223372036854775807 := by omega
      have HR := Lib.hid hr
      clear hr h1 h2
      go_enter Try.func16, Try.ntmps16
      go_wp2_with (first | (go_at_call 50; refine C1.out.mono ?_; rintro e w' ⟨rfl, rfl⟩) | (go_at_call 51; refine C2.out.mono ?_; rintro e w' ⟨rfl, rfl⟩))
      go_ret
      exact ⟨ret_int (by rw [← HR.out]), rfl⟩
    · have C2 := Lib.hid (isStation_b w (decide_eq_false h2))
      rw [if_neg (fun hh => h2 ⟨hh.2.2.1, hh.2.2.2⟩)] at hr
      subst hr
      clear h1 h2
      go_enter Try.func16, Try.ntmps16
      go_wp2_with (first | (go_at_call 50; refine C1.out.mono ?_; rintro e w' ⟨rfl, rfl⟩) | (go_at_call 51; refine C2.out.mono ?_; rintro e w' ⟨rfl, rfl⟩))
      go_ret
      exact ⟨rfl, rfl⟩
  · have C1 := Lib.hid (isOne_b w (decide_eq_false h1))
    rw [if_neg (fun hh => h1 ⟨hh.1, hh.2.1⟩)] at hr
    subst hr
    clear h1
    go_enter Try.func16, Try.ntmps16
    go_wp2_with (go_at_call 50; refine C1.out.mono ?_; rintro e w' ⟨rfl, rfl⟩)
    go_ret
    exact ⟨rfl, rfl⟩
theorem isFlow_b {n : Int} {b : Bool} (w : World) (hb : decide (0 ≤ n ∧ n ≤ 239) = b) : Calls Try.prog 56 #[.int .i64 n] w fun e w' => e = .returned (.bool b) ∧ w = w' := by
  subst hb
  by_cases h0 : 0 ≤ n
  · have a0 : decide (n ≥ 0) = true := decide_eq_true h0
    have a0' : decide (0 ≤ n) = true := decide_eq_true h0
    by_cases h1 : n < 240
    · have a1 : decide (n < 240) = true := decide_eq_true h1
      have HB := Lib.hid (decide_eq_true (show 0 ≤ n ∧ n ≤ 239 by omega))
      clear h0 h1
      go_enter Try.func56, Try.ntmps56
      go_wp2
      go_ret
      exact ⟨ret_bool HB.out.symm, rfl⟩
    · have a1 : decide (n < 240) = false := decide_eq_false h1
      have HB := Lib.hid (decide_eq_false (show ¬ (0 ≤ n ∧ n ≤ 239) by omega))
      clear h0 h1
      go_enter Try.func56, Try.ntmps56
      go_wp2
      go_ret
      exact ⟨ret_bool HB.out.symm, rfl⟩
  · have a0 : decide (n ≥ 0) = false := decide_eq_false h0
    have a0' : decide (0 ≤ n) = false := decide_eq_false h0
    have HB := Lib.hid (decide_eq_false (show ¬ (0 ≤ n ∧ n ≤ 239) by omega))
    clear h0
    go_enter Try.func56, Try.ntmps56
    go_wp2
    go_ret
    exact ⟨ret_bool HB.out.symm, rfl⟩
theorem write_any {h n t p : Int} (w : World) (h1 : -9223372036854775808 ≤ n * t ∧ n * t ≤ 9223372036854775807) (hp : h + n * t = p) (h2 : -9223372036854775808 ≤ p ∧ p ≤ 9223372036854775807) :
    Calls Try.prog 60 #[.int .i64 h, .int .i64 n, .int .i64 t] w fun e w' => e = .returned (.int .i64 p) ∧ w = w' := by
  obtain ⟨q, hq⟩ : ∃ q, n * t = q := ⟨_, rfl⟩
  rw [hq] at h1 hp
  have w1 : IntKind.i64.wrap (n * t) = q := by rw [hq, IntWalk.i64_in _ h1]
  have w2 : IntKind.i64.wrap q = q := IntWalk.i64_in _ h1
  have w3 : IntKind.i64.wrap (h + q) = p := by rw [hp, IntWalk.i64_in _ h2]
  clear hq hp
  go_enter Try.func60, Try.ntmps60
  go_wp2
  go_ret
  exact ⟨rfl, rfl⟩
theorem sum_any {a s p q : Nat} (w : World) (ha : a ≤ 39135) (e2 : a * a = s) (hs : s ≤ 1531548225) (e3 : s % 65521 = p) (e4 : (p * 31 + a) % 65521 = q) :
    Calls Try.prog 61 #[.int .i64 (a : Int)] w fun e w' => e = .returned (.int .i64 (q : Int)) ∧ w = w' := by
  have w5 : IntKind.i64.wrap ((a : Int) * (a : Int)) = (s : Int) := by rw [← Int.natCast_mul, e2, IntWalk.i64_in _ (by omega)]
  have t5 : Int.tmod (s : Int) 65521 = (p : Int) := by rw [Int.tmod_eq_emod_of_nonneg (by omega)]; omega
  have w6 : IntKind.i64.wrap ((p : Int) * 31) = (p : Int) * 31 := IntWalk.i64_in _ (by omega)
  have w7 : IntKind.i64.wrap ((p : Int) * 31 + (a : Int)) = (p : Int) * 31 + (a : Int) := IntWalk.i64_in _ (by omega)
  have t7 : Int.tmod ((p : Int) * 31 + (a : Int)) 65521 = (q : Int) := by rw [Int.tmod_eq_emod_of_nonneg (by omega)]; omega
  have hq : q ≤ 65520 := by omega
  have w8 : IntKind.i64.wrap (q : Int) = (q : Int) := IntWalk.i64_in _ (by omega)
  clear e2 e3 e4
  go_enter Try.func61, Try.ntmps61
  go_wp2
  go_ret
  exact ⟨rfl, rfl⟩
set_option maxHeartbeats 1000000 in
theorem implScoreOf_r {f m r : Int} {w : World} (hr : scoreI f m = r) :
    Calls Try.prog 22 #[.int .i64 f, .int .i64 m] w fun e w' => e = .returned (.int .i64 r) ∧ w = w' := by
  unfold scoreI at hr
  by_cases h1 : 0 ≤ f ∧ f ≤ 239
  · have C1 := Lib.hid (isFlow_b w (decide_eq_true h1))
    by_cases h2 : 0 ≤ m
    · have m0 : decide (m < 0) = false := by simp; omega
      by_cases h3 : m ≤ 7
      · have m1 : decide (m ≥ 8) = false := by simp; omega
        have m1' : decide (8 ≤ m) = false := by simp; omega
        rw [if_pos ⟨h1.1, h1.2, h2, h3⟩] at hr
        obtain ⟨F, rfl⟩ := Int.eq_ofNat_of_zero_le h1.1
        obtain ⟨M, rfl⟩ := Int.eq_ofNat_of_zero_le h2
        simp only [Int.toNat_natCast] at hr
        obtain ⟨a, s, p, q, e1, b1, e2, b2, e3, b3, e4, b4, e5⟩ := score_mix (f := F) (m := M) (by omega) (by omega)
        rw [e5] at hr
        subst hr
        have C2 := Lib.hid (write_any (h := 7) (n := (F : Int)) (t := 131) (p := 7 + (F : Int) * 131) w (by omega) rfl (by omega))
        have C3 := Lib.hid (write_any (h := 7 + (F : Int) * 131) (n := (M : Int)) (t := 1117) (p := (a : Int)) w (by omega) (by omega) (by omega))
        have C4 := Lib.hid (sum_any w b1 e2 b2 e3 e4)
        clear e1 b1 e2 b2 e3 b3 e4 b4 e5 h1 h2 h3
        go_enter Try.func22, Try.ntmps22
        go_wp2_with (go_at_call 56; refine C1.out.mono ?_; rintro e w' ⟨rfl, rfl⟩)
        refine C2.out.mono ?_
        rintro e w' ⟨rfl, rfl⟩
        go_wp2_with (fail)
        refine C3.out.mono ?_
        rintro e w' ⟨rfl, rfl⟩
        go_wp2_with (fail)
        refine C4.out.mono ?_
        rintro e w' ⟨rfl, rfl⟩
        go_wp2
        go_ret
        exact ⟨rfl, rfl⟩
      · have m1 : decide (m ≥ 8) = true := by simp; omega
        have m1' : decide (8 ≤ m) = true := by simp; omega
        rw [if_neg (fun hh => h3 hh.2.2.2)] at hr
        subst hr
        clear h1 h2 h3
        go_enter Try.func22, Try.ntmps22
        go_wp2_with (go_at_call 56; refine C1.out.mono ?_; rintro e w' ⟨rfl, rfl⟩)
        go_ret
        exact ⟨rfl, rfl⟩
    · have m0 : decide (m < 0) = true := by simp; omega
      rw [if_neg (fun hh => h2 hh.2.2.1)] at hr
      subst hr
      clear h1 h2
      go_enter Try.func22, Try.ntmps22
      go_wp2_with (go_at_call 56; refine C1.out.mono ?_; rintro e w' ⟨rfl, rfl⟩)
      go_ret
      exact ⟨rfl, rfl⟩
  · have C1 := Lib.hid (isFlow_b w (decide_eq_false h1))
    rw [if_neg (fun hh => h1 ⟨hh.1, hh.2.1⟩)] at hr
    subst hr
    clear h1
    go_enter Try.func22, Try.ntmps22
    go_wp2_with (go_at_call 56; refine C1.out.mono ?_; rintro e w' ⟨rfl, rfl⟩)
    go_ret
    exact ⟨rfl, rfl⟩
set_option maxHeartbeats 1000000 in
theorem bundleOf_b {A : Option Addr} {n c : Nat} {w : World} (hn : n ≤ 16777216) {b : Bool} (hb : decide (1 ≤ n ∧ n ≤ 8) = b) :
    Calls Try.prog 55 #[.slice A n c] w fun e w' => e = .returned (.tuple #[.slice A n c, .bool b]) ∧ w = w' := by
  by_cases h1 : 1 ≤ n
  · have a1 : decide ((n : Int) ≥ 1) = true := by simp; omega
    have a2 : decide ((1 : Int) ≤ (n : Int)) = true := by simp; omega
    have a3 : decide (1 ≤ n) = true := by simp; omega
    by_cases h2 : n ≤ 8
    · obtain rfl : b = true := by rw [← hb]; exact decide_eq_true ⟨h1, h2⟩
      have b1 : decide ((n : Int) ≤ 8) = true := by simp; omega
      have b3 : decide (n ≤ 8) = true := by simp; omega
      clear h1 h2 hb
      go_enter Try.func55, Try.ntmps55
      go_wp2
      refine bodyPost_ret (results_tmp2 rfl _ _ _) rfl ?_
      exact ⟨rfl, rfl⟩
    · obtain rfl : b = false := by rw [← hb]; exact decide_eq_false (fun hh => h2 hh.2)
      have b1 : decide ((n : Int) ≤ 8) = false := by simp; omega
      have b3 : decide (n ≤ 8) = false := by simp; omega
      clear h1 h2 hb
      go_enter Try.func55, Try.ntmps55
      go_wp2
      refine bodyPost_ret (results_tmp2 rfl _ _ _) rfl ?_
      exact ⟨rfl, rfl⟩
  · obtain rfl : b = false := by rw [← hb]; exact decide_eq_false (fun hh => h1 hh.1)
    obtain rfl : n = 0 := by omega
    clear h1 hb
    go_enter Try.func55, Try.ntmps55
    go_wp2
    refine bodyPost_ret (results_tmp2 rfl _ _ _) rfl ?_
    exact ⟨rfl, rfl⟩

/-- The score of the best wire yet. -/
def bestS (us : List Bool) (f k : Nat) : Int := if bestTo us f k < 0 then -1 else (scoreM f (bestTo us f k).toNat : Int)
theorem bestS_iff (us : List Bool) (f k : Nat) : (bestTo us f k < 0 ∨ scoreM f (bestTo us f k).toNat < scoreM f k) ↔ bestS us f k < (scoreM f k : Int) := by
  unfold bestS
  by_cases h : bestTo us f k < 0
  · rw [if_pos h]; constructor
    · intro _; omega
    · intro _; exact .inl h
  · rw [if_neg h]; constructor
    · rintro (h1 | h1)
      · exact (h h1).elim
      · omega
    · intro h1; right; omega
theorem bestS_bounds (us : List Bool) (f k : Nat) : -1 ≤ bestS us f k ∧ bestS us f k ≤ 65520 := by
  unfold bestS
  have := scoreM_lt f (bestTo us f k).toNat
  split <;> omega
theorem bestS_yes {us : List Bool} {f k : Nat} (h : bestTo us f (k + 1) = (k : Int)) : bestS us f (k + 1) = (scoreM f k : Int) := by
  unfold bestS
  rw [h, if_neg (by omega)]
  simp
theorem bestS_same {us : List Bool} {f k : Nat} (h : bestTo us f (k + 1) = bestTo us f k) : bestS us f (k + 1) = bestS us f k := by
  unfold bestS
  rw [h]

set_option maxRecDepth 100000 in
set_option maxHeartbeats 2000000 in
theorem wireOf_any {A : Option Addr} {n c F : Nat} {us : List Bool} {w : World} (h : Has w A n (bools us)) (hn : n ≤ 8) (hF : F ≤ 239) :
    Calls Try.prog 57 #[.slice A n c, .int .i64 (F : Int)] w fun e w' => e = .returned (.int .i64 (memP us F)) ∧ w = w' := by
  have hl := has_bools_len h
  have HM := Lib.hid (show memP us F = bestTo us F n by unfold memP; rw [hl])
  rw [HM.out]
  clear hl HM
  go_enter Try.func57, Try.ntmps57
  go_wp2
  go_loop [5, 6, 12] (fun b s i => ∃ k : Nat, k ≤ n ∧ i = .int .i64 (k : Int) ∧ b = .int .i64 (bestTo us F k) ∧ s = .int .i64 (bestS us F k)) (fun _ _ i => n - (intOf i).toNat)
  case atStart => exact ⟨0, Nat.zero_le _, rfl, rfl, rfl⟩
  case round =>
    obtain ⟨k, hk, rfl, rfl, rfl⟩ := hrel
    by_cases hlt : k < n
    · have hltB : decide ((k : Int) < (n : Int)) = true := by simp; omega
      obtain ⟨b, o, rfl, hbl, hc⟩ := has_bool h hlt
      have hk0 : (0 : Int) ≤ (k : Int) := by omega
      have hk1 : (k : Int) < (n : Int) := by omega
      have C1 := Lib.hid (implScoreOf_r (w := w) (scoreI_nat hF (show k ≤ 7 by omega)))
      have HI := Lib.hid (bestS_iff us F k)
      have hsl := scoreM_lt F k
      by_cases hu : us.getD k false = true
      · rw [hu] at hc
        by_cases hgt : bestS us F k < (scoreM F k : Int)
        · have HB := Lib.hid (best_yes hu (HI.out.2 hgt))
          have HS := Lib.hid (bestS_yes HB.out)
          generalize bestTo us F k = p at *
          generalize bestS us F k = q at *
          generalize scoreM F k = s at *
          have gB : decide ((s : Int) > q) = true := by simp; omega
          have gC : decide (q < (s : Int)) = true := by simp; omega
          clear hu hgt HI
          go_wp2_with (go_at_call 22; refine C1.out.mono ?_; rintro e w' ⟨rfl, rfl⟩)
          go_round
          case rel => exact ⟨k + 1, by omega, by go_num, by rw [HB.out], by rw [HS.out]⟩
          case measure => simp [intOf]; omega
        · have HB := Lib.hid (best_less (fun hh => hgt (HI.out.1 hh)))
          have HS := Lib.hid (bestS_same HB.out)
          generalize bestTo us F k = p at *
          generalize bestS us F k = q at *
          generalize scoreM F k = s at *
          have gB : decide ((s : Int) > q) = false := by simp; omega
          have gC : decide (q < (s : Int)) = false := by simp; omega
          clear hu hgt HI
          go_wp2_with (go_at_call 22; refine C1.out.mono ?_; rintro e w' ⟨rfl, rfl⟩)
          go_round
          case rel => exact ⟨k + 1, by omega, by go_num, by rw [HB.out], by rw [HS.out]⟩
          case measure => simp [intOf]; omega
      · have hu' : us.getD k false = false := by simpa using hu
        rw [hu'] at hc
        have HB := Lib.hid (best_down (f := F) hu')
        have HS := Lib.hid (bestS_same HB.out)
        generalize bestTo us F k = p at *
        generalize bestS us F k = q at *
        generalize scoreM F k = s at *
        clear hu hu' HI
        go_wp2_with (go_at_call 22; refine C1.out.mono ?_; rintro e w' ⟨rfl, rfl⟩)
        go_round
        case rel => exact ⟨k + 1, by omega, by go_num, by rw [HB.out], by rw [HS.out]⟩
        case measure => simp [intOf]; omega
    · have hltB : decide ((k : Int) < (n : Int)) = false := by simp; omega
      obtain rfl : k = n := by omega
      go_wp2
      go_ret
      exact ⟨rfl, rfl⟩

set_option maxHeartbeats 1000000 in
theorem implMemberFor_r {A : Option Addr} {n c : Nat} {us : List Bool} {f r : Int} {w : World} (h : Has w A n (bools us)) (hn : n ≤ 16777216) (hr : memI us f = r) :
    Calls Try.prog 19 #[.slice A n c, .int .i64 f] w fun e w' => e = .returned (.int .i64 r) ∧ w = w' := by
  have hl := has_bools_len h
  have e8 : upOk us ↔ 1 ≤ n ∧ n ≤ 8 := by unfold upOk; omega
  unfold memI at hr
  by_cases h1 : 1 ≤ n ∧ n ≤ 8
  · have C1 := Lib.hid (bundleOf_b (A := A) (c := c) (w := w) hn (decide_eq_true h1))
    by_cases h2 : 0 ≤ f ∧ f ≤ 239
    · have C2 := Lib.hid (isFlow_b w (decide_eq_true h2))
      rw [if_pos ⟨e8.2 h1, h2.1, h2.2⟩] at hr
      obtain ⟨F, rfl⟩ := Int.eq_ofNat_of_zero_le h2.1
      simp only [Int.toNat_natCast] at hr
      have C3 := Lib.hid (wireOf_any (c := c) h h1.2 (show F ≤ 239 by omega))
      rw [hr] at C3
      clear hr h1 h2 hl e8
      go_enter Try.func19, Try.ntmps19
      go_wp2_with (first | (go_at_call 55; refine C1.out.mono ?_; rintro e w' ⟨rfl, rfl⟩) | (go_at_call 56; refine C2.out.mono ?_; rintro e w' ⟨rfl, rfl⟩) | (go_at_call 57; refine C3.out.mono ?_; rintro e w' ⟨rfl, rfl⟩))
      go_ret
      exact ⟨rfl, rfl⟩
    · have C2 := Lib.hid (isFlow_b w (decide_eq_false h2))
      rw [if_neg (fun hh => h2 ⟨hh.2.1, hh.2.2⟩)] at hr
      subst hr
      clear h1 h2 hl e8
      go_enter Try.func19, Try.ntmps19
      go_wp2_with (first | (go_at_call 55; refine C1.out.mono ?_; rintro e w' ⟨rfl, rfl⟩) | (go_at_call 56; refine C2.out.mono ?_; rintro e w' ⟨rfl, rfl⟩))
      go_ret
      exact ⟨rfl, rfl⟩
  · have C1 := Lib.hid (bundleOf_b (A := A) (c := c) (w := w) hn (decide_eq_false h1))
    rw [if_neg (fun hh => h1 (e8.1 hh.1))] at hr
    subst hr
    clear h1 hl e8
    go_enter Try.func19, Try.ntmps19
    go_wp2_with (go_at_call 55; refine C1.out.mono ?_; rintro e w' ⟨rfl, rfl⟩)
    go_ret
    exact ⟨rfl, rfl⟩
end Go.Proofs.Ytimddobedgopiaa
