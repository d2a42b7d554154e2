/-
  Chapter 11's model, flows, scores and the wire of a flow: what is proved here is what FlowOf, ScoreOf and MemberFor return, and that they write nothing that was there. Condition: lengths up to 2^24.
-/
import Derived.Test.YtimddobedgopiaaBools
import Derived.Test.YtimddobedgopiaaMathFlow
import Derived.Test.YtimddobedgopiaaPar
namespace Go.Proofs.Ytimddobedgopiaa
open Go.RowKit

theorem flowI_bounds (a b : Int) : -1 ≤ flowI a b ∧ flowI a b ≤ 224 := by
  unfold flowI
  split <;> omega
theorem flowI_neg {a b : Int} (h : flowI a b < 0) : flowI a b = -1 := by
  unfold flowI at *
  split at h
  · omega
  · rename_i h1; rw [if_neg h1]
/-- A number as the program and the model mix it. -/
theorem score_mix {f m : Nat} (hf : f ≤ 239) (hm : m ≤ 7) :
    ∃ a s p q : Nat, f * 131 + m * 1117 + 7 = a ∧ a ≤ 39135 ∧ a * a = s ∧ s ≤ 1531548225 ∧ s % 65521 = p ∧ p ≤ 65520 ∧ (p * 31 + a) % 65521 = q ∧ q ≤ 65520 ∧ scoreM f m = q := by
  refine ⟨_, _, _, _, rfl, by omega, rfl, ?_, rfl, by omega, rfl, by omega, rfl⟩
  have h1 : f * 131 + m * 1117 + 7 ≤ 39135 := by omega
  exact Nat.le_trans (Nat.mul_le_mul h1 h1) (by decide)
theorem scoreI_nat {f m : Nat} (hf : f ≤ 239) (hm : m ≤ 7) : scoreI (f : Int) (m : Int) = (scoreM f m : Int) := by
  unfold scoreI
  rw [if_pos (by omega)]
  simp

set_option maxHeartbeats 1000000 in
theorem specFlowOf_r {a b r : Int} {w : World} (hr : flowI a b = r) :
    Calls Try.prog 17 #[.int .i64 a, .int .i64 b] w fun e w' => e = .returned (.int .i64 r) ∧ w = w' := by
  unfold flowI at hr
  by_cases h1 : 0 ≤ a ∧ a ≤ 14
  · have H1 := Lib.hid h1
    by_cases h2 : 0 ≤ b ∧ b ≤ 15
    · have H2 := Lib.hid h2
      rw [if_pos ⟨h1.1, h1.2, h2⟩] at hr
      have w1 : IntKind.i64.wrap (15 * a) = 15 * a := IntWalk.i64_in _ (by omega)
      have t1 : b.tmod 15 = b % 15 := Int.tmod_eq_emod_of_nonneg h2.1
      have w2 : IntKind.i64.wrap (15 * a + b % 15) = 15 * a + b % 15 := IntWalk.i64_in _ (by omega)
      have b1 : -9223372036854775808 ≤ 15 * a := by omega
      have b2 : 15 * a ≤ 9223372036854775807 := by omega
      have b3 : -9223372036854775808 ≤ 15 * a + b % 15 := by omega
      have b4 : 15 * a + b % 15 ≤ 9223372036854775807 := by omega
      have HR := Lib.hid hr
      clear hr h1 h2
      go_enter Try.func17, Try.ntmps17
      go_wp2_with (first | (go_at_call 52; refine (l1In_yes _ _ _ _ (by have := H1.out; have := H2.out; omega) (by have := H1.out; have := H2.out; omega)).mono ?_; rintro e w' ⟨rfl, rfl⟩) | (go_at_call 52; refine (l1In_no _ _ _ _ (by have := H1.out; have := H2.out; omega)).mono ?_; rintro e w' ⟨rfl, rfl⟩))
      go_ret
      exact ⟨ret_int (by rw [← HR.out]), rfl⟩
    · have H2 := Lib.hid h2
      rw [if_neg (fun hh => h2 ⟨hh.2.2.1, hh.2.2.2⟩)] at hr
      subst hr
      clear h1 h2
      go_enter Try.func17, Try.ntmps17
      go_wp2_with (first | (go_at_call 52; refine (l1In_yes _ _ _ _ (by have := H1.out; have := H2.out; omega) (by have := H1.out; have := H2.out; omega)).mono ?_; rintro e w' ⟨rfl, rfl⟩) | (go_at_call 52; refine (l1In_no _ _ _ _ (by have := H1.out; have := H2.out; omega)).mono ?_; rintro e w' ⟨rfl, rfl⟩))
      go_ret
      exact ⟨rfl, rfl⟩
  · have C1 := Lib.hid (l1In_no a 0 14 w h1)
    rw [if_neg (fun hh => h1 ⟨hh.1, hh.2.1⟩)] at hr
    subst hr
    clear h1
    go_enter Try.func17, Try.ntmps17
    go_wp2_with (go_at_call 52; refine C1.out.mono ?_; rintro e w' ⟨rfl, rfl⟩)
    go_ret
    exact ⟨rfl, rfl⟩

set_option maxHeartbeats 1000000 in
theorem l11Score_any {f m : Nat} (hf : f ≤ 239) (hm : m ≤ 7) (w : World) :
    Calls Try.prog 59 #[.int .i64 (f : Int), .int .i64 (m : Int)] w fun e w' => e = .returned (.int .i64 (scoreM f m : Int)) ∧ w = w' := by
  obtain ⟨a, s, p, q, e1, b1, e2, b2, e3, b3, e4, b4, e5⟩ := score_mix hf hm
  rw [e5]
  have w1 : IntKind.i64.wrap ((f : Int) * 131) = (f : Int) * 131 := IntWalk.i64_in _ (by omega)
  have w2 : IntKind.i64.wrap ((m : Int) * 1117) = (m : Int) * 1117 := IntWalk.i64_in _ (by omega)
  have w3 : IntKind.i64.wrap ((f : Int) * 131 + (m : Int) * 1117) = (f : Int) * 131 + (m : Int) * 1117 := IntWalk.i64_in _ (by omega)
  have w4 : IntKind.i64.wrap ((f : Int) * 131 + (m : Int) * 1117 + 7) = (a : Int) := by rw [IntWalk.i64_in _ (by omega)]; omega
  have t4 : Int.tmod (a : Int) 65521 = (a : Int) := by rw [Int.tmod_eq_emod_of_nonneg (by omega)]; omega
  have w5 : IntKind.i64.wrap ((a : Int) * (a : Int)) = (s : Int) := by rw [← Int.natCast_mul, e2, IntWalk.i64_in _ (by omega)]
  have t5 : Int.tmod (s : Int) 65521 = (p : Int) := by rw [Int.tmod_eq_emod_of_nonneg (by omega)]; omega
  have w6 : IntKind.i64.wrap ((p : Int) * 31) = (p : Int) * 31 := IntWalk.i64_in _ (by omega)
  have w7 : IntKind.i64.wrap ((p : Int) * 31 + (a : Int)) = (p : Int) * 31 + (a : Int) := IntWalk.i64_in _ (by omega)
  have t7 : Int.tmod ((p : Int) * 31 + (a : Int)) 65521 = (q : Int) := by rw [Int.tmod_eq_emod_of_nonneg (by omega)]; omega
  clear e1 e2 e3 e4 e5
  go_enter Try.func59, Try.ntmps59
  go_wp2
  go_ret
  exact ⟨rfl, rfl⟩

set_option maxHeartbeats 1000000 in
theorem specScoreOf_r {f m r : Int} {w : World} (hr : scoreI f m = r) :
    Calls Try.prog 23 #[.int .i64 f, .int .i64 m] w fun e w' => e = .returned (.int .i64 r) ∧ w = w' := by
  unfold scoreI at hr
  by_cases h1 : 0 ≤ f ∧ f ≤ 239
  · have H1 := Lib.hid h1
    by_cases h2 : 0 ≤ m ∧ m ≤ 7
    · have H2 := Lib.hid h2
      rw [if_pos ⟨h1.1, h1.2, h2⟩] at hr
      obtain ⟨F, rfl⟩ := Int.eq_ofNat_of_zero_le h1.1
      obtain ⟨M, rfl⟩ := Int.eq_ofNat_of_zero_le h2.1
      have C3 := Lib.hid (l11Score_any (f := F) (m := M) (by omega) (by omega) w)
      simp only [Int.toNat_natCast] at hr
      rw [hr] at C3
      clear hr h1 h2
      go_enter Try.func23, Try.ntmps23
      go_wp2_with (first | (go_at_call 52; refine (l1In_yes _ _ _ _ (by have := H1.out; have := H2.out; omega) (by have := H1.out; have := H2.out; omega)).mono ?_; rintro e w' ⟨rfl, rfl⟩) | (go_at_call 52; refine (l1In_no _ _ _ _ (by have := H1.out; have := H2.out; omega)).mono ?_; rintro e w' ⟨rfl, rfl⟩) | (go_at_call 59; refine C3.out.mono ?_; rintro e w' ⟨rfl, rfl⟩))
      go_ret
      exact ⟨rfl, rfl⟩
    · have H2 := Lib.hid h2
      rw [if_neg (fun hh => h2 ⟨hh.2.2.1, hh.2.2.2⟩)] at hr
      subst hr
      clear h1 h2
      go_enter Try.func23, Try.ntmps23
      go_wp2_with (first | (go_at_call 52; refine (l1In_yes _ _ _ _ (by have := H1.out; have := H2.out; omega) (by have := H1.out; have := H2.out; omega)).mono ?_; rintro e w' ⟨rfl, rfl⟩) | (go_at_call 52; refine (l1In_no _ _ _ _ (by have := H1.out; have := H2.out; omega)).mono ?_; rintro e w' ⟨rfl, rfl⟩))
      go_ret
      exact ⟨rfl, rfl⟩
  · have C1 := Lib.hid (l1In_no f 0 239 w h1)
    rw [if_neg (fun hh => h1 ⟨hh.1, hh.2.1⟩)] at hr
    subst hr
    clear h1
    go_enter Try.func23, Try.ntmps23
    go_wp2_with (go_at_call 52; refine C1.out.mono ?_; rintro e w' ⟨rfl, rfl⟩)
    go_ret
    exact ⟨rfl, rfl⟩

set_option maxHeartbeats 1000000 in
theorem l11Bundle_b {A : Option Addr} {n c : Nat} {w : World} (hn : n ≤ 16777216) {b : Bool} (hb : decide (1 ≤ n ∧ n ≤ 8) = b) :
    Calls Try.prog 58 #[.slice A n c] w fun e w' => e = .returned (.bool b) ∧ w = w' := by
  by_cases h : 1 ≤ n ∧ n ≤ 8
  · obtain rfl : b = true := by rw [← hb]; exact decide_eq_true h
    have C1 := Lib.hid (l1In_yes (n : Int) 1 8 w (by omega) (by omega))
    clear h hb
    go_enter Try.func58, Try.ntmps58
    go_wp2_with (go_at_call 52; refine C1.out.mono ?_; rintro e w' ⟨rfl, rfl⟩)
    go_ret
    exact ⟨rfl, rfl⟩
  · obtain rfl : b = false := by rw [← hb]; exact decide_eq_false h
    have C1 := Lib.hid (l1In_no (n : Int) 1 8 w (by omega))
    clear h hb
    go_enter Try.func58, Try.ntmps58
    go_wp2_with (go_at_call 52; refine C1.out.mono ?_; rintro e w' ⟨rfl, rfl⟩)
    go_ret
    exact ⟨rfl, rfl⟩

theorem best_yes {us : List Bool} {f m : Nat} (h1 : us.getD m false = true) (h2 : bestTo us f m < 0 ∨ scoreM f (bestTo us f m).toNat < scoreM f m) : bestTo us f (m + 1) = (m : Int) := by
  rw [bestTo, if_pos ⟨h1, h2⟩]
theorem best_down {us : List Bool} {f m : Nat} (h1 : us.getD m false = false) : bestTo us f (m + 1) = bestTo us f m := by
  rw [bestTo, if_neg]
  rw [h1]; rintro ⟨h, _⟩; cases h
theorem best_less {us : List Bool} {f m : Nat} (h2 : ¬ (bestTo us f m < 0 ∨ scoreM f (bestTo us f m).toNat < scoreM f m)) : bestTo us f (m + 1) = bestTo us f m := by
  rw [bestTo, if_neg]
  rintro ⟨_, h⟩; exact h2 h

set_option maxRecDepth 100000 in
set_option maxHeartbeats 1000000 in
theorem specMemberFor_r {A : Option Addr} {n c : Nat} {us : List Bool} {f r : Int} {w : World} (h : Has w A n (bools us)) (hn : n ≤ 16777216) (hr : memI us f = r) :
    Calls Try.prog 20 #[.slice A n c, .int .i64 f] w fun e w' => e = .returned (.int .i64 r) ∧ w = w' := by
  have hl := has_bools_len h
  have e8 : upOk us ↔ 1 ≤ n ∧ n ≤ 8 := by unfold upOk; omega
  unfold memI at hr
  by_cases h1 : 1 ≤ n ∧ n ≤ 8
  · have C1 := Lib.hid (fun W : World => l11Bundle_b (A := A) (c := c) (w := W) hn (decide_eq_true h1))
    by_cases h2 : 0 ≤ f ∧ f ≤ 239
    · have C2 := Lib.hid (fun W : World => l1In_yes f 0 239 W h2.1 h2.2)
      rw [if_pos ⟨e8.2 h1, h2.1, h2.2⟩] at hr
      obtain ⟨F, rfl⟩ := Int.eq_ofNat_of_zero_le h2.1
      simp only [Int.toNat_natCast] at hr
      unfold memP at hr
      rw [hl] at hr
      have HR := Lib.hid hr
      have hF : F ≤ 239 := by omega
      have hn8 : n ≤ 8 := h1.2
      clear hr h1 h2 hl e8
      go_enter Try.func20, Try.ntmps20
      go_wp2
      go_loop [5, 6] (fun b i => ∃ k : Nat, k ≤ n ∧ i = .int .i64 (k : Int) ∧ b = .int .i64 (bestTo us F k)) (fun _ i => n - (intOf i).toNat)
      case atStart => exact ⟨0, Nat.zero_le _, rfl, rfl⟩
      case round =>
        obtain ⟨k, hk, rfl, rfl⟩ := hrel
        by_cases hlt : k < n
        · have hltB : decide ((k : Int) < (n : Int)) = true := by simp; omega
          obtain ⟨b, o, rfl, hbl, hc⟩ := has_bool h hlt
          have hk0 : (0 : Int) ≤ (k : Int) := by omega
          have hk1 : (k : Int) < (n : Int) := by omega
          by_cases hu : us.getD k false = true
          · rw [hu] at hc
            by_cases hb0 : bestTo us F k < 0
            · have HB := Lib.hid (best_yes hu (.inl hb0))
              have hbB : decide (bestTo us F k < 0) = true := by simp; omega
              generalize bestTo us F k = q at *
              clear hu hb0
              go_wp2_with (first | (go_at_call 58; refine (C1.out _).mono ?_; rintro e w' ⟨rfl, rfl⟩) | (go_at_call 52; refine (C2.out _).mono ?_; rintro e w' ⟨rfl, rfl⟩))
              go_round
              case rel => exact ⟨k + 1, by omega, by go_num, by rw [HB.out]⟩
              case measure => simp [intOf]; omega
            · have hbB : decide (bestTo us F k < 0) = false := by simp; omega
              have hlt2 := bestTo_lt us F k
              obtain ⟨j, hj⟩ := Int.eq_ofNat_of_zero_le (show 0 ≤ bestTo us F k by omega)
              have HY := Lib.hid (best_yes (us := us) (f := F) (m := k) hu)
              have HN := Lib.hid (best_less (us := us) (f := F) (m := k))
              rw [hj] at hbB HY HN
              simp only [Int.toNat_natCast] at HY HN
              have hj7 : j ≤ 7 := by omega
              have hk7 : k ≤ 7 := by omega
              by_cases hgt : scoreM F j < scoreM F k
              · have gB : decide ((scoreM F k : Int) > (scoreM F j : Int)) = true := by simp; omega
                have gC : decide ((scoreM F j : Int) < (scoreM F k : Int)) = true := by simp; omega
                have gD : decide (scoreM F j < scoreM F k) = true := by simp; omega
                have HB := Lib.hid (HY.out (.inr hgt))
                rw [hj]
                clear hu hb0 hlt2 hj hgt
                go_wp2_with (first | (go_at_call 58; refine (C1.out _).mono ?_; rintro e w' ⟨rfl, rfl⟩) | (go_at_call 52; refine (C2.out _).mono ?_; rintro e w' ⟨rfl, rfl⟩) | (go_at_call 59; refine (l11Score_any (by omega) (by omega) _).mono ?_; rintro e w' ⟨rfl, rfl⟩))
                go_round
                case rel => exact ⟨k + 1, by omega, by go_num, by rw [HB.out]⟩
                case measure => simp [intOf]; omega
              · have gB : decide ((scoreM F k : Int) > (scoreM F j : Int)) = false := by simp; omega
                have gC : decide ((scoreM F j : Int) < (scoreM F k : Int)) = false := by simp; omega
                have gD : decide (scoreM F j < scoreM F k) = false := by simp; omega
                have HB := Lib.hid (HN.out (by omega))
                rw [hj]
                clear hu hb0 hlt2 hj hgt
                go_wp2_with (first | (go_at_call 58; refine (C1.out _).mono ?_; rintro e w' ⟨rfl, rfl⟩) | (go_at_call 52; refine (C2.out _).mono ?_; rintro e w' ⟨rfl, rfl⟩) | (go_at_call 59; refine (l11Score_any (by omega) (by omega) _).mono ?_; rintro e w' ⟨rfl, rfl⟩))
                go_round
                case rel => exact ⟨k + 1, by omega, by go_num, by rw [HB.out]⟩
                case measure => simp [intOf]; omega
          · have hu' : us.getD k false = false := by simpa using hu
            rw [hu'] at hc
            have HB := Lib.hid (best_down (f := F) hu')
            generalize bestTo us F k = q at *
            clear hu hu'
            go_wp2_with (first | (go_at_call 58; refine (C1.out _).mono ?_; rintro e w' ⟨rfl, rfl⟩) | (go_at_call 52; refine (C2.out _).mono ?_; rintro e w' ⟨rfl, rfl⟩))
            go_round
            case rel => exact ⟨k + 1, by omega, by go_num, by rw [HB.out]⟩
            case measure => simp [intOf]; omega
        · have hltB : decide ((k : Int) < (n : Int)) = false := by simp; omega
          obtain rfl : k = n := by omega
          rw [HR.out]
          go_wp2
          go_ret
          exact ⟨rfl, rfl⟩
    · have C2 := Lib.hid (fun W : World => l1In_no f 0 239 W h2)
      rw [if_neg (fun hh => h2 ⟨hh.2.1, hh.2.2⟩)] at hr
      subst hr
      have hltB : decide ((0 : Int) < (n : Int)) = true := by simp; omega
      have hltC : decide (0 < n) = true := by simp; omega
      clear h1 h2 hl e8
      go_enter Try.func20, Try.ntmps20
      go_wp2
      go_loop [5, 6] (fun b i => i = .int .i64 0 ∧ b = .int .i64 (-1)) (fun _ i => n - (intOf i).toNat)
      case atStart => exact ⟨rfl, rfl⟩
      case round =>
        obtain ⟨rfl, rfl⟩ := hrel
        go_wp2_with (first | (go_at_call 58; refine (C1.out _).mono ?_; rintro e w' ⟨rfl, rfl⟩) | (go_at_call 52; refine (C2.out _).mono ?_; rintro e w' ⟨rfl, rfl⟩))
        go_ret
        exact ⟨rfl, rfl⟩
  · have C1 := Lib.hid (fun W : World => l11Bundle_b (A := A) (c := c) (w := W) hn (decide_eq_false h1))
    rw [if_neg (fun hh => h1 (e8.1 hh.1))] at hr
    subst hr
    clear hl e8
    go_enter Try.func20, Try.ntmps20
    go_wp2
    go_loop [5, 6] (fun b i => i = .int .i64 0 ∧ b = .int .i64 (-1)) (fun _ i => n - (intOf i).toNat)
    case atStart => exact ⟨rfl, rfl⟩
    case round =>
      obtain ⟨rfl, rfl⟩ := hrel
      by_cases h0 : 0 < n
      · have hltB : decide ((0 : Int) < (n : Int)) = true := by simp; omega
        have hltC : decide (0 < n) = true := by simp; omega
        clear h1
        go_wp2_with (go_at_call 58; refine (C1.out _).mono ?_; rintro e w' ⟨rfl, rfl⟩)
        go_ret
        exact ⟨rfl, rfl⟩
      · have hltB : decide ((0 : Int) < (n : Int)) = false := by simp; omega
        have hltC : decide (0 < n) = false := by simp; omega
        clear h1
        go_wp2
        go_ret
        exact ⟨rfl, rfl⟩
end Go.Proofs.Ytimddobedgopiaa
