/-
  LinkBound of the program: what is proved here is what it returns, and that it writes nothing that was there. Condition: lengths up to 2^24.
-/
import Derived.Test.YtdkljljalfjpoaaLinkBound
namespace Go.Proofs.Ytdkljljalfjpoaa
open Go.RowKit

set_option maxHeartbeats 1000000 in
theorem implFatesValid_w {A : Option Addr} {n c : Nat} {fs : List Int} {w : World} (h : Has w A n (ints .i64 fs)) (hn : n ≤ 16777216) :
    Calls Try.prog 11 #[.slice A n c] w fun e w' => e = .returned (.bool (decide (fOk fs))) ∧ w = w' := by
  have HL := Lib.hid h.len
  by_cases h2 : n ≤ 200
  · have h2B : decide ((n : Int) > 200) = false := by simp; omega
    go_enter Try.func11, Try.ntmps11
    go_wp2
    go_loop [10] (fun i => ∃ k : Nat, k ≤ n ∧ i = .int .i64 k ∧ Hid (∀ f ∈ fs.take k, 0 ≤ f ∧ f ≤ 4)) (fun i => n - (intOf i).toNat)
    case atStart =>
      have : Hid (∀ f ∈ fs.take 0, 0 ≤ f ∧ f ≤ 4) := fun f hf => by simp at hf
      exact ⟨0, Nat.zero_le _, rfl, this⟩
    case round =>
      obtain ⟨k, hk, rfl, HF⟩ := hrel
      by_cases hlt : k < n
      · have hltB : decide ((k : Int) < (n : Int)) = true := by simp; omega
        obtain ⟨b, o, z, rfl, hbl, hx, hc⟩ := h.at_ hlt
        by_cases h0 : z < 0
        · have h0B : decide (z < 0) = true := by simp; omega
          have HB := Lib.hid (fOk_bad hx (by omega))
          clear hx h0
          go_wp2
          go_ret
          exact ⟨ret_bool (by rw [decide_eq_false HB.out]), rfl⟩
        · have h0B : decide (z < 0) = false := by simp; omega
          by_cases h4 : z > 4
          · have h4B : decide (z > 4) = true := by simp; omega
            have h4C : decide (4 < z) = true := by simp; omega
            have HB := Lib.hid (fOk_bad hx (by omega))
            clear hx h0 h4
            go_wp2
            go_ret
            exact ⟨ret_bool (by rw [decide_eq_false HB.out]), rfl⟩
          · have h4B : decide (z > 4) = false := by simp; omega
            have h4C : decide (4 < z) = false := by simp; omega
            have HF2 : Hid (∀ f ∈ fs.take (k + 1), 0 ≤ f ∧ f ≤ 4) := take_all (p := fun f => 0 ≤ f ∧ f ≤ 4) HF.out hx (by omega)
            clear hx h0 h4
            go_wp2
            go_round
            case rel => exact ⟨k + 1, by omega, by go_num, HF2⟩
            case measure => simp [intOf]; omega
      · have hltB : decide ((k : Int) < (n : Int)) = false := by simp; omega
        obtain rfl : k = n := by omega
        have HE : Hid (fOk fs) := by
          have h1 := HF.out
          have h2 := HL.out
          rw [List.take_of_length_le (by omega)] at h1
          exact (⟨h1, by omega⟩ : fOk fs)
        go_wp2
        go_ret
        exact ⟨ret_bool (by rw [decide_eq_true HE.out]), rfl⟩
  · have h2B : decide ((n : Int) > 200) = true := by simp; omega
    have HE : Hid (¬ fOk fs) := fun hg => by have h3 := HL.out; have := hg.2; omega
    go_enter Try.func11, Try.ntmps11
    go_wp2
    go_ret
    exact ⟨ret_bool (by rw [decide_eq_false HE.out]), rfl⟩

set_option maxHeartbeats 2000000 in
theorem isLink_w {A B : Option Addr} {n c m d : Nat} {win many : Int} {fs gs : List Int} {w : World} (h : Has w A n (ints .i64 fs)) (hn : n ≤ 16777216) (k : Has w B m (ints .i64 gs)) (hm : m ≤ 16777216) :
    Calls Try.prog 10 #[.int .i64 win, .int .i64 many, .slice A n c, .slice B m d] w fun e w' => e = .returned (.bool (decide (boundOk win many fs gs))) ∧ w = w' := by
  have C5 := Lib.hid (implFatesValid_w (c := c) h hn)
  have C6 := Lib.hid (implFatesValid_w (c := d) k hm)
  by_cases h1 : 1 ≤ win
  · have h1B : decide (win ≥ 1) = true := by simp; omega
    have h1C : decide (1 ≤ win) = true := by simp; omega
    by_cases h2 : win ≤ 8
    · have h2B : decide (win ≤ 8) = true := by simp; omega
      by_cases h3 : 0 ≤ many
      · have h3B : decide (many ≥ 0) = true := by simp; omega
        have h3C : decide (0 ≤ many) = true := by simp; omega
        by_cases h4 : many ≤ 60
        · have h4B : decide (many ≤ 60) = true := by simp; omega
          by_cases h5 : fOk fs
          · rw [decide_eq_true h5] at C5
            by_cases h6 : fOk gs
            · rw [decide_eq_true h6] at C6
              have HE := Lib.hid (show true = decide (boundOk win many fs gs) from (decide_eq_true (show boundOk win many fs gs from ⟨⟨h1, h2⟩, ⟨h3, h4⟩, h5, h6⟩)).symm)
              clear h1 h2 h3 h4 h5 h6
              generalize decide (boundOk win many fs gs) = bb at *
              go_enter Try.func10, Try.ntmps10
              go_wp2_with (fail)
              refine C5.out.mono ?_
              rintro e w' ⟨rfl, rfl⟩
              go_wp2_with (fail)
              refine C6.out.mono ?_
              rintro e w' ⟨rfl, rfl⟩
              go_wp2
              go_ret
              exact ⟨ret_bool HE.out, rfl⟩
            · rw [decide_eq_false h6] at C6
              have HE := Lib.hid (show false = decide (boundOk win many fs gs) from (decide_eq_false (show ¬ boundOk win many fs gs from fun hh => h6 hh.2.2.2)).symm)
              clear h1 h2 h3 h4 h5 h6
              generalize decide (boundOk win many fs gs) = bb at *
              go_enter Try.func10, Try.ntmps10
              go_wp2_with (fail)
              refine C5.out.mono ?_
              rintro e w' ⟨rfl, rfl⟩
              go_wp2_with (fail)
              refine C6.out.mono ?_
              rintro e w' ⟨rfl, rfl⟩
              go_wp2
              go_ret
              exact ⟨ret_bool HE.out, rfl⟩
          · rw [decide_eq_false h5] at C5
            have HE := Lib.hid (show false = decide (boundOk win many fs gs) from (decide_eq_false (show ¬ boundOk win many fs gs from fun hh => h5 hh.2.2.1)).symm)
            clear h1 h2 h3 h4 h5
            generalize decide (boundOk win many fs gs) = bb at *
            go_enter Try.func10, Try.ntmps10
            go_wp2_with (fail)
            refine C5.out.mono ?_
            rintro e w' ⟨rfl, rfl⟩
            go_wp2
            go_ret
            exact ⟨ret_bool HE.out, rfl⟩
        · have h4B : decide (many ≤ 60) = false := by simp; omega
          have HE := Lib.hid (show false = decide (boundOk win many fs gs) from (decide_eq_false (show ¬ boundOk win many fs gs from fun hh => h4 hh.2.1.2)).symm)
          clear h1 h2 h3 h4
          generalize decide (boundOk win many fs gs) = bb at *
          go_enter Try.func10, Try.ntmps10
          go_wp2
          go_ret
          exact ⟨ret_bool HE.out, rfl⟩
      · have h3B : decide (many ≥ 0) = false := by simp; omega
        have h3C : decide (0 ≤ many) = false := by simp; omega
        have HE := Lib.hid (show false = decide (boundOk win many fs gs) from (decide_eq_false (show ¬ boundOk win many fs gs from fun hh => h3 hh.2.1.1)).symm)
        clear h1 h2 h3
        generalize decide (boundOk win many fs gs) = bb at *
        go_enter Try.func10, Try.ntmps10
        go_wp2
        go_ret
        exact ⟨ret_bool HE.out, rfl⟩
    · have h2B : decide (win ≤ 8) = false := by simp; omega
      have HE := Lib.hid (show false = decide (boundOk win many fs gs) from (decide_eq_false (show ¬ boundOk win many fs gs from fun hh => h2 hh.1.2)).symm)
      clear h1 h2
      generalize decide (boundOk win many fs gs) = bb at *
      go_enter Try.func10, Try.ntmps10
      go_wp2
      go_ret
      exact ⟨ret_bool HE.out, rfl⟩
  · have h1B : decide (win ≥ 1) = false := by simp; omega
    have h1C : decide (1 ≤ win) = false := by simp; omega
    have HE := Lib.hid (show false = decide (boundOk win many fs gs) from (decide_eq_false (show ¬ boundOk win many fs gs from fun hh => h1 hh.1.1)).symm)
    clear h1
    generalize decide (boundOk win many fs gs) = bb at *
    go_enter Try.func10, Try.ntmps10
    go_wp2
    go_ret
    exact ⟨ret_bool HE.out, rfl⟩

set_option maxHeartbeats 2000000 in
theorem implLinkBound_w {A B : Option Addr} {n c m d : Nat} {win many : Int} {fs gs : List Int} {w : World} (h : Has w A n (ints .i64 fs)) (hn : n ≤ 16777216) (k : Has w B m (ints .i64 gs)) (hm : m ≤ 16777216) :
    Calls Try.prog 6 #[.int .i64 win, .int .i64 many, .slice A n c, .slice B m d] w fun e w' => e = .returned (.int .i64 (boundI win many fs gs)) ∧ w = w' := by
  have hl := h.len
  have kl := k.len
  have C := Lib.hid (isLink_w (c := c) (d := d) (win := win) (many := many) h hn k hm)
  by_cases hb : boundOk win many fs gs
  · rw [decide_eq_true hb] at C
    have HE := Lib.hid (show boundI win many fs gs = max (n : Int) (m : Int) + (many + win - 1) / win by unfold boundI; rw [if_pos hb, hl, kl])
    obtain ⟨⟨w1, w2⟩, ⟨m1, m2⟩, h3, h4⟩ := hb
    have hq : (many + win - 1).tdiv win = (many + win - 1) / win := Int.tdiv_eq_ediv_of_nonneg (by omega)
    have hq1 : 0 ≤ (many + win - 1) / win := Int.ediv_nonneg (by omega) (by omega)
    have hq2 : (many + win - 1) / win ≤ 67 := Int.le_trans (Int.ediv_le_self _ (by omega)) (by omega)
    have hw0 : ¬ win = 0 := by omega
    have hwB : (win == 0) = false := by simp; omega
    have hn2 : n ≤ 200 := by have := h3.2; omega
    have hm2 : m ≤ 200 := by have := h4.2; omega
    clear h3 h4
    generalize hqq : (many + win - 1) / win = Q at *
    go_enter Try.func6, Try.ntmps6
    go_wp2_with (fail)
    refine C.out.mono ?_
    rintro e w' ⟨rfl, rfl⟩
    go_wp2
    go_ret
    exact ⟨ret_int HE.out.symm, rfl⟩
  · rw [decide_eq_false hb] at C
    have HE := Lib.hid (show boundI win many fs gs = -1 by unfold boundI; rw [if_neg hb])
    clear hb
    go_enter Try.func6, Try.ntmps6
    go_wp2_with (fail)
    refine C.out.mono ?_
    rintro e w' ⟨rfl, rfl⟩
    go_wp2
    go_ret
    exact ⟨ret_int HE.out.symm, rfl⟩
theorem implLinkBound_any {A B : Option Addr} {n c m d : Nat} {win many : Int} {fs gs : List Int} {w : World} (_ : -9223372036854775808 ≤ win ∧ win ≤ 9223372036854775807) (_ : -9223372036854775808 ≤ many ∧ many ≤ 9223372036854775807) (h : Has w A n (ints .i64 fs)) (_ : I64s fs) (hn : n ≤ 16777216) (k : Has w B m (ints .i64 gs)) (_ : I64s gs) (hm : m ≤ 16777216) :
    Calls Try.prog 6 #[.int .i64 win, .int .i64 many, .slice A n c, .slice B m d] w fun e w' => e = .returned (.int .i64 (boundI win many fs gs)) ∧ Below w.heap.size w w' :=
  (implLinkBound_w h hn k hm).mono fun _ _ hh => ⟨hh.1, by rw [← hh.2]; exact Below.refl _ _⟩
end Go.Proofs.Ytdkljljalfjpoaa
