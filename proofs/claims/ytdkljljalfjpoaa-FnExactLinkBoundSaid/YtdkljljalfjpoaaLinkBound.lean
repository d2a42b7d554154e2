/-
  LinkBound of the model: what is proved here is what it returns, and that it writes nothing that was there. Condition: lengths up to 2^24.
-/
import Derived.Test.YtdkljljalfjpoaaFates
namespace Go.Proofs.Ytdkljljalfjpoaa
open Go.RowKit

def boundOk (win many : Int) (fs gs : List Int) : Prop := (1 ≤ win ∧ win ≤ 8) ∧ (0 ≤ many ∧ many ≤ 60) ∧ fOk fs ∧ fOk gs
instance (win many : Int) (fs gs : List Int) : Decidable (boundOk win many fs gs) := by unfold boundOk; infer_instance
def boundI (win many : Int) (fs gs : List Int) : Int := if boundOk win many fs gs then max (fs.length : Int) (gs.length : Int) + (many + win - 1) / win else -1
set_option maxHeartbeats 2000000 in
theorem specLinkBound_w {A B : Option Addr} {n c m d : Nat} {win many : Int} {fs gs : List Int} {w : World} (h : Has w A n (ints .i64 fs)) (hn : n ≤ 16777216) (k : Has w B m (ints .i64 gs)) (hm : m ≤ 16777216) :
    Calls Try.prog 4 #[.int .i64 win, .int .i64 many, .slice A n c, .slice B m d] w fun e w' => e = .returned (.int .i64 (boundI win many fs gs)) ∧ w = w' := by
  have hl := h.len
  have kl := k.len
  by_cases h1 : 1 ≤ win ∧ win ≤ 8
  · have C1 := Lib.hid (l1In_yes win 1 8 w h1.1 h1.2)
    by_cases h2 : 0 ≤ many ∧ many ≤ 60
    · have C2 := Lib.hid (l1In_yes many 0 60 w h2.1 h2.2)
      by_cases h3 : fOk fs
      · have C3 := Lib.hid ((specFatesValid_w (c := c) h hn).mono fun e w' (hh : e = .returned (.bool (decide (fOk fs))) ∧ w = w') => (⟨by rw [hh.1, decide_eq_true h3], hh.2⟩ : e = .returned (.bool true) ∧ w = w'))
        by_cases h4 : fOk gs
        · have C4 := Lib.hid ((specFatesValid_w (c := d) k hm).mono fun e w' (hh : e = .returned (.bool (decide (fOk gs))) ∧ w = w') => (⟨by rw [hh.1, decide_eq_true h4], hh.2⟩ : e = .returned (.bool true) ∧ w = w'))
          have HE := Lib.hid (show boundI win many fs gs = max (n : Int) (m : Int) + (many + win - 1) / win by unfold boundI; rw [if_pos ⟨h1, h2, h3, h4⟩, hl, kl])
          have hq : (many + win - 1).tdiv win = (many + win - 1) / win := Int.tdiv_eq_ediv_of_nonneg (by omega)
          have hq1 : 0 ≤ (many + win - 1) / win := Int.ediv_nonneg (by omega) (by omega)
          have hq2 : (many + win - 1) / win ≤ 67 := Int.le_trans (Int.ediv_le_self _ (by omega)) (by omega)
          have hw0 : ¬ win = 0 := by omega
          have hwB : (win == 0) = false := by simp; omega
          obtain ⟨w1, w2⟩ := h1
          obtain ⟨m1, m2⟩ := h2
          have hn2 : n ≤ 200 := by have := h3.2; omega
          have hm2 : m ≤ 200 := by have := h4.2; omega
          clear h3 h4
          generalize hqq : (many + win - 1) / win = Q at *
          go_enter Try.func4, Try.ntmps4
          go_wp2_with (fail)
          refine C1.out.mono ?_
          rintro e w' ⟨rfl, rfl⟩
          go_wp2_with (fail)
          refine C2.out.mono ?_
          rintro e w' ⟨rfl, rfl⟩
          go_wp2_with (fail)
          refine C3.out.mono ?_
          rintro e w' ⟨rfl, rfl⟩
          go_wp2_with (fail)
          refine C4.out.mono ?_
          rintro e w' ⟨rfl, rfl⟩
          go_wp2
          go_ret
          exact ⟨ret_int HE.out.symm, rfl⟩
        · have C4 := Lib.hid ((specFatesValid_w (c := d) k hm).mono fun e w' (hh : e = .returned (.bool (decide (fOk gs))) ∧ w = w') => (⟨by rw [hh.1, decide_eq_false h4], hh.2⟩ : e = .returned (.bool false) ∧ w = w'))
          have HE := Lib.hid (show boundI win many fs gs = -1 by unfold boundI; rw [if_neg (fun hh => h4 hh.2.2.2)])
          clear h1 h2 h3 h4
          go_enter Try.func4, Try.ntmps4
          go_wp2_with (fail)
          refine C1.out.mono ?_
          rintro e w' ⟨rfl, rfl⟩
          go_wp2_with (fail)
          refine C2.out.mono ?_
          rintro e w' ⟨rfl, rfl⟩
          go_wp2_with (fail)
          refine C3.out.mono ?_
          rintro e w' ⟨rfl, rfl⟩
          go_wp2_with (fail)
          refine C4.out.mono ?_
          rintro e w' ⟨rfl, rfl⟩
          go_wp2
          go_ret
          exact ⟨ret_int HE.out.symm, rfl⟩
      · have C3 := Lib.hid ((specFatesValid_w (c := c) h hn).mono fun e w' (hh : e = .returned (.bool (decide (fOk fs))) ∧ w = w') => (⟨by rw [hh.1, decide_eq_false h3], hh.2⟩ : e = .returned (.bool false) ∧ w = w'))
        have HE := Lib.hid (show boundI win many fs gs = -1 by unfold boundI; rw [if_neg (fun hh => h3 hh.2.2.1)])
        clear h1 h2 h3
        go_enter Try.func4, Try.ntmps4
        go_wp2_with (fail)
        refine C1.out.mono ?_
        rintro e w' ⟨rfl, rfl⟩
        go_wp2_with (fail)
        refine C2.out.mono ?_
        rintro e w' ⟨rfl, rfl⟩
        go_wp2_with (fail)
        refine C3.out.mono ?_
        rintro e w' ⟨rfl, rfl⟩
        go_wp2
        go_ret
        exact ⟨ret_int HE.out.symm, rfl⟩
    · have C2 := Lib.hid (l1In_no many 0 60 w h2)
      have HE := Lib.hid (show boundI win many fs gs = -1 by unfold boundI; rw [if_neg (fun hh => h2 hh.2.1)])
      clear h1 h2
      go_enter Try.func4, Try.ntmps4
      go_wp2_with (fail)
      refine C1.out.mono ?_
      rintro e w' ⟨rfl, rfl⟩
      go_wp2_with (fail)
      refine C2.out.mono ?_
      rintro e w' ⟨rfl, rfl⟩
      go_wp2
      go_ret
      exact ⟨ret_int HE.out.symm, rfl⟩
  · have C1 := Lib.hid (l1In_no win 1 8 w h1)
    have HE := Lib.hid (show boundI win many fs gs = -1 by unfold boundI; rw [if_neg (fun hh => h1 hh.1)])
    clear h1
    go_enter Try.func4, Try.ntmps4
    go_wp2_with (fail)
    refine C1.out.mono ?_
    rintro e w' ⟨rfl, rfl⟩
    go_wp2
    go_ret
    exact ⟨ret_int HE.out.symm, rfl⟩
theorem specLinkBound_any {A B : Option Addr} {n c m d : Nat} {win many : Int} {fs gs : List Int} {w : World} (_ : -9223372036854775808 ≤ win ∧ win ≤ 9223372036854775807) (_ : -9223372036854775808 ≤ many ∧ many ≤ 9223372036854775807) (h : Has w A n (ints .i64 fs)) (_ : I64s fs) (hn : n ≤ 16777216) (k : Has w B m (ints .i64 gs)) (_ : I64s gs) (hm : m ≤ 16777216) :
    Calls Try.prog 4 #[.int .i64 win, .int .i64 many, .slice A n c, .slice B m d] w fun e w' => e = .returned (.int .i64 (boundI win many fs gs)) ∧ Below w.heap.size w w' :=
  (specLinkBound_w h hn k hm).mono fun _ _ hh => ⟨hh.1, by rw [← hh.2]; exact Below.refl _ _⟩
end Go.Proofs.Ytdkljljalfjpoaa
