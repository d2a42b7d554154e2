/-
  Chapter 11's functions once more, for the exact laws: what is proved here is what they return. Condition: lengths up to 2^24.
-/
import Derived.Test.YtimddobedgopiaaImp11d
namespace Go.Proofs.Ytimddobedgopiaa
open Go.RowKit

theorem specFlowOf_any {a b : Int} {w : World} (_ : -9223372036854775808 ≤ a ∧ a ≤ 9223372036854775807) (_ : -9223372036854775808 ≤ b ∧ b ≤ 9223372036854775807) :
    Calls Try.prog 17 #[.int .i64 a, .int .i64 b] w fun e w' => e = .returned (.int .i64 (flowI a b)) ∧ w = w' := specFlowOf_r rfl
theorem implFlowOf_any {a b : Int} {w : World} (_ : -9223372036854775808 ≤ a ∧ a ≤ 9223372036854775807) (_ : -9223372036854775808 ≤ b ∧ b ≤ 9223372036854775807) :
    Calls Try.prog 16 #[.int .i64 a, .int .i64 b] w fun e w' => e = .returned (.int .i64 (flowI a b)) ∧ w = w' := implFlowOf_r rfl
theorem specScoreOf_any {a b : Int} {w : World} (_ : -9223372036854775808 ≤ a ∧ a ≤ 9223372036854775807) (_ : -9223372036854775808 ≤ b ∧ b ≤ 9223372036854775807) :
    Calls Try.prog 23 #[.int .i64 a, .int .i64 b] w fun e w' => e = .returned (.int .i64 (scoreI a b)) ∧ w = w' := specScoreOf_r rfl
theorem implScoreOf_any {a b : Int} {w : World} (_ : -9223372036854775808 ≤ a ∧ a ≤ 9223372036854775807) (_ : -9223372036854775808 ≤ b ∧ b ≤ 9223372036854775807) :
    Calls Try.prog 22 #[.int .i64 a, .int .i64 b] w fun e w' => e = .returned (.int .i64 (scoreI a b)) ∧ w = w' := implScoreOf_r rfl
theorem specMemberFor_any {A : Option Addr} {n c : Nat} {us : List Bool} {f : Int} {w : World} (h : Has w A n (bools us)) (hn : n ≤ 16777216) (_ : -9223372036854775808 ≤ f ∧ f ≤ 9223372036854775807) :
    Calls Try.prog 20 #[.slice A n c, .int .i64 f] w fun e w' => e = .returned (.int .i64 (memI us f)) ∧ Below w.heap.size w w' := (specMemberFor_r h hn rfl).mono fun _ _ hh => ⟨hh.1, hh.2 ▸ Below.refl _ _⟩
theorem implMemberFor_any {A : Option Addr} {n c : Nat} {us : List Bool} {f : Int} {w : World} (h : Has w A n (bools us)) (hn : n ≤ 16777216) (_ : -9223372036854775808 ≤ f ∧ f ≤ 9223372036854775807) :
    Calls Try.prog 19 #[.slice A n c, .int .i64 f] w fun e w' => e = .returned (.int .i64 (memI us f)) ∧ Below w.heap.size w w' := (implMemberFor_r h hn rfl).mono fun _ _ hh => ⟨hh.1, hh.2 ▸ Below.refl _ _⟩
theorem specSharesOf_any {A : Option Addr} {n c : Nat} {us : List Bool} {w : World} (h : Has w A n (bools us)) (hn : n ≤ 16777216) :
    Calls Try.prog 27 #[.slice A n c] w fun e w' => ∃ A' n' c', e = .returned (.slice A' n' c') ∧ Own w' w.heap.size 3 A' n' c' (ints .i64 (sharesI us)) ∧ Below w.heap.size w w' := specSharesOf_r h hn rfl
theorem implSharesOf_any {A : Option Addr} {n c : Nat} {us : List Bool} {w : World} (h : Has w A n (bools us)) (hn : n ≤ 16777216) :
    Calls Try.prog 25 #[.slice A n c] w fun e w' => ∃ A' n' c', e = .returned (.slice A' n' c') ∧ Own w' w.heap.size 3 A' n' c' (ints .i64 (sharesI us)) ∧ Below w.heap.size w w' := implSharesOf_r h hn rfl
theorem specMovedFlows_any {A A' : Option Addr} {n c n' c' : Nat} {us vs : List Bool} {w : World} (h : Has w A n (bools us)) (hn : n ≤ 16777216) (h' : Has w A' n' (bools vs)) (hn' : n' ≤ 16777216) :
    Calls Try.prog 30 #[.slice A n c, .slice A' n' c'] w fun e w' => e = .returned (.int .i64 (movedI us vs)) ∧ Below w.heap.size w w' := (specMovedFlows_r h h' hn hn' rfl).mono fun _ _ hh => ⟨hh.1, hh.2 ▸ Below.refl _ _⟩
theorem implMovedFlows_any {A A' : Option Addr} {n c n' c' : Nat} {us vs : List Bool} {w : World} (h : Has w A n (bools us)) (hn : n ≤ 16777216) (h' : Has w A' n' (bools vs)) (hn' : n' ≤ 16777216) :
    Calls Try.prog 29 #[.slice A n c, .slice A' n' c'] w fun e w' => e = .returned (.int .i64 (movedI us vs)) ∧ Below w.heap.size w w' := implMovedFlows_r h h' hn hn' rfl
theorem sharesI_le (us : List Bool) : (sharesI us).length ≤ 8 := by
  unfold sharesI
  split
  · rename_i h
    rw [sharesTo_len]
    exact h.2
  · simp
end Go.Proofs.Ytimddobedgopiaa
