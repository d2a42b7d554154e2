/-
  Chapter 9's small functions of the model and of the program, in one form: what is proved here is what they return, and that they write nothing that was there. Condition: lengths up to 2^24.
-/
import Derived.Test.YtpciaokafokfmaaImp9a
import Derived.Test.YtpciaokafokfmaaShut
namespace Go.Proofs.Ytpciaokafokfmaa
open Go.RowKit

theorem sentL_len (o : List Int) (n : Int) : (sentL o n).length ≤ 6 := by
  unfold sentL; split
  · rw [sentP_len]; omega
  · simp
theorem specTalkValid_any {A : Option Addr} {n c : Nat} {zs : List Int} {w : World} (h : Has w A n (ints .i64 zs)) (_ : I64s zs) (hn : n ≤ 16777216) :
    Calls Try.prog 22 #[.slice A n c] w fun e w' => e = .returned (.bool (talkOk zs)) ∧ w = w' := specTalkValid_b h hn rfl
theorem implTalkValid_any {A : Option Addr} {n c : Nat} {zs : List Int} {w : World} (h : Has w A n (ints .i64 zs)) (_ : I64s zs) (hn : n ≤ 16777216) :
    Calls Try.prog 21 #[.slice A n c] w fun e w' => e = .returned (.bool (talkOk zs)) ∧ w = w' := implTalkValid_b h hn rfl
theorem specSentBy_any {A : Option Addr} {n c : Nat} {zs : List Int} {m : Int} {w : World} (h : Has w A n (ints .i64 zs)) (_ : I64s zs) (hn : n ≤ 16777216) (_ : -9223372036854775808 ≤ m ∧ m ≤ 9223372036854775807) :
    Calls Try.prog 33 #[.slice A n c, .int .i64 m] w fun e w' => ∃ A' n' c', e = .returned (.slice A' n' c') ∧ Own w' w.heap.size 3 A' n' c' (ints .i64 (sentL zs m)) ∧ Below w.heap.size w w' := specSentBy_w h hn
theorem implSentBy_any {A : Option Addr} {n c : Nat} {zs : List Int} {m : Int} {w : World} (h : Has w A n (ints .i64 zs)) (_ : I64s zs) (hn : n ≤ 16777216) (_ : -9223372036854775808 ≤ m ∧ m ≤ 9223372036854775807) :
    Calls Try.prog 20 #[.slice A n c, .int .i64 m] w fun e w' => ∃ A' n' c', e = .returned (.slice A' n' c') ∧ Own w' w.heap.size 3 A' n' c' (ints .i64 (sentL zs m)) ∧ Below w.heap.size w w' := implSentBy_w h hn
end Go.Proofs.Ytpciaokafokfmaa
