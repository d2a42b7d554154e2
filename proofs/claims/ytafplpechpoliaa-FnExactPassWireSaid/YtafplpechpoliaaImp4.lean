/-
  The program's functions of chapter 4 that make memory, in one form: what is proved here is what they return, and that they write nothing that was there. Condition: lengths up to 2^24.
-/
import Derived.Test.YtafplpechpoliaaImp4c
namespace Go.Proofs.Ytafplpechpoliaa
open Go.RowKit

theorem implArrivalsOf_any {A : Option Addr} {n c : Nat} {fs : List Int} {i : Int} {w : World} (h : Has w A n (ints .i64 fs)) (_ : I64s fs) (hn : n ≤ 16777216) (_ : n ≤ c) (hi : -9223372036854775808 ≤ i ∧ i ≤ 9223372036854775807) :
    Calls Try.prog 17 #[.slice A n c, .int .i64 i] w fun e w' => ∃ A' n' c', e = .returned (.slice A' n' c') ∧ Own w' w.heap.size 3 A' n' c' (ints .i64 (arrI fs i)) ∧ Below w.heap.size w w' :=
  implArrivalsOf_w h hn hi
theorem implPassWire_any {A B : Option Addr} {n c m d : Nat} {fs : List Int} {l : List (List Int)} {w : World} (h : Has w A n (ints .i64 fs)) (_ : I64s fs) (hn : n ≤ 16777216) (_ : n ≤ c) (hL : HasL w B m l) (hu : ∀ p ∈ l, U8s p) (hlen : ∀ p ∈ l, p.length ≤ 16777216) (hm : m ≤ 16777216) (_ : m ≤ d) :
    Calls Try.prog 24 #[.slice A n c, .slice B m d] w fun e w' => ∃ A' n' c', e = .returned (.slice A' n' c') ∧ OwnL w' w.heap.size A' n' c' (passL fs l) ∧ Below w.heap.size w w' :=
  implPassWire_w h hn hL hu hm hlen
end Go.Proofs.Ytafplpechpoliaa
