/-
  Chapter 4's functions of the model, in one form: what is proved here is what they return, and that they write nothing that was there. Condition: lengths up to 2^24.
-/
import Derived.Test.YtafplpechpoliaaPass
namespace Go.Proofs.Ytafplpechpoliaa
open Go.RowKit

theorem specFatesValid_any {A : Option Addr} {n c : Nat} {fs : List Int} {w : World} (h : Has w A n (ints .i64 fs)) (_ : I64s fs) (hn : n ≤ 16777216) (_ : n ≤ c) :
    Calls Try.prog 21 #[.slice A n c] w fun e w' => e = .returned (.bool (decide (fOk fs))) ∧ Below w.heap.size w w' :=
  (specFatesValid_w h hn).mono fun _ _ hh => ⟨hh.1, by rw [← hh.2]; exact Below.refl _ _⟩
theorem specFateOf_any {A : Option Addr} {n c : Nat} {fs : List Int} {i : Int} {w : World} (h : Has w A n (ints .i64 fs)) (_ : I64s fs) (hn : n ≤ 16777216) (_ : n ≤ c) (hi : -9223372036854775808 ≤ i ∧ i ≤ 9223372036854775807) :
    Calls Try.prog 37 #[.slice A n c, .int .i64 i] w fun e w' => e = .returned (.int .i64 (fateI fs i)) ∧ Below w.heap.size w w' :=
  (specFateOf_w h hn hi).mono fun _ _ hh => ⟨hh.1, by rw [← hh.2]; exact Below.refl _ _⟩
theorem specArrivalsOf_any {A : Option Addr} {n c : Nat} {fs : List Int} {i : Int} {w : World} (h : Has w A n (ints .i64 fs)) (_ : I64s fs) (hn : n ≤ 16777216) (_ : n ≤ c) (hi : -9223372036854775808 ≤ i ∧ i ≤ 9223372036854775807) :
    Calls Try.prog 19 #[.slice A n c, .int .i64 i] w fun e w' => ∃ A' n' c', e = .returned (.slice A' n' c') ∧ Own w' w.heap.size 3 A' n' c' (ints .i64 (arrI fs i)) ∧ Below w.heap.size w w' :=
  specArrivalsOf_w h hn hi
theorem specPassWire_any {A B : Option Addr} {n c m d : Nat} {fs : List Int} {l : List (List Int)} {w : World} (h : Has w A n (ints .i64 fs)) (_ : I64s fs) (hn : n ≤ 16777216) (_ : n ≤ c) (hL : HasL w B m l) (hu : ∀ p ∈ l, U8s p) (hlen : ∀ p ∈ l, p.length ≤ 16777216) (hm : m ≤ 16777216) (_ : m ≤ d) :
    Calls Try.prog 26 #[.slice A n c, .slice B m d] w fun e w' => ∃ A' n' c', e = .returned (.slice A' n' c') ∧ OwnL w' w.heap.size A' n' c' (passL fs l) ∧ Below w.heap.size w w' :=
  specPassWire_w h hn hL hu hm hlen
theorem specLostIn_any {A : Option Addr} {n c : Nat} {fs : List Int} {i : Int} {w : World} (h : Has w A n (ints .i64 fs)) (_ : I64s fs) (hn : n ≤ 16777216) (_ : n ≤ c) (hi : -9223372036854775808 ≤ i ∧ i ≤ 9223372036854775807) :
    Calls Try.prog 33 #[.slice A n c, .int .i64 i] w fun e w' => e = .returned (.int .i64 (lostI fs i)) ∧ Below w.heap.size w w' :=
  (specLostIn_w h hn hi).mono fun _ _ hh => ⟨hh.1, by rw [← hh.2]; exact Below.refl _ _⟩
theorem specFatesBehind_any {A : Option Addr} {n c : Nat} {fs : List Int} {i : Int} {w : World} (h : Has w A n (ints .i64 fs)) (_ : I64s fs) (hn : n ≤ 16777216) (hnc : n ≤ c) (hi : -9223372036854775808 ≤ i ∧ i ≤ 9223372036854775807) :
    Calls Try.prog 36 #[.slice A n c, .int .i64 i] w fun e w' => ∃ A' n' c', e = .returned (.slice A' n' c') ∧ Own w' w.heap.size 3 A' n' c' (ints .i64 (behI fs i)) ∧ Below w.heap.size w w' :=
  specFatesBehind_w h hn hi hnc
theorem specIsClear_any {A : Option Addr} {n c : Nat} {fs : List Int} {w : World} (h : Has w A n (ints .i64 fs)) (_ : I64s fs) (hn : n ≤ 16777216) (_ : n ≤ c) :
    Calls Try.prog 30 #[.slice A n c] w fun e w' => e = .returned (.bool (clearB fs)) ∧ Below w.heap.size w w' :=
  (specIsClear_w h hn).mono fun _ _ hh => ⟨hh.1, by rw [← hh.2]; exact Below.refl _ _⟩
end Go.Proofs.Ytafplpechpoliaa
