/-
  Chapter 6's functions of the model, in one form: what is proved here is what they return, and that they write nothing that was there. Condition: lengths up to 2^24.
-/
import Derived.Test.YtmnhgghnaklneaaBridge
namespace Go.Proofs.Ytmnhgghnaklneaa
open Go.RowKit

theorem specFreshTable_any {w : World} :
    Calls Try.prog 36 #[] w fun e w' => ∃ A' n' c', e = .returned (.slice A' n' c') ∧ Own w' w.heap.size 3 A' n' c' (ints .i64 freshL) ∧ Below w.heap.size w w' :=
  (specFreshTable_w w).mono fun _ _ ⟨A', c', h1, h2, h3⟩ => ⟨A', 15, c', h1, h2, h3⟩
theorem specTableValid_any {A : Option Addr} {n c : Nat} {ts : List Int} {ports : Int} {w : World} (h : Has w A n (ints .i64 ts)) (_ : I64s ts) (hn : n ≤ 16777216) (_ : (-9223372036854775808 ≤ ports ∧ ports ≤ 9223372036854775807)) :
    Calls Try.prog 34 #[.slice A n c, .int .i64 ports] w fun e w' => e = .returned (.bool (decide (tOk ts ports))) ∧ Below w.heap.size w w' :=
  (specTableValid_w h hn).mono fun _ _ hh => ⟨hh.1, by rw [← hh.2]; exact Below.refl _ _⟩
theorem specLearnPort_any {A : Option Addr} {n c : Nat} {ts : List Int} {ports from_ port : Int} {w : World} (h : Has w A n (ints .i64 ts)) (_ : I64s ts) (hn : n ≤ 16777216) (_ : (-9223372036854775808 ≤ ports ∧ ports ≤ 9223372036854775807)) (_ : (-9223372036854775808 ≤ from_ ∧ from_ ≤ 9223372036854775807)) (_ : (-9223372036854775808 ≤ port ∧ port ≤ 9223372036854775807)) :
    Calls Try.prog 18 #[.slice A n c, .int .i64 ports, .int .i64 from_, .int .i64 port] w fun e w' => ∃ A' n' c', e = .returned (.tuple #[.slice A' n' c', .bool (decide (learnOk ts ports from_ port))]) ∧ Own w' w.heap.size 3 A' n' c' (ints .i64 (learnL ts ports from_ port)) ∧ Below w.heap.size w w' :=
  specLearnPort_w h hn
theorem specPortsFor_any {A : Option Addr} {n c : Nat} {ts : List Int} {ports to port : Int} {w : World} (h : Has w A n (ints .i64 ts)) (_ : I64s ts) (hn : n ≤ 16777216) (_ : (-9223372036854775808 ≤ ports ∧ ports ≤ 9223372036854775807)) (_ : (-9223372036854775808 ≤ to ∧ to ≤ 9223372036854775807)) (_ : (-9223372036854775808 ≤ port ∧ port ≤ 9223372036854775807)) :
    Calls Try.prog 23 #[.slice A n c, .int .i64 ports, .int .i64 to, .int .i64 port] w fun e w' => ∃ A' n' c', e = .returned (.slice A' n' c') ∧ Own w' w.heap.size 3 A' n' c' (ints .i64 (portsL ts ports to port)) ∧ Below w.heap.size w w' :=
  specPortsFor_w h hn
theorem specKnownStations_any {A : Option Addr} {n c : Nat} {ts : List Int} {ports : Int} {w : World} (h : Has w A n (ints .i64 ts)) (_ : I64s ts) (hn : n ≤ 16777216) (_ : (-9223372036854775808 ≤ ports ∧ ports ≤ 9223372036854775807)) :
    Calls Try.prog 33 #[.slice A n c, .int .i64 ports] w fun e w' => ∃ A' n' c', e = .returned (.slice A' n' c') ∧ Own w' w.heap.size 3 A' n' c' (ints .i64 (knownL ts ports)) ∧ Below w.heap.size w w' :=
  specKnownStations_w h hn
end Go.Proofs.Ytmnhgghnaklneaa
