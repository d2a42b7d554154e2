/-
  Frames in a slice, and what a bridge does with one: what is proved here is what the model's BridgeStep returns, and that it writes nothing that was there. Condition: lengths up to 2^24.
-/
import Derived.Test.YtimddobedgopiaaBridgeB
import Derived.Test.YtimddobedgopiaaDraw1
namespace Go.Proofs.Ytimddobedgopiaa
open Go.RowKit

/-- The slice at A with n frames reads as hs. -/
def HasH (w : World) (A : Option Addr) (n : Nat) (hs : List Hop3) : Prop :=
  hs.length = n ∧ ∀ i, i < n → ∃ b o h, A = some ⟨b, o, none⟩ ∧ hs[i]? = some h ∧ w.cell? ⟨b, o + i * 3, none⟩ = some (.int .i64 h.1) ∧ w.cell? ⟨b, o + i * 3 + 1, none⟩ = some (.int .i64 h.2.1) ∧ w.cell? ⟨b, o + i * 3 + 2, none⟩ = some (.int .i64 h.2.2)
theorem HasH.bel {w w' : World} {A : Option Addr} {n : Nat} {hs : List Hop3} (h : HasH w A n hs) (hb : Below w.heap.size w w') : HasH w' A n hs :=
  ⟨h.1, fun i hi => by
    obtain ⟨b, o, x, hA, hx, c0, c1, c2⟩ := h.2 i hi
    have hlt : b < w.heap.size := World.block_lt_of_cell? w ⟨b, o + i * 3, none⟩ c0
    exact ⟨b, o, x, hA, hx, (hb.cell (p := ⟨b, o + i * 3, none⟩) hlt).trans c0, (hb.cell (p := ⟨b, o + i * 3 + 1, none⟩) hlt).trans c1, (hb.cell (p := ⟨b, o + i * 3 + 2, none⟩) hlt).trans c2⟩⟩
theorem HasH.at_ {w : World} {A : Option Addr} {n : Nat} {hs : List Hop3} (h : HasH w A n hs) {i : Nat} (hi : i < n) :
    ∃ b o f t q, A = some ⟨b, o, none⟩ ∧ b < w.heap.size ∧ hs[i]? = some (f, t, q) ∧ w.cell? ⟨b, o + i * 3, none⟩ = some (.int .i64 f) ∧ w.cell? ⟨b, o + i * 3 + 1, none⟩ = some (.int .i64 t) ∧ w.cell? ⟨b, o + i * 3 + 2, none⟩ = some (.int .i64 q) := by
  obtain ⟨b, o, ⟨f, t, q⟩, hA, hx, c0, c1, c2⟩ := h.2 i hi
  exact ⟨b, o, f, t, q, hA, World.block_lt_of_cell? w ⟨b, o + i * 3, none⟩ c0, hx, c0, c1, c2⟩

theorem cells3 {w : World} {B : Nat} {x y z : Value} {t : TypeId} (h : w.heap[B]? = some (.cells #[x, y, z] t (0, 0))) :
    w.cell? ⟨B, 0, none⟩ = some x ∧ w.cell? ⟨B, 1, none⟩ = some y ∧ w.cell? ⟨B, 2, none⟩ = some z :=
  ⟨(cell_of_row w B 0 _ t (0, 0) h).trans rfl, (cell_of_row w B 1 _ t (0, 0) h).trans rfl, (cell_of_row w B 2 _ t (0, 0) h).trans rfl⟩
theorem ret_three {v u : Value} {b c : Bool} (h : b = c) : Ending.returned (.tuple #[v, u, .bool b]) = .returned (.tuple #[v, u, .bool c]) := by rw [h]
def I64H (hs : List Hop3) : Prop := ∀ h ∈ hs, (-9223372036854775808 ≤ h.1 ∧ h.1 ≤ 9223372036854775807) ∧ (-9223372036854775808 ≤ h.2.1 ∧ h.2.1 ≤ 9223372036854775807) ∧ (-9223372036854775808 ≤ h.2.2 ∧ h.2.2 ≤ 9223372036854775807)
/-- What BridgeStep returns. -/
def StepR (w w' : World) (e : Ending) (ts : List Int) (ports : Int) (h : Hop3) : Prop :=
  ∃ A1 n1 c1 A2 n2 c2, e = .returned (.tuple #[.slice A1 n1 c1, .slice A2 n2 c2, .bool (decide (stepOk ts ports h))]) ∧ Own w' w.heap.size 3 A1 n1 c1 (ints .i64 (stepL ts ports h)) ∧ Own w' w.heap.size 3 A2 n2 c2 (ints .i64 (outsL ts ports h)) ∧ (∀ a1 a2, A1 = some a1 → A2 = some a2 → a1.block ≠ a2.block) ∧ Below w.heap.size w w'

end Go.Proofs.Ytimddobedgopiaa
