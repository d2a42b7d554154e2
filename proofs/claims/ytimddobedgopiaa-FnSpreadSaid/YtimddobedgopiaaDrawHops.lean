/-
  Chapter 6's draws of frames: what is proved here is which numbers and frames are drawn, and that nothing that was there is written. No condition.
-/
import Derived.Test.YtimddobedgopiaaDrawBridge
import Derived.Test.YtimddobedgopiaaRunB
import Derived.Deep.AppendLies
namespace Go.Proofs.Ytimddobedgopiaa
open Go.RowKit

def flat3 : List Hop3 → List Value
  | [] => []
  | h :: hs => .int .i64 h.1 :: .int .i64 h.2.1 :: .int .i64 h.2.2 :: flat3 hs
theorem flat3_len (hs : List Hop3) : (flat3 hs).length = hs.length * 3 := by
  induction hs with
  | nil => rfl
  | cons d ds ih => simp only [flat3, List.length_cons, ih]; omega
theorem flat3_app (a b : List Hop3) : flat3 (a ++ b) = flat3 a ++ flat3 b := by
  induction a with
  | nil => rfl
  | cons d ds ih => simp [flat3, ih]
theorem flat3_at (hs : List Hop3) (i : Nat) (h : Hop3) (hi : hs[i]? = some h) : (flat3 hs)[i * 3]? = some (.int .i64 h.1) ∧ (flat3 hs)[i * 3 + 1]? = some (.int .i64 h.2.1) ∧ (flat3 hs)[i * 3 + 2]? = some (.int .i64 h.2.2) := by
  induction hs generalizing i with
  | nil => simp at hi
  | cons d ds ih =>
    cases i with
    | zero => simp at hi; subst hi; simp [flat3]
    | succ i =>
      have := ih i (by simpa using hi)
      have e : (i + 1) * 3 = i * 3 + 1 + 1 + 1 := by omega
      rw [e]
      simpa [flat3] using this
/-- A slice of frames that the call made. -/
def OwnH (w : World) (lo : Nat) (A : Option Addr) (n c : Nat) (hs : List Hop3) : Prop := w.ownsRow lo 46 3 (.slice A n c) n (flat3 hs)
theorem OwnH.has {w : World} {lo n c : Nat} {A : Option Addr} {hs : List Hop3} (h : OwnH w lo A n c hs) : HasH w A n hs := by
  have hl : hs.length = n := by have := h.1; rw [flat3_len] at this; omega
  refine ⟨hl, fun i hi => ?_⟩
  obtain ⟨g, cap, hv, _, _⟩ := World.ownsRow.form h (by omega)
  injection hv with hA _ hcap
  subst hA hcap
  have hx : hs[i]? = some hs[i] := List.getElem?_eq_getElem (by omega)
  obtain ⟨e0, e1, e2⟩ := flat3_at hs i _ hx
  refine ⟨g, 0, hs[i], rfl, hx, ?_, ?_, ?_⟩
  · rw [Nat.zero_add]; exact (World.ownsRow.cellAt h _ (by omega)).trans e0
  · rw [Nat.zero_add]; exact (World.ownsRow.cellAt h _ (by omega)).trans e1
  · rw [Nat.zero_add]; exact (World.ownsRow.cellAt h _ (by omega)).trans e2
/-- Frames as they are drawn. -/
def TinyH (hs : List Hop3) : Prop := ∀ h ∈ hs, (-1 ≤ h.1 ∧ h.1 ≤ 15) ∧ (-1 ≤ h.2.1 ∧ h.2.1 ≤ 16) ∧ (-1 ≤ h.2.2 ∧ h.2.2 ≤ 7)
theorem TinyH.i64 {hs : List Hop3} (h : TinyH hs) : I64H hs := fun x hx => by
  obtain ⟨h1, h2, h3⟩ := h x hx
  exact ⟨by omega, by omega, by omega⟩
theorem tinyH_nil : TinyH [] := fun h hh => by cases hh
theorem TinyH.snoc {hs : List Hop3} (h : TinyH hs) {x : Hop3} (hx : (-1 ≤ x.1 ∧ x.1 ≤ 15) ∧ (-1 ≤ x.2.1 ∧ x.2.1 ≤ 16) ∧ (-1 ≤ x.2.2 ∧ x.2.2 ≤ 7)) : TinyH (hs ++ [x]) := fun y hy => by
  rcases List.mem_append.1 hy with hy | hy
  · exact h y hy
  · rw [List.mem_singleton.1 hy]; exact hx
theorem Try.infoHop : (Try.prog.info? 46).map (fun i => (i.zero, i.size, i.bytes)) = some (some (.agg #[.int .i64 0, .int .i64 0, .int .i64 0]), 3, 24) := by kernel_rfl
theorem info_parts3 {P : Program} {e : TypeId} {z : Value} {s b : Nat} (h : (P.info? e).map (fun i => (i.zero, i.size, i.bytes)) = some (some z, s, b)) : ∃ i, P.info? e = some i ∧ i.zero = some z ∧ i.size = s ∧ i.bytes = b := by
  cases hi : P.info? e with
  | none => rw [hi] at h; cases h
  | some i => rw [hi] at h; simp at h; exact ⟨i, rfl, h.1, h.2.1, h.2.2⟩
/-- What is drawn: a number of ports, and frames. -/
def HopsO (w w' : World) (e : Ending) : Prop := ∃ ports A' n' c' hs, e = .returned (.tuple #[.int .i64 ports, .slice A' n' c']) ∧ HasH w' A' n' hs ∧ TinyH hs ∧ n' ≤ 20 ∧ (0 ≤ ports ∧ ports ≤ 7) ∧ Below w.heap.size w w'

end Go.Proofs.Ytimddobedgopiaa
