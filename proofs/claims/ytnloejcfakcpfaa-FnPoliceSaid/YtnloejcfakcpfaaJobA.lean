/-
  Chapter 12's model, what jobs are: what is proved here is what l12Weights, JobsValid, l12Next and ApartBound return, and that they write nothing. Condition: lengths up to 2^24.
-/
import Derived.Test.YtnloejcfakcpfaaRowsD
import Derived.Test.YtnloejcfakcpfaaBools
import Derived.Test.YtnloejcfakcpfaaPar
import Derived.Deep.QuietTactic
import Derived.BigQuiet
namespace Go.Proofs.Ytnloejcfakcpfaa
open Go.RowKit

theorem below_allocJ (w : World) (o : Obj) : Below w.heap.size w (w.alloc o) := (Below.refl _ _).alloc (Nat.le_refl _) _
theorem all_take {α : Type} {P : α → Prop} {l : List α} {k : Nat} {x : α} (h : ∀ z ∈ l.take k, P z) (hx : l[k]? = some x) (hp : P x) : ∀ z ∈ l.take (k + 1), P z := by
  rw [List.take_add_one, hx]
  intro z hz
  rcases List.mem_append.1 hz with hz | hz
  · exact h z hz
  · simp at hz; subst hz; exact hp
theorem all_full {α : Type} {P : α → Prop} {l : List α} {k : Nat} (h : ∀ z ∈ l.take k, P z) (hk : l.length = k) : ∀ z ∈ l, P z := by
  rw [List.take_of_length_le (by omega)] at h; exact h
theorem not_all {α : Type} {P : α → Prop} {l : List α} {k : Nat} {x : α} (hx : l[k]? = some x) (hp : ¬ P x) : ¬ ∀ z ∈ l, P z := fun h => hp (h x (List.mem_of_getElem? hx))
theorem dw_at {ws : List Int} {i : Nat} {z : Int} (h : ws[i]? = some z) : dw ws i = z := by unfold dw; rw [List.getD_eq_getElem?_getD, h]; rfl
theorem dj_at {js : List Duo} {i : Nat} {z : Duo} (h : js[i]? = some z) : dj js i = z := by unfold dj; rw [List.getD_eq_getElem?_getD, h]; rfl
theorem dj_some {js : List Duo} {i : Nat} (h : i < js.length) : js[i]? = some (dj js i) := by unfold dj; rw [List.getD_eq_getElem?_getD, List.getElem?_eq_getElem h]; rfl
theorem dw_some {ws : List Int} {i : Nat} (h : i < ws.length) : ws[i]? = some (dw ws i) := by unfold dw; rw [List.getD_eq_getElem?_getD, List.getElem?_eq_getElem h]; rfl
theorem has_dw {w : World} {A : Option Addr} {n : Nat} {ws : List Int} (h : Has w A n (ints .i64 ws)) {i : Nat} (hi : i < n) :
    ∃ b o, A = some ⟨b, o, none⟩ ∧ b < w.heap.size ∧ w.cell? ⟨b, o + i, none⟩ = some (.int .i64 (dw ws i)) := by
  obtain ⟨b, o, z, hA, hbl, hx, hc⟩ := h.at_ hi
  rw [dw_at hx]
  exact ⟨b, o, hA, hbl, hc⟩



/-- The first index from 0 to n - 1 at which p holds, or -1. -/
def firstIx (p : Nat → Bool) : Nat → Nat → Int
  | _, 0 => -1
  | i, f + 1 => if p i = true then (i : Int) else firstIx p (i + 1) f

def apartL (ws : List Int) (a b : Int) : Int := if wtOk ws ∧ (0 ≤ a ∧ a < ws.length) ∧ (0 ≤ b ∧ b < ws.length) then 9 * dw ws a.toNat * dw ws b.toNat + 8 * dw ws a.toNat else -1
end Go.Proofs.Ytnloejcfakcpfaa
