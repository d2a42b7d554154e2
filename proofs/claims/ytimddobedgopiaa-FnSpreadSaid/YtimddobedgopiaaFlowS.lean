/-
  Chapter 11, how long the lists of frames are: plain mathematics, no condition.
-/
import Derived.Test.YtimddobedgopiaaFlowC
namespace Go.Proofs.Ytimddobedgopiaa
open Go.RowKit

theorem sum_le_mul : ∀ (l : List Nat) (B : Nat), (∀ x ∈ l, x ≤ B) → l.sum ≤ l.length * B
  | [], _, _ => by simp
  | x :: l, B, h => by
    have h1 := h x (by simp)
    have h2 := sum_le_mul l B (fun y hy => h y (by simp [hy]))
    rw [List.sum_cons, List.length_cons, Nat.add_mul, Nat.one_mul]
    omega
theorem spread_le (us : List Bool) (hs : List Hop3) : (spreadI us hs).length ≤ 8 ∧ (∀ o ∈ spreadI us hs, o.length ≤ 60) ∧ ((spreadI us hs).map List.length).sum ≤ 480 := by
  have key : (spreadI us hs).length ≤ 8 ∧ (∀ o ∈ spreadI us hs, o.length ≤ 60) := by
    unfold spreadI
    split
    · rename_i hh
      refine ⟨by rw [spreadTo_len]; exact hh.1.2, fun o ho => ?_⟩
      unfold spreadTo at ho
      obtain ⟨m, _, rfl⟩ := List.mem_map.1 ho
      have := hasTo_le (hopMem us hs) (m : Int) hs.length
      omega
    · exact ⟨by simp, fun o ho => by cases ho⟩
  refine ⟨key.1, key.2, ?_⟩
  have h1 := sum_le_mul ((spreadI us hs).map List.length) 60 (fun x hx => by
    obtain ⟨o, ho, rfl⟩ := List.mem_map.1 hx
    exact key.2 o ho)
  rw [List.length_map] at h1
  have := key.1
  omega
theorem OwnH.keep {w w' : World} {lo n c : Nat} {A B : Option Addr} {hs : List Hop3} (h : OwnH w lo A n c hs) (hg : w.grownBy w' (B.map (·.block))) (hne : ∀ a, A = some a → ∀ b, B = some b → a.block ≠ b.block) : OwnH w' lo A n c hs :=
  World.ownsRow.kept h hg (by
    cases A with
    | none => exact .inl rfl
    | some a => exact .inr (fun e => by
        cases B with
        | none => cases e
        | some b => injection e with e; exact hne a rfl b rfl e))
end Go.Proofs.Ytimddobedgopiaa
