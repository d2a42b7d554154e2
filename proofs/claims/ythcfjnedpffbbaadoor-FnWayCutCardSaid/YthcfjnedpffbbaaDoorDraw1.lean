/-
  Chapter 1's draws: what is proved here is which bytes are drawn, and that nothing but the source is written. Condition: few numbers are drawn.
-/
import Derived.Test.YthcfjnedpffbbaaDoorDraw
namespace Go.Proofs.YthcfjnedpffbbaaDoor
open Go.RowKit

theorem U8s.snoc {zs : List Int} {z : Int} (h : U8s zs) (h0 : 0 ≤ z) (h1 : z ≤ 255) : U8s (zs ++ [z]) := by
  intro y hy
  rcases List.mem_append.1 hy with hy | hy
  · exact h y hy
  · rw [List.mem_singleton.1 hy]; exact ⟨h0, h1⟩


theorem bel_read {w w1 w2 : World} {r p : Nat} (B : Below w.heap.size w w1) (R : Rd w1 w.heap.size r p) (G : w1.grownBy w2 (some r)) : Below w.heap.size w w2 :=
  B.trans (below_of_grown G B.size (fun k hk => by injection hk with hk; subst hk; exact R.1))

theorem I64s.snoc {zs : List Int} {z : Int} (h : I64s zs) (h0 : -9223372036854775808 ≤ z) (h1 : z ≤ 9223372036854775807) : I64s (zs ++ [z]) := by
  intro y hy
  rcases List.mem_append.1 hy with hy | hy
  · exact h y hy
  · rw [List.mem_singleton.1 hy]; exact ⟨h0, h1⟩
theorem I64s.set_ {zs : List Int} {z : Int} {k : Nat} (h : I64s zs) (h0 : -9223372036854775808 ≤ z) (h1 : z ≤ 9223372036854775807) : I64s (zs.set k z) := by
  intro y hy
  rcases List.mem_or_eq_of_mem_set hy with hy | rfl
  · exact h y hy
  · exact ⟨h0, h1⟩



/-- What is drawn: bytes. -/
def OneC (w w' : World) (e : Ending) : Prop := ∃ A' n' c' xs, e = .returned (.slice A' n' c') ∧ Own w' w.heap.size 5 A' n' c' (ints .u8 xs) ∧ U8s xs ∧ n' ≤ 601 ∧ Below w.heap.size w w'
end Go.Proofs.YthcfjnedpffbbaaDoor
