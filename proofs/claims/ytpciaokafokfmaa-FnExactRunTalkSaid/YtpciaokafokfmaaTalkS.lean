/-
  'append([]int{}, xs...)' as one step of a statement that draws its order: what is proved here is that it makes a slice of its own, or hands back the empty one. Condition: lengths up to 2^40.
-/
import Derived.Test.YtpciaokafokfmaaTalkD
import Derived.Deep.RegionLawGrows
namespace Go.Proofs.Ytpciaokafokfmaa
open Go.RowKit

theorem step9_app {P : Program} {ops : Array Oper} {o : Oper} {a : Act} {w : World} {K : Act → World → Prop} {Q : Exit → Act → World → Prop} {E : Prop}
    (hg : o.guard = none) (s x : Operand) (t : TypeId) (hop : o.op = Op.call { callee := Callee.builtin Builtin.append, args := #[s, x], argTypes := #[t, t] })
    (e : TypeId) (i : TypeInfo) (z : Value) (bytes : Nat) (h1 : P.underlying t = some (.slice e)) (h2 : P.info? e = some i) (h3 : i.zero = some z) (h4 : i.size = 1) (h5 : i.bytes = bytes) (h6 : z.cells.size = 1)
    (lo b : Nat) (hs : a.eval s = .slice (some ⟨b, 0, none⟩) 0 0) (hb : w.heap[b]? = some (.cells #[] e (0, 0))) (hlb : lo ≤ b) (hlo : lo ≤ w.heap.size)
    (A : Option Addr) (m c : Nat) (news : List Value) (hx : a.eval x = .slice A m c) (hr : Has w A m news) (h1c : ∀ u ∈ news, u.oneCell' = true)
    (b1 : m ≤ maxLen) (b2 : m * bytes ≤ 140737488355328)
    (hK : ∀ g cg w', Own w' lo e (some ⟨g, 0, none⟩) m cg news → w.grownBy w' none → (g = b ∨ w.heap.size ≤ g ∧ g < w'.heap.size) → K (a.put o.dst (.slice (some ⟨g, 0, none⟩) m cg)) w') :
    if Region.wanted o (yielded ops a.tmps) = true then Oper.wp P o a w K Q else E := by
  have hnl := hr.1
  rcases Nat.eq_zero_or_pos m with h0 | h0
  · subst h0
    obtain rfl : news = [] := List.eq_nil_of_length_eq_zero hnl
    have hw : Region.wanted o (yielded ops a.tmps) = true := by simp [Region.wanted, hg]
    rw [if_pos hw]
    have hO : Own w lo e (some ⟨b, 0, none⟩) 0 0 [] := ⟨rfl, .inr ⟨b, 0, #[], rfl, hlb, hb, Nat.le_refl _, by unfold maxLen; omega, rfl, rfl⟩⟩
    have hrun : (Builtin.append_ #[t, t] o.type #[.slice (some ⟨b, 0, none⟩) 0 0, .slice A 0 c]).run P w = .ok (.slice (some ⟨b, 0, none⟩) 0 0) w := by
      cases A with
      | none => simp [Builtin.append_, run_underlying h1, sizeOf, typeInfo, h2, Builtin.lenOf, Builtin.firstCells, storeCells]
      | some ad => simp [Builtin.append_, run_underlying h1, sizeOf, typeInfo, h2, Builtin.lenOf, Builtin.firstCells, storeCells, loadCells, loadCellsFrom]
    unfold Oper.wp
    simp only [execOp, hop, resolve, invoke, builtin, Sem.run_bind, Sem.run_pure, Result.andThen_ok, List.map_toArray, List.map_cons, List.map_nil, hs, hx, hrun]
    exact hK b 0 w hO (World.grownBy.refl _ _) (.inl rfl)
  · obtain ⟨bA, oA, hA, _⟩ := hr.2 0 h0
    subst hA
    refine step_append_grows hg s x t hop e i z 1 bytes h1 h2 h3 h4 h5 h6 (by decide) _ 0 0 [] hs (fun hh => by cases hh) rfl (fun _ _ j u hu => by simp at hu) ⟨bA, oA, none⟩ m c news hx (by omega) (fun j u hu => ?_) h1c (by omega) (by omega) (by rw [Nat.zero_add]; exact b2) ?_
    · have hj : j < m := by have := (List.getElem?_eq_some_iff.1 hu).1; omega
      obtain ⟨b', o', hA, hc⟩ := hr.2 j hj
      injection hA with hA
      injection hA with e1 e2
      subst e1 e2
      have hadd : (⟨bA, oA, none⟩ : Addr).add j = ⟨bA, oA + j, none⟩ := by unfold Addr.add; split <;> simp_all
      rw [hadd, hc, hu]
    · intro v' w' hown hgrow
      rw [Nat.zero_add, List.nil_append] at hown
      obtain ⟨g, cg, rfl, g1, g2⟩ := World.ownsRow.form hown (by omega)
      exact hK g cg w' ((show Own w' w.heap.size e (some ⟨g, 0, none⟩) m cg news from hown).mono hlo) hgrow (.inr ⟨g1, g2⟩)
end Go.Proofs.Ytpciaokafokfmaa
