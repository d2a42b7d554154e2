/-
  Chapter 7's laws on trees: small facts on the cables of a tree. No condition.
-/
import Derived.Test.YtkmdpmhaljieaaaImp7s
import Derived.Test.YtkmdpmhaljieaaaCabT
import Derived.Test.YtkmdpmhaljieaaaDrawCabB
import Derived.Test.YtkmdpmhaljieaaaWnInts
import Derived.Test.YtkmdpmhaljieaaaShut
namespace Go.Proofs.Ytkmdpmhaljieaaa
open Go.RowKit Go.ChangeShapes Go.WideShapes Go.ChangeAt

theorem has_cI_at {w : World} {n b o : Nat} {l : List Nat} (h : Has w (some ⟨b, o, none⟩) n (cI l)) {i : Nat} (hi : i < n) : w.cell? ⟨b, o + i, none⟩ = some (.int .i64 (gn l i : Int)) := by
  obtain ⟨b', o', e, _, hc⟩ := has_cI h hi
  cases e
  exact hc
theorem take_gn {l : List Nat} {i : Nat} (h : i < l.length) : l.take (i + 1) = l.take i ++ [gn l i] := by
  rw [List.take_add_one]; simp [gn, List.getD_eq_getElem?_getD, h]
theorem gn_mem {l : List Nat} {i : Nat} (h : i < l.length) : gn l i ∈ l := by
  have : gn l i = l[i] := by simp [gn, List.getD_eq_getElem?_getD, h]
  rw [this]; exact List.getElem_mem h
theorem cabsAt_snoc (cs : List Cab) (l : List Nat) (j : Nat) : cabsAt cs (l ++ [j]) = cabsAt cs l ++ [cab cs j] := by simp [cabsAt]
theorem tris_snoc (cs : List Cab) (c : Cab) : (cs ++ [c]).map triOf = cs.map triOf ++ [triOf c] := by simp
def notJ (k : Nat) (l : List Nat) : List Nat := l.filter fun j => decide (j ≠ k)
theorem notJ_yes {l : List Nat} {i k : Nat} (h : i < l.length) (hk : gn l i ≠ k) : notJ k (l.take (i + 1)) = notJ k (l.take i) ++ [gn l i] := by
  unfold notJ; rw [take_gn h, List.filter_append]; simp [hk]
theorem notJ_no {l : List Nat} {i k : Nat} (h : i < l.length) (hk : gn l i = k) : notJ k (l.take (i + 1)) = notJ k (l.take i) := by
  unfold notJ; rw [take_gn h, List.filter_append]; simp [hk]
theorem asc_gn {l : List Nat} (h : l.Pairwise (· < ·)) {i : Nat} (hi : i + 1 < l.length) : gn l i < gn l (i + 1) := by
  have h1 : gn l i = l[i] := by simp [gn, List.getD_eq_getElem?_getD, show i < l.length by omega]
  have h2 : gn l (i + 1) = l[i + 1] := by simp [gn, List.getD_eq_getElem?_getD, hi]
  rw [h1, h2]
  exact List.pairwise_iff_getElem.1 h i (i + 1) (by omega) hi (by omega)
/-- Cables out of a list of cables are such too. -/
theorem sub_net {n : Int} {ks : List Tri} {m : Nat} {cs : List Cab} (N : Net7 n ks m cs) {l : List Nat} (hl : ∀ j ∈ l, j < cs.length) (h8 : l.length ≤ 20) : Net7 n ((cabsAt cs l).map triOf) m (cabsAt cs l) where
  n_eq := N.n_eq
  ks_eq := rfl
  ok := fun c hc => N.ok c (cabsAt_sub hl c hc)
  pos := N.pos
  le := N.le
  few := by simpa [cabsAt] using h8
theorem treeN_len_le (n : Nat) (cs : List Cab) : (treeN n cs).length ≤ n := treeT_len_le cs (costsN n cs) n cs.length
end Go.Proofs.Ytkmdpmhaljieaaa
