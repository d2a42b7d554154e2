/-
  Chapter 7's laws on claims: small facts. No condition.
-/
import Derived.Test.YtkmdpmhaljieaaaImp7i
import Derived.Test.YtkmdpmhaljieaaaCabN
import Derived.Test.YtkmdpmhaljieaaaDrawCabB
import Derived.Test.YtkmdpmhaljieaaaWnPairs
import Derived.Test.YtkmdpmhaljieaaaShut
namespace Go.Proofs.Ytkmdpmhaljieaaa
open Go.RowKit Go.ChangeShapes Go.WideShapes Go.ChangeAt

theorem afterI_yes {m : Nat} {ks : List Tri} {x : Int} (h : (afterI (m : Int) ks x).length ≠ 0) : ∃ cs R, Net7 (m : Int) ks m cs ∧ x = ((R : Nat) : Int) ∧ R ≤ 100 ∧ afterI (m : Int) ks x = afterN m cs R := by
  unfold afterI at h ⊢
  split at h
  · rename_i hv
    have N := kOk_yes hv.1
    rw [Int.toNat_natCast] at N
    obtain ⟨R, rfl⟩ := Int.eq_ofNat_of_zero_le hv.2.1
    exact ⟨_, R, N, rfl, by omega, by rw [if_pos hv]; rfl⟩
  · exact (h rfl).elim
theorem afterI_len (m : Nat) (ks : List Tri) (x : Int) : (afterI (m : Int) ks x).length ≤ 8 := (afterI_told _ ks x).1
/-- A list's inner slice and its number. -/
theorem HasLI.gi_at {w : World} {b o n : Nat} {l : List (List Int)} (h : HasLI w (some ⟨b, o, none⟩) n l) {i : Nat} (hi : i < n) : ∃ X q d, w.cell? ⟨b, o + i, none⟩ = some (.slice X q d) ∧ q = (clmAt l i).length ∧ q ≤ d ∧ ∀ j, j < q → ∃ b2 o2, X = some ⟨b2, o2, none⟩ ∧ b2 < w.heap.size ∧ w.cell? ⟨b2, o2 + j, none⟩ = some (.int .i64 (gi (clmAt l i) j)) := by
  obtain ⟨b', o', X, q, d, x, e, hbl, hx, hc, hqd, hX⟩ := h.at_ hi
  cases e
  rw [clm_at' hx]
  exact ⟨X, q, d, hc, hX.len.symm, hqd, fun j hj => has_gi hX hj⟩
theorem has_cI_to {w : World} {n b o : Nat} {l : List Nat} (h : Has w (some ⟨b, o, none⟩) n (cI l)) {i : Nat} (hi : i < n) : w.cell? ⟨b, o + i, none⟩ = some (.int .i64 (gn l i : Int)) := by
  obtain ⟨b', o', e, _, hc⟩ := has_cI h hi
  cases e
  exact hc
end Go.Proofs.Ytkmdpmhaljieaaa
