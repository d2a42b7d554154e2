/-
  Plain mathematics of what arrives: the pairs of time and index that lie in a heap, taken out one by one, stand in the model's order. No condition.
-/
import Derived.Test.YtafplpechpoliaaMathHeap
namespace Go.Proofs.Ytafplpechpoliaa
open Go.RowKit

/-- When the message i arrives, if it does. -/
def tmN (fs : List Int) (i : Nat) : Int := if fateN fs i = 3 then 2 * (i : Int) + 3 else 2 * (i : Int)
/-- The pairs of the first n messages. -/
def prsTo (fs : List Int) : Nat → List (Int × Int)
  | 0 => []
  | n + 1 => prsTo fs n ++ List.replicate (wantN fs n) (tmN fs n, (n : Int))
theorem wantN_le (fs : List Int) (i : Nat) : wantN fs i ≤ 2 := by
  unfold wantN; split
  · omega
  · split <;> omega
theorem tmN_at {fs : List Int} {i : Nat} (h : wantN fs i ≠ 0) : tmN fs i = atN fs i := by
  have : fateN fs i ≠ 1 := fun h1 => h (by unfold wantN; rw [if_pos h1])
  unfold tmN atN
  rw [if_neg this]
theorem prsTo_len (fs : List Int) (n : Nat) : (prsTo fs n).length ≤ 2 * n := by
  induction n with
  | zero => simp [prsTo]
  | succ n ih => have := wantN_le fs n; simp only [prsTo, List.length_append, List.length_replicate]; omega
theorem mem_prsTo {fs : List Int} {n : Nat} {x : Int × Int} (h : x ∈ prsTo fs n) : ∃ i : Nat, i < n ∧ x = (atN fs i, (i : Int)) ∧ 0 ≤ atN fs i := by
  induction n with
  | zero => simp [prsTo] at h
  | succ n ih =>
    rcases List.mem_append.1 h with h | h
    · obtain ⟨i, hi, he⟩ := ih h
      exact ⟨i, by omega, he⟩
    · obtain ⟨h1, h2⟩ := List.mem_replicate.1 h
      refine ⟨n, by omega, by rw [h2, tmN_at h1], ?_⟩
      rw [← tmN_at h1]; unfold tmN; split <;> omega
theorem count_prsTo (fs : List Int) (n j : Nat) : ((prsTo fs n).map (·.2)).count (j : Int) = if j < n then wantN fs j else 0 := by
  induction n with
  | zero => simp [prsTo]
  | succ n ih =>
    simp only [prsTo, List.map_append, List.count_append, ih, List.map_replicate, List.count_replicate]
    by_cases h : n = j
    · subst h; simp
    · have : ((n : Int) == (j : Int)) = false := by simp; omega
      by_cases h2 : j < n
      · simp [this, h2, show j < n + 1 by omega]
      · simp [this, h2, show ¬ j < n + 1 by omega]
theorem early_antisymm {fs : List Int} {x y : Int} (h : early fs x y) (h' : early fs y x) : x = y := by
  obtain ⟨i, j, rfl, rfl, _, _, h1⟩ := h
  obtain ⟨i', j', hi, hj, _, _, h2⟩ := h'
  obtain rfl : j = i' := by omega
  obtain rfl : i = j' := by omega
  omega
theorem arr_perm (fs : List Int) (n : Nat) : (arrF fs n).Perm ((prsTo fs n).map (·.2)) := by
  rw [List.perm_iff_count]
  intro a
  by_cases ha : ∃ j : Nat, a = (j : Int)
  · obtain ⟨j, rfl⟩ := ha
    rw [count_prsTo]
    by_cases hj : j < n
    · rw [if_pos hj, count_arrF fs n j hj]
    · rw [if_neg hj]
      apply List.count_eq_zero_of_not_mem
      intro h
      obtain ⟨i, t, hi, _, he, _⟩ := mem_arrTo h
      omega
  · rw [List.count_eq_zero_of_not_mem, List.count_eq_zero_of_not_mem]
    · intro h
      obtain ⟨x, hx, rfl⟩ := List.mem_map.1 h
      obtain ⟨i, _, rfl, _⟩ := mem_prsTo hx
      exact ha ⟨i, rfl⟩
    · intro h
      obtain ⟨i, t, _, _, he, _⟩ := mem_arrTo h
      exact ha ⟨i, he⟩
/-- Taken out in order, they are what the model says. -/
theorem popped_eq {fs : List Int} {n : Nat} {o : List (Int × Int)} (hp : o.Perm (prsTo fs n)) (hs : o.Pairwise (fun a b => ¬ ltP b a)) : o.map (·.2) = arrF fs n := by
  refine List.Perm.eq_of_pairwise (le := early fs) (fun a b _ _ h h' => early_antisymm h h') ?_ (pair_arrTo fs n _) ((hp.map _).trans (arr_perm fs n).symm)
  rw [List.pairwise_map]
  refine hs.imp_of_mem (fun {a b} ha hb h => ?_)
  obtain ⟨i, _, rfl, ht⟩ := mem_prsTo (hp.mem_iff.1 ha)
  obtain ⟨j, _, rfl, hu⟩ := mem_prsTo (hp.mem_iff.1 hb)
  refine ⟨i, j, rfl, rfl, ht, hu, ?_⟩
  unfold ltP at h
  simp only [] at h
  omega
/-- The least of what is left stands behind what was taken. -/
theorem pop_next {all o ds ds' : List (Int × Int)} {x : Int × Int} (hall : (o ++ ds).Perm all) (hs : o.Pairwise (fun a b => ¬ ltP b a)) (hle : ∀ a ∈ o, ∀ b ∈ ds, ¬ ltP b a) (hx : (x :: ds').Perm ds) (hmin : ∀ b ∈ ds, ¬ ltP b x) :
    ((o ++ [x]) ++ ds').Perm all ∧ (o ++ [x]).Pairwise (fun a b => ¬ ltP b a) ∧ ∀ a ∈ o ++ [x], ∀ b ∈ ds', ¬ ltP b a := by
  have hxm : x ∈ ds := hx.mem_iff.1 (List.mem_cons_self)
  refine ⟨?_, ?_, ?_⟩
  · rw [List.append_assoc]
    exact (List.Perm.append_left o hx).trans hall
  · rw [List.pairwise_append]
    exact ⟨hs, by simp, fun a ha b hb => by simp at hb; subst hb; exact hle a ha _ hxm⟩
  · intro a ha b hb
    have hbm : b ∈ ds := hx.mem_iff.1 (List.mem_cons_of_mem _ hb)
    rcases List.mem_append.1 ha with ha | ha
    · exact hle a ha b hbm
    · simp at ha; subst ha; exact hmin b hbm
end Go.Proofs.Ytafplpechpoliaa
