/-
  Plain mathematics of a heap of pairs: exchanging along a way up or down makes it a heap again, and its first pair is the least. No condition.
-/
import Derived.Test.YtkmdpmhaljieaaaHeapA
namespace Go.Proofs.Ytkmdpmhaljieaaa
open Go.RowKit

theorem lt_asymm {a b : Int × Int} (h : ltP a b) : ¬ ltP b a := by unfold ltP at *; omega
theorem le_trans_ {a b c : Int × Int} (h : ¬ ltP b a) (h' : ¬ ltP c b) : ¬ ltP c a := by unfold ltP at *; omega
theorem le_antisymm_ {a b : Int × Int} (h : ¬ ltP b a) (h' : ¬ ltP a b) : a = b := by
  unfold ltP at *
  exact Prod.ext (by omega) (by omega)
theorem atP_get {ds : List (Int × Int)} {i : Nat} (h : i < ds.length) : atP ds i = ds[i] := by simp [atP, List.getD_eq_getElem?_getD, List.getElem?_eq_getElem h]
theorem swp_len (ds : List (Int × Int)) (i j : Nat) : (swp ds i j).length = ds.length := by simp [swp]
theorem swp_perm {ds : List (Int × Int)} {i j : Nat} (hi : i < ds.length) (hj : j < ds.length) : (swp ds i j).Perm ds := by
  unfold swp
  rw [atP_get hi, atP_get hj]
  exact List.set_set_perm hi hj
theorem atP_swp {ds : List (Int × Int)} {i j c : Nat} (hi : i < ds.length) (hj : j < ds.length) : atP (swp ds i j) c = if c = j then atP ds i else if c = i then atP ds j else atP ds c := by
  unfold swp
  have e : atP ((ds.set i (atP ds j)).set j (atP ds i)) c = (((ds.set i (atP ds j)).set j (atP ds i))[c]?).getD (0, 0) := by simp [atP, List.getD_eq_getElem?_getD]
  rw [e]
  by_cases h1 : c = j
  · subst h1; rw [if_pos rfl, List.getElem?_set_self (by simpa using hj)]; rfl
  · rw [if_neg h1, List.getElem?_set_ne (by omega)]
    by_cases h2 : c = i
    · subst h2; rw [if_pos rfl, List.getElem?_set_self hi]; rfl
    · rw [if_neg h2, List.getElem?_set_ne (by omega)]; simp [atP, List.getD_eq_getElem?_getD]
theorem swp_i {ds : List (Int × Int)} {i j : Nat} (hi : i < ds.length) (hj : j < ds.length) : atP (swp ds i j) i = atP ds j := by
  rw [atP_swp hi hj]
  by_cases h : i = j
  · rw [if_pos h, h]
  · rw [if_neg h, if_pos rfl]
theorem swp_j {ds : List (Int × Int)} {i j : Nat} (hi : i < ds.length) (hj : j < ds.length) : atP (swp ds i j) j = atP ds i := by rw [atP_swp hi hj, if_pos rfl]
theorem swp_o {ds : List (Int × Int)} {i j c : Nat} (hi : i < ds.length) (hj : j < ds.length) (h1 : c ≠ i) (h2 : c ≠ j) : atP (swp ds i j) c = atP ds c := by rw [atP_swp hi hj, if_neg h2, if_neg h1]

/-- The first n pairs are a heap. -/
def HeapN (ds : List (Int × Int)) (n : Nat) : Prop := ∀ c, 0 < c → c < n → ¬ ltP (atP ds c) (atP ds ((c - 1) / 2))
/-- .. but for the pair j, which may be too small. -/
def HeapUp (ds : List (Int × Int)) (j : Nat) : Prop :=
  (∀ c, 0 < c → c < ds.length → c ≠ j → ¬ ltP (atP ds c) (atP ds ((c - 1) / 2))) ∧ (∀ c, 0 < c → c < ds.length → (c - 1) / 2 = j → 0 < j → ¬ ltP (atP ds c) (atP ds ((j - 1) / 2)))
/-- .. but for the pair i, which may be too great. -/
def HeapDown (ds : List (Int × Int)) (i n : Nat) : Prop :=
  (∀ c, 0 < c → c < n → (c - 1) / 2 ≠ i → ¬ ltP (atP ds c) (atP ds ((c - 1) / 2))) ∧ (∀ c, 0 < c → c < n → (c - 1) / 2 = i → 0 < i → ¬ ltP (atP ds c) (atP ds ((i - 1) / 2)))
theorem up_top {ds : List (Int × Int)} (h : HeapUp ds 0) : HeapN ds ds.length := fun c h0 hc => h.1 c h0 hc (by omega)
theorem up_stop {ds : List (Int × Int)} {j : Nat} (h : HeapUp ds j) (hl : ¬ ltP (atP ds j) (atP ds ((j - 1) / 2))) : HeapN ds ds.length := fun c h0 hc => by
  by_cases hj : c = j
  · subst hj; exact hl
  · exact h.1 c h0 hc hj
theorem up_step {ds : List (Int × Int)} {j p : Nat} (h : HeapUp ds j) (h0 : 0 < j) (hj : j < ds.length) (hp : p = (j - 1) / 2) (hl : ltP (atP ds j) (atP ds p)) : HeapUp (swp ds p j) p := by
  have hpl : p < ds.length := by omega
  refine ⟨fun c c0 cl cp => ?_, fun c c0 cl cp p0 => ?_⟩
  · rw [swp_len] at cl
    by_cases e1 : c = j
    · subst e1
      rw [swp_j hpl hj, ← hp, swp_i hpl hj]
      exact lt_asymm hl
    · rw [swp_o hpl hj cp e1]
      by_cases e2 : (c - 1) / 2 = p
      · rw [e2, swp_i hpl hj]
        have := h.1 c c0 cl e1
        rw [e2] at this
        exact le_trans_ (lt_asymm hl) this
      · by_cases e3 : (c - 1) / 2 = j
        · rw [e3, swp_j hpl hj]
          have := h.2 c c0 cl e3 h0
          rw [← hp] at this
          exact this
        · rw [swp_o hpl hj e2 e3]; exact h.1 c c0 cl e1
  · rw [swp_len] at cl
    rw [swp_o hpl hj (c := (p - 1) / 2) (by omega) (by omega)]
    have hpp := h.1 p p0 hpl (by omega)
    by_cases e1 : c = j
    · subst e1; rw [swp_j hpl hj]; exact hpp
    · rw [swp_o hpl hj (by omega) e1]
      have := h.1 c c0 cl e1
      rw [cp] at this
      exact le_trans_ hpp this
theorem atP_app_l {ds : List (Int × Int)} {x : Int × Int} {c : Nat} (h : c < ds.length) : atP (ds ++ [x]) c = atP ds c := by
  simp [atP, List.getD_eq_getElem?_getD, List.getElem?_append_left h]
theorem push_start {ds : List (Int × Int)} {x : Int × Int} (h : HeapN ds ds.length) : HeapUp (ds ++ [x]) ds.length := by
  refine ⟨fun c c0 cl cj => ?_, fun c c0 cl cj j0 => ?_⟩
  · rw [List.length_append] at cl
    have : c < ds.length := by simp at cl; omega
    rw [atP_app_l this, atP_app_l (by omega)]
    exact h c c0 this
  · rw [List.length_append] at cl
    simp at cl; omega

theorem down_end {ds : List (Int × Int)} {i n : Nat} (h : HeapDown ds i n) (hn : n ≤ 2 * i + 1) : HeapN ds n := fun c c0 cn => h.1 c c0 cn (by omega)
/-- j is the smaller child of i among the first n. -/
def MinKid (ds : List (Int × Int)) (i j n : Nat) : Prop := (j = 2 * i + 1 ∨ j = 2 * i + 2) ∧ j < n ∧ ∀ c, (c = 2 * i + 1 ∨ c = 2 * i + 2) → c < n → ¬ ltP (atP ds c) (atP ds j)
theorem kid_one {ds : List (Int × Int)} {i n : Nat} (h1 : 2 * i + 1 < n) (h2 : ¬ 2 * i + 2 < n) : MinKid ds i (2 * i + 1) n :=
  ⟨.inl rfl, h1, fun c hc cn => by obtain rfl : c = 2 * i + 1 := by omega
                                   unfold ltP; omega⟩
theorem kid_left {ds : List (Int × Int)} {i n : Nat} (h1 : 2 * i + 1 < n) (hl : ¬ ltP (atP ds (2 * i + 2)) (atP ds (2 * i + 1))) : MinKid ds i (2 * i + 1) n :=
  ⟨.inl rfl, h1, fun c hc cn => by
    rcases hc with rfl | rfl
    · unfold ltP; omega
    · exact hl⟩
theorem kid_right {ds : List (Int × Int)} {i n : Nat} (h2 : 2 * i + 2 < n) (hl : ltP (atP ds (2 * i + 2)) (atP ds (2 * i + 1))) : MinKid ds i (2 * i + 2) n :=
  ⟨.inr rfl, h2, fun c hc cn => by
    rcases hc with rfl | rfl
    · exact lt_asymm hl
    · unfold ltP; omega⟩
theorem down_stop {ds : List (Int × Int)} {i j n : Nat} (h : HeapDown ds i n) (hk : MinKid ds i j n) (hl : ¬ ltP (atP ds j) (atP ds i)) : HeapN ds n := fun c c0 cn => by
  by_cases e : (c - 1) / 2 = i
  · rw [e]; exact le_trans_ hl (hk.2.2 c (by omega) cn)
  · exact h.1 c c0 cn e
theorem down_step {ds : List (Int × Int)} {i j n : Nat} (h : HeapDown ds i n) (hn : n ≤ ds.length) (hk : MinKid ds i j n) (hl : ltP (atP ds j) (atP ds i)) : HeapDown (swp ds i j) j n := by
  obtain ⟨k1, k2, k3⟩ := hk
  have hi : i < ds.length := by omega
  have hj : j < ds.length := by omega
  refine ⟨fun c c0 cn cq => ?_, fun c c0 cn cq j0 => ?_⟩
  · by_cases e1 : c = i
    · subst e1
      rw [swp_i hi hj, swp_o hi hj (c := (c - 1) / 2) (by omega) (by omega)]
      exact h.2 j (by omega) k2 (by omega) c0
    · by_cases e2 : c = j
      · subst e2
        rw [swp_j hi hj, show (c - 1) / 2 = i by omega, swp_i hi hj]
        exact lt_asymm hl
      · rw [swp_o hi hj e1 e2]
        by_cases e3 : (c - 1) / 2 = i
        · rw [e3, swp_i hi hj]; exact k3 c (by omega) cn
        · rw [swp_o hi hj e3 cq]; exact h.1 c c0 cn e3
  · rw [show (j - 1) / 2 = i by omega, swp_i hi hj, swp_o hi hj (by omega) (by omega)]
    have := h.1 c c0 cn (by omega)
    rw [cq] at this
    exact this
theorem pop_start {ds : List (Int × Int)} {n : Nat} (h : HeapN ds (n + 1)) (hl : ds.length = n + 1) : HeapDown (swp ds 0 n) 0 n := by
  refine ⟨fun c c0 cn cq => ?_, fun c c0 cn cq j0 => by omega⟩
  rw [swp_o (by omega) (by omega) (by omega) (by omega), swp_o (by omega) (by omega) (c := (c - 1) / 2) (by omega) (by omega)]
  exact h c c0 (by omega)
theorem root_min {ds : List (Int × Int)} {n : Nat} (h : HeapN ds n) : ∀ c, c < n → ¬ ltP (atP ds c) (atP ds 0) := by
  intro c
  induction c using Nat.strongRecOn with
  | _ c ih =>
    intro hc
    by_cases h0 : c = 0
    · subst h0; unfold ltP; omega
    · exact le_trans_ (ih ((c - 1) / 2) (by omega) (by omega)) (h c (by omega) hc)
theorem atP_take {ds : List (Int × Int)} {n c : Nat} (h : c < n) : atP (ds.take n) c = atP ds c := by
  simp [atP, List.getD_eq_getElem?_getD, h]
theorem heap_take {ds : List (Int × Int)} {n : Nat} (h : HeapN ds n) : HeapN (ds.take n) n := fun c c0 cn => by rw [atP_take cn, atP_take (by omega)]; exact h c c0 cn
theorem take_perm {ds : List (Int × Int)} {n : Nat} (h : ds.length = n + 1) : (atP ds n :: ds.take n).Perm ds := by
  have e : ds = ds.take n ++ [atP ds n] := by
    rw [atP_get (by omega)]
    have := List.take_append_getElem (l := ds) (i := n) (by omega)
    rw [this, List.take_of_length_le (by omega)]
  have h2 : (atP ds n :: ds.take n).Perm (ds.take n ++ [atP ds n]) := (List.perm_append_singleton _ _).symm
  rwa [← e] at h2
theorem mem_atP {ds : List (Int × Int)} {x : Int × Int} (h : x ∈ ds) : ∃ c, c < ds.length ∧ x = atP ds c := by
  obtain ⟨c, hc, rfl⟩ := List.mem_iff_getElem.1 h
  exact ⟨c, hc, (atP_get hc).symm⟩
end Go.Proofs.Ytkmdpmhaljieaaa
