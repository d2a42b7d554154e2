/-
  Chapter 3's plain mathematics of stuffed bytes: what is proved here is that they have no flag, come back, are at most twice as many, and that no other bytes come back. No condition.
-/
import Derived.Test.YtlgoadniaiapkaaBits
namespace Go.Proofs.Ytlgoadniaiapkaa
open Go.RowKit

def stuff1 (z : Int) : List Int := if z = 126 then [125, 94] else if z = 125 then [125, 93] else [z]
def stuffF (zs : List Int) : List Int := zs.flatMap stuff1
def stuffB (zs : List Int) : List Int := if zs.length ≤ 600 then stuffF zs else []
theorem stuffF_cons (z : Int) (zs : List Int) : stuffF (z :: zs) = stuff1 z ++ stuffF zs := by simp [stuffF]
theorem stuffF_app (xs ys : List Int) : stuffF (xs ++ ys) = stuffF xs ++ stuffF ys := by simp [stuffF]
theorem stuffF_snoc (zs : List Int) (k : Nat) (z : Int) (h : zs[k]? = some z) : stuffF (zs.take (k + 1)) = stuffF (zs.take k) ++ stuff1 z := by
  rw [List.take_add_one, h, stuffF_app]; simp [stuffF]
theorem stuff1_len (z : Int) : 1 ≤ (stuff1 z).length ∧ (stuff1 z).length ≤ 2 := by
  unfold stuff1
  split
  · simp
  · split <;> simp
theorem stuffF_len (zs : List Int) : zs.length ≤ (stuffF zs).length ∧ (stuffF zs).length ≤ 2 * zs.length := by
  induction zs with
  | nil => simp [stuffF]
  | cons z zs ih =>
    have := stuff1_len z
    rw [stuffF_cons, List.length_append, List.length_cons]
    omega
theorem stuffB_le (zs : List Int) : (stuffB zs).length ≤ 1200 := by
  unfold stuffB; split
  · have := stuffF_len zs; omega
  · simp
theorem stuff1_u8 {z : Int} (h0 : 0 ≤ z) (h1 : z ≤ 255) : U8s (stuff1 z) := by
  intro y hy
  unfold stuff1 at hy
  split at hy
  · simp at hy; omega
  · split at hy
    · simp at hy; omega
    · simp at hy; omega
theorem stuffF_u8s {zs : List Int} (hu : U8s zs) : U8s (stuffF zs) := by
  intro y hy
  simp only [stuffF, List.mem_flatMap] at hy
  obtain ⟨z, hz, hy⟩ := hy
  exact stuff1_u8 (hu z hz).1 (hu z hz).2 y hy
theorem stuffB_u8s {zs : List Int} (hu : U8s zs) : U8s (stuffB zs) := by
  unfold stuffB; split
  · exact stuffF_u8s hu
  · intro z hz; cases hz
theorem stuffF_noflag (zs : List Int) : ∀ y ∈ stuffF zs, y ≠ 126 := by
  intro y hy
  simp only [stuffF, List.mem_flatMap] at hy
  obtain ⟨z, _, hy⟩ := hy
  unfold stuff1 at hy
  split at hy
  · simp at hy; omega
  · split at hy
    · simp at hy; omega
    · simp at hy; omega

/-- What is read so far: the bytes, and whether a turn stands open; nothing if it can be none. -/
def ustep (s : Option (List Int × Bool)) (z : Int) : Option (List Int × Bool) :=
  match s with
  | none => none
  | some (out, true) => if z = 94 then some (out ++ [126], false) else if z = 93 then some (out ++ [125], false) else none
  | some (out, false) => if z = 126 then none else if z = 125 then some (out, true) else some (out ++ [z], false)
def ust (zs : List Int) : Option (List Int × Bool) := zs.foldl ustep (some ([], false))
def unstG (zs : List Int) : Option (List Int) :=
  match ust zs with
  | some (out, false) => if out.length ≤ 600 then some out else none
  | _ => none
def unstB (zs : List Int) : List Int := (unstG zs).getD []
def unstOk (zs : List Int) : Bool := (unstG zs).isSome
theorem ust_snoc (zs : List Int) (k : Nat) (z : Int) (h : zs[k]? = some z) : ust (zs.take (k + 1)) = ustep (ust (zs.take k)) z := by
  unfold ust
  rw [List.take_add_one, h, List.foldl_append]; rfl
theorem ustep_none (zs : List Int) : zs.foldl ustep none = none := by
  induction zs with
  | nil => rfl
  | cons z zs ih => exact ih
theorem ust_bad {zs : List Int} {k : Nat} (h : ust (zs.take k) = none) : ust zs = none := by
  have h2 : zs = zs.take k ++ zs.drop k := (List.take_append_drop k zs).symm
  unfold ust at h ⊢
  rw [h2, List.foldl_append, h]; exact ustep_none _
theorem unstG_bad {zs : List Int} {k : Nat} (h : ust (zs.take k) = none) : unstG zs = none := by unfold unstG; rw [ust_bad h]
theorem unstG_of {zs out : List Int} (h : ust zs = some (out, false)) : unstG zs = if out.length ≤ 600 then some out else none := by unfold unstG; rw [h]
theorem unstG_open {zs out : List Int} (h : ust zs = some (out, true)) : unstG zs = none := by unfold unstG; rw [h]
theorem unst_le (zs : List Int) : (unstB zs).length ≤ 600 := by
  unfold unstB unstG
  split
  · split
    · rename_i h; exact h
    · simp
  · simp
theorem ust_stuff (zs out : List Int) : (stuffF zs).foldl ustep (some (out, false)) = some (out ++ zs, false) := by
  induction zs generalizing out with
  | nil => simp [stuffF]
  | cons z zs ih =>
    rw [stuffF_cons, List.foldl_append]
    have h1 : (stuff1 z).foldl ustep (some (out, false)) = some (out ++ [z], false) := by
      unfold stuff1
      by_cases h : z = 126
      · subst h; rfl
      · by_cases h2 : z = 125
        · subst h2; rfl
        · rw [if_neg h, if_neg h2]; simp [ustep, h, h2]
    rw [h1, ih]; simp
theorem unst_stuff {zs : List Int} (h : zs.length ≤ 600) : unstG (stuffF zs) = some zs := by
  have h1 : ust (stuffF zs) = some (zs, false) := by
    have := ust_stuff zs []
    simpa [ust] using this
  rw [unstG_of h1, if_pos h]
/-- Whatever comes back was stuffed. -/
theorem ust_back_to (zs : List Int) (k : Nat) : k ≤ zs.length → ∀ out b, ust (zs.take k) = some (out, b) → zs.take k = stuffF out ++ (if b then [125] else []) := by
  induction k with
  | zero => intro _ out b h; simp [ust] at h; obtain ⟨rfl, rfl⟩ := h; simp [stuffF]
  | succ k ih =>
    intro hk out b h
    obtain ⟨z, hzk⟩ : ∃ z, zs[k]? = some z := ⟨_, List.getElem?_eq_getElem (by omega)⟩
    rw [ust_snoc zs k z hzk] at h
    rw [show zs.take (k + 1) = zs.take k ++ [z] by rw [List.take_add_one, hzk]; rfl]
    replace ih := ih (by omega)
    generalize zs.take k = xs at *
    rcases hs : ust xs with _ | ⟨o, t⟩
    · rw [hs] at h; simp [ustep] at h
    · rw [hs] at h
      have hz := ih o t hs
      cases t
      · simp only [ustep] at h
        split at h
        · cases h
        · split at h
          · rename_i h5
            simp at h; obtain ⟨rfl, rfl⟩ := h
            rw [hz, h5]; simp
          · rename_i h6 h5
            simp at h; obtain ⟨rfl, rfl⟩ := h
            rw [hz, stuffF_app]; simp [stuffF, stuff1, h6, h5]
      · simp only [ustep] at h
        split at h
        · rename_i h4
          simp at h; obtain ⟨rfl, rfl⟩ := h
          rw [hz, stuffF_app, h4]; simp [stuffF, stuff1]
        · split at h
          · rename_i h4 h3
            simp at h; obtain ⟨rfl, rfl⟩ := h
            rw [hz, stuffF_app, h3]; simp [stuffF, stuff1]
          · cases h
theorem ust_back (zs out : List Int) (b : Bool) (h : ust zs = some (out, b)) : zs = stuffF out ++ (if b then [125] else []) := by
  have := ust_back_to zs zs.length (Nat.le_refl _) out b
  rw [List.take_of_length_le (Nat.le_refl _)] at this
  exact this h
theorem unst_back {zs : List Int} (h : unstOk zs = true) : stuffF (unstB zs) = zs ∧ (unstB zs).length ≤ 600 := by
  refine ⟨?_, unst_le zs⟩
  unfold unstOk at h
  unfold unstB
  rcases hs : ust zs with _ | ⟨o, t⟩
  · unfold unstG at h; rw [hs] at h; simp at h
  · cases t
    · rw [unstG_of hs] at h ⊢
      have hz := ust_back zs o false hs
      split
      · simpa using hz.symm
      · rename_i h6; rw [if_neg h6] at h; simp at h
    · rw [unstG_open hs] at h; simp at h
theorem unstB_u8s {zs : List Int} (hu : U8s zs) : U8s (unstB zs) := by
  by_cases h : unstOk zs = true
  · intro z hz
    have hb := (unst_back h).1
    by_cases h6 : z = 126 ∨ z = 125
    · omega
    · apply hu
      rw [← hb]
      simp only [stuffF, List.mem_flatMap]
      exact ⟨z, hz, by unfold stuff1; rw [if_neg (by omega), if_neg (by omega)]; simp⟩
  · have : unstB zs = [] := by
      unfold unstOk at h
      unfold unstB
      rcases hs : unstG zs with _ | o
      · rfl
      · rw [hs] at h; simp at h
    rw [this]; intro z hz; cases hz
/-- How many bytes are read out of so many. -/
theorem ust_len (zs : List Int) : ∀ out b, ust zs = some (out, b) → out.length ≤ zs.length := by
  intro out b h
  have h1 := ust_back zs out b h
  have h2 := (stuffF_len out).1
  rw [h1, List.length_append]; omega
end Go.Proofs.Ytlgoadniaiapkaa
