/-
  Plain mathematics of the code that mends: what is encoded is decoded, also if one bit of each seven is wrong, and all of them are counted. Condition: data of at most 600 bytes.
-/
import Derived.Test.YtpbiomlohgcjdaaDoorDec
namespace Go.Proofs.YtpbiomlohgcjdaaDoor
open Go.RowKit

/-- The four bits that place i of the code of zs stands for. -/
def nibAt (zs : List Int) (i : Nat) : Int := if i % 2 = 0 then zs.getD (i / 2) 0 / 16 else zs.getD (i / 2) 0 % 16
theorem encFlat_at (zs : List Int) (i : Nat) (h : i < 2 * zs.length) : (encFlat zs)[i]? = some (encN (nibAt zs i)) := by
  induction zs generalizing i with
  | nil => simp at h
  | cons z zs ih =>
    rw [show encFlat (z :: zs) = encB1 z ++ encFlat zs by simp [encFlat]]
    by_cases h2 : i < 2
    · have hi : i = 0 ∨ i = 1 := by omega
      rcases hi with rfl | rfl
      · simp [encB1, nibAt]
      · simp [encB1, nibAt]
    · obtain ⟨j, rfl⟩ : ∃ j, i = j + 2 := ⟨i - 2, by omega⟩
      rw [List.getElem?_append_right (by simp [encB1]), show (encB1 z).length = 2 from rfl, show j + 2 - 2 = j by omega, ih j (by simp at h; omega)]
      unfold nibAt
      rw [show (j + 2) % 2 = j % 2 by omega, show (j + 2) / 2 = j / 2 + 1 by omega]
      simp
theorem nibAt_b (zs : List Int) (i : Nat) (hu : U8s zs) (h : i < 2 * zs.length) : 0 ≤ nibAt zs i ∧ nibAt zs i ≤ 15 := by
  have hz : zs[i / 2]? = some zs[i / 2] := List.getElem?_eq_getElem (by omega)
  have hb := hu _ (List.mem_of_getElem? hz)
  unfold nibAt
  rw [show zs.getD (i / 2) 0 = zs[i / 2] by simp [List.getD, hz]]
  split <;> omega
theorem sum_all (l : List Int) (c : Int) (h : ∀ z ∈ l, cnt1 z = c) : (l.map cnt1).sum = c * l.length := by
  induction l with
  | nil => simp
  | cons z l ih =>
    rw [List.map_cons, List.sum_cons, h z (by simp), ih (fun y hy => h y (by simp [hy])), List.length_cons, Int.natCast_add, Int.mul_add]
    simp; omega
theorem dec_of (zs xs : List Int) (hl : xs.length = 2 * zs.length) (h6 : zs.length ≤ 600)
    (h : ∀ i, i < 2 * zs.length → ∃ v, xs[i]? = some v ∧ v ≤ 127 ∧ decN v = nibAt zs i) : GoodCode xs ∧ decB xs = zs := by
  have hg : GoodCode xs := by
    refine ⟨by omega, by omega, fun z hz => ?_⟩
    obtain ⟨i, hi⟩ := List.getElem?_of_mem hz
    have hil := (List.getElem?_eq_some_iff.1 hi).1
    obtain ⟨v, hv, hv1, _⟩ := h i (by omega)
    rw [hi] at hv
    injection hv with hv
    omega
  refine ⟨hg, ?_⟩
  rw [show decB xs = decTo xs (xs.length / 2) xs.length by simp [decB, hg], show xs.length / 2 = zs.length by omega]
  apply List.ext_getElem?
  intro i
  by_cases hi : i < zs.length
  · obtain ⟨a, ha, _, ha2⟩ := h (2 * i) (by omega)
    obtain ⟨b, hb, _, hb2⟩ := h (2 * i + 1) (by omega)
    have hz : zs[i]? = some zs[i] := List.getElem?_eq_getElem hi
    rw [decTo_at _ _ _ _ hi, List.take_of_length_le (Nat.le_refl _), two_at xs i a b ha hb, ha2, hb2, hz]
    unfold nibAt
    rw [if_pos (by omega), if_neg (by omega), show 2 * i / 2 = i by omega, show (2 * i + 1) / 2 = i by omega, show zs.getD i 0 = zs[i] by simp [List.getD, hz]]
    congr 1
    omega
  · rw [List.getElem?_eq_none (by rw [decTo_length]; omega), List.getElem?_eq_none (by omega)]
theorem decM_of (xs : List Int) (c : Int) (hg : GoodCode xs) (h : ∀ z ∈ xs, cnt1 z = c) : decM xs = c * xs.length := by
  rw [show decM xs = cntTo xs xs.length by simp [decM, hg]]
  unfold cntTo
  rw [List.take_of_length_le (Nat.le_refl _), sum_all xs c h]
theorem enc_u8 (n : Int) (h0 : 0 ≤ n) (h1 : n ≤ 15) : (decN (encN n) = n ∧ decAt (encN n) = 0) ∧ ∀ k : Nat, k < 7 → (0 ≤ xor8 (encN n) (2 ^ k) ∧ xor8 (encN n) (2 ^ k) ≤ 127) ∧ decN (xor8 (encN n) (2 ^ k)) = n ∧ 0 < decAt (xor8 (encN n) (2 ^ k)) := by
  have q : ∀ n : Fin 16, (decN (encN (n.val : Int)) = (n.val : Int) ∧ decAt (encN (n.val : Int)) = 0) ∧ ∀ k : Fin 7, (0 ≤ xor8 (encN (n.val : Int)) (2 ^ k.val) ∧ xor8 (encN (n.val : Int)) (2 ^ k.val) ≤ 127) ∧ decN (xor8 (encN (n.val : Int)) (2 ^ k.val)) = (n.val : Int) ∧ 0 < decAt (xor8 (encN (n.val : Int)) (2 ^ k.val)) := by decide +kernel
  have h2 := q ⟨n.toNat, by omega⟩
  rw [show ((n.toNat : Nat) : Int) = n by omega] at h2
  exact ⟨h2.1, fun k hk => h2.2 ⟨k, hk⟩⟩
/-- One bit of each seven turned, as the law does it. -/
def flipAll (cs : List Int) (n : Nat) : List Int := (List.range cs.length).map fun i => xor8 (cs.getD i 0) (2 ^ ((i + n) % 7))
theorem flipAll_length (cs : List Int) (n : Nat) : (flipAll cs n).length = cs.length := by simp [flipAll]
theorem flipAll_at (cs : List Int) (n i : Nat) (z : Int) (h : cs[i]? = some z) : (flipAll cs n)[i]? = some (xor8 z (2 ^ ((i + n) % 7))) := by
  obtain ⟨hl, rfl⟩ := List.getElem?_eq_some_iff.1 h
  simp [flipAll, hl, List.getD]
theorem code_back (zs : List Int) (hu : U8s zs) (h6 : zs.length ≤ 600) : decB (encFlat zs) = zs ∧ decM (encFlat zs) = 0 := by
  have hd := dec_of zs (encFlat zs) (encFlat_length zs) h6 (fun i hi => by
    obtain ⟨b0, b1⟩ := nibAt_b zs i hu hi
    exact ⟨_, encFlat_at zs i hi, (encN_b _ b0 b1).2, (enc_u8 _ b0 b1).1.1⟩)
  refine ⟨hd.2, ?_⟩
  rw [decM_of _ 0 hd.1 (fun z hz => ?_)]
  · simp
  · obtain ⟨i, hi⟩ := List.getElem?_of_mem hz
    have hil := (List.getElem?_eq_some_iff.1 hi).1
    rw [encFlat_length] at hil
    obtain ⟨b0, b1⟩ := nibAt_b zs i hu hil
    rw [encFlat_at zs i hil] at hi
    injection hi with hi
    unfold cnt1
    rw [← hi, (enc_u8 _ b0 b1).1.2]
    simp
theorem code_mend (zs : List Int) (hu : U8s zs) (h6 : zs.length ≤ 600) (n : Nat) : decB (flipAll (encFlat zs) n) = zs ∧ decM (flipAll (encFlat zs) n) = 2 * (zs.length : Int) := by
  have hat : ∀ i, i < 2 * zs.length → (flipAll (encFlat zs) n)[i]? = some (xor8 (encN (nibAt zs i)) (2 ^ ((i + n) % 7))) := fun i hi => flipAll_at _ n i _ (encFlat_at zs i hi)
  have hlen : (flipAll (encFlat zs) n).length = 2 * zs.length := by rw [flipAll_length, encFlat_length]
  have hd := dec_of zs (flipAll (encFlat zs) n) hlen h6 (fun i hi => by
    obtain ⟨b0, b1⟩ := nibAt_b zs i hu hi
    obtain ⟨q1, q2, _⟩ := (enc_u8 _ b0 b1).2 ((i + n) % 7) (by omega)
    exact ⟨_, hat i hi, q1.2, q2⟩)
  refine ⟨hd.2, ?_⟩
  rw [decM_of _ 1 hd.1 (fun z hz => ?_), hlen]
  · simp
  · obtain ⟨i, hi⟩ := List.getElem?_of_mem hz
    have hil := (List.getElem?_eq_some_iff.1 hi).1
    rw [hlen] at hil
    obtain ⟨b0, b1⟩ := nibAt_b zs i hu hil
    rw [hat i hil] at hi
    injection hi with hi
    unfold cnt1
    rw [← hi, if_pos ((enc_u8 _ b0 b1).2 ((i + n) % 7) (by omega)).2.2]
end Go.Proofs.YtpbiomlohgcjdaaDoor
