/-
  BytesOf of the program and of its model: what is proved here is which bytes the bits give, or that there are none. Condition: lengths up to 2^24.
-/
import Derived.Test.YthcfjnedpffbbaaDoorBits
namespace Go.Proofs.YthcfjnedpffbbaaDoor
open Go.RowKit

def val (l : List Int) : Int := l.foldl (fun n b => 2 * n + b) 0
def AllBits (zs : List Int) : Prop := ∀ z ∈ zs, z = 0 ∨ z = 1
instance (zs : List Int) : Decidable (AllBits zs) := by unfold AllBits; infer_instance
/-- The bytes of the first k of bits, m bytes in all. -/
def packTo (zs : List Int) (m k : Nat) : List Int := (List.range m).map fun i => val (((zs.take k).drop (8 * i)).take 8)
def GoodBits (zs : List Int) : Prop := zs.length % 8 = 0 ∧ zs.length ≤ 4800 ∧ AllBits zs
instance (zs : List Int) : Decidable (GoodBits zs) := by unfold GoodBits; infer_instance
def bytesOf (zs : List Int) : List Int := if GoodBits zs then packTo zs (zs.length / 8) zs.length else []
def bytesOk (zs : List Int) : Bool := decide (GoodBits zs)

theorem bytesOf_le (zs : List Int) : (bytesOf zs).length ≤ 600 := by
  unfold bytesOf; split
  · rename_i h; have := h.2.1; simp [packTo]; omega
  · simp
theorem val_snoc (l : List Int) (b : Int) : val (l ++ [b]) = 2 * val l + b := by simp [val]
theorem val_bound (l : List Int) (h : AllBits l) : 0 ≤ val l ∧ val l < 2 ^ l.length := by
  rw [← List.reverse_reverse l] at h ⊢
  generalize l.reverse = r at h ⊢
  induction r with
  | nil => simp [val]
  | cons b r ih =>
    rw [List.reverse_cons, val_snoc]
    have hb := h b (by simp)
    have hr := ih (fun z hz => h z (by simp at hz ⊢; exact .inl hz))
    rw [List.length_append, List.length_singleton, Int.pow_succ]
    omega
theorem packTo_length (zs : List Int) (m k : Nat) : (packTo zs m k).length = m := by simp [packTo]
theorem packTo_at (zs : List Int) (m k i : Nat) (h : i < m) : (packTo zs m k)[i]? = some (val (((zs.take k).drop (8 * i)).take 8)) := by simp [packTo, h]
theorem packTo_zero (zs : List Int) (m : Nat) : packTo zs m 0 = List.replicate m 0 := by
  apply List.ext_getElem?; intro i
  by_cases h : i < m
  · rw [packTo_at _ _ _ _ h]; simp [h, val]
  · simp [packTo, h]
theorem chunk_snoc (zs : List Int) (k : Nat) (z : Int) (h : zs[k]? = some z) : (((zs.take (k + 1)).drop (8 * (k / 8))).take 8) = (((zs.take k).drop (8 * (k / 8))).take 8) ++ [z] := by
  have hl : k < zs.length := (List.getElem?_eq_some_iff.1 h).1
  rw [show zs.take (k + 1) = zs.take k ++ [z] by rw [List.take_add_one, h]; rfl, List.drop_append_of_le_length (by simp; omega)]
  have h1 : ((zs.take k).drop (8 * (k / 8)) ++ [z]).take 8 = (zs.take k).drop (8 * (k / 8)) ++ [z] := List.take_of_length_le (by simp; omega)
  have h2 : ((zs.take k).drop (8 * (k / 8))).take 8 = (zs.take k).drop (8 * (k / 8)) := List.take_of_length_le (by simp; omega)
  rw [h1, h2]
theorem chunk_other (zs : List Int) (k i : Nat) (h : i ≠ k / 8) : (((zs.take (k + 1)).drop (8 * i)).take 8) = (((zs.take k).drop (8 * i)).take 8) := by
  apply List.ext_getElem?; intro j
  simp only [List.getElem?_take, List.getElem?_drop]
  by_cases hj : j < 8
  · simp only [hj, if_true]
    by_cases h1 : 8 * i + j < k
    · rw [if_pos (by omega), if_pos h1]
    · rw [if_neg (by omega), if_neg h1]
  · simp [hj]
theorem packTo_succ (zs : List Int) (m k : Nat) (z : Int) (h : zs[k]? = some z) :
    packTo zs m (k + 1) = (packTo zs m k).set (k / 8) (2 * val (((zs.take k).drop (8 * (k / 8))).take 8) + z) := by
  apply List.ext_getElem?; intro i
  by_cases hi : i < m
  · by_cases hk : i = k / 8
    · subst hk
      rw [List.getElem?_set_self (by rw [packTo_length]; exact hi), packTo_at _ _ _ _ hi, chunk_snoc zs k z h, val_snoc]
    · rw [List.getElem?_set_ne (by omega), packTo_at _ _ _ _ hi, packTo_at _ _ _ _ hi, chunk_other zs k i hk]
  · rw [List.getElem?_eq_none (by rw [packTo_length]; omega), List.getElem?_eq_none (by rw [List.length_set, packTo_length]; omega)]

theorem l1In_any (n a b : Int) (w : World) : Calls Tryd.prog 62 #[.int .i64 n, .int .i64 a, .int .i64 b] w fun e w' => e = .returned (.bool (decide (a ≤ n) && decide (n ≤ b))) ∧ w = w' := by
  by_cases h1 : a ≤ n
  · have hd : decide (a ≤ n) = true := by simp [h1]
    go_enter Tryd.func62, Tryd.ntmps62
    go_wp2
    go_ret
    exact ⟨by simp [h1], rfl⟩
  · have hd : decide (a ≤ n) = false := by simp [h1]
    go_enter Tryd.func62, Tryd.ntmps62
    go_wp2
    go_ret
    exact ⟨by simp, rfl⟩
theorem chunk_bits (zs : List Int) (hb : AllBits zs) (k i : Nat) : AllBits (((zs.take k).drop (8 * i)).take 8) :=
  fun z hz => hb z (List.mem_of_mem_take (List.mem_of_mem_drop (List.mem_of_mem_take hz)))
theorem part_bound (zs : List Int) (k : Nat) (hb : AllBits (zs.take k)) : 0 ≤ val (((zs.take k).drop (8 * (k / 8))).take 8) ∧ val (((zs.take k).drop (8 * (k / 8))).take 8) < 128 := by
  have h1 := val_bound (((zs.take k).drop (8 * (k / 8))).take 8) (fun z hz => hb z (List.mem_of_mem_drop (List.mem_of_mem_take hz)))
  have hl : (((zs.take k).drop (8 * (k / 8))).take 8).length ≤ 7 := by simp; omega
  have h2 : (((2 : Nat) ^ (((zs.take k).drop (8 * (k / 8))).take 8).length : Nat) : Int) ≤ ((2 ^ 7 : Nat) : Int) := Int.ofNat_le.2 (Nat.pow_le_pow_right (by omega) hl)
  rw [Int.natCast_pow] at h2
  exact ⟨h1.1, Int.lt_of_lt_of_le h1.2 h2⟩
theorem AllBits.snoc {zs : List Int} {k : Nat} {z : Int} (h : AllBits (zs.take k)) (hx : zs[k]? = some z) (hz : z = 0 ∨ z = 1) : AllBits (zs.take (k + 1)) := by
  rw [show zs.take (k + 1) = zs.take k ++ [z] by rw [List.take_add_one, hx]; rfl]
  intro y hy
  rcases List.mem_append.1 hy with hy | hy
  · exact h y hy
  · rw [List.mem_singleton.1 hy]; exact hz

theorem or_val (p z : Int) (h0 : 0 ≤ p) (h1 : p < 128) (hz : z = 0 ∨ z = 1) : bits .or .u8 (p * 2) z = 2 * p + z := by
  have h : ∀ n : Fin 128, bits .or .u8 ((n.val : Int) * 2) 0 = 2 * (n.val : Int) + 0 ∧ bits .or .u8 ((n.val : Int) * 2) 1 = 2 * (n.val : Int) + 1 := by decide +kernel
  have h2 := h ⟨p.toNat, by omega⟩
  rw [show ((p.toNat : Nat) : Int) = p by omega] at h2
  rcases hz with rfl | rfl
  · exact h2.1
  · exact h2.2

theorem packTo_snoc (zs : List Int) (q : Nat) : packTo zs (q + 1) zs.length = packTo zs q zs.length ++ [val ((zs.drop (8 * q)).take 8)] := by
  simp [packTo, List.range_succ]
theorem val_take_snoc (zs : List Int) (q j : Nat) (z : Int) (h : zs[8 * q + j]? = some z) : val ((zs.drop (8 * q)).take (j + 1)) = 2 * val ((zs.drop (8 * q)).take j) + z := by
  rw [show (zs.drop (8 * q)).take (j + 1) = (zs.drop (8 * q)).take j ++ [z] by rw [List.take_add_one, List.getElem?_drop, h]; rfl, val_snoc]
theorem val_part (zs : List Int) (q j : Nat) (hj : j ≤ 8) (hb : AllBits (zs.take (8 * q + j))) : 0 ≤ val ((zs.drop (8 * q)).take j) ∧ val ((zs.drop (8 * q)).take j) ≤ 255 := by
  have h1 := val_bound ((zs.drop (8 * q)).take j) (fun z hz => hb z (by
    rw [List.take_drop] at hz
    exact List.mem_of_mem_drop hz))
  have hl : ((zs.drop (8 * q)).take j).length ≤ 8 := by simp; omega
  have h2 : (((2 : Nat) ^ ((zs.drop (8 * q)).take j).length : Nat) : Int) ≤ ((2 ^ 8 : Nat) : Int) := Int.ofNat_le.2 (Nat.pow_le_pow_right (by omega) hl)
  rw [Int.natCast_pow] at h2
  have h3 := Int.lt_of_lt_of_le h1.2 h2
  exact ⟨h1.1, by omega⟩

end Go.Proofs.YthcfjnedpffbbaaDoor
