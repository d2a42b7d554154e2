/-
  Chapter 1's plain mathematics and walks: what is proved here is what BitsOf, BytesOf, ParityOf, FlipBit and Distance return, in the program and in its model, and that they write nothing that was there. Condition: lengths up to 2^24.
-/
import Derived.Test.YthcfjnedpffbbaaDoorCore
import Derived.Deep.Light
namespace Go.Proofs.YthcfjnedpffbbaaDoor
open Go.RowKit

def bitAt (z : Int) (i : Nat) : Int := z / 2 ^ (7 - i) % 2
def bits8 (z : Int) : List Int := (List.range 8).map (bitAt z)
def bitsFlat (zs : List Int) : List Int := zs.flatMap bits8
def bitsOf (zs : List Int) : List Int := if zs.length ≤ 600 then bitsFlat zs else []
theorem bits8_length (z : Int) : (bits8 z).length = 8 := by simp [bits8]
theorem bits8_at (z : Int) (i : Nat) (h : i < 8) : (bits8 z)[i]? = some (bitAt z i) := by simp [bits8, h]
theorem bitsFlat_length (zs : List Int) : (bitsFlat zs).length = 8 * zs.length := by
  induction zs with
  | nil => rfl
  | cons z zs ih => simp only [bitsFlat, List.flatMap_cons, List.length_append, bits8_length, List.length_cons] at *; omega

theorem bitsOf_le (zs : List Int) : (bitsOf zs).length ≤ 4800 := by
  unfold bitsOf; split
  · rw [bitsFlat_length]; omega
  · simp

def I64s (zs : List Int) : Prop := ∀ z ∈ zs, -9223372036854775808 ≤ z ∧ z ≤ 9223372036854775807
def U8s (zs : List Int) : Prop := ∀ z ∈ zs, 0 ≤ z ∧ z ≤ 255
theorem u8_wrap {s : Int} (h0 : 0 ≤ s) (h1 : s ≤ 255) : IntKind.u8.wrap s = s := by
  obtain ⟨a, rfl⟩ := Int.eq_ofNat_of_zero_le h0
  rw [u8_of]; omega
theorem U8s.set_ {zs : List Int} {z : Int} {k : Nat} (h : U8s zs) (hz : 0 ≤ z ∧ z ≤ 255) : U8s (zs.set k z) := by
  intro y hy
  rcases List.mem_or_eq_of_mem_set hy with hy | rfl
  · exact h y hy
  · exact hz



theorem bitsFlat_snoc (zs : List Int) (k : Nat) (z : Int) (h : zs[k]? = some z) : bitsFlat (zs.take (k + 1)) = bitsFlat (zs.take k) ++ bits8 z := by
  rw [List.take_add_one, h]; simp [bitsFlat]
theorem bits8_snoc (z : Int) (j : Nat) (h : j < 8) : (bits8 z).take (j + 1) = (bits8 z).take j ++ [bitAt z j] := by
  rw [List.take_add_one, bits8_at z j h]; rfl
theorem bits8_all (z : Int) : (bits8 z).take 8 = bits8 z := List.take_of_length_le (by rw [bits8_length]; omega)
theorem ints_app (k : IntKind) (xs ys : List Int) : ints k (xs ++ ys) = ints k xs ++ ints k ys := by simp [ints]
theorem take_len {α : Type} (xs : List α) (k : Nat) (h : k ≤ xs.length) : (xs.take k).length = k := by simp; omega

theorem bitsFlat_at (zs : List Int) (k : Nat) (z : Int) (h : zs[k / 8]? = some z) : (bitsFlat zs)[k]? = some (bitAt z (k % 8)) := by
  induction zs generalizing k with
  | nil => simp at h
  | cons x zs ih =>
    by_cases hk : k < 8
    · rw [show k / 8 = 0 by omega] at h
      obtain rfl : x = z := by simpa using h
      rw [show bitsFlat (x :: zs) = bits8 x ++ bitsFlat zs by simp [bitsFlat], List.getElem?_append_left (by rw [bits8_length]; omega), bits8_at x k hk, Nat.mod_eq_of_lt hk]
    · obtain ⟨j, rfl⟩ : ∃ j, k = j + 8 := ⟨k - 8, by omega⟩
      rw [show (j + 8) / 8 = j / 8 + 1 by omega, List.getElem?_cons_succ] at h
      rw [show bitsFlat (x :: zs) = bits8 x ++ bitsFlat zs by simp [bitsFlat], List.getElem?_append_right (by rw [bits8_length]; omega), bits8_length, show j + 8 - 8 = j by omega, show (j + 8) % 8 = j % 8 by omega]
      exact ih j h

theorem shr_bounds (z : Int) (m : Nat) (h0 : 0 ≤ z) (h1 : z ≤ 255) : 0 ≤ z / 2 ^ m ∧ z / 2 ^ m ≤ 255 :=
  ⟨Int.ediv_nonneg h0 (Int.pow_nonneg (by omega)), Int.le_trans (Int.ediv_le_self _ h0) h1⟩
theorem and_one (x : Int) (h0 : 0 ≤ x) (h1 : x ≤ 255) : bits .and .i64 x 1 = x % 2 := by
  have h : ∀ n : Fin 256, bits .and .i64 (n.val : Int) 1 = (n.val : Int) % 2 := by decide +kernel
  have h2 := h ⟨x.toNat, by omega⟩
  rwa [show ((x.toNat : Nat) : Int) = x by omega] at h2
theorem bit_val (z : Int) (i : Nat) (h0 : 0 ≤ z) (h1 : z ≤ 255) : bits .and .i64 (wrap64 (z / 2 ^ (7 - i))) 1 = bitAt z i := by
  have h := shr_bounds z (7 - i) h0 h1
  rw [show wrap64 (z / 2 ^ (7 - i)) = z / 2 ^ (7 - i) by unfold wrap64; omega, and_one _ h.1 h.2]
  rfl

end Go.Proofs.YthcfjnedpffbbaaDoor
