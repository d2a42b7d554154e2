/-
  ParityOf, FlipBit and Distance of the program and of its model: what is proved here is what they return, and that they write nothing that was there. Condition: lengths up to 2^24.
-/
import Derived.Test.YthcfjnedpffbbaaDoorBytes
import Derived.Lib.Walk
import Derived.Lib.Small
import Derived.Lib.BitFns
namespace Go.Proofs.YthcfjnedpffbbaaDoor
open Go.RowKit

/-- How many bits of a byte are set. -/
def ones8 (z : Int) : Int := (bits8 z).sum
def onesOf (zs : List Int) : Int := (bitsFlat zs).sum
def parityOf (zs : List Int) : Int := if zs.length ≤ 600 then onesOf zs % 2 else -1


theorem sum_app (xs ys : List Int) : (xs ++ ys).sum = xs.sum + ys.sum := by simp
theorem bit01 (z : Int) (i : Nat) : bitAt z i = 0 ∨ bitAt z i = 1 := by unfold bitAt; omega
theorem bitsFlat01 (zs : List Int) : ∀ b ∈ bitsFlat zs, b = 0 ∨ b = 1 := by
  intro b hb
  simp only [bitsFlat, List.mem_flatMap, bits8, List.mem_map] at hb
  obtain ⟨z, _, i, _, rfl⟩ := hb
  exact bit01 z i
theorem sum01 (l : List Int) (h : ∀ b ∈ l, b = 0 ∨ b = 1) : 0 ≤ l.sum ∧ l.sum ≤ l.length := by
  induction l with
  | nil => simp
  | cons b l ih =>
    have h1 := h b (by simp)
    have h2 := ih (fun c hc => h c (by simp [hc]))
    simp only [List.sum_cons, List.length_cons]
    omega
theorem onesOf_bound (zs : List Int) (k : Nat) (h : k ≤ 600) : 0 ≤ onesOf (zs.take k) ∧ onesOf (zs.take k) ≤ 4800 := by
  have h1 := sum01 _ (bitsFlat01 (zs.take k))
  have h2 := bitsFlat_length (zs.take k)
  have h3 : (zs.take k).length ≤ k := List.length_take_le _ _
  unfold onesOf
  omega
theorem onesOf_snoc (zs : List Int) (k : Nat) (z : Int) (h : zs[k]? = some z) : onesOf (zs.take (k + 1)) = onesOf (zs.take k) + ones8 z := by
  unfold onesOf ones8; rw [bitsFlat_snoc zs k z h, sum_app]
theorem ones8_bound (z : Int) : 0 ≤ ones8 z ∧ ones8 z ≤ 8 := by
  have h := sum01 (bits8 z) (fun b hb => by
    simp only [bits8, List.mem_map] at hb
    obtain ⟨i, _, rfl⟩ := hb
    exact bit01 z i)
  rw [bits8_length] at h
  exact h

theorem bitsOf_small {zs : List Int} {n : Nat} (h : zs.length = n) (hn : n ≤ 600) : bitsOf zs = bitsFlat zs := by unfold bitsOf; rw [if_pos (by omega)]

/-! ### FlipBit -/
def flipGood (zs : List Int) (i : Int) : Prop := zs.length ≤ 600 ∧ 0 ≤ i ∧ i < 8 * (zs.length : Int)
instance (zs : List Int) (i : Int) : Decidable (flipGood zs i) := by unfold flipGood; infer_instance
def xor8 (z m : Int) : Int := bits .xor .u8 z m
def flipBit (zs : List Int) (i : Int) : List Int := if flipGood zs i then zs.set (i.toNat / 8) (xor8 (zs.getD (i.toNat / 8) 0) (2 ^ (7 - i.toNat % 8))) else []
def flipOk (zs : List Int) (i : Int) : Bool := decide (flipGood zs i)
theorem flipBit_le (zs : List Int) (i : Int) : (flipBit zs i).length ≤ 600 := by
  unfold flipBit; split
  · rename_i h; have := h.1; simpa using this
  · simp
theorem flip_no {zs : List Int} {i : Int} {lo : Nat} {c : Nat} {A : Option Addr} {w w' : World} (hbad : ¬ flipGood zs i) (hb : Below lo w w') (ho : Own w' lo 5 A 0 c []) :
    ∃ A' n' c', Ending.returned (.tuple #[.slice A 0 c, .bool false]) = .returned (.tuple #[.slice A' n' c', .bool (flipOk zs i)]) ∧ Own w' lo 5 A' n' c' (ints .u8 (flipBit zs i)) ∧ Below lo w w' :=
  ⟨A, 0, c, by rw [show flipOk zs i = false by simp [flipOk, hbad]], by rw [show flipBit zs i = [] by simp [flipBit, hbad]]; exact ho, hb⟩
theorem flip_yes {zs : List Int} {i lo n c : Nat} {z : Int} {A : Option Addr} {w w' : World} (hg : flipGood zs i) (hx : zs[i / 8]? = some z) (hb : Below lo w w') (ho : Own w' lo 5 A n c (ints .u8 (zs.set (i / 8) (xor8 z (2 ^ (7 - i % 8)))))) :
    ∃ A' n' c', Ending.returned (.tuple #[.slice A n c, .bool true]) = .returned (.tuple #[.slice A' n' c', .bool (flipOk zs i)]) ∧ Own w' lo 5 A' n' c' (ints .u8 (flipBit zs i)) ∧ Below lo w w' :=
  ⟨A, n, c, by rw [show flipOk zs i = true by simp [flipOk, hg]], by rw [show flipBit zs i = zs.set (i / 8) (xor8 z (2 ^ (7 - i % 8))) by simp [flipBit, hg, hx]]; exact ho, hb⟩

theorem pow_byte (m : Nat) (h : m ≤ 7) : (2 : Int) ^ m % 256 = 2 ^ m := by
  have h1 : ∀ k : Fin 8, (2 : Int) ^ k.val % 256 = 2 ^ k.val := by decide
  exact h1 ⟨m, by omega⟩
theorem div_byte (m : Nat) (h : m ≤ 7) : (128 : Int) / 2 ^ m = 2 ^ (7 - m) := by
  have h1 : ∀ k : Fin 8, (128 : Int) / 2 ^ k.val = 2 ^ (7 - k.val) := by decide
  exact h1 ⟨m, by omega⟩
theorem l1In_yes (n a b : Int) (w : World) (h1 : a ≤ n) (h2 : n ≤ b) : Calls Tryd.prog 62 #[.int .i64 n, .int .i64 a, .int .i64 b] w fun e w' => e = .returned (.bool true) ∧ w = w' :=
  (l1In_any n a b w).mono fun e w' hh => ⟨by rw [hh.1]; simp [h1, h2], hh.2⟩
theorem l1In_no (n a b : Int) (w : World) (h : ¬ (a ≤ n ∧ n ≤ b)) : Calls Tryd.prog 62 #[.int .i64 n, .int .i64 a, .int .i64 b] w fun e w' => e = .returned (.bool false) ∧ w = w' :=
  (l1In_any n a b w).mono fun e w' hh => ⟨by rw [hh.1, show (decide (a ≤ n) && decide (n ≤ b)) = false by simp; omega], hh.2⟩

end Go.Proofs.YthcfjnedpffbbaaDoor
