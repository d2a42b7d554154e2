/-
  Chapter 2's plain mathematics of the sum: what is proved here is how words are added round, byte by byte and word by word. No condition.
-/
import Derived.Test.YtpbiomlohgcjdaaBits
namespace Go.Proofs.Ytpbiomlohgcjdaa
open Go.RowKit

/-- A sum of words, added round. -/
def rnd (s : Int) : Int := if s = 0 then 0 else (s - 1) % 65535 + 1
theorem rnd_small (s : Int) (h0 : 0 ≤ s) (h1 : s ≤ 65535) : rnd s = s := by unfold rnd; split <;> omega
theorem rnd_b (s : Int) : 0 ≤ rnd s ∧ rnd s ≤ 65535 := by unfold rnd; split <;> omega
theorem rnd_fold (s : Int) (h : 65535 < s) : rnd (s / 65536 + s % 65536) = rnd s := by unfold rnd; split <;> split <;> omega
theorem rnd_add (a b : Int) (_ : 0 ≤ a) (b0 : 0 ≤ b) (b1 : b ≤ 65535) : (if 65535 < rnd a + b then rnd a + b - 65535 else rnd a + b) = rnd (a + b) := by
  unfold rnd; split <;> split <;> split <;> omega
theorem rnd_mod (a : Int) (_ : 0 ≤ a) : rnd a % 65535 = a % 65535 := by unfold rnd; split <;> omega
theorem rnd_full (a : Int) (h0 : 0 < a) : rnd (a + (65535 - rnd a)) = 65535 := by
  have h := rnd_b a
  have hm := rnd_mod a (by omega)
  generalize rnd a = r at *
  unfold rnd; split <;> omega
theorem rnd_zero (a : Int) (_ : 0 ≤ a) (h : rnd a = 0) : a = 0 := by unfold rnd at h; split at h <;> omega

def wAt (zs : List Int) (k : Nat) : Int := if k % 2 = 0 then 256 * zs.getD k 0 else zs.getD k 0
def wTo (zs : List Int) : Nat → Int
  | 0 => 0
  | k + 1 => wTo zs k + wAt zs k
theorem getD_of {zs : List Int} {k : Nat} {z : Int} (h : zs[k]? = some z) : zs.getD k 0 = z := by simp [List.getD, h]
theorem u8_getD {zs : List Int} (h : U8s zs) (k : Nat) : 0 ≤ zs.getD k 0 ∧ zs.getD k 0 ≤ 255 := by
  rcases hk : zs[k]? with _ | z
  · simp [List.getD, hk]
  · rw [getD_of hk]; exact h z (List.mem_of_getElem? hk)
theorem wTo_b {zs : List Int} (h : U8s zs) (k : Nat) : 0 ≤ wTo zs k ∧ wTo zs k ≤ 65280 * (k : Int) := by
  induction k with
  | zero => simp [wTo]
  | succ k ih =>
    have := u8_getD h k
    simp only [wTo, wAt]
    split <;> omega
theorem wTo_even (zs : List Int) (k : Nat) (z : Int) (he : k % 2 = 0) (h : zs[k]? = some z) : wTo zs (k + 1) = wTo zs k + 256 * z := by
  simp only [wTo, wAt]; rw [if_pos he, getD_of h]
theorem wTo_odd (zs : List Int) (k : Nat) (z : Int) (he : k % 2 = 1) (h : zs[k]? = some z) : wTo zs (k + 1) = wTo zs k + z := by
  simp only [wTo, wAt]; rw [if_neg (by omega), getD_of h]
theorem wTo_app (xs ys : List Int) (k : Nat) (h : k ≤ xs.length) : wTo (xs ++ ys) k = wTo xs k := by
  induction k with
  | zero => rfl
  | succ k ih =>
    simp only [wTo]
    rw [ih (by omega)]
    congr 1
    unfold wAt List.getD
    rw [List.getElem?_append_left (by omega)]
/-- The words of all bytes. -/
def wAll (zs : List Int) : Int := wTo zs zs.length
theorem wAll_nil : wAll [] = 0 := rfl
theorem wAll_two (xs : List Int) (a b : Int) (h : xs.length % 2 = 0) : wAll (xs ++ [a, b]) = wAll xs + 256 * a + b := by
  unfold wAll
  rw [show (xs ++ [a, b]).length = xs.length + 1 + 1 by simp, wTo_odd _ (xs.length + 1) b (by omega) (by rw [List.getElem?_append_right (by omega)]; simp), wTo_even _ _ a h (by simp), wTo_app xs _ _ (by omega)]
theorem wAll_one (xs : List Int) (a : Int) (h : xs.length % 2 = 0) : wAll (xs ++ [a]) = wAll xs + 256 * a := by
  unfold wAll
  rw [show (xs ++ [a]).length = xs.length + 1 by simp, wTo_even _ _ a h (by simp), wTo_app xs _ _ (by omega)]
theorem wAll_pad (xs : List Int) (h : xs.length % 2 = 1) : wAll (xs ++ [0]) = wAll xs := by
  unfold wAll
  rw [show (xs ++ [(0 : Int)]).length = xs.length + 1 by simp, wTo_odd _ _ 0 h (by simp), wTo_app xs _ _ (by omega)]; omega
theorem wAll_b {zs : List Int} {n : Nat} (h : U8s zs) (hn : zs.length ≤ n) : 0 ≤ wAll zs ∧ wAll zs ≤ 65280 * (n : Int) := by
  have := wTo_b h zs.length
  unfold wAll; omega
theorem wTo_turned (zs : List Int) (a b h l : Int) (ha : zs[0]? = some a) (hb : zs[1]? = some b) (k : Nat) : wTo ((zs.set 0 h).set 1 l) (k + 2) = wTo zs (k + 2) - (256 * a + b) + (256 * h + l) := by
  have l0 : 1 < zs.length := (List.getElem?_eq_some_iff.1 hb).1
  induction k with
  | zero =>
    rw [wTo_odd _ 1 l (by omega) (by rw [List.getElem?_set_self (by simp; omega)]), wTo_even _ 0 h (by omega) (by rw [List.getElem?_set_ne (by omega), List.getElem?_set_self (by omega)]), wTo_odd zs 1 b (by omega) hb, wTo_even zs 0 a (by omega) ha]
    simp only [wTo]; omega
  | succ k ih =>
    rw [show k + 1 + 2 = (k + 2) + 1 by omega]
    simp only [wTo] at ih ⊢
    rw [ih]
    have : wAt ((zs.set 0 h).set 1 l) (k + 2) = wAt zs (k + 2) := by
      unfold wAt List.getD
      rw [List.getElem?_set_ne (by omega), List.getElem?_set_ne (by omega)]
    rw [this]; omega
theorem wAll_turned (zs : List Int) (a b h l : Int) (ha : zs[0]? = some a) (hb : zs[1]? = some b) : wAll ((zs.set 0 h).set 1 l) = wAll zs - (256 * a + b) + (256 * h + l) := by
  have l0 : 1 < zs.length := (List.getElem?_eq_some_iff.1 hb).1
  obtain ⟨k, hk⟩ : ∃ k, zs.length = k + 2 := ⟨zs.length - 2, by omega⟩
  unfold wAll
  rw [List.length_set, List.length_set, hk]
  exact wTo_turned zs a b h l ha hb k

def sumOf (zs : List Int) : Int := if zs.length ≤ 600 then 65535 - rnd (wAll zs) else -1
theorem sumOf_yes {zs : List Int} (h : zs.length ≤ 600) : sumOf zs = 65535 - rnd (wAll zs) := if_pos h
theorem sumOf_no {zs : List Int} (h : ¬ zs.length ≤ 600) : sumOf zs = -1 := if_neg h
theorem sumOf_b (zs : List Int) : -1 ≤ sumOf zs ∧ sumOf zs ≤ 65535 := by
  have := rnd_b (wAll zs)
  unfold sumOf; split <;> omega
def sumRight (zs : List Int) : Bool := sumOf zs == 0
def sumTurned (s o n : Int) : Int := if (0 ≤ s ∧ s ≤ 65535) ∧ (0 ≤ o ∧ o ≤ 65535) ∧ (0 ≤ n ∧ n ≤ 65535) then 65535 - rnd (65535 - s + (65535 - o) + n) else -1
theorem sumTurned_b (s o n : Int) : -1 ≤ sumTurned s o n ∧ sumTurned s o n ≤ 65535 := by
  have := rnd_b (65535 - s + (65535 - o) + n)
  unfold sumTurned; split <;> omega
/-- The sum turned is the sum of the turned words, but for the two sums that are nothing. -/
theorem turned_mod (A was new : Int) (hA : was ≤ A) (w0 : 0 ≤ was) (w1 : was ≤ 65535) (n0 : 0 ≤ new) (n1 : new ≤ 65535) : sumTurned (65535 - rnd A) was new % 65535 = (65535 - rnd (A - was + new)) % 65535 := by
  have h1 := rnd_b A
  have h2 := rnd_mod A (by omega)
  have h3 := rnd_mod (A - was + new) (by omega)
  have h4 := rnd_mod (65535 - (65535 - rnd A) + (65535 - was) + new) (by omega)
  unfold sumTurned
  rw [if_pos ⟨by omega, by omega, by omega⟩]
  omega
end Go.Proofs.Ytpbiomlohgcjdaa
