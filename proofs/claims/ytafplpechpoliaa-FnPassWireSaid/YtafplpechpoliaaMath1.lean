/-
  Chapter 1's plain mathematics: bits and bytes are each other's inverse, a flipped bit flips the parity, and the distance is one. No condition but that bytes are bytes.
-/
import Derived.Test.YtafplpechpoliaaDist
namespace Go.Proofs.Ytafplpechpoliaa
open Go.RowKit

theorem val_bits8 (z : Int) (h : 0 ≤ z ∧ z ≤ 255) : val (bits8 z) = z := by
  have h1 : ∀ n : Fin 256, val (bits8 (n.val : Int)) = (n.val : Int) := by decide +kernel
  have h2 := h1 ⟨z.toNat, by omega⟩
  rwa [show ((z.toNat : Nat) : Int) = z by omega] at h2
theorem flat_chunk (zs : List Int) (i : Nat) (z : Int) (h : zs[i]? = some z) : ((bitsFlat zs).drop (8 * i)).take 8 = bits8 z := by
  induction zs generalizing i with
  | nil => simp at h
  | cons x zs ih =>
    rw [show bitsFlat (x :: zs) = bits8 x ++ bitsFlat zs by simp [bitsFlat]]
    cases i with
    | zero =>
      obtain rfl : x = z := by simpa using h
      rw [Nat.mul_zero, List.drop_zero, List.take_append_of_le_length (by rw [bits8_length]; omega), bits8_all]
    | succ i =>
      rw [List.getElem?_cons_succ] at h
      rw [List.drop_append, List.drop_of_length_le (by rw [bits8_length]; omega), List.nil_append, bits8_length, show 8 * (i + 1) - 8 = 8 * i by omega]
      exact ih i h
theorem good_flat (zs : List Int) (h : zs.length ≤ 600) : GoodBits (bitsFlat zs) :=
  ⟨by rw [bitsFlat_length]; omega, by rw [bitsFlat_length]; omega, bitsFlat01 zs⟩
theorem bytes_back (zs : List Int) (h : zs.length ≤ 600) (hu : U8s zs) : bytesOf (bitsFlat zs) = zs := by
  unfold bytesOf
  rw [if_pos (good_flat zs h)]
  apply List.ext_getElem?
  intro i
  rw [bitsFlat_length, show 8 * zs.length / 8 = zs.length by omega]
  by_cases hi : i < zs.length
  · have hz : zs[i]? = some zs[i] := List.getElem?_eq_getElem hi
    have ht : (bitsFlat zs).take (8 * zs.length) = bitsFlat zs := List.take_of_length_le (by rw [bitsFlat_length]; omega)
    rw [packTo_at _ _ _ _ hi, ht, flat_chunk zs i _ hz, val_bits8 _ (hu _ (List.getElem_mem hi)), hz]
  · rw [List.getElem?_eq_none (by rw [packTo_length]; omega), List.getElem?_eq_none (by omega)]
theorem bits8_val (l : List Int) (hl : l.length = 8) (hb : AllBits l) : bits8 (val l) = l := by
  have h1 : ∀ a b c d e f g h : Fin 2, bits8 (val [(a.val : Int), b.val, c.val, d.val, e.val, f.val, g.val, h.val]) = [(a.val : Int), b.val, c.val, d.val, e.val, f.val, g.val, h.val] := by decide +kernel
  match l, hl with
  | [a, b, c, d, e, f, g, h], _ =>
    have q : ∀ x ∈ [a, b, c, d, e, f, g, h], ∃ n : Fin 2, x = (n.val : Int) := fun x hx => by
      rcases hb x hx with rfl | rfl
      · exact ⟨0, rfl⟩
      · exact ⟨1, rfl⟩
    obtain ⟨a, rfl⟩ := q a (by simp)
    obtain ⟨b, rfl⟩ := q b (by simp)
    obtain ⟨c, rfl⟩ := q c (by simp)
    obtain ⟨d, rfl⟩ := q d (by simp)
    obtain ⟨e, rfl⟩ := q e (by simp)
    obtain ⟨f, rfl⟩ := q f (by simp)
    obtain ⟨g, rfl⟩ := q g (by simp)
    obtain ⟨h, rfl⟩ := q h (by simp)
    exact h1 a b c d e f g h
theorem bits_back (xs : List Int) (hg : GoodBits xs) : bitsFlat (bytesOf xs) = xs := by
  obtain ⟨h8, _, hb⟩ := hg
  unfold bytesOf
  rw [if_pos ⟨h8, ‹_›, hb⟩]
  apply List.ext_getElem?
  intro k
  have hl : (packTo xs (xs.length / 8) xs.length).length = xs.length / 8 := packTo_length _ _ _
  by_cases hk : k < xs.length
  · have hp := packTo_at xs (xs.length / 8) xs.length (k / 8) (by omega)
    rw [bitsFlat_at _ k _ hp]
    have hc : (((xs.take xs.length).drop (8 * (k / 8))).take 8).length = 8 := by simp; omega
    have hv := bits8_val _ hc (chunk_bits xs hb _ _)
    have h9 := bits8_at (val (((xs.take xs.length).drop (8 * (k / 8))).take 8)) (k % 8) (by omega)
    rw [hv] at h9
    rw [← h9, List.getElem?_take, if_pos (by omega), List.getElem?_drop, List.getElem?_take, if_pos (by omega)]
    congr 1
    omega
  · rw [List.getElem?_eq_none (by rw [bitsFlat_length]; omega), List.getElem?_eq_none (by omega)]
theorem bytesOf_u8s (xs : List Int) : U8s (bytesOf xs) := by
  intro z hz
  unfold bytesOf at hz
  split at hz
  · rename_i hg
    simp only [packTo, List.mem_map] at hz
    obtain ⟨i, _, rfl⟩ := hz
    have h1 := val_bound _ (chunk_bits xs hg.2.2 xs.length i)
    have hl : (((xs.take xs.length).drop (8 * i)).take 8).length ≤ 8 := by simp; omega
    have h2 : (((2 : Nat) ^ (((xs.take xs.length).drop (8 * i)).take 8).length : Nat) : Int) ≤ ((2 ^ 8 : Nat) : Int) := Int.ofNat_le.2 (Nat.pow_le_pow_right (by omega) hl)
    rw [Int.natCast_pow] at h2
    have h3 := Int.lt_of_lt_of_le h1.2 h2
    exact ⟨h1.1, by omega⟩
  · cases hz

/-! ### Flips and distances -/
theorem map_sum_set (f : Int → Int) (l : List Int) (j : Nat) (z a : Int) (h : l[j]? = some z) : ((l.set j a).map f).sum = (l.map f).sum - f z + f a := by
  induction l generalizing j with
  | nil => simp at h
  | cons x l ih =>
    cases j with
    | zero =>
      obtain rfl : x = z := by simpa using h
      simp; omega
    | succ j =>
      rw [List.getElem?_cons_succ] at h
      simp only [List.set_cons_succ, List.map_cons, List.sum_cons, ih j h]; omega
theorem onesOf_map (zs : List Int) : onesOf zs = (zs.map ones8).sum := by
  unfold onesOf
  induction zs with
  | nil => rfl
  | cons z zs ih => rw [show bitsFlat (z :: zs) = bits8 z ++ bitsFlat zs by simp [bitsFlat], sum_app, ih]; simp [ones8]
theorem diffs_map (xs ys : List Int) (hl : xs.length = ys.length) (hx : U8s xs) (hy : U8s ys) : diffs ((bitsFlat xs).zip (bitsFlat ys)) = ((xs.zip ys).map fun p => ones8 (xor8 p.1 p.2)).sum := by
  induction xs generalizing ys with
  | nil => cases ys with
    | nil => rfl
    | cons y ys => simp at hl
  | cons x xs ih => cases ys with
    | nil => simp at hl
    | cons y ys =>
      rw [show bitsFlat (x :: xs) = bits8 x ++ bitsFlat xs by simp [bitsFlat], show bitsFlat (y :: ys) = bits8 y ++ bitsFlat ys by simp [bitsFlat], List.zip_append (by rw [bits8_length, bits8_length]), diffs_app,
        ← ones8_xor x y (hx x (by simp)) (hy y (by simp)), ih ys (by simpa using hl) (fun z hz => hx z (by simp [hz])) (fun z hz => hy z (by simp [hz]))]
      simp
theorem xor8_self (z : Int) (h : 0 ≤ z ∧ z ≤ 255) : xor8 z z = 0 := by
  obtain ⟨a, rfl⟩ := Int.eq_ofNat_of_zero_le h.1
  rw [xor8_nat a a (by omega) (by omega)]; simp
theorem flip_facts (z : Int) (m : Nat) (h : 0 ≤ z ∧ z ≤ 255) (hm : m ≤ 7) :
    xor8 (xor8 z (2 ^ m)) (2 ^ m) = z ∧ (ones8 (xor8 z (2 ^ m)) = ones8 z + 1 ∨ ones8 (xor8 z (2 ^ m)) = ones8 z - 1) ∧ ones8 (xor8 (xor8 z (2 ^ m)) z) = 1 := by
  have h1 : ∀ n : Fin 256, ∀ m : Fin 8, xor8 (xor8 (n.val : Int) (2 ^ m.val)) (2 ^ m.val) = (n.val : Int) ∧ (ones8 (xor8 (n.val : Int) (2 ^ m.val)) = ones8 (n.val : Int) + 1 ∨ ones8 (xor8 (n.val : Int) (2 ^ m.val)) = ones8 (n.val : Int) - 1) ∧ ones8 (xor8 (xor8 (n.val : Int) (2 ^ m.val)) (n.val : Int)) = 1 := by decide +kernel
  have h2 := h1 ⟨z.toNat, by omega⟩ ⟨m, by omega⟩
  rwa [show ((z.toNat : Nat) : Int) = z by omega] at h2
theorem zip_set_self (xs : List Int) (j : Nat) (z a : Int) (h : xs[j]? = some z) (hu : U8s xs) : (((xs.set j a).zip xs).map fun p => ones8 (xor8 p.1 p.2)).sum = ones8 (xor8 a z) := by
  have hz : ∀ l : List Int, U8s l → ((l.zip l).map fun p => ones8 (xor8 p.1 p.2)).sum = 0 := by
    intro l hl
    induction l with
    | nil => rfl
    | cons x l ih =>
      have h0 : ones8 0 = 0 := by decide
      simp [xor8_self x (hl x (by simp)), h0, ih (fun z hz => hl z (by simp [hz]))]
  induction xs generalizing j with
  | nil => simp at h
  | cons x xs ih =>
    cases j with
    | zero =>
      obtain rfl : x = z := by simpa using h
      simp [hz xs (fun y hy => hu y (by simp [hy]))]
    | succ j =>
      rw [List.getElem?_cons_succ] at h
      have h0 : ones8 0 = 0 := by decide
      simp [xor8_self x (hu x (by simp)), h0, ih j h (fun y hy => hu y (by simp [hy]))]

theorem flipBit_of (zs : List Int) (k : Nat) (z : Int) (hg : flipGood zs k) (hz : zs[k / 8]? = some z) : flipBit zs k = zs.set (k / 8) (xor8 z (2 ^ (7 - k % 8))) := by
  unfold flipBit; rw [if_pos hg]; simp [hz]
theorem flip_back (zs : List Int) (k : Nat) (hu : U8s zs) (hg : flipGood zs k) :
    (flipBit zs k).length = zs.length ∧ U8s (flipBit zs k) ∧ flipBit (flipBit zs k) k = zs ∧ flipOk (flipBit zs k) k = true ∧ parityOf (flipBit zs k) = 1 - parityOf zs ∧ distOf (flipBit zs k) zs = 1 := by
  obtain ⟨hl, _, hk⟩ := hg
  have hk' : k / 8 < zs.length := by omega
  have hz : zs[k / 8]? = some zs[k / 8] := List.getElem?_eq_getElem hk'
  generalize hzz : zs[k / 8] = z at hz
  have hzb : 0 ≤ z ∧ z ≤ 255 := hu z (List.mem_of_getElem? hz)
  obtain ⟨f1, f2, f3⟩ := flip_facts z (7 - k % 8) hzb (by omega)
  have hpw : 0 ≤ (2 : Int) ^ (7 - k % 8) ∧ (2 : Int) ^ (7 - k % 8) ≤ 255 := by
    have h1 : ∀ m : Fin 8, 0 ≤ (2 : Int) ^ m.val ∧ (2 : Int) ^ m.val ≤ 255 := by decide
    exact h1 ⟨7 - k % 8, by omega⟩
  have hfb := xor8_bound z _ hzb hpw
  have hf : flipBit zs k = zs.set (k / 8) (xor8 z (2 ^ (7 - k % 8))) := by
    unfold flipBit; rw [if_pos ⟨hl, by omega, hk⟩]; simp [hz]
  have hlen : (flipBit zs k).length = zs.length := by rw [hf]; simp
  have huf : U8s (flipBit zs k) := by
    intro y hy
    rw [hf] at hy
    rcases List.mem_or_eq_of_mem_set hy with hy | rfl
    · exact hu y hy
    · exact hfb
  have hgf : flipGood (flipBit zs k) k := ⟨by omega, by omega, by omega⟩
  have hfz : (flipBit zs k)[k / 8]? = some (xor8 z (2 ^ (7 - k % 8))) := by rw [hf, List.getElem?_set_self hk']
  refine ⟨hlen, huf, ?_, by simp [flipOk, hgf], ?_, ?_⟩
  · rw [flipBit_of (flipBit zs k) k _ hgf hfz, f1, hf, List.set_set]
    apply List.ext_getElem?
    intro i
    by_cases hi : i = k / 8
    · subst hi; rw [List.getElem?_set_self hk', hz]
    · rw [List.getElem?_set_ne (by omega)]
  · unfold parityOf
    rw [hlen, if_pos hl, if_pos hl, onesOf_map, onesOf_map, hf, map_sum_set ones8 zs (k / 8) z _ hz]
    rcases f2 with f2 | f2 <;> rw [f2] <;> omega
  · unfold distOf
    rw [if_pos ⟨by omega, hlen⟩, diffs_map _ _ hlen huf hu, hf, zip_set_self zs (k / 8) z _ hz hu, f3]

theorem diffs_sym (xs ys : List Int) : diffs (xs.zip ys) = diffs (ys.zip xs) := by
  induction xs generalizing ys with
  | nil => simp [diffs]
  | cons x xs ih => cases ys with
    | nil => simp [diffs]
    | cons y ys =>
      rw [List.zip_cons_cons, List.zip_cons_cons, show (x, y) :: xs.zip ys = [(x, y)] ++ xs.zip ys from rfl, show (y, x) :: ys.zip xs = [(y, x)] ++ ys.zip xs from rfl, diffs_app, diffs_app, ih, diffs_one, diffs_one]
      congr 1
      by_cases h : x = y
      · simp [h]
      · rw [if_neg h, if_neg (fun e => h e.symm)]
theorem diffs_zero (xs ys : List Int) (hl : xs.length = ys.length) (h : diffs (xs.zip ys) = 0) : xs = ys := by
  induction xs generalizing ys with
  | nil => cases ys with
    | nil => rfl
    | cons y ys => simp at hl
  | cons x xs ih => cases ys with
    | nil => simp at hl
    | cons y ys =>
      rw [List.zip_cons_cons, show (x, y) :: xs.zip ys = [(x, y)] ++ xs.zip ys from rfl, diffs_app, diffs_one] at h
      have h2 := (diffs_bound (xs.zip ys)).1
      by_cases hxy : x = y
      · rw [if_pos hxy] at h
        rw [hxy, ih ys (by simpa using hl) (by omega)]
      · rw [if_neg hxy] at h; omega
theorem diffs_self (xs : List Int) : diffs (xs.zip xs) = 0 := by
  induction xs with
  | nil => rfl
  | cons x xs ih => rw [List.zip_cons_cons, show (x, x) :: xs.zip xs = [(x, x)] ++ xs.zip xs from rfl, diffs_app, diffs_one, ih]; simp
theorem diffs_tri (xs ys zs : List Int) (h1 : xs.length = ys.length) (h2 : ys.length = zs.length) : diffs (xs.zip zs) ≤ diffs (xs.zip ys) + diffs (ys.zip zs) := by
  induction xs generalizing ys zs with
  | nil =>
    have := (diffs_bound (([] : List Int).zip ys)).1
    have := (diffs_bound (ys.zip zs)).1
    simp [diffs] at *; omega
  | cons x xs ih => cases ys with
    | nil => simp at h1
    | cons y ys => cases zs with
      | nil => simp at h2
      | cons z zs =>
        have h := ih ys zs (by simpa using h1) (by simpa using h2)
        rw [List.zip_cons_cons, List.zip_cons_cons, List.zip_cons_cons, show (x, z) :: xs.zip zs = [(x, z)] ++ xs.zip zs from rfl, show (x, y) :: xs.zip ys = [(x, y)] ++ xs.zip ys from rfl, show (y, z) :: ys.zip zs = [(y, z)] ++ ys.zip zs from rfl,
          diffs_app, diffs_app, diffs_app, diffs_one, diffs_one, diffs_one]
        by_cases a : x = y
        · subst a; simp only [if_true]; omega
        · by_cases b : y = z
          · subst b; simp only [if_neg a, if_true]; omega
          · simp only [if_neg a, if_neg b]; split <;> omega
theorem dist_sym (xs ys : List Int) : distOf ys xs = distOf xs ys := by
  unfold distOf
  by_cases h : xs.length ≤ 600 ∧ xs.length = ys.length
  · rw [if_pos h, if_pos ⟨by omega, by omega⟩, diffs_sym]
  · rw [if_neg h, if_neg (by omega)]
theorem dist_zero (xs ys : List Int) (hx : U8s xs) (hy : U8s ys) : distOf xs ys = 0 ↔ xs = ys ∧ xs.length ≤ 600 := by
  constructor
  · intro h
    unfold distOf at h
    split at h
    · rename_i hh
      have h2 := diffs_zero _ _ (by rw [bitsFlat_length, bitsFlat_length, hh.2]) h
      refine ⟨?_, hh.1⟩
      rw [← bytes_back xs hh.1 hx, h2, bytes_back ys (by omega) hy]
    · omega
  · rintro ⟨rfl, h⟩
    unfold distOf
    rw [if_pos ⟨h, rfl⟩, diffs_self]
theorem dist_tri (xs ys zs : List Int) (h0 : 0 ≤ distOf xs ys) (h1 : 0 ≤ distOf xs zs) (h2 : 0 ≤ distOf zs ys) : distOf xs ys ≤ distOf xs zs + distOf zs ys := by
  unfold distOf at *
  split at h0
  · split at h1
    · split at h2
      · rename_i a b c
        rw [if_pos a, if_pos b, if_pos c]
        exact diffs_tri _ _ _ (by rw [bitsFlat_length, bitsFlat_length, b.2]) (by rw [bitsFlat_length, bitsFlat_length, c.2])
      · omega
    · omega
  · omega
theorem dist_ge (xs ys : List Int) : -1 ≤ distOf xs ys ∧ distOf xs ys ≤ 4800 := by
  unfold distOf
  split
  · have h := diffs_bound ((bitsFlat xs).zip (bitsFlat ys))
    have hl : ((bitsFlat xs).zip (bitsFlat ys)).length ≤ 4800 := by rw [List.length_zip, bitsFlat_length]; omega
    omega
  · omega
theorem par_ge (xs : List Int) : -1 ≤ parityOf xs ∧ parityOf xs ≤ 1 := by
  unfold parityOf; split <;> omega
theorem str_inj (xs ys : List Int) (hx : U8s xs) (hy : U8s ys) (h : strOfNums xs = strOfNums ys) : xs = ys := by
  have h1 : (strOfNums xs).data.toList = (strOfNums ys).data.toList := by rw [h]
  rw [strOfNums_data, strOfNums_data] at h1
  clear h
  induction xs generalizing ys with
  | nil => cases ys with
    | nil => rfl
    | cons y ys => simp at h1
  | cons x xs ih => cases ys with
    | nil => simp at h1
    | cons y ys =>
      simp only [List.map_cons, List.cons.injEq] at h1
      have a := hx x (by simp)
      have b := hy y (by simp)
      have hxy : x.toNat = y.toNat := by
        have := congrArg UInt8.toNat h1.1
        simpa [UInt8.toNat_ofNat', Nat.mod_eq_of_lt (show x.toNat < 256 by omega), Nat.mod_eq_of_lt (show y.toNat < 256 by omega)] using this
      rw [show x = y by omega, ih ys (fun z hz => hx z (by simp [hz])) (fun z hz => hy z (by simp [hz])) h1.2]
end Go.Proofs.Ytafplpechpoliaa
