/-
  Distance of the program and of its model: what is proved here is how many bits differ. Condition: lengths up to 2^24.
-/
import Derived.Test.YtafplpechpoliaaPar
namespace Go.Proofs.Ytafplpechpoliaa
open Go.RowKit

/-- How many places of two lists beside each other differ. -/
def diffs (l : List (Int × Int)) : Int := (l.map fun p => if p.1 = p.2 then (0 : Int) else 1).sum
def distOf (xs ys : List Int) : Int := if xs.length ≤ 600 ∧ xs.length = ys.length then diffs ((bitsFlat xs).zip (bitsFlat ys)) else -1

theorem diffs_app (a b : List (Int × Int)) : diffs (a ++ b) = diffs a + diffs b := by simp [diffs]
theorem diffs_one (p : Int × Int) : diffs [p] = if p.1 = p.2 then (0 : Int) else 1 := by simp [diffs]
theorem diffs_bound (l : List (Int × Int)) : 0 ≤ diffs l ∧ diffs l ≤ l.length := by
  have h := sum01 (l.map fun p => if p.1 = p.2 then (0 : Int) else 1) (fun b hb => by
    simp only [List.mem_map] at hb
    obtain ⟨p, _, rfl⟩ := hb
    split <;> simp)
  rw [List.length_map] at h
  exact h
theorem diffs_snoc (l : List (Int × Int)) (k : Nat) (p : Int × Int) (h : l[k]? = some p) : diffs (l.take (k + 1)) = diffs (l.take k) + if p.1 = p.2 then (0 : Int) else 1 := by
  rw [List.take_add_one, h, diffs_app]; simp [diffs]

theorem xor8_nat (a b : Nat) (ha : a < 256) (hb : b < 256) : xor8 (a : Int) (b : Int) = ((a ^^^ b : Nat) : Int) := u8_xor_nat a b ha hb
theorem bitAt_nat (a i : Nat) : bitAt (a : Int) i = if a.testBit (7 - i) then 1 else 0 := by
  unfold bitAt
  rw [Nat.testBit_eq_decide_div_mod_eq, show ((a : Int) / 2 ^ (7 - i) % 2) = ((a / 2 ^ (7 - i) % 2 : Nat) : Int) by simp]
  by_cases h : a / 2 ^ (7 - i) % 2 = 1
  · simp [h]
  · have : a / 2 ^ (7 - i) % 2 = 0 := by omega
    simp [this]
theorem bitAt_xor (x y : Int) (i : Nat) (hx : 0 ≤ x ∧ x ≤ 255) (hy : 0 ≤ y ∧ y ≤ 255) : bitAt (xor8 x y) i = if bitAt x i = bitAt y i then 0 else 1 := by
  obtain ⟨a, rfl⟩ := Int.eq_ofNat_of_zero_le hx.1
  obtain ⟨b, rfl⟩ := Int.eq_ofNat_of_zero_le hy.1
  rw [xor8_nat a b (by omega) (by omega), bitAt_nat, bitAt_nat, bitAt_nat, Nat.testBit_xor]
  cases a.testBit (7 - i) <;> cases b.testBit (7 - i) <;> simp
theorem xor8_bound (x y : Int) (hx : 0 ≤ x ∧ x ≤ 255) (hy : 0 ≤ y ∧ y ≤ 255) : 0 ≤ xor8 x y ∧ xor8 x y ≤ 255 := by
  obtain ⟨a, rfl⟩ := Int.eq_ofNat_of_zero_le hx.1
  obtain ⟨b, rfl⟩ := Int.eq_ofNat_of_zero_le hy.1
  have h : a ^^^ b < 2 ^ 8 := Nat.xor_lt_two_pow (by omega) (by omega)
  rw [xor8_nat a b (by omega) (by omega)]
  omega
theorem ones8_xor (x y : Int) (hx : 0 ≤ x ∧ x ≤ 255) (hy : 0 ≤ y ∧ y ≤ 255) : ones8 (xor8 x y) = diffs ((bits8 x).zip (bits8 y)) := by
  unfold ones8 diffs
  rw [show (bits8 x).zip (bits8 y) = (List.range 8).map (fun i => (bitAt x i, bitAt y i)) by simp [bits8, List.zip_map']]
  rw [List.map_map]
  congr 1
  unfold bits8
  apply List.map_congr_left
  intro i _
  rw [bitAt_xor x y i hx hy]
  rfl
theorem zipFlat_snoc (xs ys : List Int) (k : Nat) (x y : Int) (hx : xs[k]? = some x) (hy : ys[k]? = some y) :
    (bitsFlat (xs.take (k + 1))).zip (bitsFlat (ys.take (k + 1))) = (bitsFlat (xs.take k)).zip (bitsFlat (ys.take k)) ++ (bits8 x).zip (bits8 y) := by
  have h1 := (List.getElem?_eq_some_iff.1 hx).1
  have h2 := (List.getElem?_eq_some_iff.1 hy).1
  rw [bitsFlat_snoc xs k x hx, bitsFlat_snoc ys k y hy, List.zip_append (by rw [bitsFlat_length, bitsFlat_length, take_len _ _ (by omega), take_len _ _ (by omega)])]

set_option maxHeartbeats 1000000 in
theorem implDistance_any {A A' : Option Addr} {n c n' c' : Nat} {xs ys : List Int} {w : World} (h : Has w A n (ints .u8 xs)) (hu : U8s xs) (hn : n ≤ 16777216) (h' : Has w A' n' (ints .u8 ys)) (hu' : U8s ys) (hn' : n' ≤ 16777216) :
    Calls Try.prog 27 #[.slice A n c, .slice A' n' c'] w fun e w' => e = .returned (.int .i64 (distOf xs ys)) ∧ Below w.heap.size w w' := by
  have HL := Lib.hid h.len
  have HL' := Lib.hid h'.len
  by_cases hd : n ≤ 600
  · have hdd : decide (n ≤ 600) = true := by simp [hd]
    by_cases he : n = n'
    · subst he
      go_enter Try.func27, Try.ntmps27
      go_wp2_with (go_at_call 62; refine (isData_any _ _ _ _ (by omega)).mono ?_; rw [hdd]; rintro e w' ⟨rfl, rfl⟩)
      go_loop [5, 25] (fun v i => ∃ k : Nat, k ≤ n ∧ i = .int .i64 k ∧ v = .int .i64 (diffs ((bitsFlat (xs.take k)).zip (bitsFlat (ys.take k))))) (fun _ i => n - (intOf i).toNat)
      case atStart => exact ⟨0, Nat.zero_le _, rfl, rfl⟩
      case round =>
        obtain ⟨k, hk, rfl, rfl⟩ := hrel
        have hob := diffs_bound ((bitsFlat (xs.take k)).zip (bitsFlat (ys.take k)))
        have hol : ((bitsFlat (xs.take k)).zip (bitsFlat (ys.take k))).length ≤ 8 * k := by
          rw [List.length_zip, bitsFlat_length]
          have : (xs.take k).length ≤ k := List.length_take_le _ _
          omega
        obtain ⟨hob0, hob1⟩ := hob
        have hob2 : diffs ((bitsFlat (xs.take k)).zip (bitsFlat (ys.take k))) ≤ 4800 := by omega
        clear hob1 hol
        by_cases hlt : k < n
        · obtain ⟨b, o, x, rfl, hbl, hx, hc⟩ := h.at_ hlt
          obtain ⟨b', o', y, rfl, hbl', hy, hc'⟩ := h'.at_ hlt
          have ux := hu x (List.mem_of_getElem? hx)
          have uy := hu' y (List.mem_of_getElem? hy)
          have hs : diffs ((bitsFlat (xs.take (k + 1))).zip (bitsFlat (ys.take (k + 1)))) = diffs ((bitsFlat (xs.take k)).zip (bitsFlat (ys.take k))) + ones8 (xor8 x y) := by
            rw [zipFlat_snoc xs ys k x y hx hy, diffs_app, ones8_xor x y ux uy]
          obtain ⟨xb0, xb1⟩ := xor8_bound x y ux uy
          obtain ⟨q0, q1⟩ := ones8_bound (xor8 x y)
          have HS := Lib.hid hs
          have HO := Lib.hid (onesCount8_any (xor8 x y) w xb0 xb1)
          clear hs hx hy
          obtain ⟨ux0, ux1⟩ := ux
          obtain ⟨uy0, uy1⟩ := uy
          generalize hg : diffs ((bitsFlat (xs.take k)).zip (bitsFlat (ys.take k))) = p at *
          generalize hg2 : ones8 (xor8 x y) = q at *
          go_wp2_with (go_at_call 66; refine (HO.out).mono ?_; rintro e w' ⟨rfl, rfl⟩)
          go_round
          case rel => exact ⟨k + 1, by omega, by go_num, by rw [HS.out]⟩
          case measure => simp [intOf]; omega
        · obtain rfl : k = n := by omega
          go_wp2
          go_ret
          exact ⟨ret_int (by unfold distOf; rw [if_pos ⟨by rw [HL.out]; omega, by rw [HL.out, HL'.out]⟩, List.take_of_length_le (by rw [HL.out]; omega), List.take_of_length_le (by rw [HL'.out]; omega)]), Below.refl _ _⟩
    · have hne : ((n : Int) == (n' : Int)) = false := by simp; omega
      have hno : distOf xs ys = -1 := by unfold distOf; rw [if_neg (by rw [HL.out, HL'.out]; omega)]
      rw [hno]
      clear hno
      by_cases hd' : n' ≤ 600
      · have hdd' : decide (n' ≤ 600) = true := by simp [hd']
        go_enter Try.func27, Try.ntmps27
        go_wp2_with (go_at_call 62; refine (isData_any _ _ _ _ (by omega)).mono ?_; rintro e w' ⟨rfl, rfl⟩)
        go_ret
        exact ⟨rfl, Below.refl _ _⟩
      · have hdd' : decide (n' ≤ 600) = false := by simp [hd']
        go_enter Try.func27, Try.ntmps27
        go_wp2_with (go_at_call 62; refine (isData_any _ _ _ _ (by omega)).mono ?_; rintro e w' ⟨rfl, rfl⟩)
        go_ret
        exact ⟨rfl, Below.refl _ _⟩
  · have hdd : decide (n ≤ 600) = false := by simp [hd]
    have hno : distOf xs ys = -1 := by unfold distOf; rw [if_neg (by rw [HL.out]; omega)]
    rw [hno]
    clear hno
    go_enter Try.func27, Try.ntmps27
    go_wp2_with (go_at_call 62; refine (isData_any _ _ _ _ (by omega)).mono ?_; rintro e w' ⟨rfl, rfl⟩)
    go_ret
    exact ⟨rfl, Below.refl _ _⟩

theorem pow8_bound (m : Nat) (h : m ≤ 7) : 0 ≤ (2 : Int) ^ m ∧ (2 : Int) ^ m ≤ 255 := by
  have h1 : ∀ k : Fin 8, 0 ≤ (2 : Int) ^ k.val ∧ (2 : Int) ^ k.val ≤ 255 := by decide
  exact h1 ⟨m, by omega⟩
theorem flip_u8s {zs : List Int} {z : Int} {i : Nat} (h : U8s zs) (hx : zs[i / 8]? = some z) : U8s (zs.set (i / 8) (xor8 z (2 ^ (7 - i % 8)))) :=
  h.set_ (xor8_bound _ _ (h z (List.mem_of_getElem? hx)) (pow8_bound _ (by omega)))
end Go.Proofs.Ytafplpechpoliaa
