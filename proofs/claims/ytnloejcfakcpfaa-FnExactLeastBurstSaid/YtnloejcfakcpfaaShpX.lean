/-
  The laws' own words for bools, marked and held: what is proved here is which marks are left, and that they are found again. Condition: lengths up to 2^24.
-/
import Derived.Test.YtnloejcfakcpfaaBools
import Derived.Test.YtnloejcfakcpfaaWnInts
namespace Go.Proofs.Ytnloejcfakcpfaa
open Go.RowKit

def marksB (K n : Nat) : List Bool := (List.range n).map fun i => decide ((K + i) % 3 = 0)
theorem marksB_length (K n : Nat) : (marksB K n).length = n := by simp [marksB]
theorem marksB_at (K n i : Nat) (h : i < n) : (marksB K n)[i]? = some (decide ((K + i) % 3 = 0)) := by simp [marksB, h]
theorem set_dropB (ms zs : List Bool) (k n : Nat) (hm : ms.length = n) (hz : zs.length = n) (h : k < n) (m : Bool) (hx : ms[k]? = some m) : (ms.take k ++ zs.drop k).set k m = ms.take (k + 1) ++ zs.drop (k + 1) := by
  apply List.ext_getElem?
  intro i
  have hl : (ms.take k).length = k := by simp; omega
  have hl2 : (ms.take (k + 1)).length = k + 1 := by simp; omega
  by_cases hik : i < k
  · rw [List.getElem?_set_ne (by omega), List.getElem?_append_left (by omega), List.getElem?_append_left (by omega), List.getElem?_take_of_lt hik, List.getElem?_take_of_lt (by omega)]
  · by_cases he : i = k
    · subst he
      rw [List.getElem?_set_self (by simp; omega), List.getElem?_append_left (by omega), List.getElem?_take_of_lt (by omega), hx]
    · rw [List.getElem?_set_ne (by omega), List.getElem?_append_right (by omega), List.getElem?_append_right (by omega), hl, hl2, List.getElem?_drop, List.getElem?_drop]
      congr 1; omega
set_option maxHeartbeats 1000000 in
theorem markBoolS_ex {A : Option Addr} {n c lo K : Nat} {e0 : TypeId} {us : List Bool} {w : World} (h : Own w lo e0 A n c (bools us)) (hn : n ≤ 16777216) (hK : K ≤ 1099511627776) :
    Calls Try.prog 40 #[.slice A n c, .int .i64 K] w fun e w' => e = .returned (.int .i64 ((K + n : Nat) : Int)) ∧ Own w' lo e0 A n c (bools (marksB K n)) ∧ w.grownBy w' (A.map (·.block)) := by
  have hl := has_bools_len h.has
  have HL := Lib.hid hl
  clear hl
  go_enter Try.func40, Try.ntmps40
  go_wp2
  go_loopw [1, 5] (fun q i wr => ∃ (k : Nat), k ≤ n ∧ i = .int .i64 k ∧ q = .int .i64 ((K + k : Nat) : Int) ∧ Own wr lo e0 A n c (bools ((marksB K n).take k ++ us.drop k)) ∧ w.grownBy wr (A.map (·.block))) (fun _ i _ => n - (intOf i).toNat)
  case atStart => exact ⟨0, Nat.zero_le _, rfl, rfl, by simpa using h, World.grownBy.refl _ _⟩
  case round =>
    obtain ⟨k, hk, rfl, rfl, hown, hg⟩ := hrel
    by_cases hlt : k < n
    · obtain ⟨g, hA, _⟩ := own_bool h hlt
      subst hA
      obtain ⟨u, hu, hd, hf⟩ := hown.at_ hlt
      clear hu
      have hO := fun b : Bool => hown.set_ k (.bool b)
      have hG := fun v : Value => grown_set hg k v
      have HS := Lib.hid (set_dropB (marksB K n) us k n (marksB_length K n) HL.out hlt _ (marksB_at K n k hlt))
      obtain ⟨r, hr⟩ : ∃ r, (K + k) % 3 = r := ⟨_, rfl⟩
      rw [hr] at HS
      by_cases h3 : r = 0
      · have r0 : ((((K : Int) + (k : Int)) % 3) == 0) = true := by simp; omega
        have r1 : ((((K : Int) + (k : Int)).tmod 3) == 0) = true := by rw [Int.tmod_eq_emod_of_nonneg (by omega)]; exact r0
        have r2 : ((((K + k : Nat) : Int).tmod 3) == 0) = true := by rw [Int.tmod_eq_emod_of_nonneg (by omega)]; simp; omega
        rw [decide_eq_true h3] at HS
        clear hr h3
        go_wp2
        go_roundw
        case rel => exact ⟨k + 1, by omega, by go_num, by go_num, by rw [← HS.out, ← bools_set]; exact hO true, hG _⟩
        case measure => simp [intOf]; omega
      · have r0 : ((((K : Int) + (k : Int)) % 3) == 0) = false := by simp; omega
        have r1 : ((((K : Int) + (k : Int)).tmod 3) == 0) = false := by rw [Int.tmod_eq_emod_of_nonneg (by omega)]; exact r0
        have r2 : ((((K + k : Nat) : Int).tmod 3) == 0) = false := by rw [Int.tmod_eq_emod_of_nonneg (by omega)]; simp; omega
        rw [decide_eq_false h3] at HS
        clear hr h3
        go_wp2
        go_roundw
        case rel => exact ⟨k + 1, by omega, by go_num, by go_num, by rw [← HS.out, ← bools_set]; exact hO false, hG _⟩
        case measure => simp [intOf]; omega
    · obtain rfl : k = n := by omega
      go_wp2
      go_ret
      exact ⟨rfl, by rw [List.take_of_length_le (by rw [marksB_length]; omega), List.drop_of_length_le (by rw [HL.out]; omega), List.append_nil] at hown; exact hown, hg⟩
set_option maxHeartbeats 1000000 in
theorem heldBoolS_any {A : Option Addr} {n c K : Nat} {w : World} (h : Has w A n (bools (marksB K n))) (hn : n ≤ 16777216) (hK : K ≤ 1099511627776) :
    Calls Try.prog 41 #[.slice A n c, .int .i64 K] w fun e w' => e = .returned (.int .i64 ((K + n : Nat) : Int)) ∧ w = w' := by
  go_enter Try.func41, Try.ntmps41
  go_wp2
  go_loop [1, 5] (fun q i => ∃ k : Nat, k ≤ n ∧ i = .int .i64 k ∧ q = .int .i64 ((K + k : Nat) : Int)) (fun _ i => n - (intOf i).toNat)
  case atStart => exact ⟨0, Nat.zero_le _, rfl, rfl⟩
  case round =>
    obtain ⟨k, hk, rfl, rfl⟩ := hrel
    by_cases hlt : k < n
    · obtain ⟨b, o, rfl, hbl, hc⟩ := has_bool h hlt
      have hx : (marksB K n).getD k false = decide ((K + k) % 3 = 0) := by rw [List.getD_eq_getElem?_getD, marksB_at K n k hlt]; rfl
      rw [hx] at hc
      clear hx
      obtain ⟨r, hr⟩ : ∃ r, (K + k) % 3 = r := ⟨_, rfl⟩
      rw [hr] at hc
      by_cases h3 : r = 0
      · have r0 : ((((K : Int) + (k : Int)) % 3) == 0) = true := by simp; omega
        have r1 : ((((K : Int) + (k : Int)).tmod 3) == 0) = true := by rw [Int.tmod_eq_emod_of_nonneg (by omega)]; exact r0
        have r2 : ((((K + k : Nat) : Int).tmod 3) == 0) = true := by rw [Int.tmod_eq_emod_of_nonneg (by omega)]; simp; omega
        rw [decide_eq_true h3] at hc
        clear hr h3
        go_wp2
        go_round
        case rel => exact ⟨k + 1, by omega, by go_num, by go_num⟩
        case measure => simp [intOf]; omega
      · have r0 : ((((K : Int) + (k : Int)) % 3) == 0) = false := by simp; omega
        have r1 : ((((K : Int) + (k : Int)).tmod 3) == 0) = false := by rw [Int.tmod_eq_emod_of_nonneg (by omega)]; exact r0
        have r2 : ((((K + k : Nat) : Int).tmod 3) == 0) = false := by rw [Int.tmod_eq_emod_of_nonneg (by omega)]; simp; omega
        rw [decide_eq_false h3] at hc
        clear hr h3
        go_wp2
        go_round
        case rel => exact ⟨k + 1, by omega, by go_num, by go_num⟩
        case measure => simp [intOf]; omega
    · obtain rfl : k = n := by omega
      go_wp2
      go_ret
      exact ⟨rfl, rfl⟩
end Go.Proofs.Ytnloejcfakcpfaa
