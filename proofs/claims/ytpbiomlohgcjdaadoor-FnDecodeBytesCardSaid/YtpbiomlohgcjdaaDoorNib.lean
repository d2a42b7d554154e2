/-
  The code of four bits in seven, of the program and of its model: what is proved here is what EncodeNibble and DecodeNibble return. Condition: the two tables hold what the program's text lays.
-/
import Derived.Test.YtpbiomlohgcjdaaDoorDist
import Derived.Lib.LaidTab
import Derived.LaidSub
namespace Go.Proofs.YtpbiomlohgcjdaaDoor
open Go.RowKit

def codes : List Int := [0, 105, 42, 67, 76, 37, 102, 15, 112, 25, 90, 51, 60, 85, 22, 127]
def ruleRow (k : Nat) : Int := if k = 0 then 85 else if k = 1 then 51 else 15
/-- The tables lie in the world as they were laid. -/
def CodesIn (w : World) : Prop := ∃ t fr, w.heap[0]? = some (.cells (ints .i64 codes).toArray t fr)
def RowsIn (w : World) : Prop := ∃ t fr, w.heap[1]? = some (.cells #[.int .i64 85, .int .i64 51, .int .i64 15] t fr)
theorem CodesIn.lt {w : World} (h : CodesIn w) : 0 < w.heap.size := by obtain ⟨_, _, h⟩ := h; exact (Array.getElem?_eq_some_iff.1 h).1
theorem RowsIn.lt {w : World} (h : RowsIn w) : 1 < w.heap.size := by obtain ⟨_, _, h⟩ := h; exact (Array.getElem?_eq_some_iff.1 h).1
theorem CodesIn.bel {w w' : World} (h : CodesIn w) (hb : Below w.heap.size w w') : CodesIn w' := by
  have hl := h.lt
  obtain ⟨t, fr, h⟩ := h
  exact ⟨t, fr, (hb.block _ hl).trans h⟩
theorem RowsIn.bel {w w' : World} (h : RowsIn w) (hb : Below w.heap.size w w') : RowsIn w' := by
  have hl := h.lt
  obtain ⟨t, fr, h⟩ := h
  exact ⟨t, fr, (hb.block _ hl).trans h⟩
theorem CodesIn.cell {w : World} (h : CodesIn w) (i : Nat) : w.cell? ⟨0, i, none⟩ = (ints .i64 codes)[i]? := by
  obtain ⟨t, fr, h⟩ := h
  rw [cell_of_row w _ i _ t fr h]; simp

def setAt (n q : Int) : Int := n / 2 ^ (7 - q).toNat % 2
def fault (n : Int) : Int := (setAt n 1 + setAt n 3 + setAt n 5 + setAt n 7) % 2 + 2 * ((setAt n 2 + setAt n 3 + setAt n 6 + setAt n 7) % 2) + 4 * ((setAt n 4 + setAt n 5 + setAt n 6 + setAt n 7) % 2)
def four (n : Int) : Int := 8 * setAt n 3 + 4 * setAt n 5 + 2 * setAt n 6 + setAt n 7
theorem setAt_b (n q : Int) : 0 ≤ setAt n q ∧ setAt n q ≤ 1 := by unfold setAt; omega
theorem fault_b (n : Int) : 0 ≤ fault n ∧ fault n ≤ 7 := by unfold fault; omega
theorem four_b (n : Int) : 0 ≤ four n ∧ four n ≤ 15 := by
  have h3 := setAt_b n 3; have h5 := setAt_b n 5; have h6 := setAt_b n 6; have h7 := setAt_b n 7
  unfold four; omega
def encN (n : Int) : Int := if 0 ≤ n ∧ n ≤ 15 then codes.getD n.toNat 0 else -1
def mend (n : Int) : Int := if 0 < fault n then bits .xor .i64 n (2 ^ (7 - fault n).toNat) else n
def decN (n : Int) : Int := if 0 ≤ n ∧ n ≤ 127 then four (mend n) else -1
def decAt (n : Int) : Int := if 0 ≤ n ∧ n ≤ 127 then fault n else -1
theorem mend_b (n : Int) (h0 : 0 ≤ n) (h1 : n ≤ 127) : 0 ≤ mend n ∧ mend n ≤ 127 := by
  have h : ∀ k : Fin 128, 0 ≤ mend (k.val : Int) ∧ mend (k.val : Int) ≤ 127 := by decide +kernel
  have h2 := h ⟨n.toNat, by omega⟩
  rwa [show ((n.toNat : Nat) : Int) = n by omega] at h2

theorem l1Set_any (n q : Int) (w : World) (h0 : 0 ≤ n) (_ : n ≤ 127) (q0 : 1 ≤ q) (q1 : q ≤ 7) : Calls Tryd.prog 27 #[.int .i64 n, .int .i64 q] w fun e w' => e = .returned (.int .i64 (setAt n q)) ∧ w = w' := by
  obtain ⟨j, rfl⟩ := Int.eq_ofNat_of_zero_le (show 0 ≤ q by omega)
  have hj : j ≤ 7 := by omega
  go_enter Tryd.func27, Tryd.ntmps27
  go_wp2
  go_ret
  refine ⟨ret_int ?_, rfl⟩
  rw [Int.tmod_eq_emod_of_nonneg (Int.ediv_nonneg h0 (Int.pow_nonneg (by omega)))]; unfold setAt; rw [show (7 - (j : Int)).toNat = 7 - j by omega]
set_option maxHeartbeats 1000000 in
theorem l1Fault_any (n : Int) (w : World) (h0 : 0 ≤ n) (h1 : n ≤ 127) : Calls Tryd.prog 25 #[.int .i64 n] w fun e w' => e = .returned (.int .i64 (fault n)) ∧ w = w' := by
  have a1 := (setAt_b n 1).1; have b1 := (setAt_b n 1).2
  have a2 := (setAt_b n 2).1; have b2 := (setAt_b n 2).2
  have a3 := (setAt_b n 3).1; have b3 := (setAt_b n 3).2
  have a4 := (setAt_b n 4).1; have b4 := (setAt_b n 4).2
  have a5 := (setAt_b n 5).1; have b5 := (setAt_b n 5).2
  have a6 := (setAt_b n 6).1; have b6 := (setAt_b n 6).2
  have a7 := (setAt_b n 7).1; have b7 := (setAt_b n 7).2
  go_enter Tryd.func25, Tryd.ntmps25
  go_wp2_with (go_at_call 27; refine (l1Set_any _ _ _ h0 h1 (by omega) (by omega)).mono ?_; rintro e w' ⟨rfl, rfl⟩)
  go_ret
  refine ⟨ret_int ?_, rfl⟩
  rfl
set_option maxHeartbeats 1000000 in
theorem l1Four_any (n : Int) (w : World) (h0 : 0 ≤ n) (h1 : n ≤ 127) : Calls Tryd.prog 26 #[.int .i64 n] w fun e w' => e = .returned (.int .i64 (four n)) ∧ w = w' := by
  have a3 := (setAt_b n 3).1; have b3 := (setAt_b n 3).2
  have a5 := (setAt_b n 5).1; have b5 := (setAt_b n 5).2
  have a6 := (setAt_b n 6).1; have b6 := (setAt_b n 6).2
  have a7 := (setAt_b n 7).1; have b7 := (setAt_b n 7).2
  go_enter Tryd.func26, Tryd.ntmps26
  go_wp2_with (go_at_call 27; refine (l1Set_any _ _ _ h0 h1 (by omega) (by omega)).mono ?_; rintro e w' ⟨rfl, rfl⟩)
  go_ret
  refine ⟨ret_int ?_, rfl⟩
  rfl

theorem implEncodeNibble_any {n : Int} {w : World} (hT : CodesIn w) (hb : -9223372036854775808 ≤ n ∧ n ≤ 9223372036854775807) : Calls Tryd.prog 17 #[.int .i64 n] w fun e w' => e = .returned (.int .i64 (encN n)) ∧ w = w' := by
  by_cases h0 : 0 ≤ n
  · by_cases h1 : n ≤ 15
    · obtain ⟨k, rfl⟩ := Int.eq_ofNat_of_zero_le h0
      have hk : k < 16 := by omega
      have hc := hT.cell k
      rw [ints_at .i64 codes k (by simp [codes]; omega)] at hc
      have he : encN (k : Int) = codes.getD k 0 := by unfold encN; rw [if_pos ⟨h0, h1⟩]; simp
      have HE := Lib.hid he
      clear he hb
      generalize codes.getD k 0 = z at *
      go_enter Tryd.func17, Tryd.ntmps17
      go_wp2
      go_ret
      exact ⟨ret_int HE.out.symm, rfl⟩
    · have he : encN n = -1 := by unfold encN; rw [if_neg (by omega)]
      rw [he]
      clear he
      go_enter Tryd.func17, Tryd.ntmps17
      go_wp2
      go_ret
      exact ⟨rfl, rfl⟩
  · have he : encN n = -1 := by unfold encN; rw [if_neg (by omega)]
    rw [he]
    clear he
    go_enter Tryd.func17, Tryd.ntmps17
    go_wp2
    go_ret
    exact ⟨rfl, rfl⟩

theorem enc_hit (c : Nat) (n : Int) (h : c < 128) (h0 : fault (c : Int) = 0) (h1 : four (c : Int) = n) : encN n = (c : Int) := by
  have q : ∀ c : Fin 128, fault (c.val : Int) = 0 → encN (four (c.val : Int)) = (c.val : Int) := by decide +kernel
  rw [← h1]; exact q ⟨c, h⟩ h0
theorem enc_miss (n : Int) (h : ∀ j : Nat, j < 128 → ¬ (fault (j : Int) = 0 ∧ four (j : Int) = n)) : encN n = -1 := by
  unfold encN
  split
  · rename_i hn
    have q : ∀ m : Fin 16, 0 ≤ codes.getD m.val 0 ∧ codes.getD m.val 0 < 128 ∧ fault (codes.getD m.val 0) = 0 ∧ four (codes.getD m.val 0) = (m.val : Int) := by decide +kernel
    obtain ⟨q0, q1, q2, q3⟩ := q ⟨n.toNat, by omega⟩
    simp only at q0 q1 q2 q3
    exfalso
    refine h (codes.getD n.toNat 0).toNat (by omega) ?_
    rw [Int.toNat_of_nonneg q0, q2, q3]
    exact ⟨rfl, by omega⟩
  · rfl

set_option maxHeartbeats 1000000 in
set_option maxRecDepth 100000 in
theorem specEncodeNibble_any {n : Int} {w : World} (_ : -9223372036854775808 ≤ n ∧ n ≤ 9223372036854775807) : Calls Tryd.prog 19 #[.int .i64 n] w fun e w' => e = .returned (.int .i64 (encN n)) ∧ w = w' := by
  go_enter Tryd.func19, Tryd.ntmps19
  go_wp2
  go_loop [3] (fun i => ∃ k : Nat, k ≤ 128 ∧ i = .int .i64 k ∧ Hid (∀ j : Nat, j < k → ¬ (fault (j : Int) = 0 ∧ four (j : Int) = n))) (fun i => 128 - (intOf i).toNat)
  case atStart => exact ⟨0, by omega, rfl, fun j hj => by omega⟩
  case round =>
    obtain ⟨k, hk, rfl, hno⟩ := hrel
    by_cases hlt : k < 128
    · by_cases h0 : fault (k : Int) = 0
      · have h0b : (fault (k : Int) == 0) = true := by simp [h0]
        by_cases h1 : four (k : Int) = n
        · have h1b : (four (k : Int) == n) = true := by simp [h1]
          have HE := Lib.hid (enc_hit k n hlt h0 h1)
          clear h0 h1
          go_wp2_with (first | (go_at_call 25; refine (l1Fault_any _ _ (by omega) (by omega)).mono ?_; rintro e w' ⟨rfl, rfl⟩) | (go_at_call 26; refine (l1Four_any _ _ (by omega) (by omega)).mono ?_; rintro e w' ⟨rfl, rfl⟩))
          go_ret
          exact ⟨ret_int HE.out.symm, rfl⟩
        · have h1b : (four (k : Int) == n) = false := by simp [h1]
          have HN : Hid (∀ j : Nat, j < k + 1 → ¬ (fault (j : Int) = 0 ∧ four (j : Int) = n)) := fun j hj => by
            by_cases e : j = k
            · subst e; exact fun h => h1 h.2
            · exact hno.out j (by omega)
          clear h0 h1
          go_wp2_with (first | (go_at_call 25; refine (l1Fault_any _ _ (by omega) (by omega)).mono ?_; rintro e w' ⟨rfl, rfl⟩) | (go_at_call 26; refine (l1Four_any _ _ (by omega) (by omega)).mono ?_; rintro e w' ⟨rfl, rfl⟩))
          go_round
          case rel => exact ⟨k + 1, by omega, by go_num, HN⟩
          case measure => simp [intOf]; omega
      · have h0b : (fault (k : Int) == 0) = false := by simp [h0]
        have HN : Hid (∀ j : Nat, j < k + 1 → ¬ (fault (j : Int) = 0 ∧ four (j : Int) = n)) := fun j hj => by
          by_cases e : j = k
          · subst e; exact fun h => h0 h.1
          · exact hno.out j (by omega)
        clear h0
        go_wp2_with (go_at_call 25; refine (l1Fault_any _ _ (by omega) (by omega)).mono ?_; rintro e w' ⟨rfl, rfl⟩)
        go_round
        case rel => exact ⟨k + 1, by omega, by go_num, HN⟩
        case measure => simp [intOf]; omega
    · obtain rfl : k = 128 := by omega
      have HE := Lib.hid (enc_miss n hno.out)
      go_wp2
      go_ret
      exact ⟨ret_int HE.out.symm, rfl⟩

theorem and_b (n r : Int) (hr : r = 85 ∨ r = 51 ∨ r = 15) (h0 : 0 ≤ n) (h1 : n ≤ 127) : 0 ≤ bits .and .i64 n r ∧ bits .and .i64 n r ≤ 127 := by
  have q : ∀ k : Fin 128, (0 ≤ bits .and .i64 (k.val : Int) 85 ∧ bits .and .i64 (k.val : Int) 85 ≤ 127) ∧ (0 ≤ bits .and .i64 (k.val : Int) 51 ∧ bits .and .i64 (k.val : Int) 51 ≤ 127) ∧ (0 ≤ bits .and .i64 (k.val : Int) 15 ∧ bits .and .i64 (k.val : Int) 15 ≤ 127) := by decide +kernel
  have h2 := q ⟨n.toNat, by omega⟩
  rw [show ((n.toNat : Nat) : Int) = n by omega] at h2
  rcases hr with rfl | rfl | rfl
  · exact h2.1
  · exact h2.2.1
  · exact h2.2.2
def atK (n : Int) : Nat → Int
  | 0 => 0
  | k + 1 => bits .or .i64 (atK n k) (ones8 (bits .and .i64 n (ruleRow k)) % 2 * 2 ^ k)
theorem atK_succ (n : Int) (k : Nat) : Hid (atK n (k + 1) = bits .or .i64 (atK n k) (ones8 (bits .and .i64 n (ruleRow k)) % 2 * 2 ^ k)) := rfl
theorem atK_fault (n : Int) (h0 : 0 ≤ n) (h1 : n ≤ 127) : atK n 3 = fault n := by
  have q : ∀ k : Fin 128, atK (k.val : Int) 3 = fault (k.val : Int) := by decide +kernel
  have h2 := q ⟨n.toNat, by omega⟩
  rwa [show ((n.toNat : Nat) : Int) = n by omega] at h2
set_option maxHeartbeats 1000000 in
theorem wrongBit_any {n : Int} {w : World} (hT : RowsIn w) (h0 : 0 ≤ n) (h1 : n ≤ 127) : Calls Tryd.prog 22 #[.int .i64 n] w fun e w' => e = .returned (.int .i64 (fault n)) ∧ w = w' := by
  obtain ⟨t, fr, hT⟩ := hT
  have x0 : ∀ w : World, (Instr.index 43 (.agg #[.int .i64 85, .int .i64 51, .int .i64 15]) (.int .i64 0)).run Tryd.prog w = .ok (.int .i64 85) w := fun _ => by kernel_rfl
  have x1 : ∀ w : World, (Instr.index 43 (.agg #[.int .i64 85, .int .i64 51, .int .i64 15]) (.int .i64 1)).run Tryd.prog w = .ok (.int .i64 51) w := fun _ => by kernel_rfl
  have x2 : ∀ w : World, (Instr.index 43 (.agg #[.int .i64 85, .int .i64 51, .int .i64 15]) (.int .i64 2)).run Tryd.prog w = .ok (.int .i64 15) w := fun _ => by kernel_rfl
  go_enter Tryd.func22, Tryd.ntmps22
  go_wp2_with (refine wpList_load_row rfl 43 (.global 1) rfl 1 rfl t _ fr _ hT Tryd.underlying43 rfl (by kernel_rfl) ?_)
  go_loop [3, 8] (fun v i => ∃ k : Nat, k ≤ 3 ∧ i = .int .i64 k ∧ v = .int .i64 (atK n k)) (fun _ i => 3 - (intOf i).toNat)
  case atStart => exact ⟨0, by omega, rfl, rfl⟩
  case round =>
    obtain ⟨k, hk, rfl, rfl⟩ := hrel
    by_cases hlt : k < 3
    · have hcase : k = 0 ∨ k = 1 ∨ k = 2 := by omega
      have HS := atK_succ n k
      rcases hcase with rfl | rfl | rfl
      · obtain ⟨p0, p1⟩ := and_b n 85 (by simp) h0 h1
        obtain ⟨o0, o1⟩ := ones8_bound (bits .and .i64 n 85)
        go_wp2_with (go_at_call 16; refine (onesCount8_any _ _ (by omega) (by omega)).mono ?_; rintro e w' ⟨rfl, rfl⟩)
        go_round
        case rel =>
          refine ⟨1, by omega, by first | rfl | go_num, ?_⟩
          rw [HS.out, show ruleRow 0 = 85 from rfl, show (2 : Int) ^ 0 = 1 from rfl, Int.mul_one]
        case measure => simp [intOf]
      · obtain ⟨p0, p1⟩ := and_b n 51 (by simp) h0 h1
        obtain ⟨o0, o1⟩ := ones8_bound (bits .and .i64 n 51)
        go_wp2_with (go_at_call 16; refine (onesCount8_any _ _ (by omega) (by omega)).mono ?_; rintro e w' ⟨rfl, rfl⟩)
        go_round
        case rel =>
          refine ⟨2, by omega, by first | rfl | go_num, ?_⟩
          rw [HS.out, show ruleRow 1 = 51 from rfl, show (2 : Int) ^ 1 = 2 from rfl]
        case measure => simp [intOf]
      · obtain ⟨p0, p1⟩ := and_b n 15 (by simp) h0 h1
        obtain ⟨o0, o1⟩ := ones8_bound (bits .and .i64 n 15)
        go_wp2_with (go_at_call 16; refine (onesCount8_any _ _ (by omega) (by omega)).mono ?_; rintro e w' ⟨rfl, rfl⟩)
        go_round
        case rel =>
          refine ⟨3, by omega, by first | rfl | go_num, ?_⟩
          rw [HS.out, show ruleRow 2 = 15 from rfl, show (2 : Int) ^ 2 = 4 from rfl]
        case measure => simp [intOf]
    · obtain rfl : k = 3 := by omega
      have HF := Lib.hid (atK_fault n h0 h1)
      go_wp2
      go_ret
      exact ⟨ret_int HF.out, rfl⟩

theorem wrap_pow (m : Nat) (h : m ≤ 7) : wrap64 (2 ^ m) = 2 ^ m := by
  have h1 : ∀ k : Fin 8, 0 ≤ (2 : Int) ^ k.val ∧ (2 : Int) ^ k.val ≤ 255 := by decide
  have h2 := h1 ⟨m, by omega⟩
  simp only at h2
  unfold wrap64
  omega
theorem nib_val (n : Int) (h0 : 0 ≤ n) (h1 : n ≤ 127) : (0 ≤ bits .and .i64 (n / 16) 1 ∧ bits .and .i64 (n / 16) 1 ≤ 1) ∧ bits .or .i64 (bits .and .i64 (n / 16) 1 * 8) (bits .and .i64 n 7) = four n := by
  have q : ∀ k : Fin 128, (0 ≤ bits .and .i64 ((k.val : Int) / 16) 1 ∧ bits .and .i64 ((k.val : Int) / 16) 1 ≤ 1) ∧ bits .or .i64 (bits .and .i64 ((k.val : Int) / 16) 1 * 8) (bits .and .i64 (k.val : Int) 7) = four (k.val : Int) := by decide +kernel
  have h2 := q ⟨n.toNat, by omega⟩
  rwa [show ((n.toNat : Nat) : Int) = n by omega] at h2
theorem nibbleIn_any {n : Int} {w : World} (h0 : 0 ≤ n) (h1 : n ≤ 127) : Calls Tryd.prog 23 #[.int .i64 n] w fun e w' => e = .returned (.int .i64 (four n)) ∧ w = w' := by
  obtain ⟨⟨q0, q1⟩, hq⟩ := nib_val n h0 h1
  have HQ := Lib.hid hq
  clear hq
  go_enter Tryd.func23, Tryd.ntmps23
  go_wp2
  go_ret
  exact ⟨ret_int HQ.out, rfl⟩

set_option maxHeartbeats 1000000 in
theorem implDecodeNibble_any {n : Int} {w : World} (hT : RowsIn w) (_ : -9223372036854775808 ≤ n ∧ n ≤ 9223372036854775807) : Calls Tryd.prog 13 #[.int .i64 n] w fun e w' => e = .returned (.tuple #[.int .i64 (decN n), .int .i64 (decAt n)]) ∧ w = w' := by
  by_cases hr : 0 ≤ n ∧ n ≤ 127
  · obtain ⟨h0, h1⟩ := hr
    obtain ⟨f0, f1⟩ := fault_b n
    obtain ⟨m0, m1⟩ := mend_b n h0 h1
    have hN : decN n = four (mend n) := by unfold decN; rw [if_pos ⟨h0, h1⟩]
    have hA : decAt n = fault n := by unfold decAt; rw [if_pos ⟨h0, h1⟩]
    have hW := wrongBit_any (w := w) hT h0 h1
    rw [hN, hA]
    clear hN hA
    have hm : mend n = if 0 < fault n then bits .xor .i64 n (2 ^ (7 - fault n).toNat) else n := rfl
    obtain ⟨a, ha⟩ := Int.eq_ofNat_of_zero_le f0
    rw [ha] at hm hW ⊢ f1 f0
    clear ha
    by_cases hz : a = 0
    · subst hz
      have hm2 : mend n = n := by rw [hm]; simp
      rw [hm2]
      clear hm hm2 m0 m1
      go_enter Tryd.func13, Tryd.ntmps13
      go_wp2_with (first | (go_at_call 22; refine hW.mono ?_; rintro e w' ⟨rfl, rfl⟩) | (go_at_call 23; refine (nibbleIn_any h0 h1).mono ?_; rintro e w' ⟨rfl, rfl⟩))
      go_ret2
      exact ⟨rfl, rfl⟩
    · have hm2 : mend n = bits .xor .i64 n (2 ^ (7 - a)) := by
        rw [hm, if_pos (by omega), show (7 - (a : Int)).toNat = 7 - a by omega]
      rw [hm2] at m0 m1 ⊢
      clear hm hm2
      have ha0 : (0 : Int) < (a : Int) := by omega
      go_enter Tryd.func13, Tryd.ntmps13
      go_wp2_with (go_at_call 22; refine hW.mono ?_; rintro e w' ⟨rfl, rfl⟩)
      rw [wrap_pow (7 - a) (by omega)]
      refine (nibbleIn_any m0 m1).mono ?_
      rintro e w' ⟨rfl, rfl⟩
      go_wp2
      go_ret2
      exact ⟨rfl, rfl⟩
  · have hN : decN n = -1 := by unfold decN; rw [if_neg hr]
    have hA : decAt n = -1 := by unfold decAt; rw [if_neg hr]
    rw [hN, hA]
    clear hN hA
    by_cases h0 : n < 0
    · clear hr
      go_enter Tryd.func13, Tryd.ntmps13
      go_wp2
      go_ret2
      exact ⟨rfl, rfl⟩
    · have h1 : 127 < n := by omega
      clear hr
      go_enter Tryd.func13, Tryd.ntmps13
      go_wp2
      go_ret2
      exact ⟨rfl, rfl⟩

set_option maxHeartbeats 1000000 in
theorem specDecodeNibble_any {n : Int} {w : World} (_ : -9223372036854775808 ≤ n ∧ n ≤ 9223372036854775807) : Calls Tryd.prog 14 #[.int .i64 n] w fun e w' => e = .returned (.tuple #[.int .i64 (decN n), .int .i64 (decAt n)]) ∧ w = w' := by
  by_cases hr : 0 ≤ n ∧ n ≤ 127
  · obtain ⟨h0, h1⟩ := hr
    obtain ⟨f0, f1⟩ := fault_b n
    obtain ⟨m0, m1⟩ := mend_b n h0 h1
    have hN : decN n = four (mend n) := by unfold decN; rw [if_pos ⟨h0, h1⟩]
    have hA : decAt n = fault n := by unfold decAt; rw [if_pos ⟨h0, h1⟩]
    have hW := l1Fault_any n w h0 h1
    rw [hN, hA]
    clear hN hA
    have hm : mend n = if 0 < fault n then bits .xor .i64 n (2 ^ (7 - fault n).toNat) else n := rfl
    obtain ⟨a, ha⟩ := Int.eq_ofNat_of_zero_le f0
    rw [ha] at hm hW ⊢ f1 f0
    clear ha
    by_cases hz : a = 0
    · subst hz
      have hm2 : mend n = n := by rw [hm]; simp
      rw [hm2]
      clear hm hm2 m0 m1
      go_enter Tryd.func14, Tryd.ntmps14
      go_wp2_with (first | (go_at_call 24; refine (l1In_yes _ _ _ _ (by omega) (by omega)).mono ?_; rintro e w' ⟨rfl, rfl⟩) | (go_at_call 25; refine hW.mono ?_; rintro e w' ⟨rfl, rfl⟩) | (go_at_call 26; refine (l1Four_any _ _ h0 h1).mono ?_; rintro e w' ⟨rfl, rfl⟩))
      go_ret2
      exact ⟨rfl, rfl⟩
    · have hm2 : mend n = bits .xor .i64 n (2 ^ (7 - a)) := by
        rw [hm, if_pos (by omega), show (7 - (a : Int)).toNat = 7 - a by omega]
      rw [hm2] at m0 m1 ⊢
      clear hm hm2
      have ha0 : (0 : Int) < (a : Int) := by omega
      go_enter Tryd.func14, Tryd.ntmps14
      go_wp2_with (first | (go_at_call 24; refine (l1In_yes _ _ _ _ (by omega) (by omega)).mono ?_; rintro e w' ⟨rfl, rfl⟩) | (go_at_call 25; refine hW.mono ?_; rintro e w' ⟨rfl, rfl⟩))
      rw [wrap_pow (7 - a) (by omega)]
      refine (l1Four_any _ _ m0 m1).mono ?_
      rintro e w' ⟨rfl, rfl⟩
      go_wp2
      go_ret2
      exact ⟨rfl, rfl⟩
  · have hN : decN n = -1 := by unfold decN; rw [if_neg hr]
    have hA : decAt n = -1 := by unfold decAt; rw [if_neg hr]
    rw [hN, hA]
    clear hN hA
    go_enter Tryd.func14, Tryd.ntmps14
    go_wp2_with (go_at_call 24; refine (l1In_no _ _ _ _ hr).mono ?_; rintro e w' ⟨rfl, rfl⟩)
    go_ret2
    exact ⟨rfl, rfl⟩

theorem row_of_var {P : Program} {W : World} {name : String} {g : Nat} {cs : Array Value} (hg : P.globalNamed name = some g) (h : W.var? P name = some cs) : ∃ t fr, W.heap[g]? = some (.cells cs t fr) := by
  unfold World.var? at h
  rw [hg] at h
  simp only [Option.bind_some] at h
  cases hh : W.heap[g]? with
  | none => rw [hh] at h; cases h
  | some o =>
    rw [hh] at h
    cases o with
    | cells c t fr => simp only [Option.some.injEq] at h; subst h; exact ⟨t, fr, rfl⟩
    | _ => cases h
theorem codes_of {W : World} {rest : List (String × DataW Unit)} (h : laidMet Tryd.prog (("loop.example/wholenet/impl.nibbleCodes", Lib.tabData .i64 codes) :: rest) W) : CodesIn W :=
  row_of_var (cs := (ints .i64 codes).toArray) (by kernel_rfl) (Lib.tabIs_of_head (g := 0) (by kernel_rfl) (by kernel_rfl) Tryd.underlying42 Tryd.underlying3 (by kernel_rfl) (by kernel_rfl) h)
theorem rows_of {W : World} {rest : List (String × DataW Unit)} (h : laidMet Tryd.prog (("loop.example/wholenet/impl.ruleRows", Lib.tabData .i64 [85, 51, 15]) :: rest) W) : RowsIn W :=
  row_of_var (cs := #[.int .i64 85, .int .i64 51, .int .i64 15]) (by kernel_rfl) (Lib.tabIs_of_head (g := 1) (by kernel_rfl) (by kernel_rfl) Tryd.underlying43 Tryd.underlying3 (by kernel_rfl) (by kernel_rfl) h)
end Go.Proofs.YtpbiomlohgcjdaaDoor
