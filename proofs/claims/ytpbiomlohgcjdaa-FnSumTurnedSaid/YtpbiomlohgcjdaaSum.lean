/-
  SumOf, SumTurned and SumRight of the program and of its model: what is proved here is what they return, and that they write nothing that was there. Condition: lengths up to 2^24.
-/
import Derived.Test.YtpbiomlohgcjdaaPar
import Derived.Test.YtpbiomlohgcjdaaMathSum
namespace Go.Proofs.Ytpbiomlohgcjdaa
open Go.RowKit

theorem and_u32_low (c : Int) (h0 : 0 ≤ c) (h1 : c ≤ 4294967295) : bits .and .u32 c 65535 = c % 65536 := by
  obtain ⟨n, rfl⟩ := Int.eq_ofNat_of_zero_le h0
  have h2 : bits .and .u32 (n : Int) 65535 = IntKind.u32.wrap ((BitVec.ofInt 32 (n : Int) &&& BitVec.ofInt 32 ((65535 : Nat) : Int)).toNat : Int) := rfl
  have h3 : ∀ n : Nat, n < 4294967296 → (BitVec.ofInt 32 (n : Int)).toNat = n := fun n hn => by
    rw [BitVec.ofInt_natCast, BitVec.toNat_ofNat]; exact Nat.mod_eq_of_lt (by omega)
  rw [h2, BitVec.toNat_and, h3 n (by omega), h3 65535 (by omega), show n &&& 65535 = n % 65536 from Nat.and_two_pow_sub_one_eq_mod n 16]
  simp [IntKind.wrap, IntKind.bits, IntKind.signed]
  omega

set_option maxHeartbeats 1000000 in
theorem foldSum_any (s : Int) (w : World) (h0 : 0 ≤ s) (h1 : s ≤ 4294967295) : Calls Try.prog 22 #[.int .u32 s] w fun e w' => e = .returned (.int .i64 (rnd s)) ∧ w = w' := by
  go_enter Try.func22, Try.ntmps22
  go_wp2
  go_loop [0] (fun v => ∃ c : Int, 0 ≤ c ∧ c ≤ 4294967295 ∧ v = .int .u32 c ∧ Hid (rnd c = rnd s)) (fun v => (intOf v).toNat)
  case atStart => exact ⟨s, h0, h1, rfl, rfl⟩
  case round =>
    obtain ⟨c, c0, c1, rfl, hr⟩ := hrel
    by_cases hlt : 65535 < c
    · have hA := and_u32_low c c0 c1
      have HF := Lib.hid (rnd_fold c hlt)
      go_wp2
      go_round
      case rel => exact ⟨c / 65536 + c % 65536, by omega, by omega, by go_num, HF.out.trans hr.out⟩
      case measure => simp [intOf]; omega
    · have HS := Lib.hid (rnd_small c c0 (by omega))
      go_wp2
      go_ret
      exact ⟨ret_int (HS.out.symm.trans hr.out), rfl⟩
theorem l2Add_any (a b : Int) (w : World) (a0 : 0 ≤ a) (b0 : 0 ≤ b) (b1 : b ≤ 65535) (a1 : a ≤ 65535) : Calls Try.prog 24 #[.int .i64 a, .int .i64 b] w fun e w' => e = .returned (.int .i64 (if 65535 < a + b then a + b - 65535 else a + b)) ∧ w = w' := by
  by_cases h : 65535 < a + b
  · rw [if_pos h]
    go_enter Try.func24, Try.ntmps24
    go_wp2
    go_ret
    exact ⟨rfl, rfl⟩
  · rw [if_neg h]
    go_enter Try.func24, Try.ntmps24
    go_wp2
    go_ret
    exact ⟨rfl, rfl⟩
theorem l2Add_rnd (a b : Int) (w : World) (a0 : 0 ≤ a) (b0 : 0 ≤ b) (b1 : b ≤ 65535) : Calls Try.prog 24 #[.int .i64 (rnd a), .int .i64 b] w fun e w' => e = .returned (.int .i64 (rnd (a + b))) ∧ w = w' := by
  have h := l2Add_any (rnd a) b w (rnd_b a).1 b0 b1 (rnd_b a).2
  rwa [rnd_add a b a0 b0 b1] at h

set_option maxHeartbeats 1000000 in
theorem implSumOf_any {A : Option Addr} {n c : Nat} {zs : List Int} {w : World} (h : Has w A n (ints .u8 zs)) (hu : U8s zs) (hn : n ≤ 16777216) :
    Calls Try.prog 9 #[.slice A n c] w fun e w' => e = .returned (.int .i64 (sumOf zs)) ∧ Below w.heap.size w w' := by
  have HL := Lib.hid h.len
  by_cases hd : n ≤ 600
  · have hdd : decide (n ≤ 600) = true := by simp [hd]
    go_enter Try.func9, Try.ntmps9
    go_wp2_with (go_at_call 21; refine (isData_any _ _ _ _ (by omega)).mono ?_; rintro e w' ⟨rfl, rfl⟩)
    go_loop [3, 11] (fun v i => ∃ k : Nat, k ≤ n ∧ i = .int .i64 k ∧ v = .int .u32 (wTo zs k)) (fun _ i => n - (intOf i).toNat)
    case atStart => exact ⟨0, Nat.zero_le _, rfl, rfl⟩
    case round =>
      obtain ⟨k, hk, rfl, rfl⟩ := hrel
      obtain ⟨p0, p1⟩ := wTo_b hu k
      by_cases hlt : k < n
      · obtain ⟨b, o, z, rfl, hbl, hx, hc⟩ := h.at_ hlt
        obtain ⟨z0, z1⟩ := hu z (List.mem_of_getElem? hx)
        have p2 : wTo zs k ≤ 39168000 := by omega
        by_cases he : k % 2 = 0
        · have HS := Lib.hid (wTo_even zs k z he hx)
          have heB : ((k : Int) % 2 == 0) = true := by simp; omega
          clear hx p1
          generalize wTo zs k = p at *
          go_wp2
          go_round
          case rel => exact ⟨k + 1, by omega, by go_num, by rw [HS.out, Int.mul_comm]⟩
          case measure => simp [intOf]; omega
        · have HS := Lib.hid (wTo_odd zs k z (by omega) hx)
          have heB : ((k : Int) % 2 == 0) = false := by simp; omega
          clear hx p1
          generalize wTo zs k = p at *
          go_wp2
          go_round
          case rel => exact ⟨k + 1, by omega, by go_num, by rw [HS.out]⟩
          case measure => simp [intOf]; omega
      · obtain rfl : k = n := by omega
        have q1 : wTo zs k ≤ 4294967295 := by omega
        have HW := Lib.hid (show sumOf zs = 65535 - rnd (wTo zs k) by rw [sumOf_yes (by rw [HL.out]; omega)]; unfold wAll; rw [HL.out])
        obtain ⟨r0, r1⟩ := rnd_b (wTo zs k)
        clear p1
        generalize wTo zs k = p at *
        go_wp2_with (fail)
        refine (foldSum_any p _ p0 q1).mono ?_
        rintro e w' ⟨rfl, rfl⟩
        go_wp2
        go_ret
        exact ⟨ret_int HW.out.symm, Below.refl _ _⟩
  · have hdd : decide (n ≤ 600) = false := by simp [hd]
    have HW := Lib.hid (sumOf_no (zs := zs) (by rw [HL.out]; exact hd))
    go_enter Try.func9, Try.ntmps9
    go_wp2_with (go_at_call 21; refine (isData_any _ _ _ _ (by omega)).mono ?_; rintro e w' ⟨rfl, rfl⟩)
    go_ret
    exact ⟨ret_int HW.out.symm, Below.refl _ _⟩

set_option maxHeartbeats 2000000 in
theorem specSumOf_any {A : Option Addr} {n c : Nat} {zs : List Int} {w : World} (h : Has w A n (ints .u8 zs)) (hu : U8s zs) (hn : n ≤ 16777216) :
    Calls Try.prog 10 #[.slice A n c] w fun e w' => e = .returned (.int .i64 (sumOf zs)) ∧ Below w.heap.size w w' := by
  have HL := Lib.hid h.len
  by_cases hd : n ≤ 600
  · have hdd : decide (n ≤ 600) = true := by simp [hd]
    go_enter Try.func10, Try.ntmps10
    go_wp2_with (go_at_call 23; refine (l1Data_any _ _ _ _ (by omega)).mono ?_; rintro e w' ⟨rfl, rfl⟩)
    go_loop [3, 4] (fun v i => ∃ q m : Nat, 2 * q ≤ n + 1 ∧ m ≤ n ∧ (m = 2 * q ∨ (m = n ∧ n < 2 * q)) ∧ i = .int .i64 (2 * (q : Int)) ∧ v = .int .i64 (rnd (wTo zs m))) (fun _ i => n + 1 - (intOf i).toNat)
    case atStart => exact ⟨0, 0, by omega, by omega, .inl rfl, rfl, rfl⟩
    case round =>
      obtain ⟨q, m, hq, hm, hqm, rfl, rfl⟩ := hrel
      obtain ⟨p0, p1⟩ := wTo_b hu m
      obtain ⟨r0, r1⟩ := rnd_b (wTo zs m)
      by_cases hlt : 2 * q < n
      · obtain rfl : m = 2 * q := by omega
        obtain ⟨b, o, x, rfl, hbl, hx, hc⟩ := h.at_ (i := 2 * q) (by omega)
        obtain ⟨x0, x1⟩ := hu x (List.mem_of_getElem? hx)
        have HX := Lib.hid (wTo_even zs (2 * q) x (by omega) hx)
        clear hx p1
        by_cases hlt2 : 2 * q + 1 < n
        · obtain ⟨b', o', y, hA2, _, hy, hc'⟩ := h.at_ (i := 2 * q + 1) (by omega)
          injection hA2 with hA2
          injection hA2 with e1 e2
          subst e1 e2
          obtain ⟨y0, y1⟩ := hu y (List.mem_of_getElem? hy)
          have HY := Lib.hid (wTo_odd zs (2 * q + 1) y (by omega) hy)
          clear hy
          have CC := Lib.hid (l2Add_rnd (wTo zs (2 * q)) (x * 256 + y) w p0 (by omega) (by omega))
          go_wp2_with (fail)
          refine (CC.out).mono ?_
          rintro e w' ⟨rfl, rfl⟩
          go_wp2
          go_round
          case rel => exact ⟨q + 1, 2 * (q + 1), by omega, by omega, .inl rfl, by go_num, by rw [show 2 * (q + 1) = 2 * q + 1 + 1 by omega, HY.out, HX.out, Int.add_assoc, Int.mul_comm 256 x]⟩
          case measure => simp [intOf]; omega
        · have CC := Lib.hid (l2Add_rnd (wTo zs (2 * q)) (x * 256) w p0 (by omega) (by omega))
          go_wp2_with (fail)
          refine (CC.out).mono ?_
          rintro e w' ⟨rfl, rfl⟩
          go_wp2
          go_round
          case rel => exact ⟨q + 1, n, by omega, by omega, .inr ⟨rfl, by omega⟩, by go_num, by rw [show n = 2 * q + 1 by omega, HX.out, Int.mul_comm 256 x]⟩
          case measure => simp [intOf]; omega
      · obtain rfl : m = n := by omega
        have HW := Lib.hid (show sumOf zs = 65535 - rnd (wTo zs m) by rw [sumOf_yes (by rw [HL.out]; omega)]; unfold wAll; rw [HL.out])
        clear p1
        generalize wTo zs m = p at *
        go_wp2
        go_ret
        exact ⟨ret_int HW.out.symm, Below.refl _ _⟩
  · have hdd : decide (n ≤ 600) = false := by simp [hd]
    have HW := Lib.hid (sumOf_no (zs := zs) (by rw [HL.out]; exact hd))
    go_enter Try.func10, Try.ntmps10
    go_wp2_with (go_at_call 23; refine (l1Data_any _ _ _ _ (by omega)).mono ?_; rintro e w' ⟨rfl, rfl⟩)
    go_ret
    exact ⟨ret_int HW.out.symm, Below.refl _ _⟩

def isW (n : Int) : Bool := decide (0 ≤ n ∧ n ≤ 65535)
theorem isWord_any (n : Int) (w : World) : Calls Try.prog 26 #[.int .i64 n] w fun e w' => e = .returned (.bool (isW n)) ∧ w = w' := by
  by_cases h0 : 0 ≤ n
  · by_cases h1 : n ≤ 65535
    · rw [show isW n = true by simp [isW, h0, h1]]
      go_enter Try.func26, Try.ntmps26
      go_wp2
      go_ret
      exact ⟨rfl, rfl⟩
    · rw [show isW n = false by simp [isW, h1]]
      go_enter Try.func26, Try.ntmps26
      go_wp2
      go_ret
      exact ⟨rfl, rfl⟩
  · rw [show isW n = false by simp [isW, h0]]
    go_enter Try.func26, Try.ntmps26
    go_wp2
    go_ret
    exact ⟨rfl, rfl⟩
theorem l2Word_any (n : Int) (w : World) : Calls Try.prog 27 #[.int .i64 n] w fun e w' => e = .returned (.bool (isW n)) ∧ w = w' := by
  go_enter Try.func27, Try.ntmps27
  go_wp2_with (go_at_call 31; refine (l1In_any _ _ _ _).mono ?_; rintro e w' ⟨rfl, rfl⟩)
  go_ret
  exact ⟨ret_bool (by simp [isW]), rfl⟩
theorem isW_yes {n : Int} (h : 0 ≤ n ∧ n ≤ 65535) : isW n = true := by simp [isW, h]
theorem isW_no {n : Int} (h : ¬ (0 ≤ n ∧ n ≤ 65535)) : isW n = false := by simp [isW]; omega

set_option maxHeartbeats 1000000 in
theorem implSumTurned_any {s o n : Int} {w : World} (_ : -9223372036854775808 ≤ s ∧ s ≤ 9223372036854775807) (_ : -9223372036854775808 ≤ o ∧ o ≤ 9223372036854775807) (_ : -9223372036854775808 ≤ n ∧ n ≤ 9223372036854775807) :
    Calls Try.prog 15 #[.int .i64 s, .int .i64 o, .int .i64 n] w fun e w' => e = .returned (.int .i64 (sumTurned s o n)) ∧ Below w.heap.size w w' := by
  by_cases hs : 0 ≤ s ∧ s ≤ 65535
  · have sB := isW_yes hs
    by_cases ho : 0 ≤ o ∧ o ≤ 65535
    · have oB := isW_yes ho
      by_cases hn : 0 ≤ n ∧ n ≤ 65535
      · have nB := isW_yes hn
        have HW := Lib.hid (show sumTurned s o n = 65535 - rnd (65535 - s + 65535 - o + n) by unfold sumTurned; rw [if_pos ⟨hs, ho, hn⟩]; congr 2; omega)
        obtain ⟨s0, s1⟩ := hs
        obtain ⟨o0, o1⟩ := ho
        obtain ⟨n0, n1⟩ := hn
        obtain ⟨r0, r1⟩ := rnd_b (65535 - s + 65535 - o + n)
        have CC := Lib.hid (foldSum_any (65535 - s + 65535 - o + n) w (by omega) (by omega))
        go_enter Try.func15, Try.ntmps15
        go_wp2_with (first | (go_at_call 26; refine (isWord_any _ _).mono ?_; rintro e w' ⟨rfl, rfl⟩) | (go_at_call 22; refine (CC.out).mono ?_; rintro e w' ⟨rfl, rfl⟩))
        go_ret
        exact ⟨ret_int HW.out.symm, Below.refl _ _⟩
      · have nB := isW_no hn
        have HW := Lib.hid (show sumTurned s o n = -1 by unfold sumTurned; rw [if_neg (fun h => hn h.2.2)])
        clear hn
        go_enter Try.func15, Try.ntmps15
        go_wp2_with (go_at_call 26; refine (isWord_any _ _).mono ?_; rintro e w' ⟨rfl, rfl⟩)
        go_ret
        exact ⟨ret_int HW.out.symm, Below.refl _ _⟩
    · have oB := isW_no ho
      have HW := Lib.hid (show sumTurned s o n = -1 by unfold sumTurned; rw [if_neg (fun h => ho h.2.1)])
      clear ho
      go_enter Try.func15, Try.ntmps15
      go_wp2_with (go_at_call 26; refine (isWord_any _ _).mono ?_; rintro e w' ⟨rfl, rfl⟩)
      go_ret
      exact ⟨ret_int HW.out.symm, Below.refl _ _⟩
  · have sB := isW_no hs
    have HW := Lib.hid (show sumTurned s o n = -1 by unfold sumTurned; rw [if_neg (fun h => hs h.1)])
    clear hs
    go_enter Try.func15, Try.ntmps15
    go_wp2_with (go_at_call 26; refine (isWord_any _ _).mono ?_; rintro e w' ⟨rfl, rfl⟩)
    go_ret
    exact ⟨ret_int HW.out.symm, Below.refl _ _⟩

set_option maxHeartbeats 1000000 in
theorem specSumTurned_any {s o n : Int} {w : World} (_ : -9223372036854775808 ≤ s ∧ s ≤ 9223372036854775807) (_ : -9223372036854775808 ≤ o ∧ o ≤ 9223372036854775807) (_ : -9223372036854775808 ≤ n ∧ n ≤ 9223372036854775807) :
    Calls Try.prog 16 #[.int .i64 s, .int .i64 o, .int .i64 n] w fun e w' => e = .returned (.int .i64 (sumTurned s o n)) ∧ Below w.heap.size w w' := by
  by_cases hs : 0 ≤ s ∧ s ≤ 65535
  · have sB := isW_yes hs
    by_cases ho : 0 ≤ o ∧ o ≤ 65535
    · have oB := isW_yes ho
      by_cases hn : 0 ≤ n ∧ n ≤ 65535
      · have nB := isW_yes hn
        have HW := Lib.hid (show sumTurned s o n = 65535 - rnd (65535 - s + (65535 - o) + n) by unfold sumTurned; rw [if_pos ⟨hs, ho, hn⟩])
        obtain ⟨s0, s1⟩ := hs
        obtain ⟨o0, o1⟩ := ho
        obtain ⟨n0, n1⟩ := hn
        obtain ⟨r0, r1⟩ := rnd_b (65535 - s + (65535 - o) + n)
        obtain ⟨t0, t1⟩ := rnd_b (65535 - s + (65535 - o))
        have C1 : Hid (Calls Try.prog 24 #[.int .i64 (65535 - s), .int .i64 (65535 - o)] w fun e w' => e = .returned (.int .i64 (rnd (65535 - s + (65535 - o)))) ∧ w = w') := by
          have h := l2Add_rnd (65535 - s) (65535 - o) w (by omega) (by omega) (by omega)
          rwa [rnd_small (65535 - s) (by omega) (by omega)] at h
        have C2 := Lib.hid (l2Add_rnd (65535 - s + (65535 - o)) n w (by omega) n0 n1)
        generalize rnd (65535 - s + (65535 - o)) = p at *
        generalize rnd (65535 - s + (65535 - o) + n) = q at *
        go_enter Try.func16, Try.ntmps16
        go_wp2_with (go_at_call 27; refine (l2Word_any _ _).mono ?_; rintro e w' ⟨rfl, rfl⟩)
        refine (C1.out).mono ?_
        rintro e w' ⟨rfl, rfl⟩
        go_wp2_with (fail)
        refine (C2.out).mono ?_
        rintro e w' ⟨rfl, rfl⟩
        go_wp2
        go_ret
        exact ⟨ret_int HW.out.symm, Below.refl _ _⟩
      · have nB := isW_no hn
        have HW := Lib.hid (show sumTurned s o n = -1 by unfold sumTurned; rw [if_neg (fun h => hn h.2.2)])
        clear hn
        go_enter Try.func16, Try.ntmps16
        go_wp2_with (go_at_call 27; refine (l2Word_any _ _).mono ?_; rintro e w' ⟨rfl, rfl⟩)
        go_ret
        exact ⟨ret_int HW.out.symm, Below.refl _ _⟩
    · have oB := isW_no ho
      have HW := Lib.hid (show sumTurned s o n = -1 by unfold sumTurned; rw [if_neg (fun h => ho h.2.1)])
      clear ho
      go_enter Try.func16, Try.ntmps16
      go_wp2_with (go_at_call 27; refine (l2Word_any _ _).mono ?_; rintro e w' ⟨rfl, rfl⟩)
      go_ret
      exact ⟨ret_int HW.out.symm, Below.refl _ _⟩
  · have sB := isW_no hs
    have HW := Lib.hid (show sumTurned s o n = -1 by unfold sumTurned; rw [if_neg (fun h => hs h.1)])
    clear hs
    go_enter Try.func16, Try.ntmps16
    go_wp2_with (go_at_call 27; refine (l2Word_any _ _).mono ?_; rintro e w' ⟨rfl, rfl⟩)
    go_ret
    exact ⟨ret_int HW.out.symm, Below.refl _ _⟩

theorem implSumRight_any {A : Option Addr} {n c : Nat} {zs : List Int} {w : World} (h : Has w A n (ints .u8 zs)) (hu : U8s zs) (hn : n ≤ 16777216) :
    Calls Try.prog 11 #[.slice A n c] w fun e w' => e = .returned (.bool (sumRight zs)) ∧ Below w.heap.size w w' := by
  obtain ⟨s0, s1⟩ := sumOf_b zs
  have HR := Lib.hid (show sumRight zs = (sumOf zs == 0) from rfl)
  go_enter Try.func11, Try.ntmps11
  go_wp2_with (fail)
  refine (implSumOf_any h hu hn).mono ?_
  rintro e w1 ⟨rfl, B1⟩
  generalize sumOf zs = s at *
  go_wp2
  go_ret
  exact ⟨ret_bool HR.out.symm, B1⟩
theorem specSumRight_any {A : Option Addr} {n c : Nat} {zs : List Int} {w : World} (h : Has w A n (ints .u8 zs)) (hu : U8s zs) (hn : n ≤ 16777216) :
    Calls Try.prog 14 #[.slice A n c] w fun e w' => e = .returned (.bool (sumRight zs)) ∧ Below w.heap.size w w' := by
  obtain ⟨s0, s1⟩ := sumOf_b zs
  have HR := Lib.hid (show sumRight zs = (sumOf zs == 0) from rfl)
  go_enter Try.func14, Try.ntmps14
  go_wp2_with (fail)
  refine (specSumOf_any h hu hn).mono ?_
  rintro e w1 ⟨rfl, B1⟩
  generalize sumOf zs = s at *
  go_wp2
  go_ret
  exact ⟨ret_bool HR.out.symm, B1⟩
end Go.Proofs.Ytpbiomlohgcjdaa
