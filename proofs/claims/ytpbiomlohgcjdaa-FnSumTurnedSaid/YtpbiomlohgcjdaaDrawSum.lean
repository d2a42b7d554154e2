/-
  Chapter 2's draws of sums: what is proved here is which bytes and numbers are drawn, and that nothing that was there is written. No condition.
-/
import Derived.Test.YtpbiomlohgcjdaaDraw1
import Derived.Test.YtpbiomlohgcjdaaSum
import Derived.OwnWalk
namespace Go.Proofs.Ytpbiomlohgcjdaa
open Go.RowKit

set_option maxHeartbeats 1000000 in
theorem drawSumOf_any {A : Option Addr} {n c : Nat} {zs : List Int} {w : World} (h : Has w A n (ints .u8 zs)) (hu : U8s zs) (hc : n ≤ c ∧ c ≤ maxLen) :
    Calls Try.prog 8 #[.slice A n c] w fun e w' => ∃ A' n' c' xs, e = .returned (.slice A' n' c') ∧ Own w' w.heap.size 5 A' n' c' (ints .u8 xs) ∧ U8s xs ∧ n' ≤ 601 ∧ Below w.heap.size w w' := by
  go_enter Try.func8, Try.ntmps8
  go_wp2_with (fail)
  refine (open_any h hu hc).mono ?_
  rintro e w1 ⟨r, rfl, R1, B1⟩
  go_wp2_with (fail)
  refine (l1Draw_any R1 (by omega)).mono ?_
  rintro e w2 ⟨A2, n2, c2, xs, p2, rfl, O2, hx, hn2, _, hp2, R2, G2⟩
  go_wp2
  go_ret
  exact ⟨_, _, _, xs, rfl, O2.mono B1.size, hx, hn2, bel_read B1 R1 G2⟩

set_option maxHeartbeats 2000000 in
theorem drawSumRight_any {A : Option Addr} {n c : Nat} {zs : List Int} {w : World} (h : Has w A n (ints .u8 zs)) (hu : U8s zs) (hc : n ≤ c ∧ c ≤ maxLen) :
    Calls Try.prog 12 #[.slice A n c] w fun e w' => ∃ A' n' c' xs, e = .returned (.slice A' n' c') ∧ Own w' w.heap.size 5 A' n' c' (ints .u8 xs) ∧ U8s xs ∧ n' ≤ 601 ∧ Below w.heap.size w w' := by
  obtain ⟨i0, hi, hz0, hz1, hz2⟩ := info_parts Try.infoU8
  go_enter Try.func12, Try.ntmps12
  go_wp2_with (fail)
  refine (open_any h hu hc).mono ?_
  rintro e w1 ⟨r, rfl, R1, B1⟩
  go_wp2_with (fail)
  refine (l1Draw_any R1 (by omega)).mono ?_
  rintro e w2 ⟨A2, n2, c2, xs, p2, rfl, O2, hx, hn2, _, hp2, R2, G2⟩
  have C2 := bel_read B1 R1 G2
  have s2 := G2.size
  have s1 := B1.size
  by_cases he : n2 % 2 = 0
  · have heB : ((n2 : Int) % 2 == 0) = true := by simp; omega
    by_cases h6 : n2 + 2 ≤ 600
    · have h6B : decide ((n2 : Int) + 2 ≤ 600) = true := by simp; omega
      have hs0 := sumOf_b xs
      have hs1 : 0 ≤ sumOf xs := by
        rw [sumOf_yes (by rw [O2.has.len]; omega)]
        have := rnd_b (wAll xs)
        omega
      go_wp2_with (fail)
      refine (specSumOf_any O2.has hx (by omega)).mono ?_
      rintro e w3 ⟨rfl, B3⟩
      have O3 := O2.bel B3
      have C3 := bel_trans C2 B3
      have s3 := B3.size
      obtain ⟨hsl, hsu⟩ := hs0
      have w6 : IntKind.u8.wrap (sumOf xs / 256) = sumOf xs / 256 := by
        obtain ⟨a, ha⟩ := Int.eq_ofNat_of_zero_le hs1
        rw [ha] at hsu ⊢
        simp [IntKind.wrap, IntKind.bits, IntKind.signed]; omega
      have w7 : IntKind.u8.wrap (sumOf xs % 256) = sumOf xs % 256 := by
        obtain ⟨a, ha⟩ := Int.eq_ofNat_of_zero_le hs1
        rw [ha]
        simp [IntKind.wrap, IntKind.bits, IntKind.signed]
      generalize sumOf xs = s at *
      go_wp2_with (at_builtin; refine wpList_apps _ rfl (.tmp 22) (.tmp 29) 22 rfl w1.heap.size 5 i0 (.int .u8 0) 1 Try.underlying22 hi hz0 hz1 hz2 rfl A2 n2 c2 _ rfl O3 2 2 #[.int .u8 (s / 256), .int .u8 (s % 256)] rfl rfl (by simp [Value.oneCell']) (by decide) (by omega) (by decide) (by omega) ?_; intro g cap w4 O4 G4 B4 _)
      go_ret
      refine ⟨_, _, _, rfl, xs ++ [s / 256, s % 256], ?_, ?_, by omega, bel_grown C3 G4 ((O3.mono B1.size).ge (Nat.le_refl _))⟩
      · rw [ints_app]; exact O4.mono B1.size
      · rw [show xs ++ [s / 256, s % 256] = (xs ++ [s / 256]) ++ [s % 256] by simp]
        exact (hx.snoc (by omega) (by omega)).snoc (by omega) (by omega)
    · have h6B : decide ((n2 : Int) + 2 ≤ 600) = false := by simp; omega
      go_wp2
      go_ret
      exact ⟨_, _, _, xs, rfl, O2.mono B1.size, hx, hn2, C2⟩
  · have heB : ((n2 : Int) % 2 == 0) = false := by simp; omega
    go_wp2
    go_ret
    exact ⟨_, _, _, xs, rfl, O2.mono B1.size, hx, hn2, C2⟩

set_option maxHeartbeats 2000000 in
theorem l2Num_any {lo r p : Nat} {w : World} (h : Rd w lo r p) (hp : p ≤ 274877906944) :
    Calls Try.prog 25 #[.pointer (some ⟨r, 0, none⟩)] w fun e w' => ∃ v, e = .returned (.int .i64 v) ∧ -1 ≤ v ∧ v ≤ 65536 ∧ Rd w' lo r (p + 5) ∧ w.grownBy w' (some r) := by
  have hrl := h.lt
  go_enter Try.func25, Try.ntmps25
  go_wp2_with (fail)
  refine (pick_any h (by omega) (by omega)).mono ?_
  rintro e w1 ⟨a, rfl, ⟨a0, a1'⟩, R1, G1⟩
  have a1 : a ≤ 255 := by omega
  clear a1'
  go_wp2_with (fail)
  refine (pick_any R1 (by omega) (by omega)).mono ?_
  rintro e w2 ⟨b, rfl, ⟨b0, b1'⟩, R2, G2⟩
  have b1 : b ≤ 255 := by omega
  clear b1'
  go_wp2_with (fail)
  refine (pick_any R2 (by omega) (by omega)).mono ?_
  rintro e w3 ⟨c, rfl, ⟨c0, c1'⟩, R3, G3⟩
  have c1 : c ≤ 255 := by omega
  clear c1'
  go_wp2_with (fail)
  refine (pick_any R3 (by omega) (by omega)).mono ?_
  rintro e w4 ⟨d, rfl, ⟨d0, d1'⟩, R4, G4⟩
  have d1 : d ≤ 65534 := by omega
  clear d1'
  have G04 := gr_trans (gr_trans (gr_trans G1 G2) G3) G4
  have s4 := G04.size
  go_wp2_with (fail)
  refine (num_any (n := 10) (l := [a * 256 + b, 0, 65535, 1, 256, c * 256, 65536, -1, 65534, d]) (R4.alloc _) (by omega) (Has.row #[.int .i64 (a * 256 + b), .int .i64 0, .int .i64 65535, .int .i64 1, .int .i64 256, .int .i64 (c * 256), .int .i64 65536, .int .i64 (-1), .int .i64 65534, .int .i64 d] rfl rfl (by unfold maxLen; omega)) (fun ad ha => by injection ha with ha; subst ha; simp; omega) (by omega) (by omega)).mono ?_
  rintro e w5 ⟨v, rfl, hv, R5, G5⟩
  have hvb : -1 ≤ v ∧ v ≤ 65536 := by simp at hv; omega
  obtain ⟨v0, v1⟩ := hvb
  clear hv
  go_wp2
  go_ret
  exact ⟨v, rfl, v0, v1, R5, gr_trans G04 (gr_alloc G5)⟩

set_option maxHeartbeats 1000000 in
theorem drawSumTurned_any {A : Option Addr} {n c : Nat} {zs : List Int} {w : World} (h : Has w A n (ints .u8 zs)) (hu : U8s zs) (hc : n ≤ c ∧ c ≤ maxLen) :
    Calls Try.prog 13 #[.slice A n c] w fun e w' => ∃ a b d, e = .returned (.tuple #[.int .i64 a, .int .i64 b, .int .i64 d]) ∧ (-1 ≤ a ∧ a ≤ 65536) ∧ (-1 ≤ b ∧ b ≤ 65536) ∧ (-1 ≤ d ∧ d ≤ 65536) ∧ Below w.heap.size w w' := by
  go_enter Try.func13, Try.ntmps13
  go_wp2_with (fail)
  refine (open_any h hu hc).mono ?_
  rintro e w1 ⟨r, rfl, R1, B1⟩
  go_wp2_with (fail)
  refine (l2Num_any R1 (by omega)).mono ?_
  rintro e w2 ⟨a, rfl, a0, a1, R2, G2⟩
  go_wp2_with (fail)
  refine (l2Num_any R2 (by omega)).mono ?_
  rintro e w3 ⟨b, rfl, b0, b1, R3, G3⟩
  go_wp2_with (fail)
  refine (l2Num_any R3 (by omega)).mono ?_
  rintro e w4 ⟨d, rfl, d0, d1, R4, G4⟩
  go_wp2
  go_ret3
  exact ⟨a, b, d, rfl, ⟨a0, a1⟩, ⟨b0, b1⟩, ⟨d0, d1⟩, bel_read B1 R1 (gr_trans (gr_trans G2 G3) G4)⟩
end Go.Proofs.Ytpbiomlohgcjdaa
