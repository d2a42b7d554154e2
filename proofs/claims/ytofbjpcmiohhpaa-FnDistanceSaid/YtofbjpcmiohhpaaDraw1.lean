/-
  Chapter 1's draws: what is proved here is which bytes are drawn, and that nothing but the source is written. Condition: few numbers are drawn.
-/
import Derived.Test.YtofbjpcmiohhpaaDraw
namespace Go.Proofs.Ytofbjpcmiohhpaa
open Go.RowKit

theorem U8s.snoc {zs : List Int} {z : Int} (h : U8s zs) (h0 : 0 ≤ z) (h1 : z ≤ 255) : U8s (zs ++ [z]) := by
  intro y hy
  rcases List.mem_append.1 hy with hy | hy
  · exact h y hy
  · rw [List.mem_singleton.1 hy]; exact ⟨h0, h1⟩

set_option maxHeartbeats 2000000 in
theorem l1Some_any {lo r p n : Nat} {w : World} (h : Rd w lo r p) (hp : p ≤ 549755813888) (hn : n ≤ 1000000) :
    Calls Try.prog 45 #[.pointer (some ⟨r, 0, none⟩), .int .i64 n] w fun e w' => ∃ A' c' zs, e = .returned (.slice A' n c') ∧ Own w' w.heap.size 5 A' n c' (ints .u8 zs) ∧ U8s zs ∧ Rd w' lo r (p + 2 * n) ∧ w.grownBy w' (some r) := by
  obtain ⟨i0, hi, hz0, hz1, hz2⟩ := info_parts Try.infoU8
  have hrl := h.lt
  go_enter Try.func45, Try.ntmps45
  go_wp2
  go_loopw [5, 6] (fun v i wr => ∃ k A' c' zs, k ≤ n ∧ i = .int .i64 ((k : Nat) : Int) ∧ v = .slice A' k c' ∧ Own wr w.heap.size 5 A' k c' (ints .u8 zs) ∧ U8s zs ∧ Rd wr lo r (p + 2 * k) ∧ w.grownBy wr (some r)) (fun _ i _ => n - (intOf i).toNat)
  case atStart => exact ⟨0, _, _, [], Nat.zero_le _, rfl, rfl, World.ownsRow_lit w #[] 0 (Nat.le_refl _) (by unfold maxLen; omega) rfl, (fun z hz => by cases hz), h.alloc _, World.grownBy_alloc _ _ _⟩
  case round =>
    obtain ⟨k, A1, c1, zs, hk, rfl, rfl, O1, hu, R1, G1⟩ := hrel
    have hge := G1.size
    by_cases hlt : k < n
    · have hltB : decide ((k : Int) < (n : Int)) = true := by simp; omega
      go_wp2_with (fail)
      refine (pick_any R1 (by omega) (by omega)).mono ?_
      rintro e w2 ⟨v, rfl, hv, R2, G2⟩
      have O2 := O1.past hrl G2
      have s2 := G2.size
      have HV := Lib.hid hv
      clear hv
      by_cases h0 : v = 0
      · subst h0
        go_wp2_with (fail)
        refine (num_any (n := 9) (l := [0, 1, 125, 126, 127, 128, 255, 94, 93]) (R2.alloc _) (by omega) (Has.row #[.int .i64 0, .int .i64 1, .int .i64 125, .int .i64 126, .int .i64 127, .int .i64 128, .int .i64 255, .int .i64 94, .int .i64 93] rfl rfl (by unfold maxLen; omega)) (fun ad ha => by injection ha with ha; subst ha; simp; omega) (by omega) (by omega)).mono ?_
        rintro e w3 ⟨u, rfl, hu3, R3, G3⟩
        have hub : 0 ≤ u ∧ u ≤ 255 := by simp at hu3; omega
        obtain ⟨hu0, hu1⟩ := hub
        have O3 := (O2.bel ((Below.refl _ _).alloc (Nat.le_refl _) _)).past hrl G3
        have G3' := gr_trans G2 (gr_alloc G3)
        have s3 := (gr_alloc G3).size
        clear hu3
        go_wp2_with (at_builtin; refine wpList_apps _ rfl (.tmp 23) (.tmp 28) 22 rfl w.heap.size 5 i0 (.int .u8 0) 1 Try.underlying22 hi hz0 hz1 hz2 rfl A1 k c1 _ rfl O3 1 1 #[.int .u8 u] rfl rfl (by simp [Value.oneCell']) (by decide) (by omega) (by decide) (by omega) ?_; intro g cap w4 O4 G4 B4 _)
        go_roundw
        case rel => exact ⟨k + 1, _, _, zs ++ [u], by omega, by go_num, rfl, by rw [ints_app]; exact O4, hu.snoc hu0 hu1, by rw [show p + 2 * (k + 1) = p + 2 * k + 1 + 1 by omega]; exact R3.grown G4 (own_far O3 hrl R3), gr_new (gr_trans G1 G3') G4 (own_ge O3)⟩
        case measure => simp [intOf]; omega
      · have h0b : (v == 0) = false := by simp [h0]
        go_wp2_with (fail)
        refine (pick_any R2 (by omega) (by omega)).mono ?_
        rintro e w3 ⟨u, rfl, hu3, R3, G3⟩
        obtain ⟨hu0, hu1'⟩ := hu3
        have hu1 : u ≤ 255 := by omega
        have O3 := O2.past hrl G3
        have G3' := gr_trans G2 G3
        have s3 := G3.size
        clear hu1'
        go_wp2_with (at_builtin; refine wpList_apps _ rfl (.tmp 15) (.tmp 19) 22 rfl w.heap.size 5 i0 (.int .u8 0) 1 Try.underlying22 hi hz0 hz1 hz2 rfl A1 k c1 _ rfl O3 1 1 #[.int .u8 u] rfl rfl (by simp [Value.oneCell']) (by decide) (by omega) (by decide) (by omega) ?_; intro g cap w4 O4 G4 B4 _)
        go_roundw
        case rel => exact ⟨k + 1, _, _, zs ++ [u], by omega, by go_num, rfl, by rw [ints_app]; exact O4, hu.snoc hu0 hu1, by rw [show p + 2 * (k + 1) = p + 2 * k + 1 + 1 by omega]; exact R3.grown G4 (own_far O3 hrl R3), gr_new (gr_trans G1 G3') G4 (own_ge O3)⟩
        case measure => simp [intOf]; omega
    · obtain rfl : k = n := by omega
      go_wp2
      go_ret
      exact ⟨_, _, _, rfl, O1, hu, R1, G1⟩

set_option maxHeartbeats 1000000 in
theorem l1Draw_any {lo r p : Nat} {w : World} (h : Rd w lo r p) (hp : p ≤ 274877906944) :
    Calls Try.prog 35 #[.pointer (some ⟨r, 0, none⟩)] w fun e w' => ∃ A' n' c' zs p', e = .returned (.slice A' n' c') ∧ Own w' w.heap.size 5 A' n' c' (ints .u8 zs) ∧ U8s zs ∧ n' ≤ 601 ∧ n' ≤ c' ∧ p' ≤ p + 2000 ∧ Rd w' lo r p' ∧ w.grownBy w' (some r) := by
  have hrl := h.lt
  go_enter Try.func35, Try.ntmps35
  go_wp2_with (fail)
  refine (num_any (n := 8) (l := [3, 1, 0, 8, 20, 5, 60, 2]) (h.alloc _) (by omega) (Has.row #[.int .i64 3, .int .i64 1, .int .i64 0, .int .i64 8, .int .i64 20, .int .i64 5, .int .i64 60, .int .i64 2] rfl rfl (by unfold maxLen; omega)) (fun ad ha => by injection ha with ha; subst ha; simp; omega) (by omega) (by omega)).mono ?_
  rintro e w1 ⟨v, rfl, hv, R1, G1⟩
  have hvb : 0 ≤ v ∧ v ≤ 60 := by simp at hv; omega
  obtain ⟨hv0, hv1⟩ := hvb
  obtain ⟨k, rfl⟩ := Int.eq_ofNat_of_zero_le hv0
  clear hv
  have G1' := gr_alloc G1
  have s1 := G1'.size
  go_wp2_with (fail)
  refine (pick_any R1 (by omega) (by omega)).mono ?_
  rintro e w2 ⟨u, rfl, hu, R2, G2⟩
  clear hu
  have s2 := G2.size
  have G2' := gr_trans G1' G2
  by_cases h0 : u = 0
  · subst h0
    go_wp2_with (fail)
    refine (l1Some_any (n := 601) R2 (by omega) (by omega)).mono ?_
    rintro e w3 ⟨A3, c3, zs, rfl, O3, hu3, R3, G3⟩
    go_wp2
    go_ret
    exact ⟨_, _, _, zs, _, rfl, O3.mono (by omega), hu3, by omega, O3.cap, by omega, R3, gr_trans G2' G3⟩
  · have h0b : (u == 0) = false := by simp [h0]
    go_wp2_with (fail)
    refine (l1Some_any (n := k) R2 (by omega) (by omega)).mono ?_
    rintro e w3 ⟨A3, c3, zs, rfl, O3, hu3, R3, G3⟩
    go_wp2
    go_ret
    exact ⟨_, _, _, zs, _, rfl, O3.mono (by omega), hu3, by omega, O3.cap, by omega, R3, gr_trans G2' G3⟩

theorem bel_read {w w1 w2 : World} {r p : Nat} (B : Below w.heap.size w w1) (R : Rd w1 w.heap.size r p) (G : w1.grownBy w2 (some r)) : Below w.heap.size w w2 :=
  B.trans (below_of_grown G B.size (fun k hk => by injection hk with hk; subst hk; exact R.1))

set_option maxHeartbeats 1000000 in
theorem drawBitsOf_any {A : Option Addr} {n c : Nat} {zs : List Int} {w : World} (h : Has w A n (ints .u8 zs)) (hu : U8s zs) (hc : n ≤ c ∧ c ≤ maxLen) :
    Calls Try.prog 12 #[.slice A n c] w fun e w' => ∃ A' n' c' xs, e = .returned (.slice A' n' c') ∧ Own w' w.heap.size 5 A' n' c' (ints .u8 xs) ∧ U8s xs ∧ n' ≤ 601 ∧ Below w.heap.size w w' := by
  go_enter Try.func12, Try.ntmps12
  go_wp2_with (fail)
  refine (open_any h hu hc).mono ?_
  rintro e w1 ⟨r, rfl, R1, B1⟩
  go_wp2_with (fail)
  refine (l1Draw_any R1 (by omega)).mono ?_
  rintro e w2 ⟨A2, n2, c2, xs, p2, rfl, O2, hx, hn2, _, hp2, R2, G2⟩
  go_wp2
  go_ret
  exact ⟨_, _, _, xs, rfl, O2.mono B1.size, hx, hn2, bel_read B1 R1 G2⟩

theorem I64s.snoc {zs : List Int} {z : Int} (h : I64s zs) (h0 : -9223372036854775808 ≤ z) (h1 : z ≤ 9223372036854775807) : I64s (zs ++ [z]) := by
  intro y hy
  rcases List.mem_append.1 hy with hy | hy
  · exact h y hy
  · rw [List.mem_singleton.1 hy]; exact ⟨h0, h1⟩
theorem I64s.set_ {zs : List Int} {z : Int} {k : Nat} (h : I64s zs) (h0 : -9223372036854775808 ≤ z) (h1 : z ≤ 9223372036854775807) : I64s (zs.set k z) := by
  intro y hy
  rcases List.mem_or_eq_of_mem_set hy with hy | rfl
  · exact h y hy
  · exact ⟨h0, h1⟩
set_option maxHeartbeats 2000000 in
theorem drawBytesOf_any {A : Option Addr} {n c : Nat} {zs : List Int} {w : World} (h : Has w A n (ints .u8 zs)) (hu : U8s zs) (hc : n ≤ c ∧ c ≤ maxLen) :
    Calls Try.prog 17 #[.slice A n c] w fun e w' => ∃ A' n' c' xs, e = .returned (.slice A' n' c') ∧ Own w' w.heap.size 3 A' n' c' (ints .i64 xs) ∧ I64s xs ∧ n' ≤ 601 ∧ Below w.heap.size w w' := by
  obtain ⟨i0, hi, hz0, hz1, hz2⟩ := info_parts Try.infoInt
  go_enter Try.func17, Try.ntmps17
  go_wp2_with (fail)
  refine (open_any h hu hc).mono ?_
  rintro e w1 ⟨r, rfl, R1, B1⟩
  have hrl := R1.lt
  go_wp2_with (fail)
  refine (num_any (n := 7) (l := [8, 16, 0, 24, 64, 7, 9]) ((R1.alloc _).alloc _) (by omega) (Has.rowAt #[.int .i64 8, .int .i64 16, .int .i64 0, .int .i64 24, .int .i64 64, .int .i64 7, .int .i64 9] rfl rfl (by decide) _ (by simp)) (fun ad ha => by injection ha with ha; subst ha; simp; omega) (by omega) (by omega)).mono ?_
  rintro e w2 ⟨v, rfl, hv, R2, G2⟩
  have hvb : 0 ≤ v ∧ v ≤ 64 := by simp at hv; omega
  obtain ⟨hv0, hv1⟩ := hvb
  obtain ⟨m, rfl⟩ := Int.eq_ofNat_of_zero_le hv0
  clear hv
  have O2 : Own w2 w1.heap.size 3 (some ⟨w1.heap.size, 0, none⟩) 0 0 (ints .i64 []) := Own.lit0 R1.lt (by unfold maxLen; simp) G2
  have G2' := gr_alloc (gr_alloc G2)
  have s2 := G2'.size
  go_wp2
  obtain ⟨wo, rfl⟩ : ∃ wo : World, wo = w2 := ⟨_, rfl⟩
  go_loopw [4, 6] (fun v i wr => ∃ k A' c' xs, k ≤ m ∧ i = .int .i64 ((k : Nat) : Int) ∧ v = .slice A' k c' ∧ Own wr w1.heap.size 3 A' k c' (ints .i64 xs) ∧ I64s xs ∧ Rd wr w.heap.size r (1 + k) ∧ w1.grownBy wr (some r)) (fun _ i _ => m - (intOf i).toNat)
  case atStart => exact ⟨0, _, _, [], Nat.zero_le _, rfl, rfl, O2, (fun z hz => by cases hz), R2, G2'⟩
  case round =>
    obtain ⟨k, A3, c3, xs, hk, rfl, rfl, O3, hx, R3, G3⟩ := hrel
    have s3 := G3.size
    by_cases hlt : k < m
    · have hltB : decide ((k : Int) < (m : Int)) = true := by simp; omega
      go_wp2_with (fail)
      refine (pick_any R3 (by omega) (by omega)).mono ?_
      rintro e w4 ⟨u, rfl, hu4, R4, G4⟩
      obtain ⟨u0, u1⟩ := hu4
      have u2 : u ≤ 2 := by omega
      have O4 := O3.past hrl G4
      have s4 := G4.size
      clear u1
      go_wp2_with (at_builtin; refine wpList_apps _ rfl (.tmp 18) (.tmp 21) 24 rfl w1.heap.size 3 i0 (.int .i64 0) 8 Try.underlying24 hi hz0 hz1 hz2 rfl A3 k c3 _ rfl O4 1 1 #[.int .i64 u] rfl rfl (by simp [Value.oneCell']) (by decide) (by omega) (by decide) (by omega) ?_; intro g cap w5 O5 G5 B5 _)
      go_roundw
      case rel => exact ⟨k + 1, _, _, xs ++ [u], by omega, by go_num, rfl, by rw [ints_app]; exact O5, hx.snoc (by omega) (by omega), by rw [show 1 + (k + 1) = 1 + k + 1 by omega]; exact R4.grown G5 (own_far O4 hrl R4), gr_new (gr_trans G3 G4) G5 (own_ge O4)⟩
      case measure => simp [intOf]; omega
    · obtain rfl : k = m := by omega
      by_cases hk0 : k = 0
      · subst hk0
        go_wp2
        go_ret
        exact ⟨_, _, _, xs, rfl, O3.mono B1.size, hx, by omega, bel_read B1 R1 G3⟩
      · have hkB : decide ((0 : Int) < (k : Int)) = true := by simp; omega
        go_wp2_with (fail)
        refine (pick_any R3 (by omega) (by omega)).mono ?_
        rintro e w4 ⟨u, rfl, hu4, R4, G4⟩
        clear hu4
        have O4 := O3.past hrl G4
        have G4' := gr_trans G3 G4
        have s4 := G4'.size
        by_cases hu0 : u = 0
        · subst hu0
          go_wp2_with (fail)
          refine (pick_any R4 (by omega) (by omega)).mono ?_
          rintro e w5 ⟨q, rfl, hq, R5, G5⟩
          obtain ⟨q0, q1⟩ := hq
          obtain ⟨j, rfl⟩ := Int.eq_ofNat_of_zero_le q0
          have hj : j < k := by omega
          clear q1
          have O5 := O4.past hrl G5
          have G5' := gr_trans G4' G5
          have s5 := G5'.size
          go_wp2_with (fail)
          refine (num_any (n := 2) (l := [2, -1]) (R5.alloc _) (by omega) (Has.rowAt #[.int .i64 2, .int .i64 (-1)] rfl rfl (by decide) _ (by simp)) (fun ad ha => by injection ha with ha; subst ha; simp; omega) (by omega) (by omega)).mono ?_
          rintro e w6 ⟨y, rfl, hy, R6, G6⟩
          have hyb : -1 ≤ y ∧ y ≤ 2 := by simp at hy; omega
          obtain ⟨hy0, hy1⟩ := hyb
          clear hy
          have O6 := (O5.bel ((Below.refl _ _).alloc (Nat.le_refl _) _)).past hrl G6
          have G6' := gr_trans G5' (gr_alloc G6)
          obtain ⟨g, rfl, hg1, hg2⟩ := O6.head (by omega)
          obtain ⟨old, ho, hd, hf⟩ := O6.at_ hj
          clear ho
          go_wp2
          go_ret
          exact ⟨_, _, _, xs.set j y, rfl, by rw [← ints_set]; exact (O6.set_ j _).mono B1.size, hx.set_ (by omega) (by omega), by omega, bel_read B1 R1 (gr_new G6' (grown_set (World.grownBy.refl _ _) j _) (fun k hk => by injection hk with hk; omega))⟩
        · have hu1 : (u == 0) = false := by simp [hu0]
          go_wp2
          go_ret
          exact ⟨_, _, _, xs, rfl, O4.mono B1.size, hx, by omega, bel_read B1 R1 G4'⟩

set_option maxHeartbeats 1000000 in
theorem drawFlipBit_any {A : Option Addr} {n c : Nat} {zs : List Int} {w : World} (h : Has w A n (ints .u8 zs)) (hu : U8s zs) (hc : n ≤ c ∧ c ≤ maxLen) :
    Calls Try.prog 19 #[.slice A n c] w fun e w' => ∃ A' n' c' xs i, e = .returned (.tuple #[.slice A' n' c', .int .i64 i]) ∧ Own w' w.heap.size 5 A' n' c' (ints .u8 xs) ∧ U8s xs ∧ n' ≤ 601 ∧ (-1 ≤ i ∧ i ≤ 5000) ∧ Below w.heap.size w w' := by
  go_enter Try.func19, Try.ntmps19
  go_wp2_with (fail)
  refine (open_any h hu hc).mono ?_
  rintro e w1 ⟨r, rfl, R1, B1⟩
  go_wp2_with (fail)
  refine (l1Draw_any R1 (by omega)).mono ?_
  rintro e w2 ⟨A2, n2, c2, xs, p2, rfl, O2, hx, hn2, _, hp2, R2, G2⟩
  have s2 := G2.size
  go_wp2_with (fail)
  refine (pick_any R2 (by omega) (by omega)).mono ?_
  rintro e w3 ⟨v, rfl, hv, R3, G3⟩
  obtain ⟨hv0, hv1⟩ := hv
  have hv2 : v ≤ 5000 := by omega
  clear hv1
  have O3 := O2.past R1.lt G3
  go_wp2
  go_ret2
  exact ⟨_, _, _, xs, _, rfl, O3.mono B1.size, hx, hn2, ⟨by omega, by omega⟩, bel_read B1 R1 (gr_trans G2 G3)⟩

end Go.Proofs.Ytofbjpcmiohhpaa
