/-
  Chapter 9's draws: what is proved here is what is drawn, in memory of its own, and that nothing that was there is written. No condition.
-/
import Derived.Test.YtpciaokafokfmaaTalkA
import Derived.Test.YtpciaokafokfmaaDraw1
namespace Go.Proofs.Ytpciaokafokfmaa
open Go.RowKit

/-- What is drawn: ints twice and a number. -/
def IntsTN (w w' : World) (e : Ending) : Prop := ∃ A n c xs B m d ys v, e = .returned (.tuple #[.slice A n c, .slice B m d, .int .i64 v]) ∧ Own w' w.heap.size 3 A n c (ints .i64 xs) ∧ n ≤ 20 ∧ Own w' w.heap.size 3 B m d (ints .i64 ys) ∧ m ≤ 50 ∧ (-1 ≤ v ∧ v ≤ 2001) ∧ Below w.heap.size w w'
/-- What is drawn: ints and two numbers. -/
def IntsNN (w w' : World) (e : Ending) : Prop := ∃ A n c xs u v, e = .returned (.tuple #[.slice A n c, .int .i64 u, .int .i64 v]) ∧ Own w' w.heap.size 3 A n c (ints .i64 xs) ∧ n ≤ 20 ∧ (0 ≤ u ∧ u ≤ 10) ∧ (-1 ≤ v ∧ v ≤ 2001) ∧ Below w.heap.size w w'
/-- What is drawn: ints and a number. -/
def IntsN9 (w w' : World) (e : Ending) : Prop := ∃ A n c xs v, e = .returned (.tuple #[.slice A n c, .int .i64 v]) ∧ Own w' w.heap.size 3 A n c (ints .i64 xs) ∧ n ≤ 20 ∧ (-1 ≤ v ∧ v ≤ 10) ∧ Below w.heap.size w w'
/-- What is drawn of a source: ints. -/
def IntsR9 (w w' : World) (lo r p : Nat) (e : Ending) : Prop := ∃ A n c zs p', e = .returned (.slice A n c) ∧ Own w' w.heap.size 3 A n c (ints .i64 zs) ∧ n ≤ 20 ∧ p' ≤ p + 100 ∧ Rd w' lo r p' ∧ w.grownBy w' (some r)
theorem zeros_intsD (k : Nat) : (madeCells (Value.cells (.int .i64 0)) (k * 1)).toList = ints .i64 (List.replicate k 0) := by
  rw [Nat.mul_one, show Value.cells (.int .i64 0) = #[.int .i64 0] from rfl]
  simp only [ints, List.map_replicate]
  exact toList_madeCells_one _ _
theorem picked9 {m v : Int} (h : Picked m v) (hm : 1 ≤ m) : 0 ≤ v ∧ v < m := by unfold Picked at h; omega

set_option maxRecDepth 100000 in
set_option maxHeartbeats 4000000 in
theorem l9Queues_any {lo r p : Nat} {w : World} (h : Rd w lo r p) (hp : p ≤ 274877906944) :
    Calls Try.prog 42 #[.pointer (some ⟨r, 0, none⟩)] w fun e w' => IntsR9 w w' lo r p e := by
  obtain ⟨i0, hi, hz0, hz1, hz2⟩ := info_parts Try.infoInt
  have hrl := h.lt
  go_enter Try.func42, Try.ntmps42
  go_wp2_with (fail)
  refine (num_any (n := 6) (l := [3, 2, 4, 6, 1, 0]) ((h.alloc (.cells #[] 3)).alloc _) (by omega) (Has.rowAt #[.int .i64 3, .int .i64 2, .int .i64 4, .int .i64 6, .int .i64 1, .int .i64 0] rfl rfl (by decide) _ (by simp)) (fun ad ha => by injection ha with ha; subst ha; simp; omega) (by omega) (by omega)).mono ?_
  rintro e w1 ⟨v, rfl, hv, R1, G1⟩
  have hvb : 0 ≤ v ∧ v ≤ 6 := by simp at hv; omega
  obtain ⟨N, rfl⟩ := Int.eq_ofNat_of_zero_le hvb.1
  have hN : N ≤ 6 := by omega
  clear hv hvb
  have O1 := ((lit_own w).bel ((Below.refl _ _).alloc (Nat.le_refl _) (.cells #[.int .i64 3, .int .i64 2, .int .i64 4, .int .i64 6, .int .i64 1, .int .i64 0] 3))).past hrl G1
  have G1' := gr_alloc (gr_alloc G1)
  clear G1
  go_wp2
  go_loopw [3, 4] (fun v i wr => ∃ k q A' c' zs, k + q = N ∧ i = .int .i64 ((k : Nat) : Int) ∧ v = .slice A' q c' ∧ Own wr w.heap.size 3 A' q c' (ints .i64 zs) ∧ Rd wr lo r (p + 1 + q) ∧ w.grownBy wr (some r)) (fun _ i _ => (intOf i).toNat)
  case atStart => exact ⟨N, 0, _, _, [], by omega, rfl, rfl, O1, R1, G1'⟩
  case round =>
    obtain ⟨k, q, A1, c1, zs, hk, rfl, rfl, O2, R2, G2⟩ := hrel
    have hge := G2.size
    have HK := Lib.hid hk
    by_cases hlt : 0 < k
    · have g0 : decide ((k : Int) > 0) = true := by simp; omega
      have g1 : decide ((0 : Int) < (k : Int)) = true := by simp; omega
      have g2 : decide (0 < k) = true := by simp; omega
      have hq : q ≤ 6 := by omega
      obtain ⟨j, hj⟩ : ∃ j, j = k - 1 := ⟨_, rfl⟩
      have kW : IntKind.i64.wrap ((k : Int) - 1) = (j : Int) := by rw [IntWalk.i64_in _ (by omega)]; omega
      have HJ := Lib.hid hj
      have HM := Lib.hid (show j < k by omega)
      clear hj
      clear hk
      go_wp2_with (fail)
      refine (num_any (n := 5) (l := [1, 2, 0, 3, 9]) (R2.alloc _) (by omega) (Has.row #[.int .i64 1, .int .i64 2, .int .i64 0, .int .i64 3, .int .i64 9] rfl rfl (by unfold maxLen; omega)) (fun ad ha => by injection ha with ha; subst ha; have := R2.lt; simp; omega) (by omega) (by omega)).mono ?_
      rintro e w3 ⟨u, rfl, hu, R3, G3⟩
      clear hu
      have O3 := (O2.bel ((Below.refl _ _).alloc (Nat.le_refl _) (.cells #[.int .i64 1, .int .i64 2, .int .i64 0, .int .i64 3, .int .i64 9] 3))).past hrl G3
      have G3' := gr_alloc G3
      have s3 := G3'.size
      go_wp2_with (at_builtin; refine wpList_apps _ rfl (.tmp 13) (.tmp 17) 23 rfl w.heap.size 3 i0 (.int .i64 0) 8 Try.underlying23 hi hz0 hz1 hz2 rfl A1 q c1 _ rfl O3 1 1 #[.int .i64 u] rfl rfl (by simp [Value.oneCell']) (by decide) (by omega) (by decide) (by omega) ?_; intro g cap w4 O4 G4 B4 _)
      go_roundw
      case rel => exact ⟨j, q + 1, _, _, zs ++ [u], by have := HK.out; have := HJ.out; omega, rfl, rfl, by rw [ints_app]; exact O4, by rw [show p + 1 + (q + 1) = p + 1 + q + 1 by omega]; exact R3.grown G4 (own_far O3 hrl R3), gr_new (gr_trans G2 G3') G4 (own_ge O3)⟩
      case measure => have := HM.out; simp [intOf]; omega
    · obtain rfl : k = 0 := by omega
      have g0 : decide (((0 : Nat) : Int) > 0) = false := rfl
      have g1 : decide ((0 : Int) > 0) = false := rfl
      obtain rfl : q = N := by omega
      clear hk hlt HK
      go_wp2_with (fail)
      refine (pick_any R2 (by omega) (by omega)).mono ?_
      rintro e w3 ⟨u, rfl, hu, R3, G3⟩
      clear hu
      have O3 := O2.past hrl G3
      have s3 := G3.size
      have G3' := gr_trans G2 G3
      by_cases hu0 : u = 0
      · subst hu0
        go_wp2_with (fail)
        refine (num_any (n := 2) (l := [10, -1]) (R3.alloc _) (by omega) (Has.row #[.int .i64 10, .int .i64 (-1)] rfl rfl (by unfold maxLen; omega)) (fun ad ha => by injection ha with ha; subst ha; have := R3.lt; simp; omega) (by omega) (by omega)).mono ?_
        rintro e w5 ⟨u5, rfl, hu5, R5, G5⟩
        clear hu5
        have O5 := (O3.bel ((Below.refl _ _).alloc (Nat.le_refl _) (.cells #[.int .i64 10, .int .i64 (-1)] 3))).past hrl G5
        have G5' := gr_alloc G5
        have s5 := G5'.size
        go_wp2_with (at_builtin; refine wpList_apps _ rfl (.tmp 23) (.tmp 27) 23 rfl w.heap.size 3 i0 (.int .i64 0) 8 Try.underlying23 hi hz0 hz1 hz2 rfl A1 q c1 _ rfl O5 1 1 #[.int .i64 u5] rfl rfl (by simp [Value.oneCell']) (by decide) (by omega) (by decide) (by omega) ?_; intro g cap w4 O4 G4 B4 _)
        go_ret
        exact ⟨_, _, _, zs ++ [u5], _, rfl, by rw [ints_app]; exact O4, by omega, by omega, R5.grown G4 (own_far O5 hrl R5), gr_new (gr_trans G3' G5') G4 (own_ge O5)⟩
      · have h0B : (u == 0) = false := by simp [hu0]
        by_cases hu1 : u = 1
        · subst hu1
          have sle : w.heap.size ≤ w3.heap.size := by omega
          go_wp2_with (refine wpList_make_full _ rfl _ _ 23 rfl w3.heap.size 3 i0 (.int .i64 0) 1 Try.underlying23 hi hz0 hz1 .i64 .i64 _ _ 7 rfl rfl (by omega) (by omega) (by rw [hz2]; omega) (by unfold maxLen; omega) (Nat.le_refl _) ?_; intro w4 hown hgrow)
          have O4 : Own w4 w3.heap.size 3 (some ⟨w3.heap.size, 0, none⟩) 7 7 (ints .i64 (List.replicate 7 0)) := by rw [← zeros_intsD]; exact hown
          have B4 : Below w3.heap.size w3 w4 := below_of_grown hgrow (Nat.le_refl _) (fun k hk => by cases hk)
          clear hown hgrow
          go_ret
          exact ⟨_, _, _, List.replicate 7 0, _, rfl, O4.mono sle, by omega, by omega, R3.bel B4, gr_bel G3' B4⟩
        · have h1B : (u == 1) = false := by simp [hu1]
          clear hu0 hu1
          go_wp2
          go_ret
          exact ⟨_, _, _, zs, _, rfl, O3, by omega, by omega, R3, G3'⟩

set_option maxHeartbeats 2000000 in
theorem drawWaitOf_any {A : Option Addr} {n c : Nat} {zs : List Int} {w : World} (h : Has w A n (ints .u8 zs)) (hu : U8s zs) (hc : n ≤ c ∧ c ≤ maxLen) :
    Calls Try.prog 23 #[.slice A n c] w fun e w' => ∃ t d, e = .returned (.tuple #[.int .i64 t, .int .i64 d]) ∧ (0 ≤ t ∧ t ≤ 1000000) ∧ (-1 ≤ d ∧ d ≤ 1001) ∧ Below w.heap.size w w' := by
  go_enter Try.func23, Try.ntmps23
  go_wp2_with (fail)
  refine (open_any h hu hc).mono ?_
  rintro e w1 ⟨r, rfl, R1, B1⟩
  go_wp2_with (fail)
  refine (num_any (n := 7) (l := [1, 2, 3, 5, 9, 0, 1000000]) (R1.alloc _) (by omega) (Has.row #[.int .i64 1, .int .i64 2, .int .i64 3, .int .i64 5, .int .i64 9, .int .i64 0, .int .i64 1000000] rfl rfl (by unfold maxLen; omega)) (fun ad ha => by injection ha with ha; subst ha; have := R1.lt; simp; omega) (by omega) (by omega)).mono ?_
  rintro e w2 ⟨t, rfl, ht, R2, G2⟩
  have htb : 0 ≤ t ∧ t ≤ 1000000 := by simp at ht; omega
  have G2' := gr_alloc G2
  clear ht
  go_wp2_with (fail)
  refine (pick_any R2 (by omega) (by omega)).mono ?_
  rintro e w3 ⟨u, rfl, hu3, R3, G3⟩
  have hub := picked9 hu3 (by omega)
  clear hu3
  go_wp2_with (fail)
  refine (num_any (n := 8) (l := [0, 1, 7, 31, 1000, 1001, -1, u]) (R3.alloc _) (by omega) (Has.row #[.int .i64 0, .int .i64 1, .int .i64 7, .int .i64 31, .int .i64 1000, .int .i64 1001, .int .i64 (-1), .int .i64 u] rfl rfl (by unfold maxLen; omega)) (fun ad ha => by injection ha with ha; subst ha; have := R3.lt; simp; omega) (by omega) (by omega)).mono ?_
  rintro e w4 ⟨d, rfl, hd, R4, G4⟩
  have hdb : -1 ≤ d ∧ d ≤ 1001 := by simp at hd; omega
  have G4' := gr_trans (gr_trans G2' G3) (gr_alloc G4)
  clear hd
  go_wp2
  go_ret2
  exact ⟨_, _, rfl, htb, hdb, bel_read B1 R1 G4'⟩

set_option maxRecDepth 100000 in
set_option maxHeartbeats 4000000 in
theorem drawRunTalk_any {A : Option Addr} {n c : Nat} {zs : List Int} {w : World} (h : Has w A n (ints .u8 zs)) (hu : U8s zs) (hc : n ≤ c ∧ c ≤ maxLen) :
    Calls Try.prog 16 #[.slice A n c] w fun e w' => IntsTN w w' e := by
  obtain ⟨i0, hi, hz0, hz1, hz2⟩ := info_parts Try.infoInt
  go_enter Try.func16, Try.ntmps16
  go_wp2_with (fail)
  refine (open_any h hu hc).mono ?_
  rintro e w1 ⟨r, rfl, R1, B1⟩
  have hrl := R1.lt
  have s1 := B1.size
  go_wp2_with (fail)
  refine (l9Queues_any R1 (by omega)).mono ?_
  rintro e w2 hX
  unfold IntsR9 at hX
  obtain ⟨A2, n2, c2, xs, p2, rfl, O2, hn2, hp2, R2, G2⟩ := hX
  have s2 := G2.size
  go_wp2_with (fail)
  refine (num_any (n := 4) (l := [6, 0, 20, 40]) ((R2.alloc (.cells #[] 3)).alloc _) (by omega) (Has.rowAt #[.int .i64 6, .int .i64 0, .int .i64 20, .int .i64 40] rfl rfl (by decide) _ (by simp)) (fun ad ha => by injection ha with ha; subst ha; have := R2.lt; simp; omega) (by omega) (by omega)).mono ?_
  rintro e w3 ⟨v, rfl, hv, R3, G3⟩
  have hvb : 0 ≤ v ∧ v ≤ 40 := by simp at hv; omega
  obtain ⟨N, rfl⟩ := Int.eq_ofNat_of_zero_le hvb.1
  have hN : N ≤ 40 := by omega
  clear hv hvb
  have h2l := R2.lt
  have B23 : Below w2.heap.size w2 ((w2.alloc (.cells #[] 3)).alloc (.cells #[.int .i64 6, .int .i64 0, .int .i64 20, .int .i64 40] 3)) := ((Below.refl _ _).alloc (Nat.le_refl _) _).alloc (by simp) _
  have O3 : Own w3 w2.heap.size 3 (some ⟨w2.heap.size, 0, none⟩) 0 0 (ints .i64 []) := ((lit_own w2).bel ((Below.refl _ _).alloc (Nat.le_refl _) (.cells #[.int .i64 6, .int .i64 0, .int .i64 20, .int .i64 40] 3))).past h2l G3
  have Q3 := (O2.bel B23).past hrl G3
  have G3' := gr_alloc (gr_alloc G3)
  have s3 := G3'.size
  clear G3 B23
  go_wp2
  go_loopw [7, 8] (fun v i wr => ∃ k q A' c' ys, k + q = N ∧ i = .int .i64 ((k : Nat) : Int) ∧ v = .slice A' q c' ∧ Own wr w2.heap.size 3 A' q c' (ints .i64 ys) ∧ Own wr w1.heap.size 3 A2 n2 c2 (ints .i64 xs) ∧ Rd wr w.heap.size r (p2 + 1 + q) ∧ w2.grownBy wr (some r)) (fun _ i _ => (intOf i).toNat)
  case atStart => exact ⟨N, 0, _, _, [], by omega, rfl, rfl, O3, Q3, R3, G3'⟩
  case round =>
    obtain ⟨k, q, A1, c1, ys, hk, rfl, rfl, O4, Q4, R4, G4⟩ := hrel
    have hge := G4.size
    have HK := Lib.hid hk
    by_cases hlt : 0 < k
    · have g0 : decide ((k : Int) > 0) = true := by simp; omega
      have g1 : decide ((0 : Int) < (k : Int)) = true := by simp; omega
      have g2 : decide (0 < k) = true := by simp; omega
      have hq : q ≤ 40 := by omega
      obtain ⟨j, hj⟩ : ∃ j, j = k - 1 := ⟨_, rfl⟩
      have kW : IntKind.i64.wrap ((k : Int) - 1) = (j : Int) := by rw [IntWalk.i64_in _ (by omega)]; omega
      have HJ := Lib.hid hj
      have HM := Lib.hid (show j < k by omega)
      clear hj
      clear hk
      go_wp2_with (fail)
      refine (pick_any R4 (by omega) (by omega)).mono ?_
      rintro e w5 ⟨u, rfl, hu5, R5, G5⟩
      clear hu5
      have O5 := O4.past h2l G5
      have Q5 := Q4.past hrl G5
      have s5 := G5.size
      go_wp2_with (at_builtin; refine wpList_apps _ rfl (.tmp 21) (.tmp 24) 23 rfl w2.heap.size 3 i0 (.int .i64 0) 8 Try.underlying23 hi hz0 hz1 hz2 rfl A1 q c1 _ rfl O5 1 1 #[.int .i64 u] rfl rfl (by simp [Value.oneCell']) (by decide) (by omega) (by decide) (by omega) ?_; intro g cap w6 O6 G6 B6 _)
      have Q6 := Q5.earlier (z := w2) (O2.lt) (O5.ge (Nat.le_refl _)) G6
      go_roundw
      case rel => exact ⟨j, q + 1, _, _, ys ++ [u], by have := HK.out; have := HJ.out; omega, rfl, rfl, by rw [ints_app]; exact O6, Q6, by rw [show p2 + 1 + (q + 1) = p2 + 1 + q + 1 by omega]; exact R5.grown G6 (fun k hk => ⟨by have := own_ge O5 k hk; omega, by have := own_ge O5 k hk; omega⟩), gr_new (gr_trans G4 G5) G6 (own_ge O5)⟩
      case measure => have := HM.out; simp [intOf]; omega
    · obtain rfl : k = 0 := by omega
      have g0 : decide (((0 : Nat) : Int) > 0) = false := rfl
      have g1 : decide ((0 : Int) > 0) = false := rfl
      obtain rfl : q = N := by omega
      clear hk hlt HK
      go_wp2_with (fail)
      refine (pick_any R4 (by omega) (by omega)).mono ?_
      rintro e w5 ⟨u, rfl, hu5, R5, G5⟩
      clear hu5
      have O5 := O4.past h2l G5
      have Q5 := Q4.past hrl G5
      have s5 := G5.size
      have G45 := gr_trans G4 G5
      have s15 : w1.heap.size ≤ w2.heap.size := s2
      by_cases hu0 : u = 0
      · subst hu0
        go_wp2_with (at_builtin; refine wpList_apps _ rfl (.tmp 29) (.tmp 30) 23 rfl w2.heap.size 3 i0 (.int .i64 0) 8 Try.underlying23 hi hz0 hz1 hz2 rfl A1 q c1 _ rfl O5 1 1 #[.int .i64 1001] rfl rfl (by simp [Value.oneCell']) (by decide) (by omega) (by decide) (by omega) ?_; intro g cap w6 O6 G6 B6 _)
        have Q6 := Q5.earlier (z := w2) (O2.lt) (O5.ge (Nat.le_refl _)) G6
        have R6 := R5.grown G6 (fun k hk => ⟨by have := own_ge O5 k hk; omega, by have := own_ge O5 k hk; omega⟩)
        have G46 := gr_new G45 G6 (own_ge O5)
        have s6 := G46.size
        go_wp2_with (fail)
        refine (num_any (n := 8) (l := [60, 300, 5, 2000, 1, 0, -1, 2001]) (R6.alloc _) (by omega) (Has.row #[.int .i64 60, .int .i64 300, .int .i64 5, .int .i64 2000, .int .i64 1, .int .i64 0, .int .i64 (-1), .int .i64 2001] rfl rfl (by unfold maxLen; omega)) (fun ad ha => by injection ha with ha; subst ha; have := R6.lt; simp; omega) (by omega) (by omega)).mono ?_
        rintro e w7 ⟨t, rfl, ht, R7, G7⟩
        have htb : -1 ≤ t ∧ t ≤ 2001 := by simp at ht; omega
        have BA : Below w6.heap.size w6 (w6.alloc (.cells #[.int .i64 60, .int .i64 300, .int .i64 5, .int .i64 2000, .int .i64 1, .int .i64 0, .int .i64 (-1), .int .i64 2001] 3)) := (Below.refl _ _).alloc (Nat.le_refl _) _
        have O7 := (O6.bel BA).past h2l G7
        have Q7 := (Q6.bel BA).past hrl G7
        have GF := gr_trans G2 (gr_trans G46 (gr_alloc G7))
        clear ht
        go_wp2
        refine bodyPost_ret (results_tmp3 rfl _ _ _) rfl ?_
        exact ⟨_, _, _, xs, _, _, _, ys ++ [1001], _, rfl, Q7.mono s1, hn2, by rw [ints_app]; exact O7.mono (by omega), by omega, htb, bel_read B1 R1 GF⟩
      · have h0B : (u == 0) = false := by simp [hu0]
        clear hu0
        go_wp2_with (fail)
        refine (num_any (n := 8) (l := [60, 300, 5, 2000, 1, 0, -1, 2001]) (R5.alloc _) (by omega) (Has.row #[.int .i64 60, .int .i64 300, .int .i64 5, .int .i64 2000, .int .i64 1, .int .i64 0, .int .i64 (-1), .int .i64 2001] rfl rfl (by unfold maxLen; omega)) (fun ad ha => by injection ha with ha; subst ha; have := R5.lt; simp; omega) (by omega) (by omega)).mono ?_
        rintro e w7 ⟨t, rfl, ht, R7, G7⟩
        have htb : -1 ≤ t ∧ t ≤ 2001 := by simp at ht; omega
        have BA : Below w5.heap.size w5 (w5.alloc (.cells #[.int .i64 60, .int .i64 300, .int .i64 5, .int .i64 2000, .int .i64 1, .int .i64 0, .int .i64 (-1), .int .i64 2001] 3)) := (Below.refl _ _).alloc (Nat.le_refl _) _
        have O7 := (O5.bel BA).past h2l G7
        have Q7 := (Q5.bel BA).past hrl G7
        have GF := gr_trans G2 (gr_trans G45 (gr_alloc G7))
        clear ht
        go_wp2
        refine bodyPost_ret (results_tmp3 rfl _ _ _) rfl ?_
        exact ⟨_, _, _, xs, _, _, _, ys, _, rfl, Q7.mono s1, hn2, O7.mono (by omega), by omega, htb, bel_read B1 R1 GF⟩

set_option maxRecDepth 100000 in
set_option maxHeartbeats 4000000 in
theorem drawRunToken_any {A : Option Addr} {n c : Nat} {zs : List Int} {w : World} (h : Has w A n (ints .u8 zs)) (hu : U8s zs) (hc : n ≤ c ∧ c ≤ maxLen) :
    Calls Try.prog 26 #[.slice A n c] w fun e w' => IntsNN w w' e := by
  obtain ⟨i0, hi, hz0, hz1, hz2⟩ := info_parts Try.infoInt
  go_enter Try.func26, Try.ntmps26
  go_wp2_with (fail)
  refine (open_any h hu hc).mono ?_
  rintro e w1 ⟨r, rfl, R1, B1⟩
  have hrl := R1.lt
  have s1 := B1.size
  go_wp2_with (fail)
  refine (l9Queues_any R1 (by omega)).mono ?_
  rintro e w2 hX
  unfold IntsR9 at hX
  obtain ⟨A2, n2, c2, xs, p2, rfl, O2, hn2, hp2, R2, G2⟩ := hX
  have s2 := G2.size
  go_wp2_with (fail)
  refine (num_any (n := 3) (l := [4, 4, 6]) ((R2.alloc (.cells #[.int .i64 1, .int .i64 2, .int .i64 3, .int .i64 9, .int .i64 0, .int .i64 10] 3)).alloc _) (by omega) (Has.rowAt #[.int .i64 4, .int .i64 4, .int .i64 6] rfl rfl (by decide) _ (by simp)) (fun ad ha => by injection ha with ha; subst ha; have := R2.lt; simp; omega) (by omega) (by omega)).mono ?_
  rintro e w3 ⟨v, rfl, hv, R3, G3⟩
  have h2l := R2.lt
  have BA : Below w2.heap.size w2 (w2.alloc (.cells #[.int .i64 1, .int .i64 2, .int .i64 3, .int .i64 9, .int .i64 0, .int .i64 10] 3)) := (Below.refl _ _).alloc (Nat.le_refl _) _
  have BB : Below w2.heap.size w2 ((w2.alloc (.cells #[.int .i64 1, .int .i64 2, .int .i64 3, .int .i64 9, .int .i64 0, .int .i64 10] 3)).alloc (.cells #[.int .i64 4, .int .i64 4, .int .i64 6] 3)) := BA.alloc (by simp) _
  have L2 : Own (w2.alloc (.cells #[.int .i64 1, .int .i64 2, .int .i64 3, .int .i64 9, .int .i64 0, .int .i64 10] 3)) w2.heap.size 3 (some ⟨w2.heap.size, 0, none⟩) 6 6 (ints .i64 [1, 2, 3, 9, 0, 10]) := World.ownsRow_lit w2 #[.int .i64 1, .int .i64 2, .int .i64 3, .int .i64 9, .int .i64 0, .int .i64 10] 6 (Nat.le_refl _) (by unfold maxLen; omega) rfl
  have L3 := (L2.bel ((Below.refl _ _).alloc (Nat.le_refl _) (.cells #[.int .i64 4, .int .i64 4, .int .i64 6] 3))).past h2l G3
  have Q3 := (O2.bel BB).past hrl G3
  have G3' := gr_alloc (gr_alloc G3)
  have hv46 : v = 4 ∨ v = 6 := by simp at hv; omega
  have R3p : Rd w3 w.heap.size r (p2 + 1) := R3
  clear G3 BA BB L2 hv
  rcases hv46 with rfl | rfl
  all_goals
    go_wp2_with (fail)
  · refine (num_any (n := 4) (l := [1, 2, 3, 9]) R3 (by omega) ?_ (fun ad ha => by injection ha with ha; subst ha; simp; omega) (by omega) (by omega)).mono ?_
    · exact (L3.front (n := 4) (m := 2) (xs := ints .i64 [1, 2, 3, 9]) (news := ints .i64 [0, 10]) rfl).has
    rintro e w5 ⟨u, rfl, hu5, R5, G5⟩
    have hub : 0 ≤ u ∧ u ≤ 10 := by simp at hu5; omega
    have Q5 := Q3.past hrl G5
    clear hu5
    go_wp2_with (fail)
    refine (num_any (n := 7) (l := [60, 300, 5, 2000, 1, 0, -1]) (R5.alloc _) (by omega) (Has.row #[.int .i64 60, .int .i64 300, .int .i64 5, .int .i64 2000, .int .i64 1, .int .i64 0, .int .i64 (-1)] rfl rfl (by unfold maxLen; omega)) (fun ad ha => by injection ha with ha; subst ha; have := R5.lt; simp; omega) (by omega) (by omega)).mono ?_
    rintro e w7 ⟨t, rfl, ht, R7, G7⟩
    have htb : -1 ≤ t ∧ t ≤ 2001 := by simp at ht; omega
    have Q7 := (Q5.bel ((Below.refl _ _).alloc (Nat.le_refl _) (.cells #[.int .i64 60, .int .i64 300, .int .i64 5, .int .i64 2000, .int .i64 1, .int .i64 0, .int .i64 (-1)] 3))).past hrl G7
    have GF := gr_trans G2 (gr_trans (gr_trans G3' G5) (gr_alloc G7))
    clear ht
    go_wp2
    refine bodyPost_ret (results_tmp3 rfl _ _ _) rfl ?_
    exact ⟨_, _, _, xs, _, _, rfl, Q7.mono s1, hn2, hub, htb, bel_read B1 R1 GF⟩
  · refine (num_any (n := 6) (l := [1, 2, 3, 9, 0, 10]) R3 (by omega) L3.has (fun ad ha => by injection ha with ha; subst ha; simp; omega) (by omega) (by omega)).mono ?_
    rintro e w5 ⟨u, rfl, hu5, R5, G5⟩
    have hub : 0 ≤ u ∧ u ≤ 10 := by simp at hu5; omega
    have Q5 := Q3.past hrl G5
    clear hu5
    go_wp2_with (fail)
    refine (num_any (n := 7) (l := [60, 300, 5, 2000, 1, 0, -1]) (R5.alloc _) (by omega) (Has.row #[.int .i64 60, .int .i64 300, .int .i64 5, .int .i64 2000, .int .i64 1, .int .i64 0, .int .i64 (-1)] rfl rfl (by unfold maxLen; omega)) (fun ad ha => by injection ha with ha; subst ha; have := R5.lt; simp; omega) (by omega) (by omega)).mono ?_
    rintro e w7 ⟨t, rfl, ht, R7, G7⟩
    have htb : -1 ≤ t ∧ t ≤ 2001 := by simp at ht; omega
    have Q7 := (Q5.bel ((Below.refl _ _).alloc (Nat.le_refl _) (.cells #[.int .i64 60, .int .i64 300, .int .i64 5, .int .i64 2000, .int .i64 1, .int .i64 0, .int .i64 (-1)] 3))).past hrl G7
    have GF := gr_trans G2 (gr_trans (gr_trans G3' G5) (gr_alloc G7))
    clear ht
    go_wp2
    refine bodyPost_ret (results_tmp3 rfl _ _ _) rfl ?_
    exact ⟨_, _, _, xs, _, _, rfl, Q7.mono s1, hn2, hub, htb, bel_read B1 R1 GF⟩
theorem drawTurnsOf_any {A : Option Addr} {n c : Nat} {zs : List Int} {w : World} (h : Has w A n (ints .u8 zs)) (hu : U8s zs) (hc : n ≤ c ∧ c ≤ maxLen) :
    Calls Try.prog 29 #[.slice A n c] w fun e w' => IntsN9 w w' e := by
  go_enter Try.func29, Try.ntmps29
  go_wp2_with (fail)
  refine (drawRunToken_any h hu hc).mono ?_
  rintro e w1 hX
  unfold IntsNN at hX
  obtain ⟨A1, n1, c1, xs, u, v, rfl, O1, hn1, hub, _, B1⟩ := hX
  go_wp2
  go_ret2
  exact ⟨_, _, _, xs, _, rfl, O1, hn1, ⟨by omega, by omega⟩, B1⟩
set_option maxHeartbeats 4000000 in
theorem drawSentBy_any {A : Option Addr} {n c : Nat} {zs : List Int} {w : World} (h : Has w A n (ints .u8 zs)) (hu : U8s zs) (hc : n ≤ c ∧ c ≤ maxLen) :
    Calls Try.prog 31 #[.slice A n c] w fun e w' => IntsN9 w w' e := by
  obtain ⟨i0, hi, hz0, hz1, hz2⟩ := info_parts Try.infoInt
  go_enter Try.func31, Try.ntmps31
  go_wp2_with (fail)
  refine (open_any h hu hc).mono ?_
  rintro e w1 ⟨r, rfl, R1, B1⟩
  have hrl := R1.lt
  have s1 := B1.size
  go_wp2_with (fail)
  refine (pick_any (R1.alloc (.cells #[] 3)) (by omega) (by omega)).mono ?_
  rintro e w2 ⟨v, rfl, hv, R2, G2⟩
  have hvb := picked9 hv (by omega)
  obtain ⟨N, rfl⟩ := Int.eq_ofNat_of_zero_le hvb.1
  have hN : N ≤ 11 := by omega
  clear hv hvb
  have O2 := (lit_own w1).past hrl G2
  have G2' := gr_alloc G2
  go_wp2
  go_loopw [5, 6] (fun v i wr => ∃ k q A' c' ys, k + q = N ∧ i = .int .i64 ((k : Nat) : Int) ∧ v = .slice A' q c' ∧ Own wr w1.heap.size 3 A' q c' (ints .i64 ys) ∧ Rd wr w.heap.size r (1 + q) ∧ w1.grownBy wr (some r)) (fun _ i _ => (intOf i).toNat)
  case atStart => exact ⟨N, 0, _, _, [], by omega, rfl, rfl, O2, R2, G2'⟩
  case round =>
    obtain ⟨k, q, A1, c1, ys, hk, rfl, rfl, O4, R4, G4⟩ := hrel
    have hge := G4.size
    have HK := Lib.hid hk
    by_cases hlt : 0 < k
    · have g0 : decide ((k : Int) > 0) = true := by simp; omega
      have g1 : decide ((0 : Int) < (k : Int)) = true := by simp; omega
      have g2 : decide (0 < k) = true := by simp; omega
      have hq : q ≤ 11 := by omega
      obtain ⟨j, hj⟩ : ∃ j, j = k - 1 := ⟨_, rfl⟩
      have kW : IntKind.i64.wrap ((k : Int) - 1) = (j : Int) := by rw [IntWalk.i64_in _ (by omega)]; omega
      have HJ := Lib.hid hj
      have HM := Lib.hid (show j < k by omega)
      clear hj
      clear hk
      go_wp2_with (fail)
      refine (pick_any R4 (by omega) (by omega)).mono ?_
      rintro e w5 ⟨u, rfl, hu5, R5, G5⟩
      have hub := picked9 hu5 (by omega)
      have uW : IntKind.i64.wrap (u - 1) = u - 1 := IntWalk.i64_in _ (by omega)
      clear hu5
      have O5 := O4.past hrl G5
      have s5 := G5.size
      go_wp2_with (at_builtin; refine wpList_apps _ rfl (.tmp 16) (.tmp 20) 23 rfl w1.heap.size 3 i0 (.int .i64 0) 8 Try.underlying23 hi hz0 hz1 hz2 rfl A1 q c1 _ rfl O5 1 1 #[.int .i64 (u - 1)] rfl rfl (by simp [Value.oneCell']) (by decide) (by omega) (by decide) (by omega) ?_; intro g cap w6 O6 G6 B6 _)
      go_roundw
      case rel => exact ⟨j, q + 1, _, _, ys ++ [u - 1], by have := HK.out; have := HJ.out; omega, rfl, rfl, by rw [ints_app]; exact O6, by rw [show 1 + (q + 1) = 1 + q + 1 by omega]; exact R5.grown G6 (own_far O5 hrl R5), gr_new (gr_trans G4 G5) G6 (own_ge O5)⟩
      case measure => have := HM.out; simp [intOf]; omega
    · obtain rfl : k = 0 := by omega
      have g0 : decide (((0 : Nat) : Int) > 0) = false := rfl
      have g1 : decide ((0 : Int) > 0) = false := rfl
      obtain rfl : q = N := by omega
      clear hk hlt HK
      go_wp2_with (fail)
      refine (num_any (n := 6) (l := [3, 6, 0, 7, -1, 4]) (R4.alloc _) (by omega) (Has.row #[.int .i64 3, .int .i64 6, .int .i64 0, .int .i64 7, .int .i64 (-1), .int .i64 4] rfl rfl (by unfold maxLen; omega)) (fun ad ha => by injection ha with ha; subst ha; have := R4.lt; simp; omega) (by omega) (by omega)).mono ?_
      rintro e w7 ⟨t, rfl, ht, R7, G7⟩
      have htb : -1 ≤ t ∧ t ≤ 10 := by simp at ht; omega
      have O7 := (O4.bel ((Below.refl _ _).alloc (Nat.le_refl _) (.cells #[.int .i64 3, .int .i64 6, .int .i64 0, .int .i64 7, .int .i64 (-1), .int .i64 4] 3))).past hrl G7
      have GF := gr_trans G4 (gr_alloc G7)
      clear ht
      go_wp2
      go_ret2
      exact ⟨_, _, _, ys, _, rfl, O7.mono s1, by omega, htb, bel_read B1 R1 GF⟩
end Go.Proofs.Ytpciaokafokfmaa
