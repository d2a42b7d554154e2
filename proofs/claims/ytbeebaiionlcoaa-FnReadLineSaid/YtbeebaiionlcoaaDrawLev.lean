/-
  Chapter 8's draws: what is proved here is what is drawn, in memory of its own, and that nothing that was there is written. No condition.
-/
import Derived.Test.YtbeebaiionlcoaaLevC
import Derived.Test.YtbeebaiionlcoaaDraw1
namespace Go.Proofs.Ytbeebaiionlcoaa
open Go.RowKit

/-- What is drawn: ints. -/
def IntsO (w w' : World) (e : Ending) : Prop := ∃ A' n' c' xs, e = .returned (.slice A' n' c') ∧ Own w' w.heap.size 3 A' n' c' (ints .i64 xs) ∧ n' ≤ 16001 ∧ Below w.heap.size w w'
/-- What is drawn: ints and a number. -/
def IntsN (w w' : World) (e : Ending) : Prop := ∃ A' n' c' xs v, e = .returned (.tuple #[.slice A' n' c', .int .i64 v]) ∧ Own w' w.heap.size 3 A' n' c' (ints .i64 xs) ∧ n' ≤ 16001 ∧ (0 ≤ v ∧ v ≤ 41) ∧ Below w.heap.size w w'
/-- What is drawn: ints twice. -/
def IntsT (w w' : World) (e : Ending) : Prop := ∃ A' n' c' xs B' m' d' ys, e = .returned (.tuple #[.slice A' n' c', .slice B' m' d']) ∧ Own w' w.heap.size 3 A' n' c' (ints .i64 xs) ∧ n' ≤ 400 ∧ Own w' w.heap.size 3 B' m' d' (ints .i64 ys) ∧ m' ≤ 30 ∧ Below w.heap.size w w'
/-- What is drawn of a source: ints. -/
def IntsR (w w' : World) (lo r p n0 n1 : Nat) (e : Ending) : Prop := ∃ A' n' c' zs p', e = .returned (.slice A' n' c') ∧ Own w' w.heap.size 3 A' n' c' (ints .i64 zs) ∧ n0 ≤ n' ∧ n' ≤ n1 ∧ p' ≤ p + 100 ∧ Rd w' lo r p' ∧ w.grownBy w' (some r)
theorem one_grown8 (w : World) (B k : Nat) (v : Value) : w.grownBy (w.setCell ⟨B, k, none⟩ v) (some B) :=
  ⟨rfl, rfl, rfl, by simp, fun i _ hi => heap_setCell_other w ⟨B, k, none⟩ i v (fun e => hi (by simp [e]))⟩
theorem zeros_ints8 : Value.cells (.int .i64 0) = #[.int .i64 0] := rfl
theorem picked_b8 {m v : Int} (h : Picked m v) (hm : 1 ≤ m) : 0 ≤ v ∧ v < m := by unfold Picked at h; omega

set_option maxRecDepth 100000 in
set_option maxHeartbeats 4000000 in
theorem l8Draw_any {lo r p : Nat} {w : World} (h : Rd w lo r p) (hp : p ≤ 274877906944) :
    Calls Try.prog 39 #[.pointer (some ⟨r, 0, none⟩)] w fun e w' => IntsR w w' lo r p 0 201 e := by
  obtain ⟨i0, hi, hz0, hz1, hz2⟩ := info_parts Try.infoInt
  have hrl := h.lt
  go_enter Try.func39, Try.ntmps39
  go_wp2_with (fail)
  refine (num_any (n := 7) (l := [4, 1, 0, 8, 20, 3, 60]) ((h.alloc (.cells #[] 3)).alloc _) (by omega) (Has.rowAt #[.int .i64 4, .int .i64 1, .int .i64 0, .int .i64 8, .int .i64 20, .int .i64 3, .int .i64 60] rfl rfl (by decide) _ (by simp)) (fun ad ha => by injection ha with ha; subst ha; simp; omega) (by omega) (by omega)).mono ?_
  rintro e w1 ⟨v, rfl, hv, R1, G1⟩
  have hvb : 0 ≤ v ∧ v ≤ 60 := by simp at hv; omega
  obtain ⟨N, rfl⟩ := Int.eq_ofNat_of_zero_le hvb.1
  have hN : N ≤ 60 := by omega
  clear hv hvb
  have O1 := ((lit_own w).bel ((Below.refl _ _).alloc (Nat.le_refl _) (.cells #[.int .i64 4, .int .i64 1, .int .i64 0, .int .i64 8, .int .i64 20, .int .i64 3, .int .i64 60] 3))).past hrl G1
  have G1' := gr_alloc (gr_alloc G1)
  clear G1
  go_wp2
  go_loopw [3, 4] (fun v i wr => ∃ k q A' c' zs, k + q = N ∧ i = .int .i64 ((k : Nat) : Int) ∧ v = .slice A' q c' ∧ Own wr w.heap.size 3 A' q c' (ints .i64 zs) ∧ Rd wr lo r (p + 1 + q) ∧ w.grownBy wr (some r)) (fun _ i _ => (intOf i).toNat)
  case atStart => exact ⟨N, 0, _, _, [], by omega, rfl, rfl, O1, R1, G1'⟩
  case round =>
    obtain ⟨k, q, A1, c1, zs, hk, rfl, rfl, O2, R2, G2⟩ := hrel
    have hge := G2.size
    have HK := Lib.hid hk
    by_cases hlt : 0 < k
    · have g0 : decide ((k : Int) > 0) = true := by simp; omega
      have g1 : decide ((0 : Int) < (k : Int)) = true := by simp; omega
      have g2 : decide (0 < k) = true := by simp; omega
      have hq : q ≤ 60 := by omega
      obtain ⟨j, hj⟩ : ∃ j, j = k - 1 := ⟨_, rfl⟩
      have kW : IntKind.i64.wrap ((k : Int) - 1) = (j : Int) := by rw [IntWalk.i64_in _ (by omega)]; omega
      have HJ := Lib.hid hj
      have HM := Lib.hid (show j < k by omega)
      clear hj
      clear hk
      go_wp2_with (fail)
      refine (pick_any R2 (by omega) (by omega)).mono ?_
      rintro e w3 ⟨u, rfl, hu, R3, G3⟩
      clear hu
      have O3 := O2.past hrl G3
      have s3 := G3.size
      go_wp2_with (at_builtin; refine wpList_apps _ rfl (.tmp 13) (.tmp 16) 23 rfl w.heap.size 3 i0 (.int .i64 0) 8 Try.underlying23 hi hz0 hz1 hz2 rfl A1 q c1 _ rfl O3 1 1 #[.int .i64 u] rfl rfl (by simp [Value.oneCell']) (by decide) (by omega) (by decide) (by omega) ?_; intro g cap w4 O4 G4 B4 _)
      go_roundw
      case rel => exact ⟨j, q + 1, _, _, zs ++ [u], by have := HK.out; have := HJ.out; omega, rfl, rfl, by rw [ints_app]; exact O4, by rw [show p + 1 + (q + 1) = p + 1 + q + 1 by omega]; exact R3.grown G4 (own_far O3 hrl R3), gr_new (gr_trans G2 G3) G4 (own_ge O3)⟩
      case measure => have := HM.out; simp [intOf]; omega
    · obtain rfl : k = 0 := by omega
      have g0 : decide (((0 : Nat) : Int) > 0) = false := rfl
      have g1 : decide ((0 : Int) > 0) = false := rfl
      obtain rfl : q = N := by omega
      clear hk hlt HK
      go_wp2_with (fail)
      refine (pick_any R2 (by omega) (by omega)).mono ?_
      rintro e w3 ⟨u, rfl, hu, R3, G3⟩
      clear hu
      have O3 := O2.past hrl G3
      have s3 := G3.size
      have G3' := gr_trans G2 G3
      by_cases hu0 : u = 0
      · subst hu0
        go_wp2_with (at_builtin; refine wpList_apps _ rfl (.tmp 22) (.tmp 23) 23 rfl w.heap.size 3 i0 (.int .i64 0) 8 Try.underlying23 hi hz0 hz1 hz2 rfl A1 q c1 _ rfl O3 1 1 #[.int .i64 2] rfl rfl (by simp [Value.oneCell']) (by decide) (by omega) (by decide) (by omega) ?_; intro g cap w4 O4 G4 B4 _)
        go_ret
        exact ⟨_, _, _, zs ++ [2], _, rfl, by rw [ints_app]; exact O4, by omega, by omega, by omega, R3.grown G4 (own_far O3 hrl R3), gr_new G3' G4 (own_ge O3)⟩
      · have h0B : (u == 0) = false := by simp [hu0]
        by_cases hu1 : u = 1
        · subst hu1
          have sle : w.heap.size ≤ w3.heap.size := by omega
          go_wp2_with (refine wpList_make_full _ rfl _ _ 23 rfl w3.heap.size 3 i0 (.int .i64 0) 1 Try.underlying23 hi hz0 hz1 .i64 .i64 _ _ 201 rfl rfl (by omega) (by omega) (by rw [hz2]; omega) (by unfold maxLen; omega) (Nat.le_refl _) ?_; intro w4 hown hgrow)
          have hcap : (madeCells (Value.cells (.int .i64 0)) (201 * 1)).toList = ints .i64 (List.replicate 201 0) := by
            rw [Nat.mul_one, zeros_ints8]; exact toList_madeCells_one _ _
          have O4 : Own w4 w3.heap.size 3 (some ⟨w3.heap.size, 0, none⟩) 201 201 (ints .i64 (List.replicate 201 0)) := by unfold Own; rw [← hcap]; exact hown
          have B4 : Below w3.heap.size w3 w4 := below_of_grown hgrow (Nat.le_refl _) (fun k hk => by cases hk)
          clear hown hgrow hcap
          go_ret
          exact ⟨_, _, _, List.replicate 201 0, _, rfl, O4.mono sle, by omega, by omega, by omega, R3.bel B4, gr_bel G3' B4⟩
        · have h1B : (u == 1) = false := by simp [hu1]
          clear hu0 hu1
          go_wp2
          go_ret
          exact ⟨_, _, _, zs, _, rfl, O3, by omega, by omega, by omega, R3, G3'⟩

set_option maxHeartbeats 4000000 in
theorem l8Widths_any {lo r p : Nat} {wd : Int} {w : World} (h : Rd w lo r p) (hp : p ≤ 274877906944) (hwd : 0 ≤ wd ∧ wd ≤ 100) :
    Calls Try.prog 46 #[.pointer (some ⟨r, 0, none⟩), .int .i64 wd] w fun e w' => IntsR w w' lo r p 1 30 e := by
  obtain ⟨i0, hi, hz0, hz1, hz2⟩ := info_parts Try.infoInt
  have hrl := h.lt
  go_enter Try.func46, Try.ntmps46
  go_wp2_with (fail)
  refine (num_any (n := 4) (l := [4, 4, 5, 2]) ((h.alloc (.cells #[] 3)).alloc _) (by omega) (Has.rowAt #[.int .i64 4, .int .i64 4, .int .i64 5, .int .i64 2] rfl rfl (by decide) _ (by simp)) (fun ad ha => by injection ha with ha; subst ha; simp; omega) (by omega) (by omega)).mono ?_
  rintro e w1 ⟨dv, rfl, hdv, R1, G1⟩
  have hdb : 2 ≤ dv ∧ dv ≤ 5 := by simp at hdv; omega
  have O1 := ((lit_own w).bel ((Below.refl _ _).alloc (Nat.le_refl _) (.cells #[.int .i64 4, .int .i64 4, .int .i64 5, .int .i64 2] 3))).past hrl G1
  have G1' := gr_alloc (gr_alloc G1)
  have s1 := G1'.size
  have hdz : (dv == 0) = false := by simp; omega
  obtain ⟨ap, hap⟩ : ∃ ap, Int.tdiv wd dv = ap := ⟨_, rfl⟩
  have hapb : 0 ≤ ap ∧ ap ≤ 100 := by
    rw [← hap, Int.tdiv_eq_ediv_of_nonneg hwd.1]
    refine ⟨Int.ediv_nonneg hwd.1 (by omega), Int.le_trans (Int.ediv_le_self _ hwd.1) hwd.2⟩
  have hapW : IntKind.i64.wrap ap = ap := IntWalk.i64_in _ (by omega)
  have hap2 : wd / dv = ap := by rw [← hap, Int.tdiv_eq_ediv_of_nonneg hwd.1]
  clear hdv G1
  go_wp2_with (fail)
  refine (num_any (n := 4) (l := [9, 1, 30, 2]) (R1.alloc _) (by omega) (Has.row #[.int .i64 9, .int .i64 1, .int .i64 30, .int .i64 2] rfl rfl (by unfold maxLen; omega)) (fun ad ha => by injection ha with ha; subst ha; have := R1.lt; simp; omega) (by omega) (by omega)).mono ?_
  rintro e w2 ⟨v, rfl, hv, R2, G2⟩
  have hvb : 1 ≤ v ∧ v ≤ 30 := by simp at hv; omega
  obtain ⟨N, rfl⟩ := Int.eq_ofNat_of_zero_le (show 0 ≤ v by omega)
  have hN : N ≤ 30 := by omega
  have hN1 : 1 ≤ N := by omega
  have O2 := (O1.bel ((Below.refl _ _).alloc (Nat.le_refl _) (.cells #[.int .i64 9, .int .i64 1, .int .i64 30, .int .i64 2] 3))).past hrl G2
  have G2' := gr_trans G1' (gr_alloc G2)
  clear hv hvb G2 hap hap2 hdz hdb
  go_wp2
  go_loopw [5, 7] (fun v i wr => ∃ k q A' c' zs, k + q = N ∧ i = .int .i64 ((k : Nat) : Int) ∧ v = .slice A' q c' ∧ Own wr w.heap.size 3 A' q c' (ints .i64 zs) ∧ Rd wr lo r (p + 2 + q) ∧ w.grownBy wr (some r)) (fun _ i _ => (intOf i).toNat)
  case atStart => exact ⟨N, 0, _, _, [], by omega, rfl, rfl, O2, R2, G2'⟩
  case round =>
    obtain ⟨k, q, A1, c1, zs, hk, rfl, rfl, O3, R3, G3⟩ := hrel
    have hge := G3.size
    have HK := Lib.hid hk
    by_cases hlt : 0 < k
    · have g0 : decide ((k : Int) > 0) = true := by simp; omega
      have g1 : decide ((0 : Int) < (k : Int)) = true := by simp; omega
      have g2 : decide (0 < k) = true := by simp; omega
      have hq : q ≤ 60 := by omega
      obtain ⟨j, hj⟩ : ∃ j, j = k - 1 := ⟨_, rfl⟩
      have kW : IntKind.i64.wrap ((k : Int) - 1) = (j : Int) := by rw [IntWalk.i64_in _ (by omega)]; omega
      have HJ := Lib.hid hj
      have HM := Lib.hid (show j < k by omega)
      clear hj
      have x1 : IntKind.i64.wrap (wd - ap) = wd - ap := IntWalk.i64_in _ (by omega)
      have x2 : IntKind.i64.wrap (2 * ap) = 2 * ap := IntWalk.i64_in _ (by omega)
      have x3 : IntKind.i64.wrap (2 * ap + 1) = 2 * ap + 1 := IntWalk.i64_in _ (by omega)
      clear hk
      go_wp2_with (fail)
      refine (pick_any R3 (by omega) (by omega)).mono ?_
      rintro e w4 ⟨u, rfl, hu, R4, G4⟩
      have hub := picked_b8 hu (by omega)
      obtain ⟨mx, hmx⟩ : ∃ mx, max 1 (wd - ap + u) = mx := ⟨_, rfl⟩
      have x4 : IntKind.i64.wrap (wd - ap + u) = wd - ap + u := IntWalk.i64_in _ (by omega)
      clear hu hub
      have O4 := O3.past hrl G4
      have s4 := G4.size
      go_wp2_with (at_builtin; refine wpList_apps _ rfl (.tmp 21) (.tmp 32) 23 rfl w.heap.size 3 i0 (.int .i64 0) 8 Try.underlying23 hi hz0 hz1 hz2 rfl A1 q c1 _ rfl O4 1 1 #[.int .i64 mx] rfl rfl (by simp [Value.oneCell']) (by decide) (by omega) (by decide) (by omega) ?_; intro g cap w5 O5 G5 B5 _)
      go_roundw
      case rel => exact ⟨j, q + 1, _, _, zs ++ [mx], by have := HK.out; have := HJ.out; omega, rfl, rfl, by rw [ints_app]; exact O5, by rw [show p + 2 + (q + 1) = p + 2 + q + 1 by omega]; exact R4.grown G5 (own_far O4 hrl R4), gr_new (gr_trans G3 G4) G5 (own_ge O4)⟩
      case measure => have := HM.out; simp [intOf]; omega
    · obtain rfl : k = 0 := by omega
      have g0 : decide (((0 : Nat) : Int) > 0) = false := rfl
      have g1 : decide ((0 : Int) > 0) = false := rfl
      obtain rfl : q = N := by omega
      clear hk hlt HK
      go_wp2
      go_ret
      exact ⟨_, _, _, zs, _, rfl, O3, hN1, hN, by omega, R3, G3⟩

set_option maxHeartbeats 1000000 in
theorem drawLevelsOf_any {A : Option Addr} {n c : Nat} {zs : List Int} {w : World} (h : Has w A n (ints .u8 zs)) (hu : U8s zs) (hc : n ≤ c ∧ c ≤ maxLen) :
    Calls Try.prog 16 #[.slice A n c] w fun e w' => IntsO w w' e := by
  go_enter Try.func16, Try.ntmps16
  go_wp2_with (fail)
  refine (open_any h hu hc).mono ?_
  rintro e w1 ⟨r, rfl, R1, B1⟩
  go_wp2_with (fail)
  refine (l8Draw_any R1 (by omega)).mono ?_
  rintro e w2 hX
  unfold IntsR at hX
  obtain ⟨A2, n2, c2, xs, p2, rfl, O2, _, hn2, hp2, R2, G2⟩ := hX
  go_wp2
  go_ret
  exact ⟨_, _, _, xs, rfl, O2.mono B1.size, by omega, bel_read B1 R1 G2⟩

set_option maxHeartbeats 4000000 in
theorem drawBitsFrom_any {A : Option Addr} {n c : Nat} {zs : List Int} {w : World} (h : Has w A n (ints .u8 zs)) (hu : U8s zs) (hc : n ≤ c ∧ c ≤ maxLen) :
    Calls Try.prog 21 #[.slice A n c] w fun e w' => IntsO w w' e := by
  obtain ⟨i0, hi, hz0, hz1, hz2⟩ := info_parts Try.infoInt
  go_enter Try.func21, Try.ntmps21
  go_wp2_with (fail)
  refine (open_any h hu hc).mono ?_
  rintro e w1 ⟨r, rfl, R1, B1⟩
  have hr1 := R1.lt
  have s1 := B1.size
  go_wp2_with (fail)
  refine (l8Draw_any R1 (by omega)).mono ?_
  rintro e w2 hX
  unfold IntsR at hX
  obtain ⟨A2, n2, c2, xs, p2, rfl, O2, _, hn2, hp2, R2, G2⟩ := hX
  have C2 := bel_read B1 R1 G2
  have s2 := G2.size
  go_wp2_with (fail)
  refine (specLevelsOf_w O2.has (by omega)).mono ?_
  rintro e w3 ⟨A3, n3, c3, rfl, O3', B3⟩
  have hn3 : n3 ≤ 400 := by have := O3'.has.len; have := levelsL_len xs; omega
  have O3 := O3'.mono (lo' := w1.heap.size) s2
  have R3 := R2.bel B3
  have C3 := bel_trans C2 B3
  generalize levelsL xs = ys at *
  have s3 : w1.heap.size ≤ w3.heap.size := by have := B3.size; omega
  clear O2 R2 C2 G2 B3 O3'
  by_cases hn0 : n3 = 0
  · subst hn0
    have g0 : decide ((0 : Int) > 0) = false := rfl
    have g1 : decide (((0 : Nat) : Int) > 0) = false := rfl
    go_wp2_with (fail)
    refine (pick_any R3 (by omega) (by omega)).mono ?_
    rintro e wq ⟨vq, rfl, hvq, RQ, GQ⟩
    have OQ := O3.past hr1 GQ
    have CQ : Below w.heap.size w wq := C3.trans (below_of_grown GQ C3.size (fun k hk => by injection hk with hk; subst hk; exact R3.1))
    have sq : w1.heap.size ≤ wq.heap.size := Nat.le_trans s3 GQ.size
    clear hvq
    by_cases hq0 : vq = 0
    · subst hq0
      go_wp2_with (at_builtin; refine wpList_apps _ rfl (.tmp 29) (.tmp 30) 23 rfl w1.heap.size 3 i0 (.int .i64 0) 8 Try.underlying23 hi hz0 hz1 hz2 rfl A3 0 c3 _ rfl OQ 1 1 #[.int .i64 1] rfl rfl (by simp [Value.oneCell']) (by decide) (by omega) (by decide) sq ?_; intro g8 c8 w8 O8 G8 B8 _)
      go_ret
      exact ⟨_, _, _, ys ++ [1], rfl, by rw [ints_app]; exact O8.mono s1, by omega, CQ.trans (B8.mono s1)⟩
    · have hqB : (vq == 0) = false := by simp [hq0]
      clear hq0
      go_wp2
      go_ret
      exact ⟨_, _, _, ys, rfl, OQ.mono s1, by omega, CQ⟩
  · have g0 : decide ((n3 : Int) > 0) = true := by simp; omega
    have g1 : decide ((0 : Int) < (n3 : Int)) = true := by simp; omega
    have g2 : decide (0 < n3) = true := by simp; omega
    go_wp2_with (fail)
    refine (pick_any R3 (by omega) (by omega)).mono ?_
    rintro e w4 ⟨v4, rfl, hv4, R4, G4⟩
    have O4 := O3.past hr1 G4
    have s4 : w1.heap.size ≤ w4.heap.size := Nat.le_trans s3 G4.size
    have C4 : Below w.heap.size w w4 := C3.trans (below_of_grown G4 C3.size (fun k hk => by injection hk with hk; subst hk; exact R3.1))
    clear hv4
    by_cases hv0 : v4 = 0
    rotate_left
    · have hvB : (v4 == 0) = false := by simp [hv0]
      clear hv0
      go_wp2_with (fail)
      refine (pick_any R4 (by omega) (by omega)).mono ?_
      rintro e wq ⟨vq, rfl, hvq, RQ, GQ⟩
      have OQ := O4.past hr1 GQ
      have CQ : Below w.heap.size w wq := C4.trans (below_of_grown GQ C4.size (fun k hk => by injection hk with hk; subst hk; exact R4.1))
      have sq : w1.heap.size ≤ wq.heap.size := Nat.le_trans s4 GQ.size
      clear hvq
      by_cases hq0 : vq = 0
      · subst hq0
        go_wp2_with (at_builtin; refine wpList_apps _ rfl (.tmp 29) (.tmp 30) 23 rfl w1.heap.size 3 i0 (.int .i64 0) 8 Try.underlying23 hi hz0 hz1 hz2 rfl A3 n3 c3 _ rfl OQ 1 1 #[.int .i64 1] rfl rfl (by simp [Value.oneCell']) (by decide) (by omega) (by decide) sq ?_; intro g8 c8 w8 O8 G8 B8 _)
        go_ret
        exact ⟨_, _, _, ys ++ [1], rfl, by rw [ints_app]; exact O8.mono s1, by omega, CQ.trans (B8.mono s1)⟩
      · have hqB : (vq == 0) = false := by simp [hq0]
        clear hq0
        go_wp2
        go_ret
        exact ⟨_, _, _, ys, rfl, OQ.mono s1, by omega, CQ⟩
    · subst hv0
      have hvB : ((0 : Int) == 0) = true := rfl
      go_wp2_with (fail)
      refine (pick_any (m := (n3 : Int)) R4 (by omega) (by omega)).mono ?_
      rintro e w5 ⟨v5, rfl, hv5, R5, G5⟩
      have hv5b := picked_b8 hv5 (by omega)
      obtain ⟨i, rfl⟩ := Int.eq_ofNat_of_zero_le hv5b.1
      have hin : i < n3 := by omega
      go_wp2_with (fail)
      refine (pick_any R5 (by omega) (by omega)).mono ?_
      rintro e w6 ⟨v6, rfl, hv6, R6, G6⟩
      have G46 := gr_trans G5 G6
      have O6 := O4.past hr1 G46
      have C6 : Below w.heap.size w w6 := C4.trans (below_of_grown G46 C4.size (fun k hk => by injection hk with hk; subst hk; exact R4.1))
      obtain ⟨g, rfl, hg0, hg1⟩ := O6.head (by omega)
      obtain ⟨uu, _, hd, hf⟩ := O6.at_ hin
      have b1 : (i : Int) < (n3 : Int) := by omega
      have O7 := O6.set_ i (.int .i64 v6)
      rw [ints_set] at O7
      have R7 := R6.grown (one_grown8 w6 g i (.int .i64 v6)) (fun k hk => by injection hk with hk; subst hk; exact ⟨by have := R6.1; omega, by omega⟩)
      have C7 := C6.setCell (p := ⟨g, i, none⟩) (by show w.heap.size ≤ g; omega) (.int .i64 v6)
      obtain ⟨w7, hw7⟩ : ∃ w7, w6.setCell ⟨g, i, none⟩ (.int .i64 v6) = w7 := ⟨_, rfl⟩
      rw [hw7] at O7 R7 C7
      have s7 : w1.heap.size ≤ w7.heap.size := by rw [← hw7]; simp; exact Nat.le_trans s4 G46.size
      clear hv5 hv6 hv5b G5 G6 R5 O4 C4 C6
      go_wp2_with (fail)
      refine (pick_any R7 (by omega) (by omega)).mono ?_
      rintro e wq ⟨vq, rfl, hvq, RQ, GQ⟩
      have OQ := O7.past hr1 GQ
      have CQ : Below w.heap.size w wq := C7.trans (below_of_grown GQ C7.size (fun k hk => by injection hk with hk; subst hk; exact R7.1))
      have sq : w1.heap.size ≤ wq.heap.size := Nat.le_trans s7 GQ.size
      clear hvq
      by_cases hq0 : vq = 0
      · subst hq0
        go_wp2_with (at_builtin; refine wpList_apps _ rfl (.tmp 29) (.tmp 30) 23 rfl w1.heap.size 3 i0 (.int .i64 0) 8 Try.underlying23 hi hz0 hz1 hz2 rfl (some ⟨g, 0, none⟩) n3 c3 _ rfl OQ 1 1 #[.int .i64 1] rfl rfl (by simp [Value.oneCell']) (by decide) (by omega) (by decide) sq ?_; intro g8 c8 w8 O8 G8 B8 _)
        go_ret
        exact ⟨_, _, _, (ys.set i v6) ++ [1], rfl, by rw [ints_app]; exact O8.mono s1, by omega, CQ.trans (B8.mono s1)⟩
      · have hqB : (vq == 0) = false := by simp [hq0]
        clear hq0
        go_wp2
        go_ret
        exact ⟨_, _, _, (ys.set i v6), rfl, OQ.mono s1, by omega, CQ⟩

set_option maxHeartbeats 4000000 in
theorem drawTicksOf_any {A : Option Addr} {n c : Nat} {zs : List Int} {w : World} (h : Has w A n (ints .u8 zs)) (hu : U8s zs) (hc : n ≤ c ∧ c ≤ maxLen) :
    Calls Try.prog 26 #[.slice A n c] w fun e w' => IntsT w w' e := by
  go_enter Try.func26, Try.ntmps26
  go_wp2_with (fail)
  refine (open_any h hu hc).mono ?_
  rintro e w1 ⟨r, rfl, R1, B1⟩
  have hr1 := R1.lt
  have s1 := B1.size
  go_wp2_with (fail)
  refine (l8Draw_any R1 (by omega)).mono ?_
  rintro e w2 hX
  unfold IntsR at hX
  obtain ⟨A2, n2, c2, xs, p2, rfl, O2, _, hn2, hp2, R2, G2⟩ := hX
  have C2 := bel_read B1 R1 G2
  have s2 := G2.size
  go_wp2_with (fail)
  refine (specLevelsOf_w O2.has (by omega)).mono ?_
  rintro e w3 ⟨A3, n3, c3, rfl, O3', B3⟩
  have hn3 : n3 ≤ 400 := by have := O3'.has.len; have := levelsL_len xs; omega
  have O3 := O3'.mono (lo' := w1.heap.size) s2
  have R3 := R2.bel B3
  have C3 := bel_trans C2 B3
  generalize levelsL xs = ys at *
  have s3 : w1.heap.size ≤ w3.heap.size := by have := B3.size; omega
  have hlt3 := O3.lt
  clear O2 R2 C2 G2 B3 O3'
  go_wp2_with (fail)
  refine (num_any (n := 5) (l := [8, 4, 1, 20, 3]) (R3.alloc _) (by omega) (Has.row #[.int .i64 8, .int .i64 4, .int .i64 1, .int .i64 20, .int .i64 3] rfl rfl (by unfold maxLen; omega)) (fun ad ha => by injection ha with ha; subst ha; have := R3.lt; simp; omega) (by omega) (by omega)).mono ?_
  rintro e w4 ⟨wd, rfl, hwd, R4, G4⟩
  have hwb : 0 ≤ wd ∧ wd ≤ 100 := by simp at hwd; omega
  have G4' := gr_alloc G4
  have s4 := G4'.size
  go_wp2_with (fail)
  refine (l8Widths_any R4 (by omega) hwb).mono ?_
  rintro e w5 hX
  unfold IntsR at hX
  obtain ⟨A5, n5, c5, vs, p5, rfl, O5, h51, h52, hp5, R5, G5⟩ := hX
  have s5 := G5.size
  have hr4 := R4.lt
  clear hwd hwb
  go_wp2_with (fail)
  refine (pick_any R5 (by omega) (by omega)).mono ?_
  rintro e w6 ⟨v6, rfl, hv6, R6, G6⟩
  have G36 := gr_trans (gr_trans G4' G5) G6
  have O6 := O3.past hr1 G36
  have P6 := O5.past hr4 G6
  have C6 : Below w.heap.size w w6 := C3.trans (below_of_grown G36 C3.size (fun k hk => by injection hk with hk; subst hk; exact R3.1))
  have s6 := G6.size
  clear hv6 G4 G5 G6 O3 O5 R4 R5
  by_cases hv0 : v6 = 0
  · subst hv0
    go_wp2
    go_ret2
    exact ⟨_, _, _, ys, _, _, _, [], rfl, (O6.bel (lit_below w6)).mono s1, by omega, lit_own' (w := w) (wr := w6) (by omega), by omega, C6.alloc (by omega) _⟩
  · have h0B : (v6 == 0) = false := by simp [hv0]
    by_cases hv1 : v6 = 1
    · subst hv1
      go_wp2_with (fail)
      refine (num_any (n := 2) (l := [0, 41]) (R6.alloc _) (by omega) (Has.row #[.int .i64 0, .int .i64 41] rfl rfl (by unfold maxLen; omega)) (fun ad ha => by injection ha with ha; subst ha; have := R6.lt; simp; omega) (by omega) (by omega)).mono ?_
      rintro e w7 ⟨v7, rfl, hv7, R7, G7⟩
      have G67 := gr_alloc G7
      have O7 := O6.past hr1 G67
      have P7 := P6.past hr4 G67
      have C7 : Below w.heap.size w w7 := C6.trans (below_of_grown G67 C6.size (fun k hk => by injection hk with hk; subst hk; exact R6.1))
      have hA3 : ∀ ad, A3 = some ad → ad.block < w3.heap.size := fun ad had => by subst had; exact hlt3 ad rfl
      obtain ⟨g, rfl, hg0, hg1⟩ := P7.head (by omega)
      obtain ⟨uu, _, hd, hf⟩ := P7.at_ (k := 0) (by omega)
      have b1 : (0 : Int) < (n5 : Int) := by omega
      have P8 := P7.set_ 0 (.int .i64 v7)
      rw [ints_set] at P8
      have O8 := O7.grown (one_grown8 w7 g 0 (.int .i64 v7)) (fun a ha e => by injection e with e; have := hA3 a ha; omega)
      have C8 := C7.setCell (p := ⟨g, 0, none⟩) (by show w.heap.size ≤ g; omega) (.int .i64 v7)
      clear hv7 G7
      go_wp2
      go_ret2
      exact ⟨_, _, _, ys, _, _, _, _, rfl, O8.mono s1, by omega, P8.mono (by omega), by omega, C8⟩
    · have h1B : (v6 == 1) = false := by simp [hv1]
      clear hv0 hv1
      go_wp2
      go_ret2
      exact ⟨_, _, _, ys, _, _, _, _, rfl, O6.mono s1, by omega, P6.mono (by omega), by omega, C6⟩

set_option maxHeartbeats 4000000 in
theorem drawLevelsFrom_any {A : Option Addr} {n c : Nat} {zs : List Int} {w : World} (h : Has w A n (ints .u8 zs)) (hu : U8s zs) (hc : n ≤ c ∧ c ≤ maxLen) :
    Calls Try.prog 30 #[.slice A n c] w fun e w' => IntsN w w' e := by
  obtain ⟨i0, hi, hz0, hz1, hz2⟩ := info_parts Try.infoInt
  go_enter Try.func30, Try.ntmps30
  go_wp2_with (fail)
  refine (open_any h hu hc).mono ?_
  rintro e w1 ⟨r, rfl, R1, B1⟩
  have hr1 := R1.lt
  have s1 := B1.size
  go_wp2_with (fail)
  refine (num_any (n := 6) (l := [8, 4, 1, 20, 3, 5]) (R1.alloc _) (by omega) (Has.row #[.int .i64 8, .int .i64 4, .int .i64 1, .int .i64 20, .int .i64 3, .int .i64 5] rfl rfl (by unfold maxLen; omega)) (fun ad ha => by injection ha with ha; subst ha; simp; omega) (by omega) (by omega)).mono ?_
  rintro e w2 ⟨wd, rfl, hwd, R2, G2⟩
  have hwb : 0 ≤ wd ∧ wd ≤ 20 := by simp at hwd; omega
  have G2' := gr_alloc G2
  have s2 := G2'.size
  clear hwd G2
  go_wp2_with (fail)
  refine (l8Draw_any R2 (by omega)).mono ?_
  rintro e w3 hX
  unfold IntsR at hX
  obtain ⟨A3, n3, c3, xs, p3, rfl, O3, _, hn3, hp3, R3, G3⟩ := hX
  have C3 := bel_read B1 R1 (gr_trans G2' G3)
  have s3 := G3.size
  go_wp2_with (fail)
  refine (specLevelsOf_w O3.has (by omega)).mono ?_
  rintro e w4 ⟨A4, n4, c4, rfl, O4, B4⟩
  have hn4 : n4 ≤ 400 := by have := O4.has.len; have := levelsL_len xs; omega
  have R4 := R3.bel B4
  have C4 := bel_trans C3 B4
  have hr3 := R3.lt
  have s4 := B4.size
  generalize levelsL xs = ys at *
  clear O3 R3 C3 G3 B4
  go_wp2_with (fail)
  refine (l8Widths_any R4 (by omega) (by omega)).mono ?_
  rintro e w5 hX
  unfold IntsR at hX
  obtain ⟨A5, n5, c5, vs, p5, rfl, O5, h51, h52, hp5, R5, G5⟩ := hX
  have s5 := G5.size
  have P5 := O4.past hr3 G5
  have C5 : Below w.heap.size w w5 := C4.trans (below_of_grown G5 C4.size (fun k hk => by injection hk with hk; subst hk; exact R4.1))
  go_wp2_with (fail)
  refine (specTicksOf_w P5.has O5.has (by omega) (by omega)).mono ?_
  rintro e w6 ⟨A6, n6, c6, rfl, O6, B6⟩
  have hn6 : n6 ≤ 16000 := by have := O6.has.len; have := ticksL_len ys vs; omega
  have R6 := R5.bel B6
  have hr5 := R5.lt
  have C6 := bel_trans C5 B6
  generalize ticksL ys vs = tk at *
  have s6 := B6.size
  clear O4 O5 P5 R5 R4 G5 C4 C5 B6
  go_wp2_with (fail)
  refine (pick_any R6 (by omega) (by omega)).mono ?_
  rintro e w7 ⟨v7, rfl, hv7, R7, G7⟩
  have O7 := O6.past hr5 G7
  have C7 : Below w.heap.size w w7 := C6.trans (below_of_grown G7 C6.size (fun k hk => by injection hk with hk; subst hk; exact R6.1))
  have s7 := G7.size
  clear hv7 O6 C6
  by_cases hv0 : v7 = 0
  · subst hv0
    go_wp2_with (fail)
    refine (num_any (n := 3) (l := [0, 41, 2]) (R7.alloc _) (by omega) (Has.row #[.int .i64 0, .int .i64 41, .int .i64 2] rfl rfl (by unfold maxLen; omega)) (fun ad ha => by injection ha with ha; subst ha; have := R7.lt; simp; omega) (by omega) (by omega)).mono ?_
    rintro e w8 ⟨v8, rfl, hv8, R8, G8⟩
    have hv8b : 0 ≤ v8 ∧ v8 ≤ 41 := by simp at hv8; omega
    have G8' := gr_alloc G8
    have O8 := O7.past hr5 G8'
    have C8 : Below w.heap.size w w8 := C7.trans (below_of_grown G8' C7.size (fun k hk => by injection hk with hk; subst hk; exact R7.1))
    clear hv8 G8
    go_wp2
    go_ret2
    exact ⟨_, _, _, tk, _, rfl, O8.mono (by omega), by omega, hv8b, C8⟩
  · have h0B : (v7 == 0) = false := by simp [hv0]
    by_cases hv1 : v7 = 1
    · subst hv1
      go_wp2_with (at_builtin; refine wpList_apps _ rfl (.tmp 29) (.tmp 30) 23 rfl w5.heap.size 3 i0 (.int .i64 0) 8 Try.underlying23 hi hz0 hz1 hz2 rfl A6 n6 c6 _ rfl O7 1 1 #[.int .i64 2] rfl rfl (by simp [Value.oneCell']) (by decide) (by omega) (by decide) (by omega) ?_; intro g8 c8 w8 O8 G8 B8 _)
      go_ret2
      exact ⟨_, _, _, tk ++ [2], _, rfl, by rw [ints_app]; exact O8.mono (by omega), by omega, by omega, C7.trans (B8.mono (by omega))⟩
    · have h1B : (v7 == 1) = false := by simp [hv1]
      clear hv0 hv1
      go_wp2
      go_ret2
      exact ⟨_, _, _, tk, _, rfl, O7.mono (by omega), by omega, by omega, C7⟩
theorem drawReadLine_any {A : Option Addr} {n c : Nat} {zs : List Int} {w : World} (h : Has w A n (ints .u8 zs)) (hu : U8s zs) (hc : n ≤ c ∧ c ≤ maxLen) :
    Calls Try.prog 33 #[.slice A n c] w fun e w' => IntsN w w' e := by
  go_enter Try.func33, Try.ntmps33
  go_wp2_with (fail)
  refine (drawLevelsFrom_any h hu hc).mono ?_
  rintro e w1 hX
  unfold IntsN at hX
  obtain ⟨A1, n1, c1, xs, v, rfl, O1, hn1, hv, B1⟩ := hX
  go_wp2
  go_ret2
  exact ⟨_, _, _, xs, _, rfl, O1, hn1, hv, B1⟩
theorem drawRunsOf_any {A : Option Addr} {n c : Nat} {zs : List Int} {w : World} (h : Has w A n (ints .u8 zs)) (hu : U8s zs) (hc : n ≤ c ∧ c ≤ maxLen) :
    Calls Try.prog 23 #[.slice A n c] w fun e w' => IntsO w w' e := by
  go_enter Try.func23, Try.ntmps23
  go_wp2_with (fail)
  refine (drawLevelsFrom_any h hu hc).mono ?_
  rintro e w1 hX
  unfold IntsN at hX
  obtain ⟨A1, n1, c1, xs, v, rfl, O1, hn1, hv, B1⟩ := hX
  go_wp2
  go_ret
  exact ⟨_, _, _, xs, rfl, O1, hn1, B1⟩
end Go.Proofs.Ytbeebaiionlcoaa
