/-
  Chapter 16's draws, a way: what is proved here is that a fabric and a way are drawn, and that nothing that was there is written. No condition.
-/
import Derived.Test.YthcfjnedpffbbaaDoorDrawFab
import Derived.Test.YthcfjnedpffbbaaDoorPar
namespace Go.Proofs.YthcfjnedpffbbaaDoor
open Go.RowKit

theorem Own.past16 {w w' : World} {lo n c r : Nat} {e : TypeId} {A : Option Addr} {xs : List Value} (h : Own w lo e A n c xs) (hr : r < lo) (hg : w.grownBy w' (some r)) : Own w' lo e A n c xs :=
  h.grown hg (fun a hA e => by injection e with e; subst hA; have := h.block; omega)
/-- A way as it is drawn. -/
def WalkD (lo r p : Nat) (w w' : World) (e : Ending) : Prop := ∃ A' n' c' ks p', e = .returned (.slice A' n' c') ∧ Own w' w.heap.size 3 A' n' c' (ints .i64 ks) ∧ 1 ≤ n' ∧ n' ≤ 10 ∧ p' ≤ p + 20 ∧ Rd w' lo r p' ∧ w.grownBy w' (some r)
set_option maxRecDepth 100000 in
set_option maxHeartbeats 2000000 in
theorem l16Walk_any {lo r p : Nat} {a b : Int} {w : World} (h : Rd w lo r p) (hp : p ≤ 274877906944) (hk : okWH a b) :
    Calls Tryd.prog 60 #[.pointer (some ⟨r, 0, none⟩), .int .i64 a, .int .i64 b] w fun e w' => WalkD lo r p w w' e := by
  obtain ⟨i0, hi, hz0, hz1, hz2⟩ := info_parts Tryd.infoInt
  have hrl := h.lt
  have HK := Lib.hid hk
  obtain ⟨⟨a1, a5⟩, b1, b5⟩ := hk
  obtain ⟨m, hm, m0, m1⟩ := mul6 (show 0 ≤ a ∧ a ≤ 6 by omega) (show 0 ≤ b ∧ b ≤ 6 by omega)
  have hm1 : 1 ≤ m := by
    have := Int.mul_le_mul a1 b1 (by omega) (by omega)
    omega
  have HM := Lib.hid hm
  have tm : IntKind.i64.wrap m = m := IntWalk.i64_in _ (by omega)
  have tm1 : IntKind.i64.wrap (m - 1) = m - 1 := IntWalk.i64_in _ (by omega)
  have tna : IntKind.i64.wrap (-a) = -a := IntWalk.i64_in _ (by omega)
  go_enter Tryd.func60, Tryd.ntmps60
  go_wp2_with (fail)
  refine (pick_any h (by omega) (by omega)).mono ?_
  rintro e w1 ⟨u, rfl, hu, R1, G1⟩
  have hub : 0 ≤ u ∧ u < m := by unfold Picked at hu; omega
  obtain ⟨u0, u1⟩ := hub
  have s1 := G1.size
  have O2 : Own (w1.alloc (.cells #[.int .i64 u] 3)) w1.heap.size 3 (some ⟨w1.heap.size, 0, none⟩) 1 1 (ints .i64 [u]) := World.ownsRow_lit w1 #[.int .i64 u] 1 (Nat.le_refl _) (by unfold maxLen; omega) rfl
  have O2 := O2.mono s1
  have R2 := R1.alloc (.cells #[.int .i64 u] 3)
  have G2 := gr_bel G1 ((Below.refl w1.heap.size w1).alloc (Nat.le_refl _) (.cells #[.int .i64 u] 3))
  go_upto_region 3 with fail
  clear hu R1 G1
  generalize w1.alloc (.cells #[.int .i64 u] 3) = w2 at *
  go_wp2_with (fail)
  refine (num_any (n := 5) (l := [3, 5, 2, 1, 9]) (R2.alloc _) (by omega) (Has.row #[.int .i64 3, .int .i64 5, .int .i64 2, .int .i64 1, .int .i64 9] rfl rfl (by unfold maxLen; omega)) (fun ad ha => by injection ha with ha; subst ha; have := R2.lt; simp; omega) (by omega) (by omega)).mono ?_
  rintro e w3 ⟨v, rfl, hv, R3, G3⟩
  have hvb : 1 ≤ v ∧ v ≤ 9 := by simp at hv; omega
  have G03 := gr_trans G2 (gr_alloc G3)
  have O3 := (O2.bel ((Below.refl _ _).alloc (Nat.le_refl _) (.cells #[.int .i64 3, .int .i64 5, .int .i64 2, .int .i64 1, .int .i64 9] 3))).past16 hrl G3
  clear hv G3 G2 R2 O2
  go_wp2
  go_loopw [7, 8, 9] (fun x o t wr => ∃ (u : Int) (k c' : Nat) (A' : Option Addr) (ks : List Int) (i : Int) (q : Nat), x = .int .i64 u ∧ o = .slice A' k c' ∧ t = .int .i64 i ∧ 0 ≤ u ∧ u < m ∧ 0 ≤ i ∧ i ≤ 9 ∧ 1 ≤ k ∧ (k : Int) + i ≤ 10 ∧ (q : Int) + i ≤ (p : Int) + 11 ∧ Own wr w.heap.size 3 A' k c' (ints .i64 ks) ∧ Rd wr lo r q ∧ w.grownBy wr (some r)) (fun _ _ t _ => (intOf t).toNat)
  case atStart => exact ⟨u, 1, 1, _, [u], v, _, rfl, rfl, rfl, u0, u1, by omega, by omega, by omega, by omega, by simp; omega, O3, R3, G03⟩
  case round =>
    obtain ⟨u, k, c', A', ks, i, q, rfl, rfl, rfl, u0, u1, i0', i9, k1, hki, hqi, O, R, G⟩ := hrel
    by_cases hpos : 0 < i
    · have hB : decide (i > 0) = true := by simp; omega
      have hB' : decide (0 < i) = true := by simp; omega
      have tI : IntKind.i64.wrap (i - 1) = i - 1 := IntWalk.i64_in _ (by omega)
      have gs := G.size
      go_wp2_with (fail)
      refine (num_any (n := 4) (l := [1, -1, a, -a]) (R.alloc _) (by omega) (Has.row #[.int .i64 1, .int .i64 (-1), .int .i64 a, .int .i64 (-a)] rfl rfl (by unfold maxLen; omega)) (fun ad ha => by injection ha with ha; subst ha; have := R.lt; simp; omega) (by omega) (by omega)).mono ?_
      rintro e w4 ⟨d, rfl, hd, R4, G4⟩
      have hdb : -5 ≤ d ∧ d ≤ 5 := by simp at hd; omega
      have G04 := gr_trans G (gr_alloc G4)
      have O4 := (O.bel ((Below.refl _ _).alloc (Nat.le_refl _) (.cells #[.int .i64 1, .int .i64 (-1), .int .i64 a, .int .i64 (-a)] 3))).past16 hrl G4
      have s4 := G04.size
      have tT : IntKind.i64.wrap (u + d) = u + d := IntWalk.i64_in _ (by omega)
      obtain ⟨t, ht⟩ : ∃ t, u + d = t := ⟨_, rfl⟩
      rw [ht] at tT
      clear hd G4 O R G
      by_cases hin : 0 ≤ t ∧ t ≤ m - 1
      · have ka : okN a b u := ⟨HK.out, u0, by rw [HM.out]; exact u1⟩
        have kb : okN a b t := ⟨HK.out, hin.1, by rw [HM.out]; omega⟩
        have CW := Lib.hid (fun W => l16Wire_i (W := W) ka kb)
        obtain ⟨V, hV⟩ : ∃ V, wireW a.toNat u.toNat t.toNat = V := ⟨_, rfl⟩
        rw [hV] at CW
        obtain ⟨h1, h2⟩ := hin
        clear hV ka kb
        go_wp2_with (fail)
        refine (l1In_yes t 0 (m - 1) w4 h1 h2).mono ?_
        rintro e w' ⟨rfl, rfl⟩
        go_wp2_with (fail)
        refine (CW.out w4).mono ?_
        rintro e w' ⟨rfl, rfl⟩
        clear CW
        by_cases hV0 : 0 ≤ V
        · have hVB : decide (V ≥ 0) = true := by simp; omega
          have hVB' : decide (0 ≤ V) = true := by simp; omega
          go_wp2_with (at_builtin; refine wpList_apps _ rfl (.tmp 47) (.tmp 49) 25 rfl w.heap.size 3 i0 (.int .i64 0) 8 Tryd.underlying25 hi hz0 hz1 hz2 rfl A' k c' _ rfl O4 1 1 #[.int .i64 t] rfl rfl (by simp [Value.oneCell']) (by decide) (by omega) (by decide) (by omega) ?_; intro g cap w5 O5 G5 B5 hat5)
          have hblk : ∀ j, A'.map (·.block) = some j → w.heap.size ≤ j := fun j hj => by
            cases A' with
            | none => cases hj
            | some ad => injection hj with hj; rw [← hj]; exact O4.block.1
          have R5 := R4.grown G5 (fun j hj => by have h9 := hblk j hj; have h8 := R4.1; omega)
          have G05 := gr_new G04 G5 hblk
          go_roundw
          case rel => exact ⟨t, k + 1, cap, _, ks ++ [t], i - 1, q + 1, rfl, rfl, rfl, h1, by omega, by omega, by omega, by omega, by omega, by omega, by simpa [ints] using O5, R5, G05⟩
          case measure => simp [intOf]; omega
        · have hVB : decide (V ≥ 0) = false := by simp; omega
          have hVB' : decide (0 ≤ V) = false := by simp; omega
          go_wp2
          go_roundw
          case rel => exact ⟨u, k, c', A', ks, i - 1, q + 1, rfl, rfl, rfl, u0, u1, by omega, by omega, by omega, by omega, by omega, O4, R4, G04⟩
          case measure => simp [intOf]; omega
      · go_wp2_with (fail)
        refine (l1In_no t 0 (m - 1) w4 hin).mono ?_
        rintro e w' ⟨rfl, rfl⟩
        go_wp2
        go_roundw
        case rel => exact ⟨u, k, c', A', ks, i - 1, q + 1, rfl, rfl, rfl, u0, u1, by omega, by omega, by omega, by omega, by omega, O4, R4, G04⟩
        case measure => simp [intOf]; omega
    · have hB : decide (i > 0) = false := by simp; omega
      have hB' : decide (0 < i) = false := by simp; omega
      go_wp2
      go_ret
      exact ⟨A', k, c', ks, q, rfl, O, k1, by omega, by omega, R, G⟩
theorem results_tmp3F {fn : Func} {t u v : Tmp} (h : fn.results = #[.tmp t, .tmp u, .tmp v]) (tmps : Array Value) (P : Program) (w : World) :
    (results fn tmps).run P w = .ok (.tuple #[tmps.getD t undef, tmps.getD u undef, tmps.getD v undef]) w := by
  simp [results, h]
/-- A fabric and a way, as they are drawn. -/
def DrawnWay (w w' : World) (e : Ending) : Prop := ∃ (a b : Int) (A : Option Addr) (n c : Nat) (ks : List Int), e = .returned (.tuple #[.int .i64 a, .int .i64 b, .slice A n c]) ∧ Own w' w.heap.size 3 A n c (ints .i64 ks) ∧ 1 ≤ n ∧ n ≤ 10 ∧ (0 ≤ a ∧ a ≤ 6) ∧ (0 ≤ b ∧ b ≤ 6) ∧ Below w.heap.size w w'
set_option maxRecDepth 100000 in
set_option maxHeartbeats 2000000 in
theorem drawWayValid_any {A : Option Addr} {n c : Nat} {zs : List Int} {w : World} (h : Has w A n (ints .u8 zs)) (hu : U8s zs) (hc : n ≤ c ∧ c ≤ maxLen) :
    Calls Tryd.prog 25 #[.slice A n c] w fun e w' => DrawnWay w w' e := by
  go_enter Tryd.func25, Tryd.ntmps25
  go_wp2_with (fail)
  refine (open_any h hu hc).mono ?_
  rintro e w1 ⟨r, rfl, R1, B1⟩
  go_wp2_with (fail)
  refine (l16Size_any R1 (by omega)).mono ?_
  rintro e w2 ⟨a, b, p2, rfl, ha, hb, hp2, R2, G2⟩
  have B2 := bel_read B1 R1 G2
  obtain ⟨m, hm, m0, m1⟩ := mul6 ha hb
  obtain ⟨ha0, ha1⟩ := ha
  obtain ⟨hb0, hb1⟩ := hb
  clear R1 G2 B1
  by_cases hk : okWH a b
  rotate_left
  · have hkB : decide (okWH a b) = false := decide_eq_false hk
    have CF := Lib.hid (l16Fabric_any a b w2)
    rw [hkB] at CF
    have s2 := B2.size
    have O3 : Own (w2.alloc (.cells #[.int .i64 0] 3)) w2.heap.size 3 (some ⟨w2.heap.size, 0, none⟩) 1 1 (ints .i64 [0]) := World.ownsRow_lit w2 #[.int .i64 0] 1 (Nat.le_refl _) (by unfold maxLen; omega) rfl
    have O3 := O3.mono s2
    have B3 := bel_trans B2 ((Below.refl w2.heap.size w2).alloc (Nat.le_refl _) (.cells #[.int .i64 0] 3))
    clear hk hkB
    go_wp2_with (fail)
    refine CF.out.mono ?_
    rintro e w' ⟨rfl, rfl⟩
    clear CF
    go_wp2
    refine bodyPost_ret (results_tmp3F rfl _ _ _) rfl ?_
    exact ⟨a, b, _, 1, 1, [0], rfl, O3, by omega, by omega, ⟨ha0, ha1⟩, ⟨hb0, hb1⟩, B3⟩
  have HK := Lib.hid hk
  have hkB : decide (okWH a b) = true := decide_eq_true hk
  have CF := Lib.hid (l16Fabric_any a b w2)
  rw [hkB] at CF
  clear hk hkB
  go_wp2_with (fail)
  refine CF.out.mono ?_
  rintro e w' ⟨rfl, rfl⟩
  clear CF
  go_wp2_with (fail)
  refine (l16Walk_any R2 (by omega) HK.out).mono ?_
  rintro e w3 HX
  unfold WalkD at HX
  obtain ⟨A3, n3, c3, ks, p3, rfl, O3, hn1, hn10, hp3, R3, G3⟩ := HX
  have B3 := bel_read B2 R2 G3
  have s2 := B2.size
  have hr2 := R2.lt
  clear R2 G3
  go_wp2_with (fail)
  refine (pick_any R3 (by omega) (by omega)).mono ?_
  rintro e w4 ⟨u, rfl, hu4, R4, G4⟩
  have B4 := bel_read B3 R3 G4
  have O4 := O3.past16 hr2 G4
  clear hu4 R3 G4 B3 O3
  have u0 : decide (u = 0) = (u == 0) := rfl
  by_cases hz : u = 0
  rotate_left
  · have hzB : (u == 0) = false := by simp [hz]
    clear hz
    go_wp2
    refine bodyPost_ret (results_tmp3F rfl _ _ _) rfl ?_
    exact ⟨a, b, A3, n3, c3, ks, rfl, O4.mono s2, hn1, hn10, ⟨ha0, ha1⟩, ⟨hb0, hb1⟩, B4⟩
  subst hz
  have hzB : ((0 : Int) == 0) = true := rfl
  clear u0
  have tm : IntKind.i64.wrap m = m := IntWalk.i64_in _ (by omega)
  have tm2 : IntKind.i64.wrap (m + 2) = m + 2 := IntWalk.i64_in _ (by omega)
  go_wp2_with (fail)
  refine (pick_any (m := (n3 : Int)) R4 (by omega) (by omega)).mono ?_
  rintro e w5 ⟨j, rfl, hj, R5, G5⟩
  have B5 := bel_read B4 R4 G5
  have O5 := O4.past16 hr2 G5
  have hjb : 0 ≤ j ∧ j < (n3 : Int) := by unfold Picked at hj; omega
  clear hj R4 G5 B4 O4
  go_wp2_with (fail)
  refine (pick_any R5 (by omega) (by omega)).mono ?_
  rintro e w6 ⟨x, rfl, hx, R6, G6⟩
  have B6 := bel_read B5 R5 G6
  have O6 := O5.past16 hr2 G6
  have hxb : 0 ≤ x ∧ x ≤ 38 := by unfold Picked at hx; omega
  clear hx R5 G6 B5 O5 R6
  have tx : IntKind.i64.wrap (x - 1) = x - 1 := IntWalk.i64_in _ (by omega)
  obtain ⟨j0, j1⟩ := hjb
  obtain ⟨J, rfl⟩ : ∃ J : Nat, j = J := ⟨j.toNat, by omega⟩
  obtain ⟨g, rfl, hg0, hg1⟩ := O6.head (by omega)
  obtain ⟨z, hz, hcell, hfz⟩ := O6.at_ (k := J) (by omega)
  have O7 := (O6.set_ J (.int .i64 (x - 1))).mono s2
  rw [ints_set] at O7
  have B7 := B6.setCell (p := ⟨g, J, none⟩) (show w.heap.size ≤ g by omega) (.int .i64 (x - 1))
  clear hz O6
  go_wp2
  refine bodyPost_ret (results_tmp3F rfl _ _ _) rfl ?_
  exact ⟨a, b, _, n3, c3, _, rfl, O7, hn1, hn10, ⟨ha0, ha1⟩, ⟨hb0, hb1⟩, B7⟩
theorem Has.from16 {w : World} {b o n d : Nat} {zs : List Int} (h : Has w (some ⟨b, o, none⟩) n (ints .i64 zs)) (hd : d ≤ n) : Has w (some ⟨b, o + d, none⟩) (n - d) (ints .i64 (zs.drop d)) := by
  obtain ⟨h1, h2⟩ := h
  refine ⟨by rw [ints_length] at h1 ⊢; rw [List.length_drop]; omega, fun i hi => ?_⟩
  obtain ⟨b', o', hA, hc⟩ := h2 (d + i) (by omega)
  injection hA with hA
  injection hA with q1 q2
  subst q1 q2
  refine ⟨b, o + d, rfl, ?_⟩
  rw [show o + d + i = o + (d + i) by omega, hc]
  simp [ints]
theorem Has.to16 {w : World} {A : Option Addr} {n k : Nat} {zs : List Int} (h : Has w A n (ints .i64 zs)) (hk : k ≤ n) : Has w A k (ints .i64 (zs.take k)) := by
  obtain ⟨h1, h2⟩ := h
  refine ⟨by rw [ints_length] at h1 ⊢; rw [List.length_take]; omega, fun i hi => ?_⟩
  obtain ⟨b, o, hA, hc⟩ := h2 i (by omega)
  refine ⟨b, o, hA, ?_⟩
  rw [hc]
  simp [ints, hi]
end Go.Proofs.YthcfjnedpffbbaaDoor
