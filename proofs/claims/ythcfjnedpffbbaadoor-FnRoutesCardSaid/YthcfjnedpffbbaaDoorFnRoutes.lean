/-
  FnRoutes: both ways are as short as can be, from where they begin to where they end. The table of steps holds what the program text lays (tied).
-/
import Derived.Test.YthcfjnedpffbbaaDoorDrawFab
import Derived.Test.YthcfjnedpffbbaaDoorImp16f
import Derived.Test.YthcfjnedpffbbaaDoorImp16g
import Derived.Test.YthcfjnedpffbbaaDoorWnInts
import Derived.Test.YthcfjnedpffbbaaDoorFabTie
import Derived.Test.YthcfjnedpffbbaaDoorShut
import Derived.Test.YthcfjnedpffbbaaDoorCards
import Derived.Test.YthcfjnedpffbbaaDoorTie
import Derived.Deep.DeepHandedRow
import Derived.OpenVars
namespace Go.Proofs.YthcfjnedpffbbaaDoor
open Go.RowKit Go.ChangeShapes Go.WideShapes Go.ChangeAt

set_option maxRecDepth 100000 in
set_option maxHeartbeats 8000000 in
theorem walk_FnRoutes {A : Option Addr} {n c : Nat} {zs : List Int} {w : World} (hT : StepsIn w) (h : Has w A n (ints .u8 zs)) (hwf : ∀ z ∈ zs, (Lit.int .u8 z).wf = true) (hc : n ≤ c ∧ c ≤ maxLen) :
    Calls Tryd.prog 3 #[.slice A n c] w fun e w' => e = .returned (.bool true) ∧ Below w.heap.size w w' := by
  have hu : U8s zs := fun z hz => u8_of_wf (hwf z hz)
  clear hwf
  by_cases hn : n ≤ 1048576
  rotate_left
  · go_enter Tryd.func3, Tryd.ntmps3
    go_wp2
    go_ret
    exact ⟨rfl, Below.refl _ _⟩
  go_enter Tryd.func3, Tryd.ntmps3
  go_wp2_with (fail)
  refine (drawRouteXY_any h hu hc).mono ?_
  rintro e w1 hX
  unfold TwoD at hX
  obtain ⟨w0, h0, a, b, rfl, _, _, _, _, B1⟩ := hX
  have T1 := hT.bel B1
  obtain ⟨Pl, hP⟩ : ∃ P, routeXY w0 h0 a b = P := ⟨_, rfl⟩
  obtain ⟨Ql, hQ⟩ : ∃ Q, routeYX w0 h0 a b = Q := ⟨_, rfl⟩
  have HPL := Lib.hid (show Pl.length ≤ 30 ∧ Ql.length ≤ 30 by rw [← hP, ← hQ]; exact routeXY_len _ _ _ _)
  have CP := Lib.hid (fun W => implRouteXY_any w0 h0 a b W)
  have CQ := Lib.hid (fun W => implRouteYX_any w0 h0 a b W)
  have SP := Lib.hid (fun W => specRouteXY_any w0 h0 a b W)
  have SQ := Lib.hid (fun W => specRouteYX_any w0 h0 a b W)
  rw [hP] at CP SP
  rw [hQ] at CQ SQ
  have HPQ := Lib.hid (show routeXY w0 h0 a b = Pl ∧ routeYX w0 h0 a b = Ql from ⟨hP, hQ⟩)
  clear hP hQ h hu hc
  go_wp2_with (fail)
  refine (CP.out _).mono ?_
  rintro e w2 ⟨A2, n2, c2, rfl, O2, B2⟩
  have C2 := bel_trans B1 B2
  go_wp2_with (fail)
  refine (CQ.out _).mono ?_
  rintro e w3 ⟨A3, n3, c3, rfl, O3, B3⟩
  have C3 := bel_trans C2 B3
  have p3 := O2.bel B3
  have l2 := O2.has.len
  have l3 := O3.has.len
  have hn2 : n2 ≤ 30 := by have := HPL.out.1; omega
  have hn3 : n3 ≤ 30 := by have := HPL.out.2; omega
  have HLL := Lib.hid (show Pl.length = n2 ∧ Ql.length = n3 from ⟨l2, l3⟩)
  clear l2 l3
  have q3 := O3
  clear O2 O3 B1 B2 B3 C2
  by_cases kk : okN w0 h0 a ∧ okN w0 h0 b
  rotate_left
  · have e2 : n2 = 0 ∧ n3 = 0 := by
      have h1 := HPQ.out
      have h2 := HLL.out
      unfold routeXY routeYX at h1
      rw [if_neg kk, if_neg kk] at h1
      rw [← h1.1, ← h1.2] at h2
      exact ⟨h2.1.symm, h2.2.symm⟩
    obtain ⟨rfl, rfl⟩ := e2
    clear kk
    go_wp2_with (fail)
    refine (SP.out _).mono ?_
    rintro e w4 ⟨A4, n4, c4, rfl, O4, B4⟩
    have C4 := bel_trans C3 B4
    have p4 := p3.bel B4
    have q4 := q3.bel B4
    have CW := Lib.hid (wnInts_same (c := c2) (c' := c4) p4.has O4.has (by omega))
    go_wp2_with (fail)
    refine (CW.out).mono ?_
    rintro e w5 HW
    obtain ⟨rfl, B5⟩ := HW
    have C5 := bel_trans C4 B5
    have p5 := p4.bel B5
    have q5 := q4.bel B5
    clear CW
    go_wp2_with (fail)
    refine (SQ.out _).mono ?_
    rintro e w6 ⟨A6, n6, c6, rfl, O6, B6⟩
    have C6 := bel_trans C5 B6
    have p6 := p5.bel B6
    have q6 := q5.bel B6
    have CW := Lib.hid (wnInts_same (c := c3) (c' := c6) q6.has O6.has (by omega))
    go_wp2_with (fail)
    refine (CW.out).mono ?_
    rintro e w7 HW
    obtain ⟨rfl, B7⟩ := HW
    have C7 := bel_trans C6 B7
    have p7 := p6.bel B7
    have q7 := q6.bel B7
    clear CW
    clear p3 q3 p4 q4 p5 q5 p6 q6 O4 O6 B4 B5 B6 B7 C4 C5 C6
    go_wp2_with (fail)
    refine (SP.out _).mono ?_
    rintro e w8 ⟨A8, n8, c8, rfl, O8, B8⟩
    have C8 := bel_trans C7 B8
    have p8 := p7.bel B8
    have q8 := q7.bel B8
    have CW := Lib.hid (wnInts_same (c := c2) (c' := c8) p8.has O8.has (by omega))
    go_wp2_with (fail)
    refine (CW.out).mono ?_
    rintro e w9 HW
    obtain ⟨rfl, B9⟩ := HW
    have C9 := bel_trans C8 B9
    have p9 := p8.bel B9
    have q9 := q8.bel B9
    clear CW
    go_wp2_with (fail)
    refine (SQ.out _).mono ?_
    rintro e w10 ⟨A10, n10, c10, rfl, O10, B10⟩
    have C10 := bel_trans C9 B10
    have p10 := p9.bel B10
    have q10 := q9.bel B10
    have CW := Lib.hid (wnInts_same (c := c3) (c' := c10) q10.has O10.has (by omega))
    go_wp2_with (fail)
    refine (CW.out).mono ?_
    rintro e w11 HW
    obtain ⟨rfl, B11⟩ := HW
    have C11 := bel_trans C10 B11
    have p11 := p10.bel B11
    have q11 := q10.bel B11
    clear CW
    clear p7 q7 p8 q8 p9 q9 p10 q10 O8 O10 B8 B9 B10 B11 C8 C9 C10
    go_wp2
    go_ret
    exact ⟨rfl, C11⟩
  have HV := Lib.hid (route_valid kk)
  obtain ⟨W0, H0, n, rfl, rfl, rfl, hw, hh, hxw, hyw⟩ := spot_of kk.1
  obtain ⟨W1, H1, m, hq1, hq2, rfl, _, _, hpw, hqw⟩ := spot_of kk.2
  obtain rfl : W0 = W1 := by omega
  obtain rfl : H0 = H1 := by omega
  clear hq1 hq2
  have hG : ∀ x y p q, n % W0 = x → n / W0 = y → m % W0 = p → m / W0 = q → routeXY (W0 : Int) (H0 : Int) (n : Int) (m : Int) = nodes W0 (xyS x y p q) ∧ routeYX (W0 : Int) (H0 : Int) (n : Int) (m : Int) = nodes W0 (yxS x y p q) ∧ n = atN W0 (x, y) ∧ m = atN W0 (p, q) := by
    rintro x y p q rfl rfl rfl rfl
    unfold routeXY routeYX
    rw [if_pos kk, if_pos kk]
    exact ⟨rfl, rfl, atN_of.symm, atN_of.symm⟩
  have e1 : (n : Int) % (W0 : Int) = ((n % W0 : Nat) : Int) := (Int.natCast_emod n W0).symm
  have e2 : (n : Int) / (W0 : Int) = ((n / W0 : Nat) : Int) := (Int.natCast_ediv n W0).symm
  have e3 : (m : Int) % (W0 : Int) = ((m % W0 : Nat) : Int) := (Int.natCast_emod m W0).symm
  have e4 : (m : Int) / (W0 : Int) = ((m / W0 : Nat) : Int) := (Int.natCast_ediv m W0).symm
  obtain ⟨x, hx⟩ : ∃ x, n % W0 = x := ⟨_, rfl⟩
  obtain ⟨y, hy⟩ : ∃ y, n / W0 = y := ⟨_, rfl⟩
  obtain ⟨p, hp⟩ : ∃ p, m % W0 = p := ⟨_, rfl⟩
  obtain ⟨q, hq⟩ : ∃ q, m / W0 = q := ⟨_, rfl⟩
  have HG := Lib.hid (hG x y p q hx hy hp hq)
  rw [hx] at e1 hxw
  rw [hy] at e2 hyw
  rw [hp] at e3 hpw
  rw [hq] at e4 hqw
  have hx5 : x < 5 := by omega
  have hy5 : y < 5 := by omega
  have hp5 : p < 5 := by omega
  have hq5 : q < 5 := by omega
  have HA := Lib.hid (all_routes x hx5 y hy5 p hp5 q hq5)
  have HB := Lib.hid (all_steps x hx5 y hy5 p hp5 q hq5)
  obtain ⟨N, hN⟩ : ∃ N, (p - x) + (x - p) + (q - y) + (y - q) + 1 = N := ⟨_, rfl⟩
  have hlen : n2 = N ∧ n3 = N := by
    have h1 := HPQ.out
    have h2 := HLL.out
    have h3 := HG.out
    have h4 := HA.out.2.1
    have h5 := HB.out.2.2.2.2.2.1
    rw [← h1.1, ← h1.2, h3.1, h3.2.1, nodes_len, nodes_len] at h2
    omega
  have HP0 : Hid (Pl[0]? = some (n : Int) ∧ Ql[0]? = some (n : Int) ∧ Pl[N - 1]? = some (m : Int) ∧ Ql[N - 1]? = some (m : Int)) := by
    have h1 := HPQ.out
    have h3 := HG.out
    have h4 := HA.out.2.1
    have h4' := HA.out.2.2.1
    have h5 := HB.out.2.2.2.2.2.1
    have h6 := HB.out.2.2.2.2.2.2.1
    have hXl : (xyS x y p q).length = N := by omega
    have hYl : (yxS x y p q).length = N := by omega
    rw [hXl] at h4'
    rw [hYl] at h6
    have hN1 : 1 ≤ N := by omega
    show _ ∧ _ ∧ _ ∧ _
    rw [← h1.1, ← h1.2, h3.1, h3.2.1]
    refine ⟨?_, ?_, ?_, ?_⟩
    · rw [h3.2.2.1]; rfl
    · rw [h3.2.2.1]; rfl
    · have := nodes_at W0 (xyS x y p q) (i := N - 1) (by omega)
      rw [h4', ← h3.2.2.2, List.getD_eq_getElem?_getD, List.getElem?_eq_getElem (by rw [nodes_len]; omega)] at this
      rw [List.getElem?_eq_getElem (by rw [nodes_len]; omega)]
      exact congrArg some this
    · have := nodes_at W0 (yxS x y p q) (i := N - 1) (by omega)
      rw [h6, ← h3.2.2.2, List.getD_eq_getElem?_getD, List.getElem?_eq_getElem (by rw [nodes_len]; omega)] at this
      rw [List.getElem?_eq_getElem (by rw [nodes_len]; omega)]
      exact congrArg some this
  obtain ⟨hl2, hl3⟩ := hlen
  subst hl2
  obtain rfl : n3 = n2 := hl3
  have hN1 : 1 ≤ n3 := by omega
  clear hG hx hy hp hq kk
  go_wp2_with (fail)
  refine (SP.out _).mono ?_
  rintro e w4 ⟨A4, n4, c4, rfl, O4, B4⟩
  have C4 := bel_trans C3 B4
  have p4 := p3.bel B4
  have q4 := q3.bel B4
  have CW := Lib.hid (wnInts_same (c := c2) (c' := c4) p4.has O4.has (by omega))
  go_wp2_with (fail)
  refine (CW.out).mono ?_
  rintro e w5 HW
  obtain ⟨rfl, B5⟩ := HW
  have C5 := bel_trans C4 B5
  have p5 := p4.bel B5
  have q5 := q4.bel B5
  clear CW
  go_wp2_with (fail)
  refine (SQ.out _).mono ?_
  rintro e w6 ⟨A6, n6, c6, rfl, O6, B6⟩
  have C6 := bel_trans C5 B6
  have p6 := p5.bel B6
  have q6 := q5.bel B6
  have CW := Lib.hid (wnInts_same (c := c3) (c' := c6) q6.has O6.has (by omega))
  go_wp2_with (fail)
  refine (CW.out).mono ?_
  rintro e w7 HW
  obtain ⟨rfl, B7⟩ := HW
  have C7 := bel_trans C6 B7
  have p7 := p6.bel B7
  have q7 := q6.bel B7
  clear CW
  clear p3 q3 p4 q4 p5 q5 p6 q6 O4 O6 B4 B5 B6 B7 C4 C5 C6
  have T7 := hT.bel C7
  have CV1 := Lib.hid (fun (W : World) (hW : StepsIn W) (hH : Has W A2 n3 (ints .i64 Pl)) => implWayValid_b (c := c2) hW hH (by omega) (decide_eq_true (show WayOk (W0 : Int) (H0 : Int) Pl by have := HV.out.1; rw [HPQ.out.1] at this; exact this)))
  have CV2 := Lib.hid (fun (W : World) (hW : StepsIn W) (hH : Has W A3 n3 (ints .i64 Ql)) => implWayValid_b (c := c3) hW hH (by omega) (decide_eq_true (show WayOk (W0 : Int) (H0 : Int) Ql by have := HV.out.2; rw [HPQ.out.2] at this; exact this)))
  have a0 : (0 : Int) ≤ (n : Int) := by omega
  have a1 : (0 : Int) ≤ (m : Int) := by omega
  have et1 : (n : Int).tmod (W0 : Int) = (x : Int) := by rw [Int.tmod_eq_emod_of_nonneg a0]; exact e1
  have et2 : (n : Int).tdiv (W0 : Int) = (y : Int) := by rw [Int.tdiv_eq_ediv_of_nonneg a0]; exact e2
  have et3 : (m : Int).tmod (W0 : Int) = (p : Int) := by rw [Int.tmod_eq_emod_of_nonneg a1]; exact e3
  have et4 : (m : Int).tdiv (W0 : Int) = (q : Int) := by rw [Int.tdiv_eq_ediv_of_nonneg a1]; exact e4
  have tx : IntKind.i64.wrap (x : Int) = (x : Int) := IntWalk.i64_in _ (by omega)
  have ty : IntKind.i64.wrap (y : Int) = (y : Int) := IntWalk.i64_in _ (by omega)
  have tp : IntKind.i64.wrap (p : Int) = (p : Int) := IntWalk.i64_in _ (by omega)
  have tq : IntKind.i64.wrap (q : Int) = (q : Int) := IntWalk.i64_in _ (by omega)
  obtain ⟨d1, hd1⟩ : ∃ d, (p : Int) - (x : Int) = d := ⟨_, rfl⟩
  obtain ⟨d2, hd2⟩ : ∃ d, (q : Int) - (y : Int) = d := ⟨_, rfl⟩
  have ts1 : IntKind.i64.wrap d1 = d1 := IntWalk.i64_in _ (by omega)
  have ts2 : IntKind.i64.wrap d2 = d2 := IntWalk.i64_in _ (by omega)
  have tn1 : IntKind.i64.wrap (-d1) = -d1 := IntWalk.i64_in _ (by omega)
  have tn2 : IntKind.i64.wrap (-d2) = -d2 := IntWalk.i64_in _ (by omega)
  have nz : W0 ≠ 0 := by omega
  have nz2 : ((W0 : Int) == 0) = false := by simp; omega
  have hne0 : ((n3 : Int) == 0) = false := by simp; omega
  obtain ⟨M1, hM1⟩ : ∃ M, (if d1 < -d1 then -d1 else d1) = M := ⟨_, rfl⟩
  obtain ⟨M2, hM2⟩ : ∃ M, (if d2 < -d2 then -d2 else d2) = M := ⟨_, rfl⟩
  have hNM : M1 + M2 + 1 = (n3 : Int) ∧ 0 ≤ M1 ∧ 0 ≤ M2 := by
    rw [← hM1, ← hM2]
    split <;> split <;> omega
  have hM1' : (if -d1 > d1 then -d1 else d1) = M1 := hM1
  have hM2' : (if -d2 > d2 then -d2 else d2) = M2 := hM2
  have tM : IntKind.i64.wrap (M1 + M2) = M1 + M2 := IntWalk.i64_in _ (by omega)
  have tM2 : IntKind.i64.wrap (M1 + M2 + 1) = (n3 : Int) := by rw [hNM.1]; exact IntWalk.i64_in _ (by omega)
  have HP1 := Lib.hid HP0.out
  have HNM := Lib.hid hNM
  clear e1 e2 e3 e4 hNM
  go_wp2
  go_quiet (fail)
  have BX := below_drewN (B := w7.heap.size) w7 nq
  generalize w7.drewN nq = w8 at *
  have C8 := bel_trans C7 BX
  have T8 := T7.bel BX
  have p8 := p7.bel BX
  have q8 := q7.bel BX
  have hnn : ((n3 : Int) == (n3 : Int)) = true := by simp
  have haa : ((n : Int) == (n : Int)) = true := by simp
  have hbb : ((m : Int) == (m : Int)) = true := by simp
  clear BX p7 q7 C7 T7
  go_wp2_with (fail)
  refine (CV1.out _ T8 p8.has).mono ?_
  rintro e w9 ⟨rfl, B9⟩
  have C9 := bel_trans C8 B9
  have T9 := T8.bel B9
  have p9 := p8.bel B9
  have q9 := q8.bel B9
  clear p8 q8 C8 T8 B9
  go_wp2_with (fail)
  refine (CV2.out _ T9 q9.has).mono ?_
  rintro e w10 ⟨rfl, B10⟩
  have C10 := bel_trans C9 B10
  have p10 := p9.bel B10
  have q10 := q9.bel B10
  have g0 : (0 : Int) ≤ (n3 : Int) - 1 := by omega
  have g1 : (n3 : Int) - 1 < (n3 : Int) := by omega
  have g2 : (0 : Int) < (n3 : Int) := by omega
  have t9 : IntKind.i64.wrap ((n3 : Int) - 1) = (n3 : Int) - 1 := IntWalk.i64_in _ (by omega)
  have n9 : ((n3 : Int) - 1).toNat = n3 - 1 := by omega
  obtain ⟨b1, o1, z1, hA1, hb1, hx1, hc1⟩ := p10.has.at_ (show 0 < n3 by omega)
  obtain ⟨b1', o1', z2, hA1', hb1', hx2, hc2⟩ := p10.has.at_ (show n3 - 1 < n3 by omega)
  obtain ⟨b2, o2, z3, hA2, hb2, hx3, hc3⟩ := q10.has.at_ (show 0 < n3 by omega)
  obtain ⟨b2', o2', z4, hA2', hb2', hx4, hc4⟩ := q10.has.at_ (show n3 - 1 < n3 by omega)
  rw [hA1] at hA1'
  rw [hA2] at hA2'
  injection hA1' with hA1'
  injection hA1' with r1 r2
  injection hA2' with hA2'
  injection hA2' with r3 r4
  subst r1 r2 r3 r4 hA1 hA2
  obtain rfl : (n : Int) = z1 := by have := HP1.out.1; rw [hx1] at this; injection this with h; exact h.symm
  obtain rfl : (n : Int) = z3 := by have := HP1.out.2.1; rw [hx3] at this; injection this with h; exact h.symm
  obtain rfl : (m : Int) = z2 := by have := HP1.out.2.2.1; rw [hx2] at this; injection this with h; exact h.symm
  obtain rfl : (m : Int) = z4 := by have := HP1.out.2.2.2; rw [hx4] at this; injection this with h; exact h.symm
  rw [Nat.add_zero] at hc1 hc3
  clear hx1 hx2 hx3 hx4
  generalize n3 - 1 = j at *
  go_wp2
  go_ret
  exact ⟨rfl, C10⟩
namespace fnRoutesCard
noncomputable def laidWorld (os : Os) : World :=
  { World.holding Tryd.prog os ⟨#[], #[], []⟩ with heap := ((World.holding Tryd.prog os ⟨#[], #[], []⟩).heap.modify 0 (fun | .cells _ t frozen => .cells stepCells t frozen | o => o)) }
theorem laid_met (os : Os) : laidMet Tryd.prog Rows.fnRoutesRow.laid ((laidWorld os).forCall (fun _ _ => 0) ⟨#[], #[.slice none 0 0], []⟩).memory :=
  laidMet_of_run' 8 (by kernel_rfl) (by kernel_rfl)
theorem reads (os : Os) {H : Type} (enc : TypeId × Value → H) : ∃ places, DataW.whole enc Tryd.prog ((laidWorld os).forCall (fun _ _ => 0) ⟨#[], #[.slice none 0 0], []⟩).memory Tryd.f3.params.toList Rows.fnRoutesSpec.vars false (#[.slice none 0 0] : Array Value).toList 8 = some ([.nil], [Rows.laid_loop_example_wholenet_impl_wireSteps], places) :=
  ⟨MemPlace.row ⟨0, 0, none⟩ 8, by kernel_rfl⟩
set_option maxRecDepth 100000 in
theorem lifted (os : Os) (started : os.Started) (H : Type) (enc : TypeId × Value → H) (F : Stop.Interp) :
    ReturnsInHanded {} Tryd.checked os 3 .any ((OpenSpec.ofChange Rows.fnRoutesSpec).preRow enc Tryd.prog Tryd.f3 Rows.fnRoutesRow.domain false Rows.fnRoutesRow.laid) (((OpenSpec.ofChange Rows.fnRoutesSpec).at F).post enc Tryd.prog Tryd.f3 false true false false) := by
  obtain ⟨places, hx⟩ := reads os enc
  refine returnsInHanded_of_row (C := Tryd.checked) (s := OpenSpec.ofChange Rows.fnRoutesSpec) (by kernel_rfl) started (by kernel_rfl) Tryd.func3
    (witness_row_at (enc := enc) (C := Tryd.checked) false (laidWorld os) #[.slice none 0 0] rfl (by kernel_rfl) (by kernel_rfl) (by kernel_rfl)
      (OpenSpec.preRow_of_cond 8 hx (by kernel_rfl) (fun k hk => by cases hk) (by kernel_rfl) (laid_met os))) ?_
  intro W base args ds gs before hval0 hW _ _ _ hL _ _
  have hval : ∀ (j : Nat) t v, Tryd.f3.params[j]? = some t → args[j]? = some v → Value.okWide Tryd.prog W .any base t v := hval0
  have hW' := hW
  obtain ⟨p, q, hA0, hV0, rfl, hfz, hnd⟩ := hW
  have hV : DataW.TrodVars enc Tryd.prog W (fun _ => true) ["loop.example/wholenet/impl.wireSteps"] gs q := hV0
  have hA : DataW.TrodAll enc Tryd.prog W 0 (fun _ => true) true Tryd.f3.params.toList args.toList ds p := hA0
  rw [Tryd.params3] at hA hval
  obtain ⟨v0, vs0, d0, ds0, p0, q0, hargs, rfl, rfl, h0, r0⟩ := trodAll_cons hA
  obtain ⟨rfl, rfl, rfl⟩ := trodAll_nil r0
  obtain rfl : args = #[v0] := by cases args; simp_all
  obtain ⟨_, _, _, _, e0, _, rfl, _⟩ := trodVars_one hV
  have Tsteps := steps_of (rest := []) hL
  obtain ⟨a0, len0, cap0, rfl⟩ := okWide_slice Tryd.underlying22 (hval 0 22 v0 rfl rfl)
  have k0 := h0
  have lt0 : ∀ x ∈ p0, x.block < W.heap.size := by obtain ⟨m, hm⟩ := k0; exact DataW.trod_lt m _ _ _ hm
  obtain ⟨z0, H0, U0, M0⟩ := has_of_trod (k := .u8) Tryd.underlying22 Tryd.underlying5 (by kernel_rfl) h0
  clear hA0 hval0
  refine (walk_FnRoutes Tsteps H0 U0 M0).mono fun e W' ⟨he, bel⟩ => ?_
  subst he
  exact ⟨_, rfl, _, _, _, [], _, _, hW', trodAll_mk1 (shut_bool Tryd.underlying4 _), (trodAll_cons_mk (Below.trod (by kernel_rfl) (by kernel_rfl) (of_decide_eq_true (by kernel_rfl)) k0 bel lt0) trodAll_mk0), Below.trodVars (by kernel_rfl) bel (by kernel_rfl) hV, bel.frame _, fun h => by cases h⟩
theorem said : Rows.FnRoutesSaid :=
  OpenClaim.holds_of_cond 3 Tryd.f3 rfl rfl rfl rfl rfl rfl rfl ⟨rfl, rfl, rfl, rfl, rfl⟩ rfl rfl rfl rfl rfl (by kernel_rfl) Tryd.func3 (by kernel_rfl)
    (of_decide_eq_true (by kernel_rfl)) (by unfold Func.isWrapper; first | (rw [if_pos (by decide +kernel)]; kernel_rfl) | (rw [if_neg (by decide +kernel)]; exact ⟨rfl, rfl⟩))
    (fun os started H enc _ F => by rw [OpenClaim.pre_eq_preRow]; exact lifted os started H enc F)
theorem plain (f : FuncId) (fn : Func) (hf : Tryd.pinned.checked.prog.funcNamed "loop.example/wholenet/laws.FnRoutes" = some f) (hfn : Tryd.pinned.checked.prog.funcs[f]? = some fn) :
    false = Tryd.pinned.checked.prog.looks [] ∧ ∀ (j : Nat) t, fn.params[j]? = some t → Tryd.pinned.checked.prog.wantsStandIn t = false := by
  obtain rfl : f = 3 := Option.some.inj ((show Tryd.prog.funcNamed "loop.example/wholenet/laws.FnRoutes" = some 3 by kernel_rfl).symm.trans hf) |>.symm
  obtain rfl : fn = Tryd.f3 := (Option.some.inj (Tryd.func3.symm.trans hfn)).symm
  refine ⟨by kernel_rfl, fun j t ht => ?_⟩
  rw [Tryd.params3] at ht
  obtain rfl : t = 22 := by simpa using Array.mem_of_getElem? ht
  exact (show Tryd.prog.wantsStandIn 22 = false by kernel_rfl)
end fnRoutesCard
theorem fnRoutes_card : Rows.FnRoutesCardSaid :=
  Claim7.holds_tied_plain_at .later [] _ _ _ _ fnRoutesCard.said (fun _ h => by cases h) (by kernel_rfl) (fun _ h => by cases h) fnRoutes_row_tie rfl ⟨rfl, rfl⟩ (by kernel_rfl) rfl fnRoutesCard.plain (by kernel_rfl)
end Go.Proofs.YthcfjnedpffbbaaDoor
