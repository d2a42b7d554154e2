/-
  FnVlanStays: no frame leaves its network. No condition.
-/
import Derived.Test.YtiokieancjigeaaDrawVlan
import Derived.Test.YtiokieancjigeaaImp10e
import Derived.Test.YtiokieancjigeaaShut
import Derived.Lib.QuietBelow
namespace Go.Proofs.Ytiokieancjigeaa
open Go.RowKit Go.ChangeShapes Go.WideShapes Go.ChangeAt

set_option maxRecDepth 100000 in
set_option maxHeartbeats 8000000 in
theorem walk_FnVlanStays {A : Option Addr} {n c : Nat} {zs : List Int} {w : World} (h : Has w A n (ints .u8 zs)) (hwf : ∀ z ∈ zs, (Lit.int .u8 z).wf = true) (hc : n ≤ c ∧ c ≤ maxLen) :
    Calls Try.prog 5 #[.slice A n c] w fun e w' => e = .returned (.bool true) ∧ Below w.heap.size w w' := by
  have hu : U8s zs := fun z hz => u8_of_wf (hwf z hz)
  clear hwf
  by_cases hn : n ≤ 1048576
  rotate_left
  · go_enter Try.func5, Try.ntmps5
    go_wp2
    go_ret
    exact ⟨rfl, Below.refl _ _⟩
  go_enter Try.func5, Try.ntmps5
  go_wp2_with (fail)
  refine (drawFloodVlan_any h hu hc).mono ?_
  rintro e w1 hX
  unfold PortsNN at hX
  obtain ⟨A1, n1, c1, ps, a, t, rfl, hP, hld, hn1, B1⟩ := hX
  have hl := hld.lenP
  have HL := Lib.hid hP.1
  clear hld
  obtain ⟨R, hR⟩ : ∃ R, floodI ps a t = R := ⟨_, rfl⟩
  have HR := Lib.hid hR
  clear hR
  go_wp2_with (fail)
  refine (implFloodVlan_r (c := c1) hP (by omega) hl HR.out).mono ?_
  rintro e w2 ⟨A2, n2, c2, rfl, O2, B2⟩
  have C2 := bel_trans B1 B2
  have P2 := hP.bel B2
  have hr2 := O2.len
  go_wp2_with (fail)
  refine (specFloodVlan_r (c := c1) P2 (by omega) hl HR.out).mono ?_
  rintro e w3 ⟨A3, n3, c3, rfl, O3, B3⟩
  obtain rfl : n3 = n2 := by have := O3.len; omega
  have C3 := bel_trans C2 B3
  have P3 := P2.bel B3
  have H2 := (O2.bel B3).has
  have H3 := O3.has
  have HR2 := Lib.hid hr2
  have nB : ((n3 : Int) != (n3 : Int)) = false := by simp
  have nC : (n3 != n3) = false := by simp
  have hn3 : n3 ≤ 16 := by rw [← hr2, ← HR.out]; have := flood_len ps a t; omega
  clear O2 O3 hr2
  go_wp2
  go_loopw [34] (fun i wr => ∃ k : Nat, k ≤ n3 ∧ i = .int .i64 (k : Int) ∧ Below w3.heap.size w3 wr) (fun i _ => n3 - (intOf i).toNat)
  case atStart => exact ⟨0, Nat.zero_le _, rfl, Below.refl _ _⟩
  case round =>
    obtain ⟨k, hk, rfl, BW⟩ := hrel
    have hge := BW.size
    by_cases hlt : k < n3
    · have hltB : decide ((k : Int) < (n3 : Int)) = true := decide_eq_true (by omega)
      obtain ⟨b2, o2, x, y, rfl, hbl2, hx, d0, d1⟩ := (H2.bel BW).at_ hlt
      obtain ⟨b3, o3, x', y', rfl, hbl3, hx', e0, e1⟩ := (H3.bel BW).at_ hlt
      have he : (x, y) = (x', y') := by rw [hx] at hx'; injection hx'
      injection he with q1 q2
      subst q1 q2
      have hmem : (x, y) ∈ floodI ps a t := by rw [HR.out]; exact List.mem_of_getElem? hx
      obtain ⟨hxa, hxr, hst⟩ := stays hmem
      obtain ⟨⟨hok, ha0, ha1⟩, _⟩ := flood_mem.1 hmem
      obtain ⟨a', rfl⟩ := Int.eq_ofNat_of_zero_le ha0
      obtain ⟨i', rfl⟩ := Int.eq_ofNat_of_zero_le hxr.1
      have hla : a' < n1 := by have := HL.out; omega
      have hli : i' < n1 := by have h1 : ((i' : Int), y).1 < ps.length := hxr.2; have h2 := HL.out; simp at h1; omega
      have xB : ((i' : Int) == (a' : Int)) = false := by have h1 : ((i' : Int), y).1 ≠ (a' : Int) := hxa; simp at h1 ⊢; omega
      obtain ⟨V, hV⟩ : ∃ V, wr.alloc (.cells #[.int .i64 (i' : Int), .int .i64 y] 36) = V := ⟨_, rfl⟩
      have BV : Below wr.heap.size wr V := by rw [← hV]; exact below_allocP wr _
      have hVn : V.heap[wr.heap.size]? = some (.cells #[.int .i64 (i' : Int), .int .i64 y] 36 (0, 0)) := by rw [← hV]; exact heap_alloc_new wr _
      have BWV := BW.trans (BV.mono hge)
      have v0 := (cell_of_row V wr.heap.size 0 _ _ (0, 0) hVn).trans rfl
      have v1 := (cell_of_row V wr.heap.size 1 _ _ (0, 0) hVn).trans rfl
      have PV := P3.bel BWV
      obtain ⟨b, o, Xa, ma, da, xa, qa, la, rfl, hbl, hxa', a0, a1, a2, _, hHa⟩ := PV.at_ hla
      obtain ⟨b', o', Xi, mi, di, xi, qi, li, hAi, _, hxi, i0, i1, i2, _, hHi⟩ := PV.at_ hli
      injection hAi with hAi
      injection hAi with q1 q2
      subst q1 q2
      have hma := hl.at_ hxa' hHa
      have hmi := hl.at_ hxi hHi
      obtain ⟨v, hv⟩ : ∃ v, inI (xa, qa, la) t = v := ⟨_, rfl⟩
      have hvi : inI (xi, qi, li) y = v := by
        have h1 : inI (dp ps ((i' : Int), y).1.toNat) ((i' : Int), y).2 = inI (dp ps (a' : Int).toNat) t := hst
        simp only [Int.toNat_natCast] at h1
        rw [dp_at hxa', dp_at hxi, hv] at h1
        exact h1
      have CA : ∀ d os, Calls Try.prog 18 #[.agg #[.int .i64 xa, .int .i64 qa, .slice Xa ma da], .int .i64 t] (Go.Sort.grow (redrawn V d) os) fun e w'' => e = .returned (.int .i64 v) ∧ ∃ p : Regrown, w'' = Go.Sort.grow (redrawn V p.d) p.os := fun d os => Calls.regrown_of (implVlanIn_r (hHa.bel (below_regrown V d os)) hma hv)
      have CI : ∀ d os, Calls Try.prog 18 #[.agg #[.int .i64 xi, .int .i64 qi, .slice Xi mi di], .int .i64 y] (Go.Sort.grow (redrawn V d) os) fun e w'' => e = .returned (.int .i64 v) ∧ ∃ p : Regrown, w'' = Go.Sort.grow (redrawn V p.d) p.os := fun d os => Calls.regrown_of (implVlanIn_r (hHi.bel (below_regrown V d os)) hmi hvi)
      have vB : (v != v) = false := by simp
      have r0 := cell_regrown v0
      have r1 := cell_regrown v1
      have r2 := cell_regrown ((BV.cell (p := ⟨b3, o3 + k * 2, none⟩) hbl3).trans e0)
      have r3 := cell_regrown ((BV.cell (p := ⟨b3, o3 + k * 2 + 1, none⟩) hbl3).trans e1)
      have r4 := cell_regrown a0
      have r5 := cell_regrown a1
      have r6 := cell_regrown a2
      have r7 := cell_regrown i0
      have r8 := cell_regrown i1
      have r9 := cell_regrown i2
      have j0 : (0 : Int) ≤ (a' : Int) := by omega
      have j1 : (a' : Int) < (n1 : Int) := by omega
      have j2 : (0 : Int) ≤ (i' : Int) := by omega
      have j3 : (i' : Int) < (n1 : Int) := by omega
      have j4 : (0 : Int) ≤ (k : Int) := by omega
      have j5 : (k : Int) < (n3 : Int) := by omega
      have hX := Lib.hid hx
      clear hx hx' hmem hxa hxr hst hok ha0 ha1 hxa' hxi hv hvi hHa hHi v0 v1 a0 a1 a2 i0 i1 i2 e0 e1
      rcases Nat.eq_zero_or_pos k with hk0 | hk0
      · subst hk0
        have kB : decide (((0 : Nat) : Int) > 0) = false := rfl
        have kC : decide ((0 : Int) > 0) = false := rfl
        simp only [Nat.zero_mul, Nat.add_zero] at d0 d1 r2 r3
        go_wp2
        refine wp_region_quiet_below (by kernel_rfl) (by kernel_rfl) ?_
        repeat ((with_reducible refine wpQuiet_step (fun K hK => ?_)); go_simp; first | (with_reducible refine hK _ ?_; clear hK K) | ((apply Exists.intro); (with_reducible refine ⟨fun _ => ?_, hK _ ?_⟩); (first | with_reducible exact CI _ _ | with_reducible exact CA _ _); clear hK K))
        (with_reducible refine wpQuiet_nil ?_)
        intro _ hw'
        obtain ⟨⟨dq, osq⟩, hw''⟩ := hw'
        subst hw''
        have B8 := bel_trans BWV (below_regrown V dq osq)
        go_wp2
        go_roundw
        case rel => exact ⟨1, by omega, by go_num, B8⟩
        case measure => simp [intOf]; omega
      · obtain ⟨j, hj⟩ : ∃ j, j = k - 1 := ⟨_, rfl⟩
        have hjn : j < n3 := by omega
        obtain ⟨bq, oq, xq, yq, hAq, _, hxq, q0, _⟩ := (H2.bel BW).at_ hjn
        injection hAq with hAq
        injection hAq with q1 q2
        subst q1 q2
        have hlt2 : xq < (i' : Int) := by
          have h1 := flood_asc ps (a' : Int) t
          rw [HR.out] at h1
          have h2 := List.getElem?_eq_some_iff.1 hxq
          have h3 := List.getElem?_eq_some_iff.1 hX.out
          have h4 := List.pairwise_iff_getElem.1 h1 j k h2.1 h3.1 (by omega)
          rw [h2.2, h3.2] at h4
          exact h4
        have kB : decide ((k : Int) > 0) = true := decide_eq_true (by omega)
        have kC : decide (0 < (k : Int)) = true := decide_eq_true (by omega)
        have kD : decide (0 < k) = true := decide_eq_true (by omega)
        have kW : IntKind.i64.wrap ((k : Int) - 1) = (j : Int) := by rw [IntWalk.i64_in _ (by omega)]; omega
        have l0 : (0 : Int) ≤ (j : Int) := by omega
        have l1 : (j : Int) < (n3 : Int) := by omega
        have xD : decide (xq ≥ (i' : Int)) = false := decide_eq_false (by omega)
        have xE : decide ((i' : Int) ≤ xq) = false := decide_eq_false (by omega)
        have rq := cell_regrown ((BV.cell (p := ⟨b2, o2 + j * 2, none⟩) hbl2).trans q0)
        have HJ := Lib.hid hj
        clear hj hlt2 hxq q0
        go_wp2
        refine wp_region_quiet_below (by kernel_rfl) (by kernel_rfl) ?_
        repeat ((with_reducible refine wpQuiet_step (fun K hK => ?_)); go_simp; first | (with_reducible refine hK _ ?_; clear hK K) | ((apply Exists.intro); (with_reducible refine ⟨fun _ => ?_, hK _ ?_⟩); (first | with_reducible exact CI _ _ | with_reducible exact CA _ _); clear hK K))
        (with_reducible refine wpQuiet_nil ?_)
        intro _ hw'
        obtain ⟨⟨dq, osq⟩, hw''⟩ := hw'
        subst hw''
        have B8 := bel_trans BWV (below_regrown V dq osq)
        go_wp2
        go_roundw
        case rel => exact ⟨k + 1, by omega, by go_num, B8⟩
        case measure => simp [intOf]; omega
    · have hltB : decide ((k : Int) < (n3 : Int)) = false := decide_eq_false (by omega)
      go_wp2
      go_ret
      exact ⟨rfl, bel_trans C3 BW⟩
set_option maxRecDepth 100000 in
theorem lifted_FnVlanStays (os : Os) (started : os.Started) (H : Type) (enc : TypeId × Value → H) :
    ReturnsInHanded {} Try.checked os 5 .any (Rows.fnVlanStaysSpec.pre6 enc Try.prog Try.f5 Rows.fnVlanStaysRow.domain false) (Rows.fnVlanStaysSpec.post enc Try.prog Try.f5 false true false false) := by
  refine returnsInHanded_of_change (C := Try.checked) (by kernel_rfl) started (by kernel_rfl) Try.func5
    (ChangeSpec.witness6 (enc := enc) (C := Try.checked) false ⟨#[], #[.slice none 0 0], []⟩ 8 (by kernel_rfl) (by kernel_rfl) (by kernel_rfl) (by kernel_rfl)) ?_
  intro W base args ds gs before hval0 hW hcnd _
  have hval : ∀ (j : Nat) t v, Try.f5.params[j]? = some t → args[j]? = some v → Value.okWide Try.prog W .any base t v := hval0
  have hW' := hW
  obtain ⟨p, q, hA0, hV, rfl, hfz, hnd⟩ := hW
  have hA : DataW.TrodAll enc Try.prog W 0 (fun _ => true) true Try.f5.params.toList args.toList ds p := hA0
  rw [Try.params5] at hA hval
  obtain ⟨v0, vs0, d0, ds0, p0, q0, hargs, rfl, rfl, h0, r0⟩ := trodAll_cons hA
  obtain ⟨rfl, rfl, rfl⟩ := trodAll_nil r0
  obtain rfl : args = #[v0] := by cases args; simp_all
  obtain ⟨rfl, rfl⟩ := trodVars_none hV
  obtain ⟨a0, len0, cap0, rfl⟩ := okWide_slice Try.underlying22 (hval 0 22 v0 rfl rfl)
  have k0 := h0
  have lt0 : ∀ x ∈ p0, x.block < W.heap.size := by obtain ⟨m, hm⟩ := k0; exact DataW.trod_lt m _ _ _ hm
  obtain ⟨z0, H0, U0, M0⟩ := has_of_trod (k := .u8) Try.underlying22 Try.underlying5 (by kernel_rfl) h0
  clear hA0 hval0
  refine (walk_FnVlanStays H0 U0 M0).mono fun e W' ⟨he, bel⟩ => ?_
  subst he
  exact ⟨_, rfl, _, _, _, [], _, [], hW', trodAll_mk1 (shut_bool Try.underlying4 _), (trodAll_cons_mk (Below.trod (by kernel_rfl) (by kernel_rfl) (of_decide_eq_true (by kernel_rfl)) k0 bel lt0) trodAll_mk0), rfl, bel.frame _, fun h => by cases h⟩

theorem fnVlanStays_holds : Rows.FnVlanStaysSaid :=
  OpenClaim.holds_of_wide 5 Try.f5 rfl rfl rfl rfl rfl rfl rfl ⟨rfl, rfl, rfl, rfl, rfl⟩ rfl rfl rfl rfl rfl (by kernel_rfl) Try.func5
    (by unfold joinedFacts; with_reducible refine Bool.and_eq_true_iff.2 ⟨?_, (by as_aux_lemma => kernel_rfl)⟩; with_reducible refine Bool.and_eq_true_iff.2 ⟨?_, (by as_aux_lemma => kernel_rfl)⟩; with_reducible refine Bool.and_eq_true_iff.2 ⟨?_, (by as_aux_lemma => kernel_rfl)⟩; with_reducible refine Bool.and_eq_true_iff.2 ⟨?_, (by as_aux_lemma => kernel_rfl)⟩; with_reducible refine Bool.and_eq_true_iff.2 ⟨?_, (by with_unfolding_all exact shutMake)⟩; with_reducible refine Bool.and_eq_true_iff.2 ⟨?_, (by with_unfolding_all exact shutLifts)⟩; with_reducible refine Bool.and_eq_true_iff.2 ⟨?_, shutEnter⟩; (repeat (with_reducible refine Bool.and_eq_true_iff.2 ⟨?_, (by as_aux_lemma => kernel_rfl)⟩)); as_aux_lemma => kernel_rfl)
    (of_decide_eq_true (by kernel_rfl)) (by unfold Func.isWrapper; first | (rw [if_pos (by decide +kernel)]; kernel_rfl) | (rw [if_neg (by decide +kernel)]; exact ⟨rfl, rfl⟩))
    (fun os started H enc _ => lifted_FnVlanStays os started H enc)
end Go.Proofs.Ytiokieancjigeaa
