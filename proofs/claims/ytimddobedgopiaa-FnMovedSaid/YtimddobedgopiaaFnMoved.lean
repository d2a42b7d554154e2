/-
  FnMoved: for every argument the law of what moves returns true and writes nothing that was there. No condition.
-/
import Derived.Test.YtimddobedgopiaaDrawFlow
import Derived.Test.YtimddobedgopiaaImp11d
import Derived.Test.YtimddobedgopiaaShut
import Derived.BigQuiet
namespace Go.Proofs.Ytimddobedgopiaa
open Go.RowKit Go.ChangeShapes Go.WideShapes Go.ChangeAt

/-- Where two bundles differ. -/
def xorU (us vs : List Bool) (i : Nat) : Bool := us.getD i false != vs.getD i false
def lastTo (p : Nat → Bool) : Nat → Int
  | 0 => -1
  | n + 1 => if p n = true then (n : Int) else lastTo p n
theorem cnt_zero {p : Nat → Bool} : ∀ {n : Nat}, cnt p n = 0 → ∀ i, i < n → p i = false
  | 0, _, i, h => by omega
  | n + 1, h, i, hi => by
    unfold cnt at h
    cases hp : p n
    · by_cases e : i = n
      · subst e; exact hp
      · exact cnt_zero (p := p) (n := n) (by omega) i (by omega)
    · rw [hp] at h; simp at h
theorem last_one {p : Nat → Bool} : ∀ {n : Nat}, cnt p n = 1 → ∃ d : Nat, d < n ∧ lastTo p n = (d : Int) ∧ p d = true ∧ ∀ i, i < n → i ≠ d → p i = false
  | 0, h => by cases h
  | n + 1, h => by
    unfold cnt at h
    unfold lastTo
    cases hp : p n
    · rw [hp] at h
      obtain ⟨d, h1, h2, h3, h4⟩ := last_one (p := p) (n := n) (by simpa using h)
      refine ⟨d, by omega, by simpa using h2, h3, fun i hi hne => ?_⟩
      by_cases e : i = n
      · subst e; exact hp
      · exact h4 i (by omega) hne
    · rw [hp] at h
      have h0 := cnt_zero (p := p) (n := n) (by simpa using h)
      exact ⟨n, by omega, by simp, hp, fun i hi hne => h0 i (by omega)⟩
theorem lastTo_yes {p : Nat → Bool} {n : Nat} (h : p n = true) : lastTo p (n + 1) = (n : Int) ∧ cnt p (n + 1) = cnt p n + 1 := by
  exact ⟨by rw [lastTo, if_pos h], by rw [cnt, if_pos h]⟩
theorem lastTo_no {p : Nat → Bool} {n : Nat} (h : p n = false) : lastTo p (n + 1) = lastTo p n ∧ cnt p (n + 1) = cnt p n := by
  exact ⟨by rw [lastTo, if_neg (by rw [h]; decide)], by rw [cnt, if_neg (by rw [h]; decide)]; rfl⟩
theorem xorU_far {us vs : List Bool} {i n : Nat} (h1 : us.length = n) (h2 : vs.length = n) (hi : n ≤ i) : us.getD i false = vs.getD i false := by
  rw [List.getD_eq_getElem?_getD, List.getD_eq_getElem?_getD, List.getElem?_eq_none (by omega), List.getElem?_eq_none (by omega)]
theorem moved_none {us vs : List Bool} {n : Nat} (h1 : us.length = n) (h2 : vs.length = n) (h : cnt (xorU us vs) n = 0) : movedTo us vs 225 = 0 := by
  have : us = vs := by
    apply List.ext_getElem (by omega)
    intro i hi1 hi2
    have := cnt_zero h i (by omega)
    unfold xorU at this
    rw [List.getD_eq_getElem?_getD, List.getD_eq_getElem?_getD, List.getElem?_eq_getElem hi1, List.getElem?_eq_getElem hi2] at this
    simpa using this
  subst this
  exact movedTo_self us 225
/-- One wire has gone down, or come up: what moves are its flows. -/
theorem moved_of {us vs : List Bool} {n d : Nat} (h1 : us.length = n) (h2 : vs.length = n) (hd : xorU us vs d = true) (ho : ∀ i, i < n → i ≠ d → xorU us vs i = false) :
    (vs.getD d false = true → movedTo us vs 225 = shareI vs 225 (d : Int)) ∧ (vs.getD d false = false → movedTo us vs 225 = shareI us 225 (d : Int)) := by
  have ho' : ∀ i, i ≠ d → us.getD i false = vs.getD i false := fun i hne => by
    by_cases hi : i < n
    · have := ho i hi hne
      unfold xorU at this
      simpa using this
    · exact xorU_far h1 h2 (by omega)
  unfold xorU at hd
  constructor
  · intro hv
    rw [movedTo_comm]
    exact moved_share (by omega) hv (by rw [hv] at hd; simpa using hd) (fun i hne => (ho' i hne).symm) 225
  · intro hv
    exact moved_share (by omega) (by rw [hv] at hd; simpa using hd) hv ho' 225

set_option maxRecDepth 100000 in
set_option maxHeartbeats 8000000 in
theorem walk_FnMoved {A : Option Addr} {n c : Nat} {zs : List Int} {w : World} (h : Has w A n (ints .u8 zs)) (hwf : ∀ z ∈ zs, (Lit.int .u8 z).wf = true) (hc : n ≤ c ∧ c ≤ maxLen) :
    Calls Try.prog 6 #[.slice A n c] w fun e w' => e = .returned (.bool true) ∧ Below w.heap.size w w' := by
  have hu : U8s zs := fun z hz => u8_of_wf (hwf z hz)
  clear hwf
  by_cases hn : n ≤ 1048576
  rotate_left
  · go_enter Try.func6, Try.ntmps6
    go_wp2
    go_ret
    exact ⟨rfl, Below.refl _ _⟩
  go_enter Try.func6, Try.ntmps6
  go_wp2_with (fail)
  refine (drawMovedFlows_any h hu hc).mono ?_
  rintro e w1 hX
  unfold BoolsT at hX
  obtain ⟨A1, n1, c1, us, A2, n2, c2, vs, rfl, H1, hn1, K1, hn2, B1⟩ := hX
  have s1 := B1.size
  have hl1 := has_bools_len H1
  have hl2 := has_bools_len K1
  obtain ⟨r, hr⟩ : ∃ r, movedI us vs = r := ⟨_, rfl⟩
  have hr' : movedI vs us = r := by rw [movedI_comm]; exact hr
  have rB : (r != r) = false := by simp
  have rE : (r == r) = true := by simp
  go_wp2_with (fail)
  refine (implMovedFlows_r H1 K1 (by omega) (by omega) hr).mono ?_
  rintro e w2 ⟨rfl, B2⟩
  have C2 := bel_trans B1 B2
  have H2 := H1.bel B2
  have K2 := K1.bel B2
  by_cases hneg : r < 0
  · obtain rfl : r = -1 := by
      unfold movedI at hr
      split at hr
      · have := movedTo_bounds us vs 225; omega
      · exact hr.symm
    clear hneg
    go_wp2_with (fail)
    refine (specMovedFlows_r H2 K2 (by omega) (by omega) hr).mono ?_
    rintro e w' ⟨rfl, rfl⟩
    go_wp2_with (go_at_call 29; refine (implMovedFlows_r K2 H2 (by omega) (by omega) hr').mono ?_; rintro e w3 ⟨rfl, B3⟩)
    refine (specMovedFlows_r (K2.bel B3) (H2.bel B3) (by omega) (by omega) hr').mono ?_
    rintro e w' ⟨rfl, rfl⟩
    go_wp2_with (fail)
    refine (specMovedFlows_r (H2.bel B3) (K2.bel B3) (by omega) (by omega) hr).mono ?_
    rintro e w' ⟨rfl, rfl⟩
    go_wp2
    go_ret
    exact ⟨rfl, bel_trans C2 B3⟩
  have hpair : upOk us ∧ n1 = n2 := by
    unfold movedI at hr
    split at hr
    · rename_i hh; exact ⟨hh.1, by omega⟩
    · omega
  obtain ⟨hok, rfl⟩ := hpair
  have hokv : upOk vs := by unfold upOk at *; omega
  have hmr : movedTo us vs 225 = r := by
    unfold movedI at hr
    rwa [if_pos ⟨hok, by omega⟩] at hr
  have nB : decide (r < 0) = false := by simp; omega
  clear hneg
  go_wp2_with (fail)
  refine (specMovedFlows_r H2 K2 (by omega) (by omega) hr).mono ?_
  rintro e w' ⟨rfl, rfl⟩
  go_wp2_with (go_at_call 29; refine (implMovedFlows_r K2 H2 (by omega) (by omega) hr').mono ?_; rintro e w3 ⟨rfl, B3⟩)
  refine (specMovedFlows_r (K2.bel B3) (H2.bel B3) (by omega) (by omega) hr').mono ?_
  rintro e w' ⟨rfl, rfl⟩
  have C3 := bel_trans C2 B3
  have H3 := H2.bel B3
  have K3 := K2.bel B3
  have HM := Lib.hid hmr
  have HO := Lib.hid hok
  have HV := Lib.hid hokv
  have HR' := Lib.hid hr'
  have HL1 := Lib.hid hl1
  have HL2 := Lib.hid hl2
  clear hmr hok hokv hr hr' hl1 hl2 B1 B2 B3 H1 K1 H2 K2 C2
  go_wp2
  go_loopw [6, 7, 50] (fun d v i wr => ∃ k : Nat, k ≤ n1 ∧ i = .int .i64 (k : Int) ∧ d = .int .i64 (lastTo (xorU us vs) k) ∧ v = .int .i64 (cnt (xorU us vs) k : Int) ∧ Below w.heap.size w wr ∧ Below w3.heap.size w3 wr) (fun _ _ i _ => n1 - (intOf i).toNat)
  case atStart => exact ⟨0, Nat.zero_le _, rfl, rfl, rfl, C3, Below.refl _ _⟩
  case round =>
    obtain ⟨k, hk, rfl, rfl, rfl, CX, DX⟩ := hrel
    have HX := H3.bel DX
    have KX := K3.bel DX
    have hcb := cnt_le (xorU us vs) k
    by_cases hlt : k < n1
    · have hltB : decide ((k : Int) < (n1 : Int)) = true := by simp; omega
      have hk0 : (0 : Int) ≤ (k : Int) := by omega
      have hk1 : (k : Int) < (n1 : Int) := by omega
      obtain ⟨b, o, rfl, hbl, hcu⟩ := has_bool HX hlt
      obtain ⟨b2, o2, rfl, hbl2, hcv⟩ := has_bool KX hlt
      have HY := Lib.hid (lastTo_yes (p := xorU us vs) (n := k))
      have HN := Lib.hid (lastTo_no (p := xorU us vs) (n := k))
      have hxe : xorU us vs k = (us.getD k false != vs.getD k false) := rfl
      rw [hxe] at HY HN
      generalize us.getD k false = u at *
      generalize vs.getD k false = v at *
      clear hxe
      cases u
      · cases v
        · have HE := Lib.hid (HN.out rfl)
          generalize lastTo (xorU us vs) k = L at *
          generalize cnt (xorU us vs) k = S at *
          go_wp2
          go_quiet (fail)
          have BD := below_drewN (B := wr.heap.size) wr nq
          have sX := CX.size
          have sD := DX.size
          go_wp2
          go_roundw
          case rel => exact ⟨k + 1, by omega, by go_num, by rw [HE.out.1], by rw [HE.out.2], CX.trans (BD.mono sX), DX.trans (BD.mono sD)⟩
          case measure => simp [intOf]; omega
        · have HE := Lib.hid (HY.out rfl)
          generalize lastTo (xorU us vs) k = L at *
          generalize cnt (xorU us vs) k = S at *
          have wS : IntKind.i64.wrap ((S : Int) + 1) = (S : Int) + 1 := IntWalk.i64_in _ (by omega)
          go_wp2
          go_quiet (fail)
          have BD := below_drewN (B := wr.heap.size) wr nq
          have sX := CX.size
          have sD := DX.size
          go_wp2
          go_roundw
          case rel => exact ⟨k + 1, by omega, by go_num, by rw [HE.out.1], by rw [HE.out.2]; go_num, CX.trans (BD.mono sX), DX.trans (BD.mono sD)⟩
          case measure => simp [intOf]; omega
      · cases v
        · have HE := Lib.hid (HY.out rfl)
          generalize lastTo (xorU us vs) k = L at *
          generalize cnt (xorU us vs) k = S at *
          have wS : IntKind.i64.wrap ((S : Int) + 1) = (S : Int) + 1 := IntWalk.i64_in _ (by omega)
          go_wp2
          go_quiet (fail)
          have BD := below_drewN (B := wr.heap.size) wr nq
          have sX := CX.size
          have sD := DX.size
          go_wp2
          go_roundw
          case rel => exact ⟨k + 1, by omega, by go_num, by rw [HE.out.1], by rw [HE.out.2]; go_num, CX.trans (BD.mono sX), DX.trans (BD.mono sD)⟩
          case measure => simp [intOf]; omega
        · have HE := Lib.hid (HN.out rfl)
          generalize lastTo (xorU us vs) k = L at *
          generalize cnt (xorU us vs) k = S at *
          go_wp2
          go_quiet (fail)
          have BD := below_drewN (B := wr.heap.size) wr nq
          have sX := CX.size
          have sD := DX.size
          go_wp2
          go_roundw
          case rel => exact ⟨k + 1, by omega, by go_num, by rw [HE.out.1], by rw [HE.out.2], CX.trans (BD.mono sX), DX.trans (BD.mono sD)⟩
          case measure => simp [intOf]; omega
    · have hltB : decide ((k : Int) < (n1 : Int)) = false := by simp; omega
      obtain rfl : k = n1 := by omega
      by_cases h1 : cnt (xorU us vs) k = 1
      · obtain ⟨d, hd, hL, hd1, hd2⟩ := last_one h1
        obtain ⟨q1, q2⟩ := moved_of HL1.out HL2.out hd1 hd2
        rw [HM.out] at q1 q2
        have Q1 := Lib.hid q1
        have Q2 := Lib.hid q2
        rw [h1, hL]
        have hd0 : (0 : Int) ≤ (d : Int) := by omega
        have hdk : (d : Int) < (k : Int) := by omega
        obtain ⟨b2, o2, rfl, hbl2, hcv⟩ := has_bool KX hd
        clear q1 q2 hd1 hd2 h1 hL hlt hltB
        cases hv : vs.getD d false
        · rw [hv] at hcv
          have hq := Q2.out hv
          go_wp2_with (fail)
          refine (implSharesOf_r HX (by omega) (show sharesI us = sharesTo us 225 by unfold sharesI; rw [if_pos HO.out])).mono ?_
          rintro e w5 ⟨A5, n5, c5, rfl, O5, B5⟩
          have hn5 : n5 = k := by have := O5.has.len; rw [sharesTo_len, HL1.out] at this; exact this.symm
          subst hn5
          have C5 := bel_trans CX B5
          obtain ⟨b5, o5, z5, rfl, _, hx5, hc5⟩ := O5.has.at_ hd
          rw [sharesTo_get us 225 (by rw [HL1.out]; exact hd), ← hq] at hx5
          injection hx5 with hx5
          subst hx5
          clear hq hv
          go_wp2_with (go_at_call 29; refine (implMovedFlows_r (KX.bel B5) (HX.bel B5) (by omega) (by omega) HR'.out).mono ?_; rintro e w6 ⟨rfl, B6⟩)
          go_ret
          exact ⟨rfl, bel_trans C5 B6⟩
        · rw [hv] at hcv
          have hq := Q1.out hv
          go_wp2_with (fail)
          refine (implSharesOf_r KX (by omega) (show sharesI vs = sharesTo vs 225 by unfold sharesI; rw [if_pos HV.out])).mono ?_
          rintro e w5 ⟨A5, n5, c5, rfl, O5, B5⟩
          have hn5 : n5 = k := by have := O5.has.len; rw [sharesTo_len, HL2.out] at this; exact this.symm
          subst hn5
          have C5 := bel_trans CX B5
          obtain ⟨b5, o5, z5, rfl, _, hx5, hc5⟩ := O5.has.at_ hd
          rw [sharesTo_get vs 225 (by rw [HL2.out]; exact hd), ← hq] at hx5
          injection hx5 with hx5
          subst hx5
          clear hq hv
          go_wp2_with (go_at_call 29; refine (implMovedFlows_r (KX.bel B5) (HX.bel B5) (by omega) (by omega) HR'.out).mono ?_; rintro e w6 ⟨rfl, B6⟩)
          go_ret
          exact ⟨rfl, bel_trans C5 B6⟩
      · have h1B : ((cnt (xorU us vs) k : Int) != 1) = true := by simp; omega
        have h1C : (cnt (xorU us vs) k != 1) = true := by simp [h1]
        by_cases h0 : cnt (xorU us vs) k = 0
        · have hr0 := moved_none HL1.out HL2.out h0
          rw [HM.out] at hr0
          subst hr0
          rw [h0]
          clear h1B h1C h1 h0 hlt hltB
          go_wp2_with (fail)
          refine (implMovedFlows_r KX HX (by omega) (by omega) HR'.out).mono ?_
          rintro e w6 ⟨rfl, B6⟩
          go_wp2
          go_ret
          exact ⟨rfl, bel_trans CX B6⟩
        · have hp : decide ((cnt (xorU us vs) k : Int) > 0) = true := by simp; omega
          have hp1 : decide ((0 : Int) < (cnt (xorU us vs) k : Int)) = true := by simp; omega
          have hp2 : decide (0 < cnt (xorU us vs) k) = true := by simp; omega
          generalize cnt (xorU us vs) k = S at *
          clear h1 h0 hlt hltB
          go_wp2_with (fail)
          refine (implMovedFlows_r KX HX (by omega) (by omega) HR'.out).mono ?_
          rintro e w6 ⟨rfl, B6⟩
          go_wp2
          go_ret
          exact ⟨rfl, bel_trans CX B6⟩
set_option maxRecDepth 100000 in
theorem lifted_FnMoved (os : Os) (started : os.Started) (H : Type) (enc : TypeId × Value → H) :
    ReturnsInHanded {} Try.checked os 6 .any (Rows.fnMovedSpec.pre6 enc Try.prog Try.f6 Rows.fnMovedRow.domain false) (Rows.fnMovedSpec.post enc Try.prog Try.f6 false true false false) := by
  refine returnsInHanded_of_change (C := Try.checked) (by kernel_rfl) started (by kernel_rfl) Try.func6
    (ChangeSpec.witness6 (enc := enc) (C := Try.checked) false ⟨#[], #[.slice none 0 0], []⟩ 8 (by kernel_rfl) (by kernel_rfl) (by kernel_rfl) (by kernel_rfl)) ?_
  intro W base args ds gs before hval0 hW hcnd _
  have hval : ∀ (j : Nat) t v, Try.f6.params[j]? = some t → args[j]? = some v → Value.okWide Try.prog W .any base t v := hval0
  have hW' := hW
  obtain ⟨p, q, hA0, hV, rfl, hfz, hnd⟩ := hW
  have hA : DataW.TrodAll enc Try.prog W 0 (fun _ => true) true Try.f6.params.toList args.toList ds p := hA0
  rw [Try.params6] at hA hval
  obtain ⟨v0, vs0, d0, ds0, p0, q0, hargs, rfl, rfl, h0, r0⟩ := trodAll_cons hA
  obtain ⟨rfl, rfl, rfl⟩ := trodAll_nil r0
  obtain rfl : args = #[v0] := by cases args; simp_all
  obtain ⟨rfl, rfl⟩ := trodVars_none hV
  obtain ⟨a0, len0, cap0, rfl⟩ := okWide_slice Try.underlying22 (hval 0 22 v0 rfl rfl)
  have k0 := h0
  have lt0 : ∀ x ∈ p0, x.block < W.heap.size := by obtain ⟨m, hm⟩ := k0; exact DataW.trod_lt m _ _ _ hm
  obtain ⟨z0, H0, U0, M0⟩ := has_of_trod (k := .u8) Try.underlying22 Try.underlying5 (by kernel_rfl) h0
  clear hA0 hval0
  refine (walk_FnMoved H0 U0 M0).mono fun e W' ⟨he, bel⟩ => ?_
  subst he
  exact ⟨_, rfl, _, _, _, [], _, [], hW', trodAll_mk1 (shut_bool Try.underlying4 _), (trodAll_cons_mk (Below.trod (by kernel_rfl) (by kernel_rfl) (of_decide_eq_true (by kernel_rfl)) k0 bel lt0) trodAll_mk0), rfl, bel.frame _, fun h => by cases h⟩

theorem fnMoved_holds : Rows.FnMovedSaid :=
  OpenClaim.holds_of_wide 6 Try.f6 rfl rfl rfl rfl rfl rfl rfl ⟨rfl, rfl, rfl, rfl, rfl⟩ rfl rfl rfl rfl rfl (by kernel_rfl) Try.func6
    (by unfold joinedFacts; with_reducible refine Bool.and_eq_true_iff.2 ⟨?_, (by as_aux_lemma => kernel_rfl)⟩; with_reducible refine Bool.and_eq_true_iff.2 ⟨?_, (by as_aux_lemma => kernel_rfl)⟩; with_reducible refine Bool.and_eq_true_iff.2 ⟨?_, (by as_aux_lemma => kernel_rfl)⟩; with_reducible refine Bool.and_eq_true_iff.2 ⟨?_, (by as_aux_lemma => kernel_rfl)⟩; with_reducible refine Bool.and_eq_true_iff.2 ⟨?_, (by with_unfolding_all exact shutMake)⟩; with_reducible refine Bool.and_eq_true_iff.2 ⟨?_, (by with_unfolding_all exact shutLifts)⟩; with_reducible refine Bool.and_eq_true_iff.2 ⟨?_, shutEnter⟩; (repeat (with_reducible refine Bool.and_eq_true_iff.2 ⟨?_, (by as_aux_lemma => kernel_rfl)⟩)); as_aux_lemma => kernel_rfl)
    (of_decide_eq_true (by kernel_rfl)) (by unfold Func.isWrapper; first | (rw [if_pos (by decide +kernel)]; kernel_rfl) | (rw [if_neg (by decide +kernel)]; exact ⟨rfl, rfl⟩))
    (fun os started H enc _ => lifted_FnMoved os started H enc)
end Go.Proofs.Ytimddobedgopiaa
