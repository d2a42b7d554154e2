/-
  FnSpread: for every argument the law of frames over several wires returns true and writes nothing that was there. No condition.
-/
import Derived.Test.YtimddobedgopiaaDrawFlow
import Derived.Test.YtimddobedgopiaaImp11e
import Derived.Test.YtimddobedgopiaaFlowS
import Derived.Test.YtimddobedgopiaaWnPairs
import Derived.Test.YtimddobedgopiaaShut
import Derived.BigQuiet
namespace Go.Proofs.Ytimddobedgopiaa
open Go.RowKit Go.ChangeShapes Go.WideShapes Go.ChangeAt

theorem someTo_succS {us : List Bool} {k : Nat} (hk : k < us.length) : someTo us (k + 1) = (someTo us k || us.getD k false) := by
  unfold someTo
  rw [List.take_add_one, List.any_append, List.getD_eq_getElem?_getD, List.getElem?_eq_getElem hk]
  simp
/-- Each frame has a wire, or none has. -/
theorem lens_end {us : List Bool} {hs : List Hop3} (hok : upOk us) (hf : flowsTo hs hs.length = true) :
    lensTo (hopMem us hs) hs.length us.length = if someTo us us.length = true then (hs.length : Int) else 0 := by
  have hg : ∀ i, i < hs.length → hopMem us hs i = memP us (hopFlow hs i).toNat := fun i hi => by
    have h1 := flowsTo_at hf hi
    have h2 : hopFlow hs i ≤ 224 := (flowI_bounds _ _).2
    unfold hopMem memI
    rw [if_pos ⟨hok, h1, by omega⟩]
  split
  · rename_i h
    refine lensTo_all (fun i hi => ?_)
    rw [hg i hi]
    exact ⟨(mem_some _).1 h, (memP_lt us _).2⟩
  · rename_i h
    refine lensTo_none (fun i hi => ?_)
    rw [hg i hi]
    exact (mem_some _).2 (by simpa using h)

set_option maxRecDepth 100000 in
set_option maxHeartbeats 8000000 in
theorem walk_FnSpread {A : Option Addr} {n c : Nat} {zs : List Int} {w : World} (h : Has w A n (ints .u8 zs)) (hwf : ∀ z ∈ zs, (Lit.int .u8 z).wf = true) (hc : n ≤ c ∧ c ≤ maxLen) :
    Calls Try.prog 8 #[.slice A n c] w fun e w' => e = .returned (.bool true) ∧ Below w.heap.size w w' := by
  have hu : U8s zs := fun z hz => u8_of_wf (hwf z hz)
  clear hwf
  by_cases hn : n ≤ 1048576
  rotate_left
  · go_enter Try.func8, Try.ntmps8
    go_wp2
    go_ret
    exact ⟨rfl, Below.refl _ _⟩
  go_enter Try.func8, Try.ntmps8
  go_wp2_with (fail)
  refine (drawSpreadFrames_any h hu hc).mono ?_
  rintro e w1 hX
  unfold BoolsH at hX
  obtain ⟨A1, n1, c1, us, A2, n2, c2, hs, rfl, H1, hn1, K1, hn2, B1⟩ := hX
  have s1 := B1.size
  have HL := Lib.hid (has_bools_len H1)
  have HH := Lib.hid K1.1
  obtain ⟨R, hR⟩ : ∃ R, spreadI us hs = R := ⟨_, rfl⟩
  obtain ⟨l1, l2, _⟩ := spread_le us hs
  rw [hR] at l1 l2
  have L3 := Lib.hid (show ∀ o ∈ R, o.length ≤ 16777216 from fun o ho => by have := l2 o ho; omega)
  clear l2
  go_wp2_with (fail)
  refine (implSpreadFrames_w H1 K1 (by omega) (by omega) hR).mono ?_
  rintro e w2 ⟨A3, n3, c3, v3, rfl, O2, B2⟩
  have C2 := bel_trans B1 B2
  have H2 := H1.bel B2
  have K2 := K1.bel B2
  have hn3 := O2.has.len
  go_wp2_with (fail)
  refine (specSpreadFrames_w H2 K2 (by omega) (by omega) hR).mono ?_
  rintro e w3 ⟨A4, n4, c4, v4, rfl, O3, B3⟩
  have C3 := bel_trans C2 B3
  have H3 := H2.bel B3
  have K3 := K2.bel B3
  have P3 := O2.bel B3
  go_wp2_with (fail)
  refine (wnPairs_same P3.has O3.has (by omega) L3.out).mono ?_
  rintro e w4 ⟨rfl, B4⟩
  have C4 := bel_trans C3 B4
  have H4 := H3.bel B4
  have K4 := K3.bel B4
  have P4 := P3.bel B4
  by_cases hok : upOk us ∧ hs.length ≤ 60 ∧ flowsTo hs hs.length = true
  rotate_left
  · have hR0 : R = [] := by rw [← hR]; unfold spreadI; rw [if_neg hok]
    obtain rfl : n3 = 0 := by rw [hR0] at hn3; exact hn3.symm
    clear hok
    go_wp2_with (fail)
    refine (specSpreadFrames_w H4 K4 (by omega) (by omega) hR).mono ?_
    rintro e w5 ⟨A5, n5, c5, v5, rfl, O5, B5⟩
    have C5 := bel_trans C4 B5
    go_wp2_with (fail)
    refine (wnPairs_same (P4.bel B5).has O5.has (by omega) L3.out).mono ?_
    rintro e w6 ⟨rfl, B6⟩
    go_wp2
    go_ret
    exact ⟨rfl, bel_trans C5 B6⟩
  have hR1 : R = spreadTo (hopMem us hs) n1 n2 := by rw [← hR]; unfold spreadI; rw [if_pos hok, HL.out, HH.out]
  subst hR1
  rw [spreadTo_len] at hn3
  subst hn3
  have h1 : 1 ≤ n1 := by have := hok.1.1; rw [HL.out] at this; exact this
  have e0 : ((n1 : Int) == 0) = false := by simp; omega
  have HEND := Lib.hid (lens_end hok.1 hok.2.2)
  have hn8 : n1 ≤ 8 := by have := hok.1.2; rw [HL.out] at this; exact this
  have Q4 := P4.has
  clear hok hR O2 O3 P3 P4 B1 B2 B3 B4 H1 K1 H2 K2 H3 K3 C2 C3 l1
  go_wp2
  go_loopw [6, 7, 41] (fun v s i wr => ∃ k : Nat, k ≤ n1 ∧ i = .int .i64 (k : Int) ∧ v = .int .i64 (lensTo (hopMem us hs) n2 k) ∧ s = .bool (someTo us k) ∧ Below w4.heap.size w4 wr) (fun _ _ i _ => n1 - (intOf i).toNat)
  case atStart => exact ⟨0, Nat.zero_le _, rfl, by rw [lensTo_zero], rfl, Below.refl _ _⟩
  case round =>
    obtain ⟨k, hk, rfl, rfl, rfl, DX⟩ := hrel
    by_cases hlt : k < n1
    · have hltB : decide ((k : Int) < (n1 : Int)) = true := by simp; omega
      have hk0 : (0 : Int) ≤ (k : Int) := by omega
      have hk1 : (k : Int) < (n1 : Int) := by omega
      obtain ⟨b, o, rfl, hbl, hcu⟩ := has_bool (H4.bel DX) hlt
      obtain ⟨b3, o3, B, q, d, ls, rfl, hbl3, hls, hcl, _, hHB⟩ := (Q4.bel DX).at_ hlt
      rw [spreadTo_get (hopMem us hs) n2 hlt] at hls
      injection hls with hls
      subst hls
      have hq := hHB.len
      have hqn := hasTo_le (hopMem us hs) (k : Int) n2
      have HS := Lib.hid (lensTo_succ (hopMem us hs) n2 k)
      rw [hq] at HS
      have HT := Lib.hid (someTo_succS (us := us) (show k < us.length by rw [HL.out]; exact hlt))
      have hb1 := lensTo_bounds (hopMem us hs) n2 k
      have HME := Lib.hid (fun (z : Int) (hz : z ∈ hasTo (hopMem us hs) (k : Int) n2) => hasTo_mem hz)
      have HAS := Lib.hid (hasTo_asc (hopMem us hs) (k : Int) n2)
      generalize us.getD k false = u at *
      generalize someTo us k = s at *
      generalize lensTo (hopMem us hs) n2 k = S at *
      have wS : IntKind.i64.wrap (S + (q : Int)) = S + (q : Int) := IntWalk.i64_in _ (by omega)
      generalize hls : hasTo (hopMem us hs) (k : Int) n2 = ls at *
      generalize hwb : wr = wb at *
      clear hwb hls
      have sD := DX.size
      cases s <;> cases u <;>
      · go_wp2
        go_loopw [55] (fun i wx => ∃ j : Nat, j ≤ q ∧ i = .int .i64 (j : Int) ∧ Below wb.heap.size wb wx) (fun i _ => q - (intOf i).toNat)
        case atStart => exact ⟨0, Nat.zero_le _, rfl, Below.refl _ _⟩
        case round =>
          obtain ⟨j, hj, rfl, DY⟩ := hrel
          have DZ := DX.trans (DY.mono sD)
          by_cases hjq : j < q
          · have hjB : decide ((j : Int) < (q : Int)) = true := by simp; omega
            have hj0 : (0 : Int) ≤ (j : Int) := by omega
            have hj1 : (j : Int) < (q : Int) := by omega
            obtain ⟨bb, ob, z, rfl, hbb, hz, hcz⟩ := (hHB.bel DY).at_ hjq
            obtain ⟨K, hKn, rfl, hgK⟩ := HME.out z (List.mem_of_getElem? hz)
            have hK0 : (0 : Int) ≤ (K : Int) := by omega
            have hK1 : (K : Int) < (n2 : Int) := by omega
            obtain ⟨bk, ok, f, t, p, rfl, hbk, hx, e1, e2, _⟩ := (K4.bel DZ).at_ hKn
            obtain ⟨x, hxx⟩ : ∃ x, flowI f t = x := ⟨_, rfl⟩
            have hmx : memI us x = (k : Int) := by
              have h9 := hgK
              unfold hopMem at h9
              rw [hopFlow_at hx, hxx] at h9
              exact h9
            have kB : ((k : Int) != (k : Int)) = false := by simp
            have CF := Lib.hid (fun W : World => implFlowOf_r (w := W) hxx)
            have CM := Lib.hid (fun N : Nat => implMemberFor_r (c := c1) (w := wr.drewN N) (((H4.bel DZ)).bel (below_drewN _ _)) (by omega) hmx)
            by_cases hj2 : j = 0
            · subst hj2
              have g0 : decide (((0 : Nat) : Int) > 0) = false := rfl
              have g1 : decide ((0 : Int) > 0) = false := rfl
              have g2 : decide ((0 : Int) < 0) = false := rfl
              have hcz2 := hcz
              rw [Nat.add_zero] at hcz2
              clear hx hxx hmx hgK hz hjq
              go_wp2
              go_quiet (first | (go_at_call 16; exact Calls.quiet_of_same ((CF.out _).mono (fun e w' hh => ⟨hh.1, hh.2.symm⟩))) | (go_at_call 19; exact Calls.quiet_of_same ((CM.out _).mono (fun e w' hh => ⟨hh.1, hh.2.symm⟩))))
              have BD := below_drewN (B := wr.heap.size) wr nq
              have sY := DY.size
              go_wp2
              go_roundw
              case rel => exact ⟨0 + 1, by omega, by go_num, DY.trans (BD.mono sY)⟩
              case measure => simp [intOf]; omega
            · obtain ⟨i, rfl⟩ : ∃ i, j = i + 1 := ⟨j - 1, by omega⟩
              obtain ⟨bb2, ob2, y, hbe, _, hy, hcy⟩ := (hHB.bel DY).at_ (show i < q by omega)
              injection hbe with hbe
              injection hbe with q1 q2
              subst q1 q2
              have hasc : y < (K : Int) := by
                have h9 := List.pairwise_iff_getElem.1 HAS.out i (i + 1) (List.getElem?_eq_some_iff.1 hy).1 (List.getElem?_eq_some_iff.1 hz).1 (by omega)
                rw [(List.getElem?_eq_some_iff.1 hy).2, (List.getElem?_eq_some_iff.1 hz).2] at h9
                exact h9
              have iW : IntKind.i64.wrap (((i + 1 : Nat) : Int) - 1) = (i : Int) := by rw [IntWalk.i64_in _ (by omega)]; omega
              have iW2 : IntKind.i64.wrap ((i : Int) + 1 - 1) = (i : Int) := by rw [IntWalk.i64_in _ (by omega)]; omega
              have hi0 : (0 : Int) ≤ (i : Int) := by omega
              have hi1 : (i : Int) < (q : Int) := by omega
              have g0 : decide (((i + 1 : Nat) : Int) > 0) = true := decide_eq_true (by omega)
              have g1 : decide ((0 : Int) < (i : Int) + 1) = true := decide_eq_true (by omega)
              have g2 : decide ((i : Int) + 1 > 0) = true := decide_eq_true (by omega)
              have y0 : decide (y ≥ (K : Int)) = false := by simp; omega
              have y1 : decide ((K : Int) ≤ y) = false := by simp; omega
              clear hx hxx hmx hgK hz hy hjq hasc
              go_wp2
              go_quiet (first | (go_at_call 16; exact Calls.quiet_of_same ((CF.out _).mono (fun e w' hh => ⟨hh.1, hh.2.symm⟩))) | (go_at_call 19; exact Calls.quiet_of_same ((CM.out _).mono (fun e w' hh => ⟨hh.1, hh.2.symm⟩))))
              have BD := below_drewN (B := wr.heap.size) wr nq
              have sY := DY.size
              go_wp2
              go_roundw
              case rel => exact ⟨i + 1 + 1, by omega, by go_num, DY.trans (BD.mono sY)⟩
              case measure => simp [intOf]; omega
          · have hjB : decide ((j : Int) < (q : Int)) = false := by simp; omega
            obtain rfl : j = q := by omega
            go_wp2
            go_roundw
            case rel => exact ⟨k + 1, by omega, by go_num, by rw [HS.out], by rw [HT.out]; rfl, DZ⟩
            case measure => simp [intOf]; omega
    · have hltB : decide ((k : Int) < (n1 : Int)) = false := by simp; omega
      obtain rfl : k = n1 := by omega
      have hA := HEND.out
      rw [HL.out, HH.out] at hA
      generalize someTo us k = s at *
      have C5 := C4.trans (DX.mono C4.size)
      cases s
      · rw [if_neg (by decide)] at hA
        rw [hA]
        go_wp2
        go_ret
        exact ⟨rfl, C5⟩
      · rw [if_pos rfl] at hA
        rw [hA]
        go_wp2
        go_ret
        exact ⟨rfl, C5⟩
set_option maxRecDepth 100000 in
theorem lifted_FnSpread (os : Os) (started : os.Started) (H : Type) (enc : TypeId × Value → H) :
    ReturnsInHanded {} Try.checked os 8 .any (Rows.fnSpreadSpec.pre6 enc Try.prog Try.f8 Rows.fnSpreadRow.domain false) (Rows.fnSpreadSpec.post enc Try.prog Try.f8 false true false false) := by
  refine returnsInHanded_of_change (C := Try.checked) (by kernel_rfl) started (by kernel_rfl) Try.func8
    (ChangeSpec.witness6 (enc := enc) (C := Try.checked) false ⟨#[], #[.slice none 0 0], []⟩ 8 (by kernel_rfl) (by kernel_rfl) (by kernel_rfl) (by kernel_rfl)) ?_
  intro W base args ds gs before hval0 hW hcnd _
  have hval : ∀ (j : Nat) t v, Try.f8.params[j]? = some t → args[j]? = some v → Value.okWide Try.prog W .any base t v := hval0
  have hW' := hW
  obtain ⟨p, q, hA0, hV, rfl, hfz, hnd⟩ := hW
  have hA : DataW.TrodAll enc Try.prog W 0 (fun _ => true) true Try.f8.params.toList args.toList ds p := hA0
  rw [Try.params8] at hA hval
  obtain ⟨v0, vs0, d0, ds0, p0, q0, hargs, rfl, rfl, h0, r0⟩ := trodAll_cons hA
  obtain ⟨rfl, rfl, rfl⟩ := trodAll_nil r0
  obtain rfl : args = #[v0] := by cases args; simp_all
  obtain ⟨rfl, rfl⟩ := trodVars_none hV
  obtain ⟨a0, len0, cap0, rfl⟩ := okWide_slice Try.underlying22 (hval 0 22 v0 rfl rfl)
  have k0 := h0
  have lt0 : ∀ x ∈ p0, x.block < W.heap.size := by obtain ⟨m, hm⟩ := k0; exact DataW.trod_lt m _ _ _ hm
  obtain ⟨z0, H0, U0, M0⟩ := has_of_trod (k := .u8) Try.underlying22 Try.underlying5 (by kernel_rfl) h0
  clear hA0 hval0
  refine (walk_FnSpread H0 U0 M0).mono fun e W' ⟨he, bel⟩ => ?_
  subst he
  exact ⟨_, rfl, _, _, _, [], _, [], hW', trodAll_mk1 (shut_bool Try.underlying4 _), (trodAll_cons_mk (Below.trod (by kernel_rfl) (by kernel_rfl) (of_decide_eq_true (by kernel_rfl)) k0 bel lt0) trodAll_mk0), rfl, bel.frame _, fun h => by cases h⟩

theorem fnSpread_holds : Rows.FnSpreadSaid :=
  OpenClaim.holds_of_wide 8 Try.f8 rfl rfl rfl rfl rfl rfl rfl ⟨rfl, rfl, rfl, rfl, rfl⟩ rfl rfl rfl rfl rfl (by kernel_rfl) Try.func8
    (by unfold joinedFacts; with_reducible refine Bool.and_eq_true_iff.2 ⟨?_, (by as_aux_lemma => kernel_rfl)⟩; with_reducible refine Bool.and_eq_true_iff.2 ⟨?_, (by as_aux_lemma => kernel_rfl)⟩; with_reducible refine Bool.and_eq_true_iff.2 ⟨?_, (by as_aux_lemma => kernel_rfl)⟩; with_reducible refine Bool.and_eq_true_iff.2 ⟨?_, (by as_aux_lemma => kernel_rfl)⟩; with_reducible refine Bool.and_eq_true_iff.2 ⟨?_, (by with_unfolding_all exact shutMake)⟩; with_reducible refine Bool.and_eq_true_iff.2 ⟨?_, (by with_unfolding_all exact shutLifts)⟩; with_reducible refine Bool.and_eq_true_iff.2 ⟨?_, shutEnter⟩; (repeat (with_reducible refine Bool.and_eq_true_iff.2 ⟨?_, (by as_aux_lemma => kernel_rfl)⟩)); as_aux_lemma => kernel_rfl)
    (of_decide_eq_true (by kernel_rfl)) (by unfold Func.isWrapper; first | (rw [if_pos (by decide +kernel)]; kernel_rfl) | (rw [if_neg (by decide +kernel)]; exact ⟨rfl, rfl⟩))
    (fun os started H enc _ => lifted_FnSpread os started H enc)
end Go.Proofs.Ytimddobedgopiaa
