/-
  FnVlanAll: a frame comes to all ports of its network. No condition.
-/
import Derived.Test.YtiokieancjigeaaDrawVlan
import Derived.Test.YtiokieancjigeaaImp10e
import Derived.Test.YtiokieancjigeaaShut
namespace Go.Proofs.Ytiokieancjigeaa
open Go.RowKit Go.ChangeShapes Go.WideShapes Go.ChangeAt

set_option maxRecDepth 100000 in
set_option maxHeartbeats 8000000 in
theorem walk_FnVlanAll {A : Option Addr} {n c : Nat} {zs : List Int} {w : World} (h : Has w A n (ints .u8 zs)) (hwf : ∀ z ∈ zs, (Lit.int .u8 z).wf = true) (hc : n ≤ c ∧ c ≤ maxLen) :
    Calls Try.prog 6 #[.slice A n c] w fun e w' => e = .returned (.bool true) ∧ Below w.heap.size w w' := by
  have hu : U8s zs := fun z hz => u8_of_wf (hwf z hz)
  clear hwf
  by_cases hn : n ≤ 1048576
  rotate_left
  · go_enter Try.func6, Try.ntmps6
    go_wp2
    go_ret
    exact ⟨rfl, Below.refl _ _⟩
  go_enter Try.func6, Try.ntmps6
  go_wp2_with (fail)
  refine (drawFloodVlan_any h hu hc).mono ?_
  rintro e w1 hX
  unfold PortsNN at hX
  obtain ⟨A1, n1, c1, ps, a, t, rfl, hP, hld, hn1, B1⟩ := hX
  have hl := hld.lenP
  have HL := Lib.hid hP.1
  clear hld
  obtain ⟨R, hR⟩ : ∃ R, floodI ps a t = R := ⟨_, rfl⟩
  have HR := Lib.hid hR
  clear hR
  go_wp2_with (fail)
  refine (implFloodVlan_r (c := c1) hP (by omega) hl HR.out).mono ?_
  rintro e w2 ⟨A2, n2, c2, rfl, O2, B2⟩
  have C2 := bel_trans B1 B2
  have P2 := hP.bel B2
  have hr2 := O2.len
  go_wp2_with (fail)
  refine (specFloodVlan_r (c := c1) P2 (by omega) hl HR.out).mono ?_
  rintro e w3 ⟨A3, n3, c3, rfl, O3, B3⟩
  obtain rfl : n3 = n2 := by have := O3.len; omega
  have C3 := bel_trans C2 B3
  have P3 := P2.bel B3
  have HR2 := Lib.hid hr2
  have nB : ((n3 : Int) != (n3 : Int)) = false := by simp
  have nC : (n3 != n3) = false := by simp
  have nE : ((n3 : Int) == (n3 : Int)) = true := by simp
  have hn3 : n3 ≤ 16 := by rw [← hr2, ← HR.out]; have := flood_len ps a t; omega
  clear O2 O3 hr2
  by_cases hok : psOk ps
  rotate_left
  · have hd := decide_eq_false hok
    have HD := Lib.hid hd
    clear hok hd
    go_wp2_with (fail)
    refine (implVPortsValid_b (c := c1) P3 (by omega) hl HD.out).mono ?_
    rintro e w4 ⟨rfl, B4⟩
    have C4 := bel_trans C3 B4
    have P4 := P3.bel B4
    go_wp2_with (fail)
    refine (specFloodVlan_r (c := c1) P4 (by omega) hl HR.out).mono ?_
    rintro e w5 ⟨A5, n5, c5, rfl, O5, B5⟩
    obtain rfl : n5 = n3 := by have := O5.len; have := HR2.out; omega
    have C5 := bel_trans C4 B5
    have P5 := P4.bel B5
    clear O5
    go_wp2_with (fail)
    refine (implVPortsValid_b (c := c1) P5 (by omega) hl HD.out).mono ?_
    rintro e w6 ⟨rfl, B6⟩
    have C6 := bel_trans C5 B6
    have P6 := P5.bel B6
    go_wp2_with (fail)
    refine (specVPortsValid_b (c := c1) P6 (by omega) hl HD.out).mono ?_
    rintro e w7 ⟨rfl, B7⟩
    go_wp2
    go_ret
    exact ⟨rfl, bel_trans C6 B7⟩
  have HD := Lib.hid (decide_eq_true hok)
  have HOK := Lib.hid hok
  clear hok
  go_wp2_with (fail)
  refine (implVPortsValid_b (c := c1) P3 (by omega) hl HD.out).mono ?_
  rintro e w4 ⟨rfl, B4⟩
  have C4 := bel_trans C3 B4
  have P4 := P3.bel B4
  by_cases ha : 0 ≤ a ∧ a < (n1 : Int)
  rotate_left
  · obtain ⟨b1, hb1⟩ : ∃ b, decide (a < 0) = b := ⟨_, rfl⟩
    obtain ⟨b2, hb2⟩ : ∃ b, decide (a ≥ (n1 : Int)) = b := ⟨_, rfl⟩
    have hb3 : decide ((n1 : Int) ≤ a) = b2 := hb2
    have hbb : b1 = true ∨ (b1 = false ∧ b2 = true) := by
      by_cases h0 : a < 0
      · left; rw [← hb1]; simp [h0]
      · right; exact ⟨by rw [← hb1]; simp [h0], by rw [← hb2]; simp; omega⟩
    clear ha
    rcases hbb with rfl | ⟨rfl, rfl⟩
    all_goals
      go_wp2_with (fail)
      refine (specFloodVlan_r (c := c1) P4 (by omega) hl HR.out).mono ?_
      rintro e w5 ⟨A5, n5, c5, rfl, O5, B5⟩
      obtain rfl : n5 = n3 := by have := O5.len; have := HR2.out; omega
      have C5 := bel_trans C4 B5
      have P5 := P4.bel B5
      clear O5
      go_wp2_with (fail)
      refine (implVPortsValid_b (c := c1) P5 (by omega) hl HD.out).mono ?_
      rintro e w6 ⟨rfl, B6⟩
      have C6 := bel_trans C5 B6
      have P6 := P5.bel B6
      go_wp2_with (fail)
      refine (specVPortsValid_b (c := c1) P6 (by omega) hl HD.out).mono ?_
      rintro e w7 ⟨rfl, B7⟩
      go_wp2
      go_ret
      exact ⟨rfl, bel_trans C6 B7⟩
  obtain ⟨a', rfl⟩ := Int.eq_ofNat_of_zero_le ha.1
  have hla : a' < n1 := by omega
  have g1 : decide ((a' : Int) < 0) = false := decide_eq_false (by omega)
  have g2 : decide ((a' : Int) ≥ (n1 : Int)) = false := decide_eq_false (by omega)
  have g3 : decide ((n1 : Int) ≤ (a' : Int)) = false := decide_eq_false (by omega)
  have j0 : (0 : Int) ≤ (a' : Int) := by omega
  have j1 : (a' : Int) < (n1 : Int) := by omega
  obtain ⟨b, o, X, m, d, x, q, l, rfl, hbl, hx, d0, d1, d2, _, hH⟩ := P4.at_ hla
  have hm := hl.at_ hx hH
  obtain ⟨v, hv⟩ : ∃ v, inI (x, q, l) t = v := ⟨_, rfl⟩
  have HVV := Lib.hid (show inI (dp ps (a' : Int).toNat) t = v by rw [← hv]; simp [dp_at hx])
  have CI := Lib.hid (implVlanIn_r (d := d) hH hm hv)
  have hval : psOk ps ∧ (0 : Int) ≤ (a' : Int) ∧ (a' : Int) < (ps.length : Int) := ⟨HOK.out, by omega, by have := HL.out; omega⟩
  have HVL := Lib.hid hval
  clear ha hx hv hH hval
  go_wp2_with (fail)
  refine CI.out.mono ?_
  rintro e w5 ⟨rfl, B5⟩
  have C5 := bel_trans C4 B5
  have P5 := P4.bel B5
  by_cases hv0 : v < 0
  · have vB : decide (v < 0) = true := by simp; omega
    obtain rfl : n3 = 0 := by
      have h1 := flood_none (ps := ps) (a := (a' : Int)) (tag := t) (by rw [HVV.out]; exact hv0)
      have h2 := HR2.out
      rw [← HR.out, h1] at h2
      exact h2.symm
    have z1 : (((0 : Nat) : Int) == 0) = true := rfl
    clear hv0
    go_wp2
    go_ret
    exact ⟨rfl, C5⟩
  · have vB : decide (v < 0) = false := by simp; omega
    obtain ⟨S, hS⟩ : ∃ S, onI ps v = S := ⟨_, rfl⟩
    have HS := Lib.hid hS
    have hlen : S.length = n3 + 1 := by
      have h1 := all_len HVL.out (by rw [HVV.out]; omega)
      rw [HVV.out, HR.out, HR2.out, hS] at h1
      exact h1.symm
    have HLEN := Lib.hid hlen
    clear hv0 hS hlen
    go_wp2_with (fail)
    refine (implPortsOn_r (c := c1) P5 (by omega) hl HS.out).mono ?_
    rintro e w6 ⟨A6, n6, c6, rfl, O6, B6⟩
    obtain rfl : n6 = n3 + 1 := by have := O6.has.len; have := HLEN.out; omega
    have z1 : IntKind.i64.wrap ((n3 : Int) + 1) = (n3 : Int) + 1 := IntWalk.i64_in _ (by omega)
    have z2 : ((n3 : Int) + 1 == ((n3 + 1 : Nat) : Int)) = true := by simp
    have z3 : ((n3 : Int) + 1 == (n3 : Int) + 1) = true := by simp
    clear O6
    go_wp2
    go_ret
    exact ⟨rfl, bel_trans C5 B6⟩
set_option maxRecDepth 100000 in
theorem lifted_FnVlanAll (os : Os) (started : os.Started) (H : Type) (enc : TypeId × Value → H) :
    ReturnsInHanded {} Try.checked os 6 .any (Rows.fnVlanAllSpec.pre6 enc Try.prog Try.f6 Rows.fnVlanAllRow.domain false) (Rows.fnVlanAllSpec.post enc Try.prog Try.f6 false true false false) := by
  refine returnsInHanded_of_change (C := Try.checked) (by kernel_rfl) started (by kernel_rfl) Try.func6
    (ChangeSpec.witness6 (enc := enc) (C := Try.checked) false ⟨#[], #[.slice none 0 0], []⟩ 8 (by kernel_rfl) (by kernel_rfl) (by kernel_rfl) (by kernel_rfl)) ?_
  intro W base args ds gs before hval0 hW hcnd _
  have hval : ∀ (j : Nat) t v, Try.f6.params[j]? = some t → args[j]? = some v → Value.okWide Try.prog W .any base t v := hval0
  have hW' := hW
  obtain ⟨p, q, hA0, hV, rfl, hfz, hnd⟩ := hW
  have hA : DataW.TrodAll enc Try.prog W 0 (fun _ => true) true Try.f6.params.toList args.toList ds p := hA0
  rw [Try.params6] at hA hval
  obtain ⟨v0, vs0, d0, ds0, p0, q0, hargs, rfl, rfl, h0, r0⟩ := trodAll_cons hA
  obtain ⟨rfl, rfl, rfl⟩ := trodAll_nil r0
  obtain rfl : args = #[v0] := by cases args; simp_all
  obtain ⟨rfl, rfl⟩ := trodVars_none hV
  obtain ⟨a0, len0, cap0, rfl⟩ := okWide_slice Try.underlying22 (hval 0 22 v0 rfl rfl)
  have k0 := h0
  have lt0 : ∀ x ∈ p0, x.block < W.heap.size := by obtain ⟨m, hm⟩ := k0; exact DataW.trod_lt m _ _ _ hm
  obtain ⟨z0, H0, U0, M0⟩ := has_of_trod (k := .u8) Try.underlying22 Try.underlying5 (by kernel_rfl) h0
  clear hA0 hval0
  refine (walk_FnVlanAll H0 U0 M0).mono fun e W' ⟨he, bel⟩ => ?_
  subst he
  exact ⟨_, rfl, _, _, _, [], _, [], hW', trodAll_mk1 (shut_bool Try.underlying4 _), (trodAll_cons_mk (Below.trod (by kernel_rfl) (by kernel_rfl) (of_decide_eq_true (by kernel_rfl)) k0 bel lt0) trodAll_mk0), rfl, bel.frame _, fun h => by cases h⟩

theorem fnVlanAll_holds : Rows.FnVlanAllSaid :=
  OpenClaim.holds_of_wide 6 Try.f6 rfl rfl rfl rfl rfl rfl rfl ⟨rfl, rfl, rfl, rfl, rfl⟩ rfl rfl rfl rfl rfl (by kernel_rfl) Try.func6
    (by unfold joinedFacts; with_reducible refine Bool.and_eq_true_iff.2 ⟨?_, (by as_aux_lemma => kernel_rfl)⟩; with_reducible refine Bool.and_eq_true_iff.2 ⟨?_, (by as_aux_lemma => kernel_rfl)⟩; with_reducible refine Bool.and_eq_true_iff.2 ⟨?_, (by as_aux_lemma => kernel_rfl)⟩; with_reducible refine Bool.and_eq_true_iff.2 ⟨?_, (by as_aux_lemma => kernel_rfl)⟩; with_reducible refine Bool.and_eq_true_iff.2 ⟨?_, (by with_unfolding_all exact shutMake)⟩; with_reducible refine Bool.and_eq_true_iff.2 ⟨?_, (by with_unfolding_all exact shutLifts)⟩; with_reducible refine Bool.and_eq_true_iff.2 ⟨?_, shutEnter⟩; (repeat (with_reducible refine Bool.and_eq_true_iff.2 ⟨?_, (by as_aux_lemma => kernel_rfl)⟩)); as_aux_lemma => kernel_rfl)
    (of_decide_eq_true (by kernel_rfl)) (by unfold Func.isWrapper; first | (rw [if_pos (by decide +kernel)]; kernel_rfl) | (rw [if_neg (by decide +kernel)]; exact ⟨rfl, rfl⟩))
    (fun os started H enc _ => lifted_FnVlanAll os started H enc)
end Go.Proofs.Ytiokieancjigeaa
