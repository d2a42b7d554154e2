/-
  FnNotBack: for every slice of bytes the law returns true and writes nothing that was there. No condition.
-/
import Derived.Test.YtmnhgghnaklneaaImp6
import Derived.Test.YtmnhgghnaklneaaDrawBridge
import Derived.Test.YtmnhgghnaklneaaWnInts
namespace Go.Proofs.Ytmnhgghnaklneaa
open Go.RowKit Go.ChangeShapes Go.WideShapes Go.ChangeAt

set_option maxHeartbeats 8000000 in
set_option maxRecDepth 100000 in
theorem walk_FnNotBack {A0 : Option Addr} {n0 c0 : Nat} {zs0 : List Int} {w : World} (h0 : Has w A0 n0 (ints .u8 zs0)) (hwf0 : ∀ z ∈ zs0, (Lit.int .u8 z).wf = true) (hc0 : n0 ≤ c0 ∧ c0 ≤ maxLen) :
    Calls Try.prog 4 #[.slice A0 n0 c0] w fun e w' => e = .returned (.bool true) ∧ Below w.heap.size w w' := by
  have hu0 : U8s zs0 := fun z hz => u8_of_wf (hwf0 z hz)
  clear hwf0
  by_cases hn0 : n0 ≤ 1048576
  · go_enter Try.func4, Try.ntmps4
    go_wp2_with (fail)
    refine (drawPortsFor_any h0 hu0 hc0).mono ?_
    rintro e w1 h
    unfold TabH at h
    obtain ⟨A1, n1, c1, ts, ports, to, port, rfl, L1, T1, hn1, ⟨po0, po1⟩, ⟨t0, t1⟩, ⟨q0, q1⟩, B1⟩ := h
    go_wp2_with (fail)
    refine (implPortsFor_any L1.has T1.i64s (by omega) (by omega) (by omega) (by omega)).mono ?_
    rintro e w2 ⟨A2, n2, c2, rfl, O2, B2⟩
    have C2 := bel_trans B1 B2
    have L2 := L1.bel B2
    have hn2 : n2 ≤ 6 := by have e1 := O2.has.len; have e2 := portsL_le ts ports to port; omega
    go_wp2_with (fail)
    refine (specPortsFor_any L2.has T1.i64s (by omega) (by omega) (by omega) (by omega)).mono ?_
    rintro e w3 ⟨A3, n3, c3, rfl, O3, B3⟩
    have C3 := bel_trans C2 B3
    have L3 := L2.bel B3
    have P3 := O2.bel B3
    go_wp2_with (fail)
    refine (wnInts_same P3.has O3.has (by omega)).mono ?_
    rintro e w4 ⟨rfl, B4⟩
    have C4 := bel_trans C3 B4
    have L4 := L3.bel B4
    have P4 := P3.bel B4
    have HN2 := Lib.hid P4.has.len
    clear O2 O3 P3 L1 L2 L3 B1 B2 B3 B4 C2 C3
    have CV := Lib.hid (implTableValid_any (c := c1) L4.has T1.i64s (by omega) (ports := ports) (by omega))
    by_cases hg : toOk ts ports to port
    · obtain ⟨m, rfl⟩ := Int.eq_ofNat_of_zero_le po0
      obtain ⟨s, rfl⟩ := Int.eq_ofNat_of_zero_le hg.2.1.1
      obtain ⟨pn, rfl⟩ := Int.eq_ofNat_of_zero_le hg.2.2.1
      have hs := hg.2.1.2
      have hpn : pn < m := by have := hg.2.2.2; omega
      have htv : decide (tOk ts (m : Int)) = true := decide_eq_true hg.1
      obtain rfl : n1 = 15 := by have h1 := L4.has.len; have h2 := hg.1.1; omega
      rw [show portsL ts (m : Int) (s : Int) (pn : Int) = portsTo (knownAt ts (s : Int)) (pn : Int) m by unfold portsL; rw [if_pos hg]; rfl] at P4 HN2
      have HM : Hid (∀ x ∈ portsTo (knownAt ts (s : Int)) (pn : Int) m, x ≠ (pn : Int) ∧ 0 ≤ x ∧ x < (m : Int)) := fun x hx => by
        obtain ⟨p, hp, rfl, hgo⟩ := mem_portsTo hx
        exact ⟨hgo.1, by omega, by omega⟩
      have HP := Lib.hid (portsTo_sorted (knownAt ts (s : Int)) (pn : Int) m)
      have HA : Hid (knownAt ts (s : Int) < 0 → n2 + 1 = m) := fun hk => by
        have h1 := portsTo_all (knownAt ts (s : Int)) hk pn m
        rw [if_pos hpn] at h1
        have := HN2.out; omega
      have HO : Hid (0 ≤ knownAt ts (s : Int) → n2 ≤ 1) := fun hk => by
        have h1 := portsTo_one (knownAt ts (s : Int)) hk (pn : Int) m
        have h2 : (if knownAt ts (s : Int) < (m : Int) then 1 else 0) ≤ 1 := by split <;> omega
        have := HN2.out; omega
      generalize portsTo (knownAt ts (s : Int)) (pn : Int) m = L at *
      clear hg
      rw [htv] at CV
      go_wp2
      go_loop [35] (fun i => ∃ k : Nat, k ≤ n2 ∧ i = .int .i64 k) (fun i => n2 - (intOf i).toNat)
      case atStart => exact ⟨0, Nat.zero_le _, rfl⟩
      case round =>
        obtain ⟨k, hk, rfl⟩ := hrel
        by_cases hlt : k < n2
        · have hltB : decide ((k : Int) < (n2 : Int)) = true := by simp; omega
          have hP := P4.has
          obtain ⟨b, o, x, hA, hbl, hx, hc⟩ := hP.at_ hlt
          obtain ⟨x0, x1, x2⟩ := HM.out x (List.mem_of_getElem? hx)
          have e1 : (x == (pn : Int)) = false := by simp [x0]
          have e2 : decide (x < 0) = false := by simp; omega
          have e3 : decide (x ≥ (m : Int)) = false := by simp; omega
          have e4 : decide ((m : Int) ≤ x) = false := by simp; omega
          cases k with
          | zero =>
            subst hA
            rw [Nat.add_zero] at hc
            clear hx hP
            go_wp2
            go_round
            case rel => exact ⟨1, by omega, rfl⟩
            case measure => simp [intOf]; omega
          | succ j =>
            obtain ⟨b', o', y, hA', hbl', hy, hc'⟩ := hP.at_ (i := j) (by omega)
            subst hA
            injection hA' with hA'
            injection hA' with hb' ho'
            subst hb' ho'
            have hyx : y < x := by
              obtain ⟨l1, g1⟩ := List.getElem?_eq_some_iff.1 hy
              obtain ⟨l2, g2⟩ := List.getElem?_eq_some_iff.1 hx
              have := List.pairwise_iff_getElem.1 HP.out j (j + 1) l1 l2 (by omega)
              rw [g1, g2] at this; exact this
            have e5 : decide (y ≥ x) = false := by simp; omega
            have e6 : decide (x ≤ y) = false := by simp; omega
            have e7 : decide ((j : Int) + 1 > 0) = true := decide_eq_true (by omega)
            have e8 : decide (0 < (j : Int) + 1) = true := decide_eq_true (by omega)
            clear hx hy hP hyx
            go_wp2
            go_round
            case rel => exact ⟨j + 1 + 1, by omega, by go_num⟩
            case measure => simp [intOf]; omega
        · have hltB : decide ((k : Int) < (n2 : Int)) = false := by simp; omega
          obtain rfl : k = n2 := by omega
          have e1 : decide ((s : Int) < 0) = false := by simp
          have e2 : decide ((s : Int) > 15) = false := by simp; omega
          have e2' : decide (15 < (s : Int)) = false := by simp; omega
          have e3 : decide ((pn : Int) < 0) = false := by simp
          have e4 : decide ((pn : Int) ≥ (m : Int)) = false := by simp; omega
          have e4' : decide ((m : Int) ≤ (pn : Int)) = false := by simp; omega
          by_cases h5 : s = 15
          · have e5 : ((s : Int) == 15) = true := by simp; omega
            have hk := HA.out (by unfold knownAt; rw [if_neg (by omega)]; omega)
            have e6 : ((k : Int) == (m : Int) - 1) = true := by simp; omega
            clear h5
            go_wp2_with (fail)
            refine CV.out.mono ?_
            rintro e w5 ⟨rfl, B5⟩
            go_wp2
            go_ret
            exact ⟨rfl, bel_trans C4 B5⟩
          · have e5 : ((s : Int) == 15) = false := by simp; omega
            obtain ⟨b, o, z, rfl, hbl, hz, hc⟩ := L4.has.at_ (i := s) (by omega)
            have hkn : knownAt ts (s : Int) = z := by unfold knownAt; rw [if_pos (by omega)]; simp [List.getD_eq_getElem?_getD, hz]
            have hsn : s < 15 := by omega
            by_cases hz0 : z < 0
            · have e6 : decide (z < 0) = true := by simp; omega
              have hk := HA.out (by rw [hkn]; exact hz0)
              have e7 : ((k : Int) == (m : Int) - 1) = true := by simp; omega
              clear h5 hz0 hz hkn
              go_wp2_with (fail)
              refine CV.out.mono ?_
              rintro e w5 ⟨rfl, B5⟩
              have hc5 := (B5.cell (p := ⟨b, o + s, none⟩) hbl).trans hc
              go_wp2
              go_ret
              exact ⟨rfl, bel_trans C4 B5⟩
            · have e6 : decide (z < 0) = false := by simp; omega
              have hk := HO.out (by rw [hkn]; omega)
              have e7 : decide ((k : Int) ≤ 1) = true := by simp; omega
              clear h5 hz0 hz hkn
              go_wp2_with (fail)
              refine CV.out.mono ?_
              rintro e w5 ⟨rfl, B5⟩
              have hc5 := (B5.cell (p := ⟨b, o + s, none⟩) hbl).trans hc
              go_wp2
              go_ret
              exact ⟨rfl, bel_trans C4 B5⟩
    · rw [show portsL ts ports to port = [] by unfold portsL; rw [if_neg hg]] at HN2
      obtain rfl : 0 = n2 := HN2.out
      go_wp2
      go_loop [35] (fun i => i = .int .i64 0) (fun _ => 0)
      case atStart => exact rfl
      case round =>
        obtain rfl := hrel
        by_cases ht : tOk ts ports
        · rw [decide_eq_true ht] at CV
          by_cases g1 : to < 0
          · have e1 : decide (to < 0) = true := by simp; omega
            clear hg
            go_wp2_with (fail)
            refine CV.out.mono ?_
            rintro e w5 ⟨rfl, B5⟩
            go_wp2
            go_ret
            exact ⟨rfl, bel_trans C4 B5⟩
          · have e1 : decide (to < 0) = false := by simp; omega
            by_cases g2 : to > 15
            · have e2 : decide (to > 15) = true := by simp; omega
              have e2' : decide (15 < to) = true := by simp; omega
              clear hg
              go_wp2_with (fail)
              refine CV.out.mono ?_
              rintro e w5 ⟨rfl, B5⟩
              go_wp2
              go_ret
              exact ⟨rfl, bel_trans C4 B5⟩
            · have e2 : decide (to > 15) = false := by simp; omega
              have e2' : decide (15 < to) = false := by simp; omega
              by_cases g3 : port < 0
              · have e3 : decide (port < 0) = true := by simp; omega
                clear hg
                go_wp2_with (fail)
                refine CV.out.mono ?_
                rintro e w5 ⟨rfl, B5⟩
                go_wp2
                go_ret
                exact ⟨rfl, bel_trans C4 B5⟩
              · have e3 : decide (port < 0) = false := by simp; omega
                have g4 : port ≥ ports := by
                  by_cases g4 : port ≤ ports - 1
                  · exact absurd ⟨ht, ⟨by omega, by omega⟩, ⟨by omega, g4⟩⟩ hg
                  · omega
                have e4 : decide (port ≥ ports) = true := by simp; omega
                have e4' : decide (ports ≤ port) = true := by simp; omega
                clear hg
                go_wp2_with (fail)
                refine CV.out.mono ?_
                rintro e w5 ⟨rfl, B5⟩
                go_wp2
                go_ret
                exact ⟨rfl, bel_trans C4 B5⟩
        · rw [decide_eq_false ht] at CV
          clear hg ht
          go_wp2_with (fail)
          refine CV.out.mono ?_
          rintro e w5 ⟨rfl, B5⟩
          go_wp2
          go_ret
          exact ⟨rfl, bel_trans C4 B5⟩
  · go_enter Try.func4, Try.ntmps4
    go_wp2
    go_ret
    exact ⟨rfl, Below.refl _ _⟩
set_option maxRecDepth 100000 in
theorem lifted_FnNotBack (os : Os) (started : os.Started) (H : Type) (enc : TypeId × Value → H) :
    ReturnsInHanded {} Try.checked os 4 .any (Rows.fnNotBackSpec.pre6 enc Try.prog Try.f4 Rows.fnNotBackRow.domain false) (Rows.fnNotBackSpec.post enc Try.prog Try.f4 false true false false) := by
  refine returnsInHanded_of_change (C := Try.checked) (by kernel_rfl) started (by kernel_rfl) Try.func4
    (ChangeSpec.witness6 (enc := enc) (C := Try.checked) false ⟨#[], #[.slice none 0 0], []⟩ 8 (by kernel_rfl) (by kernel_rfl) (by kernel_rfl) (by kernel_rfl)) ?_
  intro W base args ds gs before hval0 hW hcnd _
  have hval : ∀ (j : Nat) t v, Try.f4.params[j]? = some t → args[j]? = some v → Value.okWide Try.prog W .any base t v := hval0
  have hW' := hW
  obtain ⟨p, q, hA0, hV, rfl, hfz, hnd⟩ := hW
  have hA : DataW.TrodAll enc Try.prog W 0 (fun _ => true) true Try.f4.params.toList args.toList ds p := hA0
  rw [Try.params4] at hA hval
  obtain ⟨v0, vs0, d0, ds0, p0, q0, hargs, rfl, rfl, h0, r0⟩ := trodAll_cons hA
  obtain ⟨rfl, rfl, rfl⟩ := trodAll_nil r0
  obtain rfl : args = #[v0] := by cases args; simp_all
  obtain ⟨rfl, rfl⟩ := trodVars_none hV
  obtain ⟨a0, len0, cap0, rfl⟩ := okWide_slice Try.underlying22 (hval 0 22 v0 rfl rfl)
  have k0 := h0
  have lt0 : ∀ x ∈ p0, x.block < W.heap.size := by obtain ⟨m, hm⟩ := k0; exact DataW.trod_lt m _ _ _ hm
  obtain ⟨z0, H0, U0, M0⟩ := has_of_trod (k := .u8) Try.underlying22 Try.underlying5 (by kernel_rfl) h0
  clear hA0 hval0
  refine (walk_FnNotBack H0 U0 M0).mono fun e W' ⟨he, bel⟩ => ?_
  subst he
  exact ⟨_, rfl, _, _, _, [], _, [], hW', trodAll_mk1 (shut_bool Try.underlying4 _), (trodAll_cons_mk (Below.trod (by kernel_rfl) (by kernel_rfl) (of_decide_eq_true (by kernel_rfl)) k0 bel lt0) trodAll_mk0), rfl, bel.frame _, fun h => by cases h⟩

theorem fnNotBack_holds : Rows.FnNotBackSaid :=
  OpenClaim.holds_of_wide 4 Try.f4 rfl rfl rfl rfl rfl rfl rfl ⟨rfl, rfl, rfl, rfl, rfl⟩ rfl rfl rfl rfl rfl (by kernel_rfl) Try.func4 (by kernel_rfl)
    (of_decide_eq_true (by kernel_rfl)) (by unfold Func.isWrapper; first | (rw [if_pos (by decide +kernel)]; kernel_rfl) | (rw [if_neg (by decide +kernel)]; exact ⟨rfl, rfl⟩))
    (fun os started H enc _ => lifted_FnNotBack os started H enc)
end Go.Proofs.Ytmnhgghnaklneaa
