/-
  FnKnown: for every two slices of bytes the law returns true and writes nothing that was there. No condition.
-/
import Derived.Test.YtmnhgghnaklneaaImp6
import Derived.Test.YtmnhgghnaklneaaDrawHops
import Derived.Test.YtmnhgghnaklneaaWnInts
namespace Go.Proofs.Ytmnhgghnaklneaa
open Go.RowKit Go.ChangeShapes Go.WideShapes Go.ChangeAt

theorem tOk_fresh1 : tOk freshL 1 := fresh_ok ⟨by omega, by omega⟩
theorem known_fresh1 : knownL freshL 1 = [] := by unfold knownL; rw [if_pos tOk_fresh1]; exact known_fresh
theorem fresh_i64 : I64s freshL := tiny_fresh.i64s

set_option maxHeartbeats 8000000 in
set_option maxRecDepth 100000 in
theorem walk_FnKnown {A0 A9 : Option Addr} {n0 c0 n9 c9 : Nat} {zs0 zs9 : List Int} {w : World} (h0 : Has w A0 n0 (ints .u8 zs0)) (hwf0 : ∀ z ∈ zs0, (Lit.int .u8 z).wf = true) (hc0 : n0 ≤ c0 ∧ c0 ≤ maxLen) (h9 : Has w A9 n9 (ints .u8 zs9)) (hwf9 : ∀ z ∈ zs9, (Lit.int .u8 z).wf = true) (hc9 : n9 ≤ c9 ∧ c9 ≤ maxLen) :
    Calls Try.prog 8 #[.slice A0 n0 c0, .slice A9 n9 c9] w fun e w' => e = .returned (.bool true) ∧ Below w.heap.size w w' := by
  have hu0 : U8s zs0 := fun z hz => u8_of_wf (hwf0 z hz)
  have hu9 : U8s zs9 := fun z hz => u8_of_wf (hwf9 z hz)
  clear hwf0 hwf9
  by_cases hn0 : n0 ≤ 1048576
  · have n0B : decide ((n0 : Int) > 1048576) = false := by simp; omega
    have n0C : decide (1048576 < (n0 : Int)) = false := by simp; omega
    by_cases hn9 : n9 ≤ 1048576
    · have n9B : decide ((n9 : Int) > 1048576) = false := by simp; omega
      have n9C : decide (1048576 < (n9 : Int)) = false := by simp; omega
      go_enter Try.func8, Try.ntmps8
      go_wp2_with (fail)
      refine (drawKnownStations_any h0 hu0 hc0).mono ?_
      rintro e w1 h
      unfold TabO at h
      obtain ⟨A1, n1, c1, ts, ports, rfl, L1, T1, hn1, ⟨po0, po1⟩, B1⟩ := h
      go_wp2_with (fail)
      refine (implKnownStations_any L1.has T1.i64s (by omega) (by omega)).mono ?_
      rintro e w2 ⟨A2, n2, c2, rfl, O2, B2⟩
      have C2 := bel_trans B1 B2
      have L2 := L1.bel B2
      have hn2 : n2 ≤ 15 := by have e1 := O2.has.len; have e2 := knownL_le ts ports; omega
      go_wp2_with (fail)
      refine (specKnownStations_any L2.has T1.i64s (by omega) (by omega)).mono ?_
      rintro e w3 ⟨A3, n3, c3, rfl, O3, B3⟩
      have C3 := bel_trans C2 B3
      have L3 := L2.bel B3
      have P3 := O2.bel B3
      go_wp2_with (fail)
      refine (wnInts_same P3.has O3.has (by omega)).mono ?_
      rintro e w4 ⟨rfl, B4⟩
      have C4 := bel_trans C3 B4
      have L4 := L3.bel B4
      have P4 := P3.bel B4
      obtain ⟨tv, htv⟩ : ∃ tv, decide (tOk ts ports) = tv := ⟨_, rfl⟩
      have HTV := Lib.hid htv
      clear htv
      go_wp2_with (fail)
      refine (implTableValid_any L4.has T1.i64s (by omega) (by omega)).mono ?_
      rintro e w5 ⟨rfl, B5⟩
      rw [HTV.out]
      have C5 := bel_trans C4 B5
      have L5 := L4.bel B5
      have P5 := P4.bel B5
      clear O2 O3 P3 P4 L1 L2 L3 L4 B1 B2 B3 B4 B5 C2 C3 C4
      go_wp2_with (fail)
      refine (specTableValid_b (b := tv) L5.has (by omega) HTV.out).mono ?_
      rintro e w6 ⟨rfl, rfl⟩
      go_wp2_with (fail)
      refine (implFreshTable_any (w := w5)).mono ?_
      rintro e w6 ⟨A6, n6, c6, rfl, O6, B6⟩
      have hn6 : n6 = 15 := by have := O6.has.len; rw [fresh_len] at this; omega
      subst hn6
      have C6 := bel_trans C5 B6
      have L6 := L5.bel B6
      have P6 := P5.bel B6
      go_wp2_with (fail)
      refine (specFreshTable_any (w := w6)).mono ?_
      rintro e w7 ⟨A7, n7, c7, rfl, O7, B7⟩
      have C7 := bel_trans C6 B7
      have L7 := L6.bel B7
      have P7 := P6.bel B7
      have Q7 := O6.bel B7
      go_wp2_with (fail)
      refine (wnInts_same Q7.has O7.has (by omega)).mono ?_
      rintro e w8 ⟨rfl, B8⟩
      have C8 := bel_trans C7 B8
      have L8 := L7.bel B8
      have P8 := P7.bel B8
      have Q8 := Q7.bel B8
      clear O6 O7 Q7 P5 P6 P7 L5 L6 L7 B6 B7 B8 C5 C6 C7
      go_wp2_with (fail)
      refine (implKnownStations_any Q8.has fresh_i64 (ports := 1) (by omega) (by omega)).mono ?_
      rintro e w9 ⟨A9', n9', c9', rfl, O9, B9⟩
      rw [known_fresh1] at O9
      obtain rfl : 0 = n9' := O9.has.len
      have C9 := bel_trans C8 B9
      have L9 := L8.bel B9
      have P9 := P8.bel B9
      clear O9 Q8 L8 P8 B9 C8
      go_wp2
      go_loop [60] (fun i => ∃ k : Nat, k ≤ n2 ∧ i = .int .i64 k) (fun i => n2 - (intOf i).toNat)
      case atStart => exact ⟨0, Nat.zero_le _, rfl⟩
      case round =>
        obtain ⟨k, hk, rfl⟩ := hrel
        by_cases hlt : k < n2
        · have hltB : decide ((k : Int) < (n2 : Int)) = true := by simp; omega
          obtain ⟨b, o, x, rfl, hbl, hx, hc⟩ := P9.has.at_ hlt
          have hm := List.mem_of_getElem? hx
          have ht : tOk ts ports := by
            by_cases ht : tOk ts ports
            · exact ht
            · unfold knownL at hm; rw [if_neg ht] at hm; cases hm
          unfold knownL at hm
          rw [if_pos ht] at hm
          obtain ⟨i, hi, rfl, hg⟩ := mem_knownTo hm
          have hn15 : n1 = 15 := by have h1 := L9.has.len; have h2 := ht.1; omega
          have hi1 : i < n1 := by omega
          obtain ⟨b', o', z, rfl, hbl', hz, hc'⟩ := L9.has.at_ hi1
          have hz0 : 0 ≤ z := by rw [List.getD_eq_getElem?_getD, hz] at hg; exact hg
          have hzB : decide (z < 0) = false := by simp; omega
          clear hx hm ht hg hz hn15
          go_wp2
          go_round
          case rel => exact ⟨k + 1, by omega, by go_num⟩
          case measure => simp [intOf]; omega
        · have hltB : decide ((k : Int) < (n2 : Int)) = false := by simp; omega
          obtain rfl : k = n2 := by omega
          go_wp2_with (fail)
          refine (drawRunBridge_any (h9.bel C9) hu9 hc9).mono ?_
          rintro e w10 h
          unfold HopsO at h
          obtain ⟨pp, A10, m, c10, hs, rfl, H10, T10, hm20, hpp, B10⟩ := h
          have C10 := bel_trans C9 B10
          go_wp2_with (fail)
          refine (implRunBridge_any H10 T10.i64 (by omega) (by omega)).mono ?_
          rintro e w11 h2
          unfold RunRes at h2
          obtain ⟨A11, n11, c11, A12, n12, c12, vs, rfl, O11, V11, F11, B11⟩ := h2
          have C11 := bel_trans C10 B11
          clear V11 F11
          by_cases hb : runB pp hs = true
          · obtain ⟨rr, hrr⟩ : ∃ rr, runR pp hs = some rr := by
              unfold runB at hb
              cases hx : runR pp hs with
              | none => rw [hx] at hb; cases hb
              | some r => exact ⟨r, rfl⟩
            have hok : runOk pp hs := by
              unfold runR at hrr
              split at hrr
              · assumption
              · cases hrr
            have hrt : runTo pp freshL hs = some rr := by unfold runR at hrr; rw [if_pos hok] at hrr; exact hrr
            have hT : runT pp hs = rr.1 := by unfold runT; rw [hrr]; rfl
            have hto := (runTo_ok (fresh_ok hok.1) hrt).1
            have hkr := known_run (fresh_ok hok.1) hrt
            rw [known_fresh] at hkr
            have hkl : (knownL rr.1 pp).length ≤ m := by
              unfold knownL
              rw [if_pos hto]
              have := H10.1
              simp at hkr; omega
            rw [hT] at O11
            have hn11 : n11 ≤ 16777216 := by have h1 := O11.has.len; have h2 := hto.1; omega
            have hi64 : I64s rr.1 := fun x hx => by have := hto.2.2 x hx; omega
            have HKL := Lib.hid hkl
            rw [hb]
            clear hb hrr hok hrt hT hto hkr hkl
            go_wp2_with (fail)
            refine (implKnownStations_any O11.has hi64 hn11 (by omega)).mono ?_
            rintro e w12 ⟨A13, n13, c13, rfl, O13, B13⟩
            have hle : n13 ≤ m := by have h1 := O13.has.len; have := HKL.out; omega
            have hleB : decide ((n13 : Int) ≤ (m : Int)) = true := by simp; omega
            go_wp2
            go_ret
            exact ⟨rfl, bel_trans C11 B13⟩
          · have hbf : runB pp hs = false := by simpa using hb
            rw [hbf]
            clear hb hbf
            go_wp2
            go_ret
            exact ⟨rfl, C11⟩
    · have n9B : decide ((n9 : Int) > 1048576) = true := by simp; omega
      have n9C : decide (1048576 < (n9 : Int)) = true := by simp; omega
      go_enter Try.func8, Try.ntmps8
      go_wp2
      go_ret
      exact ⟨rfl, Below.refl _ _⟩
  · have n0B : decide ((n0 : Int) > 1048576) = true := by simp; omega
    have n0C : decide (1048576 < (n0 : Int)) = true := by simp; omega
    go_enter Try.func8, Try.ntmps8
    go_wp2
    go_ret
    exact ⟨rfl, Below.refl _ _⟩
set_option maxRecDepth 100000 in
theorem lifted_FnKnown (os : Os) (started : os.Started) (H : Type) (enc : TypeId × Value → H) :
    ReturnsInHanded {} Try.checked os 8 .any (Rows.fnKnownSpec.pre6 enc Try.prog Try.f8 Rows.fnKnownRow.domain false) (Rows.fnKnownSpec.post enc Try.prog Try.f8 false true false false) := by
  refine returnsInHanded_of_change (C := Try.checked) (by kernel_rfl) started (by kernel_rfl) Try.func8
    (ChangeSpec.witness6 (enc := enc) (C := Try.checked) false ⟨#[], #[.slice none 0 0, .slice none 0 0], []⟩ 8 (by kernel_rfl) (by kernel_rfl) (by kernel_rfl) (by kernel_rfl)) ?_
  intro W base args ds gs before hval0 hW hcnd _
  have hval : ∀ (j : Nat) t v, Try.f8.params[j]? = some t → args[j]? = some v → Value.okWide Try.prog W .any base t v := hval0
  have hW' := hW
  obtain ⟨p, q, hA0, hV, rfl, hfz, hnd⟩ := hW
  have hA : DataW.TrodAll enc Try.prog W 0 (fun _ => true) true Try.f8.params.toList args.toList ds p := hA0
  rw [Try.params8] at hA hval
  obtain ⟨v0, vs0, d0, ds0, p0, q0, hargs, rfl, rfl, h0, r0⟩ := trodAll_cons hA
  obtain ⟨v1, vs1, d1, ds1, p1, q1, rfl, rfl, rfl, h1, r1⟩ := trodAll_cons r0
  obtain ⟨rfl, rfl, rfl⟩ := trodAll_nil r1
  obtain rfl : args = #[v0, v1] := by cases args; simp_all
  obtain ⟨rfl, rfl⟩ := trodVars_none hV
  obtain ⟨a0, len0, cap0, rfl⟩ := okWide_slice Try.underlying22 (hval 0 22 v0 rfl rfl)
  have k0 := h0
  have lt0 : ∀ x ∈ p0, x.block < W.heap.size := by obtain ⟨m, hm⟩ := k0; exact DataW.trod_lt m _ _ _ hm
  obtain ⟨z0, H0, U0, M0⟩ := has_of_trod (k := .u8) Try.underlying22 Try.underlying5 (by kernel_rfl) h0
  obtain ⟨a1, len1, cap1, rfl⟩ := okWide_slice Try.underlying22 (hval 1 22 v1 rfl rfl)
  have k1 := h1
  have lt1 : ∀ x ∈ p1, x.block < W.heap.size := by obtain ⟨m, hm⟩ := k1; exact DataW.trod_lt m _ _ _ hm
  obtain ⟨z1, H1, U1, M1⟩ := has_of_trod (k := .u8) Try.underlying22 Try.underlying5 (by kernel_rfl) h1
  clear hA0 hval0
  refine (walk_FnKnown H0 U0 M0 H1 U1 M1).mono fun e W' ⟨he, bel⟩ => ?_
  subst he
  exact ⟨_, rfl, _, _, _, [], _, [], hW', trodAll_mk1 (shut_bool Try.underlying4 _), (trodAll_cons_mk (Below.trod (by kernel_rfl) (by kernel_rfl) (of_decide_eq_true (by kernel_rfl)) k0 bel lt0) (trodAll_cons_mk (Below.trod (by kernel_rfl) (by kernel_rfl) (of_decide_eq_true (by kernel_rfl)) k1 bel lt1) trodAll_mk0)), rfl, bel.frame _, fun h => by cases h⟩

theorem fnKnown_holds : Rows.FnKnownSaid :=
  OpenClaim.holds_of_wide 8 Try.f8 rfl rfl rfl rfl rfl rfl rfl ⟨rfl, rfl, rfl, rfl, rfl⟩ rfl rfl rfl rfl rfl (by kernel_rfl) Try.func8 (by kernel_rfl)
    (of_decide_eq_true (by kernel_rfl)) (by unfold Func.isWrapper; first | (rw [if_pos (by decide +kernel)]; kernel_rfl) | (rw [if_neg (by decide +kernel)]; exact ⟨rfl, rfl⟩))
    (fun os started H enc _ => lifted_FnKnown os started H enc)
end Go.Proofs.Ytmnhgghnaklneaa
