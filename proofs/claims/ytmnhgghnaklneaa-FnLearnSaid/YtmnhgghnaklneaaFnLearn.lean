/-
  FnLearn: for every slice of bytes the law returns true and writes nothing that was there. No condition.
-/
import Derived.Test.YtmnhgghnaklneaaImp6
import Derived.Test.YtmnhgghnaklneaaDrawBridge
import Derived.Test.YtmnhgghnaklneaaWnInts
namespace Go.Proofs.Ytmnhgghnaklneaa
open Go.RowKit Go.ChangeShapes Go.WideShapes Go.ChangeAt

set_option maxHeartbeats 8000000 in
set_option maxRecDepth 100000 in
theorem walk_FnLearn {A0 : Option Addr} {n0 c0 : Nat} {zs0 : List Int} {w : World} (h0 : Has w A0 n0 (ints .u8 zs0)) (hwf0 : ∀ z ∈ zs0, (Lit.int .u8 z).wf = true) (hc0 : n0 ≤ c0 ∧ c0 ≤ maxLen) :
    Calls Try.prog 3 #[.slice A0 n0 c0] w fun e w' => e = .returned (.bool true) ∧ Below w.heap.size w w' := by
  have hu0 : U8s zs0 := fun z hz => u8_of_wf (hwf0 z hz)
  clear hwf0
  by_cases hn0 : n0 ≤ 1048576
  · go_enter Try.func3, Try.ntmps3
    go_wp2_with (fail)
    refine (drawLearnPort_any h0 hu0 hc0).mono ?_
    rintro e w1 h
    unfold TabH at h
    obtain ⟨A1, n1, c1, ts, ports, from_, port, rfl, L1, T1, hn1, ⟨po0, po1⟩, ⟨t0, t1⟩, ⟨q0, q1⟩, B1⟩ := h
    go_wp2_with (fail)
    refine (implLearnPort_any L1.has T1.i64s (by omega) (by omega) (by omega) (by omega)).mono ?_
    rintro e w2 ⟨A2, n2, c2, rfl, O2, B2⟩
    have C2 := bel_trans B1 B2
    have L2 := L1.bel B2
    have hn2 : n2 ≤ 15 := by have e1 := O2.has.len; have e2 := learnL_le ts ports from_ port; omega
    go_wp2_with (fail)
    refine (specLearnPort_any L2.has T1.i64s (by omega) (by omega) (by omega) (by omega)).mono ?_
    rintro e w3 ⟨A3, n3, c3, rfl, O3, B3⟩
    have C3 := bel_trans C2 B3
    have L3 := L2.bel B3
    have P3 := O2.bel B3
    by_cases hg : learnOk ts ports from_ port
    · obtain ⟨s, rfl⟩ := Int.eq_ofNat_of_zero_le hg.2.1.1
      have hs : s ≤ 14 := by have := hg.2.1.2; omega
      obtain rfl : n1 = 15 := by have h1 := L1.has.len; have h2 := hg.1.1; omega
      have hset : learnL ts ports (s : Int) port = ts.set s port := by unfold learnL; rw [if_pos hg]; rfl
      have hok2 : tOk (ts.set s port) ports := learn_ok hg
      have hg2 : learnOk (ts.set s port) ports (s : Int) port := ⟨hok2, hg.2.1, hg.2.2⟩
      have hset2 : learnL (ts.set s port) ports (s : Int) port = ts.set s port := by unfold learnL; rw [if_pos hg2, Int.toNat_natCast, List.set_set]
      rw [hset] at P3 O3
      obtain rfl : n2 = 15 := by have h1 := P3.has.len; rw [List.length_set] at h1; have h2 := hg.1.1; omega
      have T2 := T1.set_ s (v := port) (by omega)
      have HD := Lib.hid (decide_eq_true hg)
      have HD2 := Lib.hid (decide_eq_true hg2)
      have HD3 := Lib.hid (decide_eq_true hok2)
      have HS2 := Lib.hid hset2
      have HTL := Lib.hid hg.1.1
      rw [HD.out]
      clear hg hg2 hok2 hset hset2 O2 L1 L2 B1 B2 B3 C2
      go_wp2_with (fail)
      refine (wnInts_same P3.has O3.has (by omega)).mono ?_
      rintro e w4 ⟨rfl, B4⟩
      have C4 := bel_trans C3 B4
      have L4 := L3.bel B4
      have P4 := P3.bel B4
      clear O3 L3 P3 B4 C3
      go_wp2
      go_loop [69] (fun i => ∃ k : Nat, k ≤ 15 ∧ i = .int .i64 k) (fun i => 15 - (intOf i).toNat)
      case atStart => exact ⟨0, Nat.zero_le _, rfl⟩
      case round =>
        obtain ⟨k, hk, rfl⟩ := hrel
        by_cases hlt : k < 15
        · have hltB : decide ((k : Int) < 15) = true := by simp; omega
          obtain ⟨b, o, x, rfl, hbl, hx, hc⟩ := P4.has.at_ hlt
          obtain ⟨b', o', y, rfl, hbl', hy, hc'⟩ := L4.has.at_ hlt
          by_cases hks : k = s
          · subst hks
            have hxp : x = port := by
              rw [List.getElem?_set_self (by have := HTL.out; omega)] at hx
              injection hx with hx; exact hx.symm
            subst hxp
            have e1 : ((k : Int) == (k : Int)) = true := by simp
            have e2 : (x != x) = false := by simp
            have e3 : ((k : Int) != (k : Int)) = false := by simp
            clear hx hy
            go_wp2
            go_round
            case rel => exact ⟨k + 1, by omega, by go_num⟩
            case measure => simp [intOf]; omega
          · have hxy : x = y := by
              rw [List.getElem?_set_ne (fun e => hks e.symm), hy] at hx
              injection hx with hx; exact hx.symm
            subst hxy
            have e1 : ((k : Int) == (s : Int)) = false := by simp; omega
            have e3 : ((k : Int) != (s : Int)) = true := by simp; omega
            have e2 : (x != x) = false := by simp
            clear hx hy hks
            go_wp2
            go_round
            case rel => exact ⟨k + 1, by omega, by go_num⟩
            case measure => simp [intOf]; omega
        · have hltB : decide ((k : Int) < 15) = false := by simp; omega
          obtain rfl : k = 15 := by omega
          go_wp2_with (fail)
          refine (implLearnPort_any P4.has T2.i64s (by omega) (by omega) (by omega) (by omega)).mono ?_
          rintro e w5 ⟨A5, n5, c5, rfl, O5, B5⟩
          have C5 := bel_trans C4 B5
          have P5 := P4.bel B5
          rw [HS2.out] at O5
          rw [HD2.out]
          go_wp2_with (fail)
          refine (wnInts_same O5.has P5.has (by have := O5.has.len; have := P5.has.len; omega)).mono ?_
          rintro e w6 ⟨rfl, B6⟩
          have C6 := bel_trans C5 B6
          have P6 := P5.bel B6
          go_wp2_with (fail)
          refine (implTableValid_any P6.has T2.i64s (by omega) (by omega)).mono ?_
          rintro e w7 ⟨rfl, B7⟩
          rw [HD3.out]
          have C7 := bel_trans C6 B7
          go_wp2
          go_ret
          exact ⟨rfl, C7⟩
    · have hset : learnL ts ports from_ port = [] := by unfold learnL; rw [if_neg hg]
      rw [hset] at P3 O3
      obtain rfl : 0 = n2 := P3.has.len
      have HD := Lib.hid (decide_eq_false hg)
      rw [HD.out]
      clear hg hset O2
      go_wp2_with (fail)
      refine (wnInts_same P3.has O3.has (by omega)).mono ?_
      rintro e w4 ⟨rfl, B4⟩
      have C4 := bel_trans C3 B4
      have P4 := P3.bel B4
      have Q4 := O3.bel B4
      go_wp2_with (fail)
      refine (wnInts_same P4.has Q4.has (by omega)).mono ?_
      rintro e w5 ⟨rfl, B5⟩
      have C5 := bel_trans C4 B5
      go_wp2
      go_ret
      exact ⟨rfl, C5⟩
  · go_enter Try.func3, Try.ntmps3
    go_wp2
    go_ret
    exact ⟨rfl, Below.refl _ _⟩
set_option maxRecDepth 100000 in
theorem lifted_FnLearn (os : Os) (started : os.Started) (H : Type) (enc : TypeId × Value → H) :
    ReturnsInHanded {} Try.checked os 3 .any (Rows.fnLearnSpec.pre6 enc Try.prog Try.f3 Rows.fnLearnRow.domain false) (Rows.fnLearnSpec.post enc Try.prog Try.f3 false true false false) := by
  refine returnsInHanded_of_change (C := Try.checked) (by kernel_rfl) started (by kernel_rfl) Try.func3
    (ChangeSpec.witness6 (enc := enc) (C := Try.checked) false ⟨#[], #[.slice none 0 0], []⟩ 8 (by kernel_rfl) (by kernel_rfl) (by kernel_rfl) (by kernel_rfl)) ?_
  intro W base args ds gs before hval0 hW hcnd _
  have hval : ∀ (j : Nat) t v, Try.f3.params[j]? = some t → args[j]? = some v → Value.okWide Try.prog W .any base t v := hval0
  have hW' := hW
  obtain ⟨p, q, hA0, hV, rfl, hfz, hnd⟩ := hW
  have hA : DataW.TrodAll enc Try.prog W 0 (fun _ => true) true Try.f3.params.toList args.toList ds p := hA0
  rw [Try.params3] at hA hval
  obtain ⟨v0, vs0, d0, ds0, p0, q0, hargs, rfl, rfl, h0, r0⟩ := trodAll_cons hA
  obtain ⟨rfl, rfl, rfl⟩ := trodAll_nil r0
  obtain rfl : args = #[v0] := by cases args; simp_all
  obtain ⟨rfl, rfl⟩ := trodVars_none hV
  obtain ⟨a0, len0, cap0, rfl⟩ := okWide_slice Try.underlying22 (hval 0 22 v0 rfl rfl)
  have k0 := h0
  have lt0 : ∀ x ∈ p0, x.block < W.heap.size := by obtain ⟨m, hm⟩ := k0; exact DataW.trod_lt m _ _ _ hm
  obtain ⟨z0, H0, U0, M0⟩ := has_of_trod (k := .u8) Try.underlying22 Try.underlying5 (by kernel_rfl) h0
  clear hA0 hval0
  refine (walk_FnLearn H0 U0 M0).mono fun e W' ⟨he, bel⟩ => ?_
  subst he
  exact ⟨_, rfl, _, _, _, [], _, [], hW', trodAll_mk1 (shut_bool Try.underlying4 _), (trodAll_cons_mk (Below.trod (by kernel_rfl) (by kernel_rfl) (of_decide_eq_true (by kernel_rfl)) k0 bel lt0) trodAll_mk0), rfl, bel.frame _, fun h => by cases h⟩

theorem fnLearn_holds : Rows.FnLearnSaid :=
  OpenClaim.holds_of_wide 3 Try.f3 rfl rfl rfl rfl rfl rfl rfl ⟨rfl, rfl, rfl, rfl, rfl⟩ rfl rfl rfl rfl rfl (by kernel_rfl) Try.func3 (by kernel_rfl)
    (of_decide_eq_true (by kernel_rfl)) (by unfold Func.isWrapper; first | (rw [if_pos (by decide +kernel)]; kernel_rfl) | (rw [if_neg (by decide +kernel)]; exact ⟨rfl, rfl⟩))
    (fun os started H enc _ => lifted_FnLearn os started H enc)
end Go.Proofs.Ytmnhgghnaklneaa
