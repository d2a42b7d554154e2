/-
  FnBridgeStep: for every slice of bytes the law returns true and writes nothing that was there. No condition.
-/
import Derived.Test.YtmnhgghnaklneaaImp6
import Derived.Test.YtmnhgghnaklneaaDrawBridgeF
namespace Go.Proofs.Ytmnhgghnaklneaa
open Go.RowKit Go.ChangeShapes Go.WideShapes Go.ChangeAt

/-- Where a frame goes whose station is known. -/
theorem portsTo_known (q p n : Nat) : portsTo (q : Int) (p : Int) n = if q ≠ p ∧ q < n then [(q : Int)] else [] := by
  induction n with
  | zero => rw [if_neg (by omega)]; rfl
  | succ n ih =>
    rw [portsTo_snoc, ih]
    by_cases h : n = q
    · subst h
      rw [if_neg (show ¬ (n ≠ p ∧ n < n) by omega)]
      by_cases hp : n = p
      · subst hp
        rw [if_neg (show ¬ goesTo (n : Int) (n : Int) n by unfold goesTo; omega), if_neg (by omega)]; rfl
      · rw [if_pos (show goesTo (n : Int) (p : Int) n by unfold goesTo; omega), if_pos (by omega)]; rfl
    · rw [if_neg (show ¬ goesTo (q : Int) (p : Int) n by unfold goesTo; omega), List.append_nil]
      by_cases h2 : q ≠ p ∧ q < n
      · rw [if_pos h2, if_pos (by omega)]
      · rw [if_neg h2, if_neg (by omega)]
/-- What comes back from a station to where the frame came from. -/
theorem back_step {ts : List Int} {P s t q p : Nat} (hok : tOk ts (P : Int)) (hs : s ≤ 14) (hq : q < P) (ht : t ≤ 14) (hp : p < P) (hne : t ≠ s) :
    stepOk (ts.set s (q : Int)) (P : Int) ((t : Int), (s : Int), (p : Int)) ∧ outsL (ts.set s (q : Int)) (P : Int) ((t : Int), (s : Int), (p : Int)) = if q = p then [] else [(q : Int)] := by
  have h1 : tOk (ts.set s (q : Int)) (P : Int) := learn_ok (t := ts) (from_ := (s : Int)) (port := (q : Int)) ⟨hok, by omega, by omega⟩
  have h2 : stepOk (ts.set s (q : Int)) (P : Int) ((t : Int), (s : Int), (p : Int)) := by
    unfold stepOk learnOk
    exact ⟨⟨h1, by show 0 ≤ (t : Int) ∧ (t : Int) ≤ 14; omega, by show 0 ≤ (p : Int) ∧ (p : Int) ≤ (P : Int) - 1; omega⟩, by show 0 ≤ (s : Int) ∧ (s : Int) ≤ 15; omega⟩
  refine ⟨h2, ?_⟩
  unfold outsL
  rw [if_pos h2]
  have h3 : tOk (stepT (ts.set s (q : Int)) ((t : Int), (s : Int), (p : Int))) (P : Int) := learn_ok h2.1
  unfold portsL
  rw [if_pos ⟨h3, h2.2, h2.1.2.2⟩]
  have hk : knownAt (stepT (ts.set s (q : Int)) ((t : Int), (s : Int), (p : Int))) (s : Int) = (q : Int) := by
    unfold knownAt stepT
    rw [if_pos (by omega)]
    show ((ts.set s (q : Int)).set t (p : Int)).getD s (-1) = (q : Int)
    have hl := hok.1
    rw [List.getD_eq_getElem?_getD, List.getElem?_set_ne hne, List.getElem?_set_self (by omega)]
    rfl
  show portsTo (knownAt (stepT (ts.set s (q : Int)) ((t : Int), (s : Int), (p : Int))) (s : Int)) (p : Int) P = _
  rw [hk, portsTo_known]
  by_cases e : q = p
  · rw [if_neg (by omega), if_pos e]
  · rw [if_pos ⟨e, hq⟩, if_neg e]

set_option maxHeartbeats 8000000 in
set_option maxRecDepth 100000 in
theorem walk_FnBridgeStep {A0 : Option Addr} {n0 c0 : Nat} {zs0 : List Int} {w : World} (h0 : Has w A0 n0 (ints .u8 zs0)) (hwf0 : ∀ z ∈ zs0, (Lit.int .u8 z).wf = true) (hc0 : n0 ≤ c0 ∧ c0 ≤ maxLen) :
    Calls Try.prog 5 #[.slice A0 n0 c0] w fun e w' => e = .returned (.bool true) ∧ Below w.heap.size w w' := by
  have hu0 : U8s zs0 := fun z hz => u8_of_wf (hwf0 z hz)
  clear hwf0
  by_cases hn0 : n0 ≤ 1048576
  · go_enter Try.func5, Try.ntmps5
    go_wp2_with (fail)
    refine (drawBridgeStep_any h0 hu0 hc0).mono ?_
    rintro e w1 h
    unfold TabF at h
    obtain ⟨A1, n1, c1, ts, ports, f, t, q, rfl, L1, T1, hn1, hpo, fb, tb, qb, B1⟩ := h
    have hH := heap_alloc_new w1 (.cells #[.int .i64 f, .int .i64 t, .int .i64 q] 33)
    have hZ := heap_alloc_new w1 (.cells #[.int .i64 0, .int .i64 0, .int .i64 0] 33)
    obtain ⟨y0, y1, y2⟩ := cells3 hZ
    have BA := (Below.refl w1.heap.size w1).alloc (Nat.le_refl _) (.cells #[.int .i64 f, .int .i64 t, .int .i64 q] 33)
    have sA : w1.heap.size < (w1.alloc (.cells #[.int .i64 f, .int .i64 t, .int .i64 q] 33)).heap.size := by simp
    generalize hWA : w1.alloc (.cells #[.int .i64 f, .int .i64 t, .int .i64 q] 33) = WA at hH BA sA
    have CA := bel_trans B1 BA
    have LA := L1.bel BA
    obtain ⟨x0, x1, x2⟩ := cells3 hH
    have I1 : I64H [(f, t, q)] := fun y hy => by rw [List.mem_singleton.1 hy]; exact ⟨by show _ ≤ f ∧ f ≤ _; omega, by show _ ≤ t ∧ t ≤ _; omega, by show _ ≤ q ∧ q ≤ _; omega⟩
    clear hZ
    go_wp2_with (fail)
    refine (implBridgeStep_any LA.has T1.i64s (by omega) (by omega) I1).mono ?_
    rintro e w2 h2
    unfold StepR at h2
    obtain ⟨A2, n2, c2, A3, n3, c3, rfl, O2, O3, hap, B2⟩ := h2
    have C2 := bel_trans CA B2
    have L2 := LA.bel B2
    have hH2 := (B2.block w1.heap.size sA).trans hH
    clear x0 x1 x2 y0 y1 y2 hWA hH
    obtain ⟨x0, x1, x2⟩ := cells3 hH2
    go_wp2_with (fail)
    refine (specBridgeStep_w L2.has (by omega)).mono ?_
    rintro e w3 h3
    unfold StepR at h3
    obtain ⟨A4, n4, c4, A5, n5, c5, rfl, O4, O5, hap', B3⟩ := h3
    have s2 := B2.size
    have s3 := B3.size
    have C3 := bel_trans C2 B3
    have L3 := L2.bel B3
    have hH3 := (B3.block w1.heap.size (by omega)).trans hH2
    have P2 := O2.bel B3
    have P3 := O3.bel B3
    have ol1 : (stepL ts ports (f, t, q)).length ≤ 16777216 := by
      unfold stepL; split
      · rename_i hh; unfold stepT; rw [List.length_set]; have := hh.1.1.1; omega
      · simp
    have ol2 : (outsL ts ports (f, t, q)).length ≤ 16777216 := by
      unfold outsL; split
      · have := portsL_le (stepT ts (f, t, q)) ports t q; show (portsL (stepT ts (f, t, q)) ports t q).length ≤ _; omega
      · simp
    have e2 := P2.has.len
    have e3 := P3.has.len
    have D1 := Lib.hid (wnInts_same (c := c2) (c' := c4) P2.has O4.has (by omega))
    clear x0 x1 x2 hH2 hap hap' O2 O3 B2 B3 C2 L2 LA CA BA
    by_cases hg : stepOk ts ports (f, t, q)
    · have HD := Lib.hid (decide_eq_true hg)
      rw [HD.out]
      go_wp2_with (fail)
      refine D1.out.mono ?_
      rintro e w4 ⟨rfl, B4⟩
      have s4 := B4.size
      have C4 := bel_trans C3 B4
      have hH4 := (B4.block w1.heap.size (by omega)).trans hH3
      have P2 := P2.bel B4
      have P3 := P3.bel B4
      have O5 := O5.bel B4
      go_wp2_with (fail)
      refine (wnInts_same P3.has O5.has (by omega)).mono ?_
      rintro e w5 ⟨rfl, B5⟩
      have s5 := B5.size
      have C5 := bel_trans C4 B5
      have hH5 := (B5.block w1.heap.size (by omega)).trans hH4
      have P2 := P2.bel B5
      clear P3 O5 O4 hH4 hH3 D1 C3 C4
      obtain ⟨s, rfl⟩ := Int.eq_ofNat_of_zero_le hg.1.2.1.1
      obtain ⟨t, rfl⟩ := Int.eq_ofNat_of_zero_le hg.2.1
      obtain ⟨q, rfl⟩ := Int.eq_ofNat_of_zero_le hg.1.2.2.1
      obtain ⟨P, rfl⟩ := Int.eq_ofNat_of_zero_le hpo.1
      have gs : s ≤ 14 := by have : (s : Int) ≤ 14 := hg.1.2.1.2; omega
      have gt : t ≤ 15 := by have : (t : Int) ≤ 15 := hg.2.2; omega
      have gq : q < P := by have : (q : Int) ≤ (P : Int) - 1 := hg.1.2.2.2; omega
      have gP : P ≤ 6 := by have := hg.1.1.2.1.2; omega
      have hse : stepL ts (P : Int) ((s : Int), (t : Int), (q : Int)) = ts.set s (q : Int) := step_eq hg
      rw [hse] at P2 e2
      have h15 := hg.1.1.1
      obtain rfl : n2 = 15 := by rw [List.length_set] at e2; omega
      have HG := Lib.hid hg.1.1
      have T2 := (T1.set_ s (v := (q : Int)) (by omega)).i64s
      have HC := Lib.hid P2
      have HH := Lib.hid hH5
      have HX := Lib.hid (show (ts.set s (q : Int))[s]? = some (q : Int) by rw [List.getElem?_set_self (by omega)])
      have C5' := Lib.hid C5
      clear hg hse e2 h15 HD T1 L1 L3 hH5 e3 ol1 ol2 C5
      obtain ⟨x0, x1, x2⟩ := cells3 HH.out
      go_wp2
      obtain ⟨wo, rfl⟩ : ∃ wo : World, wo = w5 := ⟨_, rfl⟩
      clear x0 x1 x2
      have swo : w1.heap.size < wo.heap.size := by omega
      go_loopw [79] (fun v wr => ∃ p : Nat, p ≤ P ∧ v = .int .i64 (p : Int) ∧ Below wo.heap.size wo wr) (fun v _ => P - (intOf v).toNat)
      case atStart => exact ⟨0, Nat.zero_le _, rfl, Below.refl _ _⟩
      case round =>
        obtain ⟨p, hp, rfl, Bw⟩ := hrel
        have swr := Bw.size
        have hHr := (Bw.block w1.heap.size swo).trans HH.out
        obtain ⟨x0, x1, x2⟩ := cells3 hHr
        by_cases hlt : p < P
        · have hltB : decide ((p : Int) < (P : Int)) = true := by simp; omega
          have C := Lib.hid (implBridgeStep_any (c := c2) (f := (t : Int)) (t := (s : Int)) (q := (p : Int)) (HC.out.bel Bw).has T2 (by omega) (show -9223372036854775808 ≤ (P : Int) ∧ (P : Int) ≤ 9223372036854775807 by omega) (fun y hy => by rw [List.mem_singleton.1 hy]; exact ⟨by show _ ≤ (t : Int) ∧ (t : Int) ≤ _; omega, by show _ ≤ (s : Int) ∧ (s : Int) ≤ _; omega, by show _ ≤ (p : Int) ∧ (p : Int) ≤ _; omega⟩))
          go_wp2_with (fail)
          refine C.out.mono ?_
          rintro e w6 h6
          unfold StepR at h6
          obtain ⟨A6, n6, c6, A7, n7, c7, rfl, O6, O7, _, B6⟩ := h6
          have Bw6 := bel_trans Bw B6
          have hH6 := (B6.block w1.heap.size (by omega)).trans hHr
          clear x0 x1 x2 hHr O6 B6
          obtain ⟨x0, x1, x2⟩ := cells3 hH6
          by_cases e15 : t = 15
          · have hB : ((t : Int) == 15) = true := by simp; omega
            generalize decide (stepOk (ts.set s (q : Int)) (P : Int) ((t : Int), (s : Int), (p : Int))) = bb
            clear e15 O7
            go_wp2
            go_roundw
            case rel => exact ⟨p + 1, by omega, by go_num, Bw6⟩
            case measure => simp [intOf]; omega
          · have hB : ((t : Int) == 15) = false := by simp; omega
            by_cases ets : t = s
            · have hB2 : ((t : Int) == (s : Int)) = true := by simp; omega
              generalize decide (stepOk (ts.set s (q : Int)) (P : Int) ((t : Int), (s : Int), (p : Int))) = bb
              clear e15 ets O7
              go_wp2
              go_roundw
              case rel => exact ⟨p + 1, by omega, by go_num, Bw6⟩
              case measure => simp [intOf]; omega
            · have hB2 : ((t : Int) == (s : Int)) = false := by simp; omega
              obtain ⟨b1, b2⟩ := back_step HG.out gs gq (show t ≤ 14 by omega) hlt ets
              rw [decide_eq_true b1]
              rw [b2] at O7
              clear b1 b2 e15 ets
              by_cases eq : q = p
              · rw [if_pos eq] at O7
                obtain rfl : 0 = n7 := O7.has.len
                have hB3 : ((p : Int) == (q : Int)) = true := by simp; omega
                have hB4 : ((p : Int) != (q : Int)) = false := by simp; omega
                clear eq O7
                go_wp2
                go_region
                go_wp2
                go_roundw
                case rel => exact ⟨p + 1, by omega, by go_num, Bw6.drew⟩
                case measure => simp [intOf]; omega
              · rw [if_neg eq] at O7
                obtain rfl : 1 = n7 := O7.has.len
                have hB3 : ((p : Int) == (q : Int)) = false := by simp; omega
                have hB4 : ((p : Int) != (q : Int)) = true := by simp; omega
                have hB5 : ((q : Int) != (q : Int)) = false := by simp
                obtain ⟨b, o, z, rfl, hbl, hz, hc⟩ := O7.has.at_ (show 0 < 1 by decide)
                obtain rfl : (q : Int) = z := by simpa using hz
                rw [Nat.add_zero] at hc
                clear eq O7 hz
                go_wp2
                go_region
                go_wp2
                go_roundw
                case rel => exact ⟨p + 1, by omega, by go_num, Bw6.drew⟩
                case measure => simp [intOf]; omega
        · have hltB : decide ((p : Int) < (P : Int)) = false := by simp; omega
          obtain rfl : p = P := by omega
          have s15 : (s : Int) < 15 := by omega
          have s00 : (0 : Int) ≤ (s : Int) := by omega
          have hB5 : ((q : Int) == (q : Int)) = true := by simp
          obtain ⟨b, o, z, rfl, hbl, hz, hc⟩ := (HC.out.bel Bw).has.at_ (show s < 15 by omega)
          obtain rfl : (q : Int) = z := by have := HX.out; rw [hz] at this; injection this with this; exact this.symm
          have C6 := bel_trans C5'.out Bw
          clear hz
          go_wp2
          go_region
          go_wp2
          go_ret
          exact ⟨rfl, C6.drew⟩
    · have HD := Lib.hid (decide_eq_false hg)
      have hse : stepL ts ports (f, t, q) = [] := by unfold stepL; rw [if_neg hg]
      rw [hse] at e2
      obtain rfl : 0 = n2 := e2
      rw [HD.out]
      clear hg hse
      go_wp2_with (fail)
      refine D1.out.mono ?_
      rintro e w4 ⟨rfl, B4⟩
      have C4 := bel_trans C3 B4
      have P2 := P2.bel B4
      have O4 := O4.bel B4
      have P3 := P3.bel B4
      have O5 := O5.bel B4
      go_wp2_with (fail)
      refine (wnInts_same P3.has O5.has (by omega)).mono ?_
      rintro e w5 ⟨rfl, B5⟩
      have C5 := bel_trans C4 B5
      have P2 := P2.bel B5
      have O4 := O4.bel B5
      have P3 := P3.bel B5
      have O5 := O5.bel B5
      go_wp2_with (fail)
      refine (wnInts_same P2.has O4.has (by omega)).mono ?_
      rintro e w6 ⟨rfl, B6⟩
      have C6 := bel_trans C5 B6
      have P3 := P3.bel B6
      have O5 := O5.bel B6
      go_wp2_with (fail)
      refine (wnInts_same P3.has O5.has (by omega)).mono ?_
      rintro e w7 ⟨rfl, B7⟩
      have C7 := bel_trans C6 B7
      go_wp2
      go_ret
      exact ⟨rfl, C7⟩
  · go_enter Try.func5, Try.ntmps5
    go_wp2
    go_ret
    exact ⟨rfl, Below.refl _ _⟩
set_option maxRecDepth 100000 in
theorem lifted_FnBridgeStep (os : Os) (started : os.Started) (H : Type) (enc : TypeId × Value → H) :
    ReturnsInHanded {} Try.checked os 5 .any (Rows.fnBridgeStepSpec.pre6 enc Try.prog Try.f5 Rows.fnBridgeStepRow.domain false) (Rows.fnBridgeStepSpec.post enc Try.prog Try.f5 false true false false) := by
  refine returnsInHanded_of_change (C := Try.checked) (by kernel_rfl) started (by kernel_rfl) Try.func5
    (ChangeSpec.witness6 (enc := enc) (C := Try.checked) false ⟨#[], #[.slice none 0 0], []⟩ 8 (by kernel_rfl) (by kernel_rfl) (by kernel_rfl) (by kernel_rfl)) ?_
  intro W base args ds gs before hval0 hW hcnd _
  have hval : ∀ (j : Nat) t v, Try.f5.params[j]? = some t → args[j]? = some v → Value.okWide Try.prog W .any base t v := hval0
  have hW' := hW
  obtain ⟨p, q, hA0, hV, rfl, hfz, hnd⟩ := hW
  have hA : DataW.TrodAll enc Try.prog W 0 (fun _ => true) true Try.f5.params.toList args.toList ds p := hA0
  rw [Try.params5] at hA hval
  obtain ⟨v0, vs0, d0, ds0, p0, q0, hargs, rfl, rfl, h0, r0⟩ := trodAll_cons hA
  obtain ⟨rfl, rfl, rfl⟩ := trodAll_nil r0
  obtain rfl : args = #[v0] := by cases args; simp_all
  obtain ⟨rfl, rfl⟩ := trodVars_none hV
  obtain ⟨a0, len0, cap0, rfl⟩ := okWide_slice Try.underlying22 (hval 0 22 v0 rfl rfl)
  have k0 := h0
  have lt0 : ∀ x ∈ p0, x.block < W.heap.size := by obtain ⟨m, hm⟩ := k0; exact DataW.trod_lt m _ _ _ hm
  obtain ⟨z0, H0, U0, M0⟩ := has_of_trod (k := .u8) Try.underlying22 Try.underlying5 (by kernel_rfl) h0
  clear hA0 hval0
  refine (walk_FnBridgeStep H0 U0 M0).mono fun e W' ⟨he, bel⟩ => ?_
  subst he
  exact ⟨_, rfl, _, _, _, [], _, [], hW', trodAll_mk1 (shut_bool Try.underlying4 _), (trodAll_cons_mk (Below.trod (by kernel_rfl) (by kernel_rfl) (of_decide_eq_true (by kernel_rfl)) k0 bel lt0) trodAll_mk0), rfl, bel.frame _, fun h => by cases h⟩

theorem fnBridgeStep_holds : Rows.FnBridgeStepSaid :=
  OpenClaim.holds_of_wide 5 Try.f5 rfl rfl rfl rfl rfl rfl rfl ⟨rfl, rfl, rfl, rfl, rfl⟩ rfl rfl rfl rfl rfl (by kernel_rfl) Try.func5 (by kernel_rfl)
    (of_decide_eq_true (by kernel_rfl)) (by unfold Func.isWrapper; first | (rw [if_pos (by decide +kernel)]; kernel_rfl) | (rw [if_neg (by decide +kernel)]; exact ⟨rfl, rfl⟩))
    (fun os started H enc _ => lifted_FnBridgeStep os started H enc)
end Go.Proofs.Ytmnhgghnaklneaa
