/-
  FnRunBridge: for every slice of bytes the law returns true and writes nothing that was there. No condition.
-/
import Derived.Test.YtmnhgghnaklneaaImp6
import Derived.Test.YtmnhgghnaklneaaDrawHopsC
namespace Go.Proofs.Ytmnhgghnaklneaa
open Go.RowKit Go.ChangeShapes Go.WideShapes Go.ChangeAt

theorem tOk_i64 {ts : List Int} {ports : Int} (h : tOk ts ports) : I64s ts := fun x hx => by have := h.2.2 x hx; have := h.2.1; omega
theorem runT_le (ports : Int) (hs : List Hop3) : (runT ports hs).length ≤ 15 := by
  unfold runT
  cases hx : runR ports hs with
  | none => simp
  | some r =>
    have hok : runOk ports hs := by
      unfold runR at hx
      split at hx
      · assumption
      · cases hx
    have hrt : runTo ports freshL hs = some r := by unfold runR at hx; rw [if_pos hok] at hx; exact hx
    have := (runTo_ok (fresh_ok hok.1) hrt).1.1
    simp; omega
theorem runO_le (ports : Int) (hs : List Hop3) : ∀ zs ∈ runO ports hs, zs.length ≤ 16777216 := by
  unfold runO
  cases hx : runR ports hs with
  | none => intro zs hz; simp at hz
  | some r =>
    have hok : runOk ports hs := by
      unfold runR at hx
      split at hx
      · assumption
      · cases hx
    have hrt : runTo ports freshL hs = some r := by unfold runR at hx; rw [if_pos hok] at hx; exact hx
    have := (runTo_ok (fresh_ok hok.1) hrt).2.2
    intro zs hz
    have := this zs (by simpa using hz)
    omega
theorem runO_len (ports : Int) (hs : List Hop3) : (runO ports hs).length ≤ hs.length := by
  unfold runO
  cases hx : runR ports hs with
  | none => simp
  | some r =>
    have hok : runOk ports hs := by
      unfold runR at hx
      split at hx
      · assumption
      · cases hx
    have hrt : runTo ports freshL hs = some r := by unfold runR at hx; rw [if_pos hok] at hx; exact hx
    have := (runTo_ok (fresh_ok hok.1) hrt).2.1
    simp; omega

set_option maxHeartbeats 8000000 in
set_option maxRecDepth 100000 in
theorem walk_FnRunBridge {A0 : Option Addr} {n0 c0 : Nat} {zs0 : List Int} {w : World} (h0 : Has w A0 n0 (ints .u8 zs0)) (hwf0 : ∀ z ∈ zs0, (Lit.int .u8 z).wf = true) (hc0 : n0 ≤ c0 ∧ c0 ≤ maxLen) :
    Calls Try.prog 6 #[.slice A0 n0 c0] w fun e w' => e = .returned (.bool true) ∧ Below w.heap.size w w' := by
  have hu0 : U8s zs0 := fun z hz => u8_of_wf (hwf0 z hz)
  clear hwf0
  by_cases hn0 : n0 ≤ 1048576
  · go_enter Try.func6, Try.ntmps6
    go_wp2_with (fail)
    refine (drawRunBridge_c h0 hu0 hc0).mono ?_
    rintro e w1 h
    unfold HopsC at h
    obtain ⟨ports, A1, n1, c1, hs, rfl, H1, T1, hn1, hnc1, hpo, B1⟩ := h
    go_wp2_with (fail)
    refine (implRunBridge_any H1 T1.i64 (by omega) (by omega)).mono ?_
    rintro e w2 h2
    unfold RunRes at h2
    obtain ⟨A2, n2, c2, A3, n3, c3, vs, rfl, O2, V2, _, B2⟩ := h2
    have C2 := bel_trans B1 B2
    have H2 := H1.bel B2
    go_wp2_with (fail)
    refine (specRunBridge_w H2 (by omega)).mono ?_
    rintro e w3 h3
    unfold RunRes at h3
    obtain ⟨A4, n4, c4, A5, n5, c5, us, rfl, O4, V4, _, B3⟩ := h3
    have C3 := bel_trans C2 B3
    have H3 := H2.bel B3
    have P2 := O2.bel B3
    have Q2 := V2.bel B3
    have hn2 : n2 ≤ 16777216 := by have h1 := P2.has.len; have h2 := runT_le ports hs; omega
    have hn3 : n3 ≤ 16777216 := by have h1 := Q2.has.len; have h2 := runO_len ports hs; have h3 := H3.1; omega
    have hol := runO_le ports hs
    have C4 := Lib.hid (wnInts_same (c := c2) (c' := c4) P2.has O4.has hn2)
    clear V2 O2 H1 H2 C2 B1 B2 B3
    by_cases hb : runB ports hs = true
    · rw [hb]
      go_wp2_with (fail)
      refine C4.out.mono ?_
      rintro e w4 ⟨rfl, B4⟩
      have C4 := bel_trans C3 B4
      have Q2 := Q2.bel B4
      have V4 := V4.bel B4
      have H3 := H3.bel B4
      go_wp2_with (fail)
      refine (wnPairs_same Q2.has V4.has hn3 hol).mono ?_
      rintro e w5 ⟨rfl, B5⟩
      have C5 := bel_trans C4 B5
      have Q2 := Q2.bel B5
      have H3 := H3.bel B5
      obtain ⟨rr, hrr⟩ : ∃ rr, runR ports hs = some rr := by
        unfold runB at hb
        cases hx : runR ports hs with
        | none => rw [hx] at hb; cases hb
        | some r => exact ⟨r, rfl⟩
      have hok : runOk ports hs := by
        unfold runR at hrr
        split at hrr
        · assumption
        · cases hrr
      have hrt : runTo ports freshL hs = some rr := by unfold runR at hrr; rw [if_pos hok] at hrr; exact hrr
      have hO : runO ports hs = rr.2 := by unfold runO; rw [hrr]; rfl
      rw [hO] at Q2
      obtain rfl : n3 = n1 := by have h1 := Q2.has.len; have h2 := (runTo_ok (fresh_ok hok.1) hrt).2.1; have h3 := H3.1; omega
      have HK := Lib.hid (fun (k : Nat) (x : Hop3) (hx : hs[k]? = some x) => run_at hok hrt hx)
      have HP := Lib.hid hok.1
      have HQ := Lib.hid Q2
      have HL := Lib.hid H3
      have HT := Lib.hid T1.i64
      have hnB : ((n3 : Int) == (n3 : Int)) = true := by simp
      clear hb hrr hok hrt hO P2 V4 O4 B4 B5 C4 C3 hol H3 Q2 T1 hn2 hn3
      go_wp2
      obtain ⟨wo, rfl⟩ : ∃ wo : World, wo = w5 := ⟨_, rfl⟩
      go_loopw [78] (fun v wr => ∃ k : Nat, k ≤ n3 ∧ v = .int .i64 (k : Int) ∧ Below wo.heap.size wo wr) (fun v _ => n3 - (intOf v).toNat)
      case atStart => exact ⟨0, Nat.zero_le _, rfl, Below.refl _ _⟩
      case round =>
        obtain ⟨k, hk, rfl, Bw⟩ := hrel
        by_cases hlt : k < n3
        · have hltB : decide ((k : Int) < (n3 : Int)) = true := by simp; omega
          have Lr := HL.out.bel Bw
          obtain ⟨b, o, f, t, q, rfl, hbl, hx, d0, d1, d2⟩ := Lr.at_ hlt
          obtain ⟨r, r1, r2, r3, r4, r5, r6, r7⟩ := HK.out k _ hx
          have HX := Lib.hid (show I64H [(f, t, q)] from fun y hy => by rw [List.mem_singleton.1 hy]; exact HT.out _ (List.mem_of_getElem? hx))
          have hHt : I64H (hs.take k) := fun y hy => HT.out y (List.mem_of_mem_take hy)
          have hHt2 : I64H (hs.take (k + 1)) := fun y hy => HT.out y (List.mem_of_mem_take hy)
          have HF1 := run_front (P := Try.prog) (n := n3) (sz := 3) Try.underlying38 (e := 33) (fun _ => by kernel_rfl) (b := b) (o := o) (show k ≤ c1 by omega) rfl
          have HF2 := run_front (P := Try.prog) (n := n3) (sz := 3) Try.underlying38 (e := 33) (fun _ => by kernel_rfl) (b := b) (o := o) (show k + 1 ≤ c1 by omega) (show (k : Int) + 1 = ((k + 1 : Nat) : Int) by omega)
          have hHn := heap_alloc_new wr (.cells #[.int .i64 f, .int .i64 t, .int .i64 q] 33)
          have hHz := heap_alloc_new wr (.cells #[.int .i64 0, .int .i64 0, .int .i64 0] 33)
          obtain ⟨y0, y1, y2⟩ := cells3 hHz
          have BA := (Below.refl wr.heap.size wr).alloc (Nat.le_refl _) (.cells #[.int .i64 f, .int .i64 t, .int .i64 q] 33)
          have sA : wr.heap.size < (wr.alloc (.cells #[.int .i64 f, .int .i64 t, .int .i64 q] 33)).heap.size := by simp
          generalize hWA : wr.alloc (.cells #[.int .i64 f, .int .i64 t, .int .i64 q] 33) = WA at hHn BA sA
          have BwA := bel_trans Bw BA
          have LA := Lr.bel BA
          have R1 := Lib.hid (implRunBridge_any (ports := ports) (c := c1) (LA.front (Nat.le_of_lt hlt)) hHt (by omega) (by omega))
          have HR2 := Lib.hid r2
          have HR7 := Lib.hid r7
          clear hx hHz r2 r7
          go_wp2_with (fail)
          refine R1.out.mono ?_
          rintro e w6 h6
          unfold RunRes at h6
          rw [r3, r4] at h6
          obtain ⟨A6, n6, c6, A7, n7, c7, _, rfl, O6, _, _, B6⟩ := h6
          have s6 := B6.size
          have Bw6 := bel_trans BwA B6
          have hH6 := (B6.block wr.heap.size sA).trans hHn
          obtain rfl : n6 = 15 := by have h1 := O6.has.len; have h2 := r1.1; omega
          have L6 := LA.bel B6
          have R2 := Lib.hid (implBridgeStep_any (c := c6) O6.has (tOk_i64 r1) (by omega) (show -9223372036854775808 ≤ ports ∧ ports ≤ 9223372036854775807 by omega) HX.out)
          clear y0 y1 y2 d0 d1 d2 hWA hHn R1 r3 r4 LA Lr
          obtain ⟨x0, x1, x2⟩ := cells3 hH6
          go_wp2_with (fail)
          refine R2.out.mono ?_
          rintro e w7 h7
          unfold StepR at h7
          rw [decide_eq_true HR2.out] at h7
          obtain ⟨A8, n8, c8, A9, n9, c9, rfl, O8, O9, _, B7⟩ := h7
          have Bw7 := bel_trans Bw6 B7
          have L7 := L6.bel B7
          have R3 := Lib.hid (implRunBridge_any (ports := ports) (c := c1) (L7.front (show k + 1 ≤ n3 by omega)) hHt2 (by omega) (by omega))
          clear x0 x1 x2 hH6 R2 O6 L6
          go_wp2_with (fail)
          refine R3.out.mono ?_
          rintro e w8 h8
          unfold RunRes at h8
          rw [r5, r6] at h8
          obtain ⟨A10, n10, c10, A11, n11, c11, _, rfl, O10, _, _, B8⟩ := h8
          have Bw8 := bel_trans Bw7 B8
          have O8 := O8.bel B8
          have O9 := O9.bel B8
          obtain ⟨b3, o3, X3, m3, d3, zs, rfl, hbl3, hz, hc3, hmd3, hX3⟩ := (HQ.out.bel Bw8).has.at_ hlt
          obtain rfl : outsL r.1 ports (f, t, q) = zs := by have := HR7.out; rw [hz] at this; injection this with this; exact this.symm
          have hn9 : n9 ≤ 16777216 := by
            have h1 := O9.has.len
            have h2 : (outsL r.1 ports (f, t, q)).length ≤ 6 := by
              unfold outsL; split
              · exact portsL_le _ _ _ _
              · simp
            omega
          have hn8 : n8 ≤ 16777216 := by
            have h1 := O8.has.len
            have h2 : (stepL r.1 ports (f, t, q)).length ≤ 15 := by
              unfold stepL; split
              · unfold stepT; rw [List.length_set]; have := r1.1; omega
              · simp
            omega
          have R4 := Lib.hid (wnInts_same (c := c9) (c' := d3) O9.has hX3 hn9)
          clear hz R3 r5 r6 L7
          go_wp2_with (fail)
          refine R4.out.mono ?_
          rintro e w9 ⟨rfl, B9⟩
          have Bw9 := bel_trans Bw8 B9
          have R5 := Lib.hid (wnInts_same (c := c8) (c' := c10) (O8.bel B9).has (O10.bel B9).has hn8)
          clear hc3 R4
          go_wp2_with (fail)
          refine R5.out.mono ?_
          rintro e w10 ⟨rfl, B10⟩
          have Bw10 := bel_trans Bw9 B10
          clear R5
          go_wp2
          go_roundw
          case rel => exact ⟨k + 1, by omega, by go_num, Bw10⟩
          case measure => simp [intOf]; omega
        · have hltB : decide ((k : Int) < (n3 : Int)) = false := by simp; omega
          obtain rfl : k = n3 := by omega
          have C6 := bel_trans C5 Bw
          go_wp2
          go_ret
          exact ⟨rfl, C6⟩
    · have hbf : runB ports hs = false := by simpa using hb
      rw [hbf]
      clear hb hbf
      go_wp2_with (fail)
      refine C4.out.mono ?_
      rintro e w4 ⟨rfl, B4⟩
      have C4 := bel_trans C3 B4
      have P2 := P2.bel B4
      have O4 := O4.bel B4
      have Q2 := Q2.bel B4
      have V4 := V4.bel B4
      go_wp2_with (fail)
      refine (wnPairs_same Q2.has V4.has hn3 hol).mono ?_
      rintro e w5 ⟨rfl, B5⟩
      have C5 := bel_trans C4 B5
      have P2 := P2.bel B5
      have O4 := O4.bel B5
      have Q2 := Q2.bel B5
      have V4 := V4.bel B5
      go_wp2_with (fail)
      refine (wnInts_same P2.has O4.has hn2).mono ?_
      rintro e w6 ⟨rfl, B6⟩
      have C6 := bel_trans C5 B6
      have Q2 := Q2.bel B6
      have V4 := V4.bel B6
      go_wp2_with (fail)
      refine (wnPairs_same Q2.has V4.has hn3 hol).mono ?_
      rintro e w7 ⟨rfl, B7⟩
      have C7 := bel_trans C6 B7
      go_wp2
      go_ret
      exact ⟨rfl, C7⟩
  · go_enter Try.func6, Try.ntmps6
    go_wp2
    go_ret
    exact ⟨rfl, Below.refl _ _⟩
set_option maxRecDepth 100000 in
theorem lifted_FnRunBridge (os : Os) (started : os.Started) (H : Type) (enc : TypeId × Value → H) :
    ReturnsInHanded {} Try.checked os 6 .any (Rows.fnRunBridgeSpec.pre6 enc Try.prog Try.f6 Rows.fnRunBridgeRow.domain false) (Rows.fnRunBridgeSpec.post enc Try.prog Try.f6 false true false false) := by
  refine returnsInHanded_of_change (C := Try.checked) (by kernel_rfl) started (by kernel_rfl) Try.func6
    (ChangeSpec.witness6 (enc := enc) (C := Try.checked) false ⟨#[], #[.slice none 0 0], []⟩ 8 (by kernel_rfl) (by kernel_rfl) (by kernel_rfl) (by kernel_rfl)) ?_
  intro W base args ds gs before hval0 hW hcnd _
  have hval : ∀ (j : Nat) t v, Try.f6.params[j]? = some t → args[j]? = some v → Value.okWide Try.prog W .any base t v := hval0
  have hW' := hW
  obtain ⟨p, q, hA0, hV, rfl, hfz, hnd⟩ := hW
  have hA : DataW.TrodAll enc Try.prog W 0 (fun _ => true) true Try.f6.params.toList args.toList ds p := hA0
  rw [Try.params6] at hA hval
  obtain ⟨v0, vs0, d0, ds0, p0, q0, hargs, rfl, rfl, h0, r0⟩ := trodAll_cons hA
  obtain ⟨rfl, rfl, rfl⟩ := trodAll_nil r0
  obtain rfl : args = #[v0] := by cases args; simp_all
  obtain ⟨rfl, rfl⟩ := trodVars_none hV
  obtain ⟨a0, len0, cap0, rfl⟩ := okWide_slice Try.underlying22 (hval 0 22 v0 rfl rfl)
  have k0 := h0
  have lt0 : ∀ x ∈ p0, x.block < W.heap.size := by obtain ⟨m, hm⟩ := k0; exact DataW.trod_lt m _ _ _ hm
  obtain ⟨z0, H0, U0, M0⟩ := has_of_trod (k := .u8) Try.underlying22 Try.underlying5 (by kernel_rfl) h0
  clear hA0 hval0
  refine (walk_FnRunBridge H0 U0 M0).mono fun e W' ⟨he, bel⟩ => ?_
  subst he
  exact ⟨_, rfl, _, _, _, [], _, [], hW', trodAll_mk1 (shut_bool Try.underlying4 _), (trodAll_cons_mk (Below.trod (by kernel_rfl) (by kernel_rfl) (of_decide_eq_true (by kernel_rfl)) k0 bel lt0) trodAll_mk0), rfl, bel.frame _, fun h => by cases h⟩

theorem fnRunBridge_holds : Rows.FnRunBridgeSaid :=
  OpenClaim.holds_of_wide 6 Try.f6 rfl rfl rfl rfl rfl rfl rfl ⟨rfl, rfl, rfl, rfl, rfl⟩ rfl rfl rfl rfl rfl (by kernel_rfl) Try.func6 (by kernel_rfl)
    (of_decide_eq_true (by kernel_rfl)) (by unfold Func.isWrapper; first | (rw [if_pos (by decide +kernel)]; kernel_rfl) | (rw [if_neg (by decide +kernel)]; exact ⟨rfl, rfl⟩))
    (fun os started H enc _ => lifted_FnRunBridge os started H enc)
end Go.Proofs.Ytmnhgghnaklneaa
