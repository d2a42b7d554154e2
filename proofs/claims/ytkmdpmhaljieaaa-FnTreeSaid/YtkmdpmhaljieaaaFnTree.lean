/-
  FnTree: for every slice of bytes the law returns true and writes nothing that was there. No condition.
-/
import Derived.Test.YtkmdpmhaljieaaaTreeB
import Derived.Test.YtkmdpmhaljieaaaShut
namespace Go.Proofs.Ytkmdpmhaljieaaa
open Go.RowKit Go.ChangeShapes Go.WideShapes Go.ChangeAt

set_option maxHeartbeats 16000000 in
set_option maxRecDepth 100000 in
theorem walk_FnTree {A0 : Option Addr} {n0 c0 : Nat} {zs0 : List Int} {w : World} (h0 : Has w A0 n0 (ints .u8 zs0)) (hwf0 : ∀ z ∈ zs0, (Lit.int .u8 z).wf = true) (hc0 : n0 ≤ c0 ∧ c0 ≤ maxLen) :
    Calls Try.prog 5 #[.slice A0 n0 c0] w fun e w' => e = .returned (.bool true) ∧ Below w.heap.size w w' := by
  obtain ⟨i0, hi, hz0, hz1, hz2⟩ := info_partsK Try.infoCableD
  have hu0 : U8s zs0 := fun z hz => u8_of_wf (hwf0 z hz)
  clear hwf0
  by_cases hn0 : n0 ≤ 1048576
  · go_enter Try.func5, Try.ntmps5
    go_wp2_with (fail)
    refine (drawTreeOf_any h0 hu0 hc0).mono ?_
    rintro e w1 h
    unfold CabO at h
    obtain ⟨m, A1, n1, c1, ks, rfl, O1, T1, hn1, hm9, B1⟩ := h
    have H1 := O1.has
    clear O1 T1
    go_wp2_with (fail)
    refine (implTreeOf_w H1 (by omega)).mono ?_
    rintro e w2 ⟨A2, n2, c2, rfl, P2, B2⟩
    have C2 := bel_trans B1 B2
    have H2 := H1.bel B2
    go_wp2_with (fail)
    refine (specTreeOf_w H2 (by omega)).mono ?_
    rintro e w3 ⟨A3, n3, c3, rfl, P3, B3⟩
    have C3 := bel_trans C2 B3
    have H3 := H2.bel B3
    have Q3 := P2.has.bel B3
    have hl2 := Q3.1
    rw [ints_length] at hl2
    have hn2 : n2 ≤ 16777216 := by have := treeI_le (m : Int) ks; omega
    go_wp2_with (fail)
    refine (wnInts_same Q3 P3.has hn2).mono ?_
    rintro e w4 ⟨rfl, B4⟩
    have C4 := bel_trans C3 B4
    have H4 := H3.bel B4
    have Q4 := Q3.bel B4
    clear P2 P3 B1 B2 B3 B4 H1 H2 H3 C2 C3 Q3
    by_cases hv : kOk (m : Int) ks
    · have CV := Lib.hid (implCablesValid_b (c := c1) H4 (by omega) (decide_eq_true hv))
      obtain ⟨cs, N⟩ : ∃ cs, Net7 (m : Int) ks m cs := ⟨_, by have := kOk_yes hv; rwa [Int.toNat_natCast] at this⟩
      have hp := N.pos
      have hm8 := N.le
      rw [N.tree] at Q4 hl2
      rw [intsOf_len] at hl2
      have HN := Lib.hid N
      have HC := Lib.hid N.ok
      have HL := Lib.hid (show cs.length = n1 by have := H4.1; rw [N.ks_eq, List.length_map] at this; exact this)
      obtain ⟨TR, hTR⟩ : ∃ l, treeN m cs = l := ⟨_, rfl⟩
      have HTR := Lib.hid hTR
      have HLT := Lib.hid (show ∀ j ∈ TR, j < cs.length by rw [← hTR]; exact treeN_lt)
      have HASC := Lib.hid (show TR.Pairwise (· < ·) by rw [← hTR]; exact tree_asc N.ok (costsN m cs) cs.length)
      have HLEN := Lib.hid (show TR.length + cnt (fun b => rootN m cs b = b) m = m by rw [← hTR]; exact treeN_len N.ok N.le)
      rw [hTR] at Q4 hl2
      have HTL := Lib.hid hl2
      have hn28 : n2 ≤ 8 := by have := HLEN.out; omega
      have HQ : Has w4 A2 n2 (cI TR) := Q4
      obtain rfl := N.ks_eq
      clear hv N hTR Q4 hl2 hm9
      go_wp2_with (fail)
      refine CV.out.mono ?_
      rintro e w5 ⟨rfl, B5⟩
      have C5 := bel_trans C4 B5
      have H5 := H4.bel B5
      have Q5 := HQ.bel B5
      clear CV C4 H4 HQ B5
      have OX : OwnK (w5.alloc (.cells #[] 29)) w5.heap.size 29 (some ⟨w5.heap.size, 0, none⟩) 0 0 ((cabsAt cs (TR.take 0)).map triOf) := World.ownsRow_lit w5 #[] 0 (Nat.le_refl _) (by unfold maxLen; omega) rfl
      have BX : Below w5.heap.size w5 (w5.alloc (.cells #[] 29)) := (Below.refl _ _).alloc (Nat.le_refl _) _
      go_wp2
      go_loopw [6, 48] (fun v t wx => ∃ (k : Nat) (A' : Option Addr) (c' : Nat), k ≤ n2 ∧ t = .int .i64 (k : Int) ∧ v = .slice A' k c' ∧ OwnK wx w5.heap.size 29 A' k c' ((cabsAt cs (TR.take k)).map triOf) ∧ Below w5.heap.size w5 wx) (fun _ t _ => n2 - (intOf t).toNat)
      case atStart => exact ⟨0, _, _, Nat.zero_le _, rfl, rfl, OX, BX⟩
      case round =>
        obtain ⟨k, A6, c6, hk, rfl, rfl, O6, B6⟩ := hrel
        have s6 := B6.size
        by_cases hlt : k < n2
        · have hltB : decide ((k : Int) < (n2 : Int)) = true := by simp; omega
          have hltC : decide (k < n2) = true := by simp; omega
          have Q6 := Q5.bel B6
          obtain ⟨bq, oq, rfl, hbq, y0⟩ := has_cI Q6 hlt
          have hkl : k < TR.length := by have := HTL.out; omega
          have hjl := HLT.out _ (gn_mem hkl)
          have HSN := Lib.hid (show (cabsAt cs (TR.take (k + 1))).map triOf = (cabsAt cs (TR.take k)).map triOf ++ [triOf (cab cs (gn TR k))] by rw [take_gn hkl, cabsAt_snoc, tris_snoc])
          have hjn : gn TR k < n1 := by rw [← HL.out]; exact hjl
          have hc6 := O6.cap
          obtain ⟨bb, o, rfl, hbl, d0, d1, d2⟩ := (H5.bel B6).cab7 hjn
          have HPREV := Lib.hid (show ∀ k', k = k' + 1 → decide ((gn TR k' : Int) ≥ (gn TR k : Int)) = false ∧ decide ((gn TR k : Int) ≤ (gn TR k' : Int)) = false ∧ decide (gn TR k ≤ gn TR k') = false ∧ wr.cell? ⟨bq, oq + k', none⟩ = some (.int .i64 (gn TR k' : Int)) from fun k' hk' => by
            subst hk'
            have := asc_gn HASC.out hkl
            exact ⟨decide_eq_false (by omega), decide_eq_false (by omega), decide_eq_false (by omega), has_cI_at Q6 (by omega)⟩)
          generalize gn TR k = j at *
          generalize cab cs j = cc at *
          obtain ⟨f, t, q2⟩ := cc
          simp only at d0 d1 d2
          have HT3 := Lib.hid (show triOf (f, t, q2) = ((f : Int), (t : Int), (q2 : Int)) from rfl)
          rw [HT3.out] at HSN
          have BN := (Below.refl wr.heap.size wr).alloc (Nat.le_refl _) (.cells #[.int .i64 (f : Int), .int .i64 (t : Int), .int .i64 (q2 : Int)] 29)
          have BW := B6.trans (BN.mono s6)
          clear hjl hkl Q6
          have finish : ∀ (g7 c7 : Nat) (w7 : World), w7.ownsRow w5.heap.size 29 3 (.slice (some ⟨g7, 0, none⟩) (k + 1) c7) (k + 1) (flatK ((cabsAt cs (TR.take k)).map triOf) ++ [.int .i64 (f : Int), .int .i64 (t : Int), .int .i64 (q2 : Int)]) → OwnK w7 w5.heap.size 29 (some ⟨g7, 0, none⟩) (k + 1) c7 ((cabsAt cs (TR.take (k + 1))).map triOf) := fun g7 c7 w7 h7 => by
            rw [HSN.out]; exact OwnK.more (x := ((f : Int), (t : Int), (q2 : Int))) h7
          have HF := Lib.hid finish
          clear finish HSN HT3
          by_cases hk0 : k = 0
          · subst hk0
            have hk0B : decide ((0 : Int) > 0) = false := rfl
            rw [Nat.add_zero] at y0
            go_wp2_with (at_builtin; refine wpList_append_lies (wr.alloc (.cells #[.int .i64 (f : Int), .int .i64 (t : Int), .int .i64 (q2 : Int)] 29)) rfl (.tmp 64) (.tmp 69) 23 rfl w5.heap.size 29 i0 (.agg #[.int .i64 0, .int .i64 0, .int .i64 0]) 3 24 Try.underlying23 hi hz0 hz1 hz2 rfl (by decide) (.slice A6 0 c6) 0 (flatK ((cabsAt cs (TR.take 0)).map triOf)) rfl (World.ownsRow.alloc O6 _) ⟨wr.heap.size, 0, none⟩ 1 1 (#[.int .i64 (f : Int), .int .i64 (t : Int), .int .i64 (q2 : Int)] : Array Value).toList rfl rfl (World.news_of_block (heap_alloc_new wr _)) (by simp [Value.oneCell']) (by decide) (by unfold maxLen; omega) (by omega) (by simp; omega) _ rfl ?_; intro g7 c7 w7 O7 G7 at7 _)
            have P7 := HF.out g7 c7 w7 O7
            have B7 := BW.trans (below_of_grown G7 BW.size (fun x hx => (World.ownsRow.lt O6 x hx).1))
            clear O7 G7 at7
            go_wp2
            go_roundw
            case rel => exact ⟨1, _, _, by omega, by go_num, rfl, P7, B7⟩
            case measure => simp [intOf]; omega
          · obtain ⟨k', rfl⟩ : ∃ k', k = k' + 1 := ⟨k - 1, by omega⟩
            obtain ⟨hprev, hprev2, hprev3, y1⟩ := HPREV.out k' rfl
            have hk0B : decide (((k' : Int) + 1) > 0) = true := decide_eq_true (by omega)
            generalize gn TR k' = j' at *
            go_wp2_with (at_builtin; refine wpList_append_lies (wr.alloc (.cells #[.int .i64 (f : Int), .int .i64 (t : Int), .int .i64 (q2 : Int)] 29)) rfl (.tmp 64) (.tmp 69) 23 rfl w5.heap.size 29 i0 (.agg #[.int .i64 0, .int .i64 0, .int .i64 0]) 3 24 Try.underlying23 hi hz0 hz1 hz2 rfl (by decide) (.slice A6 (k' + 1) c6) (k' + 1) (flatK ((cabsAt cs (TR.take (k' + 1))).map triOf)) rfl (World.ownsRow.alloc O6 _) ⟨wr.heap.size, 0, none⟩ 1 1 (#[.int .i64 (f : Int), .int .i64 (t : Int), .int .i64 (q2 : Int)] : Array Value).toList rfl rfl (World.news_of_block (heap_alloc_new wr _)) (by simp [Value.oneCell']) (by decide) (by unfold maxLen; omega) (by omega) (by simp; omega) _ rfl ?_; intro g7 c7 w7 O7 G7 at7 _)
            have P7 := HF.out g7 c7 w7 O7
            have B7 := BW.trans (below_of_grown G7 BW.size (fun x hx => (World.ownsRow.lt O6 x hx).1))
            clear O7 G7 at7
            go_wp2
            go_roundw
            case rel => exact ⟨k' + 1 + 1, _, _, by omega, by go_num, rfl, P7, B7⟩
            case measure => simp [intOf]; omega
        · have hltB : decide ((k : Int) < (n2 : Int)) = false := by simp; omega
          have hltC : decide (k < n2) = false := by simp; omega
          obtain rfl : k = n2 := by omega
          rw [List.take_of_length_le (by rw [HTL.out]; omega)] at O6
          have NS := Lib.hid (sub_net HN.out HLT.out (by rw [HTL.out]; omega))
          have K6 := O6.has
          have C6 := bel_trans C5 B6
          have H6 := H5.bel B6
          have Q6 := Q5.bel B6
          have HRA := Lib.hid (fun b (hb : b < m) => HN.out.root hb)
          have HRB := Lib.hid (show ∀ b, b < m → rootI (m : Int) ((cabsAt cs TR).map triOf) (b : Int) = (rootN m cs b : Int) from fun b hb => by rw [NS.out.root hb, ← HTR.out, tree_root HC.out hm8 hb])
          have HCO := Lib.hid (show costsI (m : Int) ((cabsAt cs TR).map triOf) = costsI (m : Int) (cs.map triOf) by rw [NS.out.costs, HN.out.costs, ← HTR.out, tree_costs HC.out hm8])
          generalize (cabsAt cs TR).map triOf = kt at *
          clear O6 B6 C5 H5 Q5 NS HASC HLT
          go_wp2
          obtain ⟨wo, rfl⟩ : ∃ wo : World, wo = wr := ⟨_, rfl⟩
          go_loopw [9, 73] (fun r t wx => ∃ b : Nat, b ≤ m ∧ t = .int .i64 (b : Int) ∧ r = .int .i64 (cnt (fun v => rootN m cs v = v) b : Int) ∧ Below wo.heap.size wo wx) (fun _ t _ => m - (intOf t).toNat)
          case atStart => exact ⟨0, Nat.zero_le _, rfl, rfl, Below.refl _ _⟩
          case round =>
            obtain ⟨b, hb, rfl, rfl, B7⟩ := hrel
            by_cases hbm : b < m
            · have hbmB : decide ((b : Int) < (m : Int)) = true := by simp; omega
              have hbmC : decide (b < m) = true := by simp; omega
              have hrr := HRA.out b hbm
              have hrs := HRB.out b hbm
              have hcb := cnt_le (fun v => rootN m cs v = v) b
              have HR1 := Lib.hid hrr
              have HR2 := Lib.hid hrs
              have hne : ((rootN m cs b : Int) != (rootN m cs b : Int)) = false := by simp
              have H7 := H6.bel B7
              by_cases hr : rootN m cs b = b
              · have hrB : ((rootN m cs b : Int) == (b : Int)) = true := by simp; omega
                have HCY := Lib.hid (cnt_yes (P := fun v => rootN m cs v = v) hr)
                generalize cnt (fun v => rootN m cs v = v) b = cb at *
                clear hr hrr hrs
                generalize rootN m cs b = rb at *
                go_wp2_with (fail)
                refine (implRootOf_w (c := c1) H7 (by omega)).mono ?_
                rintro e w8 ⟨rfl, B8⟩
                rw [HR1.out]
                have B9 := bel_trans B7 B8
                have K9 := K6.bel B9
                have H9 := H6.bel B9
                go_wp2_with (fail)
                refine (implRootOf_w K9 (by omega)).mono ?_
                rintro e w10 ⟨rfl, B10⟩
                rw [HR2.out]
                have B11 := bel_trans B9 B10
                have H11 := H6.bel B11
                go_wp2_with (fail)
                refine (implRootOf_w (c := c1) H11 (by omega)).mono ?_
                rintro e w12 ⟨rfl, B12⟩
                rw [HR1.out]
                have B13 := bel_trans B11 B12
                go_wp2
                go_roundw
                case rel => exact ⟨b + 1, by omega, by go_num, by rw [HCY.out]; first | go_num | (simp; done) | (push_cast; rfl), B13⟩
                case measure => simp [intOf]; omega
              · have hrB : ((rootN m cs b : Int) == (b : Int)) = false := by simp; omega
                have HCY := Lib.hid (cnt_no (P := fun v => rootN m cs v = v) hr)
                generalize cnt (fun v => rootN m cs v = v) b = cb at *
                clear hr hrr hrs
                generalize rootN m cs b = rb at *
                go_wp2_with (fail)
                refine (implRootOf_w (c := c1) H7 (by omega)).mono ?_
                rintro e w8 ⟨rfl, B8⟩
                rw [HR1.out]
                have B9 := bel_trans B7 B8
                have K9 := K6.bel B9
                go_wp2_with (fail)
                refine (implRootOf_w K9 (by omega)).mono ?_
                rintro e w10 ⟨rfl, B10⟩
                rw [HR2.out]
                have B11 := bel_trans B9 B10
                have H11 := H6.bel B11
                go_wp2_with (fail)
                refine (implRootOf_w (c := c1) H11 (by omega)).mono ?_
                rintro e w12 ⟨rfl, B12⟩
                rw [HR1.out]
                have B13 := bel_trans B11 B12
                go_wp2
                go_roundw
                case rel => exact ⟨b + 1, by omega, by go_num, by rw [HCY.out], B13⟩
                case measure => simp [intOf]; omega
            · have hbmB : decide ((b : Int) < (m : Int)) = false := by simp; omega
              have hbmC : decide (b < m) = false := by simp; omega
              obtain rfl : b = m := by omega
              have C7 := bel_trans C6 B7
              have hcl := cnt_le (fun v => rootN b cs v = v) b
              have hsum : k + cnt (fun v => rootN b cs v = v) b = b := by have h1 := HLEN.out; have h2 := HTL.out; omega
              have HSU := Lib.hid hsum
              generalize cnt (fun v => rootN b cs v = v) b = cb at *
              have hlB : ((k : Int) == (b : Int) - (cb : Int)) = true := by simp; omega
              clear hsum
              go_wp2_with (fail)
              refine (implCostsOf_w (K6.bel B7) (by omega)).mono ?_
              rintro e w8 ⟨A8, n8, c8, rfl, P8, B8⟩
              have C8 := bel_trans C7 B8
              rw [HCO.out] at P8
              have hl8 := P8.1
              rw [ints_length, Nat.mul_one] at hl8
              have hn8 : n8 ≤ 16777216 := by have := costsI_le (b : Int) (cs.map triOf); omega
              have H8 := (H6.bel B7).bel B8
              go_wp2_with (fail)
              refine (implCostsOf_w (c := c1) H8 (by omega)).mono ?_
              rintro e w9 ⟨A9, n9, c9, rfl, P9, B9⟩
              have C9 := bel_trans C8 B9
              go_wp2_with (fail)
              refine (wnInts_same (P8.has.bel B9) P9.has hn8).mono ?_
              rintro e w10 ⟨rfl, B10⟩
              have C10 := bel_trans C9 B10
              go_wp2
              go_ret
              exact ⟨rfl, C10⟩
    · have he : treeI (m : Int) ks = [] := by unfold treeI; rw [if_neg hv]
      have CV := Lib.hid (implCablesValid_b (c := c1) H4 (by omega) (decide_eq_false hv))
      rw [he] at hl2 Q4
      obtain rfl : n2 = 0 := by simpa using hl2.symm
      have HE := Lib.hid he
      clear hl2 he hv
      have hm0 : decide ((0 : Int) ≤ (m : Int)) = true := by simp
      go_wp2_with (fail)
      refine CV.out.mono ?_
      rintro e w5 ⟨rfl, B5⟩
      have C5 := bel_trans C4 B5
      go_wp2_with (fail)
      refine (specTreeOf_w (c := c1) (H4.bel B5) (by omega)).mono ?_
      rintro e w6 ⟨A6, n6, c6, rfl, P6, B6⟩
      rw [HE.out] at P6
      have C6 := bel_trans C5 B6
      go_wp2_with (fail)
      refine (wnInts_same ((Q4.bel B5).bel B6) P6.has hn2).mono ?_
      rintro e w7 ⟨rfl, B7⟩
      have C7 := bel_trans C6 B7
      go_wp2
      go_ret
      exact ⟨rfl, C7⟩
  · go_enter Try.func5, Try.ntmps5
    go_wp2
    go_ret
    exact ⟨rfl, Below.refl _ _⟩
set_option maxRecDepth 100000 in
theorem lifted_FnTree (os : Os) (started : os.Started) (H : Type) (enc : TypeId × Value → H) :
    ReturnsInHanded {} Try.checked os 5 .any (Rows.fnTreeSpec.pre6 enc Try.prog Try.f5 Rows.fnTreeRow.domain false) (Rows.fnTreeSpec.post enc Try.prog Try.f5 false true false false) := by
  refine returnsInHanded_of_change (C := Try.checked) (by kernel_rfl) started (by kernel_rfl) Try.func5
    (ChangeSpec.witness6 (enc := enc) (C := Try.checked) false ⟨#[], #[.slice none 0 0], []⟩ 8 (by kernel_rfl) (by kernel_rfl) (by kernel_rfl) (by kernel_rfl)) ?_
  intro W base args ds gs before hval0 hW hcnd _
  have hval : ∀ (j : Nat) t v, Try.f5.params[j]? = some t → args[j]? = some v → Value.okWide Try.prog W .any base t v := hval0
  have hW' := hW
  obtain ⟨p, q, hA0, hV, rfl, hfz, hnd⟩ := hW
  have hA : DataW.TrodAll enc Try.prog W 0 (fun _ => true) true Try.f5.params.toList args.toList ds p := hA0
  rw [Try.params5] at hA hval
  obtain ⟨v0, vs0, d0, ds0, p0, q0, hargs, rfl, rfl, h0, r0⟩ := trodAll_cons hA
  obtain ⟨rfl, rfl, rfl⟩ := trodAll_nil r0
  obtain rfl : args = #[v0] := by cases args; simp_all
  obtain ⟨rfl, rfl⟩ := trodVars_none hV
  obtain ⟨a0, len0, cap0, rfl⟩ := okWide_slice Try.underlying22 (hval 0 22 v0 rfl rfl)
  have k0 := h0
  have lt0 : ∀ x ∈ p0, x.block < W.heap.size := by obtain ⟨m, hm⟩ := k0; exact DataW.trod_lt m _ _ _ hm
  obtain ⟨z0, H0, U0, M0⟩ := has_of_trod (k := .u8) Try.underlying22 Try.underlying5 (by kernel_rfl) h0
  clear hA0 hval0
  refine (walk_FnTree H0 U0 M0).mono fun e W' ⟨he, bel⟩ => ?_
  subst he
  exact ⟨_, rfl, _, _, _, [], _, [], hW', trodAll_mk1 (shut_bool Try.underlying4 _), (trodAll_cons_mk (Below.trod (by kernel_rfl) (by kernel_rfl) (of_decide_eq_true (by kernel_rfl)) k0 bel lt0) trodAll_mk0), rfl, bel.frame _, fun h => by cases h⟩

theorem fnTree_holds : Rows.FnTreeSaid :=
  OpenClaim.holds_of_wide 5 Try.f5 rfl rfl rfl rfl rfl rfl rfl ⟨rfl, rfl, rfl, rfl, rfl⟩ rfl rfl rfl rfl rfl (by kernel_rfl) Try.func5
    (by unfold joinedFacts; with_reducible refine Bool.and_eq_true_iff.2 ⟨?_, (by as_aux_lemma => kernel_rfl)⟩; with_reducible refine Bool.and_eq_true_iff.2 ⟨?_, (by as_aux_lemma => kernel_rfl)⟩; with_reducible refine Bool.and_eq_true_iff.2 ⟨?_, (by as_aux_lemma => kernel_rfl)⟩; with_reducible refine Bool.and_eq_true_iff.2 ⟨?_, (by as_aux_lemma => kernel_rfl)⟩; with_reducible refine Bool.and_eq_true_iff.2 ⟨?_, (by with_unfolding_all exact shutMake)⟩; with_reducible refine Bool.and_eq_true_iff.2 ⟨?_, (by with_unfolding_all exact shutLifts)⟩; with_reducible refine Bool.and_eq_true_iff.2 ⟨?_, shutEnter⟩; (repeat (with_reducible refine Bool.and_eq_true_iff.2 ⟨?_, (by as_aux_lemma => kernel_rfl)⟩)); as_aux_lemma => kernel_rfl)
    (of_decide_eq_true (by kernel_rfl)) (by unfold Func.isWrapper; first | (rw [if_pos (by decide +kernel)]; kernel_rfl) | (rw [if_neg (by decide +kernel)]; exact ⟨rfl, rfl⟩))
    (fun os started H enc _ => lifted_FnTree os started H enc)
end Go.Proofs.Ytkmdpmhaljieaaa
