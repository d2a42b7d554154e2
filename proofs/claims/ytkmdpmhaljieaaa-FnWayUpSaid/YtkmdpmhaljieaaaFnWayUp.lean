/-
  FnWayUp: for every slice of bytes the law returns true and writes nothing that was there. No condition.
-/
import Derived.Test.YtkmdpmhaljieaaaTreeB
import Derived.Test.YtkmdpmhaljieaaaShut
import Derived.Lib.QuietBelow
namespace Go.Proofs.Ytkmdpmhaljieaaa
open Go.RowKit Go.ChangeShapes Go.WideShapes Go.ChangeAt

theorem wayI_yes {m : Nat} {ks : List Tri} {x : Int} (h : (wayI (m : Int) ks x).length ≠ 0) : ∃ cs xb, Net7 (m : Int) ks m cs ∧ x = ((xb : Nat) : Int) ∧ xb < m ∧ wayI (m : Int) ks x = intsOf (wayN m cs xb) := by
  unfold wayI at h ⊢
  split at h
  · rename_i hv
    have N := kOk_yes hv.1
    rw [Int.toNat_natCast] at N
    obtain ⟨xb, rfl⟩ := Int.eq_ofNat_of_zero_le hv.2.1
    exact ⟨_, xb, N, rfl, by omega, by rw [if_pos hv]; rfl⟩
  · exact (h rfl).elim
theorem gn_get {l : List Nat} {i : Nat} (h : i < l.length) : l[i]? = some (gn l i) := by
  simp [gn, List.getD_eq_getElem?_getD, h]
theorem bool7 : ∀ (f b1 b2 b3 b4 : Bool), (f = true) ∨ (f = false ∧ b1 = false) ∨ (f = false ∧ b1 = true ∧ b2 = true ∧ b4 = true) ∨ (f = false ∧ b1 = true ∧ b2 = true ∧ b4 = false) ∨ (f = false ∧ b1 = true ∧ b2 = false ∧ b3 = true ∧ b4 = true) ∨ (f = false ∧ b1 = true ∧ b2 = false ∧ b3 = true ∧ b4 = false) ∨ (f = false ∧ b1 = true ∧ b2 = false ∧ b3 = false) := by
  intro f b1 b2 b3 b4; cases f <;> cases b1 <;> cases b2 <;> cases b3 <;> cases b4 <;> simp
/-- What a way up holds, step by step. -/
theorem way_steps {m : Nat} {cs : List Cab} (hc : cabsOk m cs) (h8 : m ≤ 8) {b : Nat} (hb : b < m) : (∀ i, i < (wayN m cs b).length → gn (wayN m cs b) i < m) ∧ gn (wayN m cs b) 0 = b ∧ 0 < (wayN m cs b).length ∧ (∀ n', (wayN m cs b).length = n' + 1 → gn (wayN m cs b) n' = rootN m cs b) ∧
    ∀ i, i + 1 < (wayN m cs b).length → ∃ j, j ∈ treeN m cs ∧ (cab cs j).1 + (cab cs j).2.1 = gn (wayN m cs b) i + gn (wayN m cs b) (i + 1) ∧ ((cab cs j).1 = gn (wayN m cs b) (i + 1) ∨ (cab cs j).2.1 = gn (wayN m cs b) (i + 1)) ∧ gn (costsN m cs) (gn (wayN m cs b) (i + 1)) + (cab cs j).2.2 = gn (costsN m cs) (gn (wayN m cs b) i) := by
  obtain ⟨h1, h2, h3⟩ := wayF_good hc h8 (gn (costsN m cs) b) b hb (Nat.le_refl _)
  obtain ⟨l, hl⟩ := wayF_head cs (costsN m cs) (gn (costsN m cs) b) b
  refine ⟨fun i hi => h1 _ (gn_mem hi), by unfold wayN; rw [hl]; rfl, by unfold wayN; rw [hl]; simp, fun n' hn' => ?_, fun i hi => ?_⟩
  · have hg := gn_get (l := wayN m cs b) (i := n') (by omega)
    have h4 : (wayN m cs b).getLast? = some (rootN m cs b) := h2
    rw [List.getLast?_eq_getElem?, hn', Nat.add_sub_cancel, hg] at h4
    injection h4
  · obtain ⟨j, hu, ho⟩ := h3 i _ _ (gn_get (l := wayN m cs b) (by omega)) (gn_get (l := wayN m cs b) hi)
    obtain ⟨o', ho', _, hco, _⟩ := up_edge hc hu
    have ho'' : otherN (cab cs j) (gn (wayN m cs b) i) = some o' := ho'
    rw [show otherN (cab cs j) (gn (wayN m cs b) i) = some (gn (wayN m cs b) (i + 1)) from ho] at ho''
    injection ho'' with ho''
    subst ho''
    obtain ⟨s1, s2⟩ := other_sum ho
    exact ⟨j, treeN_mem.2 ⟨_, h1 _ (gn_mem (l := wayN m cs b) (i := i) (by omega)), hu⟩, s1, s2, hco⟩
theorem drop_gn {l : List Nat} {i : Nat} (h : i < l.length) : l.drop i = gn l i :: l.drop (i + 1) := by
  rw [List.drop_eq_getElem_cons h]; simp [gn, List.getD_eq_getElem?_getD, h]

set_option maxHeartbeats 32000000 in
set_option maxRecDepth 100000 in
theorem walk_FnWayUp {A0 : Option Addr} {n0 c0 : Nat} {zs0 : List Int} {w : World} (h0 : Has w A0 n0 (ints .u8 zs0)) (hwf0 : ∀ z ∈ zs0, (Lit.int .u8 z).wf = true) (hc0 : n0 ≤ c0 ∧ c0 ≤ maxLen) :
    Calls Try.prog 10 #[.slice A0 n0 c0] w fun e w' => e = .returned (.bool true) ∧ Below w.heap.size w w' := by
  have hu0 : U8s zs0 := fun z hz => u8_of_wf (hwf0 z hz)
  clear hwf0
  by_cases hn0 : n0 ≤ 1048576
  · go_enter Try.func10, Try.ntmps10
    go_wp2_with (fail)
    refine (drawWayUp_any h0 hu0 hc0).mono ?_
    rintro e w1 h
    unfold CabX at h
    obtain ⟨m, x, A1, n1, c1, ks, rfl, O1, T1, hn1, hm9, hxb, B1⟩ := h
    have H1 := O1.has
    have hw1000 := wayI_le (m : Int) ks x
    clear O1 T1
    go_wp2_with (fail)
    refine (implWayUp_w H1 (by omega)).mono ?_
    rintro e w2 ⟨A2, n2, c2, rfl, P2, B2⟩
    have C2 := bel_trans B1 B2
    have H2 := H1.bel B2
    go_wp2_with (fail)
    refine (specWayUp_w H2 (by omega)).mono ?_
    rintro e w3 ⟨A3, n3, c3, rfl, P3, B3⟩
    have C3 := bel_trans C2 B3
    have H3 := H2.bel B3
    have Q3 := P2.has.bel B3
    have hl2 := Q3.1
    rw [ints_length] at hl2
    have hn2 : n2 ≤ 16777216 := by omega
    go_wp2_with (fail)
    refine (wnInts_same Q3 P3.has hn2).mono ?_
    rintro e w4 ⟨rfl, B4⟩
    have C4 := bel_trans C3 B4
    have H4 := H3.bel B4
    have Q4 := Q3.bel B4
    clear P2 P3 B1 B2 B3 B4 H1 H2 H3 C2 C3 Q3
    by_cases hz : n2 = 0
    · subst hz
      have hnzB : ((0 : Int) == 0) = true := rfl
      clear hl2
      go_wp2_with (fail)
      refine (specWayUp_w H4 (by omega)).mono ?_
      rintro e w5 ⟨A5, n5, c5, rfl, P5, B5⟩
      have C5 := bel_trans C4 B5
      go_wp2_with (fail)
      refine (wnInts_same (Q4.bel B5) P5.has hn2).mono ?_
      rintro e w6 ⟨rfl, B6⟩
      have C6 := bel_trans C5 B6
      go_wp2
      go_ret
      exact ⟨rfl, C6⟩
    · have hnzB : ((n2 : Int) == 0) = false := by simp; omega
      obtain ⟨cs, xb, N, rfl, hxm, hA⟩ := wayI_yes (by rw [hl2]; exact hz)
      rw [hA] at Q4 hl2 hw1000
      rw [intsOf_len] at hl2 hw1000
      have hm8 := N.le
      have hp0 := N.pos
      have HN := Lib.hid N
      have HC := Lib.hid N.ok
      have HL := Lib.hid (show cs.length = n1 by have := H4.1; rw [N.ks_eq, List.length_map] at this; exact this)
      obtain ⟨s1, s2, s3, s4, s5⟩ := way_steps N.ok N.le hxm
      obtain ⟨WL, hWL⟩ : ∃ l, wayN m cs xb = l := ⟨_, rfl⟩
      rw [hWL] at s1 s2 s3 s4 s5 Q4 hl2 hw1000
      have HS1 := Lib.hid s1
      have HS2 := Lib.hid s2
      have HS4 := Lib.hid s4
      have HS5 := Lib.hid s5
      have HWLn := Lib.hid hl2
      have HQ : Has w4 A2 n2 (cI WL) := Q4
      clear s1 s2 s4 s5 Q4 hWL hA hl2 hz hxb
      obtain rfl := N.ks_eq
      clear N
      have hn1000 : n2 ≤ 1000 := by have := HWLn.out; omega
      have hn2p : 0 < n2 := by have := HWLn.out; omega
      clear hw1000 s3
      go_wp2_with (fail)
      refine (implCostsOf_w H4 (by omega)).mono ?_
      rintro e w5 ⟨A5, n5, c5, rfl, P5, B5⟩
      rw [HN.out.costs] at P5
      have C5 := bel_trans C4 B5
      have H5 := H4.bel B5
      have Q5 := HQ.bel B5
      go_wp2_with (fail)
      refine (implTreeOf_w H5 (by omega)).mono ?_
      rintro e w6 ⟨A6, n6, c6, rfl, P6, B6⟩
      rw [HN.out.tree] at P6
      have C6 := bel_trans C5 B6
      have H6 := H5.bel B6
      have Q6 := Q5.bel B6
      have K6 : Has w6 A5 n5 (cI (costsN m cs)) := P5.has.bel B6
      have R6 : Has w6 A6 n6 (cI (treeN m cs)) := P6.has
      obtain rfl : n5 = m := by have := K6.1; rw [cI_len, costs_len] at this; exact this.symm
      have hTL := R6.1
      rw [cI_len] at hTL
      have HTL := Lib.hid hTL
      have hn68 : n6 ≤ 8 := by have h2 := treeN_len_le n5 cs; omega
      have HLT := Lib.hid (show ∀ j ∈ treeN n5 cs, j < cs.length from treeN_lt)
      clear P5 P6 B5 B6 H4 H5 HQ Q5 C4 C5 hTL
      obtain ⟨bw, ow, rfl, _, _⟩ := has_cI Q6 hn2p
      obtain ⟨bk, ok, rfl, _, _⟩ := has_cI K6 (show 0 < n5 by omega)
      generalize treeN n5 cs = TR at *
      go_wp2
      go_loopw [9] (fun v wx => ∃ i : Nat, i + 1 ≤ n2 ∧ v = .int .i64 ((i + 1 : Nat) : Int) ∧ Below w6.heap.size w6 wx) (fun v _ => n2 - (intOf v).toNat)
      case atStart => exact ⟨0, by omega, rfl, Below.refl _ _⟩
      case round =>
        obtain ⟨i, hi, rfl, B7⟩ := hrel
        have s7 := B7.size
        by_cases hlt : i + 1 < n2
        · have hltB : decide ((i : Int) + 1 < (n2 : Int)) = true := decide_eq_true (by omega)
          have hltC : decide (((i + 1 : Nat) : Int) < (n2 : Int)) = true := decide_eq_true (by omega)
          have hltD : decide (i + 1 < n2) = true := decide_eq_true hlt
          obtain ⟨j, hj, hj1, hj2, hj3⟩ := HS5.out i (by rw [HWLn.out]; exact hlt)
          have HJ := Lib.hid (And.intro hj1 (And.intro hj2 hj3))
          have HJ0 : Hid (j ∈ TR.drop 0) := hj
          have hxm2 := HS1.out i (by rw [HWLn.out]; omega)
          have hym2 := HS1.out (i + 1) (by rw [HWLn.out]; exact hlt)
          clear hj hj1 hj2 hj3
          obtain ⟨wo, hwo⟩ : ∃ wo : World, wo = wr := ⟨_, rfl⟩
          rw [← hwo] at B7 s7
          subst hwo
          have H7 := H6.bel B7
          have Q7 := Q6.bel B7
          have K7 := K6.bel B7
          have R7 := R6.bel B7
          go_wp2
          go_loopw [10, 59] (fun f t wx => ∃ (q : Nat) (fb : Bool), q ≤ n6 ∧ t = .int .i64 (q : Int) ∧ f = .bool fb ∧ Hid (fb = true ∨ j ∈ TR.drop q) ∧ Below wo.heap.size wo wx) (fun _ t _ => n6 - (intOf t).toNat)
          case atStart => exact ⟨0, false, Nat.zero_le _, rfl, rfl, Or.inr HJ0.out, Below.refl _ _⟩
          case round =>
            obtain ⟨q, fb, hq, rfl, rfl, HF, B8⟩ := hrel
            have s8 := B8.size
            by_cases hlt2 : q < n6
            · have hlt2B : decide ((q : Int) < (n6 : Int)) = true := by simp; omega
              have hlt2C : decide (q < n6) = true := by simp; omega
              obtain ⟨bt, ot, rfl, _, t0⟩ := has_cI (R7.bel B8) hlt2
              have hql : q < TR.length := by have := HTL.out; omega
              have hjl := HLT.out _ (gn_mem hql)
              have hjn : gn TR q < n1 := by rw [← HL.out]; exact hjl
              have hok := HC.out _ (cab_mem hjl)
              obtain ⟨bb, o, rfl, hbl, d0, d1, d2⟩ := (H7.bel B8).cab7 hjn
              have y0 := has_cI_at (Q7.bel B8) (show i < n2 by omega)
              have y1 := has_cI_at (Q7.bel B8) hlt
              have k0 := has_cI_at (K7.bel B8) hxm2
              have k1 := has_cI_at (K7.bel B8) hym2
              have f1 := cost_le HC.out hxm2
              have f2 := cost_le HC.out hym2
              have HSTEP := Lib.hid (show (fb || ((((cab cs (gn TR q)).1 : Int) + ((cab cs (gn TR q)).2.1 : Int) == (gn WL i : Int) + (gn WL (i + 1) : Int)) && ((((cab cs (gn TR q)).1 : Int) == (gn WL (i + 1) : Int)) || (((cab cs (gn TR q)).2.1 : Int) == (gn WL (i + 1) : Int))) && ((gn (costsN n5 cs) (gn WL (i + 1)) : Int) + ((cab cs (gn TR q)).2.2 : Int) == (gn (costsN n5 cs) (gn WL i) : Int)))) = true ∨ j ∈ TR.drop (q + 1) from by
                rcases HF.out with h | h
                · left; rw [h]; rfl
                · rw [drop_gn hql] at h
                  rcases List.mem_cons.1 h with h | h
                  · left
                    subst h
                    obtain ⟨g1, g2, g3⟩ := HJ.out
                    rw [Bool.or_eq_true]; right
                    rw [Bool.and_eq_true, Bool.and_eq_true]
                    refine ⟨⟨by rw [beq_iff_eq]; omega, ?_⟩, by rw [beq_iff_eq]; omega⟩
                    rw [Bool.or_eq_true]
                    rcases g2 with g2 | g2
                    · left; rw [beq_iff_eq]; omega
                    · right; rw [beq_iff_eq]; omega
                  · exact Or.inr h)
              have c1 := hok.1
              have c2 := hok.2.1
              have c3 : (cab cs (gn TR q)).2.2 ≤ 99 := hok.2.2.2.2
              clear hok hjl hql HF
              generalize gn TR q = jj at *
              generalize cab cs jj = cc at *
              obtain ⟨ca, cb, cq⟩ := cc
              simp only at d0 d1 d2 c1 c2 c3 HSTEP
              generalize gn (costsN n5 cs) (gn WL i) = kx at *
              generalize gn (costsN n5 cs) (gn WL (i + 1)) = ky at *
              generalize gn WL i = xv at *
              generalize gn WL (i + 1) = yv at *
              obtain ⟨ai, hai⟩ : ∃ v : Int, (ca : Int) = v := ⟨_, rfl⟩
              obtain ⟨bi, hbi⟩ : ∃ v : Int, (cb : Int) = v := ⟨_, rfl⟩
              obtain ⟨qi, hqi⟩ : ∃ v : Int, (cq : Int) = v := ⟨_, rfl⟩
              obtain ⟨kxi, hkx⟩ : ∃ v : Int, (kx : Int) = v := ⟨_, rfl⟩
              obtain ⟨kyi, hky⟩ : ∃ v : Int, (ky : Int) = v := ⟨_, rfl⟩
              rw [hai] at d0 HSTEP
              rw [hbi] at d1 HSTEP
              rw [hqi] at d2 HSTEP
              rw [hkx] at k0 HSTEP
              rw [hky] at k1 HSTEP
              have HW1 := Lib.hid (show IntKind.i64.wrap (ai + bi) = ai + bi from IntWalk.i64_in _ (by omega))
              have HW2 := Lib.hid (show IntKind.i64.wrap ((xv : Int) + (yv : Int)) = (xv : Int) + (yv : Int) from IntWalk.i64_in _ (by omega))
              have HW3 := Lib.hid (show IntKind.i64.wrap (kyi + qi) = kyi + qi from IntWalk.i64_in _ (by omega))
              have HW4 := Lib.hid (show IntKind.i64.wrap ((i : Int) + 1 - 1) = (i : Int) from by rw [Int.add_sub_cancel]; exact IntWalk.i64_in _ (by omega))
              have HW5 := Lib.hid (show IntKind.i64.wrap (i : Int) = (i : Int) from IntWalk.i64_in _ (by omega))
              have HI := Lib.hid (show ((i : Int) + 1).toNat = i + 1 ∧ (0 : Int) ≤ (i : Int) + 1 ∧ (i : Int) + 1 < (n2 : Int) ∧ (i : Int) < (n2 : Int) from ⟨by omega, by omega, by omega, by omega⟩)
              obtain ⟨b1, hb1⟩ : ∃ v : Bool, (ai + bi == (xv : Int) + (yv : Int)) = v := ⟨_, rfl⟩
              obtain ⟨b2, hb2⟩ : ∃ v : Bool, (ai == (yv : Int)) = v := ⟨_, rfl⟩
              obtain ⟨b3, hb3⟩ : ∃ v : Bool, (bi == (yv : Int)) = v := ⟨_, rfl⟩
              obtain ⟨b4, hb4⟩ : ∃ v : Bool, (kyi + qi == kxi) = v := ⟨_, rfl⟩
              rw [hb1, hb2, hb3, hb4] at HSTEP
              clear hai hbi hqi hkx hky f1 f2 c1 c2 c3
              have hHn := heap_alloc_new wr (.cells #[.int .i64 ai, .int .i64 bi, .int .i64 qi] 29)
              have BA := (Below.refl wr.heap.size wr).alloc (Nat.le_refl _) (.cells #[.int .i64 ai, .int .i64 bi, .int .i64 qi] 29)
              have lt1 : bw < wr.heap.size := World.block_lt_of_cell? wr _ y0
              have lt2 : bk < wr.heap.size := World.block_lt_of_cell? wr _ k0
              generalize hWA : wr.alloc (.cells #[.int .i64 ai, .int .i64 bi, .int .i64 qi] 29) = WA at hHn BA
              obtain ⟨x0, x1, x2⟩ := cells3K hHn
              have BwA := bel_trans B8 BA
              have y0 := (BA.cell (p := ⟨bw, ow + i, none⟩) lt1).trans y0
              have y1 := (BA.cell (p := ⟨bw, ow + (i + 1), none⟩) lt1).trans y1
              have k0 := (BA.cell (p := ⟨bk, ok + xv, none⟩) lt2).trans k0
              have k1 := (BA.cell (p := ⟨bk, ok + yv, none⟩) lt2).trans k1
              clear hHn
              rcases bool7 fb b1 b2 b3 b4 with rfl | ⟨rfl, rfl⟩ | ⟨rfl, rfl, rfl, rfl⟩ | ⟨rfl, rfl, rfl, rfl⟩ | ⟨rfl, rfl, rfl, rfl, rfl⟩ | ⟨rfl, rfl, rfl, rfl, rfl⟩ | ⟨rfl, rfl, rfl, rfl⟩
              all_goals
                go_upto_region 17 with fail
                clear d0 d1 d2 t0
                have W1 := HW1.out
                have W2 := HW2.out
                have W3 := HW3.out
                have W4 := HW4.out
                have W5 := HW5.out
                obtain ⟨I1, I2, I3, I4⟩ := HI.out
                go_quiet (fail)
                clear W1 W2 W3 W4 W5 I1 I2 I3 I4
                have B9 := BwA.trans (below_drewN (B := wo.heap.size) WA nq)
                go_wp2
                go_roundw
              all_goals first
                | exact ⟨q + 1, _, by omega, by go_num, rfl, (by have h9 := HSTEP.out; first | exact Or.inl rfl | exact Or.inr (by simpa using h9)), B9⟩
                | (simp [intOf]; omega)
            · have hlt2B : decide ((q : Int) < (n6 : Int)) = false := by simp; omega
              have hlt2C : decide (q < n6) = false := by simp; omega
              obtain rfl : fb = true := by
                rcases HF.out with h | h
                · exact h
                · rw [List.drop_of_length_le (by rw [HTL.out]; omega)] at h; cases h
              have B9 := B7.trans (B8.mono s7)
              go_wp2
              go_roundw
              case rel => exact ⟨i + 1, by omega, by go_num, B9⟩
              case measure => simp [intOf]; omega
        · have hltB : decide ((i : Int) + 1 < (n2 : Int)) = false := decide_eq_false (by omega)
          have hltC : decide (((i + 1 : Nat) : Int) < (n2 : Int)) = false := decide_eq_false (by omega)
          have hltD : decide (i + 1 < n2) = false := decide_eq_false hlt
          obtain rfl : n2 = i + 1 := by omega
          have Q7 := Q6.bel B7
          have H7 := H6.bel B7
          have C7 := bel_trans C6 B7
          have y0 := has_cI_at Q7 (show 0 < i + 1 by omega)
          have y1 := has_cI_at Q7 (show i < i + 1 by omega)
          rw [HS2.out, Nat.add_zero] at y0
          rw [HS4.out i HWLn.out] at y1
          have HR1 := Lib.hid (HN.out.root hxm)
          have r0 := cell_regrown y0
          have r1 := cell_regrown y1
          have cR : ∀ d os, Calls Try.prog 20 #[.int .i64 (n5 : Int), .slice A1 n1 c1, .int .i64 (xb : Int)] (Go.Sort.grow (redrawn wr d) os) fun e w'' => e = .returned (.int .i64 (rootN n5 cs xb : Int)) ∧ ∃ p : Regrown, w'' = Go.Sort.grow (redrawn wr p.d) p.os := fun d os => by
            have h1 := implRootOf_w (c := c1) (nz := (n5 : Int)) (b := (xb : Int)) (H7.bel (below_regrown wr d os)) (by omega)
            rw [HR1.out] at h1
            exact Calls.regrown_of h1
          generalize rootN n5 cs xb = rb at *
          have e1 : ((xb : Int) == (xb : Int)) = true := by simp
          have e2 : ((rb : Int) == (rb : Int)) = true := by simp
          have W4 : IntKind.i64.wrap ((i : Int) + 1 - 1) = (i : Int) := by rw [Int.add_sub_cancel]; exact IntWalk.i64_in _ (by omega)
          have W5 : IntKind.i64.wrap (i : Int) = (i : Int) := IntWalk.i64_in _ (by omega)
          have HW4 := Lib.hid W4
          have HW5 := Lib.hid W5
          clear W4 W5 y0 y1
          have I3 : (i : Int) < (i : Int) + 1 := by omega
          have I4 : (0 : Int) < (i : Int) + 1 := by omega
          go_wp2
          have W4 := HW4.out
          have W5 := HW5.out
          refine wp_region_quiet_below (by kernel_rfl) (by kernel_rfl) ?_
          repeat (quiet_step (first | exact cR _ _))
          refine wpQuiet_nil ?_
          intro _ hw'
          obtain ⟨⟨dq, osq⟩, hw''⟩ := hw'
          subst hw''
          clear W4 W5
          have C8 := bel_trans C7 (below_regrown wr dq osq)
          go_wp2
          go_ret
          exact ⟨rfl, C8⟩
  · go_enter Try.func10, Try.ntmps10
    go_wp2
    go_ret
    exact ⟨rfl, Below.refl _ _⟩
set_option maxRecDepth 100000 in
theorem lifted_FnWayUp (os : Os) (started : os.Started) (H : Type) (enc : TypeId × Value → H) :
    ReturnsInHanded {} Try.checked os 10 .any (Rows.fnWayUpSpec.pre6 enc Try.prog Try.f10 Rows.fnWayUpRow.domain false) (Rows.fnWayUpSpec.post enc Try.prog Try.f10 false true false false) := by
  refine returnsInHanded_of_change (C := Try.checked) (by kernel_rfl) started (by kernel_rfl) Try.func10
    (ChangeSpec.witness6 (enc := enc) (C := Try.checked) false ⟨#[], #[.slice none 0 0], []⟩ 8 (by kernel_rfl) (by kernel_rfl) (by kernel_rfl) (by kernel_rfl)) ?_
  intro W base args ds gs before hval0 hW hcnd _
  have hval : ∀ (j : Nat) t v, Try.f10.params[j]? = some t → args[j]? = some v → Value.okWide Try.prog W .any base t v := hval0
  have hW' := hW
  obtain ⟨p, q, hA0, hV, rfl, hfz, hnd⟩ := hW
  have hA : DataW.TrodAll enc Try.prog W 0 (fun _ => true) true Try.f10.params.toList args.toList ds p := hA0
  rw [Try.params10] at hA hval
  obtain ⟨v0, vs0, d0, ds0, p0, q0, hargs, rfl, rfl, h0, r0⟩ := trodAll_cons hA
  obtain ⟨rfl, rfl, rfl⟩ := trodAll_nil r0
  obtain rfl : args = #[v0] := by cases args; simp_all
  obtain ⟨rfl, rfl⟩ := trodVars_none hV
  obtain ⟨a0, len0, cap0, rfl⟩ := okWide_slice Try.underlying22 (hval 0 22 v0 rfl rfl)
  have k0 := h0
  have lt0 : ∀ x ∈ p0, x.block < W.heap.size := by obtain ⟨m, hm⟩ := k0; exact DataW.trod_lt m _ _ _ hm
  obtain ⟨z0, H0, U0, M0⟩ := has_of_trod (k := .u8) Try.underlying22 Try.underlying5 (by kernel_rfl) h0
  clear hA0 hval0
  refine (walk_FnWayUp H0 U0 M0).mono fun e W' ⟨he, bel⟩ => ?_
  subst he
  exact ⟨_, rfl, _, _, _, [], _, [], hW', trodAll_mk1 (shut_bool Try.underlying4 _), (trodAll_cons_mk (Below.trod (by kernel_rfl) (by kernel_rfl) (of_decide_eq_true (by kernel_rfl)) k0 bel lt0) trodAll_mk0), rfl, bel.frame _, fun h => by cases h⟩

theorem fnWayUp_holds : Rows.FnWayUpSaid :=
  OpenClaim.holds_of_wide 10 Try.f10 rfl rfl rfl rfl rfl rfl rfl ⟨rfl, rfl, rfl, rfl, rfl⟩ rfl rfl rfl rfl rfl (by kernel_rfl) Try.func10
    (by unfold joinedFacts; with_reducible refine Bool.and_eq_true_iff.2 ⟨?_, (by as_aux_lemma => kernel_rfl)⟩; with_reducible refine Bool.and_eq_true_iff.2 ⟨?_, (by as_aux_lemma => kernel_rfl)⟩; with_reducible refine Bool.and_eq_true_iff.2 ⟨?_, (by as_aux_lemma => kernel_rfl)⟩; with_reducible refine Bool.and_eq_true_iff.2 ⟨?_, (by as_aux_lemma => kernel_rfl)⟩; with_reducible refine Bool.and_eq_true_iff.2 ⟨?_, (by with_unfolding_all exact shutMake)⟩; with_reducible refine Bool.and_eq_true_iff.2 ⟨?_, (by with_unfolding_all exact shutLifts)⟩; with_reducible refine Bool.and_eq_true_iff.2 ⟨?_, shutEnter⟩; (repeat (with_reducible refine Bool.and_eq_true_iff.2 ⟨?_, (by as_aux_lemma => kernel_rfl)⟩)); as_aux_lemma => kernel_rfl)
    (of_decide_eq_true (by kernel_rfl)) (by unfold Func.isWrapper; first | (rw [if_pos (by decide +kernel)]; kernel_rfl) | (rw [if_neg (by decide +kernel)]; exact ⟨rfl, rfl⟩))
    (fun os started H enc _ => lifted_FnWayUp os started H enc)
end Go.Proofs.Ytkmdpmhaljieaaa
