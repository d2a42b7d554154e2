/-
  Chapter 6's program, frames one behind another: what is proved here is what RunBridge returns, each slice in memory of its own, and that it writes nothing that was there. Condition: lengths up to 2^24.
-/
import Derived.Test.YtmnhgghnaklneaaImp6g
namespace Go.Proofs.Ytmnhgghnaklneaa
open Go.RowKit Go.Shelf

theorem set_mid {α : Type} {os : List α} {k m : Nat} {d z : α} (h : os.length = k) : (os ++ List.replicate (m + 1) d).set k z = (os ++ [z]) ++ List.replicate m d := by
  subst h
  rw [List.set_append_right _ _ (Nat.le_refl _), Nat.sub_self, List.replicate_succ, List.set_cons_zero, List.append_assoc]
  rfl
theorem runR_none_of {ports : Int} {hs : List Hop3} (h : ¬ runOk ports hs) : runR ports hs = none := by unfold runR; rw [if_neg h]

set_option maxRecDepth 100000 in
set_option maxHeartbeats 8000000 in
theorem implRunBridge_any {A : Option Addr} {n c : Nat} {ports : Int} {hs : List Hop3} {w : World} (h : HasH w A n hs) (_ : I64H hs) (hn : n ≤ 16777216) (_ : -9223372036854775808 ≤ ports ∧ ports ≤ 9223372036854775807) :
    Calls Try.prog 28 #[.int .i64 ports, .slice A n c] w fun e w' => RunRes w w' e ports hs := by
  obtain ⟨i0, hi, hz0, hz1, hz2⟩ := info_parts Try.infoSlI
  have HLN := Lib.hid h.1
  have bad : runR ports hs = none → ∀ W : World, Below w.heap.size w W → RunRes w W (.returned (.tuple #[.slice none 0 0, .slice none 0 0, .bool false])) ports hs := fun hr W hW => by
    have r1 : runT ports hs = [] := by unfold runT; rw [hr]; rfl
    have r2 : runO ports hs = [] := by unfold runO; rw [hr]; rfl
    have r3 : runB ports hs = false := by unfold runB; rw [hr]; rfl
    refine ⟨none, 0, 0, none, 0, 0, [], by rw [r3], by rw [r1]; exact World.ownsRow_nil _ _ _ _, ?_, off_nil _, hW⟩
    rw [r2]
    exact ⟨World.ownsRow_nil _ _ _ _, rfl, (fun i v zs hv _ => by simp at hv), ⟨(fun v hv => by cases hv), (fun i j vi vj _ hv => by simp at hv)⟩⟩
  have C0 := Lib.hid (implFreshTable_w w)
  have HB := Lib.hid bad
  clear bad
  by_cases hp : 1 ≤ ports ∧ ports ≤ 6
  · have ht := fresh_ok hp
    have HT := Lib.hid ht
    obtain ⟨P, rfl⟩ := Int.eq_ofNat_of_zero_le (show 0 ≤ ports by omega)
    have HP := Lib.hid hp
    clear hp
    go_enter Try.func28, Try.ntmps28
    go_wp2_with (fail)
    refine C0.out.mono ?_
    rintro e w0 ⟨A0, c0, rfl, O0, B0⟩
    have C := Lib.hid (bridgeOf_yes (c := c0) O0.has ht)
    clear ht
    go_wp2_with (fail)
    refine C.out.mono ?_
    rintro e w1 ⟨b, rfl, M1, B1⟩
    have s0 := B0.size
    have s1 := B1.size
    have hF := heap_alloc_new w1 (.cells #[.int .i64 0, .map none] 70)
    obtain ⟨k0, k1, f0, f1⟩ := two_cells hF
    clear hF
    have B2 := (B0.trans (B1.mono s0)).alloc (by omega) (.cells #[.int .i64 (P : Int), .map (some b)] 70)
    have M2 := (M1.kept (World.grownBy_alloc w1 (.cells #[.int .i64 (P : Int), .map (some b)] 70) none) (by simp)).mono s0 (Nat.le_refl _)
    have hF2 := heap_alloc_new w1 (.cells #[.int .i64 (P : Int), .map (some b)] 70)
    have s2 : (w1.alloc (.cells #[.int .i64 (P : Int), .map (some b)] 70)).heap.size = w1.heap.size + 1 := by simp
    have hbl := M1.lt
    have hbl0 := M2.1
    generalize hWW : w1.alloc (.cells #[.int .i64 (P : Int), .map (some b)] 70) = W at B2 M2 hF2 s2
    generalize hBB : w1.heap.size = BB at hF2 s2 hbl
    have hBW : BB < W.heap.size := by omega
    clear s2
    by_cases h6 : n ≤ 60
    · have h6B : decide ((n : Int) > 60) = false := by simp; omega
      have h6C : decide (60 < (n : Int)) = false := by simp; omega
      have HR := Lib.hid (show runR (P : Int) hs = runTo (P : Int) freshL hs by unfold runR; rw [if_pos ⟨HP.out, by rw [HLN.out]; exact h6⟩])
      go_wp2_with (refine wpList_make_full _ rfl _ _ 41 rfl W.heap.size 23 i0 (.slice none 0 0) 1 Try.underlying41 hi hz0 hz1 .i64 .i64 _ _ n rfl rfl rfl rfl (by rw [hz2]; omega) (by unfold maxLen; omega) (Nat.le_refl _) ?_; intro w3 hown hgrow)
      have hcap : (madeCells (Value.cells (.slice none 0 0)) (n * 1)).toList = List.replicate n (.slice none 0 0) := by
        rw [Nat.mul_one]; exact toList_madeCells_one _ _
      have hown0 : Own w3 W.heap.size 23 (some ⟨W.heap.size, 0, none⟩) n n (List.replicate n (.slice none 0 0)) := by unfold Own; rw [← hcap]; exact hown
      have hL0 := ownLI_made hown0
      have b0 : Below W.heap.size W w3 := below_of_grown hgrow (Nat.le_refl _) (fun k hk => by cases hk)
      have hF3 := (b0.block BB (by omega)).trans hF2
      have M3 := M2.bel b0
      have B3 := B2.trans (b0.mono (by omega))
      clear hown hgrow hcap hown0 k0 k1 f0 f1 hWW hF2 M2 hi hz0 hz1 hz2
      have sW0 : w.heap.size ≤ W.heap.size := B2.size
      go_loopw [30] (fun i wr => ∃ (k : Nat) (ts : List Int) (os : List (List Int)), k ≤ n ∧ i = .int .i64 (k : Int) ∧ OwnM wr w.heap.size b (15 + k) (tabF ts) ∧ OwnLI wr W.heap.size (some ⟨W.heap.size, 0, none⟩) n n (os ++ List.replicate (n - k) []) ∧ wr.heap[BB]? = some (.cells #[.int .i64 (P : Int), .map (some b)] 70 (0, 0)) ∧ Hid (tOk ts (P : Int) ∧ os.length = k ∧ runTo (P : Int) freshL (hs.take k) = some (ts, os)) ∧ Below w.heap.size w wr ∧ W.heap.size < wr.heap.size) (fun i _ => n - (intOf i).toNat)
      case atStart =>
        have s3 : W.heap.size < w3.heap.size := by obtain ⟨vs, hv⟩ := hL0; exact hv.1.block.2
        exact ⟨0, freshL, [], Nat.zero_le _, rfl, M3, by simpa using hL0, hF3, Lib.hid ⟨HT.out, rfl, rfl⟩, B3, s3⟩
      case round =>
        obtain ⟨k, ts, os, hk, rfl, M, L, hFB, HX, Bw, sW⟩ := hrel
        by_cases hlt : k < n
        · have hltB : decide ((k : Int) < (n : Int)) = true := by simp; omega
          obtain ⟨bb, o, f, t, q, rfl, hbb, hx, d0, d1, d2⟩ := (h.bel Bw).at_ hlt
          have HTK := Lib.hid (take_snoc hx)
          have HS := Lib.hid (runTo_snoc (P : Int) freshL (hs.take k) (f, t, q))
          have hH := heap_alloc_new wr (.cells #[.int .i64 f, .int .i64 t, .int .i64 q] 33)
          have BA := (Below.refl wr.heap.size wr).alloc (Nat.le_refl _) (.cells #[.int .i64 f, .int .i64 t, .int .i64 q] 33)
          have sA : (wr.alloc (.cells #[.int .i64 f, .int .i64 t, .int .i64 q] 33)).heap.size = wr.heap.size + 1 := by simp
          have hH0 := heap_alloc_new wr (.cells #[.int .i64 0, .int .i64 0, .int .i64 0] 33)
          obtain ⟨y0, y1, y2⟩ := cells3 hH0
          clear hx hH0
          generalize hWA : wr.alloc (.cells #[.int .i64 f, .int .i64 t, .int .i64 q] 33) = WA at hH BA sA
          have sA' : wr.heap.size < WA.heap.size := by omega
          clear sA
          obtain ⟨x0, x1, x2⟩ := cells3 hH
          have MA := M.bel BA
          have LA := L.bel BA
          have hFA := (BA.block BB (by omega)).trans hFB
          have swr := Bw.size
          have BwA := Bw.trans (BA.mono swr)
          have hbr := M.lt
          by_cases hf : hopOk (P : Int) (f, t, q)
          · have C1 := Lib.hid (isHop_b (b := true) WA (decide_eq_true hf))
            have hst : stepOk ts (P : Int) (f, t, q) := (stepOk_iff HX.out.1).2 hf
            obtain ⟨s, rfl⟩ := Int.eq_ofNat_of_zero_le hf.1.1
            obtain ⟨t, rfl⟩ := Int.eq_ofNat_of_zero_le hf.2.1.1
            have e3 := outs_eq hst
            have HX2 : Hid (tOk (ts.set s q) (P : Int) ∧ (os ++ [portsTo (knownAt (ts.set s q) (t : Int)) q P]).length = k + 1 ∧ runTo (P : Int) freshL (hs.take (k + 1)) = some (ts.set s q, os ++ [portsTo (knownAt (ts.set s q) (t : Int)) q P])) := by
              refine ⟨learn_ok hst.1, by simp [HX.out.2.1], ?_⟩
              rw [HTK.out]
              have := HS.out
              rw [HX.out.2.2] at this
              simp only [Option.bind_some] at this
              rw [if_pos hst] at this
              rw [this]
              unfold outsL at e3
              rw [if_pos hst] at e3
              rw [show portsL (stepT ts ((s : Int), (t : Int), q)) (P : Int) (t : Int) q = portsTo (knownAt (ts.set s q) (t : Int)) q P from e3]
              rfl
            have HH := Lib.hid hf
            have HLE := Lib.hid (set_mid (d := ([] : List Int)) (z := portsTo (knownAt (ts.set s q) (t : Int)) q P) (m := n - (k + 1)) HX.out.2.1)
            have C2 := Lib.hid (fun (W' : World) (M' : OwnM W' w.heap.size b (15 + k) (tabF ts)) => taken_any (P := P) (s := s) (t := t) (q := q) M' HX.out.1.1 (by have : 0 ≤ (s : Int) ∧ (s : Int) ≤ 14 := HH.out.1; omega) (by have : 0 ≤ (t : Int) ∧ (t : Int) ≤ 15 := HH.out.2.1; omega) (by have := HP.out; omega) (by have : 0 ≤ q ∧ q ≤ (P : Int) - 1 := HH.out.2.2; have := HP.out; omega) (by omega) (low_of HX.out.1))
            clear hf hst e3
            go_wp2_with (fail)
            refine C1.out.mono ?_
            rintro e W2 ⟨rfl, B3⟩
            have s3 := B3.size
            have M4 := MA.bel B3
            have L4 := LA.bel B3
            have hH4 := (B3.block wr.heap.size (by omega)).trans hH
            have hF4 := (B3.block BB (by omega)).trans hFA
            have B4 := BwA.trans (B3.mono BwA.size)
            clear y0 y1 y2 x0 x1 x2 d0 d1 d2
            obtain ⟨x0, x1, x2⟩ := cells3 hH4
            obtain ⟨k0, k1, _, _⟩ := two_cells hF4
            go_wp2_with (fail)
            refine (C2.out _ M4).mono ?_
            rintro e W3 ⟨w4, lb, rfl, M5, G5, C3⟩
            have D3 := Lib.hid C3
            clear C3
            go_wp2_with (fail)
            refine D3.out.mono ?_
            rintro e W5 ⟨A5, n5, c5, rfl, O5, B5⟩
            have s4 := G5.size
            have s5 := B5.size
            have L5 := L4.past (by omega) G5
            have hP := L5.put B5 (by omega) O5 hlt
            have B6 := (B4.trans (below_of_grown G5 (by omega) (fun j hj => by cases hj; exact M4.1))).trans (B5.mono (by omega))
            have M6 := (M5.bel B5).kept (cell_grown W5 W.heap.size k (.slice A5 n5 c5)) (by intro hh; injection hh with hh; omega)
            have hF6 := ((cell_grown W5 W.heap.size k (.slice A5 n5 c5)).block BB (by omega) (fun hh => by injection hh with hh; omega)).trans ((B5.block BB (by omega)).trans ((G5.block BB (by omega) (fun hh => by injection hh with hh; omega)).trans hF4))
            have B7 := B6.setCell (p := ⟨W.heap.size, k, none⟩) sW0 (.slice A5 n5 c5)
            have HP7 : Hid (OwnLI (W5.setCell ⟨W.heap.size, k, none⟩ (.slice A5 n5 c5)) W.heap.size (some ⟨W.heap.size, 0, none⟩) n n ((os ++ [portsTo (knownAt (ts.set s q) (t : Int)) q P]) ++ List.replicate (n - (k + 1)) [])) := by
              rw [← HLE.out, show n - (k + 1) + 1 = n - k by omega]; exact hP
            obtain ⟨vs, hv⟩ := L5.bel B5
            obtain ⟨u, hu, hd, hfz⟩ := hv.1.at_ hlt
            clear hu hv x0 x1 x2 k0 k1 hP
            go_wp2
            trace_state
            go_roundw
            case rel => exact ⟨k + 1, _, _, by omega, by go_num, M6, HP7.out, hF6, HX2, B7, by simp; omega⟩
            case measure => simp [intOf]; omega
          · have C1 := Lib.hid (isHop_b (b := false) WA (decide_eq_false hf))
            have hst : ¬ stepOk ts (P : Int) (f, t, q) := fun hh => hf ((stepOk_iff HX.out.1).1 hh)
            have hnone : runR (P : Int) hs = none := by
              rw [HR.out]
              apply runTo_none (k := k + 1)
              rw [HTK.out, HS.out, HX.out.2.2]
              simp only [Option.bind_some]
              rw [if_neg hst]
            have HZ := Lib.hid (HB.out hnone)
            clear hf hst hnone
            go_wp2_with (fail)
            refine C1.out.mono ?_
            rintro e W2 ⟨rfl, B3⟩
            go_wp2
            refine bodyPost_ret (results_tmp3 rfl _ _ _) rfl ?_
            exact HZ.out _ (BwA.trans (B3.mono BwA.size))
        · have hltB : decide ((k : Int) < (n : Int)) = false := by simp; omega
          obtain rfl : k = n := by omega
          have hX := HX.out.2.2
          rw [List.take_of_length_le (by rw [HLN.out]; omega), ← HR.out] at hX
          have r1 : runT (P : Int) hs = ts := by unfold runT; rw [hX]; rfl
          have r2 : runO (P : Int) hs = os := by unfold runO; rw [hX]; rfl
          have r3 : runB (P : Int) hs = true := by unfold runB; rw [hX]; rfl
          have HR1 := Lib.hid r1
          have HR2 := Lib.hid r2
          have HR3 := Lib.hid r3
          rw [Nat.sub_self, List.replicate_zero, List.append_nil] at L
          have C4 := Lib.hid (table_any (ports := (P : Int)) M)
          rw [tabL_tabF HX.out.1.1] at C4
          obtain ⟨vs, hv⟩ := L
          clear hX r1 r2 r3
          obtain ⟨k0, k1, _, _⟩ := two_cells hFB
          go_wp2_with (fail)
          refine C4.out.mono ?_
          rintro e W6 ⟨A6, c6, rfl, O6, B6⟩
          have s6 := Bw.size
          go_wp2
          refine bodyPost_ret (results_tmp3 rfl _ _ _) rfl ?_
          refine ⟨_, _, _, _, _, _, vs, ret_three HR3.out.symm, by rw [HR1.out]; exact O6.mono s6, by rw [HR2.out]; exact (hv.bel B6).mono (by omega), fun v hvm bq hq ad ha => ?_, Bw.trans (B6.mono s6)⟩
          have h1 := (hv.inner v hvm bq hq).2
          subst ha
          have h2 := O6.block.1
          omega
    · have h6B : decide ((n : Int) > 60) = true := by simp; omega
      have h6C : decide (60 < (n : Int)) = true := by simp; omega
      have HZ := Lib.hid (HB.out (runR_none_of (fun hh => h6 (by have := hh.2; rw [HLN.out] at this; exact this))))
      clear h6
      go_wp2
      refine bodyPost_ret (results_tmp3 rfl _ _ _) rfl ?_
      exact HZ.out _ B2
  · have HZ := Lib.hid (HB.out (runR_none_of (fun hh => hp hh.1)))
    have hno : ¬ tOk freshL ports := fun hg => hp hg.2.1
    clear hp
    go_enter Try.func28, Try.ntmps28
    go_wp2_with (fail)
    refine C0.out.mono ?_
    rintro e w0 ⟨A0, c0, rfl, O0, B0⟩
    have C := Lib.hid (bridgeOf_no (c := c0) O0.has (by decide) hno)
    clear hno
    go_wp2_with (fail)
    refine C.out.mono ?_
    rintro e w1 ⟨rfl, B1⟩
    have hF := heap_alloc_new w1 (.cells #[.int .i64 0, .map none] 70)
    obtain ⟨k0, k1, f0, f1⟩ := two_cells hF
    clear hF
    go_wp2
    refine bodyPost_ret (results_tmp3 rfl _ _ _) rfl ?_
    have s0 := B0.size
    have s1 := B1.size
    exact HZ.out _ ((B0.trans (B1.mono s0)).alloc (by omega) _)
end Go.Proofs.Ytmnhgghnaklneaa
