/-
  Chapter 13's program: what is proved here is what RunCredits and CreditSlots return, and that they write nothing that was there. Condition: lengths up to 2^24.
-/
import Derived.Test.YtkdjcfejkgpplaaImp13d
namespace Go.Proofs.Ytkdjcfejkgpplaa
open Go.RowKit

/-- How many slots there were. -/
def driveSlots (w : World) (r : Nat) : Nat := match w.cell? ⟨r, 8, none⟩ with
  | some (.int _ z) => z.toNat
  | _ => 0
theorem driveSlots_cell {w : World} {r t : Nat} (h : w.cell? ⟨r, 8, none⟩ = some (.int .i64 (t : Int))) : driveSlots w r = t := by unfold driveSlots; rw [h]; simp
theorem ret_crt13 {s k m t : Int} {f ok ok' : Bool} {r : CR} (e1 : s = r.s) (e2 : k = r.k) (e3 : m = r.m) (e4 : t = r.t) (e5 : f = r.f) (e6 : ok = ok') : Ending.returned (.tuple #[.agg #[.int .i64 s, .int .i64 k, .int .i64 m, .int .i64 t, .bool f], .bool ok]) = .returned (.tuple #[crV r, .bool ok']) := by unfold crV; rw [e1, e2, e3, e4, e5, e6]

set_option maxRecDepth 100000 in
set_option maxHeartbeats 8000000 in
theorem implRunCredits_any {D : Option Addr} {q e : Nat} {ds : List Int} {a d m sl : Int} {w : World} {R : CR} {ok : Bool} (hD : Has w D q (ints .i64 ds)) (hn : q ≤ 16777216) (hR : credI a d m ds sl = R) (hok : decide (credOk a d m ds sl) = ok) :
    Calls Try.prog 14 #[.int .i64 a, .int .i64 d, .int .i64 m, .slice D q e, .int .i64 sl] w fun e w' => e = .returned (.tuple #[crV R, .bool ok]) ∧ Below w.heap.size w w' := by
  obtain ⟨W0, hW0⟩ : ∃ W0, w.alloc (.cells #[.int .i64 0, .int .i64 0, .int .i64 0, .int .i64 0, .bool false] 27) = W0 := ⟨_, rfl⟩
  have K0 : CrRow W0 w.heap.size 0 0 0 0 false := hW0 ▸ crRow_alloc w 0 0 0 0 false
  have B0 : Below w.heap.size w W0 := hW0 ▸ below_alloc13 w _
  have sz0 := B0.size
  obtain ⟨k0, k1, k2, k3, k4⟩ := K0.cells
  have f0 := K0.open_ 0
  have f1 := K0.open_ 1
  have f2 := K0.open_ 2
  have f3 := K0.open_ 3
  have f4 := K0.open_ 4
  have HF0 := Lib.hid (K0.put 0 0 0 0 false)
  have HB0 := Lib.hid (put_below B0 (R := w.heap.size) (Nat.le_refl _) 0 0 0 0 false)
  have bad : ¬ credOk a d m ds sl → Hid (R = CR.zero ∧ ok = false) := fun h => ⟨by rw [← hR]; exact if_neg h, by rw [← hok]; exact decide_eq_false h⟩
  by_cases h1 : 1 ≤ a ∧ a ≤ 40
  rotate_left
  · have C1 := Lib.hid (isRoom_b W0 (decide_eq_false h1))
    have HE := bad (fun hh => h1 hh.1.1)
    clear h1 bad hR hok
    go_enter Try.func14, Try.ntmps14
    go_wp2_with (fail)
    refine C1.out.mono ?_
    rintro e w' ⟨rfl, rfl⟩
    go_wp2
    refine bodyPost_ret (results_row_tmp13 rfl _ _ _ _ _ _ _ rfl HF0.out Try.underlying27 rfl (by kernel_rfl)) rfl ?_
    rw [HE.out.1, HE.out.2]
    exact ⟨rfl, HB0.out⟩
  have C1 := Lib.hid (isRoom_b W0 (decide_eq_true h1))
  by_cases h2 : 1 ≤ d ∧ d ≤ 12
  rotate_left
  · have C2 := Lib.hid (isDelay_b W0 (decide_eq_false h2))
    have HE := bad (fun hh => h2 hh.1.2.1)
    clear h1 h2 bad hR hok
    go_enter Try.func14, Try.ntmps14
    go_wp2_with (fail)
    refine C1.out.mono ?_
    rintro e w' ⟨rfl, rfl⟩
    go_wp2_with (fail)
    refine C2.out.mono ?_
    rintro e w' ⟨rfl, rfl⟩
    go_wp2
    refine bodyPost_ret (results_row_tmp13 rfl _ _ _ _ _ _ _ rfl HF0.out Try.underlying27 rfl (by kernel_rfl)) rfl ?_
    rw [HE.out.1, HE.out.2]
    exact ⟨rfl, HB0.out⟩
  have C2 := Lib.hid (isDelay_b W0 (decide_eq_true h2))
  by_cases h3 : 0 ≤ m ∧ m ≤ 500
  rotate_left
  · have C3 := Lib.hid (areFrames_b W0 (decide_eq_false h3))
    have HE := bad (fun hh => h3 hh.1.2.2)
    clear h1 h2 h3 bad hR hok
    go_enter Try.func14, Try.ntmps14
    go_wp2_with (fail)
    refine C1.out.mono ?_
    rintro e w' ⟨rfl, rfl⟩
    go_wp2_with (fail)
    refine C2.out.mono ?_
    rintro e w' ⟨rfl, rfl⟩
    go_wp2_with (fail)
    refine C3.out.mono ?_
    rintro e w' ⟨rfl, rfl⟩
    go_wp2
    refine bodyPost_ret (results_row_tmp13 rfl _ _ _ _ _ _ _ rfl HF0.out Try.underlying27 rfl (by kernel_rfl)) rfl ?_
    rw [HE.out.1, HE.out.2]
    exact ⟨rfl, HB0.out⟩
  have C3 := Lib.hid (areFrames_b W0 (decide_eq_true h3))
  by_cases h4 : drainOk ds
  rotate_left
  · have C4 := Lib.hid (isDrain_b (c := e) (hD.bel B0) hn (decide_eq_false h4))
    have HE := bad (fun hh => h4 hh.2.1)
    clear h1 h2 h3 h4 bad hR hok
    go_enter Try.func14, Try.ntmps14
    go_wp2_with (fail)
    refine C1.out.mono ?_
    rintro e w' ⟨rfl, rfl⟩
    go_wp2_with (fail)
    refine C2.out.mono ?_
    rintro e w' ⟨rfl, rfl⟩
    go_wp2_with (fail)
    refine C3.out.mono ?_
    rintro e w' ⟨rfl, rfl⟩
    go_wp2_with (fail)
    refine C4.out.mono ?_
    rintro e w' ⟨rfl, rfl⟩
    go_wp2
    refine bodyPost_ret (results_row_tmp13 rfl _ _ _ _ _ _ _ rfl HF0.out Try.underlying27 rfl (by kernel_rfl)) rfl ?_
    rw [HE.out.1, HE.out.2]
    exact ⟨rfl, HB0.out⟩
  have C4 := Lib.hid (isDrain_b (c := e) (hD.bel B0) hn (decide_eq_true h4))
  by_cases h5 : 0 ≤ sl ∧ sl ≤ 3000
  rotate_left
  · have C5 := Lib.hid (isSlot_b W0 (decide_eq_false h5))
    have HE := bad (fun hh => h5 hh.2.2)
    clear h1 h2 h3 h4 h5 bad hR hok
    go_enter Try.func14, Try.ntmps14
    go_wp2_with (fail)
    refine C1.out.mono ?_
    rintro e w' ⟨rfl, rfl⟩
    go_wp2_with (fail)
    refine C2.out.mono ?_
    rintro e w' ⟨rfl, rfl⟩
    go_wp2_with (fail)
    refine C3.out.mono ?_
    rintro e w' ⟨rfl, rfl⟩
    go_wp2_with (fail)
    refine C4.out.mono ?_
    rintro e w' ⟨rfl, rfl⟩
    go_wp2_with (fail)
    refine C5.out.mono ?_
    rintro e w' ⟨rfl, rfl⟩
    go_wp2
    refine bodyPost_ret (results_row_tmp13 rfl _ _ _ _ _ _ _ rfl HF0.out Try.underlying27 rfl (by kernel_rfl)) rfl ?_
    rw [HE.out.1, HE.out.2]
    exact ⟨rfl, HB0.out⟩
  have C5 := Lib.hid (isSlot_b W0 (decide_eq_true h5))
  have hall : credOk a d m ds sl := ⟨⟨h1, h2, h3⟩, h4, h5⟩
  obtain ⟨rm, rfl⟩ := Int.eq_ofNat_of_zero_le (show 0 ≤ a by omega)
  obtain ⟨d, rfl⟩ := Int.eq_ofNat_of_zero_le (show 0 ≤ d by omega)
  obtain ⟨mn, rfl⟩ := Int.eq_ofNat_of_zero_le h3.1
  obtain ⟨sl, rfl⟩ := Int.eq_ofNat_of_zero_le h5.1
  have hRR : runC rm d mn (opOf ds) sl = R := (if_pos hall : credI rm d mn ds sl = runC rm d mn (opOf ds) sl).symm.trans hR
  have HR := Lib.hid hRR
  have HOK := Lib.hid (show true = ok by rw [← hok]; exact (decide_eq_true hall).symm)
  have hrm : 1 ≤ rm ∧ rm ≤ 40 := by omega
  have hd : 1 ≤ d ∧ d ≤ 12 := by omega
  have hmn : mn ≤ 500 := by omega
  have hsl : sl ≤ 3000 := by omega
  have HDO := Lib.hid h4
  have C6 := Lib.hid (driveOf_any (w := W0) (rm := rm) (d := d) (mn := mn) hd)
  have hs0 : w.heap.size < W0.heap.size := K0.lt
  have HS0 := Lib.hid hs0
  clear h1 h2 h3 h4 h5 bad hR hok hall hRR k0 k1 k2 k3 k4 f0 f1 f2 f3 f4 HF0 HB0 hs0
  go_enter Try.func14, Try.ntmps14
  go_wp2_with (fail)
  refine C1.out.mono ?_
  rintro e w' ⟨rfl, rfl⟩
  go_wp2_with (fail)
  refine C2.out.mono ?_
  rintro e w' ⟨rfl, rfl⟩
  go_wp2_with (fail)
  refine C3.out.mono ?_
  rintro e w' ⟨rfl, rfl⟩
  go_wp2_with (fail)
  refine C4.out.mono ?_
  rintro e w' ⟨rfl, rfl⟩
  go_wp2_with (fail)
  refine C5.out.mono ?_
  rintro e w' ⟨rfl, rfl⟩
  go_wp2_with (fail)
  refine C6.out.mono ?_
  rintro e w1 ⟨g3, g4, rfl, O3, O4, hne, B1⟩
  obtain ⟨W2, hW2⟩ : ∃ W2, w1.alloc (.cells #[.int .i64 (rm : Int), .int .i64 (mn : Int), .int .i64 0, .int .i64 0, .int .i64 0, .int .i64 0, .slice (some ⟨g3, 0, none⟩) d d, .slice (some ⟨g4, 0, none⟩) d d, .int .i64 0] 58) = W2 := ⟨_, rfl⟩
  have KD : DvRow W2 w1.heap.size rm mn 0 0 0 0 (.slice (some ⟨g3, 0, none⟩) d d) (.slice (some ⟨g4, 0, none⟩) d d) 0 := by rw [← hW2]; exact heap_alloc_new w1 _
  have B2 : Below w1.heap.size w1 W2 := by rw [← hW2]; exact below_alloc13 w1 _
  obtain ⟨B, hB⟩ : ∃ B, w1.heap.size = B := ⟨_, rfl⟩
  rw [hB] at KD
  have B02 : Below W0.heap.size W0 W2 := bel_trans B1 B2
  have M2 : Dv W0 W2 B g3 g4 d rm mn 0 0 0 0 0 (List.replicate d false) (List.replicate d false) :=
    ⟨KD, O3.bel B2, O4.bel B2, B02, hne, by have := B1.size; omega⟩
  have HM2 := Lib.hid M2
  have HB := Lib.hid hB
  have HW2 := Lib.hid hW2
  clear O3 O4 hne B1 KD B2 B02 M2 hB hW2 C1 C2 C3 C4 C5 C6
  go_wp2
  rw [HW2.out, HB.out]
  go_loopw [56] (fun _ W => ∃ (t c l s v m k : Nat) (us vs : List Bool) (fa ba : Nat → Bool), t ≤ sl ∧ Hid (∀ i, i < t → (crAt rm d mn (opOf ds) i).k < mn) ∧ Hid (crAt rm d mn (opOf ds) t = ⟨c, v, s, k, m, fa, ba⟩) ∧ Hid (RingF us fa t d ∧ RingF vs ba t d) ∧ l + s = mn ∧ Hid (Dv W0 W B g3 g4 d c l s v m k t us vs)) (fun _ W => sl - driveSlots W B)
  case atStart =>
    have H1 : Hid (∀ i, i < 0 → (crAt rm d mn (opOf ds) i).k < mn) := fun i hi => absurd hi (Nat.not_lt_zero _)
    have H2 : Hid (crAt rm d mn (opOf ds) 0 = ⟨rm, 0, 0, 0, 0, fun _ => false, fun _ => false⟩) := by
      have : crAt rm d mn (opOf ds) 0 = ⟨rm, 0, 0, 0, 0, fun _ => false, fun _ => false⟩ := rfl
      exact this
    have H3 : Hid (RingF (List.replicate d false) (fun _ => false) 0 d ∧ RingF (List.replicate d false) (fun _ => false) 0 d) := ⟨ringF_none d, ringF_none d⟩
    exact ⟨0, rm, mn, 0, 0, 0, 0, _, _, _, _, Nat.zero_le _, H1, H2, H3, rfl, HM2⟩
  case round =>
    obtain ⟨t, c, l, s, v, m, k, us, vs, fa, ba, ht, HT, HX, HRG, hls, HM⟩ := hrel
    obtain ⟨b1, b2, b3, b4, b5⟩ := cr_bounds hd.1 HX.out
    have bw : v ≤ m := by
      have h1 := cr_wm (room := rm) (d := d) (many := mn) (opOf ds) t
      rw [HX.out] at h1
      exact h1
    obtain ⟨x3, x4, x5⟩ := HM.out.row.receiver
    obtain ⟨x6, x7, x8⟩ := HM.out.row.rings
    have HSL := Lib.hid (driveSlots_cell x8)
    clear x3 x4 x6 x7
    by_cases hgo : t < sl ∧ k < mn
    · obtain ⟨g1, g2⟩ := hgo
      have g1B : decide ((t : Int) < (sl : Int)) = true := by simp; omega
      have g2B : decide ((k : Int) < (mn : Int)) = true := by simp; omega
      have HT2 := Lib.hid (run_not_yet HX.out HT.out g2)
      obtain ⟨op, hop⟩ : ∃ op, opOf ds t = op := ⟨_, rfl⟩
      have CO := Lib.hid (isOpen_b (c := e) (t := t) (hD.bel (bel_trans B0 HM.out.bel)) HDO.out (by omega) hop)
      obtain ⟨bt, hbt⟩ : ∃ bt, ba t = bt := ⟨_, rfl⟩
      obtain ⟨ft, hft⟩ : ∃ ft, fa t = ft := ⟨_, rfl⟩
      obtain ⟨T, hT⟩ : ∃ T, (op && decide (0 < v + ft.toNat)) = T := ⟨_, rfl⟩
      obtain ⟨S, hS⟩ : ∃ S, (decide (0 < c + bt.toNat) && decide (0 < l)) = S := ⟨_, rfl⟩
      have hbt1 := toNat_le bt
      have hft1 := toNat_le ft
      have hS1 := toNat_le S
      have hSl : S.toNat ≤ l := by
        rw [← hS]
        by_cases e : 0 < l
        · rw [decide_eq_true e, Bool.and_true]; have := toNat_le (decide (0 < c + bt.toNat)); omega
        · rw [decide_eq_false e, Bool.and_false]; exact Nat.zero_le _
      have hSm : (decide (0 < c + bt.toNat) && decide (s < mn)) = S := by
        rw [← hS, show decide (s < mn) = decide (0 < l) from by
          by_cases e : 0 < l
          · rw [decide_eq_true e, decide_eq_true (show s < mn by omega)]
          · rw [decide_eq_false e, decide_eq_false (show ¬ s < mn by omega)]]
      have HN := Lib.hid (cr_next2 HX.out hbt hft (T := T) (S := S) (by rw [hop]; exact hT) hSm)
      have r1 := ringF_now HRG.out.1 hd.1
      have r2 := ringF_now HRG.out.2 hd.1
      rw [hft] at r1
      rw [hbt] at r2
      rw [hft] at b2
      rw [hbt] at b1
      have CS := Lib.hid (slot_any (op := op) HM.out (by omega) (by omega) (by omega) (by omega) (by omega) (by omega) bw (by omega) (by omega) r2 r1 hT hS)
      have HRN : Hid (RingF (us.set (t % d) S) (upd1 fa (t + d) S) (t + 1) d ∧ RingF (vs.set (t % d) T) (upd1 ba (t + d) T) (t + 1) d) := ⟨ringF_step HRG.out.1 hd.1 S, ringF_step HRG.out.2 hd.1 T⟩
      have HLS := Lib.hid (show l - S.toNat + (s + S.toNat) = mn by omega)
      clear hbt hft hT hS hSm hop r1 r2 hbt1 hft1 hS1 hSl HRG b1 b2 b3 b4 b5 bw
      go_wp2_with (fail)
      refine CO.out.mono ?_
      rintro e w' ⟨rfl, rfl⟩
      go_wp2_with (fail)
      refine CS.out.mono ?_
      rintro e w3 ⟨rfl, D3⟩
      have HD3 := Lib.hid D3
      clear D3
      go_wp2
      go_roundw
      case rel => exact ⟨t + 1, _, _, _, _, _, _, _, _, _, _, by omega, HT2, HN, HRN, HLS.out, HD3⟩
      case measure =>
        rw [HSL.out, driveSlots_cell (t := t + 1) HD3.out.row.rings.2.2]
        omega
    · have HE : Hid (runC rm d mn (opOf ds) sl = ⟨s, k, m, t, decide (k = mn)⟩) := by
        have : runC rm d mn (opOf ds) sl = ⟨s, k, m, t, decide (k = mn)⟩ := run_end HX.out ht HT.out (by omega)
        exact this
      have CE := Lib.hid (runOf_any (mn := mn) HM.out.row)
      have fin : ∀ w3, Below wr.heap.size wr w3 → CrRow w3 w.heap.size 0 0 0 0 false ∧ Below w.heap.size w w3 := fun w3 h3 =>
        ⟨(K0.bel HM.out.bel).bel h3, bel_trans (bel_trans B0 HM.out.bel) h3⟩
      have FIN := Lib.hid fin
      unfold crV at CE
      clear fin b1 b2 b3 b4 b5 bw
      by_cases g1 : t < sl
      · have g1B : decide ((t : Int) < (sl : Int)) = true := by simp; omega
        have g2B : decide ((k : Int) < (mn : Int)) = false := by simp; omega
        have g1N : decide (t < sl) = true := decide_eq_true g1
        have g2N : decide (k < mn) = false := decide_eq_false (by omega)
        clear hgo g1
        go_wp2_with (fail)
        refine CE.out.mono ?_
        rintro e w3 ⟨rfl, B3⟩
        obtain ⟨K3, BB⟩ := FIN.out w3 B3
        obtain ⟨k0, k1, k2, k3, k4⟩ := K3.cells
        have f0 := K3.open_ 0
        have f1 := K3.open_ 1
        have f2 := K3.open_ 2
        have f3 := K3.open_ 3
        have f4 := K3.open_ 4
        have HF := Lib.hid (K3.put s k m t (decide (k = mn)))
        have HBB := Lib.hid (put_below BB (R := w.heap.size) (Nat.le_refl _) s k m t (decide (k = mn)))
        clear K3 BB B3
        go_wp2
        refine bodyPost_ret (results_row_tmp13 rfl _ _ _ _ _ _ _ rfl HF.out Try.underlying27 rfl (by kernel_rfl)) rfl ?_
        rw [← HR.out, HE.out]
        exact ⟨ret_crt13 rfl rfl rfl rfl rfl HOK.out, HBB.out⟩
      · have g1B : decide ((t : Int) < (sl : Int)) = false := by simp; omega
        have g1N : decide (t < sl) = false := decide_eq_false g1
        by_cases g2 : k < mn
        · have g2B : decide ((k : Int) < (mn : Int)) = true := by simp; omega
          have g2N : decide (k < mn) = true := decide_eq_true g2
          clear hgo g1 g2
          go_wp2_with (fail)
          refine CE.out.mono ?_
          rintro e w3 ⟨rfl, B3⟩
          obtain ⟨K3, BB⟩ := FIN.out w3 B3
          obtain ⟨k0, k1, k2, k3, k4⟩ := K3.cells
          have f0 := K3.open_ 0
          have f1 := K3.open_ 1
          have f2 := K3.open_ 2
          have f3 := K3.open_ 3
          have f4 := K3.open_ 4
          have HF := Lib.hid (K3.put s k m t (decide (k = mn)))
          have HBB := Lib.hid (put_below BB (R := w.heap.size) (Nat.le_refl _) s k m t (decide (k = mn)))
          clear K3 BB B3
          go_wp2
          refine bodyPost_ret (results_row_tmp13 rfl _ _ _ _ _ _ _ rfl HF.out Try.underlying27 rfl (by kernel_rfl)) rfl ?_
          rw [← HR.out, HE.out]
          exact ⟨ret_crt13 rfl rfl rfl rfl rfl HOK.out, HBB.out⟩
        · have g2B : decide ((k : Int) < (mn : Int)) = false := by simp; omega
          have g2N : decide (k < mn) = false := decide_eq_false g2
          clear hgo g1 g2
          go_wp2_with (fail)
          refine CE.out.mono ?_
          rintro e w3 ⟨rfl, B3⟩
          obtain ⟨K3, BB⟩ := FIN.out w3 B3
          obtain ⟨k0, k1, k2, k3, k4⟩ := K3.cells
          have f0 := K3.open_ 0
          have f1 := K3.open_ 1
          have f2 := K3.open_ 2
          have f3 := K3.open_ 3
          have f4 := K3.open_ 4
          have HF := Lib.hid (K3.put s k m t (decide (k = mn)))
          have HBB := Lib.hid (put_below BB (R := w.heap.size) (Nat.le_refl _) s k m t (decide (k = mn)))
          clear K3 BB B3
          go_wp2
          refine bodyPost_ret (results_row_tmp13 rfl _ _ _ _ _ _ _ rfl HF.out Try.underlying27 rfl (by kernel_rfl)) rfl ?_
          rw [← HR.out, HE.out]
          exact ⟨ret_crt13 rfl rfl rfl rfl rfl HOK.out, HBB.out⟩
set_option maxHeartbeats 4000000 in
theorem implCreditSlots_any {a d m r : Int} {w : World} (hr : slotsI a d m = r) :
    Calls Try.prog 17 #[.int .i64 a, .int .i64 d, .int .i64 m] w fun e w' => e = .returned (.int .i64 r) ∧ Below w.heap.size w w' := by
  obtain ⟨W0, hW0⟩ : ∃ W0, w.alloc (.cells #[.int .i64 1] 3) = W0 := ⟨_, rfl⟩
  have O0 : Has W0 (some ⟨w.heap.size, 0, none⟩) 1 (ints .i64 [1]) := by rw [← hW0]; exact Has.row #[.int .i64 1] rfl rfl (by unfold maxLen; omega)
  have B0 : Below w.heap.size w W0 := hW0 ▸ below_alloc13 w _
  obtain ⟨R, hR⟩ : ∃ R, credI a d m [1] 3000 = R := ⟨_, rfl⟩
  obtain ⟨ok, hok⟩ : ∃ ok, decide (credOk a d m [1] 3000) = ok := ⟨_, rfl⟩
  have C := Lib.hid (implRunCredits_any (e := 1) O0 (by omega) hR hok)
  have HRR : Hid (r = bif ok && R.f then (R.t : Int) else -1) := by
    have : r = bif ok && R.f then (R.t : Int) else -1 := by
      rw [← hr, ← hok, ← hR, cred_one]
      unfold slotsI
      by_cases h : fitsOk a d m
      · rw [if_pos h, if_pos h, decide_eq_true (show credOk a d m [1] 3000 from ⟨h, drainOk_one, by unfold slotOk; omega⟩)]
        cases (runC a.toNat d.toNat m.toNat (fun _ => true) 3000).f <;> rfl
      · rw [if_neg h, if_neg h, decide_eq_false (show ¬ credOk a d m [1] 3000 from fun hh => h hh.1)]; rfl
    exact this
  obtain ⟨rs, rk, rm, rt, rf⟩ := R
  unfold crV at C
  have hge := B0.size
  clear hr hR hok O0
  go_enter Try.func17, Try.ntmps17
  go_wp2_with (fail)
  refine C.out.mono ?_
  rintro e w4 ⟨rfl, B4⟩
  have K5 : CrRow (w4.alloc (.cells #[.int .i64 0, .int .i64 0, .int .i64 0, .int .i64 0, .bool false] 27)) w4.heap.size 0 0 0 0 false := crRow_alloc w4 0 0 0 0 false
  have B5 := bel_trans (bel_trans B0 B4) (below_alloc13 w4 (.cells #[.int .i64 0, .int .i64 0, .int .i64 0, .int .i64 0, .bool false] 27))
  have h45 := Nat.le_trans B0.size B4.size
  obtain ⟨V5, hV5⟩ : ∃ V5, w4.alloc (.cells #[.int .i64 0, .int .i64 0, .int .i64 0, .int .i64 0, .bool false] 27) = V5 := ⟨_, rfl⟩
  rw [hV5] at K5 B5
  obtain ⟨k0, k1, k2, k3, k4⟩ := K5.cells
  have f0 := K5.open_ 0
  have f1 := K5.open_ 1
  have f2 := K5.open_ 2
  have f3 := K5.open_ 3
  have f4 := K5.open_ 4
  have K6 := K5.put rs rk rm rt rf
  have HB := Lib.hid (put_below B5 (R := w4.heap.size) h45 rs rk rm rt rf)
  obtain ⟨x0, x1, x2, x3, x4⟩ := K6.cells
  clear x0 x1 x2
  cases ok with
  | true =>
    cases rf with
    | true =>
      have HE := Lib.hid (show (rt : Int) = r from HRR.out.symm)
      go_wp2
      go_ret
      exact ⟨ret_int HE.out, HB.out⟩
    | false =>
      have HE := Lib.hid (show (-1 : Int) = r from HRR.out.symm)
      go_wp2
      go_ret
      exact ⟨ret_int HE.out, HB.out⟩
  | false =>
    have HE := Lib.hid (show (-1 : Int) = r from HRR.out.symm)
    go_wp2
    go_ret
    exact ⟨ret_int HE.out, HB.out⟩
end Go.Proofs.Ytkdjcfejkgpplaa
