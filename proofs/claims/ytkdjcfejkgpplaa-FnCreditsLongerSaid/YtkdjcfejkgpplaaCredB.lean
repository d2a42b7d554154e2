/-
  Chapter 13's model, a run: what is proved here is what the model's run returns, and that it writes nothing that was there. Condition: none but those of a run.
-/
import Derived.Test.YtkdjcfejkgpplaaCredA
namespace Go.Proofs.Ytkdjcfejkgpplaa
open Go.RowKit

/-- How many slots there were. -/
def slotsAt13 (w : World) (r j : Nat) : Nat := match w.cell? ⟨r, j, none⟩ with
  | some (.int _ z) => z.toNat
  | _ => 0
theorem slotsAt13_cell {w : World} {r j t : Nat} (h : w.cell? ⟨r, j, none⟩ = some (.int .i64 (t : Int))) : slotsAt13 w r j = t := by unfold slotsAt13; rw [h]; simp
theorem own_other13 {W : World} {lo n c g B : Nat} {e : TypeId} {xs : List Value} (k : Own W lo e (some ⟨g, 0, none⟩) n c xs) (hne : g ≠ B) (i : Nat) (v : Value) : Own (W.setCell ⟨B, i, none⟩ v) lo e (some ⟨g, 0, none⟩) n c xs :=
  k.grown (one_grown13 W B i v) (fun a ha e => by injection ha with ha; subst ha; injection e with e; exact hne e)
theorem row_other13 {W : World} {R B : Nat} {s k m t : Int} {f : Bool} (h : CrRow W R s k m t f) (hne : R ≠ B) (i : Nat) (v : Value) : CrRow (W.setCell ⟨B, i, none⟩ v) R s k m t f :=
  h.grown (one_grown13 W B i v) (fun e => hne (by injection e with e; exact e.symm))
/-- What the model has in memory ahead of a slot. -/
structure Md (w W : World) (R1 R2 g3 g4 N : Nat) (s k m t : Int) (fa ba : Nat → Bool) : Prop where
  row : CrRow W R2 s k m t false
  res : CrRow W R1 0 0 0 0 false
  sent : Own W w.heap.size 3 (some ⟨g3, 0, none⟩) N N (ints .i64 (arrF fa N))
  back : Own W w.heap.size 3 (some ⟨g4, 0, none⟩) N N (ints .i64 (arrF ba N))
  bel : Below w.heap.size w W
  ne : g3 ≠ g4 ∧ R1 ≠ R2
  ge : w.heap.size ≤ R2 ∧ w.heap.size ≤ g3 ∧ w.heap.size ≤ g4
section
variable {w W : World} {R1 R2 g3 g4 N : Nat} {s k m t : Int} {fa ba : Nat → Bool}
theorem Md.apart (h : Md w W R1 R2 g3 g4 N s k m t fa ba) : R2 ≠ g3 ∧ R2 ≠ g4 ∧ R1 ≠ g3 ∧ R1 ≠ g4 := by
  have e1 := own_not13 h.sent h.row (by decide)
  have e2 := own_not13 h.back h.row (by decide)
  have e3 := own_not13 h.sent h.res (by decide)
  have e4 := own_not13 h.back h.res (by decide)
  exact ⟨fun e => e1 (by rw [e]; rfl), fun e => e2 (by rw [e]; rfl), fun e => e3 (by rw [e]; rfl), fun e => e4 (by rw [e]; rfl)⟩
theorem Md.field (h : Md w W R1 R2 g3 g4 N s k m t fa ba) (i : Nat) (v : Value) {s' k' m' t' : Int} (hr : CrRow (W.setCell ⟨R2, i, none⟩ v) R2 s' k' m' t' false) : Md w (W.setCell ⟨R2, i, none⟩ v) R1 R2 g3 g4 N s' k' m' t' fa ba := by
  obtain ⟨a1, a2, a3, a4⟩ := h.apart
  exact ⟨hr, row_other13 h.res h.ne.2 _ _, own_other13 h.sent (fun e => a1 e.symm) _ _, own_other13 h.back (fun e => a2 e.symm) _ _, h.bel.setCell h.ge.1 _, h.ne, h.ge⟩
theorem Md.sents (h : Md w W R1 R2 g3 g4 N s k m t fa ba) (x : Int) : Md w (W.setCell ⟨R2, 0, none⟩ (.int .i64 x)) R1 R2 g3 g4 N x k m t fa ba := h.field _ _ (h.row.sent x)
theorem Md.taken (h : Md w W R1 R2 g3 g4 N s k m t fa ba) (x : Int) : Md w (W.setCell ⟨R2, 1, none⟩ (.int .i64 x)) R1 R2 g3 g4 N s x m t fa ba := h.field _ _ (h.row.taken x)
theorem Md.most (h : Md w W R1 R2 g3 g4 N s k m t fa ba) (x : Int) : Md w (W.setCell ⟨R2, 2, none⟩ (.int .i64 x)) R1 R2 g3 g4 N s k x t fa ba := h.field _ _ (h.row.most x)
theorem Md.slots (h : Md w W R1 R2 g3 g4 N s k m t fa ba) (x : Int) : Md w (W.setCell ⟨R2, 3, none⟩ (.int .i64 x)) R1 R2 g3 g4 N s k m x fa ba := h.field _ _ (h.row.slots x)
theorem Md.put3 (h : Md w W R1 R2 g3 g4 N s k m t fa ba) (i : Nat) : Md w (W.setCell ⟨g3, i, none⟩ (.int .i64 1)) R1 R2 g3 g4 N s k m t (upd1 fa i true) ba := by
  obtain ⟨a1, a2, a3, a4⟩ := h.apart
  have hs := h.sent.set_ i (.int .i64 1)
  rw [ints_set, ← arrF_set] at hs
  exact ⟨row_other13 h.row a1 _ _, row_other13 h.res a3 _ _, hs, own_other13 h.back (fun e => h.ne.1 e.symm) _ _, h.bel.setCell h.ge.2.1 _, h.ne, h.ge⟩
theorem Md.put4 (h : Md w W R1 R2 g3 g4 N s k m t fa ba) (i : Nat) : Md w (W.setCell ⟨g4, i, none⟩ (.int .i64 1)) R1 R2 g3 g4 N s k m t fa (upd1 ba i true) := by
  obtain ⟨a1, a2, a3, a4⟩ := h.apart
  have hs := h.back.set_ i (.int .i64 1)
  rw [ints_set, ← arrF_set] at hs
  exact ⟨row_other13 h.row a2 _ _, row_other13 h.res a4 _ _, own_other13 h.sent h.ne.1 _ _, hs, h.bel.setCell h.ge.2.2 _, h.ne, h.ge⟩
theorem Md.of {s' k' m' t' : Int} (h : Md w W R1 R2 g3 g4 N s k m t fa ba) (e1 : s = s') (e2 : k = k') (e3 : m = m') (e4 : t = t') : Md w W R1 R2 g3 g4 N s' k' m' t' fa ba := by rw [← e1, ← e2, ← e3, ← e4]; exact h
end

set_option maxRecDepth 100000 in
set_option maxHeartbeats 16000000 in
theorem l13Run_any {D : Option Addr} {q e rm d mn sl : Nat} {ds : List Int} {w : World} {R : CR} (hD : Has w D q (ints .i64 ds)) (hq : drainOk ds) (hr : 1 ≤ rm ∧ rm ≤ 40) (hd : 1 ≤ d ∧ d ≤ 12) (hm : mn ≤ 500) (hsl : sl ≤ 3000) (hR : runC rm d mn (opOf ds) sl = R) :
    Calls Try.prog 43 #[.int .i64 (rm : Int), .int .i64 (d : Int), .int .i64 (mn : Int), .slice D q e, .int .i64 (sl : Int)] w fun e w' => e = .returned (crV R) ∧ Below w.heap.size w w' := by
  obtain ⟨i0, hi, hz0, hz1, hz2⟩ := info_parts Try.infoInt
  have hl := hD.len
  have hp := drainOk_pos hq
  have hq100 := hq.2.2
  have HR := Lib.hid hR
  have HDR := Lib.hid (fun t => drain_at hq t)
  rw [hl] at hp hq100
  obtain ⟨W0, hW0⟩ : ∃ W0, w.alloc (.cells #[.int .i64 0, .int .i64 0, .int .i64 0, .int .i64 0, .bool false] 27) = W0 := ⟨_, rfl⟩
  have K0 : CrRow W0 w.heap.size 0 0 0 0 false := hW0 ▸ crRow_alloc w 0 0 0 0 false
  have B0 : Below w.heap.size w W0 := hW0 ▸ below_alloc13 w _
  obtain ⟨W1, hW1⟩ : ∃ W1, W0.alloc (.cells #[.int .i64 0, .int .i64 0, .int .i64 0, .int .i64 0, .bool false] 27) = W1 := ⟨_, rfl⟩
  have K1 : CrRow W1 W0.heap.size 0 0 0 0 false := hW1 ▸ crRow_alloc W0 0 0 0 0 false
  have B1 : Below W0.heap.size W0 W1 := hW1 ▸ below_alloc13 W0 _
  have sz0 := Lib.hid (show W0.heap.size = w.heap.size + 1 by rw [← hW0]; simp)
  have B01 := bel_trans B0 B1
  have K01 := K0.bel B1
  have hne12 : w.heap.size ≠ W0.heap.size := by rw [sz0.out]; omega
  have K2 := Lib.hid (K1.put 0 0 0 0 false)
  have B2 := Lib.hid (put_below B01 (R := W0.heap.size) B0.size 0 0 0 0 false)
  have K02 := Lib.hid (row_other13 (row_other13 (row_other13 (row_other13 (row_other13 K01 hne12 0 (.int .i64 0)) hne12 1 (.int .i64 0)) hne12 2 (.int .i64 0)) hne12 3 (.int .i64 0)) hne12 4 (.bool false))
  obtain ⟨k0, k1, k2, k3, k4⟩ := K1.cells
  have f0 := K1.open_ 0
  have f1 := K1.open_ 1
  have f2 := K1.open_ 2
  have f3 := K1.open_ 3
  have f4 := K1.open_ 4
  have hge := B0.size
  obtain ⟨N, hN⟩ : ∃ N, sl + d + 1 = N := ⟨_, rfl⟩
  have v1 : IntKind.i64.wrap ((sl : Int) + (d : Int)) = (sl : Int) + (d : Int) := IntWalk.i64_in _ (by omega)
  have v2 : IntKind.i64.wrap ((sl : Int) + (d : Int) + 1) = (sl : Int) + (d : Int) + 1 := IntWalk.i64_in _ (by omega)
  clear hR hq
  go_enter Try.func43, Try.ntmps43
  have HB2 := B2.out.size
  go_wp2_with (at_make; first
    | (refine wpList_make13 _ rfl (.tmp 22) (.tmp 22) 23 rfl w.heap.size 3 i0 (.int .i64 0) 1 Try.underlying23 hi hz0 hz1 .i64 .i64 _ _ N rfl rfl (by omega) (by omega) (by rw [hz2]; omega) (by unfold maxLen; omega) HB2 ?_; intro g3 w3 hg3 O3 G3; rw [zeros13 N] at O3)
    | (refine wpList_make13 _ rfl (.tmp 27) (.tmp 27) 23 rfl w.heap.size 3 i0 (.int .i64 0) 1 Try.underlying23 hi hz0 hz1 .i64 .i64 _ _ N rfl rfl (by omega) (by omega) (by rw [hz2]; omega) (by unfold maxLen; omega) (Nat.le_trans HB2 G3.size) ?_; intro g4 w4 hg4 O4 G4; rw [zeros13 N] at O4))
  have M4 : Md w w4 w.heap.size W0.heap.size g3 g4 N 0 0 0 0 (fun _ => false) (fun _ => false) := by
    have b3 := below_of_grown G3 (Nat.le_refl _) (fun k hk => by cases hk)
    have b4 := below_of_grown G4 (Nat.le_refl _) (fun k hk => by cases hk)
    have h3 := World.ownsRow.lt O3 g3 rfl
    have h4 := World.ownsRow.lt O4 g4 rfl
    exact ⟨(K2.out.bel b3).bel b4, (K02.out.bel b3).bel b4, Own.bel O3 b4, O4, bel_trans (bel_trans B2.out b3) b4, ⟨by omega, hne12⟩, ⟨hge, h3.1, h4.1⟩⟩
  clear K2 B2 K02 k0 k1 k2 k3 k4 f0 f1 f2 f3 f4 O3 O4 G3 G4 hg3 hg4 K1 K01 B1 B01
  go_loopw [12, 13, 16] (fun c v _ W => ∃ (t c' wv s k m : Nat) (fa ba : Nat → Bool), t ≤ sl ∧ Hid (∀ i, i < t → (crAt rm d mn (opOf ds) i).k < mn) ∧ Hid (crAt rm d mn (opOf ds) t = ⟨c', wv, s, k, m, fa, ba⟩) ∧ c = .int .i64 (c' : Int) ∧ v = .int .i64 (wv : Int) ∧ Md w W w.heap.size W0.heap.size g3 g4 N s k m t fa ba) (fun _ _ _ W => sl - slotsAt13 W W0.heap.size 3)
  case atStart =>
    have H1 : Hid (∀ i, i < 0 → (crAt rm d mn (opOf ds) i).k < mn) := fun i hi => absurd hi (Nat.not_lt_zero _)
    have H2 : Hid (crAt rm d mn (opOf ds) 0 = ⟨rm, 0, 0, 0, 0, fun _ => false, fun _ => false⟩) := by
      have : crAt rm d mn (opOf ds) 0 = ⟨rm, 0, 0, 0, 0, fun _ => false, fun _ => false⟩ := rfl
      exact this
    exact ⟨0, rm, 0, 0, 0, 0, _, _, Nat.zero_le _, H1, H2, rfl, rfl, M4⟩
  case round =>
    obtain ⟨t, c0, wv, s, k, m, fa, ba, ht, HT, HX, rfl, rfl, M⟩ := hrel
    clear M4
    have HM := Lib.hid M
    obtain ⟨n1, n2, n3, n4⟩ := M.apart
    obtain ⟨x0, x1, x2, x3, x4⟩ := M.row.cells
    have f0 := M.row.open_ 0
    have f1 := M.row.open_ 1
    have f2 := M.row.open_ 2
    have f3 := M.row.open_ 3
    have f4 := M.row.open_ 4
    have HSL := Lib.hid (slotsAt13_cell x3)
    have n5 := M.ne.1
    have n6 := M.ne.2
    obtain ⟨b1, b2, b3, b4, b5⟩ := cr_bounds hd.1 HX.out
    by_cases hgo : t < sl ∧ k < mn
    · obtain ⟨g1, g2⟩ := hgo
      have g1B : decide ((t : Int) < (sl : Int)) = true := by simp; omega
      have g2B : decide ((k : Int) < (mn : Int)) = true := by simp; omega
      have HT2 := Lib.hid (run_not_yet HX.out HT.out g2)
      obtain ⟨bt, hbt⟩ : ∃ bt, (ba t).toNat = bt := ⟨_, rfl⟩
      obtain ⟨ft, hft⟩ : ∃ ft, (fa t).toNat = ft := ⟨_, rfl⟩
      have HB1 := Lib.hid hbt
      have HF1 := Lib.hid hft
      have htN : t < N := by omega
      obtain ⟨u, hu, cb, _⟩ := M.back.at_ htN
      obtain ⟨u', hu', cf, _⟩ := M.sent.at_ htN
      rw [ints_get13 (arrF_get ba htN)] at hu
      injection hu with hu
      rw [hbt] at hu b1
      subst hu
      rw [ints_get13 (arrF_get fa htN)] at hu'
      injection hu' with hu'
      rw [hft] at hu' b2
      subst hu'
      obtain ⟨i, hi⟩ : ∃ i, t + d = i := ⟨_, rfl⟩
      have hiN : i < N := by omega
      obtain ⟨u, _, cb2, fb2⟩ := M.back.at_ hiN
      obtain ⟨u', _, cf2, ff2⟩ := M.sent.at_ hiN
      obtain ⟨r, hr'⟩ : ∃ r, t % q = r := ⟨_, rfl⟩
      have hrq : r < q := by rw [← hr']; exact Nat.mod_lt _ (by omega)
      obtain ⟨z, hz, hzv, hzB⟩ := HDR.out t
      clear hzv
      rw [hl, hr'] at hz
      obtain ⟨bb, o, z', rfl, hbl, hx, hc0⟩ := hD.at_ hrq
      have hc := (M.bel.cell (p := ⟨bb, o + r, none⟩) hbl).trans hc0
      have hbR : bb ≠ W0.heap.size := by rw [sz0.out]; omega
      clear hc0
      obtain rfl : z' = z := by rw [hz] at hx; injection hx with hx; exact hx.symm
      have m1 : Int.tmod (t : Int) (q : Int) = (r : Int) := by rw [Int.tmod_eq_emod_of_nonneg (by omega), ← hr']; exact (Int.natCast_emod t q).symm
      have m2 : (t : Int) % (q : Int) = (r : Int) := by rw [← hr']; exact (Int.natCast_emod t q).symm
      have hqB : ((q : Int) == 0) = false := by simp; omega
      obtain ⟨c1, hc1⟩ : ∃ c1, c0 + bt = c1 := ⟨_, rfl⟩
      obtain ⟨w1, hw1⟩ : ∃ w1, wv + ft = w1 := ⟨_, rfl⟩
      obtain ⟨m', hm'⟩ : ∃ m', max m w1 = m' := ⟨_, rfl⟩
      have e1 : (c0 : Int) + (bt : Int) = (c1 : Int) := by omega
      have e2 : (wv : Int) + (ft : Int) = (w1 : Int) := by omega
      have e3 : (t : Int) + (d : Int) = (i : Int) := by omega
      have e4 : max (m : Int) (w1 : Int) = (m' : Int) := by omega
      have HN := fun (T S : Bool) => cr_next (T := T) (S := S) HX.out HB1.out HF1.out
      rw [hc1, hw1, hm', hi] at HN
      have HNX := Lib.hid HN
      have HTI := Lib.hid hi
      rw [hc1] at b1
      rw [hw1] at b2
      have bm : m' ≤ 40 := by omega
      clear HN hbt hft hr' hz hx hi hc1 hw1 hm' b4 M
      obtain ⟨op, hop⟩ : ∃ op, opOf ds t = op := ⟨_, rfl⟩
      rw [hop] at hzB HNX
      have HOP := Lib.hid hop
      clear hop
      by_cases h1 : op = true
      · subst h1
        by_cases h2 : 0 < w1
        · have wB : decide ((w1 : Int) > 0) = true := by simp; omega
          have wB2 : decide (0 < (w1 : Int)) = true := by simp; omega
          have wB3 : decide (0 < w1) = true := by simp; omega
          obtain ⟨w2, hw2⟩ : ∃ w2, w1 - 1 = w2 := ⟨_, rfl⟩
          have e5 : (w1 : Int) - 1 = (w2 : Int) := by omega
          have hT : (true && decide (0 < w1)) = true := by rw [decide_eq_true h2]; rfl
          by_cases hc : 0 < c1
          · have cB : decide ((c1 : Int) > 0) = true := by simp; omega
            have cB2 : decide (0 < (c1 : Int)) = true := by simp; omega
            have cB3 : decide (0 < c1) = true := by simp; omega
            by_cases hs : s < mn
            · have sB : decide ((s : Int) < (mn : Int)) = true := by simp; omega
              obtain ⟨c2, hc2⟩ : ∃ c2, c1 - 1 = c2 := ⟨_, rfl⟩
              have e6 : (c1 : Int) - 1 = (c2 : Int) := by omega
              have hS : (decide (0 < c1) && decide (s < mn)) = true := by rw [decide_eq_true hc, decide_eq_true hs]; rfl
              have hY := HNX.out true true hT hS
              rw [show w1 - true.toNat = w2 from hw2, show c1 - true.toNat = c2 from hc2] at hY
              have HY := Lib.hid hY
              clear hY hT hS
              go_wp2
              go_roundw
              case rel => exact ⟨t + 1, _, _, _, _, _, _, _, by omega, HT2, HY, rfl, rfl, (Md.of ((((((HM.out.most (m' : Int)).taken ((k : Int) + 1)).put4 i).sents ((s : Int) + 1)).put3 i).slots ((t : Int) + 1)) (by first | rfl | omega) (by first | rfl | omega) rfl (by omega))⟩
              case measure =>
                rw [HSL.out, slotsAt13_cell (t := t + 1) (Md.of ((((((HM.out.most (m' : Int)).taken ((k : Int) + 1)).put4 i).sents ((s : Int) + 1)).put3 i).slots ((t : Int) + 1)) (by first | rfl | omega) (by first | rfl | omega) rfl (by omega)).row.cells.2.2.2.1]
                omega
            · have sB : decide ((s : Int) < (mn : Int)) = false := by simp; omega
              have hS : (decide (0 < c1) && decide (s < mn)) = false := by rw [decide_eq_false hs, Bool.and_false]
              have hY := HNX.out true false hT hS
              rw [show w1 - true.toNat = w2 from hw2, show c1 - false.toNat = c1 from rfl] at hY
              have HY := Lib.hid hY
              clear hY hT hS
              go_wp2
              go_roundw
              case rel => exact ⟨t + 1, _, _, _, _, _, _, _, by omega, HT2, HY, rfl, rfl, (Md.of ((((HM.out.most (m' : Int)).taken ((k : Int) + 1)).put4 i).slots ((t : Int) + 1)) (by first | rfl | omega) (by first | rfl | omega) rfl (by omega))⟩
              case measure =>
                rw [HSL.out, slotsAt13_cell (t := t + 1) (Md.of ((((HM.out.most (m' : Int)).taken ((k : Int) + 1)).put4 i).slots ((t : Int) + 1)) (by first | rfl | omega) (by first | rfl | omega) rfl (by omega)).row.cells.2.2.2.1]
                omega
          · have cB : decide ((c1 : Int) > 0) = false := by simp; omega
            have cB2 : decide (0 < (c1 : Int)) = false := by simp; omega
            have cB3 : decide (0 < c1) = false := by simp; omega
            have hS : (decide (0 < c1) && decide (s < mn)) = false := by rw [decide_eq_false hc, Bool.false_and]
            have hY := HNX.out true false hT hS
            rw [show w1 - true.toNat = w2 from hw2, show c1 - false.toNat = c1 from rfl] at hY
            have HY := Lib.hid hY
            clear hY hT hS
            go_wp2
            go_roundw
            case rel => exact ⟨t + 1, _, _, _, _, _, _, _, by omega, HT2, HY, rfl, rfl, (Md.of ((((HM.out.most (m' : Int)).taken ((k : Int) + 1)).put4 i).slots ((t : Int) + 1)) (by first | rfl | omega) (by first | rfl | omega) rfl (by omega))⟩
            case measure =>
              rw [HSL.out, slotsAt13_cell (t := t + 1) (Md.of ((((HM.out.most (m' : Int)).taken ((k : Int) + 1)).put4 i).slots ((t : Int) + 1)) (by first | rfl | omega) (by first | rfl | omega) rfl (by omega)).row.cells.2.2.2.1]
              omega
        · have wB : decide ((w1 : Int) > 0) = false := by simp; omega
          have wB2 : decide (0 < (w1 : Int)) = false := by simp; omega
          have wB3 : decide (0 < w1) = false := by simp; omega
          have hT : (true && decide (0 < w1)) = false := by rw [decide_eq_false h2]; rfl
          by_cases hc : 0 < c1
          · have cB : decide ((c1 : Int) > 0) = true := by simp; omega
            have cB2 : decide (0 < (c1 : Int)) = true := by simp; omega
            have cB3 : decide (0 < c1) = true := by simp; omega
            by_cases hs : s < mn
            · have sB : decide ((s : Int) < (mn : Int)) = true := by simp; omega
              obtain ⟨c2, hc2⟩ : ∃ c2, c1 - 1 = c2 := ⟨_, rfl⟩
              have e6 : (c1 : Int) - 1 = (c2 : Int) := by omega
              have hS : (decide (0 < c1) && decide (s < mn)) = true := by rw [decide_eq_true hc, decide_eq_true hs]; rfl
              have hY := HNX.out false true hT hS
              rw [show w1 - false.toNat = w1 from rfl, show c1 - true.toNat = c2 from hc2] at hY
              have HY := Lib.hid hY
              clear hY hT hS
              go_wp2
              go_roundw
              case rel => exact ⟨t + 1, _, _, _, _, _, _, _, by omega, HT2, HY, rfl, rfl, (Md.of ((((HM.out.most (m' : Int)).sents ((s : Int) + 1)).put3 i).slots ((t : Int) + 1)) (by first | rfl | omega) (by first | rfl | omega) rfl (by omega))⟩
              case measure =>
                rw [HSL.out, slotsAt13_cell (t := t + 1) (Md.of ((((HM.out.most (m' : Int)).sents ((s : Int) + 1)).put3 i).slots ((t : Int) + 1)) (by first | rfl | omega) (by first | rfl | omega) rfl (by omega)).row.cells.2.2.2.1]
                omega
            · have sB : decide ((s : Int) < (mn : Int)) = false := by simp; omega
              have hS : (decide (0 < c1) && decide (s < mn)) = false := by rw [decide_eq_false hs, Bool.and_false]
              have hY := HNX.out false false hT hS
              rw [show w1 - false.toNat = w1 from rfl, show c1 - false.toNat = c1 from rfl] at hY
              have HY := Lib.hid hY
              clear hY hT hS
              go_wp2
              go_roundw
              case rel => exact ⟨t + 1, _, _, _, _, _, _, _, by omega, HT2, HY, rfl, rfl, (Md.of ((HM.out.most (m' : Int)).slots ((t : Int) + 1)) (by first | rfl | omega) (by first | rfl | omega) rfl (by omega))⟩
              case measure =>
                rw [HSL.out, slotsAt13_cell (t := t + 1) (Md.of ((HM.out.most (m' : Int)).slots ((t : Int) + 1)) (by first | rfl | omega) (by first | rfl | omega) rfl (by omega)).row.cells.2.2.2.1]
                omega
          · have cB : decide ((c1 : Int) > 0) = false := by simp; omega
            have cB2 : decide (0 < (c1 : Int)) = false := by simp; omega
            have cB3 : decide (0 < c1) = false := by simp; omega
            have hS : (decide (0 < c1) && decide (s < mn)) = false := by rw [decide_eq_false hc, Bool.false_and]
            have hY := HNX.out false false hT hS
            rw [show w1 - false.toNat = w1 from rfl, show c1 - false.toNat = c1 from rfl] at hY
            have HY := Lib.hid hY
            clear hY hT hS
            go_wp2
            go_roundw
            case rel => exact ⟨t + 1, _, _, _, _, _, _, _, by omega, HT2, HY, rfl, rfl, (Md.of ((HM.out.most (m' : Int)).slots ((t : Int) + 1)) (by first | rfl | omega) (by first | rfl | omega) rfl (by omega))⟩
            case measure =>
              rw [HSL.out, slotsAt13_cell (t := t + 1) (Md.of ((HM.out.most (m' : Int)).slots ((t : Int) + 1)) (by first | rfl | omega) (by first | rfl | omega) rfl (by omega)).row.cells.2.2.2.1]
              omega
      · obtain rfl : op = false := by simpa using h1
        have hT : (false && decide (0 < w1)) = false := rfl
        by_cases hc : 0 < c1
        · have cB : decide ((c1 : Int) > 0) = true := by simp; omega
          have cB2 : decide (0 < (c1 : Int)) = true := by simp; omega
          have cB3 : decide (0 < c1) = true := by simp; omega
          by_cases hs : s < mn
          · have sB : decide ((s : Int) < (mn : Int)) = true := by simp; omega
            obtain ⟨c2, hc2⟩ : ∃ c2, c1 - 1 = c2 := ⟨_, rfl⟩
            have e6 : (c1 : Int) - 1 = (c2 : Int) := by omega
            have hS : (decide (0 < c1) && decide (s < mn)) = true := by rw [decide_eq_true hc, decide_eq_true hs]; rfl
            have hY := HNX.out false true hT hS
            rw [show w1 - false.toNat = w1 from rfl, show c1 - true.toNat = c2 from hc2] at hY
            have HY := Lib.hid hY
            clear hY hT hS
            go_wp2
            go_roundw
            case rel => exact ⟨t + 1, _, _, _, _, _, _, _, by omega, HT2, HY, rfl, rfl, (Md.of ((((HM.out.most (m' : Int)).sents ((s : Int) + 1)).put3 i).slots ((t : Int) + 1)) (by first | rfl | omega) (by first | rfl | omega) rfl (by omega))⟩
            case measure =>
              rw [HSL.out, slotsAt13_cell (t := t + 1) (Md.of ((((HM.out.most (m' : Int)).sents ((s : Int) + 1)).put3 i).slots ((t : Int) + 1)) (by first | rfl | omega) (by first | rfl | omega) rfl (by omega)).row.cells.2.2.2.1]
              omega
          · have sB : decide ((s : Int) < (mn : Int)) = false := by simp; omega
            have hS : (decide (0 < c1) && decide (s < mn)) = false := by rw [decide_eq_false hs, Bool.and_false]
            have hY := HNX.out false false hT hS
            rw [show w1 - false.toNat = w1 from rfl, show c1 - false.toNat = c1 from rfl] at hY
            have HY := Lib.hid hY
            clear hY hT hS
            go_wp2
            go_roundw
            case rel => exact ⟨t + 1, _, _, _, _, _, _, _, by omega, HT2, HY, rfl, rfl, (Md.of ((HM.out.most (m' : Int)).slots ((t : Int) + 1)) (by first | rfl | omega) (by first | rfl | omega) rfl (by omega))⟩
            case measure =>
              rw [HSL.out, slotsAt13_cell (t := t + 1) (Md.of ((HM.out.most (m' : Int)).slots ((t : Int) + 1)) (by first | rfl | omega) (by first | rfl | omega) rfl (by omega)).row.cells.2.2.2.1]
              omega
        · have cB : decide ((c1 : Int) > 0) = false := by simp; omega
          have cB2 : decide (0 < (c1 : Int)) = false := by simp; omega
          have cB3 : decide (0 < c1) = false := by simp; omega
          have hS : (decide (0 < c1) && decide (s < mn)) = false := by rw [decide_eq_false hc, Bool.false_and]
          have hY := HNX.out false false hT hS
          rw [show w1 - false.toNat = w1 from rfl, show c1 - false.toNat = c1 from rfl] at hY
          have HY := Lib.hid hY
          clear hY hT hS
          go_wp2
          go_roundw
          case rel => exact ⟨t + 1, _, _, _, _, _, _, _, by omega, HT2, HY, rfl, rfl, (Md.of ((HM.out.most (m' : Int)).slots ((t : Int) + 1)) (by first | rfl | omega) (by first | rfl | omega) rfl (by omega))⟩
          case measure =>
            rw [HSL.out, slotsAt13_cell (t := t + 1) (Md.of ((HM.out.most (m' : Int)).slots ((t : Int) + 1)) (by first | rfl | omega) (by first | rfl | omega) rfl (by omega)).row.cells.2.2.2.1]
            omega
    · have HE : Hid (runC rm d mn (opOf ds) sl = ⟨s, k, m, t, decide (k = mn)⟩) := by
        have : runC rm d mn (opOf ds) sl = ⟨s, k, m, t, decide (k = mn)⟩ := run_end HX.out ht HT.out (by omega)
        exact this
      obtain ⟨y, hy⟩ : ∃ y, ((k : Int) == (mn : Int)) = y := ⟨_, rfl⟩
      have HYB := Lib.hid (show y = decide (k = mn) by rw [← hy]; by_cases e : k = mn
                                                       · simp [e]
                                                       · have : ¬ (k : Int) = (mn : Int) := by omega
                                                         simp [e, this])
      have hF := (row_other13 M.res n6 4 (.bool y)).put s k m t y
      have hB := put_below (M.bel.setCell (p := ⟨W0.heap.size, 4, none⟩) M.ge.1 (.bool y)) (R := w.heap.size) (Nat.le_refl _) s k m t y
      obtain ⟨r0, r1, r2, r3, r4⟩ := M.res.cells
      have q0 := M.res.open_ 0
      have q1 := M.res.open_ 1
      have q2 := M.res.open_ 2
      have q3 := M.res.open_ 3
      have q4 := M.res.open_ 4
      have HFF := Lib.hid hF
      have HBB := Lib.hid hB
      clear hF hB M HM
      by_cases g1 : t < sl
      · have g1B : decide ((t : Int) < (sl : Int)) = true := by simp; omega
        have g2B : decide ((k : Int) < (mn : Int)) = false := by simp; omega
        have g1N : decide (t < sl) = true := decide_eq_true g1
        have g2N : decide (k < mn) = false := decide_eq_false (by omega)
        clear hgo g1
        go_wp2
        refine bodyPost_ret (results_cell_row rfl _ _ _ _ _ _ _ rfl HFF.out Try.underlying27 rfl (by kernel_rfl)) rfl ?_
        rw [← HR.out, HE.out]
        exact ⟨ret_cr rfl rfl rfl rfl HYB.out, HBB.out⟩
      · have g1B : decide ((t : Int) < (sl : Int)) = false := by simp; omega
        have g1N : decide (t < sl) = false := decide_eq_false g1
        clear hgo g1
        go_wp2
        refine bodyPost_ret (results_cell_row rfl _ _ _ _ _ _ _ rfl HFF.out Try.underlying27 rfl (by kernel_rfl)) rfl ?_
        rw [← HR.out, HE.out]
        exact ⟨ret_cr rfl rfl rfl rfl HYB.out, HBB.out⟩
end Go.Proofs.Ytkdjcfejkgpplaa
