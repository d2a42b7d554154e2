/-
  Chapter 13's program: what is proved here is what creditDriveOf and run return, and that they write nothing that was there. Condition: numbers up to 10000.
-/
import Derived.Test.YtkdjcfejkgpplaaImp13c
namespace Go.Proofs.Ytkdjcfejkgpplaa
open Go.RowKit

theorem DvRow.set6 {w : World} {B : Nat} {c l s v m k t : Int} {T K : Value} (h : DvRow w B c l s v m k T K t) (x : Value) : DvRow (w.setCell ⟨B, 6, none⟩ x) B c l s v m k x K t := (heap_setCell_same w B 6 _ _ _ h).trans rfl
theorem DvRow.set7 {w : World} {B : Nat} {c l s v m k t : Int} {T K : Value} (h : DvRow w B c l s v m k T K t) (x : Value) : DvRow (w.setCell ⟨B, 7, none⟩ x) B c l s v m k T x t := (heap_setCell_same w B 7 _ _ _ h).trans rfl
/-- A block with these cells is a slice of the call's own. -/
theorem own_of_row13 {W : World} {lo b n : Nat} {e : TypeId} {cs : Array Value} {xs : List Value} (h : W.heap[b]? = some (.cells cs e (0, 0))) (hx : cs.toList = xs) (hn : xs.length = n) (hm : n ≤ maxLen) (hl : lo ≤ b) : Own W lo e (some ⟨b, 0, none⟩) n n xs := by
  have hs : cs.size = n := by rw [← hn, ← hx]; simp
  refine ⟨by omega, .inr ⟨b, n, cs, rfl, hl, h, Nat.le_refl _, hm, by omega, ?_⟩⟩
  rw [hx]; exact List.take_of_length_le (by omega)
/-- A struct of these fields, stored in its block. -/
def stored9 (W : World) (B : Nat) (c l s v m k t : Int) (T K : Value) : World := ((((((((W.setCell ⟨B, 0, none⟩ (.int .i64 c)).setCell ⟨B, 1, none⟩ (.int .i64 l)).setCell ⟨B, 2, none⟩ (.int .i64 s)).setCell ⟨B, 3, none⟩ (.int .i64 v)).setCell ⟨B, 4, none⟩ (.int .i64 m)).setCell ⟨B, 5, none⟩ (.int .i64 k)).setCell ⟨B, 6, none⟩ T).setCell ⟨B, 7, none⟩ K).setCell ⟨B, 8, none⟩ (.int .i64 t)
theorem stored9_row {W : World} {B : Nat} {c0 l0 s0 v0 m0 k0 t0 : Int} {T0 K0 : Value} (h : DvRow W B c0 l0 s0 v0 m0 k0 T0 K0 t0) (c l s v m k t : Int) (T K : Value) : DvRow (stored9 W B c l s v m k t T K) B c l s v m k T K t :=
  ((((((((h.set0 c).set1 l).set2 s).set3 v).set4 m).set5 k).set6 T).set7 K).set8 t
theorem stored9_grown (W : World) (B : Nat) (c l s v m k t : Int) (T K : Value) : W.grownBy (stored9 W B c l s v m k t T K) (some B) :=
  grown_set (grown_set (grown_set (grown_set (grown_set (grown_set (grown_set (grown_set (one_grown13 W B 0 _) 1 _) 2 _) 3 _) 4 _) 5 _) 6 _) 7 _) 8 _

set_option maxRecDepth 100000 in
set_option maxHeartbeats 4000000 in
theorem driveOf_any {w : World} {rm d mn : Nat} (hd : 1 ≤ d ∧ d ≤ 12) :
    Calls Try.prog 36 #[.int .i64 (rm : Int), .int .i64 (d : Int), .int .i64 (mn : Int)] w fun e w' => ∃ g3 g4, e = .returned (.agg #[.int .i64 (rm : Int), .int .i64 (mn : Int), .int .i64 0, .int .i64 0, .int .i64 0, .int .i64 0, .slice (some ⟨g3, 0, none⟩) d d, .slice (some ⟨g4, 0, none⟩) d d, .int .i64 0]) ∧ Own w' w.heap.size 4 (some ⟨g3, 0, none⟩) d d (bools (List.replicate d false)) ∧ Own w' w.heap.size 4 (some ⟨g4, 0, none⟩) d d (bools (List.replicate d false)) ∧ g3 ≠ g4 ∧ Below w.heap.size w w' := by
  obtain ⟨i0, hi, hz0, hz1, hz2⟩ := info_parts Try.infoBool
  obtain ⟨MC, hMC⟩ : ∃ MC, madeCells (Value.cells (.bool false)) (d * 1) = MC := ⟨_, rfl⟩
  have hMl := Lib.hid (show MC.toList = bools (List.replicate d false) by rw [← hMC]; exact made_bools d)
  have hmk : ∀ W : World, (Instr.makeSlice 56 (.int .i64 (d : Int)) (.int .i64 (d : Int))).run Try.prog W = .ok (.slice (some ⟨W.heap.size, 0, none⟩) d d) (W.alloc (.cells MC 4)) := fun W => by
    have := run_make (P := Try.prog) W 56 4 i0 (.bool false) Try.underlying56 hi hz0 .i64 .i64 (d : Int) (d : Int) (by omega) (Int.le_refl _) (by rw [hz2]; omega) (by omega)
    rw [hz1] at this
    simp only [Int.toNat_natCast] at this
    rw [this, hMC]
  clear hMC
  obtain ⟨W0, hW0⟩ : ∃ W0, w.alloc (.cells #[.int .i64 0, .int .i64 0, .int .i64 0, .int .i64 0, .int .i64 0, .int .i64 0, .slice none 0 0, .slice none 0 0, .int .i64 0] 58) = W0 := ⟨_, rfl⟩
  have K0 : DvRow W0 w.heap.size 0 0 0 0 0 0 (.slice none 0 0) (.slice none 0 0) 0 := hW0 ▸ heap_alloc_new w _
  have B0 : Below w.heap.size w W0 := hW0 ▸ below_alloc13 w _
  have KV := K0.bel ((below_alloc13 W0 (.cells MC 4)).alloc (by simp) (.cells MC 4))
  have BV := Lib.hid (((B0.alloc B0.size (.cells MC 4))).alloc (by have := B0.size; simp; omega) (.cells MC 4))
  obtain ⟨c0, c1, c2⟩ := KV.sender
  obtain ⟨c3, c4, c5⟩ := KV.receiver
  obtain ⟨c6, c7, c8⟩ := KV.rings
  have q0 := KV.open_ 0
  have q1 := KV.open_ 1
  have q2 := KV.open_ 2
  have q3 := KV.open_ 3
  have q4 := KV.open_ 4
  have q5 := KV.open_ 5
  have q6 := KV.open_ 6
  have q7 := KV.open_ 7
  have q8 := KV.open_ 8
  have OA : Own ((W0.alloc (.cells MC 4)).alloc (.cells MC 4)) w.heap.size 4 (some ⟨W0.heap.size, 0, none⟩) d d (bools (List.replicate d false)) :=
    Own.bel (own_of_row13 (heap_alloc_new W0 _) hMl.out (by rw [bools_len]; simp) (by unfold maxLen; omega) B0.size) (below_alloc13 _ _)
  have OB : Own ((W0.alloc (.cells MC 4)).alloc (.cells MC 4)) w.heap.size 4 (some ⟨W0.heap.size + 1, 0, none⟩) d d (bools (List.replicate d false)) := by
    have h1 := heap_alloc_new (W0.alloc (.cells MC 4)) (.cells MC 4)
    rw [show (W0.alloc (.cells MC 4)).heap.size = W0.heap.size + 1 by simp] at h1
    exact own_of_row13 h1 hMl.out (by rw [bools_len]; simp) (by unfold maxLen; omega) (by have := B0.size; omega)
  have hlt := K0.lt
  have FIN := fun (T K : Value) => And.intro (stored9_row KV rm mn 0 0 0 0 0 T K) (And.intro (own_keep13 OA (stored9_grown _ w.heap.size rm mn 0 0 0 0 0 T K) (by omega)) (And.intro (own_keep13 OB (stored9_grown _ w.heap.size rm mn 0 0 0 0 0 T K) (by omega)) (BV.out.trans (below_of_grown (stored9_grown _ w.heap.size rm mn 0 0 0 0 0 T K) BV.out.size (fun j hj => by injection hj with hj; omega)))))
  have FA := FIN (.slice (some ⟨W0.heap.size, 0, none⟩) d d) (.slice (some ⟨W0.heap.size + 1, 0, none⟩) d d)
  have FB := FIN (.slice (some ⟨W0.heap.size + 1, 0, none⟩) d d) (.slice (some ⟨W0.heap.size, 0, none⟩) d d)
  unfold stored9 at FA FB
  have HFA := Lib.hid FA
  have HFB := Lib.hid FB
  clear FIN FA FB
  clear KV OA OB hlt
  go_enter Try.func36, Try.ntmps36
  go_wp2
  go_region
  · go_wp2
    obtain ⟨F1, F2, F3, F4⟩ := HFA.out
    refine bodyPost_ret (results_cell_row rfl _ _ _ _ _ _ _ rfl F1.drew Try.underlying58 rfl (by kernel_rfl)) rfl ?_
    exact ⟨W0.heap.size, W0.heap.size + 1, rfl, F2.bel ((Below.refl _ _).drew), F3.bel ((Below.refl _ _).drew), by omega, F4.drew⟩
  · go_wp2
    obtain ⟨F1, F2, F3, F4⟩ := HFB.out
    refine bodyPost_ret (results_cell_row rfl _ _ _ _ _ _ _ rfl F1.drew Try.underlying58 rfl (by kernel_rfl)) rfl ?_
    exact ⟨W0.heap.size + 1, W0.heap.size, rfl, F3.bel ((Below.refl _ _).drew), F2.bel ((Below.refl _ _).drew), by omega, F4.drew⟩
set_option maxRecDepth 100000 in
set_option maxHeartbeats 4000000 in
theorem runOf_any {W : World} {B c l s v m k t mn : Nat} {T K : Value} (h : DvRow W B c l s v m k T K t) :
    Calls Try.prog 39 #[.pointer (some ⟨B, 0, none⟩), .int .i64 (mn : Int)] W fun e W' => e = .returned (crV ⟨s, k, m, t, decide (k = mn)⟩) ∧ Below W.heap.size W W' := by
  obtain ⟨y, hy⟩ : ∃ y, ((k : Int) == (mn : Int)) = y := ⟨_, rfl⟩
  have HY := Lib.hid (show y = decide (k = mn) by
    rw [← hy]
    by_cases e : k = mn
    · simp [e]
    · have : ¬ (k : Int) = (mn : Int) := by omega
      simp [e, this])
  obtain ⟨W0, hW0⟩ : ∃ W0, W.alloc (.cells #[.int .i64 0, .int .i64 0, .int .i64 0, .int .i64 0, .bool false] 27) = W0 := ⟨_, rfl⟩
  have K0 : CrRow W0 W.heap.size 0 0 0 0 false := hW0 ▸ crRow_alloc W 0 0 0 0 false
  have B0 : Below W.heap.size W W0 := hW0 ▸ below_alloc13 W _
  have D0 := h.bel B0
  obtain ⟨c0, c1, c2⟩ := D0.sender
  obtain ⟨c3, c4, c5⟩ := D0.receiver
  obtain ⟨c6, c7, c8⟩ := D0.rings
  obtain ⟨k0, k1, k2, k3, k4⟩ := K0.cells
  have f0 := K0.open_ 0
  have f1 := K0.open_ 1
  have f2 := K0.open_ 2
  have f3 := K0.open_ 3
  have f4 := K0.open_ 4
  have HF := Lib.hid (K0.put s k m t y)
  have HB := Lib.hid (put_below B0 (R := W.heap.size) (Nat.le_refl _) s k m t y)
  have hBl := h.lt
  clear c0 c1 c3 c6 c7 h
  go_enter Try.func39, Try.ntmps39
  go_wp2
  go_region
  all_goals
    go_wp2
    refine bodyPost_ret (results_cell_row rfl _ _ _ _ _ _ _ rfl HF.out Try.underlying27 rfl (by kernel_rfl)) rfl ?_
    exact ⟨ret_cr rfl rfl rfl rfl HY.out, HB.out.drew⟩
end Go.Proofs.Ytkdjcfejkgpplaa
