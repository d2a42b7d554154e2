/-
  Chapter 7's program, the next claims: what is proved here is what nextClaims returns, in memory of its own, and that it writes nothing that was there. Condition: cables as they may be.
-/
import Derived.Test.YtkmdpmhaljieaaaImp7f
import Derived.Deep.RegionHeld3
import Derived.Deep.Cut
import Derived.Deep.CutRange
namespace Go.Proofs.Ytkmdpmhaljieaaa
open Go.RowKit

theorem four_cells {w : World} {B : Nat} {x y z u : Value} {t : TypeId} (h : w.heap[B]? = some (.cells #[x, y, z, u] t (0, 0))) :
    w.frozen? ⟨B, 0, none⟩ = false ∧ w.frozen? ⟨B, 1, none⟩ = false ∧ w.frozen? ⟨B, 2, none⟩ = false ∧ w.frozen? ⟨B, 3, none⟩ = false :=
  ⟨frozen_of_row w B 0 _ t h, frozen_of_row w B 1 _ t h, frozen_of_row w B 2 _ t h, frozen_of_row w B 3 _ t h⟩
theorem four_set {w : World} {B : Nat} {a b c d : Value} {t : TypeId} (h : w.heap[B]? = some (.cells #[a, b, c, d] t (0, 0))) (x y z u : Value) :
    ((((w.setCell ⟨B, 0, none⟩ x).setCell ⟨B, 1, none⟩ y).setCell ⟨B, 2, none⟩ z).setCell ⟨B, 3, none⟩ u).heap[B]? = some (.cells #[x, y, z, u] t (0, 0)) :=
  (heap_setCell_same _ B 3 _ t u ((heap_setCell_same _ B 2 _ t z ((heap_setCell_same _ B 1 _ t y ((heap_setCell_same w B 0 _ t x h).trans rfl)).trans rfl)).trans rfl)).trans rfl
theorem four_below {L : Nat} {w w' : World} (h : Below L w w') {B : Nat} (hB : L ≤ B) (x y z u : Value) : Below L w ((((w'.setCell ⟨B, 0, none⟩ x).setCell ⟨B, 1, none⟩ y).setCell ⟨B, 2, none⟩ z).setCell ⟨B, 3, none⟩ u) :=
  (((h.setCell (p := ⟨B, 0, none⟩) hB x).setCell (p := ⟨B, 1, none⟩) hB y).setCell (p := ⟨B, 2, none⟩) hB z).setCell (p := ⟨B, 3, none⟩) hB u
theorem put4_below {L : Nat} {w w' : World} (h : Below L w w') {g : Nat} (hg : L ≤ g) (i : Nat) (x : List Int) : Below L w (put4 w' g i x) :=
  (((h.setCell (p := ⟨g, i * 4, none⟩) hg _).setCell (p := ⟨g, i * 4 + 1, none⟩) hg _).setCell (p := ⟨g, i * 4 + 2, none⟩) hg _).setCell (p := ⟨g, i * 4 + 3, none⟩) hg _
/-- What stands when bridge b has heard over j of its cables. -/
def outE (n : Nat) (cs : List Cab) (cl : List (List Int)) (b j : Nat) : List (List Int) :=
  (List.range n).map fun v => if v < b then bestTo cs cl v cs.length else if v = b then bestE cl b ((endsTo cs b cs.length).take j) else clm0 v
theorem outE_len (n : Nat) (cs : List Cab) (cl : List (List Int)) (b j : Nat) : (outE n cs cl b j).length = n := by simp [outE]
theorem outE_at {n : Nat} {cs : List Cab} {cl : List (List Int)} {b j v : Nat} (h : v < n) : (outE n cs cl b j)[v]? = some (if v < b then bestTo cs cl v cs.length else if v = b then bestE cl b ((endsTo cs b cs.length).take j) else clm0 v) := by simp [outE, h]
theorem outE_zero (n : Nat) (cs : List Cab) (cl : List (List Int)) : outE n cs cl 0 0 = firstL n := by
  unfold outE firstL
  refine List.map_congr_left fun v _ => ?_
  rw [if_neg (by omega)]
  split
  · rename_i h; rw [h]; rfl
  · rfl
theorem outE_next (n : Nat) (cs : List Cab) (cl : List (List Int)) (b : Nat) : outE n cs cl b (endsTo cs b cs.length).length = outE n cs cl (b + 1) 0 := by
  unfold outE
  refine List.map_congr_left fun v _ => ?_
  by_cases h1 : v < b
  · rw [if_pos h1, if_pos (by omega)]
  · rw [if_neg h1]
    by_cases h2 : v = b
    · rw [if_pos h2, if_pos (by omega), h2, List.take_of_length_le (Nat.le_refl _), bestE_to]
    · rw [if_neg h2, if_neg (by omega)]
      split
      · rename_i h; rw [h]; rfl
      · rfl
theorem outE_end (n : Nat) (cs : List Cab) (cl : List (List Int)) : outE n cs cl n 0 = nextN n cs cl := by
  unfold outE nextN
  refine List.map_congr_left fun v hv => ?_
  rw [if_pos (List.mem_range.1 hv)]
theorem outE_step {n : Nat} {cs : List Cab} {cl : List (List Int)} {b j : Nat} {e : Cab} (hb : b < n) (he : (endsTo cs b cs.length)[j]? = some e) :
    outE n cs cl b (j + 1) = (outE n cs cl b j).set b (stepE cl (bestE cl b ((endsTo cs b cs.length).take j)) e) := by
  apply List.ext_getElem?
  intro v
  by_cases hv : v < n
  · rw [outE_at hv]
    by_cases h2 : v = b
    · subst h2
      rw [if_neg (by omega), if_pos rfl, List.getElem?_set_self (by rw [outE_len]; exact hv), List.take_add_one, he, ← bestE_snoc]; rfl
    · rw [List.getElem?_set_ne (Ne.symm h2), outE_at hv, if_neg h2, if_neg h2]
  · rw [List.getElem?_eq_none (by rw [outE_len]; omega), List.getElem?_eq_none (by rw [List.length_set, outE_len]; omega)]
theorem set_same {l : List (List Int)} {i : Nat} {x : List Int} (h : l[i]? = some x) : l.set i x = l := by
  obtain ⟨hi, rfl⟩ := List.getElem?_eq_some_iff.1 h
  exact List.set_getElem_self hi

set_option maxRecDepth 100000 in
set_option maxHeartbeats 16000000 in
theorem nextClaims_any {A B : Option Addr} {ca cb m : Nat} {cs : List Cab} {cl : List (List Int)} {w : World} (hE : HasE w A m (endsN m cs)) (hC : HasC w B m cl) (hc : cabsOk m cs) (h8 : m ≤ 8) (hn20 : cs.length ≤ 20) (hcl : ∀ o, o < m → 0 ≤ gi (clmAt cl o) 1 ∧ gi (clmAt cl o) 1 ≤ 100000) :
    Calls Try.prog 72 #[.slice A m ca, .slice B m cb] w fun e w' => ∃ g, e = .returned (.slice (some ⟨g, 0, none⟩) m m) ∧ OwnC w' w.heap.size (some ⟨g, 0, none⟩) m m (nextN m cs cl) ∧ Below w.heap.size w w' := by
  have HC := Lib.hid hc
  have HCL := Lib.hid hcl
  clear hc hcl
  go_enter Try.func72, Try.ntmps72
  go_wp2_with (fail)
  refine (firstClaims_any (w := w) h8).mono ?_
  rintro e w1 ⟨g, rfl, O1, B1⟩
  have hg0 := O1.block.1
  rw [← outE_zero m cs cl] at O1
  go_wp2
  go_loopw [16] (fun t wx => ∃ b : Nat, b ≤ m ∧ t = .int .i64 (b : Int) ∧ OwnC wx w.heap.size (some ⟨g, 0, none⟩) m m (outE m cs cl b 0) ∧ Below w.heap.size w wx) (fun t _ => m - (intOf t).toNat)
  case atStart => exact ⟨0, Nat.zero_le _, rfl, O1, B1⟩
  case round =>
    obtain ⟨b, hb, rfl, O2, B2⟩ := hrel
    by_cases hbm : b < m
    · have hbmB : decide ((b : Int) < (m : Int)) = true := by simp; omega
      obtain ⟨be, oe, BE, qe, de, zs, rfl, hzs, hcw, hKe⟩ := hE.2 b hbm
      have hce := (B2.cell (p := ⟨be, oe + b, none⟩) (World.block_lt_of_cell? w _ hcw)).trans hcw
      obtain rfl : zs = endsTo cs b cs.length := by have := endsK_at (cs := cs) (k := cs.length) hbm; unfold endsN at hzs; rw [this] at hzs; injection hzs with hzs; exact hzs.symm
      have HQ := Lib.hid (show qe = (endsTo cs b cs.length).length by have := hKe.1; rw [List.length_map] at this; exact this.symm)
      have hqe : qe ≤ 20 := by have h2 := endsTo_len cs b cs.length; have h3 := HQ.out; omega
      clear hzs hcw
      go_wp2
      go_loopw [23] (fun t wx => ∃ j : Nat, j ≤ qe ∧ t = .int .i64 (j : Int) ∧ OwnC wx w.heap.size (some ⟨g, 0, none⟩) m m (outE m cs cl b j) ∧ Below w.heap.size w wx) (fun t _ => qe - (intOf t).toNat)
      case atStart => exact ⟨0, Nat.zero_le _, rfl, O2, B2⟩
      case round =>
        obtain ⟨j, hj, rfl, O3, B3⟩ := hrel
        have s3 := B3.size
        by_cases hlj : j < qe
        · have hljB : decide ((j : Int) < (qe : Int)) = true := by simp; omega
          have hjl : j < (endsTo cs b cs.length).length := by rw [← HQ.out]; exact hlj
          obtain ⟨be2, oe2, rfl, hbl2, d0, d1, d2⟩ := (hKe.bel B3).cab7 hlj
          have hok := (endsTo_edge (cs := cs) (b := b) (e := cab (endsTo cs b cs.length) j) (cab_mem hjl)).ok HC.out
          have hx2 : (endsTo cs b cs.length)[j]? = some (cab (endsTo cs b cs.length) j) := by unfold cab; rw [List.getD_eq_getElem?_getD, List.getElem?_eq_getElem hjl]; rfl
          obtain ⟨ee, hee⟩ : ∃ e, cab (endsTo cs b cs.length) j = e := ⟨_, rfl⟩
          rw [hee] at d0 d1 d2 hok hx2
          have HS := Lib.hid (outE_step (cl := cl) hbm hx2)
          have HAT := Lib.hid (show (outE m cs cl b j)[b]? = some (bestE cl b ((endsTo cs b cs.length).take j)) by rw [outE_at hbm, if_neg (by omega), if_pos rfl])
          generalize bestE cl b ((endsTo cs b cs.length).take j) = bo at HS HAT
          obtain ⟨e1, e2, e3⟩ := ee
          simp only at d0 d1 d2 hok
          have he1 : e1 < m := hok.2.1
          have he3 : e3 ≤ 99 := hok.2.2.2.2
          have hgc := HCL.out e1 he1
          have HST := Lib.hid (show stepE cl bo (e1, e2, e3) = if less4 (heardOf cl (e1, e2, e3)) bo then heardOf cl (e1, e2, e3) else bo from rfl)
          have HHD := Lib.hid (show heardOf cl (e1, e2, e3) = [gi (clmAt cl e1) 0, gi (clmAt cl e1) 1 + (e3 : Int), (e1 : Int), (e2 : Int)] from rfl)
          -- the end of a cable in its own variable
          have hEn := heap_alloc_new wr (.cells #[.int .i64 (e1 : Int), .int .i64 (e2 : Int), .int .i64 (e3 : Int)] 100)
          have hEz := heap_alloc_new wr (.cells #[.int .i64 0, .int .i64 0, .int .i64 0] 100)
          obtain ⟨q0, q1, q2⟩ := cells3K hEz
          have BZ := (Below.refl wr.heap.size wr).alloc (Nat.le_refl _) (.cells #[.int .i64 (e1 : Int), .int .i64 (e2 : Int), .int .i64 (e3 : Int)] 100)
          have sZ : wr.heap.size < (wr.alloc (.cells #[.int .i64 (e1 : Int), .int .i64 (e2 : Int), .int .i64 (e3 : Int)] 100)).heap.size := by simp
          generalize hWZ : wr.alloc (.cells #[.int .i64 (e1 : Int), .int .i64 (e2 : Int), .int .i64 (e3 : Int)] 100) = wz at hEn BZ sZ
          obtain ⟨D, hD⟩ : ∃ D, wz.drew = D := ⟨_, rfl⟩
          have BD : Below wr.heap.size wr D := hD ▸ BZ.trans (below_drewN _ 1)
          have BDw : Below w.heap.size w D := B3.trans (BD.mono s3)
          have sDl : wr.heap.size < D.heap.size := hD ▸ sZ
          have hED : D.heap[wr.heap.size]? = some (.cells #[.int .i64 (e1 : Int), .int .i64 (e2 : Int), .int .i64 (e3 : Int)] 100 (0, 0)) := by rw [← hD]; exact hEn
          obtain ⟨bc, oc, rfl, cc0, cc1, cc2, cc3⟩ := hC.2 e1 he1
          have hbc : bc < w.heap.size := World.block_lt_of_cell? w _ cc0
          have KEEP := Lib.hid (fun (W : World) (hW : Below D.heap.size D W) => show (W.cell? ⟨wr.heap.size, 0, none⟩ = some (.int .i64 (e1 : Int)) ∧ W.cell? ⟨wr.heap.size, 1, none⟩ = some (.int .i64 (e2 : Int)) ∧ W.cell? ⟨wr.heap.size, 2, none⟩ = some (.int .i64 (e3 : Int))) ∧ W.cell? ⟨bc, oc + e1 * 4, none⟩ = some (.int .i64 (gi (clmAt cl e1) 0)) ∧ W.cell? ⟨bc, oc + e1 * 4 + 1, none⟩ = some (.int .i64 (gi (clmAt cl e1) 1)) ∧ W.cell? ⟨bc, oc + e1 * 4 + 2, none⟩ = some (.int .i64 (gi (clmAt cl e1) 2)) ∧ W.cell? ⟨bc, oc + e1 * 4 + 3, none⟩ = some (.int .i64 (gi (clmAt cl e1) 3)) from by
            have hWw : Below w.heap.size w W := BDw.trans (hW.mono BDw.size)
            exact ⟨cells3K ((hW.block wr.heap.size sDl).trans hED), (hWw.cell (p := ⟨bc, oc + e1 * 4, none⟩) hbc).trans cc0, (hWw.cell (p := ⟨bc, oc + e1 * 4 + 1, none⟩) hbc).trans cc1, (hWw.cell (p := ⟨bc, oc + e1 * 4 + 2, none⟩) hbc).trans cc2, (hWw.cell (p := ⟨bc, oc + e1 * 4 + 3, none⟩) hbc).trans cc3⟩)
          have OV := Lib.hid (fun (W : World) => over_any (clmAt cl e1) (e1 : Int) (e2 : Int) (e3 : Int) W hgc ⟨by omega, by omega⟩)
          generalize hy0 : gi (clmAt cl e1) 0 = y0 at *
          generalize hy1 : gi (clmAt cl e1) 1 = y1 at *
          generalize hy2 : gi (clmAt cl e1) 2 = y2 at *
          generalize hy3 : gi (clmAt cl e1) 3 = y3 at *
          have DZ := heap_alloc_new D (.cells #[.int .i64 0, .int .i64 0, .int .i64 0, .int .i64 0] 69)
          have BDZ := (Below.refl D.heap.size D).alloc (Nat.le_refl _) (.cells #[.int .i64 0, .int .i64 0, .int .i64 0, .int .i64 0] 69)
          obtain ⟨DX, hDX⟩ : ∃ W, D.alloc (.cells #[.int .i64 0, .int .i64 0, .int .i64 0, .int .i64 0] 69) = W := ⟨_, rfl⟩
          have sDX : D.heap.size < DX.heap.size := by rw [← hDX]; simp
          rw [hDX] at DZ BDZ
          clear hx2 hee hok hEz hy0 hy1 hy2 hy3 cc0 cc1 cc2 cc3 hgc
          go_upto_region 8 with fail
          go_cut [10] from 27 to 33 (fun v wx => ∃ gh, v = .pointer (some ⟨gh, 0, none⟩) ∧ D.heap.size ≤ gh ∧ wx.heap[gh]? = some (.cells #[.int .i64 y0, .int .i64 (y1 + (e3 : Int)), .int .i64 (e1 : Int), .int .i64 (e2 : Int)] 69 (0, 0)) ∧ Below D.heap.size D wx)
          case first =>
            go_region_held3 (fun W => (W.cell? ⟨wr.heap.size, 0, none⟩ = some (.int .i64 (e1 : Int)) ∧ W.cell? ⟨wr.heap.size, 1, none⟩ = some (.int .i64 (e2 : Int)) ∧ W.cell? ⟨wr.heap.size, 2, none⟩ = some (.int .i64 (e3 : Int))) ∧ W.cell? ⟨bc, oc + e1 * 4, none⟩ = some (.int .i64 y0) ∧ W.cell? ⟨bc, oc + e1 * 4 + 1, none⟩ = some (.int .i64 y1) ∧ W.cell? ⟨bc, oc + e1 * 4 + 2, none⟩ = some (.int .i64 y2) ∧ W.cell? ⟨bc, oc + e1 * 4 + 3, none⟩ = some (.int .i64 y3)) (first | exact KEEP.out _ (Below.refl _ _) | (rw [hD]; exact KEEP.out _ (Below.refl _ _)) | exact KEEP.out _ BDZ | exact KEEP.out _ B5 | exact KEEP.out _ (B5.alloc B5.size _) | exact KEEP.out _ (four_below B5 (Nat.le_refl _) _ _ _ _) | exact KEEP.out _ (four_below (B5.alloc B5.size _) B5.size _ _ _ _) | (simp only [hDX]; exact KEEP.out _ BDZ)) (first | (go_at_call 91; refine (OV.out _).mono ?_; rintro e w5 ⟨rfl, B6⟩; have B5 : Below D.heap.size D w5 := (by first | exact B6 | exact bel_trans BDZ B6); (try (have zc := cells4 ((B6.block D.heap.size sDX).trans DZ); have zf := four_cells ((B6.block D.heap.size sDX).trans DZ); obtain ⟨zc0, zc1, zc2, zc3⟩ := zc; obtain ⟨zf0, zf1, zf2, zf3⟩ := zf)); (try (have zc := cells4 (heap_alloc_new w5 (.cells #[.int .i64 0, .int .i64 0, .int .i64 0, .int .i64 0] 69)); have zf := four_cells (heap_alloc_new w5 (.cells #[.int .i64 0, .int .i64 0, .int .i64 0, .int .i64 0] 69)); obtain ⟨zd0, zd1, zd2, zd3⟩ := zc; obtain ⟨ze0, ze1, ze2, ze3⟩ := zf))))
            all_goals
              go_wp2_with fail
              go_meet
              first
                | exact ⟨_, rfl, B5.size, heap_alloc_new w5 _, B5.alloc B5.size _⟩
                | exact ⟨_, rfl, B5.size, four_set (heap_alloc_new w5 _) _ _ _ _, four_below (B5.alloc B5.size _) B5.size _ _ _ _⟩
                | exact ⟨_, rfl, Nat.le_refl _, four_set ((B6.block D.heap.size sDX).trans DZ) _ _ _ _, four_below B5 (Nat.le_refl _) _ _ _ _⟩
          case rest =>
          obtain ⟨gh, rfl, hgh, hHeap, B6⟩ := hcut
          have BR := BD.trans (B6.mono BD.size)
          have O4 := O3.bel BR
          have BW := B3.trans (BR.mono s3)
          clear KEEP OV DZ BDZ hDX sDX hED sDl BDw BD B6 hD q0 q1 q2 hEn BZ sZ hWZ d0 d1 d2 O3 BR
          have HB := Lib.hid (show clmAt (outE m cs cl b j) b = bo by unfold clmAt; rw [List.getD_eq_getElem?_getD, HAT.out]; rfl)
          obtain ⟨k0, k1, k2, k3⟩ := O4.at_ hbm
          rw [HB.out] at k0 k1 k2 k3
          obtain ⟨x0, x1, x2, x3⟩ := cells4 hHeap
          have hghl : gh < wc.heap.size := World.block_lt_of_cell? wc _ x0
          have hHP := Lib.hid hHeap
          have hgl : g < wc.heap.size := O4.block.2
          have CM := Lib.hid (fun (W : World) => (show Calls Try.prog 92 #[.agg #[.int .i64 y0, .int .i64 (y1 + (e3 : Int)), .int .i64 (e1 : Int), .int .i64 (e2 : Int)], .agg #[.int .i64 (gi bo 0), .int .i64 (gi bo 1), .int .i64 (gi bo 2), .int .i64 (gi bo 3)]] W fun e w' => e = .returned (.int .i64 (cmp4 [y0, y1 + (e3 : Int), (e1 : Int), (e2 : Int)] bo)) ∧ Below W.heap.size W w' from compareClaims_any [y0, y1 + (e3 : Int), (e1 : Int), (e2 : Int)] bo W))
          have HLS := Lib.hid (cmp4_less [y0, y1 + (e3 : Int), (e1 : Int), (e2 : Int)] bo)
          generalize cmp4 [y0, y1 + (e3 : Int), (e1 : Int), (e2 : Int)] bo = cv at CM HLS
          generalize gi bo 0 = b0 at *
          generalize gi bo 1 = b1 at *
          generalize gi bo 2 = b2 at *
          generalize gi bo 3 = b3 at *
          obtain ⟨hy, hhy⟩ : ∃ v : Int, y1 + (e3 : Int) = v := ⟨_, rfl⟩
          rw [hhy] at HLS HHD CM x1 hHP
          clear hHeap hhy
          have DB : Below wc.heap.size wc wc.drew := (Below.refl _ _).drew
          by_cases hless : less4 [y0, hy, (e1 : Int), (e2 : Int)] bo
          · have hcB : decide (cv < 0) = true := by rw [HLS.out]; exact decide_eq_true hless
            have HN := Lib.hid (show outE m cs cl b (j + 1) = (outE m cs cl b j).set b [y0, hy, (e1 : Int), (e2 : Int)] by rw [HS.out, HST.out, if_pos (by rw [HHD.out]; exact hless), HHD.out])
            clear hless
            go_upto_region 9 with fail
            go_region_with (first | (go_at_call 92; refine (CM.out _).mono ?_; rintro e w7 ⟨rfl, B7⟩))
            all_goals
              have B8 := bel_trans DB B7
              obtain ⟨x0, x1, x2, x3⟩ := cells4 ((B8.block gh hghl).trans hHP.out)
              have O5 := O4.bel B8
              have fz := O5.frozen
              have f0 := fz (b * 4)
              have f1 := fz (b * 4 + 1)
              have f2 := fz (b * 4 + 2)
              have f3 := fz (b * 4 + 3)
              obtain ⟨k0, k1, k2, k3⟩ := O5.at_ hbm
              clear fz
              go_wp2
              go_roundw
            all_goals first
              | exact ⟨j + 1, by omega, by go_num, by rw [HN.out]; exact (O5.put b [y0, hy, (e1 : Int), (e2 : Int)]).1, put4_below (BW.trans (B8.mono BW.size)) hg0 b [y0, hy, (e1 : Int), (e2 : Int)]⟩
              | (simp [intOf]; omega)
          · have hcB : decide (cv < 0) = false := by rw [HLS.out]; exact decide_eq_false hless
            have HN := Lib.hid (show outE m cs cl b (j + 1) = outE m cs cl b j by rw [HS.out, HST.out, if_neg (by rw [HHD.out]; exact hless), set_same HAT.out])
            clear hless
            go_upto_region 9 with fail
            go_region_with (first | (go_at_call 92; refine (CM.out _).mono ?_; rintro e w7 ⟨rfl, B7⟩))
            all_goals
              have B8 := bel_trans DB B7
              go_wp2
              go_roundw
            all_goals first
              | exact ⟨j + 1, by omega, by go_num, by rw [HN.out]; exact O4.bel B8, BW.trans (B8.mono BW.size)⟩
              | (simp [intOf]; omega)
        · have hljB : decide ((j : Int) < (qe : Int)) = false := by simp; omega
          obtain rfl : j = qe := by omega
          rw [HQ.out, outE_next] at O3
          go_wp2
          go_roundw
          case rel => exact ⟨b + 1, by omega, by go_num, O3, B3⟩
          case measure => simp [intOf]; omega
    · have hbmB : decide ((b : Int) < (m : Int)) = false := by simp; omega
      obtain rfl : b = m := by omega
      rw [outE_end] at O2
      go_wp2
      go_ret
      exact ⟨_, rfl, O2, B2⟩
end Go.Proofs.Ytkmdpmhaljieaaa
