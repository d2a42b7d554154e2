/-
  Chapter 15's program: what is proved here is what MinFunc and Index of exchanges and BestOf return, and that they write nothing that was there. Condition: lengths up to 2^24.
-/
import Derived.Test.YtmifhkhanjiklaaImp15c
import Derived.Laws.StructEq
namespace Go.Proofs.Ytmifhkhanjiklaa
open Go.RowKit

theorem ret_quad1 {x y z u x' y' z' u' : Int} (h : (x, y, z, u) = (x', y', z', u')) : Ending.returned (.agg #[.int .i64 x, .int .i64 y, .int .i64 z, .int .i64 u]) = .returned (.agg #[.int .i64 x', .int .i64 y', .int .i64 z', .int .i64 u']) := by
  injection h with h h3
  injection h3 with h3 h4
  injection h4 with h4 h5
  rw [h, h3, h4, h5]
theorem equal_ex (x y z u xt yt zt ut : Int) (b : Bool) (w : World) (h : decide ((x, y, z, u) = (xt, yt, zt, ut)) = b) : (Op.equalIn 10000 26 (.agg #[.int .i64 x, .int .i64 y, .int .i64 z, .int .i64 u]) (.agg #[.int .i64 xt, .int .i64 yt, .int .i64 zt, .int .i64 ut])).run Try.prog w = .ok b w := by
  have u3 := Try.underlying3
  have a3 := Try.isAgg3
  have z3 := Try.sizeOf3
  have hS : Try.prog.underlying 26 = some (.struct (Try.prog.fieldsOf 26)) := by kernel_rfl
  have hp : Try.prog.stoodInHeld 26 = false := by kernel_rfl
  subst h
  rw [show (10000 : Nat) = 9999 + 1 from rfl, run_equalIn_agg w 9999 26 _ _ hS hp]
  simp only [Program.fieldsOf, Try.underlying26]
  by_cases e0 : x = xt
  rotate_left
  · have b0 : (x == xt) = false := by simp [e0]
    have r : decide ((x, y, z, u) = (xt, yt, zt, ut)) = false := decide_eq_false (fun h => e0 (Prod.mk.inj h).1)
    rw [r]
    clear r
    go_simp
  have b0 : (x == xt) = true := by simp [e0]
  by_cases e1 : y = yt
  rotate_left
  · have b1 : (y == yt) = false := by simp [e1]
    have r : decide ((x, y, z, u) = (xt, yt, zt, ut)) = false := decide_eq_false (fun h => e1 (Prod.mk.inj (Prod.mk.inj h).2).1)
    rw [r]
    clear r
    go_simp
  have b1 : (y == yt) = true := by simp [e1]
  by_cases e2 : z = zt
  rotate_left
  · have b2 : (z == zt) = false := by simp [e2]
    have r : decide ((x, y, z, u) = (xt, yt, zt, ut)) = false := decide_eq_false (fun h => e2 (Prod.mk.inj (Prod.mk.inj (Prod.mk.inj h).2).2).1)
    rw [r]
    clear r
    go_simp
  have b2 : (z == zt) = true := by simp [e2]
  by_cases e3 : u = ut
  rotate_left
  · have b3 : (u == ut) = false := by simp [e3]
    have r : decide ((x, y, z, u) = (xt, yt, zt, ut)) = false := decide_eq_false (fun h => e3 (Prod.mk.inj (Prod.mk.inj (Prod.mk.inj h).2).2).2)
    rw [r]
    clear r
    go_simp
  have b3 : (u == ut) = true := by simp [e3]
  have r : decide ((x, y, z, u) = (xt, yt, zt, ut)) = true := decide_eq_true (by rw [e0, e1, e2, e3])
  rw [r]
  clear r e0 e1 e2 e3
  go_simp
theorem guard_ex : Try.prog.eqGuardType Try.prog.depth 26 = false := by kernel_rfl
set_option maxHeartbeats 2000000 in
theorem indexEx_any {A : Option Addr} {n c i : Nat} {L : List Quad} {x y z u : Int} {w : World} (h : HasQ w A n L) (hn : n ≤ 16777216) (hi : i < n) (hx : dq L i = (x, y, z, u)) (hne : ∀ j, j < i → dq L j ≠ (x, y, z, u)) :
    Calls Try.prog 58 #[.slice A n c, .agg #[.int .i64 x, .int .i64 y, .int .i64 z, .int .i64 u]] w fun e w' => e = .returned (.int .i64 (i : Int)) ∧ Below w.heap.size w w' := by
  obtain ⟨W1, hW1⟩ : ∃ W1, w.alloc (.cells #[.int .i64 x, .int .i64 y, .int .i64 z, .int .i64 u] 26) = W1 := ⟨_, rfl⟩
  have B1 : Below w.heap.size w W1 := hW1 ▸ below_allocQ w _
  have hR : W1.heap[w.heap.size]? = some (.cells #[.int .i64 x, .int .i64 y, .int .i64 z, .int .i64 u] 26 (0, 0)) := by rw [← hW1]; exact heap_alloc_new w _
  have hRl : w.heap.size < W1.heap.size := (Array.getElem?_eq_some_iff.1 hR).1
  have h1 := h.bel B1
  have HX := Lib.hid hx
  have HN := Lib.hid hne
  have GE := guard_ex
  clear hx hne
  go_enter Try.func58, Try.ntmps58
  go_wp2
  go_loopw [8] (fun t wr => ∃ k : Nat, k ≤ i ∧ t = .int .i64 (k : Int) ∧ Below W1.heap.size W1 wr) (fun t _ => n - (intOf t).toNat)
  case atStart => exact ⟨0, Nat.zero_le _, rfl, Below.refl _ _⟩
  case round =>
    obtain ⟨k, hk, rfl, B⟩ := hrel
    have hge := B.size
    have hlt : k < n := by omega
    have hltB : decide ((k : Int) < (n : Int)) = true := by simp; omega
    obtain ⟨bb, o, xt, yt, zt, ut, rfl, hbl, he, c0, c1, c2, c3⟩ := (h1.bel B).at_ hlt
    have hR2 : wr.heap[w.heap.size]? = some (.cells #[.int .i64 x, .int .i64 y, .int .i64 z, .int .i64 u] 26 (0, 0)) := (B.block _ hRl).trans hR
    obtain ⟨x0, x1, x2, x3⟩ := cells4Q hR2
    by_cases hki : k = i
    · have HQ := fun W => equal_ex x y z u xt yt zt ut true W (decide_eq_true (by rw [← HX.out, ← hki]; exact dq_at he))
      have HE := Lib.hid (show (k : Int) = (i : Int) by omega)
      clear he hki
      go_wp2
      go_quiet (fail)
      generalize hw4 : World.drewN _ _ = w4
      have B5 : Below w.heap.size w w4 := hw4 ▸ (bel_trans B1 B).trans (below_drewN _ _)
      clear hw4
      go_wp2
      go_ret
      exact ⟨ret_int HE.out, B5⟩
    · have HQ := fun W => equal_ex x y z u xt yt zt ut false W (decide_eq_false (fun hh => HN.out k (by omega) (by rw [hh]; exact dq_at he)))
      have hk2 : k + 1 ≤ i := by omega
      clear he hki
      go_wp2
      go_quiet (fail)
      generalize hw4 : World.drewN _ _ = w4
      have B5 : Below W1.heap.size W1 w4 := hw4 ▸ B.trans (below_drewN _ _)
      clear hw4
      go_wp2
      go_roundw
      case rel => exact ⟨k + 1, hk2, by go_num, B5⟩
      case measure => simp [intOf]; omega
set_option maxRecDepth 100000 in
set_option maxHeartbeats 4000000 in
theorem minEx_any {A : Option Addr} {n c : Nat} {L : List Quad} {x y z u : Int} {w : World} (h : HasQ w A n L) (hn : n ≤ 16777216) (hp : 0 < n) (hx : dq L (bestX L (n - 1)) = (x, y, z, u)) :
    Calls Try.prog 59 #[.slice A n c, .func (.func 60) #[] #[]] w fun e w' => e = .returned (.agg #[.int .i64 x, .int .i64 y, .int .i64 z, .int .i64 u]) ∧ Below w.heap.size w w' := by
  obtain ⟨W0, hW0⟩ : ∃ W0, w.alloc (.cells #[.int .i64 0, .int .i64 0, .int .i64 0, .int .i64 0] 26) = W0 := ⟨_, rfl⟩
  have K0 : QRow W0 w.heap.size 26 0 0 0 0 := hW0 ▸ qRow_alloc w _ 0 0 0 0
  have B0 : Below w.heap.size w W0 := hW0 ▸ below_allocQ w _
  have h0 := h.bel B0
  have HX := Lib.hid hx
  have HL := Lib.hid h.1
  have HK0 := Lib.hid K0
  have sz0 := B0.size
  have p1 : decide ((n : Int) < 1) = false := by simp; omega
  have p2 : (0 : Int) < (n : Int) := by omega
  obtain ⟨b0, o0, xm, ym, zm, um, hA, hbl0, he0, cm0, cm1, cm2, cm3⟩ := h0.at_ hp
  subst hA
  simp only [Nat.zero_mul, Nat.add_zero] at cm0 cm1 cm2 cm3
  obtain ⟨W1, hW1⟩ : ∃ W1, W0.alloc (.cells #[.int .i64 xm, .int .i64 ym, .int .i64 zm, .int .i64 um] 26) = W1 := ⟨_, rfl⟩
  have K1 : QRow W1 W0.heap.size 26 xm ym zm um := hW1 ▸ qRow_alloc W0 _ _ _ _ _
  have B1 : Below W0.heap.size W0 W1 := hW1 ▸ below_allocQ W0 _
  have HM := Lib.hid (show dq L (bestX L 0) = (xm, ym, zm, um) from dq_at he0)
  clear hx he0
  go_enter Try.func59, Try.ntmps59
  go_wp2
  go_loopw [6] (fun t wr => ∃ (j : Nat) (xm ym zm um : Int), j + 1 ≤ n ∧ t = .int .i64 ((j : Int) + 1) ∧ Hid (dq L (bestX L j) = (xm, ym, zm, um)) ∧ QRow wr W0.heap.size 26 xm ym zm um ∧ Below W0.heap.size W0 wr) (fun t _ => n - (intOf t).toNat)
  case atStart => exact ⟨0, xm, ym, zm, um, by omega, rfl, HM, K1, B1⟩
  case round =>
    clear HM K1 B1 cm0 cm1 cm2 cm3 hW1
    obtain ⟨j, xm, ym, zm, um, hj, rfl, HM, K, B⟩ := hrel
    have hge := B.size
    obtain ⟨xm0, xm1, xm2, xm3⟩ := K.cells
    by_cases hlt : j + 1 < n
    · have q1 : decide ((j : Int) + 1 < (n : Int)) = true := decide_eq_true (by omega)
      have q2 : (0 : Int) ≤ (j : Int) + 1 := by omega
      have q3 : (j : Int) + 1 < (n : Int) := by omega
      have ej : ((j : Int) + 1).toNat = j + 1 := by omega
      obtain ⟨bb, o, xt, yt, zt, ut, hA2, hbl, he, c0, c1, c2, c3⟩ := (h0.bel B).at_ hlt
      injection hA2 with hA2
      injection hA2 with e1 e2
      subst e1 e2
      obtain ⟨a, ha⟩ : ∃ a, wayI (xt, yt, zt, ut) = a := ⟨_, rfl⟩
      obtain ⟨b, hb⟩ : ∃ b, wayI (xm, ym, zm, um) = b := ⟨_, rfl⟩
      obtain ⟨v, hv⟩ : ∃ v, cmpZ a b = v := ⟨_, rfl⟩
      have r0 := cell_regrown c0
      have s0r := cell_regrown xm0
      have r1 := cell_regrown c1
      have s1r := cell_regrown xm1
      have r2 := cell_regrown c2
      have s2r := cell_regrown xm2
      have r3 := cell_regrown c3
      have s3r := cell_regrown xm3
      have cR := fun d os => Calls.regrown_of (d := d) (os := os) (w := wr) (byWay_any ha hb hv)
      by_cases hab : a < b
      · have s1 : decide (v < 0) = true := decide_eq_true (by rw [← hv]; unfold cmpZ; rw [if_pos hab]; decide)
        have HM2 : Hid (dq L (bestX L (j + 1)) = (xt, yt, zt, ut)) := by
          have : dq L (bestX L (j + 1)) = (xt, yt, zt, ut) := by rw [best_succ_yes (by rw [dq_at he, HM.out, ha, hb]; exact hab)]; exact dq_at he
          exact this
        clear hab he ha hb hv
        go_wp2
        refine wp_region_quiet_below (by kernel_rfl) (by kernel_rfl) ?_
        repeat (quiet_step (exact cR _ _))
        refine wpQuiet_nil ?_
        intro w5 hw'
        obtain ⟨⟨dq, osq⟩, hw''⟩ := hw'
        have B5 : Below wr.heap.size wr w5 := hw'' ▸ below_regrown wr dq osq
        clear hw''
        have K5 := K.bel B5
        have B6 := B.trans (B5.mono hge)
        have d0 := (B5.cell (p := ⟨b0, o0 + (j + 1) * 4, none⟩) hbl).trans c0
        have d1 := (B5.cell (p := ⟨b0, o0 + (j + 1) * 4 + 1, none⟩) hbl).trans c1
        have d2 := (B5.cell (p := ⟨b0, o0 + (j + 1) * 4 + 2, none⟩) hbl).trans c2
        have d3 := (B5.cell (p := ⟨b0, o0 + (j + 1) * 4 + 3, none⟩) hbl).trans c3
        obtain ⟨um0, um1, um2, um3⟩ := K5.cells
        have g0 := K5.open_ 0
        have g1 := K5.open_ 1
        have g2 := K5.open_ 2
        have g3 := K5.open_ 3
        have K6 := K5.put xt yt zt ut
        have B7 := put_belowQ B6 (R := W0.heap.size) (Nat.le_refl _) (.int .i64 xt) (.int .i64 yt) (.int .i64 zt) (.int .i64 ut)
        clear B5 K5 B6
        go_wp2
        go_roundw
        case rel => exact ⟨j + 1, xt, yt, zt, ut, by omega, by go_num, HM2, K6, B7⟩
        case measure => simp [intOf]; omega
      · have s1 : decide (v < 0) = false := decide_eq_false (by rw [← hv]; unfold cmpZ; rw [if_neg hab]; split <;> decide)
        have HM2 : Hid (dq L (bestX L (j + 1)) = (xm, ym, zm, um)) := by
          have : dq L (bestX L (j + 1)) = (xm, ym, zm, um) := by rw [best_succ_no (by rw [dq_at he, HM.out, ha, hb]; exact hab)]; exact HM.out
          exact this
        clear hab he ha hb hv
        go_wp2
        refine wp_region_quiet_below (by kernel_rfl) (by kernel_rfl) ?_
        repeat (quiet_step (exact cR _ _))
        refine wpQuiet_nil ?_
        intro w5 hw'
        obtain ⟨⟨dq, osq⟩, hw''⟩ := hw'
        have B5 : Below wr.heap.size wr w5 := hw'' ▸ below_regrown wr dq osq
        clear hw''
        have K5 := K.bel B5
        have B6 := B.trans (B5.mono hge)
        go_wp2
        go_roundw
        case rel => exact ⟨j + 1, xm, ym, zm, um, by omega, by go_num, HM2, K5, B6⟩
        case measure => simp [intOf]; omega
    · have q1 : decide ((j : Int) + 1 < (n : Int)) = false := decide_eq_false (by omega)
      have HE := Lib.hid (show (xm, ym, zm, um) = (x, y, z, u) by rw [← HM.out, ← HX.out]; congr 2; omega)
      have K2 := HK0.out.bel B
      have g0 := K2.open_ 0
      have g1 := K2.open_ 1
      have g2 := K2.open_ 2
      have g3 := K2.open_ 3
      obtain ⟨k0, k1, k2, k3⟩ := K2.cells
      have HF := Lib.hid (K2.put xm ym zm um)
      have HB := Lib.hid (put_belowQ (bel_trans B0 B) (R := w.heap.size) (Nat.le_refl _) (.int .i64 xm) (.int .i64 ym) (.int .i64 zm) (.int .i64 um))
      clear K2 HM B
      go_wp2
      refine bodyPost_ret (results_cell_row rfl _ _ _ _ _ _ _ rfl HF.out Try.underlying26 rfl (by kernel_rfl)) rfl ?_
      exact ⟨ret_quad1 HE.out, HB.out⟩
set_option maxHeartbeats 2000000 in
theorem implBestOf_r {A : Option Addr} {n c : Nat} {xs : List Quad} {r : Int} {w : World} (h : HasQ w A n xs) (hn : n ≤ 16777216) (hr : bestI xs = r) :
    Calls Try.prog 31 #[.slice A n c] w fun e w' => e = .returned (.int .i64 r) ∧ Below w.heap.size w w' := by
  have hl := h.1
  by_cases hok : exsOk xs
  rotate_left
  · have C := Lib.hid (areEx_b (c := c) h hn (decide_eq_false hok))
    have HE := Lib.hid (show (-1 : Int) = r by rw [← hr]; exact (if_neg hok).symm)
    clear hok hr
    go_enter Try.func31, Try.ntmps31
    go_wp2_with (fail)
    refine C.out.mono ?_
    rintro e w1 ⟨rfl, B1⟩
    go_wp2
    go_ret
    exact ⟨ret_int HE.out, B1⟩
  have C := Lib.hid (areEx_b (c := c) h hn (decide_eq_true hok))
  have hp : 0 < n := by have := hok.1.1; omega
  obtain ⟨i, hi⟩ : ∃ i, bestX xs (n - 1) = i := ⟨_, rfl⟩
  have hin : i < n := by have := best_le xs (n - 1); omega
  have HE := Lib.hid (show (i : Int) = r by rw [← hr]; unfold bestI; rw [if_pos hok, hl, hi])
  obtain ⟨⟨x, y, z, u⟩, hx⟩ : ∃ q, dq xs i = q := ⟨_, rfl⟩
  have hne : ∀ j, j < i → dq xs j ≠ (x, y, z, u) := fun j hj => by
    have := best_first (xs := xs) (k := n - 1) (i := j) (by rw [hi]; exact hj)
    rw [hi, hx] at this
    exact this
  have CM := Lib.hid (fun (W : World) (hW : HasQ W A n xs) => minEx_any (c := c) (x := x) (y := y) (z := z) (u := u) hW hn hp (by rw [hi]; exact hx))
  have CI := Lib.hid (fun (W : World) (hW : HasQ W A n xs) => indexEx_any (c := c) hW hn hin hx hne)
  clear hok hr hi hx hne
  go_enter Try.func31, Try.ntmps31
  go_wp2_with (fail)
  refine C.out.mono ?_
  rintro e w1 ⟨rfl, B1⟩
  go_wp2_with (fail)
  refine (CM.out _ (h.bel B1)).mono ?_
  rintro e w2 ⟨rfl, B2⟩
  have B3 := bel_trans B1 B2
  go_wp2_with (fail)
  refine (CI.out _ (h.bel B3)).mono ?_
  rintro e w4 ⟨rfl, B4⟩
  have B5 := bel_trans B3 B4
  go_wp2
  go_ret
  exact ⟨ret_int HE.out, B5⟩
end Go.Proofs.Ytmifhkhanjiklaa
