/-
  Chapter 15's program: what is proved here is what MeetSpans returns, and that it writes nothing that was there. Condition: lengths up to 2^24.
-/
import Derived.Test.YtmifhkhanjiklaaImp15g
import Derived.Laws.StructEq
namespace Go.Proofs.Ytmifhkhanjiklaa
open Go.RowKit

theorem ret_duo1 {x y x' y' : Int} (h : (x, y) = (x', y')) : Ending.returned (.agg #[.int .i64 x, .int .i64 y]) = .returned (.agg #[.int .i64 x', .int .i64 y']) := by
  injection h with h h3
  rw [h, h3]
theorem bySpans_any {x y x' y' v : Int} {w : World} (hv : cmpZ y y' = v) :
    Calls Try.prog 65 #[.agg #[.int .i64 x, .int .i64 y], .agg #[.int .i64 x', .int .i64 y']] w fun e w' => e = .returned (.int .i64 v) ∧ Below w.heap.size w w' := by
  obtain ⟨W1, hW1⟩ : ∃ W1, w.alloc (.cells #[.int .i64 x, .int .i64 y] 84) = W1 := ⟨_, rfl⟩
  have B1 : Below w.heap.size w W1 := hW1 ▸ below_allocQ w _
  have K1 : DRow W1 w.heap.size 84 x y := hW1 ▸ dRow_alloc w _ _ _
  obtain ⟨W2, hW2⟩ : ∃ W2, W1.alloc (.cells #[.int .i64 x', .int .i64 y'] 84) = W2 := ⟨_, rfl⟩
  have B2 : Below W1.heap.size W1 W2 := hW2 ▸ below_allocQ W1 _
  have K2 : DRow W2 W1.heap.size 84 x' y' := hW2 ▸ dRow_alloc W1 _ _ _
  have B3 := bel_trans B1 B2
  obtain ⟨c0, c1⟩ := (K1.bel B2).cells
  obtain ⟨d0, d1⟩ := K2.cells
  have C := Lib.hid (cmpZ_any (w := W2) hv)
  clear K1 K2 B1 B2 hv
  go_enter Try.func65, Try.ntmps65
  go_wp2_with (fail)
  refine C.out.mono ?_
  rintro e w' ⟨rfl, rfl⟩
  go_wp2
  go_ret
  exact ⟨rfl, B3⟩
theorem equal_st (x y xt yt : Int) (b : Bool) (w : World) (h : decide ((x, y) = (xt, yt)) = b) : (Op.equalIn 10000 84 (.agg #[.int .i64 x, .int .i64 y]) (.agg #[.int .i64 xt, .int .i64 yt])).run Try.prog w = .ok b w := by
  have u3 := Try.underlying3
  have a3 := Try.isAgg3
  have z3 := Try.sizeOf3
  have hS : Try.prog.underlying 84 = some (.struct (Try.prog.fieldsOf 84)) := by kernel_rfl
  have hp : Try.prog.stoodInHeld 84 = false := by kernel_rfl
  subst h
  rw [show (10000 : Nat) = 9999 + 1 from rfl, run_equalIn_agg w 9999 84 _ _ hS hp]
  simp only [Program.fieldsOf, Try.underlying84]
  by_cases e0 : x = xt
  rotate_left
  · have b0 : (x == xt) = false := by simp [e0]
    have r : decide ((x, y) = (xt, yt)) = false := decide_eq_false (fun h => e0 (Prod.mk.inj h).1)
    rw [r]
    clear r
    go_simp
  have b0 : (x == xt) = true := by simp [e0]
  by_cases e1 : y = yt
  rotate_left
  · have b1 : (y == yt) = false := by simp [e1]
    have r : decide ((x, y) = (xt, yt)) = false := decide_eq_false (fun h => e1 (Prod.mk.inj h).2)
    rw [r]
    clear r
    go_simp
  have b1 : (y == yt) = true := by simp [e1]
  have r : decide ((x, y) = (xt, yt)) = true := decide_eq_true (by rw [e0, e1])
  rw [r]
  clear r e0 e1
  go_simp
theorem guard_st : Try.prog.eqGuardType Try.prog.depth 84 = false := by kernel_rfl
set_option maxHeartbeats 2000000 in
theorem indexSt_any {A : Option Addr} {n c i : Nat} {L : List Duo} {x y : Int} {w : World} (h : HasD w A n L) (hn : n ≤ 16777216) (hi : i < n) (hx : dj L i = (x, y)) (hne : ∀ j, j < i → dj L j ≠ (x, y)) :
    Calls Try.prog 66 #[.slice A n c, .agg #[.int .i64 x, .int .i64 y]] w fun e w' => e = .returned (.int .i64 (i : Int)) ∧ Below w.heap.size w w' := by
  obtain ⟨W1, hW1⟩ : ∃ W1, w.alloc (.cells #[.int .i64 x, .int .i64 y] 84) = W1 := ⟨_, rfl⟩
  have B1 : Below w.heap.size w W1 := hW1 ▸ below_allocQ w _
  have hR : W1.heap[w.heap.size]? = some (.cells #[.int .i64 x, .int .i64 y] 84 (0, 0)) := by rw [← hW1]; exact heap_alloc_new w _
  have hRl : w.heap.size < W1.heap.size := (Array.getElem?_eq_some_iff.1 hR).1
  have h1 := h.bel B1
  have HX := Lib.hid hx
  have HN := Lib.hid hne
  have GE := guard_st
  clear hx hne
  go_enter Try.func66, Try.ntmps66
  go_wp2
  go_loopw [8] (fun t wr => ∃ k : Nat, k ≤ i ∧ t = .int .i64 (k : Int) ∧ Below W1.heap.size W1 wr) (fun t _ => n - (intOf t).toNat)
  case atStart => exact ⟨0, Nat.zero_le _, rfl, Below.refl _ _⟩
  case round =>
    obtain ⟨k, hk, rfl, B⟩ := hrel
    have hge := B.size
    have hlt : k < n := by omega
    have hltB : decide ((k : Int) < (n : Int)) = true := by simp; omega
    obtain ⟨bb, o, xt, yt, rfl, hbl, he, c0, c1⟩ := (h1.bel B).at_ hlt
    have hR2 : wr.heap[w.heap.size]? = some (.cells #[.int .i64 x, .int .i64 y] 84 (0, 0)) := (B.block _ hRl).trans hR
    obtain ⟨x0, x1⟩ := cells2D hR2
    by_cases hki : k = i
    · have HQ := fun W => equal_st x y xt yt true W (decide_eq_true (by rw [← HX.out, ← hki]; exact dj_atT he))
      have HE := Lib.hid (show (k : Int) = (i : Int) by omega)
      clear he hki
      go_wp2
      go_quiet (fail)
      generalize hw4 : World.drewN _ _ = w4
      have B5 : Below w.heap.size w w4 := hw4 ▸ (bel_trans B1 B).trans (below_drewN _ _)
      clear hw4
      go_wp2
      go_ret
      exact ⟨ret_int HE.out, B5⟩
    · have HQ := fun W => equal_st x y xt yt false W (decide_eq_false (fun hh => HN.out k (by omega) (by rw [hh]; exact dj_atT he)))
      have hk2 : k + 1 ≤ i := by omega
      clear he hki
      go_wp2
      go_quiet (fail)
      generalize hw4 : World.drewN _ _ = w4
      have B5 : Below W1.heap.size W1 w4 := hw4 ▸ B.trans (below_drewN _ _)
      clear hw4
      go_wp2
      go_roundw
      case rel => exact ⟨k + 1, hk2, by go_num, B5⟩
      case measure => simp [intOf]; omega
set_option maxRecDepth 100000 in
set_option maxHeartbeats 4000000 in
theorem maxSt_any {A : Option Addr} {n c : Nat} {L : List Duo} {x y : Int} {w : World} (h : HasD w A n L) (hn : n ≤ 16777216) (hp : 0 < n) (hx : dj L (mostX L (n - 1)) = (x, y)) :
    Calls Try.prog 64 #[.slice A n c, .func (.func 65) #[] #[]] w fun e w' => e = .returned (.agg #[.int .i64 x, .int .i64 y]) ∧ Below w.heap.size w w' := by
  obtain ⟨W0, hW0⟩ : ∃ W0, w.alloc (.cells #[.int .i64 0, .int .i64 0] 84) = W0 := ⟨_, rfl⟩
  have K0 : DRow W0 w.heap.size 84 0 0 := hW0 ▸ dRow_alloc w _ 0 0
  have B0 : Below w.heap.size w W0 := hW0 ▸ below_allocQ w _
  have h0 := h.bel B0
  have HX := Lib.hid hx
  have HL := Lib.hid h.1
  have HK0 := Lib.hid K0
  have sz0 := B0.size
  have p1 : decide ((n : Int) < 1) = false := by simp; omega
  have p2 : (0 : Int) < (n : Int) := by omega
  obtain ⟨b0, o0, xm, ym, hA, hbl0, he0, cm0, cm1⟩ := h0.at_ hp
  subst hA
  simp only [Nat.zero_mul, Nat.add_zero] at cm0 cm1
  obtain ⟨W1, hW1⟩ : ∃ W1, W0.alloc (.cells #[.int .i64 xm, .int .i64 ym] 84) = W1 := ⟨_, rfl⟩
  have K1 : DRow W1 W0.heap.size 84 xm ym := hW1 ▸ dRow_alloc W0 _ _ _
  have B1 : Below W0.heap.size W0 W1 := hW1 ▸ below_allocQ W0 _
  have HM := Lib.hid (show dj L (mostX L 0) = (xm, ym) from dj_atT he0)
  clear hx he0
  go_enter Try.func64, Try.ntmps64
  go_wp2
  go_loopw [6] (fun t wr => ∃ (j : Nat) (xm ym : Int), j + 1 ≤ n ∧ t = .int .i64 ((j : Int) + 1) ∧ Hid (dj L (mostX L j) = (xm, ym)) ∧ DRow wr W0.heap.size 84 xm ym ∧ Below W0.heap.size W0 wr) (fun t _ => n - (intOf t).toNat)
  case atStart => exact ⟨0, xm, ym, by omega, rfl, HM, K1, B1⟩
  case round =>
    clear HM K1 B1 cm0 cm1 hW1
    obtain ⟨j, xm, ym, hj, rfl, HM, K, B⟩ := hrel
    have hge := B.size
    obtain ⟨xm0, xm1⟩ := K.cells
    by_cases hlt : j + 1 < n
    · have q1 : decide ((j : Int) + 1 < (n : Int)) = true := decide_eq_true (by omega)
      have q2 : (0 : Int) ≤ (j : Int) + 1 := by omega
      have q3 : (j : Int) + 1 < (n : Int) := by omega
      have ej : ((j : Int) + 1).toNat = j + 1 := by omega
      obtain ⟨bb, o, xt, yt, hA2, hbl, he, c0, c1⟩ := (h0.bel B).at_ hlt
      injection hA2 with hA2
      injection hA2 with e1 e2
      subst e1 e2
      obtain ⟨v, hv⟩ : ∃ v, cmpZ yt ym = v := ⟨_, rfl⟩
      have r0 := cell_regrown c0
      have s0r := cell_regrown xm0
      have r1 := cell_regrown c1
      have s1r := cell_regrown xm1
      have cR := fun d os => Calls.regrown_of (d := d) (os := os) (w := wr) (bySpans_any (x := xt) (x' := xm) hv)
      by_cases hab : ym < yt
      · have s1 : decide (v > 0) = true := decide_eq_true (by rw [← hv]; unfold cmpZ; rw [if_neg (by omega), if_pos hab]; decide)
        have HM2 : Hid (dj L (mostX L (j + 1)) = (xt, yt)) := by
          have : dj L (mostX L (j + 1)) = (xt, yt) := by rw [most_succ_yes (by rw [dj_atT he, HM.out]; exact hab)]; exact dj_atT he
          exact this
        clear hab he hv
        go_wp2
        refine wp_region_quiet_below (by kernel_rfl) (by kernel_rfl) ?_
        repeat (quiet_step (exact cR _ _))
        refine wpQuiet_nil ?_
        intro w5 hw'
        obtain ⟨⟨dq, osq⟩, hw''⟩ := hw'
        have B5 : Below wr.heap.size wr w5 := hw'' ▸ below_regrown wr dq osq
        clear hw''
        have K5 := K.bel B5
        have B6 := B.trans (B5.mono hge)
        have d0 := (B5.cell (p := ⟨b0, o0 + (j + 1) * 2, none⟩) hbl).trans c0
        have d1 := (B5.cell (p := ⟨b0, o0 + (j + 1) * 2 + 1, none⟩) hbl).trans c1
        obtain ⟨um0, um1⟩ := K5.cells
        have g0 := K5.open_ 0
        have g1 := K5.open_ 1
        have K6 := K5.put xt yt
        have B7 := put_belowD B6 (R := W0.heap.size) (Nat.le_refl _) (.int .i64 xt) (.int .i64 yt)
        clear B5 K5 B6
        go_wp2
        go_roundw
        case rel => exact ⟨j + 1, xt, yt, by omega, by go_num, HM2, K6, B7⟩
        case measure => simp [intOf]; omega
      · have s1 : decide (v > 0) = false := decide_eq_false (by rw [← hv]; unfold cmpZ; rw [if_neg hab]; split <;> decide)
        have HM2 : Hid (dj L (mostX L (j + 1)) = (xm, ym)) := by
          have : dj L (mostX L (j + 1)) = (xm, ym) := by rw [most_succ_no (by rw [dj_atT he, HM.out]; exact hab)]; exact HM.out
          exact this
        clear hab he hv
        go_wp2
        refine wp_region_quiet_below (by kernel_rfl) (by kernel_rfl) ?_
        repeat (quiet_step (exact cR _ _))
        refine wpQuiet_nil ?_
        intro w5 hw'
        obtain ⟨⟨dq, osq⟩, hw''⟩ := hw'
        have B5 : Below wr.heap.size wr w5 := hw'' ▸ below_regrown wr dq osq
        clear hw''
        have K5 := K.bel B5
        have B6 := B.trans (B5.mono hge)
        go_wp2
        go_roundw
        case rel => exact ⟨j + 1, xm, ym, by omega, by go_num, HM2, K5, B6⟩
        case measure => simp [intOf]; omega
    · have q1 : decide ((j : Int) + 1 < (n : Int)) = false := decide_eq_false (by omega)
      have HE := Lib.hid (show (xm, ym) = (x, y) by rw [← HM.out, ← HX.out]; congr 2; omega)
      have K2 := HK0.out.bel B
      have g0 := K2.open_ 0
      have g1 := K2.open_ 1
      obtain ⟨k0, k1⟩ := K2.cells
      have HF := Lib.hid (K2.put xm ym)
      have HB := Lib.hid (put_belowD (bel_trans B0 B) (R := w.heap.size) (Nat.le_refl _) (.int .i64 xm) (.int .i64 ym))
      clear K2 HM B
      go_wp2
      refine bodyPost_ret (results_cell_row rfl _ _ _ _ _ _ _ rfl HF.out Try.underlying84 rfl (by kernel_rfl)) rfl ?_
      exact ⟨ret_duo1 HE.out, HB.out⟩
/-- What is told of spans. -/
def MeetV (w w' : World) (L : List Duo) (e : Ending) : Prop := (∃ lo hi m, e = .returned (.tuple #[.agg #[.int .i64 lo, .int .i64 hi], .int .i64 m]) ∧ MeetR L lo hi m) ∧ Below w.heap.size w w'
theorem meet_stretch {L C : List Duo} {i : Nat} {x y x' y' : Int} (hL : spsOk L) (hC : StrOk L C) (hi : mostX C (C.length - 1) = i) (h1 : dj C i = (x, y)) (h2 : i + 1 < C.length → dj C (i + 1) = (x', y')) :
    i + 1 < C.length ∧ MeetR L x (x' - 1) y := by
  obtain ⟨g1, g2⟩ := meet_of hL hC.1 hC.2.1 hC.2.2.1
  obtain ⟨g3, g4, g5⟩ := g2 i hi
  rw [h1] at g4 g5
  rw [h2 g3] at g5
  dsimp only at g4 g5
  have hok := meet_ok hL g5
  exact ⟨g3, Or.inl ⟨hL, y.toNat, by omega, hok.1, hok.2.1, g5, hok.2.2⟩⟩
set_option maxRecDepth 100000 in
set_option maxHeartbeats 8000000 in
theorem implMeetSpans_any {A : Option Addr} {n c : Nat} {L : List Duo} {w : World} (h : HasD w A n L) (hn : n ≤ 16777216) :
    Calls Try.prog 34 #[.slice A n c] w fun e w' => MeetV w w' L e := by
  have hl := h.1
  obtain ⟨W0, hW0⟩ : ∃ W0, w.alloc (.cells #[.int .i64 0, .int .i64 0] 30) = W0 := ⟨_, rfl⟩
  have K0 : DRow W0 w.heap.size 30 0 0 := hW0 ▸ dRow_alloc w _ 0 0
  have B0 : Below w.heap.size w W0 := hW0 ▸ below_allocQ w _
  have h0 := h.bel B0
  have sz0 := B0.size
  by_cases hok : spsOk L
  rotate_left
  · have C := Lib.hid (areSp_b (c := c) h0 hn (decide_eq_false hok))
    have HE := Lib.hid (show MeetR L 0 0 0 from Or.inr ⟨hok, rfl, rfl, rfl⟩)
    clear hok h h0 hl
    go_enter Try.func34, Try.ntmps34
    go_wp2_with (fail)
    refine C.out.mono ?_
    rintro e w3 ⟨rfl, B3⟩
    have K2 := K0.bel B3
    have s2 := bel_trans B0 B3
    have g0 := K2.open_ 0
    have g1 := K2.open_ 1
    obtain ⟨q0, q1⟩ := K2.cells
    have HF := Lib.hid (K2.put 0 0)
    have HB := Lib.hid (put_belowD s2 (R := w.heap.size) (Nat.le_refl _) (.int .i64 0) (.int .i64 0))
    clear B3 K2 s2 K0 B0
    go_wp2
    refine bodyPost_ret (results_row_tmpQ rfl _ _ _ _ _ _ _ rfl HF.out Try.underlying30 rfl (by kernel_rfl)) rfl ?_
    exact ⟨⟨_, _, _, rfl, HE.out⟩, HB.out⟩
  have C := Lib.hid (areSp_b (c := c) h0 hn (decide_eq_true hok))
  have HOK := Lib.hid hok
  have hp : 0 < n := by have := hok.1.1; omega
  have hn40 : n ≤ 40 := by have := hok.1.2; omega
  have CS := Lib.hid (fun (W : World) (hW : HasD W A n L) => stretchesOf_any (c := c) hW hn40 hp HOK.out.2)
  have HK0 := Lib.hid K0
  clear hok hl h
  go_enter Try.func34, Try.ntmps34
  go_wp2_with (fail)
  refine C.out.mono ?_
  rintro e w3 ⟨rfl, B3⟩
  have h3 := h0.bel B3
  go_wp2_with (fail)
  refine (CS.out _ h3).mono ?_
  rintro e w4 ⟨g, m, c', S, rfl, O4, hS, B4⟩
  have B34 := bel_trans B3 B4
  have h4 := O4.has
  have HSL := Lib.hid O4.len
  have HSO := Lib.hid hS
  have hm : 0 < m := by have := (meet_of HOK.out hS.1 hS.2.1 hS.2.2.1).1; have := HSL.out; omega
  have hm80 : m ≤ 80 := by have := hS.2.2.2.2; have := HSL.out; omega
  obtain ⟨i, hi⟩ : ∃ i, mostX S (m - 1) = i := ⟨_, rfl⟩
  obtain ⟨⟨x, y⟩, hx⟩ : ∃ q, dj S i = q := ⟨_, rfl⟩
  obtain ⟨⟨x', y'⟩, hx'⟩ : ∃ q, dj S (i + 1) = q := ⟨_, rfl⟩
  obtain ⟨hi1, HME⟩ := meet_stretch HOK.out hS (by rw [HSL.out]; exact hi) hx (fun _ => hx')
  have hi2 : i + 1 < m := by have := HSL.out; omega
  have HM := Lib.hid HME
  have hxb := hS.2.2.2.1 _ (dj_memT hi1)
  rw [hx'] at hxb
  dsimp only at hxb
  have CM := Lib.hid (fun (W : World) (hW : HasD W (some ⟨g, 0, none⟩) m S) => maxSt_any (c := c') (x := x) (y := y) hW (by omega) hm (by rw [hi]; exact hx))
  have CI := Lib.hid (fun (W : World) (hW : HasD W (some ⟨g, 0, none⟩) m S) => indexSt_any (c := c') (i := i) (x := x) (y := y) hW (by omega) (by omega) hx (fun j hj => by
    have := most_first (C := S) (k := m - 1) (i := j) (by rw [hi]; exact hj)
    rw [hi, hx] at this
    exact this))
  have HX' := Lib.hid hx'
  clear hS HME hi1 hx hx' hi O4 B3 B4 h3 h0 C CS
  go_wp2_with (fail)
  refine (CM.out _ h4).mono ?_
  rintro e w5 ⟨rfl, B5⟩
  have B05 := bel_trans B34 B5
  obtain ⟨w6, hw6⟩ : ∃ w6, w5.alloc (.cells #[.int .i64 x, .int .i64 y] 84) = w6 := ⟨_, rfl⟩
  have B6 : Below w5.heap.size w5 w6 := hw6 ▸ below_allocQ w5 _
  have K6 : DRow w6 w5.heap.size 84 x y := hw6 ▸ dRow_alloc w5 _ x y
  obtain ⟨a0, a1⟩ := K6.cells
  have h6 := h4.bel (bel_trans B5 B6)
  have B06 := bel_trans B05 B6
  have hlt5 : w.heap.size < w5.heap.size := Nat.lt_of_lt_of_le HK0.out.lt B05.size
  clear B34 B5 B05 h4
  go_wp2_with (fail)
  refine (CI.out _ h6).mono ?_
  rintro e w7 ⟨rfl, B7⟩
  have h7 := h6.bel B7
  have K7 := K6.bel B7
  obtain ⟨v0, v1⟩ := K7.cells
  have B07 := bel_trans B06 B7
  have i1 : IntKind.i64.wrap ((i : Int) + 1) = (i : Int) + 1 := IntWalk.i64_in _ (by omega)
  have i2 : (0 : Int) ≤ (i : Int) + 1 := by omega
  have i3 : (i : Int) + 1 < (m : Int) := by omega
  have i4 : ((i : Int) + 1).toNat = i + 1 := by omega
  obtain ⟨bb, o, hA, hbl, c0, c1⟩ := h7.row hi2
  injection hA with hA
  injection hA with e1 e2
  subst e1 e2
  rw [HX'.out] at c0 c1
  simp only [Nat.zero_add] at c0 c1
  obtain ⟨w8, hw8⟩ : ∃ w8, w7.alloc (.cells #[.int .i64 x', .int .i64 y'] 84) = w8 := ⟨_, rfl⟩
  have B8 : Below w7.heap.size w7 w8 := hw8 ▸ below_allocQ w7 _
  have K8 : DRow w8 w7.heap.size 84 x' y' := hw8 ▸ dRow_alloc w7 _ x' y'
  have K78 := K7.bel B8
  have B08 := bel_trans B07 B8
  have K0' := HK0.out.bel B08
  obtain ⟨z0, z1⟩ := K8.cells
  obtain ⟨u0, u1⟩ := K78.cells
  obtain ⟨k0, k1⟩ := K0'.cells
  have f0 := K0'.open_ 0
  have f1 := K0'.open_ 1
  have wx : IntKind.i64.wrap (x' - 1) = x' - 1 := IntWalk.i64_in _ (by omega)
  have u2 := far2Q (w := w8) (a := .int .i64 x) (b := .int .i64 (x' - 1)) (R := w.heap.size) (by omega) u1
  have HF := Lib.hid (show DRow ((w8.drew.setCell ⟨w.heap.size, 0, none⟩ (.int .i64 x)).setCell ⟨w.heap.size, 1, none⟩ (.int .i64 (x' - 1))) w.heap.size 30 x (x' - 1) from DRow.put (w := w8.drew) (show DRow w8.drew w.heap.size 30 0 0 from K0') x (x' - 1))
  have HB := Lib.hid (put_belowD (bel_trans B0 B08).drew (R := w.heap.size) (Nat.le_refl _) (.int .i64 x) (.int .i64 (x' - 1)))
  clear B0 B06 B07 B08 B6 B7 B8 K6 K7 K8 K78 K0' h6 h7 CI CM
  go_wp2
  go_region
  all_goals
    go_wp2
    refine bodyPost_ret (results_row_tmpQ rfl _ _ _ _ _ _ _ rfl HF.out Try.underlying30 rfl (by kernel_rfl)) rfl ?_
    exact ⟨⟨_, _, _, rfl, HM.out⟩, HB.out⟩
end Go.Proofs.Ytmifhkhanjiklaa
