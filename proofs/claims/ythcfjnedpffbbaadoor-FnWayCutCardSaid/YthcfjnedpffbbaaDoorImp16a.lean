/-
  Chapter 16's program, the small ones: what is proved here is what isWide, isFabric, isNode, spotOf, nodeAt, plus and towards return, and that they write nothing that was there. Condition: numbers up to 65536.
-/
import Derived.Test.YthcfjnedpffbbaaDoorMathFab
import Derived.Test.YthcfjnedpffbbaaDoorFabA
import Derived.Test.YthcfjnedpffbbaaDoorDuo
import Derived.StillTailTactics
import Derived.BigQuiet
namespace Go.Proofs.YthcfjnedpffbbaaDoor
open Go.RowKit

/-- A row of ints is no block of another type. -/
theorem own_not16 {W : World} {lo n c B : Nat} {A : Option Addr} {xs : List Value} {fz : Nat × Nat} {t : TypeId} {cs : Array Value} (h : Own W lo 3 A n c xs) (hB : W.heap[B]? = some (.cells cs t fz)) (ht : t ≠ 3) : A.map (·.block) ≠ some B := by
  intro e
  cases A with
  | none => cases e
  | some a =>
    have e2 : a.block = B := by simpa using e
    rcases h.2 with ⟨hv, _⟩ | ⟨g, cap, cur, hv, _, hgb, _⟩
    · cases hv
    · injection hv with hA _ _
      injection hA with hA
      subst hA
      have : g = B := e2
      subst this
      rw [hB] at hgb
      injection hgb with hgb
      injection hgb with _ ht2
      exact ht ht2
set_option maxHeartbeats 2000000 in
theorem isWide_any (n : Int) (w : World) : Calls Tryd.prog 88 #[.int .i64 n] w fun e w' => e = .returned (.bool (decide (1 ≤ n) && decide (n ≤ 5))) ∧ w = w' := by
  by_cases h : 1 ≤ n
  · have h1 : decide (1 ≤ n) = true := by simp; omega
    have h2 : decide (n ≥ 1) = true := by simp; omega
    rw [h1]
    go_enter Tryd.func88, Tryd.ntmps88
    go_wp2
    go_ret
    exact ⟨rfl, rfl⟩
  · have h1 : decide (1 ≤ n) = false := by simp; omega
    have h2 : decide (n ≥ 1) = false := by simp; omega
    rw [h1]
    go_enter Tryd.func88, Tryd.ntmps88
    go_wp2
    go_ret
    exact ⟨rfl, rfl⟩
set_option maxHeartbeats 2000000 in
theorem isFabric_b {w h : Int} {W : World} {v : Bool} (hv : decide (okWH w h) = v) : Calls Tryd.prog 81 #[.agg #[.int .i64 w, .int .i64 h]] W fun e W' => e = .returned (.bool v) ∧ Below W.heap.size W W' := by
  have HE := Lib.hid ((okWH_b w h).trans hv)
  obtain ⟨Wa, hWa⟩ : ∃ Wa, W.alloc (.cells #[.int .i64 w, .int .i64 h] 51) = Wa := ⟨_, rfl⟩
  have Ka : Duo2 Wa W.heap.size 51 w h := hWa ▸ duo2_alloc W _ _ _
  have Ba : Below W.heap.size W Wa := hWa ▸ below_alloc16 W _
  obtain ⟨v0, v1⟩ := Ka.cells
  clear hv
  cases h1 : (decide (1 ≤ w) && decide (w ≤ 5)) <;> rw [h1] at HE
  · have C1 := Lib.hid (fun W => isWide_any w W)
    rw [h1] at C1
    clear h1
    go_enter Tryd.func81, Tryd.ntmps81
    go_wp2_with (fail)
    refine (C1.out _).mono ?_
    rintro e w' ⟨rfl, rfl⟩
    go_wp2
    go_ret
    exact ⟨ret_bool (by have := HE.out; simpa using this), Ba⟩
  · have C1 := Lib.hid (fun W => isWide_any w W)
    have C2 := Lib.hid (fun W => isWide_any h W)
    rw [h1] at C1
    clear h1
    go_enter Tryd.func81, Tryd.ntmps81
    go_wp2_with (fail)
    refine (C1.out _).mono ?_
    rintro e w' ⟨rfl, rfl⟩
    go_wp2_with (fail)
    refine (C2.out _).mono ?_
    rintro e w' ⟨rfl, rfl⟩
    go_wp2
    go_ret
    exact ⟨ret_bool (by have := HE.out; simpa using this), Ba⟩
set_option maxHeartbeats 2000000 in
theorem isNode_b {w h a : Int} {W : World} {v : Bool} (hv : decide (okN w h a) = v) : Calls Tryd.prog 48 #[.agg #[.int .i64 w, .int .i64 h], .int .i64 a] W fun e W' => e = .returned (.bool v) ∧ Below W.heap.size W W' := by
  obtain ⟨Wa, hWa⟩ : ∃ Wa, W.alloc (.cells #[.int .i64 w, .int .i64 h] 51) = Wa := ⟨_, rfl⟩
  have Ka : Duo2 Wa W.heap.size 51 w h := hWa ▸ duo2_alloc W _ _ _
  have Ba : Below W.heap.size W Wa := hWa ▸ below_alloc16 W _
  obtain ⟨v0, v1⟩ := Ka.cells
  by_cases k : okWH w h
  rotate_left
  · have C1 := Lib.hid (fun W => isFabric_b (W := W) (decide_eq_false k))
    have HE := Lib.hid (show false = v by rw [← hv]; exact (decide_eq_false fun q => k q.1).symm)
    clear k hv
    go_enter Tryd.func48, Tryd.ntmps48
    go_wp2_with (fail)
    refine (C1.out _).mono ?_
    rintro e w' ⟨rfl, B2⟩
    go_wp2
    go_ret
    exact ⟨ret_bool HE.out, bel_trans Ba B2⟩
  have C1 := Lib.hid (fun W => isFabric_b (W := W) (decide_eq_true k))
  obtain ⟨m, hm, m0, m1⟩ := l16_mul k
  by_cases h0 : 0 ≤ a
  rotate_left
  · have b0 : decide (0 ≤ a) = false := by simp; omega
    have b1 : decide (a ≥ 0) = false := by simp; omega
    have HE := Lib.hid (show false = v by rw [← hv]; exact (decide_eq_false fun q => h0 q.2.1).symm)
    clear k hv h0
    go_enter Tryd.func48, Tryd.ntmps48
    go_wp2_with (fail)
    refine (C1.out _).mono ?_
    rintro e w' ⟨rfl, B2⟩
    go_wp2
    go_ret
    exact ⟨ret_bool HE.out, bel_trans Ba B2⟩
  have b0 : decide (0 ≤ a) = true := by simp; omega
  have b1 : decide (a ≥ 0) = true := by simp; omega
  have HE := Lib.hid (show decide (a < m) = v by
    rw [← hv]
    apply decide_eq_decide.2
    unfold okN
    rw [hm]
    exact ⟨fun q => ⟨k, h0, q⟩, fun q => q.2.2⟩)
  clear k hv h0
  go_enter Tryd.func48, Tryd.ntmps48
  go_wp2_with (fail)
  refine (C1.out _).mono ?_
  rintro e w' ⟨rfl, B2⟩
  obtain ⟨u0, u1⟩ := (Ka.bel B2).cells
  go_wp2
  go_ret
  exact ⟨ret_bool HE.out, bel_trans Ba B2⟩
set_option maxHeartbeats 4000000 in
theorem spotOf_any {w a : Nat} {h : Int} {W : World} (hw : 1 ≤ w) (hw5 : w ≤ 65536) (ha : a ≤ 65536) : Calls Tryd.prog 49 #[.agg #[.int .i64 (w : Int), .int .i64 h], .int .i64 (a : Int)] W fun e W' => e = .returned (.agg #[.int .i64 ((a % w : Nat) : Int), .int .i64 ((a / w : Nat) : Int)]) ∧ Below W.heap.size W W' := by
  have e1 : (a : Int) % (w : Int) = ((a % w : Nat) : Int) := (Int.natCast_emod a w).symm
  have e2 : (a : Int) / (w : Int) = ((a / w : Nat) : Int) := (Int.natCast_ediv a w).symm
  have bx : a % w < 65536 := by have := Nat.mod_lt a (y := w) (by omega); omega
  have b_y : a / w ≤ 65536 := by have := Nat.div_le_self a w; omega
  generalize a % w = x at *
  generalize a / w = y at *
  obtain ⟨Wa, hWa⟩ : ∃ Wa, W.alloc (.cells #[.int .i64 (w : Int), .int .i64 h] 51) = Wa := ⟨_, rfl⟩
  have Ka : Duo2 Wa W.heap.size 51 (w : Int) h := hWa ▸ duo2_alloc W _ _ _
  have Ba : Below W.heap.size W Wa := hWa ▸ below_alloc16 W _
  obtain ⟨W0, hW0⟩ : ∃ W0, Wa.alloc (.cells #[.int .i64 0, .int .i64 0] 54) = W0 := ⟨_, rfl⟩
  have K0 : Duo2 W0 Wa.heap.size 54 0 0 := hW0 ▸ duo2_alloc Wa _ 0 0
  have Bb : Below Wa.heap.size Wa W0 := hW0 ▸ below_alloc16 Wa _
  have B0 := bel_trans Ba Bb
  obtain ⟨v0, v1⟩ := (Ka.bel Bb).cells
  have sa := Ba.size
  have sr : W.heap.size < Wa.heap.size := Ka.lt
  have hRne : Wa.heap.size ≠ W.heap.size := by omega
  have g0 := K0.open_ 0
  have g1 := K0.open_ 1
  obtain ⟨q0, q1⟩ := K0.cells
  go_enter Tryd.func49, Tryd.ntmps49
  go_wp2
  go_region
  all_goals
    have HF := Lib.hid (K0.put (x : Int) (y : Int))
    have HB := Lib.hid ((put_below2 B0 sa (.int .i64 (x : Int)) (.int .i64 (y : Int))).drew)
    go_wp2
    refine bodyPost_ret (results_cell_row rfl _ _ _ _ _ _ _ rfl HF.out Tryd.underlying54 rfl (by kernel_rfl)) rfl ?_
    exact ⟨rfl, HB.out⟩
set_option maxHeartbeats 4000000 in
theorem nodeAt_any {w x y : Nat} {h : Int} {W : World} (hw : w ≤ 65536) (hx : x ≤ 65536) (hy : y ≤ 65536) : Calls Tryd.prog 84 #[.agg #[.int .i64 (w : Int), .int .i64 h], .agg #[.int .i64 (x : Int), .int .i64 (y : Int)]] W fun e W' => e = .returned (.int .i64 ((atN w (x, y) : Nat) : Int)) ∧ Below W.heap.size W W' := by
  obtain ⟨m, hm⟩ : ∃ m, w * y = m := ⟨_, rfl⟩
  have hmi : (w : Int) * (y : Int) = (m : Int) := by rw [← hm]; exact (Int.natCast_mul w y).symm
  have hm2 : m ≤ 4294967296 := by rw [← hm]; exact (Nat.mul_le_mul hw hy : w * y ≤ 65536 * 65536)
  have HE := Lib.hid (show (x : Int) + (m : Int) = ((atN w (x, y) : Nat) : Int) by unfold atN; simp only []; rw [hm]; omega)
  obtain ⟨Wa, hWa⟩ : ∃ Wa, W.alloc (.cells #[.int .i64 (w : Int), .int .i64 h] 51) = Wa := ⟨_, rfl⟩
  have Ka : Duo2 Wa W.heap.size 51 (w : Int) h := hWa ▸ duo2_alloc W _ _ _
  have Ba : Below W.heap.size W Wa := hWa ▸ below_alloc16 W _
  obtain ⟨W0, hW0⟩ : ∃ W0, Wa.alloc (.cells #[.int .i64 (x : Int), .int .i64 (y : Int)] 54) = W0 := ⟨_, rfl⟩
  have K0 : Duo2 W0 Wa.heap.size 54 (x : Int) (y : Int) := hW0 ▸ duo2_alloc Wa _ _ _
  have Bb : Below Wa.heap.size Wa W0 := hW0 ▸ below_alloc16 Wa _
  have B0 := bel_trans Ba Bb
  obtain ⟨v0, v1⟩ := (Ka.bel Bb).cells
  obtain ⟨q0, q1⟩ := K0.cells
  clear hm
  go_enter Tryd.func84, Tryd.ntmps84
  go_wp2
  go_ret
  exact ⟨ret_int HE.out, B0⟩
set_option maxHeartbeats 4000000 in
theorem plus_any {x y u v : Int} {W : World} (hx : -65536 ≤ x ∧ x ≤ 65536) (hy : -65536 ≤ y ∧ y ≤ 65536) (hu : -65536 ≤ u ∧ u ≤ 65536) (hv : -65536 ≤ v ∧ v ≤ 65536) : Calls Tryd.prog 82 #[.agg #[.int .i64 x, .int .i64 y], .agg #[.int .i64 u, .int .i64 v]] W fun e W' => e = .returned (.agg #[.int .i64 (x + u), .int .i64 (y + v)]) ∧ Below W.heap.size W W' := by
  obtain ⟨a, ha⟩ : ∃ a, x + u = a := ⟨_, rfl⟩
  obtain ⟨b, hb⟩ : ∃ b, y + v = b := ⟨_, rfl⟩
  have ha2 : -131072 ≤ a ∧ a ≤ 131072 := by omega
  have hb2 : -131072 ≤ b ∧ b ≤ 131072 := by omega
  obtain ⟨Wa, hWa⟩ : ∃ Wa, W.alloc (.cells #[.int .i64 x, .int .i64 y] 54) = Wa := ⟨_, rfl⟩
  have Ka : Duo2 Wa W.heap.size 54 x y := hWa ▸ duo2_alloc W _ _ _
  have Ba : Below W.heap.size W Wa := hWa ▸ below_alloc16 W _
  obtain ⟨Wb, hWb⟩ : ∃ Wb, Wa.alloc (.cells #[.int .i64 u, .int .i64 v] 54) = Wb := ⟨_, rfl⟩
  have Kb : Duo2 Wb Wa.heap.size 54 u v := hWb ▸ duo2_alloc Wa _ _ _
  have Bb : Below Wa.heap.size Wa Wb := hWb ▸ below_alloc16 Wa _
  obtain ⟨W0, hW0⟩ : ∃ W0, Wb.alloc (.cells #[.int .i64 0, .int .i64 0] 54) = W0 := ⟨_, rfl⟩
  have K0 : Duo2 W0 Wb.heap.size 54 0 0 := hW0 ▸ duo2_alloc Wb _ 0 0
  have Bc : Below Wb.heap.size Wb W0 := hW0 ▸ below_alloc16 Wb _
  have B0 := bel_trans (bel_trans Ba Bb) Bc
  obtain ⟨v0, v1⟩ := ((Ka.bel Bb).bel Bc).cells
  obtain ⟨u0, u1⟩ := (Kb.bel Bc).cells
  have sa := (bel_trans Ba Bb).size
  have sr : Wa.heap.size < Wb.heap.size := Kb.lt
  have sr2 : W.heap.size < Wa.heap.size := Ka.lt
  have g0 := K0.open_ 0
  have g1 := K0.open_ 1
  obtain ⟨q0, q1⟩ := K0.cells
  have HF := Lib.hid (K0.put a b)
  have HB := Lib.hid (put_below2 B0 sa (.int .i64 a) (.int .i64 b))
  have HA := Lib.hid ha
  have HBB := Lib.hid hb
  go_enter Tryd.func82, Tryd.ntmps82
  go_wp2
  refine bodyPost_ret (results_cell_row rfl _ _ _ _ _ _ _ rfl HF.out Tryd.underlying54 rfl (by kernel_rfl)) rfl ?_
  exact ⟨ret_duo2 HA.out.symm HBB.out.symm, HB.out⟩
/-- cmp.Compare of whole numbers. -/
def cmp16 (x y : Int) : Int := if x < y then -1 else if y < x then 1 else 0
theorem isNaN16 (x : Int) (w : World) : Calls Tryd.prog 91 #[.int .i64 x] w fun e w' => e = .returned (.bool false) ∧ w = w' := by
  have b1 : (x != x) = false := by simp
  go_enter Tryd.func91, Tryd.ntmps91
  go_wp2
  go_ret
  exact ⟨rfl, rfl⟩
set_option maxHeartbeats 1000000 in
theorem cmp16_any {x y v : Int} {w : World} (hv : cmp16 x y = v) : Calls Tryd.prog 89 #[.int .i64 x, .int .i64 y] w fun e w' => e = .returned (.int .i64 v) ∧ w = w' := by
  have HV := Lib.hid hv
  have C := Lib.hid (fun x : Int => isNaN16 x w)
  clear hv
  by_cases h1 : x < y
  · have b1 : decide (x < y) = true := decide_eq_true h1
    have HE := Lib.hid (show (-1 : Int) = v by rw [← HV.out]; unfold cmp16; rw [if_pos h1])
    clear h1
    go_enter Tryd.func89, Tryd.ntmps89
    go_wp2_with (fail)
    refine (C.out _).mono ?_
    rintro e w' ⟨rfl, rfl⟩
    go_wp2_with (fail)
    refine (C.out _).mono ?_
    rintro e w' ⟨rfl, rfl⟩
    go_wp2
    go_ret
    exact ⟨ret_int HE.out, rfl⟩
  have b1 : decide (x < y) = false := decide_eq_false h1
  by_cases h2 : y < x
  · have b2 : decide (y < x) = true := decide_eq_true h2
    have b3 : decide (x > y) = true := decide_eq_true h2
    have HE := Lib.hid (show (1 : Int) = v by rw [← HV.out]; unfold cmp16; rw [if_neg h1, if_pos h2])
    clear h1 h2
    go_enter Tryd.func89, Tryd.ntmps89
    go_wp2_with (fail)
    refine (C.out _).mono ?_
    rintro e w' ⟨rfl, rfl⟩
    go_wp2_with (fail)
    refine (C.out _).mono ?_
    rintro e w' ⟨rfl, rfl⟩
    go_wp2
    go_ret
    exact ⟨ret_int HE.out, rfl⟩
  have b2 : decide (y < x) = false := decide_eq_false h2
  have b3 : decide (x > y) = false := decide_eq_false h2
  have HE := Lib.hid (show (0 : Int) = v by rw [← HV.out]; unfold cmp16; rw [if_neg h1, if_neg h2])
  clear h1 h2
  go_enter Tryd.func89, Tryd.ntmps89
  go_wp2_with (fail)
  refine (C.out _).mono ?_
  rintro e w' ⟨rfl, rfl⟩
  go_wp2_with (fail)
  refine (C.out _).mono ?_
  rintro e w' ⟨rfl, rfl⟩
  go_wp2
  go_ret
  exact ⟨ret_int HE.out, rfl⟩

set_option maxRecDepth 100000 in
set_option maxHeartbeats 4000000 in
theorem towards_any {x y u v a b : Int} {W : World} (ha : cmp16 u x = a) (hb : cmp16 v y = b) : Calls Tryd.prog 83 #[.agg #[.int .i64 x, .int .i64 y], .agg #[.int .i64 u, .int .i64 v]] W fun e W' => e = .returned (.agg #[.int .i64 a, .int .i64 b]) ∧ Below W.heap.size W W' := by
  obtain ⟨Wa, hWa⟩ : ∃ Wa, W.alloc (.cells #[.int .i64 x, .int .i64 y] 54) = Wa := ⟨_, rfl⟩
  have Ka : Duo2 Wa W.heap.size 54 x y := hWa ▸ duo2_alloc W _ _ _
  have Ba : Below W.heap.size W Wa := hWa ▸ below_alloc16 W _
  obtain ⟨Wb, hWb⟩ : ∃ Wb, Wa.alloc (.cells #[.int .i64 u, .int .i64 v] 54) = Wb := ⟨_, rfl⟩
  have Kb : Duo2 Wb Wa.heap.size 54 u v := hWb ▸ duo2_alloc Wa _ _ _
  have Bb : Below Wa.heap.size Wa Wb := hWb ▸ below_alloc16 Wa _
  obtain ⟨W0, hW0⟩ : ∃ W0, Wb.alloc (.cells #[.int .i64 0, .int .i64 0] 54) = W0 := ⟨_, rfl⟩
  have K0 : Duo2 W0 Wb.heap.size 54 0 0 := hW0 ▸ duo2_alloc Wb _ 0 0
  have Bc : Below Wb.heap.size Wb W0 := hW0 ▸ below_alloc16 Wb _
  have B0 := bel_trans (bel_trans Ba Bb) Bc
  have K1 := (Ka.bel Bb).bel Bc
  have K2 := Kb.bel Bc
  have sa := (bel_trans Ba Bb).size
  have sr : Wa.heap.size < Wb.heap.size := Kb.lt
  have sr2 : W.heap.size < Wa.heap.size := Ka.lt
  obtain ⟨V, hV⟩ : ∃ V, W0.drew = V := ⟨_, rfl⟩
  have K0V : Duo2 V Wb.heap.size 54 0 0 := hV ▸ K0
  have K1V : Duo2 V W.heap.size 54 x y := hV ▸ K1
  have K2V : Duo2 V Wa.heap.size 54 u v := hV ▸ K2
  have BV : Below W.heap.size W V := hV ▸ B0.drew
  obtain ⟨v0, v1⟩ := K1V.cells
  obtain ⟨u0, u1⟩ := K2V.cells
  have g0 := K0V.open_ 0
  have g1 := K0V.open_ 1
  obtain ⟨q0, q1⟩ := K0V.cells
  have HF := Lib.hid (K0V.put a b)
  have HB := Lib.hid (put_below2 BV sa (.int .i64 a) (.int .i64 b))
  have C1 := Lib.hid (cmp16_any (w := V) ha)
  have C2 := Lib.hid (cmp16_any (w := V) hb)
  clear ha hb K0 K1 K2 Ka Kb Ba Bb Bc B0
  go_enter Tryd.func83, Tryd.ntmps83
  go_wp2
  go_still_tail 11, (by kernel_rfl)
  still_call (C1.out.mono fun e w' hh => ⟨hh.1, hh.2.symm⟩)
  repeat still_step
  still_call (C2.out.mono fun e w' hh => ⟨hh.1, hh.2.symm⟩)
  repeat still_step
  refine wpStill_nil ?_
  go_wp2
  refine bodyPost_ret (results_cell_row rfl _ _ _ _ _ _ _ rfl HF.out Tryd.underlying54 rfl (by kernel_rfl)) rfl ?_
  exact ⟨rfl, HB.out⟩
end Go.Proofs.YthcfjnedpffbbaaDoor
