/-
  The laws' own functions on what came of stations: what is proved here is what eqTalkRun, markTalkRun and heldTalkRun return and write. Condition: lengths up to 2^24.
-/
import Derived.Test.YtpciaokafokfmaaTalkR
namespace Go.Proofs.Ytpciaokafokfmaa
open Go.RowKit

theorem runRow_alloc (w : World) (A : Option Addr) (n c : Nat) (h s : Int) (d : Bool) : RunRow (w.alloc (.cells #[.slice A n c, .int .i64 h, .int .i64 s, .bool d] 27)) w.heap.size A n c h s d := heap_alloc_new w _
theorem grown_but9 {w w' : World} (h : Below w.heap.size w w') (row : Option Nat) : w.grownBy w' row := ⟨h.os, h.tape, h.output, h.size, fun i hi _ => h.block i hi⟩
theorem below_alloc9 (w : World) (o : Obj) : Below w.heap.size w (w.alloc o) := (Below.refl _ _).alloc (Nat.le_refl _) _
set_option maxHeartbeats 1000000 in
theorem eqTalkRun_b {A A' : Option Addr} {n c n' c' : Nat} {zs : List Int} {h s : Int} {d : Bool} {w : World} (hA : Has w A n (ints .i64 zs)) (hA' : Has w A' n' (ints .i64 zs)) (hn : n ≤ 16777216) :
    Calls Try.prog 36 #[.agg #[.slice A n c, .int .i64 h, .int .i64 s, .bool d], .agg #[.slice A' n' c', .int .i64 h, .int .i64 s, .bool d]] w fun e w' => e = .returned (.bool true) ∧ Below w.heap.size w w' := by
  obtain ⟨W1, hW1⟩ : ∃ W1, w.alloc (.cells #[.slice A n c, .int .i64 h, .int .i64 s, .bool d] 27) = W1 := ⟨_, rfl⟩
  have K1 : RunRow W1 w.heap.size A n c h s d := hW1 ▸ runRow_alloc w A n c h s d
  have B1 : Below w.heap.size w W1 := hW1 ▸ below_alloc9 w _
  obtain ⟨W2, hW2⟩ : ∃ W2, W1.alloc (.cells #[.slice A' n' c', .int .i64 h, .int .i64 s, .bool d] 27) = W2 := ⟨_, rfl⟩
  have K2 : RunRow W2 W1.heap.size A' n' c' h s d := hW2 ▸ runRow_alloc W1 A' n' c' h s d
  have B2 : Below W1.heap.size W1 W2 := hW2 ▸ below_alloc9 W1 _
  have K12 := K1.bel B2
  have B12 := bel_trans B1 B2
  obtain ⟨a0, a1, a2, a3⟩ := K12.cells
  obtain ⟨b0, b1, b2, b3⟩ := K2.cells
  have hhB : (h != h) = false := by simp
  have hsB : (s != s) = false := by simp
  have hdB : (d != d) = false := by simp
  go_enter Try.func36, Try.ntmps36
  go_wp2_with (fail)
  refine (eqIntS_b (c := c) (c' := c') (hA.bel B12) (hA'.bel B12) hn).mono ?_
  rintro e w3 ⟨rfl, B3⟩
  obtain ⟨x0, x1, x2, x3⟩ := (K12.bel B3).cells
  obtain ⟨y0, y1, y2, y3⟩ := (K2.bel B3).cells
  clear a0 a1 a2 a3 b0 b1 b2 b3
  go_wp2
  go_ret
  exact ⟨rfl, bel_trans B12 B3⟩
set_option maxHeartbeats 1000000 in
theorem markTalkRun_any {A : Option Addr} {n c lo K : Nat} {zs : List Int} {h s : Int} {d : Bool} {w : World} (hO : Own w lo 3 A n c (ints .i64 zs)) (hn : n ≤ 16777216) (hK : K ≤ 1099511627776) :
    Calls Try.prog 38 #[.agg #[.slice A n c, .int .i64 h, .int .i64 s, .bool d], .int .i64 (K : Int)] w fun e w' => e = .returned (.int .i64 ((K + n : Nat) : Int)) ∧ Own w' lo 3 A n c (ints .i64 (marksI K n)) ∧ w.grownBy w' (A.map (·.block)) := by
  obtain ⟨W1, hW1⟩ : ∃ W1, w.alloc (.cells #[.slice A n c, .int .i64 h, .int .i64 s, .bool d] 27) = W1 := ⟨_, rfl⟩
  have K1 : RunRow W1 w.heap.size A n c h s d := hW1 ▸ runRow_alloc w A n c h s d
  have B1 : Below w.heap.size w W1 := hW1 ▸ below_alloc9 w _
  obtain ⟨a0, a1, a2, a3⟩ := K1.cells
  go_enter Try.func38, Try.ntmps38
  go_wp2_with (fail)
  refine (markIntS_any (hO.bel B1) hn hK).mono ?_
  rintro e w3 ⟨rfl, O3, G3⟩
  go_wp2
  go_ret
  refine ⟨rfl, O3, ?_⟩
  exact World.grownBy.trans (grown_but9 B1 _) G3
set_option maxHeartbeats 1000000 in
theorem heldTalkRun_any {A : Option Addr} {n c K : Nat} {h s : Int} {d : Bool} {w : World} (hA : Has w A n (ints .i64 (marksI K n))) (hn : n ≤ 16777216) (hK : K ≤ 1099511627776) :
    Calls Try.prog 39 #[.agg #[.slice A n c, .int .i64 h, .int .i64 s, .bool d], .int .i64 (K : Int)] w fun e w' => e = .returned (.int .i64 ((K + n : Nat) : Int)) ∧ Below w.heap.size w w' := by
  obtain ⟨W1, hW1⟩ : ∃ W1, w.alloc (.cells #[.slice A n c, .int .i64 h, .int .i64 s, .bool d] 27) = W1 := ⟨_, rfl⟩
  have K1 : RunRow W1 w.heap.size A n c h s d := hW1 ▸ runRow_alloc w A n c h s d
  have B1 : Below w.heap.size w W1 := hW1 ▸ below_alloc9 w _
  obtain ⟨a0, a1, a2, a3⟩ := K1.cells
  have p1 : decide (((K + n : Nat) : Int) < 0) = false := by simp; omega
  have p2 : decide ((K : Int) + (n : Int) < 0) = false := by simp; omega
  go_enter Try.func39, Try.ntmps39
  go_wp2_with (fail)
  refine (heldIntS_any (c := c) (hA.bel B1) hn hK).mono ?_
  rintro e w3 ⟨rfl, rfl⟩
  go_wp2
  go_ret
  exact ⟨rfl, B1⟩
end Go.Proofs.Ytpciaokafokfmaa
