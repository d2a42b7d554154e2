/-
  Chapter 11's program, the flows that frames can have one by one: what is proved here is which flows, with which wires, the program's iterator gives, and what map is collected of them. Condition: at most 8 wires.
-/
import Derived.Test.YtimddobedgopiaaImp11a
import Derived.RangeFuncBox
import Derived.RangeFuncCalls
import Derived.RangeFuncFrom
import Derived.RangeFuncLeaves
import Derived.Shelf.Abstract
import Derived.WalkKit
import Derived.OwnWalkIn
import Derived.TacticsInMore
import Derived.LoopNIn
import Derived.LoopIn
import Derived.Maps.AppendAt
import Derived.Maps.OwnIn
import Derived.Carry
namespace Go.Proofs.Ytimddobedgopiaa
open Go.RowKit Go.Shelf

attribute [local go_sem] Oper.semAt_some

/-- What lay below n is as it was, but for block B. -/
structure But (n B : Nat) (W W' : World) : Prop where
  os : W'.os = W.os
  tape : W'.tape = W.tape
  output : W'.output = W.output
  size : W.heap.size ≤ W'.heap.size
  block : ∀ k, k < n → k ≠ B → W'.heap[k]? = W.heap[k]?
theorem But.refl (n B : Nat) (W : World) : But n B W W := ⟨rfl, rfl, rfl, Nat.le_refl _, fun _ _ _ => rfl⟩
theorem But.trans {n B : Nat} {W W' W'' : World} (h : But n B W W') (k : But n B W' W'') : But n B W W'' :=
  ⟨k.os.trans h.os, k.tape.trans h.tape, k.output.trans h.output, Nat.le_trans h.size k.size, fun i hi hB => (k.block i hi hB).trans (h.block i hi hB)⟩
theorem But.of_below {n B : Nat} {W W' : World} (h : Below n W W') : But n B W W' := ⟨h.os, h.tape, h.output, h.size, fun k hk _ => h.block k hk⟩
theorem But.setCell {n B : Nat} {W W' : World} (h : But n B W W') (i : Nat) (v : Value) : But n B W (W'.setCell ⟨B, i, none⟩ v) :=
  ⟨h.os, h.tape, h.output, by simpa using h.size, fun k hk hB => (heap_setCell_other W' ⟨B, i, none⟩ k v (fun e => hB e)).trans (h.block k hk hB)⟩
theorem But.below {n B n₀ : Nat} {W W' : World} (h : But n B W W') (h1 : n₀ ≤ n) (h2 : n₀ ≤ B) : Below n₀ W W' := ⟨h.os, h.tape, h.output, h.size, fun k hk => h.block k (by omega) (by omega)⟩
theorem But.boxed {n B k : Nat} {t : TypeId} {v : Value} {W W' : World} (h : But n B W W') (hb : Boxed W k t v) (h1 : k < n) (h2 : k ≠ B) : Boxed W' k t v := (h.block k h1 h2).trans hb
theorem But.cell {n B : Nat} {W W' : World} (h : But n B W W') {p : Addr} (h1 : p.block < n) (h2 : p.block ≠ B) : W'.cell? p = W.cell? p := World.cell?_of_block (h.block p.block h1 h2)
theorem ownFrom_but {β : Type} {n B m : Nat} {W0 : World} (hn : n ≤ m) (hn0 : n ≤ W0.heap.size) : OwnFrom m (fun (_ : β) W => But n B W0 W) := fun _ W W' row hs hg hr =>
  ⟨hg.os.trans hs.os, hg.tape.trans hs.tape, hg.output.trans hs.output, Nat.le_trans hs.size hg.size, fun k hk hB => by
    by_cases hl : k < W.heap.size
    · exact (hg.block k hl (fun e => by have := (hr k e.symm).1; omega)).trans (hs.block k hk hB)
    · exfalso; exact hl (by have := hs.size; omega)⟩

/-- The machine that reads levels, in memory. -/
theorem but_b {n₁ Bo : Nat} {w : World} (hn : n₁ ≤ w.heap.size) (W : World) (l : Nat) (o o' : Obj) (hl : w.heap.size ≤ l) (h : W.heap[l]? = some o) (h1 : o.isCells = false) (h2 : o.isWalk = false) : But n₁ Bo W (W.putObj l o') :=
  But.of_below (belowK_b (w := w) hn W l o o' hl h h1 h2)
theorem But.grown {n B : Nat} {W W' W'' : World} (h : But n B W W') (hg : W'.grownBy W'' (some B)) (hn : n ≤ W'.heap.size) : But n B W W'' :=
  ⟨hg.os.trans h.os, hg.tape.trans h.tape, hg.output.trans h.output, Nat.le_trans h.size hg.size, fun k hk hB => (hg.block k (by omega) (by simp; omega)).trans (h.block k hk hB)⟩
/-- Where a slice's cells lie. -/
def LiesF (A : Option Addr) (n n₁ Bo : Nat) : Prop := ∀ b o, A = some ⟨b, o, none⟩ → 0 < n → b < n₁ ∧ b ≠ Bo
theorem has_but {A : Option Addr} {n n₁ Bo : Nat} {xs : List Value} {w W : World} (h : Has w A n xs) (hl : LiesF A n n₁ Bo) (hB : But n₁ Bo w W) : Has W A n xs :=
  ⟨h.1, fun i hi => by
    obtain ⟨b, o, hA, hc⟩ := h.2 i hi
    obtain ⟨h1, h2⟩ := hl b o hA (by omega)
    exact ⟨b, o, hA, (hB.cell (p := ⟨b, o + i, none⟩) h1 h2).trans hc⟩⟩
theorem lies_of {A : Option Addr} {n n₁ Bo : Nat} {us : List Bool} {w : World} (h : Has w A n (bools us)) (h1 : w.heap.size ≤ n₁) (h2 : w.heap.size ≤ Bo) : LiesF A n n₁ Bo := fun b o hA h0 => by
  obtain ⟨b', o', e, hb, _⟩ := has_bool h h0
  rw [hA] at e
  injection e with e
  injection e with e1
  have : b' < w.heap.size := hb
  omega

/-- A flow that a frame can have. -/
abbrev Flow11 := { x : Nat // x < 225 }
def enc11 (us : List Bool) (x : Flow11) : Array Value := #[.int .i64 (x.1 : Int), .int .i64 (memP us x.1)]
def vals11 (xs : List Flow11) : List Nat := xs.map (·.1)
theorem vals11_snoc (xs : List Flow11) (x : Flow11) : vals11 (xs ++ [x]) = vals11 xs ++ [x.1] := by simp [vals11]
theorem vals11_len (xs : List Flow11) : (vals11 xs).length = xs.length := by simp [vals11]

set_option maxRecDepth 100000 in
set_option maxHeartbeats 4000000 in
theorem flows_any (m : Nat) (hm : 1 ≤ m) (l B1 n c n₁ Bo : Nat) (A : Option Addr) (us : List Bool) (w : World) (hbox : w.heap[B1]? = some (.cells #[.slice A n c] 67 (0, 0))) (h : Has w A n (bools us)) (hn : n ≤ 8) (hB1 : B1 < n₁ ∧ B1 ≠ Bo) (hlist : LiesF A n n₁ Bo) (J Jx : List Flow11 → World → Prop)
    (W : World) (hW : But n₁ Bo w W)
    (hY : ∀ pre x W1, J pre W1 → pre.length < 225 → YieldAt Fence.wide (m - 1) Try.prog l (enc11 us x) W1 fun e W' =>
      (e = .returned (.bool true) ∧ J (pre ++ [x]) W' ∧ But n₁ Bo W1 W') ∨ (e = .returned (.bool false) ∧ Jx (pre ++ [x]) W'))
    (h0 : J [] W) :
    CallsIn Fence.wide m Try.prog 67 #[.func (.yield l) #[] #[], .pointer (some ⟨B1, 0, none⟩)] W fun e W' => (∃ v, e = .returned v) ∧
      ((∃ ys, vals11 ys = List.range 225 ∧ J ys W') ∨ (∃ pre, True ∧ Jx pre W')) := by
  have hcell : ∀ W1, But n₁ Bo w W1 → Hid (W1.cell? ⟨B1, 0, none⟩ = some (.slice A n c)) := fun W1 hB => (cell_of_row W1 B1 0 _ _ (0, 0) ((hB.block _ hB1.1 hB1.2).trans hbox)).trans rfl
  have HC := Lib.hid hcell
  have HLI := Lib.hid hlist
  clear hcell hB1 hlist
  refine callsIn_of_wp Try.func67 rfl trivial ?_ rfl
  simp only [Try.ntmps67, List.size_toArray, List.length_cons, List.length_nil, Nat.reduceAdd, Nat.reduceSub, Array.replicate_succ, Array.replicate_zero, List.push_toArray, List.append_toArray, List.nil_append, List.cons_append]
  gi_wp2
  gi_loopw [4] (fun i wr => ∃ (k : Nat) (pre : List Flow11), k ≤ 225 ∧ i = .int .i64 (k : Int) ∧ Hid (vals11 pre = List.range k) ∧ J pre wr ∧ But n₁ Bo w wr) (fun i _ => 225 - (intOf i).toNat)
  case atStart =>
    have : Hid (vals11 [] = List.range 0) := rfl
    exact ⟨0, [], Nat.zero_le _, rfl, this, h0, hW⟩
  case round =>
    obtain ⟨k, pre, hk, rfl, HV, hJ, hB⟩ := hrel
    by_cases hlt : k < 225
    · have hltB : decide ((k : Int) < 225) = true := by simp; omega
      have k0 := (HC.out _ hB).out
      have C := Lib.hid (wireOf_any (c := c) (has_but h HLI.out hB) hn (show k ≤ 239 by omega))
      have hpl : pre.length < 225 := by have := congrArg List.length HV.out; rw [vals11_len, List.length_range] at this; omega
      have HV2 : Hid (vals11 (pre ++ [⟨k, hlt⟩]) = List.range (k + 1)) := by
        have : vals11 (pre ++ [⟨k, hlt⟩]) = List.range (k + 1) := by rw [vals11_snoc, HV.out, List.range_succ]
        exact this
      gi_wp2_with (fail)
      refine ⟨trivial, ?_⟩
      refine (callsIn_wide.2 C.out).mono ?_
      rintro e w2 ⟨rfl, rfl⟩
      obtain ⟨fn, tmps, assign, body, hyy, hR⟩ := hY pre ⟨k, hlt⟩ wr hJ hpl
      dsimp only [enc11] at hyy
      gi_wp2
      refine hR.mono ?_
      rintro e2 W3 (⟨rfl, hJ3, hk3⟩ | ⟨rfl, hJx3⟩)
      · have hB3 := hB.trans hk3
        clear hyy hR
        gi_wp2
        go_roundw
        case rel => exact ⟨k + 1, _, by omega, by go_num, HV2, hJ3, hB3⟩
        case measure => simp [intOf]; omega
      · clear hyy hR
        gi_wp2
        refine bodyPost_ret (results_none rfl _ _ _) rfl ?_
        exact ⟨⟨_, rfl⟩, .inr ⟨_, trivial, hJx3⟩⟩
    · have hltB : decide ((k : Int) < 225) = false := by simp; omega
      obtain rfl : k = 225 := by omega
      gi_wp2
      go_end0
      exact ⟨⟨_, rfl⟩, .inl ⟨_, HV.out, hJ⟩⟩
theorem flows_stops (m : Nat) (hm : 1 ≤ m) {A : Option Addr} {n c B1 n₁ Bo : Nat} {us : List Bool} {w : World} (hbox : w.heap[B1]? = some (.cells #[.slice A n c] 67 (0, 0))) (h : Has w A n (bools us)) (hn : n ≤ 8) (hB1 : B1 < n₁ ∧ B1 ≠ Bo) (hlist : LiesF A n n₁ Bo) (hn₁ : n₁ ≤ w.heap.size) :
    SeqStopsK Fence.wide m Try.prog 67 #[.pointer (some ⟨B1, 0, none⟩)] (enc11 us) (But n₁ Bo) (fun ys => vals11 ys = List.range 225) (fun _ => True) 225 w := fun l J Jx W hW _ _ hY h0 =>
  flows_any m hm l B1 n c n₁ Bo A us w hbox h hn hB1 hlist J Jx W (But.of_below (hW.mono hn₁)) hY h0

/-- The program's iterator, as it is made. -/
theorem flows_made {A : Option Addr} {n c : Nat} (w : World) :
    Calls Try.prog 62 #[.slice A n c] w fun e w' => e = .returned (.func (.func 67) #[] #[.pointer (some ⟨w.heap.size, 0, none⟩)]) ∧ w' = w.alloc (.cells #[.slice A n c] 67) := by
  go_enter Try.func62, Try.ntmps62
  go_wp2
  go_ret
  exact ⟨rfl, rfl⟩
end Go.Proofs.Ytimddobedgopiaa
