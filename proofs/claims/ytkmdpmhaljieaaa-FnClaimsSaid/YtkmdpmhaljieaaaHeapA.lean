/-
  The heap of messages on their way: what is proved here is what its five methods do to a slice of pairs that the call made. No condition.
-/
import Derived.Test.YtkmdpmhaljieaaaDraw1
import Derived.RangeFuncBox
import Derived.WalkSmall
import Derived.BigRegion
import Derived.BigQuiet
namespace Go.Proofs.Ytkmdpmhaljieaaa
open Go.RowKit

def flat : List (Int × Int) → List Value
  | [] => []
  | d :: ds => .int .i64 d.1 :: .int .i64 d.2 :: flat ds
theorem flat_len (ds : List (Int × Int)) : (flat ds).length = ds.length * 2 := by
  induction ds with
  | nil => rfl
  | cons d ds ih => simp only [flat, List.length_cons, ih]; omega
theorem flat_app (a b : List (Int × Int)) : flat (a ++ b) = flat a ++ flat b := by
  induction a with
  | nil => rfl
  | cons d ds ih => simp [flat, ih]
def atP (ds : List (Int × Int)) (i : Nat) : Int × Int := ds.getD i (0, 0)
theorem flat_at (ds : List (Int × Int)) (i : Nat) (h : i < ds.length) : (flat ds)[i * 2]? = some (.int .i64 (atP ds i).1) ∧ (flat ds)[i * 2 + 1]? = some (.int .i64 (atP ds i).2) := by
  induction ds generalizing i with
  | nil => simp at h
  | cons d ds ih =>
    cases i with
    | zero => simp [flat, atP]
    | succ i =>
      have := ih i (by simpa using h)
      have e : (i + 1) * 2 = i * 2 + 1 + 1 := by omega
      rw [e]
      simpa [flat, atP] using this
theorem flat_set (ds : List (Int × Int)) (i : Nat) (d : Int × Int) : flat (ds.set i d) = ((flat ds).set (i * 2) (.int .i64 d.1)).set (i * 2 + 1) (.int .i64 d.2) := by
  induction ds generalizing i with
  | nil => rfl
  | cons e ds ih =>
    cases i with
    | zero => simp [flat]
    | succ i =>
      have e1 : (i + 1) * 2 = i * 2 + 1 + 1 := by omega
      rw [e1]
      simp [flat, ih]
/-- Two places exchanged. -/
def swp (ds : List (Int × Int)) (i j : Nat) : List (Int × Int) := (ds.set i (atP ds j)).set j (atP ds i)
/-- A slice of pairs that the call made. -/
def Pairs (w : World) (lo : Nat) (A : Option Addr) (n c : Nat) (ds : List (Int × Int)) : Prop := w.ownsRow lo 95 2 (.slice A n c) n (flat ds)
theorem Pairs.len {w : World} {lo n c : Nat} {A : Option Addr} {ds : List (Int × Int)} (h : Pairs w lo A n c ds) : ds.length = n := by
  have := h.1; rw [flat_len] at this; omega
theorem Pairs.at_ {w : World} {lo n c i : Nat} {A : Option Addr} {ds : List (Int × Int)} (h : Pairs w lo A n c ds) (hi : i < n) :
    ∃ g, A = some ⟨g, 0, none⟩ ∧ lo ≤ g ∧ g < w.heap.size := by
  obtain ⟨g, cap, hv, h1, h2⟩ := World.ownsRow.form h (by omega)
  injection hv with hA _ _
  exact ⟨g, hA, h1, h2⟩
theorem Pairs.cell {w : World} {lo n c g i : Nat} {ds : List (Int × Int)} (h : Pairs w lo (some ⟨g, 0, none⟩) n c ds) (hi : i < n) :
    w.cell? ⟨g, i * 2, none⟩ = some (.int .i64 (atP ds i).1) ∧ w.cell? ⟨g, i * 2 + 1, none⟩ = some (.int .i64 (atP ds i).2) := by
  have hl := h.len
  have := flat_at ds i (by omega)
  exact ⟨(World.ownsRow.cellAt h _ (by omega)).trans this.1, (World.ownsRow.cellAt h _ (by omega)).trans this.2⟩
def ltP (a b : Int × Int) : Prop := a.1 < b.1 ∨ (a.1 = b.1 ∧ a.2 < b.2)
instance (a b : Int × Int) : Decidable (ltP a b) := by unfold ltP; infer_instance

theorem flightLen_any (A : Option Addr) (n c : Nat) (w : World) : Calls Try.prog 87 #[.slice A n c] w fun e w' => e = .returned (.int .i64 (n : Int)) ∧ w = w' := by
  go_enter Try.func87, Try.ntmps87
  go_wp2
  go_ret
  exact ⟨rfl, rfl⟩
theorem below_drewN2 {B : Nat} (w : World) (m n : Nat) : Below B w ((w.drewN m).drewN n) := (below_drewN w m).trans (below_drewN _ n)
theorem grown_trans {w w' w'' : World} {row : Option Nat} (h : w.grownBy w' row) (h' : w'.grownBy w'' row) : w.grownBy w'' row :=
  ⟨h'.os.trans h.os, h'.tape.trans h.tape, h'.output.trans h.output, Nat.le_trans h.size h'.size, fun k hk hne => (h'.block k (Nat.lt_of_lt_of_le hk h.size) hne).trans (h.block k hk hne)⟩
theorem grown_drew {w w' : World} {row : Option Nat} (h : w.grownBy w' row) : w.grownBy w'.drew row := ⟨h.os, h.tape, h.output, h.size, h.block⟩
set_option maxHeartbeats 1000000 in
theorem flightLess_any {w : World} {lo n c i j : Nat} {A : Option Addr} {ds : List (Int × Int)} (h : Pairs w lo A n c ds) (hi : i < n) (hj : j < n) (_ : n ≤ 16777216) :
    Calls Try.prog 136 #[.slice A n c, .int .i64 (i : Int), .int .i64 (j : Int)] w fun e w' => e = .returned (.bool (decide (ltP (atP ds i) (atP ds j)))) ∧ Below w.heap.size w w' := by
  obtain ⟨g, rfl, hg0, hg1⟩ := h.at_ hi
  obtain ⟨c1, c2⟩ := h.cell hi
  obtain ⟨c3, c4⟩ := h.cell hj
  have HE := Lib.hid (show decide (ltP (atP ds i) (atP ds j)) = decide ((atP ds i).1 < (atP ds j).1 ∨ ((atP ds i).1 = (atP ds j).1 ∧ (atP ds i).2 < (atP ds j).2)) from rfl)
  generalize (atP ds i).1 = x1 at *
  generalize (atP ds i).2 = x2 at *
  generalize (atP ds j).1 = y1 at *
  generalize (atP ds j).2 = y2 at *
  clear h
  by_cases he : x1 = y1
  · have heB : (x1 != y1) = false := by simp [he]
    have HE2 := Lib.hid (HE.out.trans (show _ = decide (x2 < y2) by rw [decide_eq_decide]; omega))
    clear he HE
    go_enter Try.func136, Try.ntmps136
    go_wp2
    go_quiet (fail)
    go_wp2
    go_quiet (fail)
    go_wp2
    go_ret
    exact ⟨ret_bool HE2.out.symm, below_drewN2 _ _ _⟩
  · have heB : (x1 != y1) = true := by simp [he]
    have HE2 := Lib.hid (HE.out.trans (show _ = decide (x1 < y1) by rw [decide_eq_decide]; omega))
    clear he HE
    go_enter Try.func136, Try.ntmps136
    go_wp2
    go_quiet (fail)
    go_wp2
    go_quiet (fail)
    go_wp2
    go_ret
    exact ⟨ret_bool HE2.out.symm, below_drewN2 _ _ _⟩
set_option maxHeartbeats 2000000 in
theorem flightSwap_any {w : World} {lo n c i j : Nat} {A : Option Addr} {ds : List (Int × Int)} (h : Pairs w lo A n c ds) (hi : i < n) (hj : j < n) (_ : n ≤ 16777216) :
    Calls Try.prog 137 #[.slice A n c, .int .i64 (i : Int), .int .i64 (j : Int)] w fun e w' => e = .returned (.tuple #[]) ∧ Pairs w' lo A n c (swp ds i j) ∧ w.grownBy w' (A.map (·.block)) := by
  obtain ⟨g, rfl, hg0, hg1⟩ := h.at_ hi
  obtain ⟨c1, c2⟩ := h.cell hi
  obtain ⟨c3, c4⟩ := h.cell hj
  have f1 : ∀ k, w.frozen? ⟨g, k, none⟩ = false := World.ownsRow.frozenAt h
  have key : ∀ w' : World, w' = ((((w.setCell ⟨g, i * 2, none⟩ (.int .i64 (atP ds j).1)).setCell ⟨g, i * 2 + 1, none⟩ (.int .i64 (atP ds j).2)).setCell ⟨g, j * 2, none⟩ (.int .i64 (atP ds i).1)).setCell ⟨g, j * 2 + 1, none⟩ (.int .i64 (atP ds i).2)).drew →
      Pairs w' lo (some ⟨g, 0, none⟩) n c (swp ds i j) ∧ w.grownBy w' (some g) := by
    rintro _ rfl
    obtain ⟨q1, r1⟩ := World.ownsRow.stored h (i * 2) (.int .i64 (atP ds j).1)
    obtain ⟨q2, r2⟩ := World.ownsRow.stored q1 (i * 2 + 1) (.int .i64 (atP ds j).2)
    obtain ⟨q3, r3⟩ := World.ownsRow.stored q2 (j * 2) (.int .i64 (atP ds i).1)
    obtain ⟨q4, r4⟩ := World.ownsRow.stored q3 (j * 2 + 1) (.int .i64 (atP ds i).2)
    refine ⟨?_, grown_drew (grown_trans (grown_trans (grown_trans r1 r2) r3) r4)⟩
    unfold Pairs swp
    rw [flat_set, flat_set]
    exact q4.drew
  obtain ⟨u1, n1⟩ := cell?_setCell_some (p := ⟨g, i * 2, none⟩) (x := .int .i64 (atP ds j).1) c3
  obtain ⟨u0, n0⟩ := cell?_setCell_some (p := ⟨g, i * 2, none⟩) (x := .int .i64 (atP ds j).1) c4
  obtain ⟨u2, n2⟩ := cell?_setCell_some (p := ⟨g, i * 2 + 1, none⟩) (x := .int .i64 (atP ds j).2) n0
  have HK := Lib.hid key
  clear key h
  go_enter Try.func137, Try.ntmps137
  go_wp2
  go_region
  go_wp2
  refine bodyPost_end (results_none rfl _ _ _) rfl ?_
  exact ⟨rfl, HK.out _ rfl⟩

/-- A variable of the call, from block lo on, that holds a slice of these pairs. -/
def Fl (w : World) (lo p : Nat) (ds : List (Int × Int)) : Prop := lo ≤ p ∧ ∃ A n c, Boxed w p 91 (.slice A n c) ∧ Pairs w lo A n c ds
/-- What was there ahead of lo, and what is no pair and no variable of the heap's, is as it was. -/
structure Fr (lo : Nat) (w w' : World) : Prop where
  os : w'.os = w.os
  tape : w'.tape = w.tape
  output : w'.output = w.output
  size : w.heap.size ≤ w'.heap.size
  block : ∀ k, k < w.heap.size → (k < lo ∨ ∃ cur e fz, w.heap[k]? = some (.cells cur e fz) ∧ e ≠ 91 ∧ e ≠ 95) → w'.heap[k]? = w.heap[k]?
theorem Fr.refl (lo : Nat) (w : World) : Fr lo w w := ⟨rfl, rfl, rfl, Nat.le_refl _, fun _ _ _ => rfl⟩
theorem Fr.trans {lo : Nat} {w w' w'' : World} (h : Fr lo w w') (h' : Fr lo w' w'') : Fr lo w w'' :=
  ⟨h'.os.trans h.os, h'.tape.trans h.tape, h'.output.trans h.output, Nat.le_trans h.size h'.size, fun k hk hne =>
    (h'.block k (Nat.lt_of_lt_of_le hk h.size) (by rw [h.block k hk hne]; exact hne)).trans (h.block k hk hne)⟩
theorem Fr.of_below {lo : Nat} {w w' : World} (h : Below w.heap.size w w') : Fr lo w w' := ⟨h.os, h.tape, h.output, h.size, fun k hk _ => h.block k hk⟩
theorem Fr.below {lo : Nat} {w w' : World} (h : Fr lo w w') (hl : lo ≤ w.heap.size) : Below lo w w' := ⟨h.os, h.tape, h.output, h.size, fun k hk => h.block k (by omega) (.inl hk)⟩
theorem Fr.of_pairs {lo n c : Nat} {A : Option Addr} {ds : List (Int × Int)} {w w' : World} (h : Pairs w lo A n c ds) (hg : w.grownBy w' (A.map (·.block))) : Fr lo w w' := by
  refine ⟨hg.os, hg.tape, hg.output, hg.size, fun k hk hne => hg.block k hk (fun e => ?_)⟩
  rcases h.2 with ⟨h', _⟩ | ⟨g, cap, cur, h', hb, hgg, _⟩
  · injection h' with hA; subst hA; cases e
  · injection h' with hA; subst hA
    obtain rfl : k = g := by simpa using e
    rcases hne with hne | ⟨cur', e', fz, hh, _, h2⟩
    · omega
    · rw [hgg] at hh; injection hh with hh; injection hh with _ hh; exact h2 hh.symm
theorem Fr.of_box {lo p : Nat} {v : Value} {w w' : World} (h : Boxed w p 91 v) (hl : lo ≤ p) (hg : w.grownBy w' (some p)) : Fr lo w w' := by
  refine ⟨hg.os, hg.tape, hg.output, hg.size, fun k hk hne => hg.block k hk (fun e => ?_)⟩
  injection e with e
  subst e
  rcases hne with hne | ⟨cur', e', fz, hh, h2, _⟩
  · omega
  · rw [show w.heap[k]? = _ from h] at hh; injection hh with hh; injection hh with _ hh; exact h2 hh.symm

set_option maxHeartbeats 1000000 in
theorem flightPop_any {w : World} {lo p n : Nat} {ds : List (Int × Int)} (h : Fl w lo p ds) (hd : ds.length = n + 1) (hn : n ≤ 1000000) :
    Calls Try.prog 138 #[.pointer (some ⟨p, 0, none⟩)] w fun e w' => e = .returned (.iface 95 (.agg #[.int .i64 (atP ds n).1, .int .i64 (atP ds n).2])) ∧ Fl w' lo p (ds.take n) ∧ Fr lo w w' := by
  obtain ⟨hp, A, m, c, hb, hP⟩ := h
  obtain rfl : m = n + 1 := by have := hP.len; omega
  obtain ⟨g, rfl, hg0, hg1⟩ := hP.at_ (i := n) (by omega)
  obtain ⟨c1, c2⟩ := hP.cell (i := n) (by omega)
  have b1 := hb.cell
  have b2 := hb.frozen
  have b3 := hb.lt
  have hc : n ≤ c := by
    rcases hP.2 with ⟨h', _⟩ | ⟨g', cap, cur, h', _, _, hcap, _⟩
    · cases h'
    · injection h' with _ _ h'; omega
  have key : ∀ w' : World, w' = ((w.setCell ⟨p, 0, none⟩ (.slice (some ⟨g, 0, none⟩) n c)).alloc (.cells #[.int .i64 (atP ds n).1, .int .i64 (atP ds n).2] 95)) → Fl w' lo p (ds.take n) ∧ Fr lo w w' := by
    rintro _ rfl
    have hne := hb.not_row (by decide) hP
    have hQ : w.ownsRow lo 95 2 (.slice (some ⟨g, 0, none⟩) n c) n (flat (ds.take n)) := by
      refine ownsRow_pop (last := flat (ds.drop n)) (by rw [flat_len, List.length_take]; omega) ?_
      rw [← flat_app, List.take_append_drop]; exact hP
    refine ⟨⟨hp, _, _, _, (hb.set _).alloc _, ?_⟩, ?_⟩
    · exact World.ownsRow.alloc (hQ.kept (grownBy_setCell' w p _) (.inr fun e => hne (by simpa [Value.ownBlock] using e.symm))) _
    · exact (Fr.of_box hb hp (grownBy_setCell' w p _)).trans (Fr.of_below ((Below.refl _ _).alloc (Nat.le_refl _) _))
  have HK := Lib.hid key
  clear key hP hb
  go_enter Try.func138, Try.ntmps138
  go_wp2
  go_ret
  exact ⟨rfl, HK.out _ rfl⟩

theorem Try.infoArrival : (Try.prog.info? 95).map (fun i => (i.zero, i.size, i.bytes)) = some (some (.agg #[.int .i64 0, .int .i64 0]), 2, 16) := by kernel_rfl
theorem Try.underlyingFlight : Try.prog.underlying 91 = some (.slice 95) := by kernel_rfl
theorem info_parts2 {P : Program} {e : TypeId} {z : Value} {s b : Nat} (h : (P.info? e).map (fun i => (i.zero, i.size, i.bytes)) = some (some z, s, b)) : ∃ i, P.info? e = some i ∧ i.zero = some z ∧ i.size = s ∧ i.bytes = b := by
  cases hi : P.info? e with
  | none => rw [hi] at h; cases h
  | some i => rw [hi] at h; simp at h; exact ⟨i, rfl, h.1, h.2.1, h.2.2⟩

theorem run_assert_arrival (x y : Int) (w : World) : (Instr.typeAssert (.iface 95 (.agg #[.int .i64 x, .int .i64 y])) 20 95 false).run Try.prog w = .ok (.agg #[.int .i64 x, .int .i64 y]) w := by kernel_rfl
set_option maxHeartbeats 2000000 in
theorem flightPush_any {w : World} {lo p : Nat} {x y : Int} {ds : List (Int × Int)} (h : Fl w lo p ds) (hl : lo ≤ w.heap.size) (hd : ds.length ≤ 1000000) :
    Calls Try.prog 139 #[.pointer (some ⟨p, 0, none⟩), .iface 95 (.agg #[.int .i64 x, .int .i64 y])] w fun e w' => e = .returned (.tuple #[]) ∧ Fl w' lo p (ds ++ [(x, y)]) ∧ Fr lo w w' := by
  obtain ⟨i0, hi, hz0, hz1, hz2⟩ := info_parts2 Try.infoArrival
  obtain ⟨hp, A, n, c, hb, hP⟩ := h
  have hn := hP.len
  have b1 := hb.cell
  have b2 := hb.frozen
  have b3 := hb.lt
  have O5 : ((w.alloc (.cells #[Value.int .i64 x, Value.int .i64 y] 95)).drew).ownsRow lo 95 2 (.slice A n c) n (flat ds) := World.ownsRow.drew (World.ownsRow.alloc hP _)
  have N5 := Lib.hid (World.news_of_block (w := (w.alloc (.cells #[Value.int .i64 x, Value.int .i64 y] 95)).drew) (B := w.heap.size) (cs := #[Value.int .i64 x, Value.int .i64 y]) (t := 95) (fr := (0, 0)) (heap_alloc_new w _))
  have Z5 : lo ≤ ((w.alloc (.cells #[Value.int .i64 x, Value.int .i64 y] 95)).drew).heap.size := by simp; omega
  have ta := run_assert_arrival x y
  go_enter Try.func139, Try.ntmps139
  go_wp2
  go_region_law ((with_reducible refine step_append_lies _ rfl (.tmp 7) (.tmp 10) 91 rfl lo 95 i0 (.agg #[.int .i64 0, .int .i64 0]) 2 16 Try.underlyingFlight hi hz0 hz1 hz2 ?c1 ?c2 (.slice A n c) n (flat ds) rfl O5 ⟨w.heap.size, 0, none⟩ 1 1 (#[Value.int .i64 x, Value.int .i64 y] : Array Value).toList rfl ?c3 N5.out ?c4 ?c5 ?c6 ?c7 Z5 _ rfl ?_); (case c1 => rfl); (case c2 => decide); (case c3 => rfl); (case c4 => simp [Value.oneCell']); (case c5 => decide); (case c6 => unfold maxLen; omega); (case c7 => omega); intro g cap w6 O6 G6 _ _; have bx := Boxed.appended (tmp := .cells #[Value.int .i64 x, Value.int .i64 y] 95) hb (by decide) hP hl hp O6 ⟨G6.os, G6.tape, G6.output, G6.size, G6.block⟩; have q1 := bx.1.cell; have q2 := bx.1.frozen)
  all_goals
    go_wp2
    refine bodyPost_end (results_none rfl _ _ _) rfl ?_
    refine ⟨rfl, ⟨hp, _, _, _, bx.2.1, ?_⟩, ?_⟩
    · unfold Pairs; rw [flat_app]; exact bx.2.2.1
    · have F1 : Fr lo w (w.alloc (.cells #[Value.int .i64 x, Value.int .i64 y] 95)) := Fr.of_below ((Below.refl _ _).alloc (Nat.le_refl _) _)
      have hP2 : Pairs (w.alloc (.cells #[Value.int .i64 x, Value.int .i64 y] 95)) lo A n c ds := World.ownsRow.alloc hP _
      have hA : (Value.slice A n c).ownBlock = A.map (·.block) := by cases A <;> rfl
      rw [hA] at G6
      have F2 : Fr lo (w.alloc (.cells #[Value.int .i64 x, Value.int .i64 y] 95)) w6 := Fr.of_pairs hP2 ⟨G6.os, G6.tape, G6.output, G6.size, G6.block⟩
      exact F1.trans (F2.trans (Fr.of_box bx.1 hp (grownBy_setCell' w6 p _)))
end Go.Proofs.Ytkmdpmhaljieaaa
