/-
  Chapter 8's program, LevelsOf and the machine that reads levels: what is proved here is what they return or leave in memory, and that they write nothing else that was there. Condition: lengths up to 2^24.
-/
import Derived.Test.YtbeebaiionlcoaaLevA
import Derived.RangeFuncBox
import Derived.RangeFuncCalls
import Derived.RangeFuncFrom
namespace Go.Proofs.Ytbeebaiionlcoaa
open Go.RowKit

theorem isBit_yes {z : Int} (w : World) (h : z = 0 ∨ z = 1) : Calls Try.prog 53 #[.int .i64 z] w fun e w' => e = .returned (.bool true) ∧ w = w' := by
  by_cases h0 : z = 0
  · have h0B : (z == 0) = true := by simp [h0]
    clear h h0
    go_enter Try.func53, Try.ntmps53
    go_wp2
    go_ret
    exact ⟨rfl, rfl⟩
  · have h0B : (z == 0) = false := by simp [h0]
    have h1B : (z == 1) = true := by simp; omega
    clear h h0
    go_enter Try.func53, Try.ntmps53
    go_wp2
    go_ret
    exact ⟨rfl, rfl⟩
theorem isBit_no {z : Int} (w : World) (h : ¬ (z = 0 ∨ z = 1)) : Calls Try.prog 53 #[.int .i64 z] w fun e w' => e = .returned (.bool false) ∧ w = w' := by
  have h0B : (z == 0) = false := by simp; omega
  have h1B : (z == 1) = false := by simp; omega
  clear h
  go_enter Try.func53, Try.ntmps53
  go_wp2
  go_ret
  exact ⟨rfl, rfl⟩

set_option maxHeartbeats 1000000 in
theorem areBits_b {A : Option Addr} {n c : Nat} {zs : List Int} {w : World} {b : Bool} (h : Has w A n (ints .i64 zs)) (hn : n ≤ 16777216) (hb : okBits zs = b) :
    Calls Try.prog 41 #[.slice A n c] w fun e w' => e = .returned (.bool b) ∧ w = w' := by
  have HL := Lib.hid h.len
  have HB := Lib.hid hb
  clear hb
  go_enter Try.func41, Try.ntmps41
  go_wp2
  go_loop [7] (fun i => ∃ k : Nat, k ≤ n ∧ i = .int .i64 k ∧ Hid (∀ f ∈ zs.take k, f = 0 ∨ f = 1)) (fun i => n - (intOf i).toNat)
  case atStart =>
    have : Hid (∀ f ∈ zs.take 0, f = 0 ∨ f = 1) := fun f hf => by simp at hf
    exact ⟨0, Nat.zero_le _, rfl, this⟩
  case round =>
    obtain ⟨k, hk, rfl, HF⟩ := hrel
    by_cases hlt : k < n
    · have hltB : decide ((k : Int) < (n : Int)) = true := by simp; omega
      obtain ⟨b, o, z, rfl, hbl, hx, hc⟩ := h.at_ hlt
      by_cases hz : z = 0 ∨ z = 1
      · have HF2 : Hid (∀ f ∈ zs.take (k + 1), f = 0 ∨ f = 1) := by
          have : ∀ f ∈ zs.take (k + 1), f = 0 ∨ f = 1 := by
            intro f hf
            rw [List.take_add_one, hx] at hf
            rcases List.mem_append.1 hf with hf | hf
            · exact HF.out f hf
            · simp at hf; subst hf; exact hz
          exact this
        have C := Lib.hid (isBit_yes w hz)
        clear hx hz
        go_wp2_with (go_at_call 53; refine C.out.mono ?_; rintro e w' ⟨rfl, rfl⟩)
        go_round
        case rel => exact ⟨k + 1, by omega, by go_num, HF2⟩
        case measure => simp [intOf]; omega
      · have HE := Lib.hid (okBits_no (List.mem_of_getElem? hx) hz)
        have C := Lib.hid (isBit_no w hz)
        clear hx hz
        go_wp2_with (go_at_call 53; refine C.out.mono ?_; rintro e w' ⟨rfl, rfl⟩)
        go_ret
        exact ⟨ret_bool (HE.out.symm.trans HB.out), rfl⟩
    · have hltB : decide ((k : Int) < (n : Int)) = false := by simp; omega
      obtain rfl : k = n := by omega
      have HE : Hid (okBits zs = true) := by
        have h1 := HF.out
        have h2 := HL.out
        rw [List.take_of_length_le (by omega)] at h1
        exact okBits_iff.2 h1
      go_wp2
      go_ret
      exact ⟨ret_bool (HE.out.symm.trans HB.out), rfl⟩

set_option maxHeartbeats 2000000 in
theorem implLevelsOf_w {A : Option Addr} {n c : Nat} {zs : List Int} {w : World} (h : Has w A n (ints .i64 zs)) (hn : n ≤ 16777216) :
    Calls Try.prog 17 #[.slice A n c] w fun e w' => ∃ A' n' c', e = .returned (.slice A' n' c') ∧ Own w' w.heap.size 3 A' n' c' (ints .i64 (levelsL zs)) ∧ Below w.heap.size w w' := by
  obtain ⟨i0, hi, hz0, hz1, hz2⟩ := info_parts Try.infoInt
  have HL := Lib.hid h.len
  have hlen := h.len
  by_cases h2 : n ≤ 200
  rotate_left
  · have h2B : decide ((n : Int) > 200) = true := by simp; omega
    have h2C : decide (200 < (n : Int)) = true := by simp; omega
    have HE := Lib.hid (levelsL_no (zs := zs) (fun hh => h2 (by omega)))
    clear hlen
    go_enter Try.func17, Try.ntmps17
    go_wp2
    go_ret
    exact ⟨_, _, _, rfl, by rw [HE.out]; exact World.ownsRow_nil _ _ _ _, Below.refl _ _⟩
  have h2B : decide ((n : Int) > 200) = false := by simp; omega
  have h2C : decide (200 < (n : Int)) = false := by simp; omega
  have h2W : IntKind.i64.wrap (2 * (n : Int)) = 2 * (n : Int) := IntWalk.i64_in _ (by omega)
  by_cases hb : okBits zs = true
  rotate_left
  · have C := Lib.hid (areBits_b (c := c) (b := false) h hn (by simpa using hb))
    have HE := Lib.hid (levelsL_no (zs := zs) (fun hh => hb hh.1))
    clear hlen hb
    go_enter Try.func17, Try.ntmps17
    go_wp2_with (fail)
    refine C.out.mono ?_
    rintro e w' ⟨rfl, rfl⟩
    go_wp2
    go_ret
    exact ⟨_, _, _, rfl, by rw [HE.out]; exact World.ownsRow_nil _ _ _ _, Below.refl _ _⟩
  have C := Lib.hid (areBits_b (c := c) h hn hb)
  have HE := Lib.hid (levelsL_yes hb (by omega))
  have HBITS := Lib.hid (okBits_iff.1 hb)
  have hmk : (2 * (n : Int)).toNat = 2 * n := by omega
  clear hb hlen
  go_enter Try.func17, Try.ntmps17
  go_wp2_with (fail)
  refine C.out.mono ?_
  rintro e w' ⟨rfl, rfl⟩
  go_wp2_with (at_make; refine wpList_make_own _ rfl _ _ 23 rfl w.heap.size 3 i0 (.int .i64 0) 1 Try.underlying23 hi hz0 hz1 .i64 .i64 _ (2 * n) rfl rfl (by omega) (by rw [hz2]; omega) (by unfold maxLen; omega) (Nat.le_refl _) ?_; intro w1 hown hgrow)
  have O0 : Own w1 w.heap.size 3 (some ⟨w.heap.size, 0, none⟩) 0 (2 * n) (ints .i64 []) := hown
  have B0 : Below w.heap.size w w1 := below_of_grown hgrow (Nat.le_refl _) (fun k hk => by cases hk)
  clear hown hgrow
  go_loopw [3, 20] (fun v t wr => ∃ (k : Nat) (A' : Option Addr) (c' : Nat), k ≤ n ∧ t = .int .i64 (k : Int) ∧ v = .slice A' (2 * k) c' ∧ Own wr w.heap.size 3 A' (2 * k) c' (ints .i64 (levelsP (zs.take k))) ∧ Below w.heap.size w wr) (fun _ t _ => n - (intOf t).toNat)
  case atStart => exact ⟨0, _, _, Nat.zero_le _, rfl, rfl, O0, B0⟩
  case round =>
    obtain ⟨k, A1, c1, hk, rfl, rfl, O1, B1⟩ := hrel
    have hge := B1.size
    by_cases hlt : k < n
    · have hltB : decide ((k : Int) < (n : Int)) = true := by simp; omega
      obtain ⟨b, o, z, rfl, hbl, hx, hc⟩ := h.at_ hlt
      have HX := Lib.hid (show levelsP (zs.take (k + 1)) = levelsP (zs.take k) ++ [z, 1 - z] by rw [List.take_add_one, hx]; exact levelsP_snoc _ _)
      have hzb := HBITS.out z (List.mem_of_getElem? hx)
      have hW : IntKind.i64.wrap (1 - z) = 1 - z := IntWalk.i64_in _ (by omega)
      have k0 := (B1.cell (p := ⟨b, o + k, none⟩) hbl).trans hc
      clear hx hc hzb
      go_wp2_with (at_builtin; refine wpList_apps _ rfl (.tmp 24) (.tmp 28) 23 rfl w.heap.size 3 i0 (.int .i64 0) 8 Try.underlying23 hi hz0 hz1 hz2 rfl A1 (2 * k) c1 _ rfl O1 2 2 #[.int .i64 z, .int .i64 (1 - z)] rfl rfl (by simp [Value.oneCell']) (by decide) (by omega) (by decide) hge ?_; intro g3 c3 w3 O3 G3 B3 _)
      go_roundw
      case rel => exact ⟨k + 1, _, _, by omega, by go_num, rfl, by rw [HX.out, ints_app]; exact O3, B1.trans B3⟩
      case measure => simp [intOf]; omega
    · have hltB : decide ((k : Int) < (n : Int)) = false := by simp; omega
      obtain rfl : k = n := by omega
      go_wp2
      go_ret
      refine ⟨_, _, _, rfl, ?_, B1⟩
      rw [List.take_of_length_le (by rw [HL.out]; omega)] at O1
      rw [HE.out]
      exact O1

/-- What lay below n is as it was, but for block B. -/
structure But (n B : Nat) (W W' : World) : Prop where
  os : W'.os = W.os
  tape : W'.tape = W.tape
  output : W'.output = W.output
  size : W.heap.size ≤ W'.heap.size
  block : ∀ k, k < n → k ≠ B → W'.heap[k]? = W.heap[k]?
theorem But.refl (n B : Nat) (W : World) : But n B W W := ⟨rfl, rfl, rfl, Nat.le_refl _, fun _ _ _ => rfl⟩
theorem But.trans {n B : Nat} {W W' W'' : World} (h : But n B W W') (k : But n B W' W'') : But n B W W'' :=
  ⟨k.os.trans h.os, k.tape.trans h.tape, k.output.trans h.output, Nat.le_trans h.size k.size, fun i hi hB => (k.block i hi hB).trans (h.block i hi hB)⟩
theorem But.of_below {n B : Nat} {W W' : World} (h : Below n W W') : But n B W W' := ⟨h.os, h.tape, h.output, h.size, fun k hk _ => h.block k hk⟩
theorem But.setCell {n B : Nat} {W W' : World} (h : But n B W W') (i : Nat) (v : Value) : But n B W (W'.setCell ⟨B, i, none⟩ v) :=
  ⟨h.os, h.tape, h.output, by simpa using h.size, fun k hk hB => (heap_setCell_other W' ⟨B, i, none⟩ k v (fun e => hB e)).trans (h.block k hk hB)⟩
theorem But.below {n B n₀ : Nat} {W W' : World} (h : But n B W W') (h1 : n₀ ≤ n) (h2 : n₀ ≤ B) : Below n₀ W W' := ⟨h.os, h.tape, h.output, h.size, fun k hk => h.block k (by omega) (by omega)⟩
theorem But.boxed {n B k : Nat} {t : TypeId} {v : Value} {W W' : World} (h : But n B W W') (hb : Boxed W k t v) (h1 : k < n) (h2 : k ≠ B) : Boxed W' k t v := (h.block k h1 h2).trans hb
theorem But.cell {n B : Nat} {W W' : World} (h : But n B W W') {p : Addr} (h1 : p.block < n) (h2 : p.block ≠ B) : W'.cell? p = W.cell? p := World.cell?_of_block (h.block p.block h1 h2)
theorem ownFrom_but {β : Type} {n B m : Nat} {W0 : World} (hn : n ≤ m) (hn0 : n ≤ W0.heap.size) : OwnFrom m (fun (_ : β) W => But n B W0 W) := fun _ W W' row hs hg hr =>
  ⟨hg.os.trans hs.os, hg.tape.trans hs.tape, hg.output.trans hs.output, Nat.le_trans hs.size hg.size, fun k hk hB => by
    by_cases hl : k < W.heap.size
    · exact (hg.block k hl (fun e => by have := (hr k e.symm).1; omega)).trans (hs.block k hk hB)
    · exfalso; exact hl (by have := hs.size; omega)⟩

/-- The machine that reads levels, in memory. -/
def RD (W : World) (lo B : Nat) (q : Int × List Int) : Prop := ∃ A n c, W.heap[B]? = some (.cells #[.int .i64 q.1, .slice A n c] 44 (0, 0)) ∧ Own W lo 3 A n c (ints .i64 q.2)
theorem rd_cells {W : World} {B : Nat} {x y : Value} {t : TypeId} (h : W.heap[B]? = some (.cells #[x, y] t (0, 0))) : W.cell? ⟨B, 0, none⟩ = some x ∧ W.cell? ⟨B, 1, none⟩ = some y ∧ W.frozen? ⟨B, 0, none⟩ = false ∧ W.frozen? ⟨B, 1, none⟩ = false ∧ B < W.heap.size :=
  ⟨(cell_of_row W B 0 _ t (0, 0) h).trans rfl, (cell_of_row W B 1 _ t (0, 0) h).trans rfl, by simp [World.frozen?, h], by simp [World.frozen?, h], (Array.getElem?_eq_some_iff.1 h).1⟩
/-- A row of ints is no machine. -/
theorem own_not {W : World} {lo n c B : Nat} {A : Option Addr} {xs : List Value} {fz : Nat × Nat} {t : TypeId} {cs : Array Value} (h : Own W lo 3 A n c xs) (hB : W.heap[B]? = some (.cells cs t fz)) (ht : t ≠ 3) : A.map (·.block) ≠ some B := by
  intro e
  cases A with
  | none => cases e
  | some a =>
    have e2 : a.block = B := by simpa using e
    rcases h.2 with ⟨hv, _⟩ | ⟨g, cap, cur, hv, _, hgb, _⟩
    · cases hv
    · injection hv with hA _ _
      injection hA with hA
      subst hA
      have : B = g := e2.symm
      subst this
      rw [hB] at hgb
      injection hgb with hgb
      injection hgb with _ h2 _
      exact ht h2
theorem RD.state {W : World} {lo B : Nat} {q : Int × List Int} (h : RD W lo B q) (s : Int) : RD (W.setCell ⟨B, 0, none⟩ (.int .i64 s)) lo B (s, q.2) := by
  obtain ⟨A, n, c, h1, h2⟩ := h
  exact ⟨A, n, c, (heap_setCell_same W B 0 _ _ _ h1).trans rfl, h2.grown (grown_set (World.grownBy.refl W (some B)) 0 _) (fun a ha e => own_not h2 h1 (by decide) (by subst ha; exact e))⟩
end Go.Proofs.Ytbeebaiionlcoaa
