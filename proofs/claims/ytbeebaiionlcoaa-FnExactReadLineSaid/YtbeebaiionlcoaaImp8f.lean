/-
  Chapter 8's program, TicksOf: what is proved here is what it returns, in memory of its own, and that it writes nothing that was there. Condition: lengths up to 2^24.
-/
import Derived.Test.YtbeebaiionlcoaaImp8d
import Derived.Test.YtbeebaiionlcoaaLevC
namespace Go.Proofs.Ytbeebaiionlcoaa
open Go.RowKit

theorem isWidth_yes {z : Int} (w : World) (h : 1 ≤ z ∧ z ≤ 40) : Calls Try.prog 51 #[.int .i64 z] w fun e w' => e = .returned (.bool true) ∧ w = w' := by
  have g0 : decide (z ≥ 1) = true := decide_eq_true h.1
  have g1 : decide (1 ≤ z) = true := decide_eq_true h.1
  have g2 : decide (z ≤ 40) = true := decide_eq_true h.2
  clear h
  go_enter Try.func51, Try.ntmps51
  go_wp2
  go_ret
  exact ⟨rfl, rfl⟩
theorem isWidth_no {z : Int} (w : World) (h : ¬ (1 ≤ z ∧ z ≤ 40)) : Calls Try.prog 51 #[.int .i64 z] w fun e w' => e = .returned (.bool false) ∧ w = w' := by
  by_cases h1 : 1 ≤ z
  · have g0 : decide (z ≥ 1) = true := decide_eq_true h1
    have g1 : decide (1 ≤ z) = true := decide_eq_true h1
    have g2 : decide (z ≤ 40) = false := decide_eq_false (fun hh => h ⟨h1, hh⟩)
    clear h h1
    go_enter Try.func51, Try.ntmps51
    go_wp2
    go_ret
    exact ⟨rfl, rfl⟩
  · have g0 : decide (z ≥ 1) = false := decide_eq_false h1
    have g1 : decide (1 ≤ z) = false := decide_eq_false h1
    clear h h1
    go_enter Try.func51, Try.ntmps51
    go_wp2
    go_ret
    exact ⟨rfl, rfl⟩
set_option maxHeartbeats 1000000 in
theorem areWidths_b {A : Option Addr} {n c : Nat} {zs : List Int} {w : World} {b : Bool} (h : Has w A n (ints .i64 zs)) (hn : n ≤ 16777216) (hb : okW zs = b) :
    Calls Try.prog 48 #[.slice A n c] w fun e w' => e = .returned (.bool b) ∧ w = w' := by
  have HL := Lib.hid h.len
  have HB := Lib.hid hb
  clear hb
  go_enter Try.func48, Try.ntmps48
  go_wp2
  go_loop [7] (fun i => ∃ k : Nat, k ≤ n ∧ i = .int .i64 k ∧ Hid (∀ f ∈ zs.take k, 1 ≤ f ∧ f ≤ 40)) (fun i => n - (intOf i).toNat)
  case atStart =>
    have : Hid (∀ f ∈ zs.take 0, 1 ≤ f ∧ f ≤ 40) := fun f hf => by simp at hf
    exact ⟨0, Nat.zero_le _, rfl, this⟩
  case round =>
    obtain ⟨k, hk, rfl, HF⟩ := hrel
    by_cases hlt : k < n
    · have hltB : decide ((k : Int) < (n : Int)) = true := by simp; omega
      obtain ⟨b, o, z, rfl, hbl, hx, hc⟩ := h.at_ hlt
      by_cases hz : 1 ≤ z ∧ z ≤ 40
      · have HF2 : Hid (∀ f ∈ zs.take (k + 1), 1 ≤ f ∧ f ≤ 40) := by
          have : ∀ f ∈ zs.take (k + 1), 1 ≤ f ∧ f ≤ 40 := by
            intro f hf
            rw [List.take_add_one, hx] at hf
            rcases List.mem_append.1 hf with hf | hf
            · exact HF.out f hf
            · simp at hf; subst hf; exact hz
          exact this
        have C := Lib.hid (isWidth_yes w hz)
        clear hx hz
        go_wp2_with (go_at_call 51; refine C.out.mono ?_; rintro e w' ⟨rfl, rfl⟩)
        go_round
        case rel => exact ⟨k + 1, by omega, by go_num, HF2⟩
        case measure => simp [intOf]; omega
      · have HE : Hid (okW zs = false) := by
          have : okW zs = false := by
            cases hq : okW zs with
            | false => rfl
            | true => exact absurd ((okW_iff.1 hq).2 z (List.mem_of_getElem? hx)) hz
          exact this
        have C := Lib.hid (isWidth_no w hz)
        clear hx hz
        go_wp2_with (go_at_call 51; refine C.out.mono ?_; rintro e w' ⟨rfl, rfl⟩)
        go_ret
        exact ⟨ret_bool (HE.out.symm.trans HB.out), rfl⟩
    · have hltB : decide ((k : Int) < (n : Int)) = false := by simp; omega
      obtain rfl : k = n := by omega
      have hall := HF.out
      rw [List.take_of_length_le (by rw [HL.out]; omega)] at hall
      by_cases h0 : k = 0
      · subst h0
        have HE : Hid (okW zs = false) := by
          have : okW zs = false := by
            cases hq : okW zs with
            | false => rfl
            | true => exact absurd (okW_iff.1 hq).1 (by rw [HL.out]; omega)
          exact this
        clear hall
        go_wp2
        go_ret
        exact ⟨ret_bool (HE.out.symm.trans HB.out), rfl⟩
      · have g0 : decide ((k : Int) > 0) = true := by simp; omega
        have g1 : decide (0 < (k : Int)) = true := by simp; omega
        have g2 : decide (0 < k) = true := by simp; omega
        have HE := Lib.hid (okW_iff.2 ⟨by rw [HL.out]; omega, hall⟩)
        clear hall h0
        go_wp2
        go_ret
        exact ⟨ret_bool (HE.out.symm.trans HB.out), rfl⟩
set_option maxHeartbeats 1000000 in
theorem lasting_any {m W : Nat} (w : World) (hm : m ≤ 16777216) (hW : W ≤ 40) : Calls Try.prog 52 #[.int .i64 (m : Int), .int .i64 (W : Int)] w fun e w' => e = .returned (.tuple #[.int .i64 (lasting m W : Int), .bool (lasting m W != 0)]) ∧ w = w' := by
  have w1 : IntKind.i64.wrap (2 * (m : Int)) = 2 * (m : Int) := IntWalk.i64_in _ (by omega)
  have w2 : IntKind.i64.wrap (5 * (W : Int)) = 5 * (W : Int) := IntWalk.i64_in _ (by omega)
  have w3 : IntKind.i64.wrap (3 * (W : Int)) = 3 * (W : Int) := IntWalk.i64_in _ (by omega)
  obtain ⟨l, hl⟩ : ∃ l, lasting m W = l := ⟨_, rfl⟩
  rw [hl]
  by_cases l0 : 2 * m < W
  · have g0 : decide (2 * (m : Int) < (W : Int)) = true := by simp; omega
    have g1 : decide (2 * m < W) = true := by simp; omega
    obtain rfl : l = 0 := by rw [← hl]; unfold lasting; rw [if_pos l0]
    clear hl l0
    go_enter Try.func52, Try.ntmps52
    go_wp2
    go_ret2
    exact ⟨rfl, rfl⟩
  have g0 : decide (2 * (m : Int) < (W : Int)) = false := by simp; omega
  have g1 : decide (2 * m < W) = false := by simp; omega
  by_cases l3 : 2 * m < 3 * W
  · have g2 : decide (2 * (m : Int) < 3 * (W : Int)) = true := by simp; omega
    have g3 : decide (2 * m < 3 * W) = true := by simp; omega
    obtain rfl : l = 1 := by rw [← hl]; unfold lasting; rw [if_neg l0, if_pos l3]
    clear hl l0 l3
    go_enter Try.func52, Try.ntmps52
    go_wp2
    go_ret2
    exact ⟨rfl, rfl⟩
  have g2 : decide (2 * (m : Int) < 3 * (W : Int)) = false := by simp; omega
  have g3 : decide (2 * m < 3 * W) = false := by simp; omega
  by_cases l5 : 2 * m < 5 * W
  · have g4 : decide (2 * (m : Int) < 5 * (W : Int)) = true := by simp; omega
    have g5 : decide (2 * m < 5 * W) = true := by simp; omega
    obtain rfl : l = 2 := by rw [← hl]; unfold lasting; rw [if_neg l0, if_neg l3, if_pos l5]
    clear hl l0 l3 l5
    go_enter Try.func52, Try.ntmps52
    go_wp2
    go_ret2
    exact ⟨rfl, rfl⟩
  have g4 : decide (2 * (m : Int) < 5 * (W : Int)) = false := by simp; omega
  have g5 : decide (2 * m < 5 * W) = false := by simp; omega
  obtain rfl : l = 0 := by rw [← hl]; unfold lasting; rw [if_neg l0, if_neg l3, if_neg l5]
  clear hl l0 l3 l5
  go_enter Try.func52, Try.ntmps52
  go_wp2
  go_ret2
  exact ⟨rfl, rfl⟩
theorem has_one (w : World) (x : Int) : Has (w.alloc (.cells #[.int .i64 x] 3)) (some ⟨w.heap.size, 0, none⟩) 1 (ints .i64 [x]) := ⟨rfl, fun i hi => ⟨w.heap.size, 0, rfl, by (have h0 : i = 0 := by omega); subst h0; exact (cell_of_row (w.alloc (.cells #[.int .i64 x] 3)) w.heap.size 0 _ 3 (0, 0) (heap_alloc_new w _)).trans rfl⟩⟩

set_option maxHeartbeats 4000000 in
theorem implTicksOf_r {A A2 : Option Addr} {n c n2 c2 : Nat} {ls ws r : List Int} {w : World} (hr : ticksL ls ws = r) (h : Has w A n (ints .i64 ls)) (h2 : Has w A2 n2 (ints .i64 ws)) (hn : n ≤ 16777216) (hn2 : n2 ≤ 16777216) :
    Calls Try.prog 27 #[.slice A n c, .slice A2 n2 c2] w fun e w' => ∃ A' n' c', e = .returned (.slice A' n' c') ∧ Own w' w.heap.size 3 A' n' c' (ints .i64 r) ∧ Below w.heap.size w w' := by
  obtain ⟨i0, hi, hz0, hz1, hz2⟩ := info_parts Try.infoInt
  have HL := Lib.hid h.len
  have HL2 := Lib.hid h2.len
  have HR := Lib.hid hr
  have hlen := h.len
  have hlen2 := h2.len
  clear hr
  by_cases h4 : n ≤ 400
  rotate_left
  · have h4B : decide ((n : Int) > 400) = true := by simp; omega
    have h4C : decide (400 < (n : Int)) = true := by simp; omega
    have HE := Lib.hid (ticksL_no (ls := ls) (ws := ws) (fun hh => h4 (by omega)))
    clear hlen hlen2
    obtain rfl := HE.out.symm.trans HR.out
    go_enter Try.func27, Try.ntmps27
    go_wp2
    go_ret
    exact ⟨_, _, _, rfl, World.ownsRow_nil _ _ _ _, Below.refl _ _⟩
  have h4B : decide ((n : Int) > 400) = false := by simp; omega
  have h4C : decide (400 < (n : Int)) = false := by simp; omega
  by_cases hb : okBits ls = true
  rotate_left
  · have C := Lib.hid (areBits_b (c := c) (b := false) h hn (by simpa using hb))
    have HE := Lib.hid (ticksL_no (ls := ls) (ws := ws) (fun hh => hb hh.1))
    clear hb hlen hlen2
    obtain rfl := HE.out.symm.trans HR.out
    go_enter Try.func27, Try.ntmps27
    go_wp2_with (fail)
    refine C.out.mono ?_
    rintro e w' ⟨rfl, rfl⟩
    go_wp2
    go_ret
    exact ⟨_, _, _, rfl, World.ownsRow_nil _ _ _ _, Below.refl _ _⟩
  have C := Lib.hid (areBits_b (c := c) h hn hb)
  by_cases hw : okW ws = true
  rotate_left
  · have C2 := Lib.hid (areWidths_b (c := c2) (b := false) h2 hn2 (by simpa using hw))
    have HE := Lib.hid (ticksL_no (ls := ls) (ws := ws) (fun hh => hw hh.2.2))
    clear hb hlen hlen2 hw
    obtain rfl := HE.out.symm.trans HR.out
    go_enter Try.func27, Try.ntmps27
    go_wp2_with (fail)
    refine C.out.mono ?_
    rintro e w' ⟨rfl, rfl⟩
    go_wp2_with (fail)
    refine C2.out.mono ?_
    rintro e w' ⟨rfl, rfl⟩
    go_wp2
    go_ret
    exact ⟨_, _, _, rfl, World.ownsRow_nil _ _ _ _, Below.refl _ _⟩
  have C2 := Lib.hid (areWidths_b (c := c2) h2 hn2 hw)
  have HB := Lib.hid hb
  have HW := Lib.hid hw
  have hn0 : 1 ≤ n2 := by have := (okW_iff.1 hw).1; omega
  clear hb hlen hlen2 hw
  go_enter Try.func27, Try.ntmps27
  go_wp2_with (fail)
  refine C.out.mono ?_
  rintro e w' ⟨rfl, rfl⟩
  go_wp2_with (fail)
  refine C2.out.mono ?_
  rintro e w' ⟨rfl, rfl⟩
  go_wp2
  go_loopw [5, 24] (fun v t wr => ∃ (i q : Nat) (A' : Option Addr) (c' : Nat), i ≤ n ∧ q ≤ 40 * i ∧ t = .int .i64 (i : Int) ∧ v = .slice A' q c' ∧ Own wr w.heap.size 3 A' q c' (ints .i64 (ticksP ws 0 (ls.take i))) ∧ Below w.heap.size w wr) (fun _ t _ => n - (intOf t).toNat)
  case atStart => exact ⟨0, 0, none, 0, Nat.zero_le _, by omega, rfl, rfl, World.ownsRow_nil _ _ _ _, Below.refl _ _⟩
  case round =>
    obtain ⟨i, q, A1, c1, hi2, hq, rfl, rfl, O1, B1⟩ := hrel
    have hge := B1.size
    by_cases hlt : i < n
    · have hltB : decide ((i : Int) < (n : Int)) = true := by simp; omega
      obtain ⟨hg1, hg2, hg3⟩ := wdAt_get HW.out i
      obtain ⟨j, hj⟩ : ∃ j, j = min i (n2 - 1) := ⟨_, rfl⟩
      have hjl : j < n2 := by omega
      have hmn : min (i : Int) ((n2 : Int) - 1) = (j : Int) := by omega
      rw [HL2.out, ← hj] at hg1
      obtain ⟨b2, o2, y, rfl, hbl2, hy, hc2⟩ := h2.at_ hjl
      have hyv : y = (wdAt ws i : Int) := by rw [hy] at hg1; injection hg1
      obtain ⟨b, o, x, rfl, hbl, hx, hc⟩ := h.at_ hlt
      have HX := Lib.hid (ticksP_take ws hx)
      obtain ⟨m, hm⟩ : ∃ m, wdAt ws i = m := ⟨_, rfl⟩
      rw [hm] at hyv HX hg2 hg3
      rw [hyv] at hc2
      have hkW : IntKind.i64.wrap ((n2 : Int) - 1) = (n2 : Int) - 1 := IntWalk.i64_in _ (by omega)
      have k0 := (B1.cell (p := ⟨b, o + i, none⟩) hbl).trans hc
      have k2 := (B1.cell (p := ⟨b2, o2 + j, none⟩) hbl2).trans hc2
      have C3 := Lib.hid (repeat_any (c := 1) (has_one wr x) hg2 (show m ≤ 65536 by omega))
      have hq2 : q + m ≤ 40 * (i + 1) := by omega
      clear hx hy hc2 hj hyv hm hg1
      go_wp2_with (fail)
      refine C3.out.mono ?_
      rintro e w3 ⟨A3, c3, rfl, O3, B3⟩
      have B3' : Below wr.heap.size wr w3 := ((Below.refl _ _).alloc (Nat.le_refl _) _).trans (B3.mono (by simp))
      have O1' := O1.bel B3'
      have hge3 := B3'.size
      go_wp2_with (at_builtin; refine wpList_app_has _ rfl (.tmp 37) (.tmp 41) 23 rfl w.heap.size 3 i0 (.int .i64 0) 8 Try.underlying23 hi hz0 hz1 hz2 rfl A1 q c1 _ rfl O1' A3 m c3 _ rfl O3.has (ints_oneCell _ _) (by omega) (by decide) (by omega) ?_; intro A4 c4 w4 O4 G4 B4)
      go_roundw
      case rel => exact ⟨i + 1, q + m, _, _, by omega, hq2, by go_num, rfl, by rw [HX.out, ints_app]; exact O4, B1.trans ((B3'.mono hge).trans B4)⟩
      case measure => simp [intOf]; omega
    · have hltB : decide ((i : Int) < (n : Int)) = false := by simp; omega
      obtain rfl : i = n := by omega
      have HE := Lib.hid (ticksL_yes HB.out (by rw [HL.out]; exact h4) HW.out)
      obtain rfl := HE.out.symm.trans HR.out
      go_wp2
      go_ret
      refine ⟨_, _, _, rfl, ?_, B1⟩
      rw [List.take_of_length_le (by rw [HL.out]; omega)] at O1
      exact O1
theorem implTicksOf_w {A A2 : Option Addr} {n c n2 c2 : Nat} {ls ws : List Int} {w : World} (h : Has w A n (ints .i64 ls)) (h2 : Has w A2 n2 (ints .i64 ws)) (hn : n ≤ 16777216) (hn2 : n2 ≤ 16777216) :
    Calls Try.prog 27 #[.slice A n c, .slice A2 n2 c2] w fun e w' => ∃ A' n' c', e = .returned (.slice A' n' c') ∧ Own w' w.heap.size 3 A' n' c' (ints .i64 (ticksL ls ws)) ∧ Below w.heap.size w w' := implTicksOf_r rfl h h2 hn hn2
end Go.Proofs.Ytbeebaiionlcoaa
