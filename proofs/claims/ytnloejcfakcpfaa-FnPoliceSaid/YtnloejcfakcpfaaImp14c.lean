/-
  Chapter 14's program: what is proved here is what PulsesValid, areShaped, greatestPulse, PolicePulses and Conforms return, and that they write nothing that was there. Condition: lengths up to 2^24.
-/
import Derived.Test.YtnloejcfakcpfaaImp14b
namespace Go.Proofs.Ytnloejcfakcpfaa
open Go.RowKit

set_option maxHeartbeats 4000000 in
theorem implPulsesValid_b {A : Option Addr} {n c : Nat} {hs : List Duo} {w : World} {b : Bool} (h : HasD w A n hs) (hn : n ≤ 16777216) (hb : decide (pulOk hs) = b) :
    Calls Try.prog 19 #[.slice A n c] w fun e w' => e = .returned (.bool b) ∧ Below w.heap.size w w' := by
  have HL := Lib.hid h.1
  have HB := Lib.hid hb
  clear hb
  go_enter Try.func19, Try.ntmps19
  go_wp2
  go_loopw [7] (fun t wr => ∃ k : Nat, k ≤ n ∧ t = .int .i64 (k : Int) ∧ Hid (∀ z ∈ hs.take k, puOk z) ∧ Below w.heap.size w wr) (fun t _ => n - (intOf t).toNat)
  case atStart =>
    have h1 : Hid (∀ z ∈ hs.take 0, puOk z) := fun z hz => by simp at hz
    exact ⟨0, Nat.zero_le _, rfl, h1, Below.refl _ _⟩
  case round =>
    obtain ⟨k, hk, rfl, HA, B⟩ := hrel
    have hge := B.size
    by_cases hlt : k < n
    · have hltB : decide ((k : Int) < (n : Int)) = true := by simp; omega
      obtain ⟨bb, o, f, t, rfl, hbl, hx, c0, c1⟩ := (h.bel B).at_ hlt
      have BE : Below w.heap.size w (wr.alloc (.cells #[.int .i64 f, .int .i64 t] 29)) := B.trans (((Below.refl wr.heap.size wr).alloc (Nat.le_refl _) _).mono hge)
      by_cases hf : 0 ≤ f ∧ f ≤ 2000
      rotate_left
      · have C1 := Lib.hid (fun W => isPulseTime_no W hf)
        have HE := Lib.hid (show decide (pulOk hs) = false from decide_eq_false fun hh => hf (hh.1 _ (List.mem_of_getElem? hx)).1)
        clear hx hf
        go_wp2_with (fail)
        refine (C1.out _).mono ?_
        rintro e w' ⟨rfl, rfl⟩
        go_wp2
        go_ret
        exact ⟨ret_bool (HE.out.symm.trans HB.out), BE⟩
      have C1 := Lib.hid (fun W => isPulseTime_yes W hf)
      by_cases hz : 1 ≤ t ∧ t ≤ 50
      rotate_left
      · have C2 := Lib.hid (fun W => isPulseSize_no W hz)
        have HE := Lib.hid (show decide (pulOk hs) = false from decide_eq_false fun hh => hz (hh.1 _ (List.mem_of_getElem? hx)).2)
        clear hx hf hz
        go_wp2_with (fail)
        refine (C1.out _).mono ?_
        rintro e w' ⟨rfl, rfl⟩
        go_wp2_with (fail)
        refine (C2.out _).mono ?_
        rintro e w' ⟨rfl, rfl⟩
        go_wp2
        go_ret
        exact ⟨ret_bool (HE.out.symm.trans HB.out), BE⟩
      have C2 := Lib.hid (fun W => isPulseSize_yes W hz)
      have HA2 : Hid (∀ z ∈ hs.take (k + 1), puOk z) := all_take HA.out hx ⟨hf, hz⟩
      clear hx hf hz
      go_wp2_with (fail)
      refine (C1.out _).mono ?_
      rintro e w' ⟨rfl, rfl⟩
      go_wp2_with (fail)
      refine (C2.out _).mono ?_
      rintro e w' ⟨rfl, rfl⟩
      go_wp2
      go_roundw
      case rel => exact ⟨k + 1, by omega, by go_num, HA2, BE⟩
      case measure => simp [intOf]; omega
    · have hltB : decide ((k : Int) < (n : Int)) = false := by simp; omega
      obtain rfl : k = n := by omega
      have HE := Lib.hid (all_full HA.out HL.out)
      by_cases h6 : k ≤ 60
      · have b6 : decide ((k : Int) ≤ 60) = true := by simp; omega
        have b7 : decide (k ≤ 60) = true := by simp; omega
        have C := Lib.hid (isSorted_b (c := c) (b := b) (h.bel B) hn HE.out (by
          rw [← HB.out, decide_eq_decide]
          have h1 := HL.out
          unfold pulOk
          rw [h1]
          exact ⟨fun hh => ⟨HE.out, hh, h6⟩, fun hh => hh.2.1⟩))
        clear h6
        go_wp2_with (fail)
        refine C.out.mono ?_
        rintro e w' ⟨rfl, B2⟩
        go_wp2
        go_ret
        exact ⟨rfl, B.trans (B2.mono hge)⟩
      · have b6 : decide ((k : Int) ≤ 60) = false := by simp; omega
        have b7 : decide (k ≤ 60) = false := by simp; omega
        have HE2 := Lib.hid (show decide (pulOk hs) = false from decide_eq_false fun hh => by have := hh.2.2; have := HL.out; omega)
        clear h6
        go_wp2
        go_ret
        exact ⟨ret_bool (HE2.out.symm.trans HB.out), B⟩
set_option maxHeartbeats 2000000 in
theorem areShaped_b {A : Option Addr} {n c : Nat} {r b : Int} {hs : List Duo} {w : World} {v : Bool} (h : HasD w A n hs) (hn : n ≤ 16777216) (hv : decide (shOk r b hs) = v) :
    Calls Try.prog 48 #[.int .i64 r, .int .i64 b, .slice A n c] w fun e w' => e = .returned (.bool v) ∧ Below w.heap.size w w' := by
  have HV := Lib.hid hv
  clear hv
  by_cases hr : 1 ≤ r ∧ r ≤ 20
  rotate_left
  · have C1 := Lib.hid (isRate_no w hr)
    have HE := Lib.hid (show decide (shOk r b hs) = false from decide_eq_false fun hh => hr hh.1)
    clear hr
    go_enter Try.func48, Try.ntmps48
    go_wp2_with (fail)
    refine C1.out.mono ?_
    rintro e w' ⟨rfl, rfl⟩
    go_wp2
    go_ret
    exact ⟨ret_bool (HE.out.symm.trans HV.out), Below.refl _ _⟩
  have C1 := Lib.hid (isRate_yes w hr)
  by_cases hb : 1 ≤ b ∧ b ≤ 100
  rotate_left
  · have C2 := Lib.hid (isBurst_no w hb)
    have HE := Lib.hid (show decide (shOk r b hs) = false from decide_eq_false fun hh => hb hh.2.1)
    clear hr hb
    go_enter Try.func48, Try.ntmps48
    go_wp2_with (fail)
    refine C1.out.mono ?_
    rintro e w' ⟨rfl, rfl⟩
    go_wp2_with (fail)
    refine C2.out.mono ?_
    rintro e w' ⟨rfl, rfl⟩
    go_wp2
    go_ret
    exact ⟨ret_bool (HE.out.symm.trans HV.out), Below.refl _ _⟩
  have C2 := Lib.hid (isBurst_yes w hb)
  have C3 := Lib.hid (implPulsesValid_b (c := c) h hn (b := v) (by rw [← HV.out, decide_eq_decide]; exact ⟨fun hh => ⟨hr, hb, hh⟩, fun hh => hh.2.2⟩))
  clear hr hb
  go_enter Try.func48, Try.ntmps48
  go_wp2_with (fail)
  refine C1.out.mono ?_
  rintro e w' ⟨rfl, rfl⟩
  go_wp2_with (fail)
  refine C2.out.mono ?_
  rintro e w' ⟨rfl, rfl⟩
  go_wp2_with (fail)
  refine C3.out.mono ?_
  rintro e w' ⟨rfl, B⟩
  go_wp2
  go_ret
  exact ⟨rfl, B⟩
/-- The greatest of the first k. -/
def greatTo (hs : List Duo) : Nat → Int
  | 0 => 0
  | k + 1 => max (greatTo hs k) (dj hs k).2
theorem great_le {hs : List Duo} {b : Int} (h0 : 0 ≤ b) : ∀ k, k ≤ hs.length → (greatTo hs k ≤ b ↔ ∀ i, i < k → (dj hs i).2 ≤ b)
  | 0, _ => ⟨fun _ i hi => by omega, fun _ => h0⟩
  | k + 1, hk => by
    have ih := great_le (hs := hs) h0 k (by omega)
    unfold greatTo
    constructor
    · intro h i hi
      by_cases he : i = k
      · subst he; omega
      · exact ih.1 (by omega) i (by omega)
    · intro h
      have h1 := ih.2 (fun i hi => h i (by omega))
      have h2 := h k (by omega)
      omega
theorem great_siz {hs : List Duo} {b : Int} (h0 : 0 ≤ b) : greatTo hs hs.length ≤ b ↔ sizOk b hs := by
  rw [great_le h0 _ (Nat.le_refl _)]
  constructor
  · intro h z hz
    obtain ⟨i, hi⟩ := List.getElem?_of_mem hz
    obtain ⟨h1, _⟩ := List.getElem?_eq_some_iff.1 hi
    have := h i h1
    rwa [dj_atS hi] at this
  · intro h i hi; exact siz_at h hi
set_option maxHeartbeats 2000000 in
theorem greatest_any {A : Option Addr} {n c : Nat} {hs : List Duo} {w : World} (h : HasD w A n hs) (hn : n ≤ 16777216) :
    Calls Try.prog 57 #[.slice A n c] w fun e w' => e = .returned (.int .i64 (greatTo hs n)) ∧ Below w.heap.size w w' := by
  go_enter Try.func57, Try.ntmps57
  go_wp2
  go_loopw [3, 8] (fun g t wr => ∃ (k : Nat) (x : Int), k ≤ n ∧ g = .int .i64 x ∧ t = .int .i64 (k : Int) ∧ Hid (greatTo hs k = x) ∧ Below w.heap.size w wr) (fun _ t _ => n - (intOf t).toNat)
  case atStart =>
    have h1 : Hid (greatTo hs 0 = 0) := by have : greatTo hs 0 = 0 := rfl; exact this
    exact ⟨0, 0, Nat.zero_le _, rfl, rfl, h1, Below.refl _ _⟩
  case round =>
    obtain ⟨k, x, hk, rfl, rfl, HG, B⟩ := hrel
    have hge := B.size
    by_cases hlt : k < n
    · have hltB : decide ((k : Int) < (n : Int)) = true := by simp; omega
      obtain ⟨bb, o, f, t, rfl, hbl, hx, c0, c1⟩ := (h.bel B).at_ hlt
      have BE : Below w.heap.size w (wr.alloc (.cells #[.int .i64 f, .int .i64 t] 29)) := B.trans (((Below.refl wr.heap.size wr).alloc (Nat.le_refl _) _).mono hge)
      obtain ⟨y, hy⟩ : ∃ y, max x t = y := ⟨_, rfl⟩
      have HG2 : Hid (greatTo hs (k + 1) = y) := by
        have : greatTo hs (k + 1) = y := by
          show max (greatTo hs k) (dj hs k).2 = y
          rw [HG.out, dj_atS hx]; exact hy
        exact this
      clear hx
      go_wp2
      go_roundw
      case rel => exact ⟨k + 1, _, by omega, rfl, by go_num, HG2, BE⟩
      case measure => simp [intOf]; omega
    · have hltB : decide ((k : Int) < (n : Int)) = false := by simp; omega
      obtain rfl : k = n := by omega
      go_wp2
      go_ret
      exact ⟨ret_int HG.out.symm, B⟩
end Go.Proofs.Ytnloejcfakcpfaa
