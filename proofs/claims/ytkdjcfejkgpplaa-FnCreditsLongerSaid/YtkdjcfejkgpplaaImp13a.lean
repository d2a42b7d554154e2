/-
  Chapter 13's program, what may be: what is proved here is what its tests, RoomFor and OpenSlots return, and that they write nothing. Condition: lengths up to 2^24.
-/
import Derived.Test.YtkdjcfejkgpplaaCredA
namespace Go.Proofs.Ytkdjcfejkgpplaa
open Go.RowKit

theorem isRoom_b {n : Int} {b : Bool} (w : World) (hb : decide (1 ≤ n ∧ n ≤ 40) = b) : Calls Try.prog 31 #[.int .i64 n] w fun e w' => e = .returned (.bool b) ∧ w = w' := by
  subst hb
  by_cases h0 : 1 ≤ n
  · have a0 : decide (n ≥ 1) = true := decide_eq_true h0
    have a0' : decide (1 ≤ n) = true := decide_eq_true h0
    by_cases h1 : n ≤ 40
    · have a1 : decide (n ≤ 40) = true := decide_eq_true h1
      have HB := Lib.hid (decide_eq_true (show 1 ≤ n ∧ n ≤ 40 from ⟨h0, h1⟩))
      clear h0 h1
      go_enter Try.func31, Try.ntmps31
      go_wp2
      go_ret
      exact ⟨ret_bool HB.out.symm, rfl⟩
    · have a1 : decide (n ≤ 40) = false := decide_eq_false h1
      have HB := Lib.hid (decide_eq_false (show ¬ (1 ≤ n ∧ n ≤ 40) from fun hh => h1 hh.2))
      clear h0 h1
      go_enter Try.func31, Try.ntmps31
      go_wp2
      go_ret
      exact ⟨ret_bool HB.out.symm, rfl⟩
  · have a0 : decide (n ≥ 1) = false := decide_eq_false h0
    have a0' : decide (1 ≤ n) = false := decide_eq_false h0
    have HB := Lib.hid (decide_eq_false (show ¬ (1 ≤ n ∧ n ≤ 40) from fun hh => h0 hh.1))
    clear h0
    go_enter Try.func31, Try.ntmps31
    go_wp2
    go_ret
    exact ⟨ret_bool HB.out.symm, rfl⟩
theorem isDelay_b {n : Int} {b : Bool} (w : World) (hb : decide (1 ≤ n ∧ n ≤ 12) = b) : Calls Try.prog 32 #[.int .i64 n] w fun e w' => e = .returned (.bool b) ∧ w = w' := by
  subst hb
  by_cases h0 : 1 ≤ n
  · have a0 : decide (n ≥ 1) = true := decide_eq_true h0
    have a0' : decide (1 ≤ n) = true := decide_eq_true h0
    by_cases h1 : n ≤ 12
    · have a1 : decide (n ≤ 12) = true := decide_eq_true h1
      have HB := Lib.hid (decide_eq_true (show 1 ≤ n ∧ n ≤ 12 from ⟨h0, h1⟩))
      clear h0 h1
      go_enter Try.func32, Try.ntmps32
      go_wp2
      go_ret
      exact ⟨ret_bool HB.out.symm, rfl⟩
    · have a1 : decide (n ≤ 12) = false := decide_eq_false h1
      have HB := Lib.hid (decide_eq_false (show ¬ (1 ≤ n ∧ n ≤ 12) from fun hh => h1 hh.2))
      clear h0 h1
      go_enter Try.func32, Try.ntmps32
      go_wp2
      go_ret
      exact ⟨ret_bool HB.out.symm, rfl⟩
  · have a0 : decide (n ≥ 1) = false := decide_eq_false h0
    have a0' : decide (1 ≤ n) = false := decide_eq_false h0
    have HB := Lib.hid (decide_eq_false (show ¬ (1 ≤ n ∧ n ≤ 12) from fun hh => h0 hh.1))
    clear h0
    go_enter Try.func32, Try.ntmps32
    go_wp2
    go_ret
    exact ⟨ret_bool HB.out.symm, rfl⟩
theorem areFrames_b {n : Int} {b : Bool} (w : World) (hb : decide (0 ≤ n ∧ n ≤ 500) = b) : Calls Try.prog 33 #[.int .i64 n] w fun e w' => e = .returned (.bool b) ∧ w = w' := by
  subst hb
  by_cases h0 : 0 ≤ n
  · have a0 : decide (n ≥ 0) = true := decide_eq_true h0
    have a0' : decide (0 ≤ n) = true := decide_eq_true h0
    by_cases h1 : n ≤ 500
    · have a1 : decide (n ≤ 500) = true := decide_eq_true h1
      have HB := Lib.hid (decide_eq_true (show 0 ≤ n ∧ n ≤ 500 from ⟨h0, h1⟩))
      clear h0 h1
      go_enter Try.func33, Try.ntmps33
      go_wp2
      go_ret
      exact ⟨ret_bool HB.out.symm, rfl⟩
    · have a1 : decide (n ≤ 500) = false := decide_eq_false h1
      have HB := Lib.hid (decide_eq_false (show ¬ (0 ≤ n ∧ n ≤ 500) from fun hh => h1 hh.2))
      clear h0 h1
      go_enter Try.func33, Try.ntmps33
      go_wp2
      go_ret
      exact ⟨ret_bool HB.out.symm, rfl⟩
  · have a0 : decide (n ≥ 0) = false := decide_eq_false h0
    have a0' : decide (0 ≤ n) = false := decide_eq_false h0
    have HB := Lib.hid (decide_eq_false (show ¬ (0 ≤ n ∧ n ≤ 500) from fun hh => h0 hh.1))
    clear h0
    go_enter Try.func33, Try.ntmps33
    go_wp2
    go_ret
    exact ⟨ret_bool HB.out.symm, rfl⟩
theorem isSlot_b {n : Int} {b : Bool} (w : World) (hb : decide (0 ≤ n ∧ n ≤ 3000) = b) : Calls Try.prog 35 #[.int .i64 n] w fun e w' => e = .returned (.bool b) ∧ w = w' := by
  subst hb
  by_cases h0 : 0 ≤ n
  · have a0 : decide (n ≥ 0) = true := decide_eq_true h0
    have a0' : decide (0 ≤ n) = true := decide_eq_true h0
    by_cases h1 : n ≤ 3000
    · have a1 : decide (n ≤ 3000) = true := decide_eq_true h1
      have HB := Lib.hid (decide_eq_true (show 0 ≤ n ∧ n ≤ 3000 from ⟨h0, h1⟩))
      clear h0 h1
      go_enter Try.func35, Try.ntmps35
      go_wp2
      go_ret
      exact ⟨ret_bool HB.out.symm, rfl⟩
    · have a1 : decide (n ≤ 3000) = false := decide_eq_false h1
      have HB := Lib.hid (decide_eq_false (show ¬ (0 ≤ n ∧ n ≤ 3000) from fun hh => h1 hh.2))
      clear h0 h1
      go_enter Try.func35, Try.ntmps35
      go_wp2
      go_ret
      exact ⟨ret_bool HB.out.symm, rfl⟩
  · have a0 : decide (n ≥ 0) = false := decide_eq_false h0
    have a0' : decide (0 ≤ n) = false := decide_eq_false h0
    have HB := Lib.hid (decide_eq_false (show ¬ (0 ≤ n ∧ n ≤ 3000) from fun hh => h0 hh.1))
    clear h0
    go_enter Try.func35, Try.ntmps35
    go_wp2
    go_ret
    exact ⟨ret_bool HB.out.symm, rfl⟩
theorem implRoomFor_any {d : Int} {w : World} :
    Calls Try.prog 19 #[.int .i64 d] w fun e w' => e = .returned (.int .i64 (roomI d)) ∧ w = w' := by
  by_cases h : 1 ≤ d ∧ d ≤ 12
  · have C := Lib.hid (isDelay_b w (decide_eq_true h))
    have HE := Lib.hid (show roomI d = 2 * d from if_pos h)
    have w1 : IntKind.i64.wrap (2 * d) = 2 * d := IntWalk.i64_in _ (by omega)
    clear h
    go_enter Try.func19, Try.ntmps19
    go_wp2_with (fail)
    refine C.out.mono ?_
    rintro e w' ⟨rfl, rfl⟩
    go_wp2
    go_ret
    exact ⟨ret_int HE.out.symm, rfl⟩
  · have C := Lib.hid (isDelay_b w (decide_eq_false h))
    have HE := Lib.hid (show roomI d = -1 from if_neg h)
    clear h
    go_enter Try.func19, Try.ntmps19
    go_wp2_with (fail)
    refine C.out.mono ?_
    rintro e w' ⟨rfl, rfl⟩
    go_wp2
    go_ret
    exact ⟨ret_int HE.out.symm, rfl⟩
theorem isBit_yes {z : Int} (w : World) (h : z = 0 ∨ z = 1) : Calls Try.prog 53 #[.int .i64 z] w fun e w' => e = .returned (.bool true) ∧ w = w' := by
  by_cases h0 : z = 0
  · have h0B : (z == 0) = true := by simp [h0]
    clear h h0
    go_enter Try.func53, Try.ntmps53
    go_wp2
    go_ret
    exact ⟨rfl, rfl⟩
  · have h0B : (z == 0) = false := by simp [h0]
    have h1B : (z == 1) = true := by simp; omega
    clear h h0
    go_enter Try.func53, Try.ntmps53
    go_wp2
    go_ret
    exact ⟨rfl, rfl⟩
theorem isBit_no {z : Int} (w : World) (h : ¬ (z = 0 ∨ z = 1)) : Calls Try.prog 53 #[.int .i64 z] w fun e w' => e = .returned (.bool false) ∧ w = w' := by
  have h0B : (z == 0) = false := by simp; omega
  have h1B : (z == 1) = false := by simp; omega
  clear h
  go_enter Try.func53, Try.ntmps53
  go_wp2
  go_ret
  exact ⟨rfl, rfl⟩
set_option maxHeartbeats 1000000 in
theorem areBits13_b {A : Option Addr} {n c : Nat} {zs : List Int} {w : World} {b : Bool} (h : Has w A n (ints .i64 zs)) (hn : n ≤ 16777216) (hb : decide (∀ z ∈ zs, z = 0 ∨ z = 1) = b) :
    Calls Try.prog 45 #[.slice A n c] w fun e w' => e = .returned (.bool b) ∧ w = w' := by
  have HL := Lib.hid h.len
  have HB := Lib.hid hb
  clear hb
  go_enter Try.func45, Try.ntmps45
  go_wp2
  go_loop [7] (fun i => ∃ k : Nat, k ≤ n ∧ i = .int .i64 k ∧ Hid (∀ f ∈ zs.take k, f = 0 ∨ f = 1)) (fun i => n - (intOf i).toNat)
  case atStart =>
    have : Hid (∀ f ∈ zs.take 0, f = 0 ∨ f = 1) := fun f hf => by simp at hf
    exact ⟨0, Nat.zero_le _, rfl, this⟩
  case round =>
    obtain ⟨k, hk, rfl, HF⟩ := hrel
    by_cases hlt : k < n
    · have hltB : decide ((k : Int) < (n : Int)) = true := by simp; omega
      obtain ⟨b, o, z, rfl, hbl, hx, hc⟩ := h.at_ hlt
      by_cases hz : z = 0 ∨ z = 1
      · have HF2 := Lib.hid (all_take13 HF.out hx hz)
        have C := Lib.hid (isBit_yes w hz)
        clear hx hz
        go_wp2_with (go_at_call 53; refine C.out.mono ?_; rintro e w' ⟨rfl, rfl⟩)
        go_round
        case rel => exact ⟨k + 1, by omega, by go_num, HF2⟩
        case measure => simp [intOf]; omega
      · have HE := Lib.hid (show decide (∀ z ∈ zs, z = 0 ∨ z = 1) = false from decide_eq_false fun hh => hz (hh _ (List.mem_of_getElem? hx)))
        have C := Lib.hid (isBit_no w hz)
        clear hx hz
        go_wp2_with (go_at_call 53; refine C.out.mono ?_; rintro e w' ⟨rfl, rfl⟩)
        go_ret
        exact ⟨ret_bool (HE.out.symm.trans HB.out), rfl⟩
    · have hltB : decide ((k : Int) < (n : Int)) = false := by simp; omega
      obtain rfl : k = n := by omega
      have HE : Hid (decide (∀ z ∈ zs, z = 0 ∨ z = 1) = true) := by
        have h1 := HF.out
        rw [List.take_of_length_le (by rw [HL.out]; omega)] at h1
        exact decide_eq_true h1
      go_wp2
      go_ret
      exact ⟨ret_bool (HE.out.symm.trans HB.out), rfl⟩
def firstIx (p : Nat → Bool) : Nat → Nat → Int
  | _, 0 => -1
  | i, f + 1 => if p i = true then (i : Int) else firstIx p (i + 1) f
/-- Where a number stands first in a list, or -1. -/
def ixOfL (od : List Int) (key : Int) : Int := firstIx (fun i => decide (od[i]? = some key)) 0 od.length
theorem firstIx_in (p : Nat → Bool) : ∀ f i, (firstIx p i f = -1 ∧ ∀ x, i ≤ x → x < i + f → p x = false) ∨ ∃ x : Nat, firstIx p i f = (x : Int) ∧ i ≤ x ∧ x < i + f ∧ p x = true ∧ ∀ y, i ≤ y → y < x → p y = false := by
  intro f
  induction f with
  | zero => intro i; exact .inl ⟨rfl, fun x h1 h2 => by omega⟩
  | succ f ih =>
    intro i
    rw [firstIx]
    by_cases h : p i = true
    · rw [if_pos h]; exact .inr ⟨i, rfl, Nat.le_refl _, by omega, h, fun y h1 h2 => by omega⟩
    · rw [if_neg h]
      have hf : p i = false := by simpa using h
      rcases ih (i + 1) with ⟨h1, h2⟩ | ⟨x, h1, h2, h3, h4, h5⟩
      · exact .inl ⟨h1, fun x hx1 hx2 => by
          by_cases e : x = i
          · rw [e]; exact hf
          · exact h2 x (by omega) (by omega)⟩
      · exact .inr ⟨x, h1, by omega, by omega, h4, fun y hy1 hy2 => by
          by_cases e : y = i
          · rw [e]; exact hf
          · exact h5 y (by omega) hy2⟩
theorem ixOf_or (od : List Int) (key : Int) : (ixOfL od key = -1 ∧ key ∉ od) ∨ ∃ p : Nat, ixOfL od key = (p : Int) ∧ p < od.length ∧ od[p]? = some key ∧ ∀ q, q < p → od[q]? ≠ some key := by
  rcases firstIx_in (fun i => decide (od[i]? = some key)) od.length 0 with ⟨h1, h2⟩ | ⟨x, h1, _, h3, h4, h5⟩
  · refine .inl ⟨h1, fun hm => ?_⟩
    obtain ⟨i, hi⟩ := List.getElem?_of_mem hm
    have hl := (List.getElem?_eq_some_iff.1 hi).1
    have := h2 i (Nat.zero_le _) (by omega)
    simp [hi] at this
  · exact .inr ⟨x, h1, by omega, by simpa using h4, fun q hq => by simpa using h5 q (Nat.zero_le _) hq⟩
set_option maxHeartbeats 2000000 in
theorem index_r {A : Option Addr} {n c : Nat} {od : List Int} {key r : Int} {w : World} (h : Has w A n (ints .i64 od)) (hn : n ≤ 16777216) (hr : ixOfL od key = r) :
    Calls Try.prog 54 #[.slice A n c, .int .i64 key] w fun e w' => e = .returned (.int .i64 r) ∧ w = w' := by
  have HL := Lib.hid h.len
  have HR := Lib.hid hr
  clear hr
  go_enter Try.func54, Try.ntmps54
  go_wp2
  go_loop [8] (fun t => ∃ k : Nat, k ≤ n ∧ t = .int .i64 (k : Int) ∧ Hid (firstIx (fun i => decide (od[i]? = some key)) k (n - k) = r)) (fun t => n - (intOf t).toNat)
  case atStart =>
    have : Hid (firstIx (fun i => decide (od[i]? = some key)) 0 (n - 0) = r) := by
      have : firstIx (fun i => decide (od[i]? = some key)) 0 (n - 0) = r := by rw [← HR.out, Nat.sub_zero]; unfold ixOfL; rw [HL.out]
      exact this
    exact ⟨0, Nat.zero_le _, rfl, this⟩
  case round =>
    obtain ⟨k, hk, rfl, HA⟩ := hrel
    by_cases hlt : k < n
    · have hltB : decide ((k : Int) < (n : Int)) = true := by simp; omega
      obtain ⟨bb, o, z, rfl, hbl, hx, hc⟩ := h.at_ hlt
      have HS := Lib.hid (show firstIx (fun i => decide (od[i]? = some key)) k (n - k) = if decide (od[k]? = some key) = true then (k : Int) else firstIx (fun i => decide (od[i]? = some key)) (k + 1) (n - (k + 1)) by
        rw [show n - k = (n - (k + 1)) + 1 by omega]; rfl)
      rw [hx] at HS
      by_cases hz : key = z
      · have zB : (key == z) = true := by simp [hz]
        have HK := Lib.hid (show (k : Int) = r by have h1 := HS.out; rw [if_pos (by simp [hz])] at h1; exact h1.symm.trans HA.out)
        clear hx hz HS
        go_wp2
        go_ret
        exact ⟨ret_int HK.out, rfl⟩
      · have zB : (key == z) = false := by simp [hz]
        have HK : Hid (firstIx (fun i => decide (od[i]? = some key)) (k + 1) (n - (k + 1)) = r) := by
          have : firstIx (fun i => decide (od[i]? = some key)) (k + 1) (n - (k + 1)) = r := by have h1 := HS.out; rw [if_neg (by simp; exact fun e => hz e.symm)] at h1; exact h1.symm.trans HA.out
          exact this
        clear hx hz HS
        go_wp2
        go_round
        case rel => exact ⟨k + 1, by omega, by go_num, HK⟩
        case measure => simp [intOf]; omega
    · have hltB : decide ((k : Int) < (n : Int)) = false := by simp; omega
      obtain rfl : k = n := by omega
      have HK := Lib.hid (show (-1 : Int) = r by have h1 := HA.out; rwa [Nat.sub_self] at h1)
      go_wp2
      go_ret
      exact ⟨ret_int HK.out, rfl⟩
theorem contains_yes {A : Option Addr} {n c : Nat} {od : List Int} {key : Int} {w : World} (h : Has w A n (ints .i64 od)) (hn : n ≤ 16777216) (hm : key ∈ od) :
    Calls Try.prog 46 #[.slice A n c, .int .i64 key] w fun e w' => e = .returned (.bool true) ∧ w = w' := by
  obtain ⟨p, hp⟩ : ∃ p : Nat, ixOfL od key = (p : Int) := by
    rcases ixOf_or od key with ⟨_, h2⟩ | ⟨p, h1, _⟩
    · exact absurd hm h2
    · exact ⟨p, h1⟩
  have C := Lib.hid (index_r (c := c) h hn hp)
  have b1 : decide ((p : Int) ≥ 0) = true := by simp
  have b2 : decide (0 ≤ (p : Int)) = true := by simp
  go_enter Try.func46, Try.ntmps46
  go_wp2_with (fail)
  refine C.out.mono ?_
  rintro e w' ⟨rfl, rfl⟩
  go_wp2
  go_ret
  exact ⟨rfl, rfl⟩
theorem contains_no {A : Option Addr} {n c : Nat} {od : List Int} {key : Int} {w : World} (h : Has w A n (ints .i64 od)) (hn : n ≤ 16777216) (hm : key ∉ od) :
    Calls Try.prog 46 #[.slice A n c, .int .i64 key] w fun e w' => e = .returned (.bool false) ∧ w = w' := by
  have hp : ixOfL od key = -1 := by
    rcases ixOf_or od key with ⟨h1, _⟩ | ⟨p, _, _, h3, _⟩
    · exact h1
    · exact absurd (List.mem_of_getElem? h3) hm
  have C := Lib.hid (index_r (c := c) h hn hp)
  go_enter Try.func46, Try.ntmps46
  go_wp2_with (fail)
  refine C.out.mono ?_
  rintro e w' ⟨rfl, rfl⟩
  go_wp2
  go_ret
  exact ⟨rfl, rfl⟩
theorem isDrain_b {A : Option Addr} {n c : Nat} {ds : List Int} {w : World} {b : Bool} (h : Has w A n (ints .i64 ds)) (hn : n ≤ 16777216) (hb : decide (drainOk ds) = b) :
    Calls Try.prog 34 #[.slice A n c] w fun e w' => e = .returned (.bool b) ∧ w = w' := by
  have hl := h.len
  subst hb
  by_cases h1 : n ≤ 100
  rotate_left
  · have b1 : decide ((n : Int) ≤ 100) = false := by simp; omega
    have HE := Lib.hid (show decide (drainOk ds) = false from decide_eq_false fun hh => h1 (by have := hh.2.2; omega))
    clear h1
    go_enter Try.func34, Try.ntmps34
    go_wp2
    go_ret
    exact ⟨ret_bool HE.out.symm, rfl⟩
  have b1 : decide ((n : Int) ≤ 100) = true := by simp; omega
  by_cases h2 : ∀ z ∈ ds, z = 0 ∨ z = 1
  rotate_left
  · have C := Lib.hid (areBits13_b (c := c) h hn (decide_eq_false h2))
    have HE := Lib.hid (show decide (drainOk ds) = false from decide_eq_false fun hh => h2 hh.1)
    clear h1 h2
    go_enter Try.func34, Try.ntmps34
    go_wp2_with (fail)
    refine C.out.mono ?_
    rintro e w' ⟨rfl, rfl⟩
    go_wp2
    go_ret
    exact ⟨ret_bool HE.out.symm, rfl⟩
  have C := Lib.hid (areBits13_b (c := c) h hn (decide_eq_true h2))
  by_cases h3 : (1 : Int) ∈ ds
  · have C3 := Lib.hid (contains_yes (c := c) h hn h3)
    have HE := Lib.hid (show decide (drainOk ds) = true from decide_eq_true ⟨h2, h3, by omega⟩)
    clear h1 h2 h3
    go_enter Try.func34, Try.ntmps34
    go_wp2_with (fail)
    refine C.out.mono ?_
    rintro e w' ⟨rfl, rfl⟩
    go_wp2_with (fail)
    refine C3.out.mono ?_
    rintro e w' ⟨rfl, rfl⟩
    go_wp2
    go_ret
    exact ⟨ret_bool HE.out.symm, rfl⟩
  · have C3 := Lib.hid (contains_no (c := c) h hn h3)
    have HE := Lib.hid (show decide (drainOk ds) = false from decide_eq_false fun hh => h3 hh.2.1)
    clear h1 h2 h3
    go_enter Try.func34, Try.ntmps34
    go_wp2_with (fail)
    refine C.out.mono ?_
    rintro e w' ⟨rfl, rfl⟩
    go_wp2_with (fail)
    refine C3.out.mono ?_
    rintro e w' ⟨rfl, rfl⟩
    go_wp2
    go_ret
    exact ⟨ret_bool HE.out.symm, rfl⟩
theorem isOpen_b {A : Option Addr} {n c t : Nat} {ds : List Int} {w : World} {b : Bool} (h : Has w A n (ints .i64 ds)) (hd : drainOk ds) (ht : t ≤ 1000000) (hb : opOf ds t = b) :
    Calls Try.prog 38 #[.slice A n c, .int .i64 (t : Int)] w fun e w' => e = .returned (.bool b) ∧ w = w' := by
  have hl := h.len
  have hp := drainOk_pos hd
  have h100 := hd.2.2
  rw [hl] at hp h100
  obtain ⟨r, hr⟩ : ∃ r, t % n = r := ⟨_, rfl⟩
  have hrq : r < n := by rw [← hr]; exact Nat.mod_lt _ (by omega)
  obtain ⟨z, hz, hzv, hzB⟩ := drain_at hd t
  clear hzv
  rw [hl, hr] at hz
  obtain ⟨bb, o, z', rfl, hbl, hx, hc⟩ := h.at_ hrq
  obtain rfl : z' = z := by rw [hz] at hx; injection hx with hx; exact hx.symm
  rw [hb] at hzB
  have m1 : Int.tmod (t : Int) (n : Int) = (r : Int) := by rw [Int.tmod_eq_emod_of_nonneg (by omega), ← hr]; exact (Int.natCast_emod t n).symm
  have m2 : (t : Int) % (n : Int) = (r : Int) := by rw [← hr]; exact (Int.natCast_emod t n).symm
  have hqB : ((n : Int) == 0) = false := by simp; omega
  clear hz hx hr hd hb
  go_enter Try.func38, Try.ntmps38
  go_wp2
  go_ret
  exact ⟨rfl, rfl⟩
set_option maxHeartbeats 4000000 in
theorem implOpenSlots_any {A : Option Addr} {n c : Nat} {ds : List Int} {a k r : Int} {w : World} (h : Has w A n (ints .i64 ds)) (hn : n ≤ 16777216) (hr : openI ds a k = r) :
    Calls Try.prog 23 #[.slice A n c, .int .i64 a, .int .i64 k] w fun e w' => e = .returned (.int .i64 r) ∧ w = w' := by
  have bad : ¬ (drainOk ds ∧ slotOk a ∧ slotOk k) → Hid ((-1 : Int) = r) := fun hh => by
    have : (-1 : Int) = r := by rw [← hr]; exact (if_neg hh).symm
    exact this
  by_cases h1 : drainOk ds
  rotate_left
  · have C := Lib.hid (isDrain_b (c := c) h hn (decide_eq_false h1))
    have HE := bad (fun hh => h1 hh.1)
    clear h1 bad hr
    go_enter Try.func23, Try.ntmps23
    go_wp2_with (fail)
    refine C.out.mono ?_
    rintro e w' ⟨rfl, rfl⟩
    go_wp2
    go_ret
    exact ⟨ret_int HE.out, rfl⟩
  have C := Lib.hid (isDrain_b (c := c) h hn (decide_eq_true h1))
  by_cases h2 : 0 ≤ a ∧ a ≤ 3000
  rotate_left
  · have C2 := Lib.hid (isSlot_b w (decide_eq_false h2))
    have HE := bad (fun hh => h2 hh.2.1)
    clear h1 h2 bad hr
    go_enter Try.func23, Try.ntmps23
    go_wp2_with (fail)
    refine C.out.mono ?_
    rintro e w' ⟨rfl, rfl⟩
    go_wp2_with (fail)
    refine C2.out.mono ?_
    rintro e w' ⟨rfl, rfl⟩
    go_wp2
    go_ret
    exact ⟨ret_int HE.out, rfl⟩
  have C2 := Lib.hid (isSlot_b w (decide_eq_true h2))
  by_cases h3 : 0 ≤ k ∧ k ≤ 3000
  rotate_left
  · have C3 := Lib.hid (isSlot_b w (decide_eq_false h3))
    have HE := bad (fun hh => h3 hh.2.2)
    clear h1 h2 h3 bad hr
    go_enter Try.func23, Try.ntmps23
    go_wp2_with (fail)
    refine C.out.mono ?_
    rintro e w' ⟨rfl, rfl⟩
    go_wp2_with (fail)
    refine C2.out.mono ?_
    rintro e w' ⟨rfl, rfl⟩
    go_wp2_with (fail)
    refine C3.out.mono ?_
    rintro e w' ⟨rfl, rfl⟩
    go_wp2
    go_ret
    exact ⟨ret_int HE.out, rfl⟩
  have C3 := Lib.hid (isSlot_b w (decide_eq_true h3))
  obtain ⟨f, rfl⟩ := Int.eq_ofNat_of_zero_le h2.1
  obtain ⟨m, rfl⟩ := Int.eq_ofNat_of_zero_le h3.1
  have HR := Lib.hid (show (cntF (opOf ds) f m : Int) = r by rw [← hr]; exact (if_pos (show drainOk ds ∧ slotOk (f : Int) ∧ slotOk (m : Int) from ⟨h1, h2, h3⟩)).symm)
  have HD := Lib.hid h1
  have hf := h2.2
  have hm := h3.2
  clear h1 h2 h3 bad hr
  go_enter Try.func23, Try.ntmps23
  go_wp2_with (fail)
  refine C.out.mono ?_
  rintro e w' ⟨rfl, rfl⟩
  go_wp2_with (fail)
  refine C2.out.mono ?_
  rintro e w' ⟨rfl, rfl⟩
  go_wp2_with (fail)
  refine C3.out.mono ?_
  rintro e w' ⟨rfl, rfl⟩
  go_wp2
  go_loop [7, 23] (fun v i => ∃ (k S : Nat), k ≤ m ∧ i = .int .i64 (k : Int) ∧ v = .int .i64 (S : Int) ∧ S ≤ k ∧ Hid (cntF (opOf ds) f k = S)) (fun _ i => m - (intOf i).toNat)
  case atStart =>
    have H1 : Hid (cntF (opOf ds) f 0 = 0) := by
      have : cntF (opOf ds) f 0 = 0 := rfl
      exact this
    exact ⟨0, 0, Nat.zero_le _, rfl, rfl, Nat.le_refl _, H1⟩
  case round =>
    obtain ⟨k, S, hk, rfl, rfl, hS, HS⟩ := hrel
    by_cases hlt : k < m
    · have hltB : decide ((k : Int) < (m : Int)) = true := by simp; omega
      obtain ⟨i, hi⟩ : ∃ i, f + k = i := ⟨_, rfl⟩
      have e1 : (f : Int) + (k : Int) = (i : Int) := by omega
      obtain ⟨b, hb⟩ : ∃ b, opOf ds i = b := ⟨_, rfl⟩
      have CO := Lib.hid (isOpen_b (c := c) (t := i) h HD.out (by omega) hb)
      have HS2 : Hid (cntF (opOf ds) f (k + 1) = S + b.toNat) := by
        have : cntF (opOf ds) f (k + 1) = S + b.toNat := by rw [cntF, HS.out, hi, hb]
        exact this
      clear hb hi
      cases b with
      | true =>
        go_wp2_with (fail)
        refine CO.out.mono ?_
        rintro e w' ⟨rfl, rfl⟩
        go_wp2
        go_round
        case rel => exact ⟨k + 1, S + 1, by omega, by go_num, by go_num, by omega, HS2⟩
        case measure => simp [intOf]; omega
      | false =>
        go_wp2_with (fail)
        refine CO.out.mono ?_
        rintro e w' ⟨rfl, rfl⟩
        go_wp2
        go_round
        case rel => exact ⟨k + 1, S, by omega, by go_num, rfl, by omega, HS2⟩
        case measure => simp [intOf]; omega
    · have hltB : decide ((k : Int) < (m : Int)) = false := by simp; omega
      obtain rfl : k = m := by omega
      have HE := Lib.hid (show (S : Int) = r by rw [← HR.out, HS.out])
      go_wp2
      go_ret
      exact ⟨ret_int HE.out, rfl⟩
end Go.Proofs.Ytkdjcfejkgpplaa
