/-
  Chapter 12's program, its small functions: what is proved here is what they return, and that they write nothing that was there. Condition: lengths up to 2^24.
-/
import Derived.Test.YtpofkkenbepjpaaJobC
namespace Go.Proofs.Ytpofkkenbepjpaa
open Go.RowKit

theorem isClass_yes {A : Option Addr} {n c : Nat} {x : Int} (w : World) (h : 0 ≤ x ∧ x < (n : Int)) :
    Calls Try.prog 50 #[.int .i64 x, .slice A n c] w fun e w' => e = .returned (.bool true) ∧ w = w' := by
  have b1 : decide (x ≥ 0) = true := by simp; omega
  have b2 : decide (0 ≤ x) = true := by simp; omega
  have b3 : decide (x < (n : Int)) = true := by simp; omega
  clear h
  go_enter Try.func50, Try.ntmps50
  go_wp2
  go_ret
  exact ⟨rfl, rfl⟩
theorem isClass_no {A : Option Addr} {n c : Nat} {x : Int} (w : World) (h : ¬ (0 ≤ x ∧ x < (n : Int))) :
    Calls Try.prog 50 #[.int .i64 x, .slice A n c] w fun e w' => e = .returned (.bool false) ∧ w = w' := by
  by_cases h0 : 0 ≤ x
  · have b1 : decide (x ≥ 0) = true := by simp; omega
    have b2 : decide (0 ≤ x) = true := by simp; omega
    have b3 : decide (x < (n : Int)) = false := by simp; omega
    clear h h0
    go_enter Try.func50, Try.ntmps50
    go_wp2
    go_ret
    exact ⟨rfl, rfl⟩
  · have b1 : decide (x ≥ 0) = false := by simp; omega
    have b2 : decide (0 ≤ x) = false := by simp; omega
    clear h h0
    go_enter Try.func50, Try.ntmps50
    go_wp2
    go_ret
    exact ⟨rfl, rfl⟩
theorem isSize_yes {x : Int} (w : World) (h : 1 ≤ x ∧ x ≤ 9) :
    Calls Try.prog 51 #[.int .i64 x] w fun e w' => e = .returned (.bool true) ∧ w = w' := by
  have b1 : decide (x ≥ 1) = true := by simp; omega
  have b2 : decide (1 ≤ x) = true := by simp; omega
  have b3 : decide (x ≤ 9) = true := by simp; omega
  clear h
  go_enter Try.func51, Try.ntmps51
  go_wp2
  go_ret
  exact ⟨rfl, rfl⟩
theorem isSize_no {x : Int} (w : World) (h : ¬ (1 ≤ x ∧ x ≤ 9)) :
    Calls Try.prog 51 #[.int .i64 x] w fun e w' => e = .returned (.bool false) ∧ w = w' := by
  by_cases h0 : 1 ≤ x
  · have b1 : decide (x ≥ 1) = true := by simp; omega
    have b2 : decide (1 ≤ x) = true := by simp; omega
    have b3 : decide (x ≤ 9) = false := by simp; omega
    clear h h0
    go_enter Try.func51, Try.ntmps51
    go_wp2
    go_ret
    exact ⟨rfl, rfl⟩
  · have b1 : decide (x ≥ 1) = false := by simp; omega
    have b2 : decide (1 ≤ x) = false := by simp; omega
    clear h h0
    go_enter Try.func51, Try.ntmps51
    go_wp2
    go_ret
    exact ⟨rfl, rfl⟩
set_option maxHeartbeats 2000000 in
theorem areWeights_b {A : Option Addr} {n c : Nat} {ws : List Int} {w : World} {b : Bool} (h : Has w A n (ints .i64 ws)) (hn : n ≤ 16777216) (hb : decide (wtOk ws) = b) :
    Calls Try.prog 49 #[.slice A n c] w fun e w' => e = .returned (.bool b) ∧ w = w' := by
  have HL := Lib.hid h.len
  have HB := Lib.hid hb
  clear hb
  go_enter Try.func49, Try.ntmps49
  go_wp2
  go_loop [7] (fun t => ∃ k : Nat, k ≤ n ∧ t = .int .i64 (k : Int) ∧ Hid (∀ z ∈ ws.take k, 1 ≤ z ∧ z ≤ 9)) (fun t => n - (intOf t).toNat)
  case atStart =>
    have : Hid (∀ z ∈ ws.take 0, 1 ≤ z ∧ z ≤ 9) := fun z hz => by simp at hz
    exact ⟨0, Nat.zero_le _, rfl, this⟩
  case round =>
    obtain ⟨k, hk, rfl, HA⟩ := hrel
    by_cases hlt : k < n
    · have hltB : decide ((k : Int) < (n : Int)) = true := by simp; omega
      obtain ⟨bb, o, z, rfl, hbl, hx, hc⟩ := h.at_ hlt
      by_cases hz1 : z < 1
      · have zB : decide (z < 1) = true := by simp; omega
        have HE := Lib.hid (show decide (wtOk ws) = false from decide_eq_false fun hh => by have := hh.1 z (List.mem_of_getElem? hx); omega)
        clear hx hz1
        go_wp2
        go_ret
        exact ⟨ret_bool (HE.out.symm.trans HB.out), rfl⟩
      have zB : decide (z < 1) = false := by simp; omega
      by_cases hz9 : z > 9
      · have yB : decide (z > 9) = true := by simp; omega
        have yC : decide (9 < z) = true := by simp; omega
        have HE := Lib.hid (show decide (wtOk ws) = false from decide_eq_false fun hh => by have := hh.1 z (List.mem_of_getElem? hx); omega)
        clear hx hz1 hz9
        go_wp2
        go_ret
        exact ⟨ret_bool (HE.out.symm.trans HB.out), rfl⟩
      have yB : decide (z > 9) = false := by simp; omega
      have yC : decide (9 < z) = false := by simp; omega
      have HA2 : Hid (∀ z ∈ ws.take (k + 1), 1 ≤ z ∧ z ≤ 9) := all_take HA.out hx (by omega)
      clear hx hz1 hz9
      go_wp2
      go_round
      case rel => exact ⟨k + 1, by omega, by go_num, HA2⟩
      case measure => simp [intOf]; omega
    · have hltB : decide ((k : Int) < (n : Int)) = false := by simp; omega
      obtain rfl : k = n := by omega
      have HE := Lib.hid (all_full HA.out HL.out)
      by_cases h1 : 1 ≤ k
      · have k1 : decide ((k : Int) ≥ 1) = true := by simp; omega
        have k2 : decide (1 ≤ (k : Int)) = true := by simp; omega
        by_cases h4 : k ≤ 4
        · have k3 : decide ((k : Int) ≤ 4) = true := by simp; omega
          have HW := Lib.hid (show decide (wtOk ws) = true from decide_eq_true ⟨HE.out, by have := HL.out; omega, by have := HL.out; omega⟩)
          clear h1 h4
          go_wp2
          go_ret
          exact ⟨ret_bool (HW.out.symm.trans HB.out), rfl⟩
        · have k3 : decide ((k : Int) ≤ 4) = false := by simp; omega
          have HW := Lib.hid (show decide (wtOk ws) = false from decide_eq_false fun hh => by have := HL.out; have := hh.2.2; omega)
          clear h1 h4
          go_wp2
          go_ret
          exact ⟨ret_bool (HW.out.symm.trans HB.out), rfl⟩
      · have k1 : decide ((k : Int) ≥ 1) = false := by simp; omega
        have k2 : decide (1 ≤ (k : Int)) = false := by simp; omega
        have HW := Lib.hid (show decide (wtOk ws) = false from decide_eq_false fun hh => by have := HL.out; have := hh.2.1; omega)
        clear h1
        go_wp2
        go_ret
        exact ⟨ret_bool (HW.out.symm.trans HB.out), rfl⟩
set_option maxHeartbeats 2000000 in
theorem areJobIndexes_b {A B : Option Addr} {n c m d : Nat} {od : List Int} {w : World} {b : Bool} (h : Has w A n (ints .i64 od)) (hn : n ≤ 16777216) (hb : decide (ixOk od m) = b) :
    Calls Try.prog 54 #[.slice A n c, .slice B m d] w fun e w' => e = .returned (.bool b) ∧ w = w' := by
  have HL := Lib.hid h.len
  have HB := Lib.hid hb
  clear hb
  go_enter Try.func54, Try.ntmps54
  go_wp2
  go_loop [9] (fun t => ∃ k : Nat, k ≤ n ∧ t = .int .i64 (k : Int) ∧ Hid (∀ z ∈ od.take k, 0 ≤ z ∧ z < (m : Int))) (fun t => n - (intOf t).toNat)
  case atStart =>
    have : Hid (∀ z ∈ od.take 0, 0 ≤ z ∧ z < (m : Int)) := fun z hz => by simp at hz
    exact ⟨0, Nat.zero_le _, rfl, this⟩
  case round =>
    obtain ⟨k, hk, rfl, HA⟩ := hrel
    by_cases hlt : k < n
    · have hltB : decide ((k : Int) < (n : Int)) = true := by simp; omega
      obtain ⟨bb, o, z, rfl, hbl, hx, hc⟩ := h.at_ hlt
      by_cases hz1 : z < 0
      · have zB : decide (z < 0) = true := by simp; omega
        have HE := Lib.hid (show decide (ixOk od m) = false from decide_eq_false fun hh => by have := hh z (List.mem_of_getElem? hx); omega)
        clear hx hz1
        go_wp2
        go_ret
        exact ⟨ret_bool (HE.out.symm.trans HB.out), rfl⟩
      have zB : decide (z < 0) = false := by simp; omega
      by_cases hz9 : z ≥ (m : Int)
      · have yB : decide (z ≥ (m : Int)) = true := by simp; omega
        have yC : decide ((m : Int) ≤ z) = true := by simp; omega
        have HE := Lib.hid (show decide (ixOk od m) = false from decide_eq_false fun hh => by have := hh z (List.mem_of_getElem? hx); omega)
        clear hx hz1 hz9
        go_wp2
        go_ret
        exact ⟨ret_bool (HE.out.symm.trans HB.out), rfl⟩
      have yB : decide (z ≥ (m : Int)) = false := by simp; omega
      have yC : decide ((m : Int) ≤ z) = false := by simp; omega
      have HA2 : Hid (∀ z ∈ od.take (k + 1), 0 ≤ z ∧ z < (m : Int)) := all_take HA.out hx (by omega)
      clear hx hz1 hz9
      go_wp2
      go_round
      case rel => exact ⟨k + 1, by omega, by go_num, HA2⟩
      case measure => simp [intOf]; omega
    · have hltB : decide ((k : Int) < (n : Int)) = false := by simp; omega
      obtain rfl : k = n := by omega
      have HE := Lib.hid (show decide (ixOk od m) = true from decide_eq_true (all_full HA.out HL.out))
      go_wp2
      go_ret
      exact ⟨ret_bool (HE.out.symm.trans HB.out), rfl⟩
set_option maxHeartbeats 2000000 in
theorem areSizes_b {A B : Option Addr} {n c m d : Nat} {od : List Int} {js : List Duo} {w : World} {b : Bool} (h : Has w A n (ints .i64 od)) (hn : n ≤ 16777216) (hj : HasD w B m js) (hi : ixOk od m) (hb : decide (szOk js od) = b) :
    Calls Try.prog 60 #[.slice A n c, .slice B m d] w fun e w' => e = .returned (.bool b) ∧ w = w' := by
  have HL := Lib.hid h.len
  have HB := Lib.hid hb
  have HI := Lib.hid hi
  clear hb hi
  go_enter Try.func60, Try.ntmps60
  go_wp2
  go_loop [9] (fun t => ∃ k : Nat, k ≤ n ∧ t = .int .i64 (k : Int) ∧ Hid (szOk js (od.take k))) (fun t => n - (intOf t).toNat)
  case atStart =>
    have : Hid (szOk js (od.take 0)) := fun z hz => by simp at hz
    exact ⟨0, Nat.zero_le _, rfl, this⟩
  case round =>
    obtain ⟨k, hk, rfl, HA⟩ := hrel
    by_cases hlt : k < n
    · have hltB : decide ((k : Int) < (n : Int)) = true := by simp; omega
      obtain ⟨bb, o, z, rfl, hbl, hx, hc⟩ := h.at_ hlt
      have hz := HI.out z (List.mem_of_getElem? hx)
      obtain ⟨i, rfl⟩ := Int.eq_ofNat_of_zero_le hz.1
      have him : i < m := by omega
      obtain ⟨b2, o2, rfl, hbl2, e0, e1⟩ := hj.row him
      have hms := List.mem_of_getElem? hx
      by_cases hs : 1 ≤ (dj js i).2 ∧ (dj js i).2 ≤ 9
      · have C := Lib.hid (isSize_yes w hs)
        have HA2 : Hid (szOk js (od.take (k + 1))) := all_take (P := fun x : Int => 1 ≤ (dj js x.toNat).2 ∧ (dj js x.toNat).2 ≤ 9) HA.out hx (by simpa using hs)
        generalize (dj js i).2 = t at *
        clear hx hz hs hms
        go_wp2_with (fail)
        refine C.out.mono ?_
        rintro e w' ⟨rfl, rfl⟩
        go_wp2
        go_round
        case rel => exact ⟨k + 1, by omega, by go_num, HA2⟩
        case measure => simp [intOf]; omega
      · have C := Lib.hid (isSize_no w hs)
        have HE := Lib.hid (show decide (szOk js od) = false from decide_eq_false fun hh => hs (by have := hh _ hms; simpa using this))
        generalize (dj js i).2 = t at *
        clear hx hz hs hms
        go_wp2_with (fail)
        refine C.out.mono ?_
        rintro e w' ⟨rfl, rfl⟩
        go_wp2
        go_ret
        exact ⟨ret_bool (HE.out.symm.trans HB.out), rfl⟩
    · have hltB : decide ((k : Int) < (n : Int)) = false := by simp; omega
      obtain rfl : k = n := by omega
      have HE := Lib.hid (show decide (szOk js od) = true from decide_eq_true (by have := HA.out; rwa [List.take_of_length_le (by rw [HL.out]; omega)] at this))
      go_wp2
      go_ret
      exact ⟨ret_bool (HE.out.symm.trans HB.out), rfl⟩

/-- Where a number stands first in a list, or -1. -/
def ixOfL (od : List Int) (key : Int) : Int := firstIx (fun i => decide (od[i]? = some key)) 0 od.length
theorem firstIx_in (p : Nat → Bool) : ∀ f i, (firstIx p i f = -1 ∧ ∀ x, i ≤ x → x < i + f → p x = false) ∨ ∃ x : Nat, firstIx p i f = (x : Int) ∧ i ≤ x ∧ x < i + f ∧ p x = true ∧ ∀ y, i ≤ y → y < x → p y = false := by
  intro f
  induction f with
  | zero => intro i; exact .inl ⟨rfl, fun x h1 h2 => by omega⟩
  | succ f ih =>
    intro i
    rw [firstIx]
    by_cases h : p i = true
    · rw [if_pos h]; exact .inr ⟨i, rfl, Nat.le_refl _, by omega, h, fun y h1 h2 => by omega⟩
    · rw [if_neg h]
      have hf : p i = false := by simpa using h
      rcases ih (i + 1) with ⟨h1, h2⟩ | ⟨x, h1, h2, h3, h4, h5⟩
      · exact .inl ⟨h1, fun x hx1 hx2 => by
          by_cases e : x = i
          · rw [e]; exact hf
          · exact h2 x (by omega) (by omega)⟩
      · exact .inr ⟨x, h1, by omega, by omega, h4, fun y hy1 hy2 => by
          by_cases e : y = i
          · rw [e]; exact hf
          · exact h5 y (by omega) hy2⟩
theorem ixOf_or (od : List Int) (key : Int) : (ixOfL od key = -1 ∧ key ∉ od) ∨ ∃ p : Nat, ixOfL od key = (p : Int) ∧ p < od.length ∧ od[p]? = some key ∧ ∀ q, q < p → od[q]? ≠ some key := by
  rcases firstIx_in (fun i => decide (od[i]? = some key)) od.length 0 with ⟨h1, h2⟩ | ⟨x, h1, _, h3, h4, h5⟩
  · refine .inl ⟨h1, fun hm => ?_⟩
    obtain ⟨i, hi⟩ := List.getElem?_of_mem hm
    have hl := (List.getElem?_eq_some_iff.1 hi).1
    have := h2 i (Nat.zero_le _) (by omega)
    simp [hi] at this
  · exact .inr ⟨x, h1, by omega, by simpa using h4, fun q hq => by simpa using h5 q (Nat.zero_le _) hq⟩
set_option maxHeartbeats 2000000 in
theorem index_r {A : Option Addr} {n c : Nat} {od : List Int} {key r : Int} {w : World} (h : Has w A n (ints .i64 od)) (hn : n ≤ 16777216) (hr : ixOfL od key = r) :
    Calls Try.prog 59 #[.slice A n c, .int .i64 key] w fun e w' => e = .returned (.int .i64 r) ∧ w = w' := by
  have HL := Lib.hid h.len
  have HR := Lib.hid hr
  clear hr
  go_enter Try.func59, Try.ntmps59
  go_wp2
  go_loop [8] (fun t => ∃ k : Nat, k ≤ n ∧ t = .int .i64 (k : Int) ∧ Hid (firstIx (fun i => decide (od[i]? = some key)) k (n - k) = r)) (fun t => n - (intOf t).toNat)
  case atStart =>
    have : Hid (firstIx (fun i => decide (od[i]? = some key)) 0 (n - 0) = r) := by
      have : firstIx (fun i => decide (od[i]? = some key)) 0 (n - 0) = r := by rw [← HR.out, Nat.sub_zero]; unfold ixOfL; rw [HL.out]
      exact this
    exact ⟨0, Nat.zero_le _, rfl, this⟩
  case round =>
    obtain ⟨k, hk, rfl, HA⟩ := hrel
    by_cases hlt : k < n
    · have hltB : decide ((k : Int) < (n : Int)) = true := by simp; omega
      obtain ⟨bb, o, z, rfl, hbl, hx, hc⟩ := h.at_ hlt
      have HS := Lib.hid (show firstIx (fun i => decide (od[i]? = some key)) k (n - k) = if decide (od[k]? = some key) = true then (k : Int) else firstIx (fun i => decide (od[i]? = some key)) (k + 1) (n - (k + 1)) by
        rw [show n - k = (n - (k + 1)) + 1 by omega]; rfl)
      rw [hx] at HS
      by_cases hz : key = z
      · have zB : (key == z) = true := by simp [hz]
        have HK := Lib.hid (show (k : Int) = r by have h1 := HS.out; rw [if_pos (by simp [hz])] at h1; exact h1.symm.trans HA.out)
        clear hx hz HS
        go_wp2
        go_ret
        exact ⟨ret_int HK.out, rfl⟩
      · have zB : (key == z) = false := by simp [hz]
        have HK : Hid (firstIx (fun i => decide (od[i]? = some key)) (k + 1) (n - (k + 1)) = r) := by
          have : firstIx (fun i => decide (od[i]? = some key)) (k + 1) (n - (k + 1)) = r := by have h1 := HS.out; rw [if_neg (by simp; exact fun e => hz e.symm)] at h1; exact h1.symm.trans HA.out
          exact this
        clear hx hz HS
        go_wp2
        go_round
        case rel => exact ⟨k + 1, by omega, by go_num, HK⟩
        case measure => simp [intOf]; omega
    · have hltB : decide ((k : Int) < (n : Int)) = false := by simp; omega
      obtain rfl : k = n := by omega
      have HK := Lib.hid (show (-1 : Int) = r by have h1 := HA.out; rwa [Nat.sub_self] at h1)
      go_wp2
      go_ret
      exact ⟨ret_int HK.out, rfl⟩
theorem contains_yes {A : Option Addr} {n c : Nat} {od : List Int} {key : Int} {w : World} (h : Has w A n (ints .i64 od)) (hn : n ≤ 16777216) (hm : key ∈ od) :
    Calls Try.prog 55 #[.slice A n c, .int .i64 key] w fun e w' => e = .returned (.bool true) ∧ w = w' := by
  obtain ⟨p, hp⟩ : ∃ p : Nat, ixOfL od key = (p : Int) := by
    rcases ixOf_or od key with ⟨_, h2⟩ | ⟨p, h1, _⟩
    · exact absurd hm h2
    · exact ⟨p, h1⟩
  have C := Lib.hid (index_r (c := c) h hn hp)
  have b1 : decide ((p : Int) ≥ 0) = true := by simp
  have b2 : decide (0 ≤ (p : Int)) = true := by simp
  go_enter Try.func55, Try.ntmps55
  go_wp2_with (fail)
  refine C.out.mono ?_
  rintro e w' ⟨rfl, rfl⟩
  go_wp2
  go_ret
  exact ⟨rfl, rfl⟩
theorem contains_no {A : Option Addr} {n c : Nat} {od : List Int} {key : Int} {w : World} (h : Has w A n (ints .i64 od)) (hn : n ≤ 16777216) (hm : key ∉ od) :
    Calls Try.prog 55 #[.slice A n c, .int .i64 key] w fun e w' => e = .returned (.bool false) ∧ w = w' := by
  have hp : ixOfL od key = -1 := by
    rcases ixOf_or od key with ⟨h1, _⟩ | ⟨p, _, _, h3, _⟩
    · exact h1
    · exact absurd (List.mem_of_getElem? h3) hm
  have C := Lib.hid (index_r (c := c) h hn hp)
  go_enter Try.func55, Try.ntmps55
  go_wp2_with (fail)
  refine C.out.mono ?_
  rintro e w' ⟨rfl, rfl⟩
  go_wp2
  go_ret
  exact ⟨rfl, rfl⟩

set_option maxHeartbeats 4000000 in
theorem implJobsValid_b {A B : Option Addr} {n c m d : Nat} {ws : List Int} {js : List Duo} {w : World} {b : Bool} (h : Has w A n (ints .i64 ws)) (hj : HasD w B m js) (hn : n ≤ 16777216) (hm : m ≤ 16777216) (hb : decide (jobsOk ws js) = b) :
    Calls Try.prog 20 #[.slice A n c, .slice B m d] w fun e w' => e = .returned (.bool b) ∧ Below w.heap.size w w' := by
  have HL := Lib.hid h.len
  have HJ := Lib.hid hj.1
  have HB := Lib.hid hb
  clear hb
  by_cases hw : wtOk ws
  rotate_left
  · have C := Lib.hid (areWeights_b (c := c) h hn (decide_eq_false hw))
    have HE := Lib.hid (show decide (jobsOk ws js) = false from decide_eq_false fun hh => hw hh.2.1)
    clear hw
    go_enter Try.func20, Try.ntmps20
    go_wp2_with (fail)
    refine C.out.mono ?_
    rintro e w' ⟨rfl, rfl⟩
    go_wp2
    go_ret
    exact ⟨ret_bool (HE.out.symm.trans HB.out), Below.refl _ _⟩
  have C := Lib.hid (areWeights_b (c := c) h hn (decide_eq_true hw))
  by_cases h60 : m ≤ 60
  rotate_left
  · have b1 : decide ((m : Int) > 60) = true := by simp; omega
    have b2 : decide (60 < (m : Int)) = true := by simp; omega
    have HE := Lib.hid (show decide (jobsOk ws js) = false from decide_eq_false fun hh => h60 (by have := hh.2.2; have := HJ.out; omega))
    clear hw h60
    go_enter Try.func20, Try.ntmps20
    go_wp2_with (fail)
    refine C.out.mono ?_
    rintro e w' ⟨rfl, rfl⟩
    go_wp2
    go_ret
    exact ⟨ret_bool (HE.out.symm.trans HB.out), Below.refl _ _⟩
  have b1 : decide ((m : Int) > 60) = false := by simp; omega
  have b2 : decide (60 < (m : Int)) = false := by simp; omega
  have HW := Lib.hid hw
  clear hw
  go_enter Try.func20, Try.ntmps20
  go_wp2_with (fail)
  refine C.out.mono ?_
  rintro e w' ⟨rfl, rfl⟩
  go_wp2
  go_loopw [17] (fun t wr => ∃ k : Nat, k ≤ m ∧ t = .int .i64 (k : Int) ∧ Hid (∀ z ∈ js.take k, jOk ws.length z) ∧ Below w.heap.size w wr) (fun t _ => m - (intOf t).toNat)
  case atStart =>
    have : Hid (∀ z ∈ js.take 0, jOk ws.length z) := fun z hz => by simp at hz
    exact ⟨0, Nat.zero_le _, rfl, this, Below.refl _ _⟩
  case round =>
    obtain ⟨k, hk, rfl, HA, BK⟩ := hrel
    have hge := BK.size
    by_cases hlt : k < m
    · have hltB : decide ((k : Int) < (m : Int)) = true := by simp; omega
      obtain ⟨bb, o, f, t, rfl, hbl, hx, c0, c1⟩ := (hj.bel BK).at_ hlt
      have HJ0 := heap_alloc_new wr (.cells #[.int .i64 f, .int .i64 t] 31)
      obtain ⟨v0, v1⟩ := cells2D HJ0
      have BA : Below w.heap.size w (wr.alloc (.cells #[.int .i64 f, .int .i64 t] 31)) := BK.alloc hge _
      clear HJ0
      by_cases hf : 0 ≤ f ∧ f < (n : Int)
      · have C1 := Lib.hid (isClass_yes (A := A) (c := c) (wr.alloc (.cells #[.int .i64 f, .int .i64 t] 31)) hf)
        by_cases hz : 1 ≤ t ∧ t ≤ 9
        · have C2 := Lib.hid (isSize_yes (wr.alloc (.cells #[.int .i64 f, .int .i64 t] 31)) hz)
          have HA2 : Hid (∀ z ∈ js.take (k + 1), jOk ws.length z) := all_take HA.out hx ⟨hf.1, by have := HL.out; show f < (ws.length : Int); omega, hz⟩
          clear hx hz hf
          go_wp2_with (fail)
          refine C1.out.mono ?_
          rintro e w' ⟨rfl, rfl⟩
          go_wp2_with (fail)
          refine C2.out.mono ?_
          rintro e w' ⟨rfl, rfl⟩
          go_wp2
          go_roundw
          case rel => exact ⟨k + 1, by omega, by go_num, HA2, BA⟩
          case measure => simp [intOf]; omega
        · have C2 := Lib.hid (isSize_no (wr.alloc (.cells #[.int .i64 f, .int .i64 t] 31)) hz)
          have HE := Lib.hid (show decide (jobsOk ws js) = false from decide_eq_false fun hh => hz (hh.1 _ (List.mem_of_getElem? hx)).2.2)
          clear hx hz hf
          go_wp2_with (fail)
          refine C1.out.mono ?_
          rintro e w' ⟨rfl, rfl⟩
          go_wp2_with (fail)
          refine C2.out.mono ?_
          rintro e w' ⟨rfl, rfl⟩
          go_wp2
          go_ret
          exact ⟨ret_bool (HE.out.symm.trans HB.out), BA⟩
      · have C1 := Lib.hid (isClass_no (A := A) (c := c) (wr.alloc (.cells #[.int .i64 f, .int .i64 t] 31)) hf)
        have HE := Lib.hid (show decide (jobsOk ws js) = false from decide_eq_false fun hh => hf (by have h1 := hh.1 _ (List.mem_of_getElem? hx); have h2 := h1.1; have h3 := h1.2.1; have := HL.out; simp only at h2 h3; omega))
        clear hx hf
        go_wp2_with (fail)
        refine C1.out.mono ?_
        rintro e w' ⟨rfl, rfl⟩
        go_wp2
        go_ret
        exact ⟨ret_bool (HE.out.symm.trans HB.out), BA⟩
    · have hltB : decide ((k : Int) < (m : Int)) = false := by simp; omega
      obtain rfl : k = m := by omega
      have HE := Lib.hid (show decide (jobsOk ws js) = true from decide_eq_true ⟨all_full HA.out HJ.out, HW.out, by have := HJ.out; omega⟩)
      go_wp2
      go_ret
      exact ⟨ret_bool (HE.out.symm.trans HB.out), BK⟩

set_option maxHeartbeats 4000000 in
theorem implApartBound_r {A : Option Addr} {n c : Nat} {ws : List Int} {a b r : Int} {w : World} (h : Has w A n (ints .i64 ws)) (hn : n ≤ 16777216) (hr : apartL ws a b = r) :
    Calls Try.prog 23 #[.slice A n c, .int .i64 a, .int .i64 b] w fun e w' => e = .returned (.int .i64 r) ∧ Below w.heap.size w w' := by
  have HL := Lib.hid h.len
  have HR := Lib.hid hr
  clear hr
  by_cases hw : wtOk ws
  rotate_left
  · have C := Lib.hid (areWeights_b (c := c) h hn (decide_eq_false hw))
    have HE := Lib.hid (show apartL ws a b = -1 from if_neg fun hh => hw hh.1)
    clear hw
    go_enter Try.func23, Try.ntmps23
    go_wp2_with (fail)
    refine C.out.mono ?_
    rintro e w' ⟨rfl, rfl⟩
    go_wp2
    go_ret
    exact ⟨ret_int (HE.out.symm.trans HR.out), Below.refl _ _⟩
  have C := Lib.hid (areWeights_b (c := c) h hn (decide_eq_true hw))
  by_cases ha : 0 ≤ a ∧ a < (n : Int)
  rotate_left
  · have C1 := Lib.hid (isClass_no (A := A) (c := c) w ha)
    have HE := Lib.hid (show apartL ws a b = -1 from if_neg fun hh => ha (by have := HL.out; omega))
    clear hw ha
    go_enter Try.func23, Try.ntmps23
    go_wp2_with (fail)
    refine C.out.mono ?_
    rintro e w' ⟨rfl, rfl⟩
    go_wp2_with (fail)
    refine C1.out.mono ?_
    rintro e w' ⟨rfl, rfl⟩
    go_wp2
    go_ret
    exact ⟨ret_int (HE.out.symm.trans HR.out), Below.refl _ _⟩
  have C1 := Lib.hid (isClass_yes (A := A) (c := c) w ha)
  by_cases hb : 0 ≤ b ∧ b < (n : Int)
  rotate_left
  · have C2 := Lib.hid (isClass_no (A := A) (c := c) w hb)
    have HE := Lib.hid (show apartL ws a b = -1 from if_neg fun hh => hb (by have := HL.out; omega))
    clear hw ha hb
    go_enter Try.func23, Try.ntmps23
    go_wp2_with (fail)
    refine C.out.mono ?_
    rintro e w' ⟨rfl, rfl⟩
    go_wp2_with (fail)
    refine C1.out.mono ?_
    rintro e w' ⟨rfl, rfl⟩
    go_wp2_with (fail)
    refine C2.out.mono ?_
    rintro e w' ⟨rfl, rfl⟩
    go_wp2
    go_ret
    exact ⟨ret_int (HE.out.symm.trans HR.out), Below.refl _ _⟩
  have C2 := Lib.hid (isClass_yes (A := A) (c := c) w hb)
  obtain ⟨a', rfl⟩ := Int.eq_ofNat_of_zero_le ha.1
  obtain ⟨b', rfl⟩ := Int.eq_ofNat_of_zero_le hb.1
  have HE := Lib.hid (show apartL ws (a' : Int) (b' : Int) = 9 * dw ws a' * dw ws b' + 8 * dw ws a' by
    unfold apartL; rw [if_pos ⟨hw, by have := HL.out; omega, by have := HL.out; omega⟩]; simp)
  have hla : a' < n := by omega
  have hlb : b' < n := by omega
  have xa := dw_ok hw (c := a') (by have := HL.out; omega)
  have xb := dw_ok hw (c := b') (by have := HL.out; omega)
  obtain ⟨g, o, rfl, hbl, ca⟩ := has_dw h hla
  obtain ⟨g', o', hgo, _, cb⟩ := has_dw h hlb
  injection hgo with hgo
  injection hgo with e1 e2
  subst e1 e2
  generalize dw ws a' = x at ca xa HE
  generalize dw ws b' = y at cb xb HE
  have m1 : 1 ≤ x * y ∧ x * y ≤ 81 := ⟨by have := Int.mul_le_mul xa.1 xb.1 (by omega) (by omega); omega, by have := Int.mul_le_mul xa.2 xb.2 (by omega) (by omega); omega⟩
  have m2 : 9 * x * y = 9 * (x * y) := Int.mul_assoc 9 x y
  have w1 : IntKind.i64.wrap (9 * x) = 9 * x := IntWalk.i64_in _ (by omega)
  have w2 : IntKind.i64.wrap (9 * x * y) = 9 * x * y := IntWalk.i64_in _ (by omega)
  have w3 : IntKind.i64.wrap (8 * x) = 8 * x := IntWalk.i64_in _ (by omega)
  have w4 : IntKind.i64.wrap (9 * x * y + 8 * x) = 9 * x * y + 8 * x := IntWalk.i64_in _ (by omega)
  clear hw ha hb m1 m2
  go_enter Try.func23, Try.ntmps23
  go_wp2_with (fail)
  refine C.out.mono ?_
  rintro e w' ⟨rfl, rfl⟩
  go_wp2_with (fail)
  refine C1.out.mono ?_
  rintro e w' ⟨rfl, rfl⟩
  go_wp2_with (fail)
  refine C2.out.mono ?_
  rintro e w' ⟨rfl, rfl⟩
  go_wp2
  go_quiet (fail)
  go_wp2
  go_ret
  exact ⟨ret_int (HE.out.symm.trans HR.out), below_drewN _ _⟩
end Go.Proofs.Ytpofkkenbepjpaa
