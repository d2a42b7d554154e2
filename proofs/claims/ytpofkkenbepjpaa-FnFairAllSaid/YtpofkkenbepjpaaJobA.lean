/-
  Chapter 12's model, what jobs are: what is proved here is what l12Weights, JobsValid, l12Next and ApartBound return, and that they write nothing. Condition: lengths up to 2^24.
-/
import Derived.Test.YtpofkkenbepjpaaRowsD
import Derived.Test.YtpofkkenbepjpaaBools
import Derived.Test.YtpofkkenbepjpaaPar
import Derived.Deep.QuietTactic
import Derived.BigQuiet
namespace Go.Proofs.Ytpofkkenbepjpaa
open Go.RowKit

theorem below_allocJ (w : World) (o : Obj) : Below w.heap.size w (w.alloc o) := (Below.refl _ _).alloc (Nat.le_refl _) _
theorem all_take {α : Type} {P : α → Prop} {l : List α} {k : Nat} {x : α} (h : ∀ z ∈ l.take k, P z) (hx : l[k]? = some x) (hp : P x) : ∀ z ∈ l.take (k + 1), P z := by
  rw [List.take_add_one, hx]
  intro z hz
  rcases List.mem_append.1 hz with hz | hz
  · exact h z hz
  · simp at hz; subst hz; exact hp
theorem all_full {α : Type} {P : α → Prop} {l : List α} {k : Nat} (h : ∀ z ∈ l.take k, P z) (hk : l.length = k) : ∀ z ∈ l, P z := by
  rw [List.take_of_length_le (by omega)] at h; exact h
theorem not_all {α : Type} {P : α → Prop} {l : List α} {k : Nat} {x : α} (hx : l[k]? = some x) (hp : ¬ P x) : ¬ ∀ z ∈ l, P z := fun h => hp (h x (List.mem_of_getElem? hx))
theorem dw_at {ws : List Int} {i : Nat} {z : Int} (h : ws[i]? = some z) : dw ws i = z := by unfold dw; rw [List.getD_eq_getElem?_getD, h]; rfl
theorem dj_at {js : List Duo} {i : Nat} {z : Duo} (h : js[i]? = some z) : dj js i = z := by unfold dj; rw [List.getD_eq_getElem?_getD, h]; rfl
theorem dj_some {js : List Duo} {i : Nat} (h : i < js.length) : js[i]? = some (dj js i) := by unfold dj; rw [List.getD_eq_getElem?_getD, List.getElem?_eq_getElem h]; rfl
theorem dw_some {ws : List Int} {i : Nat} (h : i < ws.length) : ws[i]? = some (dw ws i) := by unfold dw; rw [List.getD_eq_getElem?_getD, List.getElem?_eq_getElem h]; rfl
theorem has_dw {w : World} {A : Option Addr} {n : Nat} {ws : List Int} (h : Has w A n (ints .i64 ws)) {i : Nat} (hi : i < n) :
    ∃ b o, A = some ⟨b, o, none⟩ ∧ b < w.heap.size ∧ w.cell? ⟨b, o + i, none⟩ = some (.int .i64 (dw ws i)) := by
  obtain ⟨b, o, z, hA, hbl, hx, hc⟩ := h.at_ hi
  rw [dw_at hx]
  exact ⟨b, o, hA, hbl, hc⟩

set_option maxHeartbeats 2000000 in
theorem l12Weights_b {A : Option Addr} {n c : Nat} {ws : List Int} {w : World} {b : Bool} (h : Has w A n (ints .i64 ws)) (hn : n ≤ 16777216) (hb : decide (wtOk ws) = b) :
    Calls Try.prog 53 #[.slice A n c] w fun e w' => e = .returned (.bool b) ∧ w = w' := by
  have HL := Lib.hid h.len
  have HB := Lib.hid hb
  clear hb
  go_enter Try.func53, Try.ntmps53
  go_wp2
  go_loop [3] (fun t => ∃ k : Nat, k ≤ n ∧ t = .int .i64 (k : Int) ∧ Hid (∀ z ∈ ws.take k, 1 ≤ z ∧ z ≤ 9)) (fun t => n - (intOf t).toNat)
  case atStart =>
    have : Hid (∀ z ∈ ws.take 0, 1 ≤ z ∧ z ≤ 9) := fun z hz => by simp at hz
    exact ⟨0, Nat.zero_le _, rfl, this⟩
  case round =>
    obtain ⟨k, hk, rfl, HA⟩ := hrel
    by_cases hlt : k < n
    · have hltB : decide ((k : Int) < (n : Int)) = true := by simp; omega
      obtain ⟨bb, o, z, rfl, hbl, hx, hc⟩ := h.at_ hlt
      by_cases hz : 1 ≤ z ∧ z ≤ 9
      · have C := Lib.hid (l1In_yes z 1 9 w hz.1 hz.2)
        have HA2 : Hid (∀ z ∈ ws.take (k + 1), 1 ≤ z ∧ z ≤ 9) := all_take HA.out hx hz
        clear hx hz
        go_wp2_with (fail)
        refine C.out.mono ?_
        rintro e w' ⟨rfl, rfl⟩
        go_wp2
        go_round
        case rel => exact ⟨k + 1, by omega, by go_num, HA2⟩
        case measure => simp [intOf]; omega
      · have C := Lib.hid (l1In_no z 1 9 w hz)
        have HE := Lib.hid (show decide (wtOk ws) = false from decide_eq_false fun hh => hz (hh.1 z (List.mem_of_getElem? hx)))
        clear hx hz
        go_wp2_with (fail)
        refine C.out.mono ?_
        rintro e w' ⟨rfl, rfl⟩
        go_wp2
        go_ret
        exact ⟨ret_bool (HE.out.symm.trans HB.out), rfl⟩
    · have hltB : decide ((k : Int) < (n : Int)) = false := by simp; omega
      obtain rfl : k = n := by omega
      have HE := Lib.hid (all_full HA.out HL.out)
      have C := Lib.hid (l1In_any (k : Int) 1 4 w)
      go_wp2_with (fail)
      refine C.out.mono ?_
      rintro e w' ⟨rfl, rfl⟩
      go_wp2
      go_ret
      refine ⟨ret_bool (Eq.trans ?_ HB.out), rfl⟩
      have h1 := HL.out
      have h2 := HE.out
      rw [← Bool.decide_and, decide_eq_decide]
      unfold wtOk
      constructor
      · exact fun hh => ⟨h2, by omega, by omega⟩
      · rintro ⟨_, h3, h4⟩; omega

set_option maxHeartbeats 4000000 in
theorem specJobsValid_b {A B : Option Addr} {n c m d : Nat} {ws : List Int} {js : List Duo} {w : World} {b : Bool} (h : Has w A n (ints .i64 ws)) (hj : HasD w B m js) (hn : n ≤ 16777216) (hm : m ≤ 16777216) (hb : decide (jobsOk ws js) = b) :
    Calls Try.prog 21 #[.slice A n c, .slice B m d] w fun e w' => e = .returned (.bool b) ∧ w = w' := by
  have HL := Lib.hid h.len
  have HJ := Lib.hid hj.1
  have HB := Lib.hid hb
  clear hb
  go_enter Try.func21, Try.ntmps21
  go_wp2
  go_loop [5] (fun t => ∃ k : Nat, k ≤ m ∧ t = .int .i64 (k : Int) ∧ Hid (∀ z ∈ js.take k, jOk ws.length z)) (fun t => m - (intOf t).toNat)
  case atStart =>
    have : Hid (∀ z ∈ js.take 0, jOk ws.length z) := fun z hz => by simp at hz
    exact ⟨0, Nat.zero_le _, rfl, this⟩
  case round =>
    obtain ⟨k, hk, rfl, HA⟩ := hrel
    by_cases hlt : k < m
    · have hltB : decide ((k : Int) < (m : Int)) = true := by simp; omega
      obtain ⟨bb, o, f, t, rfl, hbl, hx, c0, c1⟩ := hj.at_ hlt
      have wn : IntKind.i64.wrap ((n : Int) - 1) = (n : Int) - 1 := IntWalk.i64_in _ (by omega)
      by_cases hf : 0 ≤ f ∧ f ≤ (n : Int) - 1
      · have C := Lib.hid (l1In_yes f 0 ((n : Int) - 1) w hf.1 hf.2)
        by_cases hz : 1 ≤ t ∧ t ≤ 9
        · have C2 := Lib.hid (l1In_yes t 1 9 w hz.1 hz.2)
          have HA2 : Hid (∀ z ∈ js.take (k + 1), jOk ws.length z) := all_take HA.out hx ⟨hf.1, by have := HL.out; show f < (ws.length : Int); omega, hz⟩
          clear hx hz hf
          go_wp2_with (fail)
          refine C.out.mono ?_
          rintro e w' ⟨rfl, rfl⟩
          go_wp2_with (fail)
          refine C2.out.mono ?_
          rintro e w' ⟨rfl, rfl⟩
          go_wp2
          go_round
          case rel => exact ⟨k + 1, by omega, by go_num, HA2⟩
          case measure => simp [intOf]; omega
        · have C2 := Lib.hid (l1In_no t 1 9 w hz)
          have HE := Lib.hid (show decide (jobsOk ws js) = false from decide_eq_false fun hh => hz (hh.1 _ (List.mem_of_getElem? hx)).2.2)
          clear hx hz hf
          go_wp2_with (fail)
          refine C.out.mono ?_
          rintro e w' ⟨rfl, rfl⟩
          go_wp2_with (fail)
          refine C2.out.mono ?_
          rintro e w' ⟨rfl, rfl⟩
          go_wp2
          go_ret
          exact ⟨ret_bool (HE.out.symm.trans HB.out), rfl⟩
      · have C := Lib.hid (l1In_no f 0 ((n : Int) - 1) w hf)
        have HE := Lib.hid (show decide (jobsOk ws js) = false from decide_eq_false fun hh => hf (by have h1 := hh.1 _ (List.mem_of_getElem? hx); have h2 := h1.1; have h3 := h1.2.1; have := HL.out; simp only at h2 h3; omega))
        clear hx hf
        go_wp2_with (fail)
        refine C.out.mono ?_
        rintro e w' ⟨rfl, rfl⟩
        go_wp2
        go_ret
        exact ⟨ret_bool (HE.out.symm.trans HB.out), rfl⟩
    · have hltB : decide ((k : Int) < (m : Int)) = false := by simp; omega
      obtain rfl : k = m := by omega
      have HE := Lib.hid (all_full HA.out HJ.out)
      by_cases hw : wtOk ws
      · have C := Lib.hid (l12Weights_b (c := c) h hn (decide_eq_true hw))
        have HW := Lib.hid hw
        clear hw
        go_wp2_with (fail)
        refine C.out.mono ?_
        rintro e w' ⟨rfl, rfl⟩
        go_wp2
        go_ret
        refine ⟨ret_bool (Eq.trans ?_ HB.out), rfl⟩
        have h1 := HJ.out
        rw [decide_eq_decide]
        exact ⟨fun hh => ⟨HE.out, HW.out, by omega⟩, fun hh => by have := hh.2.2; omega⟩
      · have C := Lib.hid (l12Weights_b (c := c) h hn (decide_eq_false hw))
        have HE2 := Lib.hid (show decide (jobsOk ws js) = false from decide_eq_false fun hh => hw hh.2.1)
        clear hw
        go_wp2_with (fail)
        refine C.out.mono ?_
        rintro e w' ⟨rfl, rfl⟩
        go_wp2
        go_ret
        exact ⟨ret_bool (HE2.out.symm.trans HB.out), rfl⟩

/-- The first index from 0 to n - 1 at which p holds, or -1. -/
def firstIx (p : Nat → Bool) : Nat → Nat → Int
  | _, 0 => -1
  | i, f + 1 => if p i = true then (i : Int) else firstIx p (i + 1) f
def nextP (js : List Duo) (dn : List Bool) (cl : Nat) (i : Nat) : Bool := decide ((dj js i).1 = (cl : Int)) && !(dn.getD i false)
set_option maxHeartbeats 4000000 in
theorem l12Next_r {A B : Option Addr} {n c d : Nat} {cl : Nat} {js : List Duo} {dn : List Bool} {w : World} {r : Int} (h : HasD w A n js) (hd : Has w B n (bools dn)) (hn : n ≤ 16777216) (hr : firstIx (nextP js dn cl) 0 n = r) :
    Calls Try.prog 48 #[.slice A n c, .slice B n d, .int .i64 (cl : Int)] w fun e w' => e = .returned (.int .i64 r) ∧ w = w' := by
  have HR := Lib.hid hr
  clear hr
  go_enter Try.func48, Try.ntmps48
  go_wp2
  go_loop [7] (fun t => ∃ k : Nat, k ≤ n ∧ t = .int .i64 (k : Int) ∧ Hid (firstIx (nextP js dn cl) k (n - k) = r)) (fun t => n - (intOf t).toNat)
  case atStart =>
    have : Hid (firstIx (nextP js dn cl) 0 (n - 0) = r) := HR.out
    exact ⟨0, Nat.zero_le _, rfl, this⟩
  case round =>
    obtain ⟨k, hk, rfl, HA⟩ := hrel
    by_cases hlt : k < n
    · have hltB : decide ((k : Int) < (n : Int)) = true := by simp; omega
      obtain ⟨b1, o1, rfl, hbl1, c0, c1⟩ := h.row hlt
      obtain ⟨b2, o2, rfl, hbl2, c2⟩ := has_bool hd hlt
      have HS := Lib.hid (show firstIx (nextP js dn cl) k (n - k) = if nextP js dn cl k = true then (k : Int) else firstIx (nextP js dn cl) (k + 1) (n - (k + 1)) by
        rw [show n - k = (n - (k + 1)) + 1 by omega]; rfl)
      have HP := Lib.hid (show nextP js dn cl k = (decide ((dj js k).1 = (cl : Int)) && !(dn.getD k false)) from rfl)
      generalize nextP js dn cl k = pk at HS HP
      generalize (dj js k).1 = f at c0 HP
      generalize dn.getD k false = u at c2 HP
      by_cases hf : f = (cl : Int)
      · have e1 : (f == (cl : Int)) = true := by simp [hf]
        cases u with
        | false =>
          have HK : Hid ((k : Int) = r) := by
            have hp : pk = true := by rw [HP.out]; simp [hf]
            have := HS.out; rw [if_pos hp] at this; exact this.symm.trans HA.out
          clear hf HS HP
          go_wp2
          go_ret
          exact ⟨ret_int HK.out, rfl⟩
        | true =>
          have HK : Hid (firstIx (nextP js dn cl) (k + 1) (n - (k + 1)) = r) := by
            have hp : ¬ pk = true := by rw [HP.out]; simp
            have := HS.out; rw [if_neg hp] at this; exact this.symm.trans HA.out
          clear hf HS HP
          go_wp2
          go_round
          case rel => exact ⟨k + 1, by omega, by go_num, HK⟩
          case measure => simp [intOf]; omega
      · have e1 : (f == (cl : Int)) = false := by simp [hf]
        have HK : Hid (firstIx (nextP js dn cl) (k + 1) (n - (k + 1)) = r) := by
          have hp : ¬ pk = true := by rw [HP.out]; simp [hf]
          have := HS.out; rw [if_neg hp] at this; exact this.symm.trans HA.out
        clear hf HS HP
        go_wp2
        go_round
        case rel => exact ⟨k + 1, by omega, by go_num, HK⟩
        case measure => simp [intOf]; omega
    · have hltB : decide ((k : Int) < (n : Int)) = false := by simp; omega
      obtain rfl : k = n := by omega
      have HK := HA.out
      rw [Nat.sub_self] at HK
      have HK2 := Lib.hid (show (-1 : Int) = r from HK)
      clear HK
      go_wp2
      go_ret
      exact ⟨ret_int HK2.out, rfl⟩

def apartL (ws : List Int) (a b : Int) : Int := if wtOk ws ∧ (0 ≤ a ∧ a < ws.length) ∧ (0 ≤ b ∧ b < ws.length) then 9 * dw ws a.toNat * dw ws b.toNat + 8 * dw ws a.toNat else -1
set_option maxHeartbeats 4000000 in
theorem specApartBound_r {A : Option Addr} {n c : Nat} {ws : List Int} {a b r : Int} {w : World} (h : Has w A n (ints .i64 ws)) (hn : n ≤ 16777216) (hr : apartL ws a b = r) :
    Calls Try.prog 31 #[.slice A n c, .int .i64 a, .int .i64 b] w fun e w' => e = .returned (.int .i64 r) ∧ Below w.heap.size w w' := by
  have HL := Lib.hid h.len
  have HR := Lib.hid hr
  clear hr
  have wn : IntKind.i64.wrap ((n : Int) - 1) = (n : Int) - 1 := IntWalk.i64_in _ (by omega)
  by_cases hw : wtOk ws
  rotate_left
  · have C := Lib.hid (l12Weights_b (c := c) h hn (decide_eq_false hw))
    have HE := Lib.hid (show apartL ws a b = -1 from if_neg fun hh => hw hh.1)
    clear hw
    go_enter Try.func31, Try.ntmps31
    go_wp2_with (fail)
    refine C.out.mono ?_
    rintro e w' ⟨rfl, rfl⟩
    go_wp2
    go_ret
    exact ⟨ret_int (HE.out.symm.trans HR.out), Below.refl _ _⟩
  have C := Lib.hid (l12Weights_b (c := c) h hn (decide_eq_true hw))
  by_cases ha : 0 ≤ a ∧ a ≤ (n : Int) - 1
  rotate_left
  · have C1 := Lib.hid (l1In_no a 0 ((n : Int) - 1) w ha)
    have HE := Lib.hid (show apartL ws a b = -1 from if_neg fun hh => ha (by have := HL.out; omega))
    clear hw ha
    go_enter Try.func31, Try.ntmps31
    go_wp2_with (fail)
    refine C.out.mono ?_
    rintro e w' ⟨rfl, rfl⟩
    go_wp2_with (fail)
    refine C1.out.mono ?_
    rintro e w' ⟨rfl, rfl⟩
    go_wp2
    go_ret
    exact ⟨ret_int (HE.out.symm.trans HR.out), Below.refl _ _⟩
  have C1 := Lib.hid (l1In_yes a 0 ((n : Int) - 1) w ha.1 ha.2)
  by_cases hb : 0 ≤ b ∧ b ≤ (n : Int) - 1
  rotate_left
  · have C2 := Lib.hid (l1In_no b 0 ((n : Int) - 1) w hb)
    have HE := Lib.hid (show apartL ws a b = -1 from if_neg fun hh => hb (by have := HL.out; omega))
    clear hw ha hb
    go_enter Try.func31, Try.ntmps31
    go_wp2_with (fail)
    refine C.out.mono ?_
    rintro e w' ⟨rfl, rfl⟩
    go_wp2_with (fail)
    refine C1.out.mono ?_
    rintro e w' ⟨rfl, rfl⟩
    go_wp2_with (fail)
    refine C2.out.mono ?_
    rintro e w' ⟨rfl, rfl⟩
    go_wp2
    go_ret
    exact ⟨ret_int (HE.out.symm.trans HR.out), Below.refl _ _⟩
  have C2 := Lib.hid (l1In_yes b 0 ((n : Int) - 1) w hb.1 hb.2)
  obtain ⟨a', rfl⟩ := Int.eq_ofNat_of_zero_le ha.1
  obtain ⟨b', rfl⟩ := Int.eq_ofNat_of_zero_le hb.1
  have HE := Lib.hid (show apartL ws (a' : Int) (b' : Int) = 9 * dw ws a' * dw ws b' + 8 * dw ws a' by
    unfold apartL; rw [if_pos ⟨hw, by have := HL.out; omega, by have := HL.out; omega⟩]; simp)
  have hla : a' < n := by omega
  have hlb : b' < n := by omega
  have xa := dw_ok hw (c := a') (by have := HL.out; omega)
  have xb := dw_ok hw (c := b') (by have := HL.out; omega)
  obtain ⟨g, o, rfl, hbl, ca⟩ := has_dw h hla
  obtain ⟨g', o', hgo, _, cb⟩ := has_dw h hlb
  injection hgo with hgo
  injection hgo with e1 e2
  subst e1 e2
  generalize dw ws a' = x at ca xa HE
  generalize dw ws b' = y at cb xb HE
  have m1 : 1 ≤ x * y ∧ x * y ≤ 81 := ⟨by have := Int.mul_le_mul xa.1 xb.1 (by omega) (by omega); omega, by have := Int.mul_le_mul xa.2 xb.2 (by omega) (by omega); omega⟩
  have m2 : 9 * x * y = 9 * (x * y) := Int.mul_assoc 9 x y
  have m3 : y * x = x * y := Int.mul_comm y x
  have w1 : IntKind.i64.wrap (9 * x) = 9 * x := IntWalk.i64_in _ (by omega)
  have w2 : IntKind.i64.wrap (9 * x * y) = 9 * x * y := IntWalk.i64_in _ (by omega)
  have w3 : IntKind.i64.wrap (8 * x) = 8 * x := IntWalk.i64_in _ (by omega)
  have w4 : IntKind.i64.wrap (9 * x * y + 8 * x) = 9 * x * y + 8 * x := IntWalk.i64_in _ (by omega)
  clear hw ha hb m1 m2 m3
  go_enter Try.func31, Try.ntmps31
  go_wp2_with (fail)
  refine C.out.mono ?_
  rintro e w' ⟨rfl, rfl⟩
  go_wp2_with (fail)
  refine C1.out.mono ?_
  rintro e w' ⟨rfl, rfl⟩
  go_wp2_with (fail)
  refine C2.out.mono ?_
  rintro e w' ⟨rfl, rfl⟩
  go_wp2
  go_quiet (fail)
  go_wp2
  go_ret
  exact ⟨ret_int (HE.out.symm.trans HR.out), below_drewN _ _⟩
end Go.Proofs.Ytpofkkenbepjpaa
