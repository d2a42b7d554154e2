/-
  Chapter 14's program, its small functions: what is proved here is what they return, and that they write nothing that was there. Condition: lengths up to 2^24.
-/
import Derived.Test.YtnloejcfakcpfaaJobA
import Derived.Test.YtnloejcfakcpfaaMathShp
namespace Go.Proofs.Ytnloejcfakcpfaa
open Go.RowKit

theorem isPulseTime_yes {x : Int} (w : World) (h : 0 ≤ x ∧ x ≤ 2000) :
    Calls Try.prog 51 #[.int .i64 x] w fun e w' => e = .returned (.bool true) ∧ w = w' := by
  have b1 : decide (x ≥ 0) = true := by simp; omega
  have b2 : decide (0 ≤ x) = true := by simp; omega
  have b3 : decide (x ≤ 2000) = true := by simp; omega
  clear h
  go_enter Try.func51, Try.ntmps51
  go_wp2
  go_ret
  exact ⟨rfl, rfl⟩
theorem isPulseTime_no {x : Int} (w : World) (h : ¬ (0 ≤ x ∧ x ≤ 2000)) :
    Calls Try.prog 51 #[.int .i64 x] w fun e w' => e = .returned (.bool false) ∧ w = w' := by
  by_cases h0 : 0 ≤ x
  · have b1 : decide (x ≥ 0) = true := by simp; omega
    have b2 : decide (0 ≤ x) = true := by simp; omega
    have b3 : decide (x ≤ 2000) = false := by simp; omega
    clear h h0
    go_enter Try.func51, Try.ntmps51
    go_wp2
    go_ret
    exact ⟨rfl, rfl⟩
  · have b1 : decide (x ≥ 0) = false := by simp; omega
    have b2 : decide (0 ≤ x) = false := by simp; omega
    clear h h0
    go_enter Try.func51, Try.ntmps51
    go_wp2
    go_ret
    exact ⟨rfl, rfl⟩
theorem isPulseSize_yes {x : Int} (w : World) (h : 1 ≤ x ∧ x ≤ 50) :
    Calls Try.prog 52 #[.int .i64 x] w fun e w' => e = .returned (.bool true) ∧ w = w' := by
  have b1 : decide (x ≥ 1) = true := by simp; omega
  have b2 : decide (1 ≤ x) = true := by simp; omega
  have b3 : decide (x ≤ 50) = true := by simp; omega
  clear h
  go_enter Try.func52, Try.ntmps52
  go_wp2
  go_ret
  exact ⟨rfl, rfl⟩
theorem isPulseSize_no {x : Int} (w : World) (h : ¬ (1 ≤ x ∧ x ≤ 50)) :
    Calls Try.prog 52 #[.int .i64 x] w fun e w' => e = .returned (.bool false) ∧ w = w' := by
  by_cases h0 : 1 ≤ x
  · have b1 : decide (x ≥ 1) = true := by simp; omega
    have b2 : decide (1 ≤ x) = true := by simp; omega
    have b3 : decide (x ≤ 50) = false := by simp; omega
    clear h h0
    go_enter Try.func52, Try.ntmps52
    go_wp2
    go_ret
    exact ⟨rfl, rfl⟩
  · have b1 : decide (x ≥ 1) = false := by simp; omega
    have b2 : decide (1 ≤ x) = false := by simp; omega
    clear h h0
    go_enter Try.func52, Try.ntmps52
    go_wp2
    go_ret
    exact ⟨rfl, rfl⟩
theorem isRate_yes {x : Int} (w : World) (h : 1 ≤ x ∧ x ≤ 20) :
    Calls Try.prog 66 #[.int .i64 x] w fun e w' => e = .returned (.bool true) ∧ w = w' := by
  have b1 : decide (x ≥ 1) = true := by simp; omega
  have b2 : decide (1 ≤ x) = true := by simp; omega
  have b3 : decide (x ≤ 20) = true := by simp; omega
  clear h
  go_enter Try.func66, Try.ntmps66
  go_wp2
  go_ret
  exact ⟨rfl, rfl⟩
theorem isRate_no {x : Int} (w : World) (h : ¬ (1 ≤ x ∧ x ≤ 20)) :
    Calls Try.prog 66 #[.int .i64 x] w fun e w' => e = .returned (.bool false) ∧ w = w' := by
  by_cases h0 : 1 ≤ x
  · have b1 : decide (x ≥ 1) = true := by simp; omega
    have b2 : decide (1 ≤ x) = true := by simp; omega
    have b3 : decide (x ≤ 20) = false := by simp; omega
    clear h h0
    go_enter Try.func66, Try.ntmps66
    go_wp2
    go_ret
    exact ⟨rfl, rfl⟩
  · have b1 : decide (x ≥ 1) = false := by simp; omega
    have b2 : decide (1 ≤ x) = false := by simp; omega
    clear h h0
    go_enter Try.func66, Try.ntmps66
    go_wp2
    go_ret
    exact ⟨rfl, rfl⟩
theorem isBurst_yes {x : Int} (w : World) (h : 1 ≤ x ∧ x ≤ 100) :
    Calls Try.prog 63 #[.int .i64 x] w fun e w' => e = .returned (.bool true) ∧ w = w' := by
  have b1 : decide (x ≥ 1) = true := by simp; omega
  have b2 : decide (1 ≤ x) = true := by simp; omega
  have b3 : decide (x ≤ 100) = true := by simp; omega
  clear h
  go_enter Try.func63, Try.ntmps63
  go_wp2
  go_ret
  exact ⟨rfl, rfl⟩
theorem isBurst_no {x : Int} (w : World) (h : ¬ (1 ≤ x ∧ x ≤ 100)) :
    Calls Try.prog 63 #[.int .i64 x] w fun e w' => e = .returned (.bool false) ∧ w = w' := by
  by_cases h0 : 1 ≤ x
  · have b1 : decide (x ≥ 1) = true := by simp; omega
    have b2 : decide (1 ≤ x) = true := by simp; omega
    have b3 : decide (x ≤ 100) = false := by simp; omega
    clear h h0
    go_enter Try.func63, Try.ntmps63
    go_wp2
    go_ret
    exact ⟨rfl, rfl⟩
  · have b1 : decide (x ≥ 1) = false := by simp; omega
    have b2 : decide (1 ≤ x) = false := by simp; omega
    clear h h0
    go_enter Try.func63, Try.ntmps63
    go_wp2
    go_ret
    exact ⟨rfl, rfl⟩
set_option maxHeartbeats 1000000 in
theorem byPulseTime_any (f t f' t' : Int) (w : World) (h : (0 ≤ f ∧ f ≤ 2000) ∧ 0 ≤ f' ∧ f' ≤ 2000) :
    Calls Try.prog 54 #[.agg #[.int .i64 f, .int .i64 t], .agg #[.int .i64 f', .int .i64 t']] w fun e w' => e = .returned (.int .i64 (f - f')) ∧ Below w.heap.size w w' := by
  have w1 : IntKind.i64.wrap (f - f') = f - f' := IntWalk.i64_in _ (by omega)
  have n1 : -9223372036854775808 ≤ f - f' := by omega
  have n2 : f - f' ≤ 9223372036854775807 := by omega
  go_enter Try.func54, Try.ntmps54
  go_wp2
  go_ret
  exact ⟨rfl, ((Below.refl _ _).alloc (Nat.le_refl _) _).alloc (by simp) _⟩
set_option maxHeartbeats 4000000 in
theorem isSorted_b {A : Option Addr} {n c : Nat} {hs : List Duo} {w : World} {b : Bool} (h : HasD w A n hs) (hn : n ≤ 16777216) (hp : ∀ z ∈ hs, puOk z) (hb : decide (ascTo hs n) = b) :
    Calls Try.prog 53 #[.slice A n c, .func (.func 54) #[] #[]] w fun e w' => e = .returned (.bool b) ∧ Below w.heap.size w w' := by
  have HL := Lib.hid h.1
  have HB := Lib.hid hb
  clear hb
  have w0 : IntKind.i64.wrap ((n : Int) - 1) = (n : Int) - 1 := IntWalk.i64_in _ (by omega)
  have HP := Lib.hid hp
  clear hp
  go_enter Try.func53, Try.ntmps53
  go_wp2
  go_loopw [5] (fun t wr => ∃ k : Int, t = .int .i64 k ∧ -1 ≤ k ∧ k ≤ (n : Int) - 1 ∧ Hid (∀ j : Nat, k ≤ (j : Int) → j < n - 1 → (dj hs j).1 ≤ (dj hs (j + 1)).1) ∧ Below w.heap.size w wr) (fun t _ => (intOf t).toNat)
  case atStart =>
    have : Hid (∀ j : Nat, (n : Int) - 1 ≤ (j : Int) → j < n - 1 → (dj hs j).1 ≤ (dj hs (j + 1)).1) := fun j h1 h2 => by omega
    exact ⟨(n : Int) - 1, rfl, by omega, by omega, this, Below.refl _ _⟩
  case round =>
    obtain ⟨k, rfl, hk1, hk2, HA, B⟩ := hrel
    have hge := B.size
    by_cases hk : 0 < k
    · obtain ⟨j, rfl⟩ : ∃ j : Nat, k = (j : Int) + 1 := ⟨(k - 1).toNat, by omega⟩
      have hkB : decide ((j : Int) + 1 > 0) = true := decide_eq_true (by omega)
      have hkC : decide (0 < (j : Int) + 1) = true := decide_eq_true (by omega)
      have ej : ((j : Int) + 1).toNat = j + 1 := by omega
      have hj1 : j < n := by omega
      have wj : IntKind.i64.wrap ((j : Int) + 1 - 1) = (j : Int) := by rw [show (j : Int) + 1 - 1 = (j : Int) by omega]; exact IntWalk.i64_in _ (by omega)
      have wj2 : IntKind.i64.wrap (j : Int) = (j : Int) := IntWalk.i64_in _ (by omega)
      have nj1 : -9223372036854775808 ≤ (j : Int) := by omega
      have nj2 : (j : Int) ≤ 9223372036854775807 := by omega
      have hj2 : j + 1 < n := by omega
      have hj3 : (j : Int) < (n : Int) := by omega
      have hj4 : (j : Int) + 1 < (n : Int) := by omega
      have hB := h.bel B
      obtain ⟨b1, o1, hA1, hbl, c0, c1⟩ := hB.row (i := j) (by omega)
      obtain ⟨b2, o2, hA2, _, d0, d1⟩ := hB.row (i := j + 1) (by omega)
      subst hA1
      injection hA2 with hA2
      injection hA2 with e1 e2
      subst e1 e2
      have p1 := HP.out _ (dj_memS (js := hs) (i := j) (by have := HL.out; omega))
      have p2 := HP.out _ (dj_memS (js := hs) (i := j + 1) (by have := HL.out; omega))
      have HJ := Lib.hid (show (dj hs j).1 ≤ (dj hs (j + 1)).1 ∨ ¬ (dj hs j).1 ≤ (dj hs (j + 1)).1 from Classical.em _)
      obtain ⟨x, hx⟩ : ∃ x, dj hs j = x := ⟨_, rfl⟩
      obtain ⟨y, hy⟩ : ∃ y, dj hs (j + 1) = y := ⟨_, rfl⟩
      rw [hx] at c0 c1 p1 HJ
      rw [hy] at d0 d1 p2 HJ
      have HX := Lib.hid hx
      have HY := Lib.hid hy
      obtain ⟨x0, x1⟩ := x
      obtain ⟨y0, y1⟩ := y
      obtain ⟨d, hd⟩ : ∃ d, y0 - x0 = d := ⟨_, rfl⟩
      have CB := Lib.hid (show ∀ W, Calls Try.prog 54 #[.agg #[.int .i64 y0, .int .i64 y1], .agg #[.int .i64 x0, .int .i64 x1]] W fun e w' => e = .returned (.int .i64 d) ∧ Below W.heap.size W w' from fun W => hd ▸ byPulseTime_any y0 y1 x0 x1 W ⟨p2.1, p1.1⟩)
      clear p1 p2 hx hy
      dsimp only at c0 c1 d0 d1
      have DB : Below wr.heap.size wr wr.drew := (Below.refl _ _).drew
      rcases HJ.out with hle | hgt
      · have s1 : decide (d < 0) = false := decide_eq_false (by dsimp only at hle; omega)
        have HK : Hid (∀ j' : Nat, (j : Int) ≤ (j' : Int) → j' < n - 1 → (dj hs j').1 ≤ (dj hs (j' + 1)).1) := by
          intro j' h1 h2
          by_cases he : j' = j
          · subst he; rw [HX.out, HY.out]; exact hle
          · exact HA.out j' (by omega) h2
        clear hle HJ hd
        go_wp2
        go_region_with (go_at_call 54; refine (CB.out _).mono ?_; rintro e w5 ⟨rfl, B5⟩)
        all_goals
          have B6 := B.trans ((DB.trans B5).mono hge)
          go_wp2
          go_roundw
          case rel => exact ⟨(j : Int), by go_num, by omega, by omega, HK, B6⟩
          case measure => simp [intOf]
      · have s1 : decide (d < 0) = true := decide_eq_true (by dsimp only at hgt; omega)
        have HE := Lib.hid (show decide (ascTo hs n) = false from decide_eq_false fun hh => by
          have := hh j (by omega)
          rw [HX.out, HY.out] at this
          exact hgt this)
        clear hgt HJ hd
        go_wp2
        go_region_with (go_at_call 54; refine (CB.out _).mono ?_; rintro e w5 ⟨rfl, B5⟩)
        all_goals
          have B6 := B.trans ((DB.trans B5).mono hge)
          go_wp2
          go_ret
          exact ⟨ret_bool (HE.out.symm.trans HB.out), B6⟩
    · have hkB : decide (k > 0) = false := by simp; omega
      have hkC : decide (0 < k) = false := by simp; omega
      have HE := Lib.hid (show decide (ascTo hs n) = true from decide_eq_true fun j hj => HA.out j (by omega) (by omega))
      clear hk
      go_wp2
      go_ret
      exact ⟨ret_bool (HE.out.symm.trans HB.out), B⟩
def ixOfB (ts : List Bool) (key : Bool) : Int := firstIx (fun i => decide (ts[i]? = some key)) 0 ts.length
set_option maxHeartbeats 2000000 in
theorem indexB_r {A : Option Addr} {n c : Nat} {od : List Bool} {key : Bool} {r : Int} {w : World} (h : Has w A n (bools od)) (hn : n ≤ 16777216) (hr : ixOfB od key = r) :
    Calls Try.prog 67 #[.slice A n c, .bool key] w fun e w' => e = .returned (.int .i64 r) ∧ w = w' := by
  have HL := Lib.hid (show od.length = n by have := h.1; simpa [bools] using this)
  have HR := Lib.hid hr
  clear hr
  go_enter Try.func67, Try.ntmps67
  go_wp2
  go_loop [8] (fun t => ∃ k : Nat, k ≤ n ∧ t = .int .i64 (k : Int) ∧ Hid (firstIx (fun i => decide (od[i]? = some key)) k (n - k) = r)) (fun t => n - (intOf t).toNat)
  case atStart =>
    have : Hid (firstIx (fun i => decide (od[i]? = some key)) 0 (n - 0) = r) := by
      have : firstIx (fun i => decide (od[i]? = some key)) 0 (n - 0) = r := by rw [← HR.out, Nat.sub_zero]; unfold ixOfB; rw [HL.out]
      exact this
    exact ⟨0, Nat.zero_le _, rfl, this⟩
  case round =>
    obtain ⟨k, hk, rfl, HA⟩ := hrel
    by_cases hlt : k < n
    · have hltB : decide ((k : Int) < (n : Int)) = true := by simp; omega
      obtain ⟨bb, o, rfl, hbl, hc⟩ := has_bool h hlt
      have HS := Lib.hid (show firstIx (fun i => decide (od[i]? = some key)) k (n - k) = if decide (od[k]? = some key) = true then (k : Int) else firstIx (fun i => decide (od[i]? = some key)) (k + 1) (n - (k + 1)) by
        rw [show n - k = (n - (k + 1)) + 1 by omega]; rfl)
      have hx : od[k]? = some (od.getD k false) := by rw [List.getD_eq_getElem?_getD, List.getElem?_eq_getElem (by have := HL.out; omega)]; rfl
      rw [hx] at HS
      clear hx
      generalize od.getD k false = z at hc HS
      by_cases hz : key = z
      · have zB : (key == z) = true := by simp [hz]
        have HK := Lib.hid (show (k : Int) = r by have h1 := HS.out; rw [if_pos (by simp [hz])] at h1; exact h1.symm.trans HA.out)
        clear hz HS
        go_wp2
        go_ret
        exact ⟨ret_int HK.out, rfl⟩
      · have zB : (key == z) = false := by simp [hz]
        have HK : Hid (firstIx (fun i => decide (od[i]? = some key)) (k + 1) (n - (k + 1)) = r) := by
          have : firstIx (fun i => decide (od[i]? = some key)) (k + 1) (n - (k + 1)) = r := by have h1 := HS.out; rw [if_neg (by simp; exact fun e => hz e.symm)] at h1; exact h1.symm.trans HA.out
          exact this
        clear hz HS
        go_wp2
        go_round
        case rel => exact ⟨k + 1, by omega, by go_num, HK⟩
        case measure => simp [intOf]; omega
    · have hltB : decide ((k : Int) < (n : Int)) = false := by simp; omega
      obtain rfl : k = n := by omega
      have HK := Lib.hid (show (-1 : Int) = r by have h1 := HA.out; rwa [Nat.sub_self] at h1)
      go_wp2
      go_ret
      exact ⟨ret_int HK.out, rfl⟩
theorem firstIx_pos (p : Nat → Bool) : ∀ (f i : Nat), (0 ≤ firstIx p i f ↔ ∃ j, i ≤ j ∧ j < i + f ∧ p j = true)
  | 0, i => ⟨fun h => by unfold firstIx at h; omega, fun ⟨j, h1, h2, _⟩ => by omega⟩
  | f + 1, i => by
    unfold firstIx
    by_cases hp : p i = true
    · rw [if_pos hp]; exact ⟨fun _ => ⟨i, Nat.le_refl _, by omega, hp⟩, fun _ => by omega⟩
    · rw [if_neg hp, firstIx_pos p f (i + 1)]
      constructor
      · rintro ⟨j, h1, h2, h3⟩; exact ⟨j, by omega, by omega, h3⟩
      · rintro ⟨j, h1, h2, h3⟩
        refine ⟨j, ?_, by omega, h3⟩
        by_cases he : j = i
        · subst he; exact absurd h3 hp
        · omega
theorem ixOfB_pos {ts : List Bool} {key : Bool} : 0 ≤ ixOfB ts key ↔ key ∈ ts := by
  unfold ixOfB
  rw [firstIx_pos]
  constructor
  · rintro ⟨j, _, _, h⟩; exact List.mem_of_getElem? (of_decide_eq_true h)
  · intro h
    obtain ⟨j, hj⟩ := List.getElem?_of_mem h
    obtain ⟨h1, _⟩ := List.getElem?_eq_some_iff.1 hj
    exact ⟨j, Nat.zero_le _, by omega, decide_eq_true hj⟩
theorem containsB_b {A : Option Addr} {n c : Nat} {od : List Bool} {key b : Bool} {w : World} (h : Has w A n (bools od)) (hn : n ≤ 16777216) (hb : decide (key ∈ od) = b) :
    Calls Try.prog 49 #[.slice A n c, .bool key] w fun e w' => e = .returned (.bool b) ∧ w = w' := by
  obtain ⟨r, hr⟩ : ∃ r, ixOfB od key = r := ⟨_, rfl⟩
  have C := Lib.hid (indexB_r (c := c) h hn hr)
  have HB := Lib.hid (show decide (0 ≤ r) = b by rw [← hb, ← hr, decide_eq_decide]; exact ixOfB_pos)
  clear hb hr
  go_enter Try.func49, Try.ntmps49
  go_wp2_with (fail)
  refine C.out.mono ?_
  rintro e w' ⟨rfl, rfl⟩
  go_wp2
  go_ret
  exact ⟨ret_bool HB.out, rfl⟩
end Go.Proofs.Ytnloejcfakcpfaa
