/-
  Chapter 15's model: what is proved here is what l15Many, l15End and BestOf return, and that they write nothing that was there. Condition: lengths up to 2^24.
-/
import Derived.Test.YtmifhkhanjiklaaTimB
import Derived.Lib.QuietBelow
namespace Go.Proofs.Ytmifhkhanjiklaa
open Go.RowKit

set_option maxHeartbeats 2000000 in
theorem l15Many_r {A : Option Addr} {n c : Nat} {L : List Duo} {v r : Int} {w : World} (h : HasD w A n L) (hn : n ≤ 16777216) (hr : (cntS L v : Int) = r) :
    Calls Try.prog 68 #[.slice A n c, .int .i64 v] w fun e w' => e = .returned (.int .i64 r) ∧ Below w.heap.size w w' := by
  have HR := Lib.hid hr
  have HL := Lib.hid h.1
  clear hr
  go_enter Try.func68, Try.ntmps68
  go_wp2
  go_loopw [5, 6] (fun m i wr => ∃ (k : Nat) (x : Int), k ≤ n ∧ i = .int .i64 (k : Int) ∧ m = .int .i64 x ∧ (0 ≤ x ∧ x ≤ (k : Int)) ∧ Hid ((cntS (L.take k) v : Int) = x) ∧ Below w.heap.size w wr) (fun _ i _ => n - (intOf i).toNat)
  case atStart =>
    have h1 : Hid ((cntS (L.take 0) v : Int) = 0) := by have : (cntS (L.take 0) v : Int) = 0 := rfl; exact this
    exact ⟨0, 0, Nat.zero_le _, rfl, rfl, by omega, h1, Below.refl _ _⟩
  case round =>
    obtain ⟨k, x, hk, rfl, rfl, hx, HX, B⟩ := hrel
    have hge := B.size
    by_cases hlt : k < n
    · have hltB : decide ((k : Int) < (n : Int)) = true := by simp; omega
      obtain ⟨bb, o, f, t, rfl, hbl, he, c0, c1⟩ := (h.bel B).at_ hlt
      have HST := Lib.hid (cnt_take (L := L) (k := k) (by have := HL.out; omega) v)
      rw [dj_atT he] at HST
      by_cases hh : hasS (f, t) v
      · have C := Lib.hid (fun W => specSpanHas_b (w := W) (decide_eq_true hh))
        have HX2 : Hid ((cntS (L.take (k + 1)) v : Int) = x + 1) := by
          have : (cntS (L.take (k + 1)) v : Int) = x + 1 := by have h1 := HX.out; rw [HST.out, if_pos hh]; omega
          exact this
        have wx : IntKind.i64.wrap (x + 1) = x + 1 := IntWalk.i64_in _ (by omega)
        have hx2 : 0 ≤ x + 1 ∧ x + 1 ≤ ((k + 1 : Nat) : Int) := by omega
        clear hh he
        go_wp2_with (fail)
        refine (C.out _).mono ?_
        rintro e w3 ⟨rfl, B3⟩
        have B4 := B.trans (B3.mono hge)
        go_wp2
        go_roundw
        case rel => exact ⟨k + 1, x + 1, by omega, by go_num, rfl, hx2, HX2, B4⟩
        case measure => simp [intOf]; omega
      · have C := Lib.hid (fun W => specSpanHas_b (w := W) (decide_eq_false hh))
        have HX2 : Hid ((cntS (L.take (k + 1)) v : Int) = x) := by
          have : (cntS (L.take (k + 1)) v : Int) = x := by have h1 := HX.out; rw [HST.out, if_neg hh]; omega
          exact this
        have hx2 : 0 ≤ x ∧ x ≤ ((k + 1 : Nat) : Int) := by omega
        clear hh he
        go_wp2_with (fail)
        refine (C.out _).mono ?_
        rintro e w3 ⟨rfl, B3⟩
        have B4 := B.trans (B3.mono hge)
        go_wp2
        go_roundw
        case rel => exact ⟨k + 1, x, by omega, by go_num, rfl, hx2, HX2, B4⟩
        case measure => simp [intOf]; omega
    · have hltB : decide ((k : Int) < (n : Int)) = false := by simp; omega
      obtain rfl : k = n := by omega
      have HE := Lib.hid (show x = r by rw [← HR.out, ← HX.out, List.take_of_length_le (by have := HL.out; omega)])
      go_wp2
      go_ret
      exact ⟨ret_int HE.out, B⟩
set_option maxHeartbeats 2000000 in
theorem l15End_r {A : Option Addr} {n c : Nat} {L : List Duo} {v r : Int} {w : World} (h : HasD w A n L) (hn : n ≤ 16777216) (hr : endTo L v 4000000 L.length = r) :
    Calls Try.prog 69 #[.slice A n c, .int .i64 v] w fun e w' => e = .returned (.int .i64 r) ∧ Below w.heap.size w w' := by
  have HR := Lib.hid hr
  have HL := Lib.hid h.1
  clear hr
  go_enter Try.func69, Try.ntmps69
  go_wp2
  go_loopw [5, 6] (fun m i wr => ∃ (k : Nat) (x : Int), k ≤ n ∧ i = .int .i64 (k : Int) ∧ m = .int .i64 x ∧ Hid (endTo L v 4000000 k = x) ∧ Below w.heap.size w wr) (fun _ i _ => n - (intOf i).toNat)
  case atStart =>
    have h1 : Hid (endTo L v 4000000 0 = 4000000) := by have : endTo L v 4000000 0 = 4000000 := rfl; exact this
    exact ⟨0, 4000000, Nat.zero_le _, rfl, rfl, h1, Below.refl _ _⟩
  case round =>
    obtain ⟨k, x, hk, rfl, rfl, HX, B⟩ := hrel
    have hge := B.size
    by_cases hlt : k < n
    · have hltB : decide ((k : Int) < (n : Int)) = true := by simp; omega
      obtain ⟨bb, o, f, t, rfl, hbl, he, c0, c1⟩ := (h.bel B).at_ hlt
      have HST := Lib.hid (show endTo L v 4000000 (k + 1) = if hasS (dj L k) v then min (endTo L v 4000000 k) (dj L k).2 else endTo L v 4000000 k from rfl)
      rw [dj_atT he, HX.out] at HST
      by_cases hh : hasS (f, t) v
      · have C := Lib.hid (fun W => specSpanHas_b (w := W) (decide_eq_true hh))
        obtain ⟨y, hy⟩ : ∃ y, min x t = y := ⟨_, rfl⟩
        have HX2 : Hid (endTo L v 4000000 (k + 1) = y) := by
          have : endTo L v 4000000 (k + 1) = y := by rw [HST.out, if_pos hh]; exact hy
          exact this
        clear hh he HST
        go_wp2_with (fail)
        refine (C.out _).mono ?_
        rintro e w3 ⟨rfl, B3⟩
        have d0 := (B3.cell (p := ⟨bb, o + k * 2, none⟩) hbl).trans c0
        have d1 := (B3.cell (p := ⟨bb, o + k * 2 + 1, none⟩) hbl).trans c1
        have B4 := B.trans (B3.mono hge)
        go_wp2
        go_roundw
        case rel => exact ⟨k + 1, y, by omega, by go_num, rfl, HX2, B4⟩
        case measure => simp [intOf]; omega
      · have C := Lib.hid (fun W => specSpanHas_b (w := W) (decide_eq_false hh))
        have HX2 : Hid (endTo L v 4000000 (k + 1) = x) := by
          have : endTo L v 4000000 (k + 1) = x := by rw [HST.out, if_neg hh]
          exact this
        clear hh he HST
        go_wp2_with (fail)
        refine (C.out _).mono ?_
        rintro e w3 ⟨rfl, B3⟩
        have B4 := B.trans (B3.mono hge)
        go_wp2
        go_roundw
        case rel => exact ⟨k + 1, x, by omega, by go_num, rfl, HX2, B4⟩
        case measure => simp [intOf]; omega
    · have hltB : decide ((k : Int) < (n : Int)) = false := by simp; omega
      obtain rfl : k = n := by omega
      have HE := Lib.hid (show x = r by rw [← HR.out, ← HX.out, HL.out])
      go_wp2
      go_ret
      exact ⟨ret_int HE.out, B⟩
/-- The model's best of the first k. -/
def BestTo (xs : List Quad) (k : Nat) (x : Int) : Prop := (∀ z ∈ xs.take k, exOk z) ∧ ((k = 0 ∧ x = -1) ∨ (0 < k ∧ x = (bestX xs (k - 1) : Int)))
theorem take_all15 {α : Type} {P : α → Prop} {l : List α} {k : Nat} {x : α} (h : ∀ z ∈ l.take k, P z) (hx : l[k]? = some x) (hp : P x) : ∀ z ∈ l.take (k + 1), P z := by
  rw [List.take_add_one, hx]
  intro z hz
  rcases List.mem_append.1 hz with hz | hz
  · exact h z hz
  · simp at hz; subst hz; exact hp
theorem best_bad {xs : List Quad} {k : Nat} {x : Quad} (hx : xs[k]? = some x) (h : ¬ exOk x) : bestI xs = -1 := if_neg fun hh => h (hh.2 x (List.mem_of_getElem? hx))
theorem best_many {xs : List Quad} (h : 40 < xs.length) : bestI xs = -1 := if_neg fun hh => by have := hh.1.2; omega
theorem best_all {xs : List Quad} {x : Int} (h : BestTo xs xs.length x) (hn : xs.length ≤ 40) : bestI xs = x := by
  obtain ⟨h1, h2⟩ := h
  unfold bestI
  rcases h2 with ⟨h0, hx⟩ | ⟨h0, hx⟩
  · rw [if_neg (fun hh => by have := hh.1.1; omega), hx]
  · rw [if_pos ⟨⟨h0, hn⟩, by simpa using h1⟩, hx]
/-- One more, as the model takes it. -/
theorem best_next {xs : List Quad} {j : Nat} {z : Quad} {x : Int} (h : BestTo xs (j + 1) x) (hz : xs[j + 1]? = some z) (ho : exOk z) : ∃ i : Nat, x = (i : Int) ∧ i ≤ j ∧ (∀ a b : Int, wayI z = a → wayI (dq xs i) = b → (a < b → BestTo xs (j + 1 + 1) ((j + 1 : Nat) : Int)) ∧ (¬ a < b → BestTo xs (j + 1 + 1) x)) := by
  obtain ⟨h1, h2⟩ := h
  have hx : x = (bestX xs j : Int) := by
    rcases h2 with ⟨h0, _⟩ | ⟨_, h0⟩
    · omega
    · simpa using h0
  refine ⟨bestX xs j, hx, best_le xs j, fun a b ha hb => ⟨fun hab => ⟨take_all15 h1 hz ho, Or.inr ⟨by omega, ?_⟩⟩, fun hab => ⟨take_all15 h1 hz ho, Or.inr ⟨by omega, ?_⟩⟩⟩⟩
  · rw [show j + 1 + 1 - 1 = j + 1 by omega, best_succ_yes (by rw [dq_at hz, ha, hb]; exact hab)]
  · rw [show j + 1 + 1 - 1 = j + 1 by omega, best_succ_no (by rw [dq_at hz, ha, hb]; exact hab), hx]
set_option maxHeartbeats 8000000 in
theorem specBestOf_r {A : Option Addr} {n c : Nat} {xs : List Quad} {r : Int} {w : World} (h : HasQ w A n xs) (hn : n ≤ 16777216) (hr : bestI xs = r) :
    Calls Try.prog 32 #[.slice A n c] w fun e w' => e = .returned (.int .i64 r) ∧ Below w.heap.size w w' := by
  have HR := Lib.hid hr
  have HL := Lib.hid h.1
  clear hr
  go_enter Try.func32, Try.ntmps32
  go_wp2
  go_loopw [3, 4] (fun m i wr => ∃ (k : Nat) (x : Int), k ≤ n ∧ i = .int .i64 (k : Int) ∧ m = .int .i64 x ∧ Hid (BestTo xs k x ∧ (0 < k → n ≤ 40)) ∧ Below w.heap.size w wr) (fun _ i _ => n - (intOf i).toNat)
  case atStart =>
    have h1 : Hid (BestTo xs 0 (-1) ∧ (0 < 0 → n ≤ 40)) := ⟨⟨fun z hz => by simp at hz, Or.inl ⟨rfl, rfl⟩⟩, fun hh => by omega⟩
    exact ⟨0, -1, Nat.zero_le _, rfl, rfl, h1, Below.refl _ _⟩
  case round =>
    obtain ⟨k, x, hk, rfl, rfl, HX, B⟩ := hrel
    have hge := B.size
    by_cases hlt : k < n
    · have hltB : decide ((k : Int) < (n : Int)) = true := by simp; omega
      obtain ⟨bb, o, f, t, q, u, hA, hbl, he, c0, c1, c2, c3⟩ := (h.bel B).at_ hlt
      subst hA
      by_cases hh : exOk (f, t, q, u)
      rotate_left
      · have C := Lib.hid (fun W => specExchangeValid_b (w := W) (decide_eq_false hh))
        have HE := Lib.hid (show (-1 : Int) = r by rw [← HR.out]; exact (best_bad he hh).symm)
        clear hh he
        go_wp2_with (fail)
        refine (C.out _).mono ?_
        rintro e w3 ⟨rfl, B3⟩
        have B4 := B.trans (B3.mono hge)
        go_wp2
        go_ret
        exact ⟨ret_int HE.out, B4⟩
      have C := Lib.hid (fun W => specExchangeValid_b (w := W) (decide_eq_true hh))
      by_cases h4 : n ≤ 40
      rotate_left
      · have HE := Lib.hid (show (-1 : Int) = r by rw [← HR.out]; exact (best_many (by have := HL.out; omega)).symm)
        have g1 : decide ((n : Int) > 40) = true := by simp; omega
        have g2 : decide ((40 : Int) < (n : Int)) = true := by simp; omega
        have g3 : decide (40 < n) = true := by simp; omega
        clear hh he h4
        go_wp2_with (fail)
        refine (C.out _).mono ?_
        rintro e w3 ⟨rfl, B3⟩
        have B4 := B.trans (B3.mono hge)
        go_wp2
        go_ret
        exact ⟨ret_int HE.out, B4⟩
      have g1 : decide ((n : Int) > 40) = false := by simp; omega
      have g2 : decide ((40 : Int) < (n : Int)) = false := by simp; omega
      have g3 : decide (40 < n) = false := by simp; omega
      cases k with
      | zero =>
        have hx : x = -1 := by
          rcases HX.out.1.2 with ⟨_, hx⟩ | ⟨h0, _⟩
          · exact hx
          · omega
        subst hx
        have HX2 : Hid (BestTo xs (0 + 1) ((0 : Nat) : Int) ∧ (0 < 0 + 1 → n ≤ 40)) := ⟨⟨take_all15 (k := 0) (fun z hz => by simp at hz) he hh, Or.inr ⟨by omega, rfl⟩⟩, fun _ => h4⟩
        have e0 : ((0 : Nat) : Int) = 0 := rfl
        simp only [Nat.zero_mul, Nat.add_zero] at c0 c1 c2 c3
        clear hh he h4
        rw [e0]
        go_wp2_with (fail)
        refine (C.out _).mono ?_
        rintro e w3 ⟨rfl, B3⟩
        have B4 := B.trans (B3.mono hge)
        go_wp2
        go_quiet (fail)
        generalize hw4 : World.drewN _ _ = w4
        have B5 : Below w.heap.size w w4 := hw4 ▸ B4.trans (below_drewN _ _)
        clear hw4
        go_wp2
        go_roundw
        case rel => exact ⟨0 + 1, 0, by omega, by go_num, rfl, HX2, B5⟩
        case measure => simp [intOf]; omega
      | succ j =>
        obtain ⟨i, rfl, hij, HN⟩ := best_next HX.out.1 he hh
        have HX0 := HX.out.1
        have hiN : i < n := by omega
        obtain ⟨b2, o2, f2, t2, q2, u2, hA2, _, he2, d0, d1, d2, d3⟩ := (h.bel B).at_ hiN
        injection hA2 with hA2
        injection hA2 with e1 e2
        subst e1 e2
        rw [dq_at he2] at HN
        obtain ⟨a, ha⟩ : ∃ a, wayI (f, t, q, u) = a := ⟨_, rfl⟩
        obtain ⟨b, hb⟩ : ∃ b, wayI (f2, t2, q2, u2) = b := ⟨_, rfl⟩
        have HN2 := Lib.hid (HN a b ha hb)
        have C1 := Lib.hid (fun W => specWayOf_r (w := W) ha)
        have C2 := Lib.hid (fun W => specWayOf_r (w := W) hb)
        have i0 : decide ((i : Int) < 0) = false := by simp
        have hiN2 : (i : Int) < (n : Int) := by omega
        have ek : ((j + 1 : Nat) : Int) = (j : Int) + 1 := by omega
        have ej : ((j : Int) + 1).toNat = j + 1 := by omega
        have j1 : (j : Int) + 1 < (n : Int) := by omega
        have j0 : (0 : Int) ≤ (j : Int) + 1 := by omega
        have H4 := Lib.hid h4
        clear HN ha hb hh he he2 h4 HX HX0
        by_cases hab : a < b
        · have s1 : decide (a < b) = true := decide_eq_true hab
          have HX2 : Hid (BestTo xs (j + 1 + 1) ((j + 1 : Nat) : Int) ∧ (0 < j + 1 + 1 → n ≤ 40)) := ⟨HN2.out.1 hab, fun _ => H4.out⟩
          clear hab HN2
          rw [ek]
          go_wp2_with (fail)
          refine (C.out _).mono ?_
          rintro e w3 ⟨rfl, B3⟩
          have B4 := B.trans (B3.mono hge)
          have rc0 := cell_regrown ((B3.cell (p := ⟨bb, o + (j + 1) * 4, none⟩) hbl).trans c0)
          have rc1 := cell_regrown ((B3.cell (p := ⟨bb, o + (j + 1) * 4 + 1, none⟩) hbl).trans c1)
          have rc2 := cell_regrown ((B3.cell (p := ⟨bb, o + (j + 1) * 4 + 2, none⟩) hbl).trans c2)
          have rc3 := cell_regrown ((B3.cell (p := ⟨bb, o + (j + 1) * 4 + 3, none⟩) hbl).trans c3)
          have rd0 := cell_regrown ((B3.cell (p := ⟨bb, o + i * 4, none⟩) hbl).trans d0)
          have rd1 := cell_regrown ((B3.cell (p := ⟨bb, o + i * 4 + 1, none⟩) hbl).trans d1)
          have rd2 := cell_regrown ((B3.cell (p := ⟨bb, o + i * 4 + 2, none⟩) hbl).trans d2)
          have rd3 := cell_regrown ((B3.cell (p := ⟨bb, o + i * 4 + 3, none⟩) hbl).trans d3)
          have cR1 := fun d os => Calls.regrown_of (d := d) (os := os) (w := w3) (C1.out _)
          have cR2 := fun d os => Calls.regrown_of (d := d) (os := os) (w := w3) (C2.out _)
          clear c0 c1 c2 c3 d0 d1 d2 d3 C C1 C2 B3
          go_wp2
          refine wp_region_quiet_below (by kernel_rfl) (by kernel_rfl) ?_
          repeat (quiet_step (first | (with_reducible exact cR1 _ _) | (with_reducible exact cR2 _ _)))
          refine wpQuiet_nil ?_
          intro _ hw'
          obtain ⟨⟨dq, osq⟩, hw''⟩ := hw'
          subst hw''
          have B8 := B4.trans ((below_regrown w3 dq osq).mono B4.size)
          go_wp2
          go_roundw
          case rel => exact ⟨j + 1 + 1, _, by omega, by go_num, by go_num, HX2, B8⟩
          case measure => simp [intOf]; omega
        · have s1 : decide (a < b) = false := decide_eq_false hab
          have HX2 : Hid (BestTo xs (j + 1 + 1) ((i : Nat) : Int) ∧ (0 < j + 1 + 1 → n ≤ 40)) := ⟨HN2.out.2 hab, fun _ => H4.out⟩
          clear hab HN2
          rw [ek]
          go_wp2_with (fail)
          refine (C.out _).mono ?_
          rintro e w3 ⟨rfl, B3⟩
          have B4 := B.trans (B3.mono hge)
          have rc0 := cell_regrown ((B3.cell (p := ⟨bb, o + (j + 1) * 4, none⟩) hbl).trans c0)
          have rc1 := cell_regrown ((B3.cell (p := ⟨bb, o + (j + 1) * 4 + 1, none⟩) hbl).trans c1)
          have rc2 := cell_regrown ((B3.cell (p := ⟨bb, o + (j + 1) * 4 + 2, none⟩) hbl).trans c2)
          have rc3 := cell_regrown ((B3.cell (p := ⟨bb, o + (j + 1) * 4 + 3, none⟩) hbl).trans c3)
          have rd0 := cell_regrown ((B3.cell (p := ⟨bb, o + i * 4, none⟩) hbl).trans d0)
          have rd1 := cell_regrown ((B3.cell (p := ⟨bb, o + i * 4 + 1, none⟩) hbl).trans d1)
          have rd2 := cell_regrown ((B3.cell (p := ⟨bb, o + i * 4 + 2, none⟩) hbl).trans d2)
          have rd3 := cell_regrown ((B3.cell (p := ⟨bb, o + i * 4 + 3, none⟩) hbl).trans d3)
          have cR1 := fun d os => Calls.regrown_of (d := d) (os := os) (w := w3) (C1.out _)
          have cR2 := fun d os => Calls.regrown_of (d := d) (os := os) (w := w3) (C2.out _)
          clear c0 c1 c2 c3 d0 d1 d2 d3 C C1 C2 B3
          go_wp2
          refine wp_region_quiet_below (by kernel_rfl) (by kernel_rfl) ?_
          repeat (quiet_step (first | (with_reducible exact cR1 _ _) | (with_reducible exact cR2 _ _)))
          refine wpQuiet_nil ?_
          intro _ hw'
          obtain ⟨⟨dq, osq⟩, hw''⟩ := hw'
          subst hw''
          have B8 := B4.trans ((below_regrown w3 dq osq).mono B4.size)
          go_wp2
          go_roundw
          case rel => exact ⟨j + 1 + 1, _, by omega, by go_num, rfl, HX2, B8⟩
          case measure => simp [intOf]; omega
    · have hltB : decide ((k : Int) < (n : Int)) = false := by simp; omega
      obtain rfl : k = n := by omega
      have HE := Lib.hid (show x = r by
        rw [← HR.out]
        by_cases h0 : k = 0
        · subst h0
          have hl := HL.out
          have h1 := HX.out.1
          rw [← hl] at h1
          exact (best_all h1 (by omega)).symm
        · have hl := HL.out
          have h1 := HX.out.1
          have h2 := HX.out.2 (by omega)
          rw [← hl] at h1
          exact (best_all h1 (by omega)).symm)
      go_wp2
      go_ret
      exact ⟨ret_int HE.out, B⟩
end Go.Proofs.Ytmifhkhanjiklaa
