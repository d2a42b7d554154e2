/-
  Chapter 15's program, lists: what is proved here is what areExchanges, areSpans, byWay and BestOf return, and that they write nothing that was there. Condition: lengths up to 2^24.
-/
import Derived.Test.YtmifhkhanjiklaaImp15b
import Derived.Lib.QuietBelow
namespace Go.Proofs.Ytmifhkhanjiklaa
open Go.RowKit

theorem take_all16 {α : Type} {P : α → Prop} {l : List α} {k : Nat} {x : α} (h : ∀ z ∈ l.take k, P z) (hx : l[k]? = some x) (hp : P x) : ∀ z ∈ l.take (k + 1), P z := by
  rw [List.take_add_one, hx]
  intro z hz
  rcases List.mem_append.1 hz with hz | hz
  · exact h z hz
  · simp at hz; subst hz; exact hp
theorem take_full16 {α : Type} {P : α → Prop} {l : List α} {n : Nat} (h : ∀ z ∈ l.take n, P z) (hl : l.length = n) : ∀ z ∈ l, P z := by
  rw [← hl, List.take_length] at h; exact h
theorem areEx1_b {x y z u : Int} {w : World} {b : Bool} (hb : decide (exOk (x, y, z, u)) = b) :
    Calls Try.prog 72 #[.agg #[.int .i64 x, .int .i64 y, .int .i64 z, .int .i64 u]] w fun e w' => e = .returned (.bool (!b)) ∧ Below w.heap.size w w' := by
  obtain ⟨W1, hW1⟩ : ∃ W1, w.alloc (.cells #[.int .i64 x, .int .i64 y, .int .i64 z, .int .i64 u] 26) = W1 := ⟨_, rfl⟩
  have B1 : Below w.heap.size w W1 := hW1 ▸ below_allocQ w _
  have hR : W1.heap[w.heap.size]? = some (.cells #[.int .i64 x, .int .i64 y, .int .i64 z, .int .i64 u] 26 (0, 0)) := by rw [← hW1]; exact heap_alloc_new w _
  obtain ⟨x0, x1, x2, x3⟩ := cells4Q hR
  have C := Lib.hid (implExchangeValid_b (w := W1) hb)
  clear hR hb
  go_enter Try.func72, Try.ntmps72
  go_wp2_with (fail)
  refine C.out.mono ?_
  rintro e w2 ⟨rfl, B2⟩
  have B3 := bel_trans B1 B2
  go_wp2
  go_ret
  exact ⟨rfl, B3⟩
set_option maxHeartbeats 2000000 in
theorem ixEx_any {A : Option Addr} {n c : Nat} {L : List Quad} {w : World} (h : HasQ w A n L) (hn : n ≤ 16777216) :
    Calls Try.prog 79 #[.slice A n c, .func (.func 72) #[] #[]] w fun e w' => ∃ z, e = .returned (.int .i64 z) ∧ (z < 0 ↔ ∀ x ∈ L, exOk x) ∧ Below w.heap.size w w' := by
  have HL := Lib.hid h.1
  go_enter Try.func79, Try.ntmps79
  go_wp2
  go_loopw [8] (fun i wr => ∃ k : Nat, k ≤ n ∧ i = .int .i64 (k : Int) ∧ Hid (∀ x ∈ L.take k, exOk x) ∧ Below w.heap.size w wr) (fun i _ => n - (intOf i).toNat)
  case atStart =>
    have h1 : Hid (∀ x ∈ L.take 0, exOk x) := fun x hx => by simp at hx
    exact ⟨0, Nat.zero_le _, rfl, h1, Below.refl _ _⟩
  case round =>
    obtain ⟨k, hk, rfl, HF, BW⟩ := hrel
    have sW := BW.size
    by_cases hlt : k < n
    · have hltB : decide ((k : Int) < (n : Int)) = true := by simp; omega
      obtain ⟨bb, o, x, y, z, u, rfl, hbl, hx, c0, c1, c2, c3⟩ := (h.bel BW).at_ hlt
      have HX := Lib.hid (List.mem_of_getElem? hx)
      by_cases hf : exOk (x, y, z, u)
      · have C := Lib.hid (areEx1_b (w := wr) (decide_eq_true hf))
        have HF2 : Hid (∀ x ∈ L.take (k + 1), exOk x) := take_all16 HF.out hx hf
        clear hf hx
        go_wp2_with (fail)
        refine C.out.mono ?_
        rintro e w5 ⟨rfl, B5⟩
        have B6 := BW.trans (B5.mono sW)
        go_wp2
        go_roundw
        case rel => exact ⟨k + 1, by omega, by go_num, HF2, B6⟩
        case measure => simp [intOf]; omega
      · have C := Lib.hid (areEx1_b (w := wr) (decide_eq_false hf))
        have HE := Lib.hid (show (((k : Int) < 0) ↔ ∀ x ∈ L, exOk x) from ⟨fun hh => by omega, fun hh => absurd (hh _ HX.out) hf⟩)
        clear hf hx
        go_wp2_with (fail)
        refine C.out.mono ?_
        rintro e w5 ⟨rfl, B5⟩
        have B6 := BW.trans (B5.mono sW)
        go_wp2
        go_ret
        exact ⟨_, rfl, HE.out, B6⟩
    · have hltB : decide ((k : Int) < (n : Int)) = false := by simp; omega
      obtain rfl : k = n := by omega
      have HE := Lib.hid (show (((-1 : Int) < 0) ↔ ∀ x ∈ L, exOk x) from ⟨fun _ => take_full16 HF.out HL.out, fun _ => by omega⟩)
      go_wp2
      go_ret
      exact ⟨_, rfl, HE.out, BW⟩
theorem conEx_b {A : Option Addr} {n c : Nat} {L : List Quad} {w : World} {b : Bool} (h : HasQ w A n L) (hn : n ≤ 16777216) (hb : decide (∀ x ∈ L, exOk x) = b) :
    Calls Try.prog 71 #[.slice A n c, .func (.func 72) #[] #[]] w fun e w' => e = .returned (.bool (!b)) ∧ Below w.heap.size w w' := by
  have C := Lib.hid (ixEx_any (c := c) h hn)
  go_enter Try.func71, Try.ntmps71
  go_wp2_with (fail)
  refine C.out.mono ?_
  rintro e w1 ⟨z, rfl, hz, B1⟩
  cases b with
  | true =>
    have hz2 := hz.2 (of_decide_eq_true hb)
    have z1 : decide (z ≥ 0) = false := by simp; omega
    have z2 : decide (0 ≤ z) = false := by simp; omega
    clear hz hz2 hb
    go_wp2
    go_ret
    exact ⟨rfl, B1⟩
  | false =>
    have hz2 : ¬ z < 0 := fun hh => of_decide_eq_false hb (hz.1 hh)
    have z1 : decide (z ≥ 0) = true := by simp; omega
    have z2 : decide (0 ≤ z) = true := by simp; omega
    clear hz hz2 hb
    go_wp2
    go_ret
    exact ⟨rfl, B1⟩
theorem areEx_b {A : Option Addr} {n c : Nat} {L : List Quad} {w : World} {b : Bool} (h : HasQ w A n L) (hn : n ≤ 16777216) (hb : decide (exsOk L) = b) :
    Calls Try.prog 57 #[.slice A n c] w fun e w' => e = .returned (.bool b) ∧ Below w.heap.size w w' := by
  have hl := h.1
  by_cases h1 : 1 ≤ (n : Int) ∧ (n : Int) ≤ 40
  rotate_left
  · have C := Lib.hid (isSpanCount_no w h1)
    have HE := Lib.hid (show false = b by rw [← hb]; exact (decide_eq_false (fun hh => h1 (by have := hh.1; omega))).symm)
    clear h1 hb
    go_enter Try.func57, Try.ntmps57
    go_wp2_with (fail)
    refine C.out.mono ?_
    rintro e w' ⟨rfl, rfl⟩
    go_wp2
    go_ret
    exact ⟨ret_bool HE.out, Below.refl _ _⟩
  have C := Lib.hid (isSpanCount_yes w h1)
  have C2 := Lib.hid (conEx_b (c := c) h hn (b := b) (by rw [← hb, decide_eq_decide]; exact ⟨fun hh => ⟨by omega, hh⟩, fun hh => hh.2⟩))
  clear h1 hb
  go_enter Try.func57, Try.ntmps57
  go_wp2_with (fail)
  refine C.out.mono ?_
  rintro e w' ⟨rfl, rfl⟩
  go_wp2_with (fail)
  refine C2.out.mono ?_
  rintro e w2 ⟨rfl, B2⟩
  cases b with
  | true =>
    go_wp2
    go_ret
    exact ⟨rfl, B2⟩
  | false =>
    go_wp2
    go_ret
    exact ⟨rfl, B2⟩
theorem areSp1_b {x y : Int} {w : World} {b : Bool} (hb : decide (spOk (x, y)) = b) :
    Calls Try.prog 75 #[.agg #[.int .i64 x, .int .i64 y]] w fun e w' => e = .returned (.bool (!b)) ∧ Below w.heap.size w w' := by
  obtain ⟨W1, hW1⟩ : ∃ W1, w.alloc (.cells #[.int .i64 x, .int .i64 y] 30) = W1 := ⟨_, rfl⟩
  have B1 : Below w.heap.size w W1 := hW1 ▸ below_allocQ w _
  have hR : W1.heap[w.heap.size]? = some (.cells #[.int .i64 x, .int .i64 y] 30 (0, 0)) := by rw [← hW1]; exact heap_alloc_new w _
  obtain ⟨x0, x1⟩ := cells2D hR
  have C := Lib.hid (isSpan_b (w := W1) hb)
  clear hR hb
  go_enter Try.func75, Try.ntmps75
  go_wp2_with (fail)
  refine C.out.mono ?_
  rintro e w2 ⟨rfl, B2⟩
  have B3 := bel_trans B1 B2
  go_wp2
  go_ret
  exact ⟨rfl, B3⟩
set_option maxHeartbeats 2000000 in
theorem ixSp_any {A : Option Addr} {n c : Nat} {L : List Duo} {w : World} (h : HasD w A n L) (hn : n ≤ 16777216) :
    Calls Try.prog 81 #[.slice A n c, .func (.func 75) #[] #[]] w fun e w' => ∃ z, e = .returned (.int .i64 z) ∧ (z < 0 ↔ ∀ x ∈ L, spOk x) ∧ Below w.heap.size w w' := by
  have HL := Lib.hid h.1
  go_enter Try.func81, Try.ntmps81
  go_wp2
  go_loopw [8] (fun i wr => ∃ k : Nat, k ≤ n ∧ i = .int .i64 (k : Int) ∧ Hid (∀ x ∈ L.take k, spOk x) ∧ Below w.heap.size w wr) (fun i _ => n - (intOf i).toNat)
  case atStart =>
    have h1 : Hid (∀ x ∈ L.take 0, spOk x) := fun x hx => by simp at hx
    exact ⟨0, Nat.zero_le _, rfl, h1, Below.refl _ _⟩
  case round =>
    obtain ⟨k, hk, rfl, HF, BW⟩ := hrel
    have sW := BW.size
    by_cases hlt : k < n
    · have hltB : decide ((k : Int) < (n : Int)) = true := by simp; omega
      obtain ⟨bb, o, x, y, rfl, hbl, hx, c0, c1⟩ := (h.bel BW).at_ hlt
      have HX := Lib.hid (List.mem_of_getElem? hx)
      by_cases hf : spOk (x, y)
      · have C := Lib.hid (areSp1_b (w := wr) (decide_eq_true hf))
        have HF2 : Hid (∀ x ∈ L.take (k + 1), spOk x) := take_all16 HF.out hx hf
        clear hf hx
        go_wp2_with (fail)
        refine C.out.mono ?_
        rintro e w5 ⟨rfl, B5⟩
        have B6 := BW.trans (B5.mono sW)
        go_wp2
        go_roundw
        case rel => exact ⟨k + 1, by omega, by go_num, HF2, B6⟩
        case measure => simp [intOf]; omega
      · have C := Lib.hid (areSp1_b (w := wr) (decide_eq_false hf))
        have HE := Lib.hid (show (((k : Int) < 0) ↔ ∀ x ∈ L, spOk x) from ⟨fun hh => by omega, fun hh => absurd (hh _ HX.out) hf⟩)
        clear hf hx
        go_wp2_with (fail)
        refine C.out.mono ?_
        rintro e w5 ⟨rfl, B5⟩
        have B6 := BW.trans (B5.mono sW)
        go_wp2
        go_ret
        exact ⟨_, rfl, HE.out, B6⟩
    · have hltB : decide ((k : Int) < (n : Int)) = false := by simp; omega
      obtain rfl : k = n := by omega
      have HE := Lib.hid (show (((-1 : Int) < 0) ↔ ∀ x ∈ L, spOk x) from ⟨fun _ => take_full16 HF.out HL.out, fun _ => by omega⟩)
      go_wp2
      go_ret
      exact ⟨_, rfl, HE.out, BW⟩
theorem conSp_b {A : Option Addr} {n c : Nat} {L : List Duo} {w : World} {b : Bool} (h : HasD w A n L) (hn : n ≤ 16777216) (hb : decide (∀ x ∈ L, spOk x) = b) :
    Calls Try.prog 74 #[.slice A n c, .func (.func 75) #[] #[]] w fun e w' => e = .returned (.bool (!b)) ∧ Below w.heap.size w w' := by
  have C := Lib.hid (ixSp_any (c := c) h hn)
  go_enter Try.func74, Try.ntmps74
  go_wp2_with (fail)
  refine C.out.mono ?_
  rintro e w1 ⟨z, rfl, hz, B1⟩
  cases b with
  | true =>
    have hz2 := hz.2 (of_decide_eq_true hb)
    have z1 : decide (z ≥ 0) = false := by simp; omega
    have z2 : decide (0 ≤ z) = false := by simp; omega
    clear hz hz2 hb
    go_wp2
    go_ret
    exact ⟨rfl, B1⟩
  | false =>
    have hz2 : ¬ z < 0 := fun hh => of_decide_eq_false hb (hz.1 hh)
    have z1 : decide (z ≥ 0) = true := by simp; omega
    have z2 : decide (0 ≤ z) = true := by simp; omega
    clear hz hz2 hb
    go_wp2
    go_ret
    exact ⟨rfl, B1⟩
theorem areSp_b {A : Option Addr} {n c : Nat} {L : List Duo} {w : World} {b : Bool} (h : HasD w A n L) (hn : n ≤ 16777216) (hb : decide (spsOk L) = b) :
    Calls Try.prog 62 #[.slice A n c] w fun e w' => e = .returned (.bool b) ∧ Below w.heap.size w w' := by
  have hl := h.1
  by_cases h1 : 1 ≤ (n : Int) ∧ (n : Int) ≤ 40
  rotate_left
  · have C := Lib.hid (isSpanCount_no w h1)
    have HE := Lib.hid (show false = b by rw [← hb]; exact (decide_eq_false (fun hh => h1 (by have := hh.1; omega))).symm)
    clear h1 hb
    go_enter Try.func62, Try.ntmps62
    go_wp2_with (fail)
    refine C.out.mono ?_
    rintro e w' ⟨rfl, rfl⟩
    go_wp2
    go_ret
    exact ⟨ret_bool HE.out, Below.refl _ _⟩
  have C := Lib.hid (isSpanCount_yes w h1)
  have C2 := Lib.hid (conSp_b (c := c) h hn (b := b) (by rw [← hb, decide_eq_decide]; exact ⟨fun hh => ⟨by omega, hh⟩, fun hh => hh.2⟩))
  clear h1 hb
  go_enter Try.func62, Try.ntmps62
  go_wp2_with (fail)
  refine C.out.mono ?_
  rintro e w' ⟨rfl, rfl⟩
  go_wp2_with (fail)
  refine C2.out.mono ?_
  rintro e w2 ⟨rfl, B2⟩
  cases b with
  | true =>
    go_wp2
    go_ret
    exact ⟨rfl, B2⟩
  | false =>
    go_wp2
    go_ret
    exact ⟨rfl, B2⟩

/-- cmp.Compare of whole numbers. -/
def cmpZ (x y : Int) : Int := if x < y then -1 else if y < x then 1 else 0
theorem isNaN15 (x : Int) (w : World) : Calls Try.prog 80 #[.int .i64 x] w fun e w' => e = .returned (.bool false) ∧ w = w' := by
  have b1 : (x != x) = false := by simp
  go_enter Try.func80, Try.ntmps80
  go_wp2
  go_ret
  exact ⟨rfl, rfl⟩
set_option maxHeartbeats 1000000 in
theorem cmpZ_any {x y v : Int} {w : World} (hv : cmpZ x y = v) : Calls Try.prog 73 #[.int .i64 x, .int .i64 y] w fun e w' => e = .returned (.int .i64 v) ∧ w = w' := by
  have HV := Lib.hid hv
  have C := Lib.hid (fun x : Int => isNaN15 x w)
  clear hv
  by_cases h1 : x < y
  · have b1 : decide (x < y) = true := decide_eq_true h1
    have HE := Lib.hid (show (-1 : Int) = v by rw [← HV.out]; unfold cmpZ; rw [if_pos h1])
    clear h1
    go_enter Try.func73, Try.ntmps73
    go_wp2_with (fail)
    refine (C.out _).mono ?_
    rintro e w' ⟨rfl, rfl⟩
    go_wp2_with (fail)
    refine (C.out _).mono ?_
    rintro e w' ⟨rfl, rfl⟩
    go_wp2
    go_ret
    exact ⟨ret_int HE.out, rfl⟩
  have b1 : decide (x < y) = false := decide_eq_false h1
  by_cases h2 : y < x
  · have b2 : decide (y < x) = true := decide_eq_true h2
    have b3 : decide (x > y) = true := decide_eq_true h2
    have HE := Lib.hid (show (1 : Int) = v by rw [← HV.out]; unfold cmpZ; rw [if_neg h1, if_pos h2])
    clear h1 h2
    go_enter Try.func73, Try.ntmps73
    go_wp2_with (fail)
    refine (C.out _).mono ?_
    rintro e w' ⟨rfl, rfl⟩
    go_wp2_with (fail)
    refine (C.out _).mono ?_
    rintro e w' ⟨rfl, rfl⟩
    go_wp2
    go_ret
    exact ⟨ret_int HE.out, rfl⟩
  have b2 : decide (y < x) = false := decide_eq_false h2
  have b3 : decide (x > y) = false := decide_eq_false h2
  have HE := Lib.hid (show (0 : Int) = v by rw [← HV.out]; unfold cmpZ; rw [if_neg h1, if_neg h2])
  clear h1 h2
  go_enter Try.func73, Try.ntmps73
  go_wp2_with (fail)
  refine (C.out _).mono ?_
  rintro e w' ⟨rfl, rfl⟩
  go_wp2_with (fail)
  refine (C.out _).mono ?_
  rintro e w' ⟨rfl, rfl⟩
  go_wp2
  go_ret
  exact ⟨ret_int HE.out, rfl⟩
set_option maxHeartbeats 2000000 in
theorem byWay_any {x y z u x' y' z' u' a b v : Int} {w : World} (ha : wayI (x, y, z, u) = a) (hb : wayI (x', y', z', u') = b) (hv : cmpZ a b = v) :
    Calls Try.prog 60 #[.agg #[.int .i64 x, .int .i64 y, .int .i64 z, .int .i64 u], .agg #[.int .i64 x', .int .i64 y', .int .i64 z', .int .i64 u']] w fun e w' => e = .returned (.int .i64 v) ∧ Below w.heap.size w w' := by
  obtain ⟨W1, hW1⟩ : ∃ W1, w.alloc (.cells #[.int .i64 x, .int .i64 y, .int .i64 z, .int .i64 u] 26) = W1 := ⟨_, rfl⟩
  have B1 : Below w.heap.size w W1 := hW1 ▸ below_allocQ w _
  have K1 : QRow W1 w.heap.size 26 x y z u := hW1 ▸ qRow_alloc w _ _ _ _ _
  obtain ⟨W2, hW2⟩ : ∃ W2, W1.alloc (.cells #[.int .i64 x', .int .i64 y', .int .i64 z', .int .i64 u'] 26) = W2 := ⟨_, rfl⟩
  have B2 : Below W1.heap.size W1 W2 := hW2 ▸ below_allocQ W1 _
  have K2 : QRow W2 W1.heap.size 26 x' y' z' u' := hW2 ▸ qRow_alloc W1 _ _ _ _ _
  have B3 := bel_trans B1 B2
  obtain ⟨c0, c1, c2, c3⟩ := (K1.bel B2).cells
  obtain ⟨d0, d1, d2, d3⟩ := K2.cells
  have r0 := cell_regrown c0
  have r1 := cell_regrown c1
  have r2 := cell_regrown c2
  have r3 := cell_regrown c3
  have q0 := cell_regrown d0
  have q1 := cell_regrown d1
  have q2 := cell_regrown d2
  have q3 := cell_regrown d3
  have cR1 := fun d os => Calls.regrown_of (d := d) (os := os) (w := W2) (implWayOf_r ha)
  have cR2 := fun d os => Calls.regrown_of (d := d) (os := os) (w := W2) (implWayOf_r hb)
  have cR3 := fun d os => Calls.regrown_of (d := d) (os := os) (w := W2) ((cmpZ_any hv).mono fun _ _ h => ⟨h.1, h.2 ▸ Below.refl _ _⟩)
  clear c0 c1 c2 c3 d0 d1 d2 d3 K1 K2 B1 B2 ha hb hv
  go_enter Try.func60, Try.ntmps60
  go_wp2
  refine wp_region_quiet_below (by kernel_rfl) (by kernel_rfl) ?_
  repeat (quiet_step (first | (with_reducible exact cR1 _ _) | (with_reducible exact cR2 _ _) | (with_reducible exact cR3 _ _)))
  refine wpQuiet_nil ?_
  intro _ hw'
  obtain ⟨⟨dq, osq⟩, hw''⟩ := hw'
  subst hw''
  have B8 := bel_trans B3 (below_regrown W2 dq osq)
  go_wp2
  go_ret
  exact ⟨rfl, B8⟩
end Go.Proofs.Ytmifhkhanjiklaa
