/-
  Chapter 6's draws: what is proved here is which tables, numbers and frames are drawn, and that nothing that was there is written. No condition.
-/
import Derived.Test.YtimddobedgopiaaDraw1
import Derived.Test.YtimddobedgopiaaBridgeB
namespace Go.Proofs.Ytimddobedgopiaa
open Go.RowKit

/-- Numbers as they are drawn for tables. -/
def Tiny (ts : List Int) : Prop := ∀ x ∈ ts, -2 ≤ x ∧ x ≤ 7
theorem tiny_fresh : Tiny freshL := fun x hx => by have := List.eq_of_mem_replicate hx; omega
theorem Tiny.set_ {ts : List Int} (h : Tiny ts) (k : Nat) {v : Int} (hv : -2 ≤ v ∧ v ≤ 7) : Tiny (ts.set k v) := fun x hx => by
  rcases List.mem_or_eq_of_mem_set hx with hx | rfl
  · exact h x hx
  · exact hv
theorem Tiny.drop_ {ts : List Int} (h : Tiny ts) (k : Nat) : Tiny (ts.drop k) := fun x hx => h x (List.mem_of_mem_drop hx)
theorem Tiny.i64s {ts : List Int} (h : Tiny ts) : I64s ts := fun x hx => by have := h x hx; omega
/-- A slice in blocks from lo on that reads as xs. -/
def Lies (w : World) (lo : Nat) (A : Option Addr) (n : Nat) (xs : List Value) : Prop := Has w A n xs ∧ ∀ ad, A = some ad → lo ≤ ad.block
theorem Lies.has {w : World} {lo n : Nat} {A : Option Addr} {xs : List Value} (h : Lies w lo A n xs) : Has w A n xs := h.1
theorem Lies.past {w w' : World} {lo r n : Nat} {A : Option Addr} {xs : List Value} (h : Lies w lo A n xs) (hr : r < lo) (hg : w.grownBy w' (some r)) : Lies w' lo A n xs :=
  ⟨h.1.grown hg (fun a ha e => by injection e with e; have := h.2 a ha; omega), h.2⟩
theorem Lies.bel {w w' : World} {lo n : Nat} {A : Option Addr} {xs : List Value} (h : Lies w lo A n xs) (hb : Below w.heap.size w w') : Lies w' lo A n xs := ⟨h.1.bel hb, h.2⟩
theorem Lies.mono {w : World} {lo lo' n : Nat} {A : Option Addr} {xs : List Value} (h : Lies w lo A n xs) (hl : lo' ≤ lo) : Lies w lo' A n xs := ⟨h.1, fun ad ha => by have := h.2 ad ha; omega⟩
theorem Own.lies {w : World} {lo n c : Nat} {e : TypeId} {A : Option Addr} {xs : List Value} (h : Own w lo e A n c xs) : Lies w lo A n xs := ⟨h.has, fun ad ha => by subst ha; exact h.block.1⟩
/-- What is drawn with a source: a table and a number of ports. -/
def TabR (lo r p : Nat) (w w' : World) (e : Ending) : Prop := ∃ A' n' c' ts ports p', e = .returned (.tuple #[.slice A' n' c', .int .i64 ports]) ∧ Lies w' w.heap.size A' n' (ints .i64 ts) ∧ Tiny ts ∧ n' ≤ 15 ∧ (0 ≤ ports ∧ ports ≤ 7) ∧ p' ≤ p + 100 ∧ Rd w' lo r p' ∧ w.grownBy w' (some r)
theorem Own.write {w : World} {lo : Nat} {e : TypeId} {g n c : Nat} {xs : List Value} (h : Own w lo e (some ⟨g, 0, none⟩) n c xs) (k : Nat) (u : Value) : Own (w.setCell ⟨g, k, none⟩ u) lo e (some ⟨g, 0, none⟩) n c (xs.set k u) ∧ w.grownBy (w.setCell ⟨g, k, none⟩ u) (some g) := World.ownsRow.stored h k u

theorem three_cells {w : World} {B : Nat} {x y z : Value} {t : TypeId} (h : w.heap[B]? = some (.cells #[x, y, z] t (0, 0))) :
    w.cell? ⟨B, 0, none⟩ = some x ∧ w.cell? ⟨B, 1, none⟩ = some y ∧ w.cell? ⟨B, 2, none⟩ = some z ∧ w.frozen? ⟨B, 0, none⟩ = false ∧ w.frozen? ⟨B, 1, none⟩ = false ∧ w.frozen? ⟨B, 2, none⟩ = false :=
  ⟨(cell_of_row w B 0 _ t (0, 0) h).trans rfl, (cell_of_row w B 1 _ t (0, 0) h).trans rfl, (cell_of_row w B 2 _ t (0, 0) h).trans rfl, frozen_of_row w B 0 _ t h, frozen_of_row w B 1 _ t h, frozen_of_row w B 2 _ t h⟩
theorem one_grown (w : World) (B k : Nat) (v : Value) : w.grownBy (w.setCell ⟨B, k, none⟩ v) (some B) :=
  ⟨rfl, rfl, rfl, by simp, fun i _ hi => heap_setCell_other w ⟨B, k, none⟩ i v (fun e => hi (by simp [e]))⟩
theorem three_grown (w : World) (B : Nat) (x y z : Value) : w.grownBy (((w.setCell ⟨B, 0, none⟩ x).setCell ⟨B, 1, none⟩ y).setCell ⟨B, 2, none⟩ z) (some B) :=
  gr_trans (gr_trans (one_grown w B 0 x) (one_grown _ B 1 y)) (one_grown _ B 2 z)
theorem three_set {w : World} {B : Nat} {a b c : Value} {t : TypeId} (h : w.heap[B]? = some (.cells #[a, b, c] t (0, 0))) (x y z : Value) :
    (((w.setCell ⟨B, 0, none⟩ x).setCell ⟨B, 1, none⟩ y).setCell ⟨B, 2, none⟩ z).heap[B]? = some (.cells #[x, y, z] t (0, 0)) :=
  (heap_setCell_same _ B 2 _ t z ((heap_setCell_same _ B 1 _ t y ((heap_setCell_same w B 0 _ t x h).trans rfl)).trans rfl)).trans rfl
/-- What is drawn with a source: a frame. -/
def HopR (lo r p : Nat) (w w' : World) (e : Ending) : Prop := ∃ f t q p', e = .returned (.agg #[.int .i64 f, .int .i64 t, .int .i64 q]) ∧ (-1 ≤ f ∧ f ≤ 15) ∧ (-1 ≤ t ∧ t ≤ 16) ∧ (-1 ≤ q ∧ q ≤ 7) ∧ p' ≤ p + 10 ∧ Rd w' lo r p' ∧ w.grownBy w' (some r)
set_option maxHeartbeats 4000000 in
theorem l6Hop_any {lo r p : Nat} {ports : Int} {w : World} (h : Rd w lo r p) (hp : p ≤ 274877906944) (hpo : 0 ≤ ports ∧ ports ≤ 7) :
    Calls Try.prog 64 #[.pointer (some ⟨r, 0, none⟩), .int .i64 ports] w fun e w' => HopR lo r p w w' e := by
  have hrl := h.lt
  obtain ⟨hpo1, hpo2⟩ := hpo
  have hmx : 0 ≤ max ports 1 ∧ max ports 1 ≤ 7 := by omega
  go_enter Try.func64, Try.ntmps64
  go_wp2_with (fail)
  refine (pick_any (h.alloc _) (by omega) (by omega)).mono ?_
  rintro e w1 ⟨f, rfl, ⟨f0, f1⟩, R1, G1⟩
  have fb : -1 ≤ f ∧ f ≤ 15 := by omega
  clear f0 f1
  have G1' := gr_alloc G1
  have hR1 : w1.heap[w.heap.size]? = some (.cells #[.int .i64 0, .int .i64 0, .int .i64 0] 46 (0, 0)) := by
    rw [G1.block w.heap.size (by simp) (by simp; omega)]; exact heap_alloc_new w _
  have s1 := G1'.size
  have s1' : w.heap.size < w1.heap.size := by have := G1.size; simp at this; omega
  clear G1
  go_wp2_with (fail)
  refine (num_any (n := 8) (l := [0, 1, 2, 3, 4, 5, 15, 14]) (R1.alloc _) (by omega) (Has.row #[.int .i64 0, .int .i64 1, .int .i64 2, .int .i64 3, .int .i64 4, .int .i64 5, .int .i64 15, .int .i64 14] rfl rfl (by unfold maxLen; omega)) (fun ad ha => by injection ha with ha; subst ha; have := R1.lt; simp; omega) (by omega) (by omega)).mono ?_
  rintro e w2 ⟨t, rfl, ht, R2, G2⟩
  have tb : -1 ≤ t ∧ t ≤ 16 := by simp at ht; omega
  clear ht
  have G2' := gr_alloc G2
  have hR2 := (G2'.block w.heap.size s1' (by simp; omega)).trans hR1
  have G12 := gr_trans G1' G2'
  have s2 := G2'.size
  clear G2
  go_wp2_with (fail)
  refine (pick_any R2 (by omega) (by omega)).mono ?_
  rintro e w3 ⟨q, rfl, ⟨q0, q1⟩, R3, G3⟩
  have qb : -1 ≤ q ∧ q ≤ 7 := by omega
  clear q0 q1
  have hR3 := (G3.block w.heap.size (by omega) (by simp; omega)).trans hR2
  have G13 := gr_trans G12 G3
  have s3 := G3.size
  clear hR1 hR2 G12 G2' G1' R1 R2 G3
  -- the variable h
  have hB4 : (w3.alloc (.cells #[.int .i64 f, .int .i64 t, .int .i64 q] 46)).heap[w3.heap.size]? = some (.cells #[.int .i64 f, .int .i64 t, .int .i64 q] 46 (0, 0)) := heap_alloc_new w3 _
  have hR4 : (w3.alloc (.cells #[.int .i64 f, .int .i64 t, .int .i64 q] 46)).heap[w.heap.size]? = some (.cells #[.int .i64 0, .int .i64 0, .int .i64 0] 46 (0, 0)) := (heap_alloc_old w3 _ (by omega)).trans hR3
  have R4 := R3.alloc (.cells #[.int .i64 f, .int .i64 t, .int .i64 q] 46)
  go_wp2_with (fail)
  refine (pick_any R4 (by omega) (by omega)).mono ?_
  rintro e w5 ⟨u, rfl, hu, R5, G5⟩
  clear hu
  have s5 : w3.heap.size < w5.heap.size := by have := G5.size; simp at this; omega
  have hr3 := R3.lt
  have hB5 := (G5.block w3.heap.size (by simp) (by simp; omega)).trans hB4
  have hR5 := (G5.block w.heap.size (by simp; omega) (by simp; omega)).trans hR4
  have G15 := gr_trans G13 (gr_alloc G5)
  clear hB4 hR4 R4 G5 hR3 R3 G13
  generalize w3.heap.size = B at hB5 s5 hr3 s3 ⊢
  have hBr : B ≠ r := by omega
  have hBw : w.heap.size < B := by omega
  by_cases h0 : u = 0
  · subst h0
    go_wp2_with (fail)
    refine (num_any (n := 2) (l := [15, -1]) (R5.alloc _) (by omega) (Has.row #[.int .i64 15, .int .i64 (-1)] rfl rfl (by unfold maxLen; omega)) (fun ad ha => by injection ha with ha; subst ha; have := R5.lt; simp; omega) (by omega) (by omega)).mono ?_
    rintro e w6 ⟨v, rfl, hv, R6, G6⟩
    have vb : -1 ≤ v ∧ v ≤ 15 := by simp at hv; omega
    clear hv
    have G6' := gr_alloc G6
    have hB6 := (G6'.block B s5 (by simp; omega)).trans hB5
    have hR6 := (G6'.block w.heap.size (by omega) (by simp; omega)).trans hR5
    have G16 := gr_trans G15 G6'
    have s6 := G6'.size
    have tc6 := three_cells hB6
    obtain ⟨ta0, ta1, ta2, tg0, tg1, tg2⟩ := tc6
    have hB7 : (w6.setCell ⟨B, 0, none⟩ (.int .i64 v)).heap[B]? = some (.cells #[.int .i64 v, .int .i64 t, .int .i64 q] 46 (0, 0)) := (heap_setCell_same w6 B 0 _ _ _ hB6).trans rfl
    have hR7 : (w6.setCell ⟨B, 0, none⟩ (.int .i64 v)).heap[w.heap.size]? = some (.cells #[.int .i64 0, .int .i64 0, .int .i64 0] 46 (0, 0)) := (heap_setCell_other w6 _ _ _ (by simp; omega)).trans hR6
    have R7 := R6.grown (one_grown w6 B 0 (.int .i64 v)) (fun q hq => by injection hq with hq; have := h.1; exact ⟨by omega, by omega⟩)
    have G17 := gr_new G16 (one_grown w6 B 0 (.int .i64 v)) (fun q hq => by injection hq with hq; omega)
    clear hB6 hR6 G16 G6 G6'
    have tc := three_cells hB7
    have tr := three_cells hR7
    have hF := three_set hR7 (.int .i64 v) (.int .i64 t) (.int .i64 q)
    have GF := gr_new G17 (three_grown (w6.setCell ⟨B, 0, none⟩ (.int .i64 v)) w.heap.size (.int .i64 v) (.int .i64 t) (.int .i64 q)) (fun q hq => by injection hq with hq; omega)
    have RF := R7.grown (three_grown (w6.setCell ⟨B, 0, none⟩ (.int .i64 v)) w.heap.size (.int .i64 v) (.int .i64 t) (.int .i64 q)) (fun q hq => by injection hq with hq; have := h.1; exact ⟨by omega, by omega⟩)
    obtain ⟨tc0, tc1, tc2, tf0, tf1, tf2⟩ := tc
    obtain ⟨tr0, tr1, tr2, ts0, ts1, ts2⟩ := tr
    go_wp2
    refine bodyPost_ret (results_cell_row rfl _ _ _ _ _ _ _ rfl hF Try.underlying46 rfl (by kernel_rfl)) rfl ?_
    exact ⟨_, _, _, _, rfl, by omega, by omega, by omega, by omega, RF, GF⟩
  · have h0B : (u == 0) = false := by simp [h0]
    by_cases h1 : u = 1
    · subst h1
      go_wp2_with (fail)
      refine (num_any (n := 2) (l := [16, -1]) (R5.alloc _) (by omega) (Has.row #[.int .i64 16, .int .i64 (-1)] rfl rfl (by unfold maxLen; omega)) (fun ad ha => by injection ha with ha; subst ha; have := R5.lt; simp; omega) (by omega) (by omega)).mono ?_
      rintro e w6 ⟨v, rfl, hv, R6, G6⟩
      have vb : -1 ≤ v ∧ v ≤ 16 := by simp at hv; omega
      clear hv
      have G6' := gr_alloc G6
      have hB6 := (G6'.block B s5 (by simp; omega)).trans hB5
      have hR6 := (G6'.block w.heap.size (by omega) (by simp; omega)).trans hR5
      have G16 := gr_trans G15 G6'
      have s6 := G6'.size
      have tc6 := three_cells hB6
      obtain ⟨ta0, ta1, ta2, tg0, tg1, tg2⟩ := tc6
      have hB7 : (w6.setCell ⟨B, 1, none⟩ (.int .i64 v)).heap[B]? = some (.cells #[.int .i64 f, .int .i64 v, .int .i64 q] 46 (0, 0)) := (heap_setCell_same w6 B 1 _ _ _ hB6).trans rfl
      have hR7 : (w6.setCell ⟨B, 1, none⟩ (.int .i64 v)).heap[w.heap.size]? = some (.cells #[.int .i64 0, .int .i64 0, .int .i64 0] 46 (0, 0)) := (heap_setCell_other w6 _ _ _ (by simp; omega)).trans hR6
      have R7 := R6.grown (one_grown w6 B 1 (.int .i64 v)) (fun q hq => by injection hq with hq; have := h.1; exact ⟨by omega, by omega⟩)
      have G17 := gr_new G16 (one_grown w6 B 1 (.int .i64 v)) (fun q hq => by injection hq with hq; omega)
      clear hB6 hR6 G16 G6 G6'
      have tc := three_cells hB7
      have tr := three_cells hR7
      have hF := three_set hR7 (.int .i64 f) (.int .i64 v) (.int .i64 q)
      have GF := gr_new G17 (three_grown (w6.setCell ⟨B, 1, none⟩ (.int .i64 v)) w.heap.size (.int .i64 f) (.int .i64 v) (.int .i64 q)) (fun q hq => by injection hq with hq; omega)
      have RF := R7.grown (three_grown (w6.setCell ⟨B, 1, none⟩ (.int .i64 v)) w.heap.size (.int .i64 f) (.int .i64 v) (.int .i64 q)) (fun q hq => by injection hq with hq; have := h.1; exact ⟨by omega, by omega⟩)
      obtain ⟨tc0, tc1, tc2, tf0, tf1, tf2⟩ := tc
      obtain ⟨tr0, tr1, tr2, ts0, ts1, ts2⟩ := tr
      go_wp2
      refine bodyPost_ret (results_cell_row rfl _ _ _ _ _ _ _ rfl hF Try.underlying46 rfl (by kernel_rfl)) rfl ?_
      exact ⟨_, _, _, _, rfl, by omega, by omega, by omega, by omega, RF, GF⟩
    · have h1B : (u == 1) = false := by simp [h1]
      by_cases h2 : u = 2
      · subst h2
        go_wp2_with (fail)
        refine (num_any (n := 2) (l := [ports, -1]) (R5.alloc _) (by omega) (Has.row #[.int .i64 ports, .int .i64 (-1)] rfl rfl (by unfold maxLen; omega)) (fun ad ha => by injection ha with ha; subst ha; have := R5.lt; simp; omega) (by omega) (by omega)).mono ?_
        rintro e w6 ⟨v, rfl, hv, R6, G6⟩
        have vb : -1 ≤ v ∧ v ≤ 7 := by simp at hv; omega
        clear hv
        have G6' := gr_alloc G6
        have hB6 := (G6'.block B s5 (by simp; omega)).trans hB5
        have hR6 := (G6'.block w.heap.size (by omega) (by simp; omega)).trans hR5
        have G16 := gr_trans G15 G6'
        have s6 := G6'.size
        have tc6 := three_cells hB6
        obtain ⟨ta0, ta1, ta2, tg0, tg1, tg2⟩ := tc6
        have hB7 : (w6.setCell ⟨B, 2, none⟩ (.int .i64 v)).heap[B]? = some (.cells #[.int .i64 f, .int .i64 t, .int .i64 v] 46 (0, 0)) := (heap_setCell_same w6 B 2 _ _ _ hB6).trans rfl
        have hR7 : (w6.setCell ⟨B, 2, none⟩ (.int .i64 v)).heap[w.heap.size]? = some (.cells #[.int .i64 0, .int .i64 0, .int .i64 0] 46 (0, 0)) := (heap_setCell_other w6 _ _ _ (by simp; omega)).trans hR6
        have R7 := R6.grown (one_grown w6 B 2 (.int .i64 v)) (fun q hq => by injection hq with hq; have := h.1; exact ⟨by omega, by omega⟩)
        have G17 := gr_new G16 (one_grown w6 B 2 (.int .i64 v)) (fun q hq => by injection hq with hq; omega)
        clear hB6 hR6 G16 G6 G6'
        have tc := three_cells hB7
        have tr := three_cells hR7
        have hF := three_set hR7 (.int .i64 f) (.int .i64 t) (.int .i64 v)
        have GF := gr_new G17 (three_grown (w6.setCell ⟨B, 2, none⟩ (.int .i64 v)) w.heap.size (.int .i64 f) (.int .i64 t) (.int .i64 v)) (fun q hq => by injection hq with hq; omega)
        have RF := R7.grown (three_grown (w6.setCell ⟨B, 2, none⟩ (.int .i64 v)) w.heap.size (.int .i64 f) (.int .i64 t) (.int .i64 v)) (fun q hq => by injection hq with hq; have := h.1; exact ⟨by omega, by omega⟩)
        obtain ⟨tc0, tc1, tc2, tf0, tf1, tf2⟩ := tc
        obtain ⟨tr0, tr1, tr2, ts0, ts1, ts2⟩ := tr
        go_wp2
        refine bodyPost_ret (results_cell_row rfl _ _ _ _ _ _ _ rfl hF Try.underlying46 rfl (by kernel_rfl)) rfl ?_
        exact ⟨_, _, _, _, rfl, by omega, by omega, by omega, by omega, RF, GF⟩
      · have h2B : (u == 2) = false := by simp [h2]
        clear h0 h1 h2
        have tc := three_cells hB5
        have tr := three_cells hR5
        have hF := three_set hR5 (.int .i64 f) (.int .i64 t) (.int .i64 q)
        have GF := gr_new G15 (three_grown w5 w.heap.size (.int .i64 f) (.int .i64 t) (.int .i64 q)) (fun q hq => by injection hq with hq; omega)
        have RF := R5.grown (three_grown w5 w.heap.size (.int .i64 f) (.int .i64 t) (.int .i64 q)) (fun q hq => by injection hq with hq; have := h.1; exact ⟨by omega, by omega⟩)
        obtain ⟨tc0, tc1, tc2, tf0, tf1, tf2⟩ := tc
        obtain ⟨tr0, tr1, tr2, ts0, ts1, ts2⟩ := tr
        go_wp2
        refine bodyPost_ret (results_cell_row rfl _ _ _ _ _ _ _ rfl hF Try.underlying46 rfl (by kernel_rfl)) rfl ?_
        exact ⟨_, _, _, _, rfl, by omega, by omega, by omega, by omega, RF, GF⟩
/-- What is drawn: a table, a number of ports, and two numbers. -/
def TabH (w w' : World) (e : Ending) : Prop := ∃ A' n' c' ts ports x y, e = .returned (.tuple #[.slice A' n' c', .int .i64 ports, .int .i64 x, .int .i64 y]) ∧ Lies w' w.heap.size A' n' (ints .i64 ts) ∧ Tiny ts ∧ n' ≤ 15 ∧ (0 ≤ ports ∧ ports ≤ 7) ∧ (-1 ≤ x ∧ x ≤ 16) ∧ (-1 ≤ y ∧ y ≤ 7) ∧ Below w.heap.size w w'
/-- What is drawn: a table and a number of ports. -/
def TabO (w w' : World) (e : Ending) : Prop := ∃ A' n' c' ts ports, e = .returned (.tuple #[.slice A' n' c', .int .i64 ports]) ∧ Lies w' w.heap.size A' n' (ints .i64 ts) ∧ Tiny ts ∧ n' ≤ 15 ∧ (0 ≤ ports ∧ ports ≤ 7) ∧ Below w.heap.size w w'
theorem results_tmp4 {fn : Func} {t u v x : Tmp} (h : fn.results = #[.tmp t, .tmp u, .tmp v, .tmp x]) (tmps : Array Value) (P : Program) (w : World) :
    (results fn tmps).run P w = .ok (.tuple #[tmps.getD t undef, tmps.getD u undef, tmps.getD v undef, tmps.getD x undef]) w := by
  simp [results, h]
/-- What is drawn: a table, a number of ports, and a frame. -/
def TabF (w w' : World) (e : Ending) : Prop := ∃ A' n' c' ts ports f t q, e = .returned (.tuple #[.slice A' n' c', .int .i64 ports, .agg #[.int .i64 f, .int .i64 t, .int .i64 q]]) ∧ Lies w' w.heap.size A' n' (ints .i64 ts) ∧ Tiny ts ∧ n' ≤ 15 ∧ (0 ≤ ports ∧ ports ≤ 7) ∧ (-1 ≤ f ∧ f ≤ 15) ∧ (-1 ≤ t ∧ t ≤ 16) ∧ (-1 ≤ q ∧ q ≤ 7) ∧ Below w.heap.size w w'
end Go.Proofs.Ytimddobedgopiaa
