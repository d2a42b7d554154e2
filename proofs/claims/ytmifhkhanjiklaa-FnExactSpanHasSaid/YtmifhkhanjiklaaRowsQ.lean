/-
  Rows of four ints in a slice: what is proved here is how they are read, made, appended to and stored. No condition.
-/
import Derived.Test.YtmifhkhanjiklaaMathTime
import Derived.Test.YtmifhkhanjiklaaRowsD
import Derived.Laws.ResultCell
import Derived.Deep.RegionHeld3
namespace Go.Proofs.Ytmifhkhanjiklaa
open Go.RowKit

theorem below_allocQ (w : World) (o : Obj) : Below w.heap.size w (w.alloc o) := (Below.refl _ _).alloc (Nat.le_refl _) _
/-- The slice at A with n rows of four reads as hs. -/
def HasQ (w : World) (A : Option Addr) (n : Nat) (hs : List Quad) : Prop :=
  hs.length = n ∧ ∀ i, i < n → ∃ b o h, A = some ⟨b, o, none⟩ ∧ hs[i]? = some h ∧ w.cell? ⟨b, o + i * 4, none⟩ = some (.int .i64 h.1) ∧ w.cell? ⟨b, o + i * 4 + 1, none⟩ = some (.int .i64 h.2.1) ∧ w.cell? ⟨b, o + i * 4 + 2, none⟩ = some (.int .i64 h.2.2.1) ∧ w.cell? ⟨b, o + i * 4 + 3, none⟩ = some (.int .i64 h.2.2.2)
theorem HasQ.bel {w w' : World} {A : Option Addr} {n : Nat} {hs : List Quad} (h : HasQ w A n hs) (hb : Below w.heap.size w w') : HasQ w' A n hs :=
  ⟨h.1, fun i hi => by
    obtain ⟨b, o, x, hA, hx, c0, c1, c2, c3⟩ := h.2 i hi
    have hlt : b < w.heap.size := World.block_lt_of_cell? w ⟨b, o + i * 4, none⟩ c0
    exact ⟨b, o, x, hA, hx, (hb.cell (p := ⟨b, o + i * 4, none⟩) hlt).trans c0, (hb.cell (p := ⟨b, o + i * 4 + 1, none⟩) hlt).trans c1, (hb.cell (p := ⟨b, o + i * 4 + 2, none⟩) hlt).trans c2, (hb.cell (p := ⟨b, o + i * 4 + 3, none⟩) hlt).trans c3⟩⟩
theorem HasQ.at_ {w : World} {A : Option Addr} {n : Nat} {hs : List Quad} (h : HasQ w A n hs) {i : Nat} (hi : i < n) :
    ∃ b o f t q u, A = some ⟨b, o, none⟩ ∧ b < w.heap.size ∧ hs[i]? = some (f, t, q, u) ∧ w.cell? ⟨b, o + i * 4, none⟩ = some (.int .i64 f) ∧ w.cell? ⟨b, o + i * 4 + 1, none⟩ = some (.int .i64 t) ∧ w.cell? ⟨b, o + i * 4 + 2, none⟩ = some (.int .i64 q) ∧ w.cell? ⟨b, o + i * 4 + 3, none⟩ = some (.int .i64 u) := by
  obtain ⟨b, o, ⟨f, t, q, u⟩, hA, hx, c0, c1, c2, c3⟩ := h.2 i hi
  exact ⟨b, o, f, t, q, u, hA, World.block_lt_of_cell? w ⟨b, o + i * 4, none⟩ c0, hx, c0, c1, c2, c3⟩
theorem HasQ.row {w : World} {A : Option Addr} {n : Nat} {hs : List Quad} (h : HasQ w A n hs) {i : Nat} (hi : i < n) :
    ∃ b o, A = some ⟨b, o, none⟩ ∧ b < w.heap.size ∧ w.cell? ⟨b, o + i * 4, none⟩ = some (.int .i64 (dq hs i).1) ∧ w.cell? ⟨b, o + i * 4 + 1, none⟩ = some (.int .i64 (dq hs i).2.1) ∧ w.cell? ⟨b, o + i * 4 + 2, none⟩ = some (.int .i64 (dq hs i).2.2.1) ∧ w.cell? ⟨b, o + i * 4 + 3, none⟩ = some (.int .i64 (dq hs i).2.2.2) := by
  obtain ⟨b, o, f, t, q, u, hA, hb, hx, c0, c1, c2, c3⟩ := h.at_ hi
  rw [dq_at hx]
  exact ⟨b, o, hA, hb, c0, c1, c2, c3⟩

theorem cells4Q {w : World} {B : Nat} {x y z u : Value} {t : TypeId} (h : w.heap[B]? = some (.cells #[x, y, z, u] t (0, 0))) :
    w.cell? ⟨B, 0, none⟩ = some x ∧ w.cell? ⟨B, 1, none⟩ = some y ∧ w.cell? ⟨B, 2, none⟩ = some z ∧ w.cell? ⟨B, 3, none⟩ = some u :=
  ⟨(cell_of_row w B 0 _ t (0, 0) h).trans rfl, (cell_of_row w B 1 _ t (0, 0) h).trans rfl, (cell_of_row w B 2 _ t (0, 0) h).trans rfl, (cell_of_row w B 3 _ t (0, 0) h).trans rfl⟩
def I64Q (hs : List Quad) : Prop := ∀ h ∈ hs, (-9223372036854775808 ≤ h.1 ∧ h.1 ≤ 9223372036854775807) ∧ (-9223372036854775808 ≤ h.2.1 ∧ h.2.1 ≤ 9223372036854775807) ∧ (-9223372036854775808 ≤ h.2.2.1 ∧ h.2.2.1 ≤ 9223372036854775807) ∧ (-9223372036854775808 ≤ h.2.2.2 ∧ h.2.2.2 ≤ 9223372036854775807)
def flatQ : List Quad → List Value
  | [] => []
  | h :: hs => .int .i64 h.1 :: .int .i64 h.2.1 :: .int .i64 h.2.2.1 :: .int .i64 h.2.2.2 :: flatQ hs
theorem flatQ_len (hs : List Quad) : (flatQ hs).length = hs.length * 4 := by
  induction hs with
  | nil => rfl
  | cons d ds ih => simp only [flatQ, List.length_cons, ih]; omega
theorem flatQ_app (a b : List Quad) : flatQ (a ++ b) = flatQ a ++ flatQ b := by
  induction a with
  | nil => rfl
  | cons d ds ih => simp [flatQ, ih]
theorem flatQ_at (hs : List Quad) (i : Nat) (h : Quad) (hi : hs[i]? = some h) : (flatQ hs)[i * 4]? = some (.int .i64 h.1) ∧ (flatQ hs)[i * 4 + 1]? = some (.int .i64 h.2.1) ∧ (flatQ hs)[i * 4 + 2]? = some (.int .i64 h.2.2.1) ∧ (flatQ hs)[i * 4 + 3]? = some (.int .i64 h.2.2.2) := by
  induction hs generalizing i with
  | nil => simp at hi
  | cons d ds ih =>
    cases i with
    | zero => simp at hi; subst hi; simp [flatQ]
    | succ i =>
      have := ih i (by simpa using hi)
      have e : (i + 1) * 4 = i * 4 + 1 + 1 + 1 + 1 := by omega
      rw [e]
      simpa [flatQ] using this
/-- A slice of rows of four that the call made. -/
def OwnQ (w : World) (lo : Nat) (e : TypeId) (A : Option Addr) (n c : Nat) (hs : List Quad) : Prop := w.ownsRow lo e 4 (.slice A n c) n (flatQ hs)
section
variable {w w' : World} {lo n c : Nat} {e : TypeId} {A : Option Addr} {hs : List Quad}
theorem OwnQ.len (h : OwnQ w lo e A n c hs) : hs.length = n := by have := h.1; rw [flatQ_len] at this; omega
theorem OwnQ.has (h : OwnQ w lo e A n c hs) : HasQ w A n hs := by
  have hl := h.len
  refine ⟨hl, fun i hi => ?_⟩
  obtain ⟨g, cap, hv, _, _⟩ := World.ownsRow.form h (by omega)
  injection hv with hA _ hcap
  subst hA hcap
  have hx : hs[i]? = some hs[i] := List.getElem?_eq_getElem (by omega)
  obtain ⟨e0, e1, e2, e3⟩ := flatQ_at hs i _ hx
  refine ⟨g, 0, hs[i], rfl, hx, ?_, ?_, ?_, ?_⟩
  · rw [Nat.zero_add]; exact (World.ownsRow.cellAt h _ (by omega)).trans e0
  · rw [Nat.zero_add]; exact (World.ownsRow.cellAt h _ (by omega)).trans e1
  · rw [Nat.zero_add]; exact (World.ownsRow.cellAt h _ (by omega)).trans e2
  · rw [Nat.zero_add]; exact (World.ownsRow.cellAt h _ (by omega)).trans e3
theorem OwnQ.cap (h : OwnQ w lo e A n c hs) : n ≤ c := by
  rcases h.2 with ⟨hv, h0⟩ | ⟨g, cap, cur, hv, _, _, hnc, _⟩
  · omega
  · cases hv; exact hnc
theorem OwnQ.mono {lo' : Nat} (h : OwnQ w lo e A n c hs) (hl : lo' ≤ lo) : OwnQ w lo' e A n c hs := by
  refine ⟨h.1, ?_⟩
  rcases h.2 with h' | ⟨g, cap, cur, hv, hb, r⟩
  · exact .inl h'
  · exact .inr ⟨g, cap, cur, hv, by omega, r⟩
theorem OwnQ.bel (h : OwnQ w lo e A n c hs) (hb : Below w.heap.size w w') : OwnQ w' lo e A n c hs :=
  World.ownsRow.kept h (grown_of_below hb) (by cases hA : (Value.slice A n c).ownBlock <;> simp)
end
theorem flatQ_set (hs : List Quad) (i : Nat) (h : Quad) : flatQ (hs.set i h) = ((((flatQ hs).set (i * 4) (.int .i64 h.1)).set (i * 4 + 1) (.int .i64 h.2.1)).set (i * 4 + 2) (.int .i64 h.2.2.1)).set (i * 4 + 3) (.int .i64 h.2.2.2) := by
  induction hs generalizing i with
  | nil => rfl
  | cons e ds ih =>
    cases i with
    | zero => simp [flatQ]
    | succ i =>
      have e1 : (i + 1) * 4 = i * 4 + 1 + 1 + 1 + 1 := by omega
      rw [e1]
      simp [flatQ, ih]
theorem flatQ_zeros (n : Nat) : flatQ (List.replicate n (0, 0, 0, 0)) = List.replicate (n * 4) (.int .i64 0) := by
  induction n with
  | zero => rfl
  | succ n ih =>
    rw [List.replicate_succ, flatQ, ih, show (n + 1) * 4 = n * 4 + 1 + 1 + 1 + 1 by omega, List.replicate_succ, List.replicate_succ, List.replicate_succ, List.replicate_succ]
theorem made_zerosQ (n : Nat) : (madeCells (Value.cells (.agg #[.int .i64 0, .int .i64 0, .int .i64 0, .int .i64 0])) (n * 4)).toList = flatQ (List.replicate n (0, 0, 0, 0)) := by
  rw [flatQ_zeros]
  apply List.ext_getElem?
  intro j
  by_cases hj : j < n * 4
  · have h3 : j % 4 = 0 ∨ j % 4 = 1 ∨ j % 4 = 2 ∨ j % 4 = 3 := by omega
    rcases h3 with h3 | h3 | h3 | h3 <;> simp [madeCells, hj, h3, Value.cells]
  · simp [madeCells, hj]
theorem OwnQ.put {w : World} {e : TypeId} {lo n c g : Nat} {hs : List Quad} (h : OwnQ w lo e (some ⟨g, 0, none⟩) n c hs) (i : Nat) (x : Quad) :
    OwnQ ((((w.setCell ⟨g, i * 4, none⟩ (.int .i64 x.1)).setCell ⟨g, i * 4 + 1, none⟩ (.int .i64 x.2.1)).setCell ⟨g, i * 4 + 2, none⟩ (.int .i64 x.2.2.1)).setCell ⟨g, i * 4 + 3, none⟩ (.int .i64 x.2.2.2)) lo e (some ⟨g, 0, none⟩) n c (hs.set i x) ∧
    w.grownBy ((((w.setCell ⟨g, i * 4, none⟩ (.int .i64 x.1)).setCell ⟨g, i * 4 + 1, none⟩ (.int .i64 x.2.1)).setCell ⟨g, i * 4 + 2, none⟩ (.int .i64 x.2.2.1)).setCell ⟨g, i * 4 + 3, none⟩ (.int .i64 x.2.2.2)) (some g) := by
  obtain ⟨q1, r1⟩ := World.ownsRow.stored h (i * 4) (.int .i64 x.1)
  obtain ⟨q2, r2⟩ := World.ownsRow.stored q1 (i * 4 + 1) (.int .i64 x.2.1)
  obtain ⟨q3, r3⟩ := World.ownsRow.stored q2 (i * 4 + 2) (.int .i64 x.2.2.1)
  obtain ⟨q4, r4⟩ := World.ownsRow.stored q3 (i * 4 + 3) (.int .i64 x.2.2.2)
  refine ⟨?_, gr_trans (gr_trans (gr_trans r1 r2) r3) r4⟩
  unfold OwnQ
  rw [flatQ_set]
  exact q4
theorem OwnQ.cells {w : World} {e : TypeId} {lo n c g i : Nat} {hs : List Quad} (h : OwnQ w lo e (some ⟨g, 0, none⟩) n c hs) (hi : i < n) :
    ∃ x : Quad, hs[i]? = some x ∧ w.cell? ⟨g, i * 4, none⟩ = some (.int .i64 x.1) ∧ w.cell? ⟨g, i * 4 + 1, none⟩ = some (.int .i64 x.2.1) ∧ w.cell? ⟨g, i * 4 + 2, none⟩ = some (.int .i64 x.2.2.1) ∧ w.cell? ⟨g, i * 4 + 3, none⟩ = some (.int .i64 x.2.2.2) := by
  have hl : hs.length = n := h.len
  have hx : hs[i]? = some hs[i] := List.getElem?_eq_getElem (by omega)
  obtain ⟨e0, e1, e2, e3⟩ := flatQ_at hs i _ hx
  exact ⟨_, hx, (World.ownsRow.cellAt h _ (by omega)).trans e0, (World.ownsRow.cellAt h _ (by omega)).trans e1, (World.ownsRow.cellAt h _ (by omega)).trans e2, (World.ownsRow.cellAt h _ (by omega)).trans e3⟩

/- A struct of four ints, and one of two, in a block of its own. -/
def QRow (w : World) (B : Nat) (e : TypeId) (x y z u : Int) : Prop := w.heap[B]? = some (.cells #[.int .i64 x, .int .i64 y, .int .i64 z, .int .i64 u] e (0, 0))
section
variable {w w' : World} {B : Nat} {e : TypeId} {x y z u : Int}
theorem QRow.lt (h : QRow w B e x y z u) : B < w.heap.size := (Array.getElem?_eq_some_iff.1 h).1
theorem QRow.cells (h : QRow w B e x y z u) : w.cell? ⟨B, 0, none⟩ = some (.int .i64 x) ∧ w.cell? ⟨B, 1, none⟩ = some (.int .i64 y) ∧ w.cell? ⟨B, 2, none⟩ = some (.int .i64 z) ∧ w.cell? ⟨B, 3, none⟩ = some (.int .i64 u) := cells4Q h
theorem QRow.open_ (h : QRow w B e x y z u) (i : Nat) : w.frozen? ⟨B, i, none⟩ = false := frozen_of_row w B i _ _ h
theorem QRow.put0 (h : QRow w B e x y z u) (v : Int) : QRow (w.setCell ⟨B, 0, none⟩ (.int .i64 v)) B e v y z u := (heap_setCell_same w B 0 _ _ _ h).trans rfl
theorem QRow.put1 (h : QRow w B e x y z u) (v : Int) : QRow (w.setCell ⟨B, 1, none⟩ (.int .i64 v)) B e x v z u := (heap_setCell_same w B 1 _ _ _ h).trans rfl
theorem QRow.put2 (h : QRow w B e x y z u) (v : Int) : QRow (w.setCell ⟨B, 2, none⟩ (.int .i64 v)) B e x y v u := (heap_setCell_same w B 2 _ _ _ h).trans rfl
theorem QRow.put3 (h : QRow w B e x y z u) (v : Int) : QRow (w.setCell ⟨B, 3, none⟩ (.int .i64 v)) B e x y z v := (heap_setCell_same w B 3 _ _ _ h).trans rfl
theorem QRow.put (h : QRow w B e x y z u) (a b c d : Int) : QRow ((((w.setCell ⟨B, 0, none⟩ (.int .i64 a)).setCell ⟨B, 1, none⟩ (.int .i64 b)).setCell ⟨B, 2, none⟩ (.int .i64 c)).setCell ⟨B, 3, none⟩ (.int .i64 d)) B e a b c d := (((h.put0 a).put1 b).put2 c).put3 d
theorem QRow.bel (h : QRow w B e x y z u) (hb : Below w.heap.size w w') : QRow w' B e x y z u := (hb.block B h.lt).trans h
theorem QRow.grown {row : Option Nat} (h : QRow w B e x y z u) (hg : w.grownBy w' row) (hne : row ≠ some B) : QRow w' B e x y z u := (hg.block B h.lt (fun e => hne e.symm)).trans h
end
theorem qRow_alloc (w : World) (e : TypeId) (x y z u : Int) : QRow (w.alloc (.cells #[.int .i64 x, .int .i64 y, .int .i64 z, .int .i64 u] e)) w.heap.size e x y z u := heap_alloc_new w _
theorem put_belowQ {w w' : World} {B R : Nat} (h : Below B w w') (hR : B ≤ R) (a b c d : Value) : Below B w ((((w'.setCell ⟨R, 0, none⟩ a).setCell ⟨R, 1, none⟩ b).setCell ⟨R, 2, none⟩ c).setCell ⟨R, 3, none⟩ d) :=
  (((h.setCell hR _).setCell hR _).setCell hR _).setCell hR _
def DRow (w : World) (B : Nat) (e : TypeId) (x y : Int) : Prop := w.heap[B]? = some (.cells #[.int .i64 x, .int .i64 y] e (0, 0))
section
variable {w w' : World} {B : Nat} {e : TypeId} {x y : Int}
theorem DRow.lt (h : DRow w B e x y) : B < w.heap.size := (Array.getElem?_eq_some_iff.1 h).1
theorem DRow.cells (h : DRow w B e x y) : w.cell? ⟨B, 0, none⟩ = some (.int .i64 x) ∧ w.cell? ⟨B, 1, none⟩ = some (.int .i64 y) := cells2D h
theorem DRow.open_ (h : DRow w B e x y) (i : Nat) : w.frozen? ⟨B, i, none⟩ = false := frozen_of_row w B i _ _ h
theorem DRow.put0 (h : DRow w B e x y) (v : Int) : DRow (w.setCell ⟨B, 0, none⟩ (.int .i64 v)) B e v y := (heap_setCell_same w B 0 _ _ _ h).trans rfl
theorem DRow.put1 (h : DRow w B e x y) (v : Int) : DRow (w.setCell ⟨B, 1, none⟩ (.int .i64 v)) B e x v := (heap_setCell_same w B 1 _ _ _ h).trans rfl
theorem DRow.put (h : DRow w B e x y) (a b : Int) : DRow ((w.setCell ⟨B, 0, none⟩ (.int .i64 a)).setCell ⟨B, 1, none⟩ (.int .i64 b)) B e a b := (h.put0 a).put1 b
theorem DRow.bel (h : DRow w B e x y) (hb : Below w.heap.size w w') : DRow w' B e x y := (hb.block B h.lt).trans h
theorem DRow.grown {row : Option Nat} (h : DRow w B e x y) (hg : w.grownBy w' row) (hne : row ≠ some B) : DRow w' B e x y := (hg.block B h.lt (fun e => hne e.symm)).trans h
end
theorem dRow_alloc (w : World) (e : TypeId) (x y : Int) : DRow (w.alloc (.cells #[.int .i64 x, .int .i64 y] e)) w.heap.size e x y := heap_alloc_new w _
theorem put_belowD {w w' : World} {B R : Nat} (h : Below B w w') (hR : B ≤ R) (a b : Value) : Below B w ((w'.setCell ⟨R, 0, none⟩ a).setCell ⟨R, 1, none⟩ b) := (h.setCell hR _).setCell hR _
/-- A variable's struct and a value behind it, as results. -/
theorem results_row_tmpQ {P : Program} {fn : Func} {p u : Tmp} {ty : TypeId} (h : fn.results = #[.cell p ty, .tmp u]) (tmps : Array Value) (w : World) (g : Nat) (t : TypeId) (cs : Array Value) (fr : Nat × Nat) (d : TypeDesc)
    (hp : tmps.getD p undef = .pointer (some ⟨g, 0, none⟩)) (hg : w.heap[g]? = some (.cells cs t fr))
    (hu : P.underlying ty = some d) (hd : (match d with | .struct _ | .array _ _ => true | _ => false) = true) (hi : (P.info? ty).map (·.size) = some cs.size) :
    (results fn tmps).run P w = .ok (.tuple #[.agg cs, tmps.getD u undef]) w := by
  rw [results_cell_tmp h]
  have hp' : tmps[p]?.getD undef = .pointer (some ⟨g, 0, none⟩) := by simpa using hp
  simp [hp', asAddr, run_loadVar_row w g t ty cs fr d hg hu hd hi, Result.andThen]
theorem far2Q {w : World} {R B j : Nat} {a b v : Value} (h : R ≠ B) (hc : w.cell? ⟨B, j, none⟩ = some v) : ((w.setCell ⟨R, 0, none⟩ a).setCell ⟨R, 1, none⟩ b).cell? ⟨B, j, none⟩ = some v := by
  rw [World.cell?_setCell_far _ ⟨R, 1, none⟩ ⟨B, j, none⟩ _ h, World.cell?_setCell_far _ ⟨R, 0, none⟩ ⟨B, j, none⟩ _ h]
  exact hc
theorem ret_quad {x y z u x' y' z' u' : Int} {ok ok' : Bool} (h : (x, y, z, u) = (x', y', z', u')) (h2 : ok = ok') : Ending.returned (.tuple #[.agg #[.int .i64 x, .int .i64 y, .int .i64 z, .int .i64 u], .bool ok]) = .returned (.tuple #[.agg #[.int .i64 x', .int .i64 y', .int .i64 z', .int .i64 u'], .bool ok']) := by
  injection h with h h3
  injection h3 with h3 h4
  injection h4 with h4 h5
  rw [h, h3, h4, h5, h2]
theorem ret_duo {x y x' y' : Int} {ok ok' : Bool} (h : (x, y) = (x', y')) (h2 : ok = ok') : Ending.returned (.tuple #[.agg #[.int .i64 x, .int .i64 y], .bool ok]) = .returned (.tuple #[.agg #[.int .i64 x', .int .i64 y'], .bool ok']) := by
  injection h with h h3
  rw [h, h3, h2]

open Go.ChangeShapes Go.WideShapes Go.ChangeAt Go.Deep in
/-- Rows of four that came in. -/
theorem hasQ_of_trod {H : Type} {enc : TypeId × Value → H} {P : Program} {W : World} {base : Nat} {spare : Nat → Bool} {held : Bool} {t e : TypeId} {f0 f1 f2 f3 : Field} {A : Option Addr} {n c : Nat} {d : DataW H} {p : List MemPlace}
    (ht : P.underlying t = some (.slice e)) (he : P.underlying e = some (.struct #[f0, f1, f2, f3])) (hC : P.cellsOf e = 4) (hone : oneCellFields P #[f0, f1, f2, f3] = true)
    (h0 : P.underlying f0.type = some (.int .i64)) (h1 : P.underlying f1.type = some (.int .i64)) (h2 : P.underlying f2.type = some (.int .i64)) (h3 : P.underlying f3.type = some (.int .i64)) (h : DataW.Trod enc P W base spare held t (.slice A n c) d p) :
    ∃ hs, HasQ W A n hs ∧ I64Q hs ∧ n ≤ c ∧ c ≤ maxLen := by
  obtain ⟨fuel, hf⟩ := h
  obtain ⟨o0, k0⟩ := hone_of hone 0 f0 rfl
  obtain ⟨o1, k1⟩ := hone_of hone 1 f1 rfl
  obtain ⟨o2, k2⟩ := hone_of hone 2 f2 rfl
  obtain ⟨o3, k3⟩ := hone_of hone 3 f3 rfl
  rcases open_slice ht hf with ⟨hcs, _⟩ | ⟨x, l, c', m, n', D, Pl, hcs, _, hl, hm, hmm, _, hi⟩
  · simp [Value.cells] at hcs
    obtain ⟨rfl, rfl, rfl⟩ := hcs
    exact ⟨[], ⟨rfl, fun i hi => absurd hi (by omega)⟩, (fun h hh => by cases hh), by simp, by simp⟩
  · simp [Value.cells] at hcs
    obtain ⟨rfl, rfl, rfl⟩ := hcs
    have hnm : n ≤ m := by rw [hmm]; split <;> omega
    have key : ∀ i, i < n → ∃ a b u v : Int, W.cell? (x.add (i * 4 + 0)) = some (.int .i64 a) ∧ W.cell? (x.add (i * 4 + 1)) = some (.int .i64 b) ∧ W.cell? (x.add (i * 4 + 2)) = some (.int .i64 u) ∧ W.cell? (x.add (i * 4 + 3)) = some (.int .i64 v) ∧ (Lit.int .i64 a).wf = true ∧ (Lit.int .i64 b).wf = true ∧ (Lit.int .i64 u).wf = true ∧ (Lit.int .i64 v).wf = true := fun i hin => by
      obtain ⟨cs', hc, ht'⟩ := hi i (by omega)
      rw [hC] at hc
      obtain ⟨_, hcl, hat⟩ := World.cells?_some hc
      obtain ⟨y0, y1, y2, y3, q, _, _, t0, t1, t2, t3⟩ := Go.Joins.trod_struct4 he ht'
      rw [o0, k0] at t0
      rw [o1, k1] at t1
      rw [o2, k2] at t2
      rw [o3, k3] at t3
      obtain ⟨a, ea, _, wa⟩ := DataW.trod_int h0 t0
      obtain ⟨b, eb, _, wb⟩ := DataW.trod_int h1 t1
      obtain ⟨u, eu, _, wu⟩ := DataW.trod_int h2 t2
      obtain ⟨v, ev, _, wv⟩ := DataW.trod_int h3 t3
      have g : ∀ j v, (cs'.drop j).take 1 = [v] → cs'[j]? = some v := fun j v e => by
        have h3 : ((cs'.drop j).take 1)[0]? = some v := by rw [e]; rfl
        simpa using h3
      refine ⟨a, b, u, v, ?_, ?_, ?_, ?_, wa, wb, wu, wv⟩
      · rw [← Go.Deep.add_add, hat 0 (by omega)]; exact g 0 _ ea
      · rw [← Go.Deep.add_add, hat 1 (by omega)]; exact g 1 _ eb
      · rw [← Go.Deep.add_add, hat 2 (by omega)]; exact g 2 _ eu
      · rw [← Go.Deep.add_add, hat 3 (by omega)]; exact g 3 _ ev
    have key2 : ∀ i : Nat, ∃ h3 : Quad, i < n → W.cell? (x.add (i * 4 + 0)) = some (.int .i64 h3.1) ∧ W.cell? (x.add (i * 4 + 1)) = some (.int .i64 h3.2.1) ∧ W.cell? (x.add (i * 4 + 2)) = some (.int .i64 h3.2.2.1) ∧ W.cell? (x.add (i * 4 + 3)) = some (.int .i64 h3.2.2.2) ∧ (Lit.int .i64 h3.1).wf = true ∧ (Lit.int .i64 h3.2.1).wf = true ∧ (Lit.int .i64 h3.2.2.1).wf = true ∧ (Lit.int .i64 h3.2.2.2).wf = true := fun i => by
      by_cases hin : i < n
      · obtain ⟨a, b, u, v, r⟩ := key i hin
        exact ⟨(a, b, u, v), fun _ => r⟩
      · exact ⟨(0, 0, 0, 0), fun hh => absurd hh hin⟩
    obtain ⟨F, hF⟩ := Classical.axiomOfChoice key2
    refine ⟨(List.range n).map F, ⟨by simp, fun i hin => ?_⟩, fun h3 hh => ?_, hl, hm⟩
    · obtain ⟨c0, c1, c2, c3, _⟩ := hF i hin
      obtain ⟨b, off, spot⟩ := x
      have hspot : spot = none := by
        have c00 := (hF 0 (by omega)).1
        simpa [Addr.add] using World.cell?_spot c00
      subst hspot
      have hadd : ∀ k, (⟨b, off, none⟩ : Addr).add k = ⟨b, off + k, none⟩ := fun k => by unfold Addr.add; split <;> simp_all
      rw [hadd] at c0 c1 c2 c3
      exact ⟨b, off, F i, rfl, by simp [hin], by simpa using c0, by rw [show off + i * 4 + 1 = off + (i * 4 + 1) by omega]; exact c1, by rw [show off + i * 4 + 2 = off + (i * 4 + 2) by omega]; exact c2, by rw [show off + i * 4 + 3 = off + (i * 4 + 3) by omega]; exact c3⟩
    · simp only [List.mem_map, List.mem_range] at hh
      obtain ⟨i, hin, rfl⟩ := hh
      obtain ⟨_, _, _, _, w0, w1, w2, w3⟩ := hF i hin
      exact ⟨i64_of_wf w0, i64_of_wf w1, i64_of_wf w2, i64_of_wf w3⟩
end Go.Proofs.Ytmifhkhanjiklaa
