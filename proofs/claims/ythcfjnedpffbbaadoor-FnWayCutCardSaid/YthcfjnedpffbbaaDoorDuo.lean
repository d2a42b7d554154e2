/-
  A struct of two integers in a block of its own: how it is read, written and kept. Statements about any world, no condition.
-/
import Derived.Test.YthcfjnedpffbbaaDoorBase
import Derived.Laws.ResultCell
import Derived.Deep.RegionHeld3
namespace Go.Proofs.YthcfjnedpffbbaaDoor
open Go.RowKit

theorem below_alloc16 (w : World) (o : Obj) : Below w.heap.size w (w.alloc o) := (Below.refl _ _).alloc (Nat.le_refl _) _
def Duo2 (w : World) (B : Nat) (e : TypeId) (x y : Int) : Prop := w.heap[B]? = some (.cells #[.int .i64 x, .int .i64 y] e (0, 0))
section
variable {w w' : World} {B : Nat} {e : TypeId} {x y : Int}
theorem Duo2.lt (h : Duo2 w B e x y) : B < w.heap.size := (Array.getElem?_eq_some_iff.1 h).1
theorem Duo2.cells (h : Duo2 w B e x y) : w.cell? ⟨B, 0, none⟩ = some (.int .i64 x) ∧ w.cell? ⟨B, 1, none⟩ = some (.int .i64 y) :=
  ⟨cell_of_row w B 0 _ _ _ h, cell_of_row w B 1 _ _ _ h⟩
theorem Duo2.open_ (h : Duo2 w B e x y) (i : Nat) : w.frozen? ⟨B, i, none⟩ = false := frozen_of_row w B i _ _ h
theorem Duo2.put (h : Duo2 w B e x y) (a b : Int) : Duo2 ((w.setCell ⟨B, 0, none⟩ (.int .i64 a)).setCell ⟨B, 1, none⟩ (.int .i64 b)) B e a b :=
  (heap_setCell_same _ B 1 _ _ _ ((heap_setCell_same w B 0 _ _ _ h).trans rfl)).trans rfl
theorem Duo2.bel (h : Duo2 w B e x y) (hb : Below w.heap.size w w') : Duo2 w' B e x y := (hb.block B h.lt).trans h
theorem Duo2.grown {row : Option Nat} (h : Duo2 w B e x y) (hg : w.grownBy w' row) (hne : row ≠ some B) : Duo2 w' B e x y := (hg.block B h.lt (fun e => hne e.symm)).trans h
end
theorem duo2_alloc (w : World) (e : TypeId) (x y : Int) : Duo2 (w.alloc (.cells #[.int .i64 x, .int .i64 y] e)) w.heap.size e x y := heap_alloc_new w _
theorem put_below2 {w w' : World} {B R : Nat} (h : Below B w w') (hR : B ≤ R) (a b : Value) : Below B w ((w'.setCell ⟨R, 0, none⟩ a).setCell ⟨R, 1, none⟩ b) := (h.setCell hR _).setCell hR _
theorem Duo2.belD {w w' : World} {B : Nat} {e : TypeId} {x y : Int} (h : Duo2 w B e x y) (hb : Below w.drew.heap.size w.drew w') : Duo2 w' B e x y := (hb.block B h.lt).trans h
theorem bel_ofdrew {w w' : World} (hb : Below w.drew.heap.size w.drew w') : Below w.heap.size w w' := ((Below.refl w.heap.size w).drew).trans hb
theorem two_grown16 (w : World) (B : Nat) (a b : Value) : w.grownBy ((w.setCell ⟨B, 0, none⟩ a).setCell ⟨B, 1, none⟩ b) (some B) :=
  grown_set (grown_set ⟨rfl, rfl, rfl, Nat.le_refl _, fun _ _ _ => rfl⟩ 0 a) 1 b
theorem Duo2.past {w : World} {B R : Nat} {e : TypeId} {x y : Int} (h : Duo2 w B e x y) (hne : R ≠ B) (a b : Value) : Duo2 ((w.setCell ⟨R, 0, none⟩ a).setCell ⟨R, 1, none⟩ b) B e x y :=
  h.grown (two_grown16 w R a b) (fun hh => hne (by injection hh))
theorem Duo2.apart {w : World} {B C : Nat} {e e' : TypeId} {x y x' y' : Int} (h : Duo2 w B e x y) (k : Duo2 w C e' x' y') (he : e ≠ e') : B ≠ C := by
  rintro rfl
  have := h.symm.trans k
  simp at this
  exact he this.2
theorem ret_duo2 {x y x' y' : Int} (h : x = x') (h2 : y = y') : Ending.returned (.agg #[.int .i64 x, .int .i64 y]) = .returned (.agg #[.int .i64 x', .int .i64 y']) := by rw [h, h2]
end Go.Proofs.YthcfjnedpffbbaaDoor
