/-
  What came of stations on a wire, as a row in memory: what is proved here is how it is read and written. No condition.
-/
import Derived.Test.YtpciaokafokfmaaTalkA
import Derived.Test.YtpciaokafokfmaaRowsK
import Derived.Laws.ResultCell
namespace Go.Proofs.Ytpciaokafokfmaa
open Go.RowKit

/-- The block R holds what came of stations. -/
def RunRow (w : World) (R : Nat) (A : Option Addr) (n c : Nat) (h s : Int) (d : Bool) : Prop := w.heap[R]? = some (.cells #[.slice A n c, .int .i64 h, .int .i64 s, .bool d] 27 (0, 0))
section
variable {w : World} {R n c : Nat} {A : Option Addr} {h s : Int} {d : Bool}
theorem RunRow.lt (k : RunRow w R A n c h s d) : R < w.heap.size := (Array.getElem?_eq_some_iff.1 k).1
theorem RunRow.cells (k : RunRow w R A n c h s d) : w.cell? ⟨R, 0, none⟩ = some (.slice A n c) ∧ w.cell? ⟨R, 1, none⟩ = some (.int .i64 h) ∧ w.cell? ⟨R, 2, none⟩ = some (.int .i64 s) ∧ w.cell? ⟨R, 3, none⟩ = some (.bool d) :=
  ⟨(cell_of_row w R 0 _ _ (0, 0) k).trans rfl, (cell_of_row w R 1 _ _ (0, 0) k).trans rfl, (cell_of_row w R 2 _ _ (0, 0) k).trans rfl, (cell_of_row w R 3 _ _ (0, 0) k).trans rfl⟩
theorem RunRow.open_ (k : RunRow w R A n c h s d) (i : Nat) : w.frozen? ⟨R, i, none⟩ = false := frozen_of_row w R i _ _ k
theorem RunRow.order (k : RunRow w R A n c h s d) (A' : Option Addr) (n' c' : Nat) : RunRow (w.setCell ⟨R, 0, none⟩ (.slice A' n' c')) R A' n' c' h s d := (heap_setCell_same w R 0 _ _ _ k).trans rfl
theorem RunRow.hits (k : RunRow w R A n c h s d) (x : Int) : RunRow (w.setCell ⟨R, 1, none⟩ (.int .i64 x)) R A n c x s d := (heap_setCell_same w R 1 _ _ _ k).trans rfl
theorem RunRow.slots (k : RunRow w R A n c h s d) (x : Int) : RunRow (w.setCell ⟨R, 2, none⟩ (.int .i64 x)) R A n c h x d := (heap_setCell_same w R 2 _ _ _ k).trans rfl
theorem RunRow.done (k : RunRow w R A n c h s d) (x : Bool) : RunRow (w.setCell ⟨R, 3, none⟩ (.bool x)) R A n c h s x := (heap_setCell_same w R 3 _ _ _ k).trans rfl
theorem RunRow.put (k : RunRow w R A n c h s d) (A' : Option Addr) (n' c' : Nat) (h' s' : Int) (d' : Bool) : RunRow ((((w.setCell ⟨R, 0, none⟩ (.slice A' n' c')).setCell ⟨R, 1, none⟩ (.int .i64 h')).setCell ⟨R, 2, none⟩ (.int .i64 s')).setCell ⟨R, 3, none⟩ (.bool d')) R A' n' c' h' s' d' := (((k.order A' n' c').hits h').slots s').done d'
theorem RunRow.bel {w' : World} (k : RunRow w R A n c h s d) (hb : Below w.heap.size w w') : RunRow w' R A n c h s d := (hb.block R k.lt).trans k
theorem RunRow.grown {w' : World} {row : Option Nat} (k : RunRow w R A n c h s d) (hg : w.grownBy w' row) (hne : row ≠ some R) : RunRow w' R A n c h s d := (hg.block R k.lt (fun e => hne e.symm)).trans k
end
theorem one_grown9 (w : World) (B k : Nat) (v : Value) : w.grownBy (w.setCell ⟨B, k, none⟩ v) (some B) :=
  ⟨rfl, rfl, rfl, by simp, fun i _ hi => heap_setCell_other w ⟨B, k, none⟩ i v (fun e => hi (by simp [e]))⟩
/-- A row of ints is no block of another type. -/
theorem own_not9 {W : World} {lo n c B : Nat} {A : Option Addr} {xs : List Value} {fz : Nat × Nat} {t : TypeId} {cs : Array Value} (h : Own W lo 3 A n c xs) (hB : W.heap[B]? = some (.cells cs t fz)) (ht : t ≠ 3) : A.map (·.block) ≠ some B := by
  intro e
  cases A with
  | none => cases e
  | some a =>
    have e2 : a.block = B := by simpa using e
    rcases h.2 with ⟨hv, _⟩ | ⟨g, cap, cur, hv, _, hgb, _⟩
    · cases hv
    · injection hv with hA _ _
      injection hA with hA
      subst hA
      have : g = B := e2
      subst this
      rw [hB] at hgb
      injection hgb with hgb
      injection hgb with _ ht2
      exact ht ht2
theorem own_run {W : World} {lo n c R q d : Nat} {A O : Option Addr} {xs : List Value} {h s : Int} {b : Bool} (k : Own W lo 3 A n c xs) (r : RunRow W R O q d h s b) : A.map (·.block) ≠ some R := own_not9 k r (by decide)
theorem own_set {W : World} {lo n c R : Nat} {A : Option Addr} {xs : List Value} {t : TypeId} {cs : Array Value} {fz : Nat × Nat} (k : Own W lo 3 A n c xs) (r : W.heap[R]? = some (.cells cs t fz)) (ht : t ≠ 3) (i : Nat) (v : Value) : Own (W.setCell ⟨R, i, none⟩ v) lo 3 A n c xs :=
  k.grown (one_grown9 W R i v) (fun a ha e => own_not9 k r ht (by rw [ha]; exact e))
/-- What came of stations, as it is returned. -/
def RunR (w w' : World) (e : Ending) (os : List Int) (h s : Nat) (d ok : Bool) : Prop :=
  ∃ A n c, e = .returned (.tuple #[.agg #[.slice A n c, .int .i64 (h : Int), .int .i64 (s : Int), .bool d], .bool ok]) ∧ Own w' w.heap.size 3 A n c (ints .i64 os) ∧ Below w.heap.size w w'
/-- A variable's struct and a value behind it, as results. -/
theorem results_row_tmp {P : Program} {fn : Func} {p u : Tmp} {ty : TypeId} (h : fn.results = #[.cell p ty, .tmp u]) (tmps : Array Value) (w : World) (g : Nat) (t : TypeId) (cs : Array Value) (fr : Nat × Nat) (d : TypeDesc)
    (hp : tmps.getD p undef = .pointer (some ⟨g, 0, none⟩)) (hg : w.heap[g]? = some (.cells cs t fr))
    (hu : P.underlying ty = some d) (hd : (match d with | .struct _ | .array _ _ => true | _ => false) = true) (hi : (P.info? ty).map (·.size) = some cs.size) :
    (results fn tmps).run P w = .ok (.tuple #[.agg cs, tmps.getD u undef]) w := by
  rw [results_cell_tmp h]
  have hp' : tmps[p]?.getD undef = .pointer (some ⟨g, 0, none⟩) := by simpa using hp
  simp [hp', asAddr, run_loadVar_row w g t ty cs fr d hg hu hd hi, Result.andThen]
theorem ret_run {A : Option Addr} {n c : Nat} {h h' s s' : Int} {d d' ok ok' : Bool} (e1 : h = h') (e2 : s = s') (e3 : d = d') (e4 : ok = ok') : Ending.returned (.tuple #[.agg #[.slice A n c, .int .i64 h, .int .i64 s, .bool d], .bool ok]) = .returned (.tuple #[.agg #[.slice A n c, .int .i64 h', .int .i64 s', .bool d'], .bool ok']) := by rw [e1, e2, e3, e4]
end Go.Proofs.Ytpciaokafokfmaa
