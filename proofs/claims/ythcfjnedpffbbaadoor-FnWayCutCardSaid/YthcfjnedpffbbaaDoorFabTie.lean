/-
  The table of steps: what is proved here is that it lies in the world as the program's text lays it (tied). No condition.
-/
import Derived.Test.YthcfjnedpffbbaaDoorImp16b
import Derived.Test.YthcfjnedpffbbaaDoorRows
import Derived.Lib.LaidTab
import Derived.ChangeSame
namespace Go.Proofs.YthcfjnedpffbbaaDoor
open Go.RowKit Go.ChangeShapes

theorem row_of_var16 {P : Program} {W : World} {name : String} {g : Nat} {cs : Array Value} (hg : P.globalNamed name = some g) (h : W.var? P name = some cs) : ∃ t fr, W.heap[g]? = some (.cells cs t fr) := by
  unfold World.var? at h
  rw [hg] at h
  simp only [Option.bind_some] at h
  cases hh : W.heap[g]? with
  | none => rw [hh] at h; cases h
  | some o =>
    rw [hh] at h
    cases o with
    | cells c t fr => simp only [Option.some.injEq] at h; subst h; exact ⟨t, fr, rfl⟩
    | _ => cases h
set_option maxRecDepth 100000 in
theorem spot_cells {H : Type} {enc : TypeId × Value → H} {w : World} {base : Nat} {sp : Nat → Bool} {held : Bool} {fuel : Nat} {l : List Value} {a b : Int} {p : List MemPlace}
    (h : DataW.trod enc Tryd.prog w base sp held fuel 54 l = some (.agg [.lit (.int .i64 a), .lit (.int .i64 b)], p)) : l = [.int .i64 a, .int .i64 b] := by
  obtain ⟨y0, y1, n, hx, hl, h0, h1⟩ := trod_struct2 Tryd.underlying54 h
  obtain ⟨a', e0, f0, _⟩ := DataW.trod_int Tryd.underlying3 h0
  obtain ⟨b', e1, f1, _⟩ := DataW.trod_int Tryd.underlying3 h1
  have c54 : Tryd.prog.cellsOf 54 = 2 := by kernel_rfl
  have c3 : Tryd.prog.cellsOf 3 = 1 := by kernel_rfl
  have hl := hl.trans c54
  simp only [c3] at e0 e1
  injection hx with hx1 hx2
  rw [f0, f1] at hx1
  simp at hx1
  obtain ⟨rfl, rfl⟩ := hx1
  match l, hl with
  | [u, v], _ =>
    simp at e0 e1
    rw [e0, e1]
set_option maxRecDepth 100000 in
theorem steps_of {W : World} {rest : List (String × DataW Unit)} (h : laidMet Tryd.prog (("loop.example/wholenet/impl.wireSteps", Rows.laid_loop_example_wholenet_impl_wireSteps) :: rest) W) : StepsIn W := by
  obtain ⟨ps, ⟨g', t', cs, fuel, p, q, hg', ht', hvar, hd, _, _⟩, _⟩ := h
  have hgg : Tryd.prog.globalNamed "loop.example/wholenet/impl.wireSteps" = some 0 := by kernel_rfl
  have htt : (Tryd.prog.globals[0]?).map (·.type) = some 98 := by kernel_rfl
  obtain rfl := Option.some.inj (hgg.symm.trans hg')
  obtain rfl := Option.some.inj (htt.symm.trans ht')
  refine row_of_var16 (cs := stepCells) hgg (hvar.trans ?_)
  obtain ⟨xs, m, rfl, hx, hl, hxl, hf⟩ := DataW.trod_array Tryd.underlying98 hd
  have c98 : Tryd.prog.cellsOf 98 = 8 := by kernel_rfl
  have c54 : Tryd.prog.cellsOf 54 = 2 := by kernel_rfl
  have hl := hl.trans c98
  simp only [c54] at hf
  injection hx with hx1 _
  unfold Rows.laid_loop_example_wholenet_impl_wireSteps at hx1
  match xs, hxl with
  | [x0, x1, x2, x3], _ =>
    simp only [List.map_cons, List.map_nil, DataW.agg.injEq, List.cons.injEq, and_true] at hx1
    obtain ⟨e0, e1, e2, e3⟩ := hx1
    have g0 := spot_cells (p := x0.2) ((hf 0 (by omega)).trans (by rw [e0]; rfl))
    have g1 := spot_cells (p := x1.2) ((hf 1 (by omega)).trans (by rw [e1]; rfl))
    have g2 := spot_cells (p := x2.2) ((hf 2 (by omega)).trans (by rw [e2]; rfl))
    have g3 := spot_cells (p := x3.2) ((hf 3 (by omega)).trans (by rw [e3]; rfl))
    cases cs with
    | mk l =>
      match l, hl with
      | [y0, y1, y2, y3, y4, y5, y6, y7], _ =>
        simp at g0 g1 g2 g3
        obtain ⟨rfl, rfl⟩ := g0
        obtain ⟨rfl, rfl⟩ := g1
        obtain ⟨rfl, rfl⟩ := g2
        obtain ⟨rfl, rfl⟩ := g3
        rfl
end Go.Proofs.YthcfjnedpffbbaaDoor
