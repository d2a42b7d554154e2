/-
  Rows of three ints in a slice: what is proved here is how they are read, made, appended to and stored. No condition.
-/
import Derived.Test.YtiokieancjigeaaDoorDraw1
import Derived.Deep.Slices
import Derived.Deep.Strs
import Derived.Deep.Fields
import Derived.Deep.AppendLies
import Derived.Lib.SmallJoins
namespace Go.Proofs.YtiokieancjigeaaDoor
open Go.RowKit

abbrev Tri := Int × Int × Int
/-- The slice at A with n rows of three reads as hs. -/
def HasK (w : World) (A : Option Addr) (n : Nat) (hs : List Tri) : Prop :=
  hs.length = n ∧ ∀ i, i < n → ∃ b o h, A = some ⟨b, o, none⟩ ∧ hs[i]? = some h ∧ w.cell? ⟨b, o + i * 3, none⟩ = some (.int .i64 h.1) ∧ w.cell? ⟨b, o + i * 3 + 1, none⟩ = some (.int .i64 h.2.1) ∧ w.cell? ⟨b, o + i * 3 + 2, none⟩ = some (.int .i64 h.2.2)
theorem HasK.bel {w w' : World} {A : Option Addr} {n : Nat} {hs : List Tri} (h : HasK w A n hs) (hb : Below w.heap.size w w') : HasK w' A n hs :=
  ⟨h.1, fun i hi => by
    obtain ⟨b, o, x, hA, hx, c0, c1, c2⟩ := h.2 i hi
    have hlt : b < w.heap.size := World.block_lt_of_cell? w ⟨b, o + i * 3, none⟩ c0
    exact ⟨b, o, x, hA, hx, (hb.cell (p := ⟨b, o + i * 3, none⟩) hlt).trans c0, (hb.cell (p := ⟨b, o + i * 3 + 1, none⟩) hlt).trans c1, (hb.cell (p := ⟨b, o + i * 3 + 2, none⟩) hlt).trans c2⟩⟩
theorem HasK.at_ {w : World} {A : Option Addr} {n : Nat} {hs : List Tri} (h : HasK w A n hs) {i : Nat} (hi : i < n) :
    ∃ b o f t q, A = some ⟨b, o, none⟩ ∧ b < w.heap.size ∧ hs[i]? = some (f, t, q) ∧ w.cell? ⟨b, o + i * 3, none⟩ = some (.int .i64 f) ∧ w.cell? ⟨b, o + i * 3 + 1, none⟩ = some (.int .i64 t) ∧ w.cell? ⟨b, o + i * 3 + 2, none⟩ = some (.int .i64 q) := by
  obtain ⟨b, o, ⟨f, t, q⟩, hA, hx, c0, c1, c2⟩ := h.2 i hi
  exact ⟨b, o, f, t, q, hA, World.block_lt_of_cell? w ⟨b, o + i * 3, none⟩ c0, hx, c0, c1, c2⟩

theorem cells3K {w : World} {B : Nat} {x y z : Value} {t : TypeId} (h : w.heap[B]? = some (.cells #[x, y, z] t (0, 0))) :
    w.cell? ⟨B, 0, none⟩ = some x ∧ w.cell? ⟨B, 1, none⟩ = some y ∧ w.cell? ⟨B, 2, none⟩ = some z :=
  ⟨(cell_of_row w B 0 _ t (0, 0) h).trans rfl, (cell_of_row w B 1 _ t (0, 0) h).trans rfl, (cell_of_row w B 2 _ t (0, 0) h).trans rfl⟩
def I64K (hs : List Tri) : Prop := ∀ h ∈ hs, (-9223372036854775808 ≤ h.1 ∧ h.1 ≤ 9223372036854775807) ∧ (-9223372036854775808 ≤ h.2.1 ∧ h.2.1 ≤ 9223372036854775807) ∧ (-9223372036854775808 ≤ h.2.2 ∧ h.2.2 ≤ 9223372036854775807)
def flatK : List Tri → List Value
  | [] => []
  | h :: hs => .int .i64 h.1 :: .int .i64 h.2.1 :: .int .i64 h.2.2 :: flatK hs
theorem flatK_len (hs : List Tri) : (flatK hs).length = hs.length * 3 := by
  induction hs with
  | nil => rfl
  | cons d ds ih => simp only [flatK, List.length_cons, ih]; omega
theorem flatK_app (a b : List Tri) : flatK (a ++ b) = flatK a ++ flatK b := by
  induction a with
  | nil => rfl
  | cons d ds ih => simp [flatK, ih]
theorem flatK_at (hs : List Tri) (i : Nat) (h : Tri) (hi : hs[i]? = some h) : (flatK hs)[i * 3]? = some (.int .i64 h.1) ∧ (flatK hs)[i * 3 + 1]? = some (.int .i64 h.2.1) ∧ (flatK hs)[i * 3 + 2]? = some (.int .i64 h.2.2) := by
  induction hs generalizing i with
  | nil => simp at hi
  | cons d ds ih =>
    cases i with
    | zero => simp at hi; subst hi; simp [flatK]
    | succ i =>
      have := ih i (by simpa using hi)
      have e : (i + 1) * 3 = i * 3 + 1 + 1 + 1 := by omega
      rw [e]
      simpa [flatK] using this
/-- A slice of rows of three that the call made. -/
def OwnK (w : World) (lo : Nat) (e : TypeId) (A : Option Addr) (n c : Nat) (hs : List Tri) : Prop := w.ownsRow lo e 3 (.slice A n c) n (flatK hs)
theorem OwnK.has {w : World} {lo n c : Nat} {e : TypeId} {A : Option Addr} {hs : List Tri} (h : OwnK w lo e A n c hs) : HasK w A n hs := by
  have hl : hs.length = n := by have := h.1; rw [flatK_len] at this; omega
  refine ⟨hl, fun i hi => ?_⟩
  obtain ⟨g, cap, hv, _, _⟩ := World.ownsRow.form h (by omega)
  injection hv with hA _ hcap
  subst hA hcap
  have hx : hs[i]? = some hs[i] := List.getElem?_eq_getElem (by omega)
  obtain ⟨e0, e1, e2⟩ := flatK_at hs i _ hx
  refine ⟨g, 0, hs[i], rfl, hx, ?_, ?_, ?_⟩
  · rw [Nat.zero_add]; exact (World.ownsRow.cellAt h _ (by omega)).trans e0
  · rw [Nat.zero_add]; exact (World.ownsRow.cellAt h _ (by omega)).trans e1
  · rw [Nat.zero_add]; exact (World.ownsRow.cellAt h _ (by omega)).trans e2
theorem OwnK.cap {w : World} {lo n c : Nat} {e : TypeId} {A : Option Addr} {hs : List Tri} (h : OwnK w lo e A n c hs) : n ≤ c := by
  rcases h.2 with ⟨hv, h0⟩ | ⟨g, cap, cur, hv, _, _, hnc, _⟩
  · omega
  · cases hv; exact hnc
theorem info_partsK {P : Program} {e : TypeId} {z : Value} {s b : Nat} (h : (P.info? e).map (fun i => (i.zero, i.size, i.bytes)) = some (some z, s, b)) : ∃ i, P.info? e = some i ∧ i.zero = some z ∧ i.size = s ∧ i.bytes = b := by
  cases hi : P.info? e with
  | none => rw [hi] at h; cases h
  | some i => rw [hi] at h; simp at h; exact ⟨i, rfl, h.1, h.2.1, h.2.2⟩
theorem flatK_set (hs : List Tri) (i : Nat) (h : Tri) : flatK (hs.set i h) = (((flatK hs).set (i * 3) (.int .i64 h.1)).set (i * 3 + 1) (.int .i64 h.2.1)).set (i * 3 + 2) (.int .i64 h.2.2) := by
  induction hs generalizing i with
  | nil => rfl
  | cons e ds ih =>
    cases i with
    | zero => simp [flatK]
    | succ i =>
      have e1 : (i + 1) * 3 = i * 3 + 1 + 1 + 1 := by omega
      rw [e1]
      simp [flatK, ih]
theorem flatK_zeros (n : Nat) : flatK (List.replicate n (0, 0, 0)) = List.replicate (n * 3) (.int .i64 0) := by
  induction n with
  | zero => rfl
  | succ n ih =>
    rw [List.replicate_succ, flatK, ih, show (n + 1) * 3 = n * 3 + 1 + 1 + 1 by omega, List.replicate_succ, List.replicate_succ, List.replicate_succ]
theorem made_zerosK (n : Nat) : (madeCells (Value.cells (.agg #[.int .i64 0, .int .i64 0, .int .i64 0])) (n * 3)).toList = flatK (List.replicate n (0, 0, 0)) := by
  rw [flatK_zeros]
  apply List.ext_getElem?
  intro j
  by_cases hj : j < n * 3
  · have h3 : j % 3 = 0 ∨ j % 3 = 1 ∨ j % 3 = 2 := by omega
    rcases h3 with h3 | h3 | h3 <;> simp [madeCells, hj, h3, Value.cells]
  · simp [madeCells, hj]
theorem OwnK.put {w : World} {e : TypeId} {lo n c g : Nat} {hs : List Tri} (h : OwnK w lo e (some ⟨g, 0, none⟩) n c hs) (i : Nat) (x : Tri) :
    OwnK (((w.setCell ⟨g, i * 3, none⟩ (.int .i64 x.1)).setCell ⟨g, i * 3 + 1, none⟩ (.int .i64 x.2.1)).setCell ⟨g, i * 3 + 2, none⟩ (.int .i64 x.2.2)) lo e (some ⟨g, 0, none⟩) n c (hs.set i x) ∧
    w.grownBy (((w.setCell ⟨g, i * 3, none⟩ (.int .i64 x.1)).setCell ⟨g, i * 3 + 1, none⟩ (.int .i64 x.2.1)).setCell ⟨g, i * 3 + 2, none⟩ (.int .i64 x.2.2)) (some g) := by
  obtain ⟨q1, r1⟩ := World.ownsRow.stored h (i * 3) (.int .i64 x.1)
  obtain ⟨q2, r2⟩ := World.ownsRow.stored q1 (i * 3 + 1) (.int .i64 x.2.1)
  obtain ⟨q3, r3⟩ := World.ownsRow.stored q2 (i * 3 + 2) (.int .i64 x.2.2)
  refine ⟨?_, gr_trans (gr_trans r1 r2) r3⟩
  unfold OwnK
  rw [flatK_set]
  exact q3
theorem OwnK.cells {w : World} {e : TypeId} {lo n c g i : Nat} {hs : List Tri} (h : OwnK w lo e (some ⟨g, 0, none⟩) n c hs) (hi : i < n) :
    ∃ x : Tri, w.cell? ⟨g, i * 3, none⟩ = some (.int .i64 x.1) ∧ w.cell? ⟨g, i * 3 + 1, none⟩ = some (.int .i64 x.2.1) ∧ w.cell? ⟨g, i * 3 + 2, none⟩ = some (.int .i64 x.2.2) := by
  have hl : hs.length = n := by have := h.1; rw [flatK_len] at this; omega
  obtain ⟨e0, e1, e2⟩ := flatK_at hs i _ (List.getElem?_eq_getElem (by omega))
  exact ⟨_, (World.ownsRow.cellAt h _ (by omega)).trans e0, (World.ownsRow.cellAt h _ (by omega)).trans e1, (World.ownsRow.cellAt h _ (by omega)).trans e2⟩

theorem OwnK.bel {w w' : World} {e : TypeId} {lo n c : Nat} {A : Option Addr} {hs : List Tri} (h : OwnK w lo e A n c hs) (hb : Below w.heap.size w w') : OwnK w' lo e A n c hs :=
  World.ownsRow.kept h (grown_of_below hb) (by cases hA : (Value.slice A n c).ownBlock <;> simp)
open Go.ChangeShapes Go.WideShapes Go.ChangeAt Go.Deep in
/-- Rows of three that came in. -/
theorem hasK_of_trod {H : Type} {enc : TypeId × Value → H} {P : Program} {W : World} {base : Nat} {spare : Nat → Bool} {held : Bool} {t e : TypeId} {f0 f1 f2 : Field} {A : Option Addr} {n c : Nat} {d : DataW H} {p : List MemPlace}
    (ht : P.underlying t = some (.slice e)) (he : P.underlying e = some (.struct #[f0, f1, f2])) (hC : P.cellsOf e = 3) (hone : oneCellFields P #[f0, f1, f2] = true)
    (h0 : P.underlying f0.type = some (.int .i64)) (h1 : P.underlying f1.type = some (.int .i64)) (h2 : P.underlying f2.type = some (.int .i64)) (h : DataW.Trod enc P W base spare held t (.slice A n c) d p) :
    ∃ hs, HasK W A n hs ∧ I64K hs ∧ n ≤ c ∧ c ≤ maxLen := by
  obtain ⟨fuel, hf⟩ := h
  obtain ⟨o0, k0⟩ := hone_of hone 0 f0 rfl
  obtain ⟨o1, k1⟩ := hone_of hone 1 f1 rfl
  obtain ⟨o2, k2⟩ := hone_of hone 2 f2 rfl
  rcases open_slice ht hf with ⟨hcs, _⟩ | ⟨x, l, c', m, n', D, Pl, hcs, _, hl, hm, hmm, _, hi⟩
  · simp [Value.cells] at hcs
    obtain ⟨rfl, rfl, rfl⟩ := hcs
    exact ⟨[], ⟨rfl, fun i hi => absurd hi (by omega)⟩, (fun h hh => by cases hh), by simp, by simp⟩
  · simp [Value.cells] at hcs
    obtain ⟨rfl, rfl, rfl⟩ := hcs
    have hnm : n ≤ m := by rw [hmm]; split <;> omega
    have key : ∀ i, i < n → ∃ a b z : Int, W.cell? (x.add (i * 3 + 0)) = some (.int .i64 a) ∧ W.cell? (x.add (i * 3 + 1)) = some (.int .i64 b) ∧ W.cell? (x.add (i * 3 + 2)) = some (.int .i64 z) ∧ (Lit.int .i64 a).wf = true ∧ (Lit.int .i64 b).wf = true ∧ (Lit.int .i64 z).wf = true := fun i hin => by
      obtain ⟨cs', hc, ht'⟩ := hi i (by omega)
      rw [hC] at hc
      obtain ⟨_, hcl, hat⟩ := World.cells?_some hc
      obtain ⟨y0, y1, y2, q, _, _, t0, t1, t2⟩ := trod_struct3 he ht'
      rw [o0, k0] at t0
      rw [o1, k1] at t1
      rw [o2, k2] at t2
      obtain ⟨a, ea, _, wa⟩ := DataW.trod_int h0 t0
      obtain ⟨b, eb, _, wb⟩ := DataW.trod_int h1 t1
      obtain ⟨z, ez, _, wz⟩ := DataW.trod_int h2 t2
      have g : ∀ j v, (cs'.drop j).take 1 = [v] → cs'[j]? = some v := fun j v e => by
        have h3 : ((cs'.drop j).take 1)[0]? = some v := by rw [e]; rfl
        simpa using h3
      refine ⟨a, b, z, ?_, ?_, ?_, wa, wb, wz⟩
      · rw [← Go.Deep.add_add, hat 0 (by omega)]; exact g 0 _ ea
      · rw [← Go.Deep.add_add, hat 1 (by omega)]; exact g 1 _ eb
      · rw [← Go.Deep.add_add, hat 2 (by omega)]; exact g 2 _ ez
    have key2 : ∀ i : Nat, ∃ h3 : Tri, i < n → W.cell? (x.add (i * 3 + 0)) = some (.int .i64 h3.1) ∧ W.cell? (x.add (i * 3 + 1)) = some (.int .i64 h3.2.1) ∧ W.cell? (x.add (i * 3 + 2)) = some (.int .i64 h3.2.2) ∧ (Lit.int .i64 h3.1).wf = true ∧ (Lit.int .i64 h3.2.1).wf = true ∧ (Lit.int .i64 h3.2.2).wf = true := fun i => by
      by_cases hin : i < n
      · obtain ⟨a, b, z, r⟩ := key i hin
        exact ⟨(a, b, z), fun _ => r⟩
      · exact ⟨(0, 0, 0), fun hh => absurd hh hin⟩
    obtain ⟨F, hF⟩ := Classical.axiomOfChoice key2
    refine ⟨(List.range n).map F, ⟨by simp, fun i hin => ?_⟩, fun h3 hh => ?_, hl, hm⟩
    · obtain ⟨c0, c1, c2, _⟩ := hF i hin
      obtain ⟨b, off, spot⟩ := x
      have hspot : spot = none := by
        have c00 := (hF 0 (by omega)).1
        simpa [Addr.add] using World.cell?_spot c00
      subst hspot
      have hadd : ∀ k, (⟨b, off, none⟩ : Addr).add k = ⟨b, off + k, none⟩ := fun k => by unfold Addr.add; split <;> simp_all
      rw [hadd] at c0 c1 c2
      exact ⟨b, off, F i, rfl, by simp [hin], by simpa using c0, by rw [show off + i * 3 + 1 = off + (i * 3 + 1) by omega]; exact c1, by rw [show off + i * 3 + 2 = off + (i * 3 + 2) by omega]; exact c2⟩
    · simp only [List.mem_map, List.mem_range] at hh
      obtain ⟨i, hin, rfl⟩ := hh
      obtain ⟨_, _, _, w0, w1, w2⟩ := hF i hin
      exact ⟨i64_of_wf w0, i64_of_wf w1, i64_of_wf w2⟩

end Go.Proofs.YtiokieancjigeaaDoor
