/-
  Rows of two ints in a slice: what is proved here is how they are read, made, appended to and stored. No condition.
-/
import Derived.Test.YtmifhkhanjiklaaMathJob
import Derived.Test.YtmifhkhanjiklaaDraw1
import Derived.Deep.Slices
import Derived.Deep.Strs
import Derived.Deep.Fields
import Derived.Deep.AppendLies
import Derived.Lib.SmallJoins
namespace Go.Proofs.Ytmifhkhanjiklaa
open Go.RowKit

/-- The slice at A with n rows of two reads as hs. -/
def HasD (w : World) (A : Option Addr) (n : Nat) (hs : List Duo) : Prop :=
  hs.length = n ∧ ∀ i, i < n → ∃ b o h, A = some ⟨b, o, none⟩ ∧ hs[i]? = some h ∧ w.cell? ⟨b, o + i * 2, none⟩ = some (.int .i64 h.1) ∧ w.cell? ⟨b, o + i * 2 + 1, none⟩ = some (.int .i64 h.2)
theorem HasD.bel {w w' : World} {A : Option Addr} {n : Nat} {hs : List Duo} (h : HasD w A n hs) (hb : Below w.heap.size w w') : HasD w' A n hs :=
  ⟨h.1, fun i hi => by
    obtain ⟨b, o, x, hA, hx, c0, c1⟩ := h.2 i hi
    have hlt : b < w.heap.size := World.block_lt_of_cell? w ⟨b, o + i * 2, none⟩ c0
    exact ⟨b, o, x, hA, hx, (hb.cell (p := ⟨b, o + i * 2, none⟩) hlt).trans c0, (hb.cell (p := ⟨b, o + i * 2 + 1, none⟩) hlt).trans c1⟩⟩
theorem HasD.at_ {w : World} {A : Option Addr} {n : Nat} {hs : List Duo} (h : HasD w A n hs) {i : Nat} (hi : i < n) :
    ∃ b o f t, A = some ⟨b, o, none⟩ ∧ b < w.heap.size ∧ hs[i]? = some (f, t) ∧ w.cell? ⟨b, o + i * 2, none⟩ = some (.int .i64 f) ∧ w.cell? ⟨b, o + i * 2 + 1, none⟩ = some (.int .i64 t) := by
  obtain ⟨b, o, ⟨f, t⟩, hA, hx, c0, c1⟩ := h.2 i hi
  exact ⟨b, o, f, t, hA, World.block_lt_of_cell? w ⟨b, o + i * 2, none⟩ c0, hx, c0, c1⟩
/-- The same, the row by its name. -/
theorem HasD.row {w : World} {A : Option Addr} {n : Nat} {hs : List Duo} (h : HasD w A n hs) {i : Nat} (hi : i < n) :
    ∃ b o, A = some ⟨b, o, none⟩ ∧ b < w.heap.size ∧ w.cell? ⟨b, o + i * 2, none⟩ = some (.int .i64 (dj hs i).1) ∧ w.cell? ⟨b, o + i * 2 + 1, none⟩ = some (.int .i64 (dj hs i).2) := by
  obtain ⟨b, o, f, t, hA, hb, hx, c0, c1⟩ := h.at_ hi
  have : dj hs i = (f, t) := by unfold dj; rw [List.getD_eq_getElem?_getD, hx]; rfl
  rw [this]
  exact ⟨b, o, hA, hb, c0, c1⟩

theorem cells2D {w : World} {B : Nat} {x y : Value} {t : TypeId} (h : w.heap[B]? = some (.cells #[x, y] t (0, 0))) :
    w.cell? ⟨B, 0, none⟩ = some x ∧ w.cell? ⟨B, 1, none⟩ = some y :=
  ⟨(cell_of_row w B 0 _ t (0, 0) h).trans rfl, (cell_of_row w B 1 _ t (0, 0) h).trans rfl⟩
def I64D (hs : List Duo) : Prop := ∀ h ∈ hs, (-9223372036854775808 ≤ h.1 ∧ h.1 ≤ 9223372036854775807) ∧ (-9223372036854775808 ≤ h.2 ∧ h.2 ≤ 9223372036854775807)
def flatD : List Duo → List Value
  | [] => []
  | h :: hs => .int .i64 h.1 :: .int .i64 h.2 :: flatD hs
theorem flatD_len (hs : List Duo) : (flatD hs).length = hs.length * 2 := by
  induction hs with
  | nil => rfl
  | cons d ds ih => simp only [flatD, List.length_cons, ih]; omega
theorem flatD_app (a b : List Duo) : flatD (a ++ b) = flatD a ++ flatD b := by
  induction a with
  | nil => rfl
  | cons d ds ih => simp [flatD, ih]
theorem flatD_at (hs : List Duo) (i : Nat) (h : Duo) (hi : hs[i]? = some h) : (flatD hs)[i * 2]? = some (.int .i64 h.1) ∧ (flatD hs)[i * 2 + 1]? = some (.int .i64 h.2) := by
  induction hs generalizing i with
  | nil => simp at hi
  | cons d ds ih =>
    cases i with
    | zero => simp at hi; subst hi; simp [flatD]
    | succ i =>
      have := ih i (by simpa using hi)
      have e : (i + 1) * 2 = i * 2 + 1 + 1 := by omega
      rw [e]
      simpa [flatD] using this
/-- A slice of rows of two that the call made. -/
def OwnD (w : World) (lo : Nat) (e : TypeId) (A : Option Addr) (n c : Nat) (hs : List Duo) : Prop := w.ownsRow lo e 2 (.slice A n c) n (flatD hs)
section
variable {w w' : World} {lo n c : Nat} {e : TypeId} {A : Option Addr} {hs : List Duo}
theorem OwnD.len (h : OwnD w lo e A n c hs) : hs.length = n := by have := h.1; rw [flatD_len] at this; omega
theorem OwnD.has (h : OwnD w lo e A n c hs) : HasD w A n hs := by
  have hl := h.len
  refine ⟨hl, fun i hi => ?_⟩
  obtain ⟨g, cap, hv, _, _⟩ := World.ownsRow.form h (by omega)
  injection hv with hA _ hcap
  subst hA hcap
  have hx : hs[i]? = some hs[i] := List.getElem?_eq_getElem (by omega)
  obtain ⟨e0, e1⟩ := flatD_at hs i _ hx
  refine ⟨g, 0, hs[i], rfl, hx, ?_, ?_⟩
  · rw [Nat.zero_add]; exact (World.ownsRow.cellAt h _ (by omega)).trans e0
  · rw [Nat.zero_add]; exact (World.ownsRow.cellAt h _ (by omega)).trans e1
theorem OwnD.cap (h : OwnD w lo e A n c hs) : n ≤ c := by
  rcases h.2 with ⟨hv, h0⟩ | ⟨g, cap, cur, hv, _, _, hnc, _⟩
  · omega
  · cases hv; exact hnc
theorem OwnD.mono {lo' : Nat} (h : OwnD w lo e A n c hs) (hl : lo' ≤ lo) : OwnD w lo' e A n c hs := by
  refine ⟨h.1, ?_⟩
  rcases h.2 with h' | ⟨g, cap, cur, hv, hb, r⟩
  · exact .inl h'
  · exact .inr ⟨g, cap, cur, hv, by omega, r⟩
theorem OwnD.bel (h : OwnD w lo e A n c hs) (hb : Below w.heap.size w w') : OwnD w' lo e A n c hs :=
  World.ownsRow.kept h (grown_of_below hb) (by cases hA : (Value.slice A n c).ownBlock <;> simp)
theorem OwnD.heapEq (h : OwnD w lo e A n c hs) (he : ∀ b, (Value.slice A n c).ownBlock = some b → w'.heap[b]? = w.heap[b]?) : OwnD w' lo e A n c hs := by
  refine ⟨h.1, ?_⟩
  rcases h.2 with h' | ⟨g, cap, cur, hv, hb, hg, r⟩
  · exact .inl h'
  · exact .inr ⟨g, cap, cur, hv, hb, (he g (by rw [hv]; rfl)).trans hg, r⟩
end
theorem info_partsD {P : Program} {e : TypeId} {z : Value} {s b : Nat} (h : (P.info? e).map (fun i => (i.zero, i.size, i.bytes)) = some (some z, s, b)) : ∃ i, P.info? e = some i ∧ i.zero = some z ∧ i.size = s ∧ i.bytes = b := by
  cases hi : P.info? e with
  | none => rw [hi] at h; cases h
  | some i => rw [hi] at h; simp at h; exact ⟨i, rfl, h.1, h.2.1, h.2.2⟩
theorem flatD_set (hs : List Duo) (i : Nat) (h : Duo) : flatD (hs.set i h) = ((flatD hs).set (i * 2) (.int .i64 h.1)).set (i * 2 + 1) (.int .i64 h.2) := by
  induction hs generalizing i with
  | nil => rfl
  | cons e ds ih =>
    cases i with
    | zero => simp [flatD]
    | succ i =>
      have e1 : (i + 1) * 2 = i * 2 + 1 + 1 := by omega
      rw [e1]
      simp [flatD, ih]
theorem flatD_set1 (hs : List Duo) (i : Nat) (h : Duo) (hi : hs[i]? = some h) (y : Int) : flatD (hs.set i (h.1, y)) = (flatD hs).set (i * 2 + 1) (.int .i64 y) := by
  induction hs generalizing i with
  | nil => rfl
  | cons e ds ih =>
    cases i with
    | zero => simp at hi; subst hi; simp [flatD]
    | succ i =>
      have e1 : (i + 1) * 2 + 1 = i * 2 + 1 + 1 + 1 := by omega
      rw [e1]
      simp [flatD, ih i (by simpa using hi)]
theorem flatD_zeros (n : Nat) : flatD (List.replicate n (0, 0)) = List.replicate (n * 2) (.int .i64 0) := by
  induction n with
  | zero => rfl
  | succ n ih =>
    rw [List.replicate_succ, flatD, ih, show (n + 1) * 2 = n * 2 + 1 + 1 by omega, List.replicate_succ, List.replicate_succ]
theorem made_zerosD (n : Nat) : (madeCells (Value.cells (.agg #[.int .i64 0, .int .i64 0])) (n * 2)).toList = flatD (List.replicate n (0, 0)) := by
  rw [flatD_zeros]
  apply List.ext_getElem?
  intro j
  by_cases hj : j < n * 2
  · have h3 : j % 2 = 0 ∨ j % 2 = 1 := by omega
    rcases h3 with h3 | h3 <;> simp [madeCells, hj, h3, Value.cells]
  · simp [madeCells, hj]
theorem OwnD.put {w : World} {e : TypeId} {lo n c g : Nat} {hs : List Duo} (h : OwnD w lo e (some ⟨g, 0, none⟩) n c hs) (i : Nat) (x : Duo) :
    OwnD ((w.setCell ⟨g, i * 2, none⟩ (.int .i64 x.1)).setCell ⟨g, i * 2 + 1, none⟩ (.int .i64 x.2)) lo e (some ⟨g, 0, none⟩) n c (hs.set i x) ∧
    w.grownBy ((w.setCell ⟨g, i * 2, none⟩ (.int .i64 x.1)).setCell ⟨g, i * 2 + 1, none⟩ (.int .i64 x.2)) (some g) := by
  obtain ⟨q1, r1⟩ := World.ownsRow.stored h (i * 2) (.int .i64 x.1)
  obtain ⟨q2, r2⟩ := World.ownsRow.stored q1 (i * 2 + 1) (.int .i64 x.2)
  refine ⟨?_, gr_trans r1 r2⟩
  unfold OwnD
  rw [flatD_set]
  exact q2
theorem OwnD.put1 {w : World} {e : TypeId} {lo n c g : Nat} {hs : List Duo} (h : OwnD w lo e (some ⟨g, 0, none⟩) n c hs) {i : Nat} {x : Duo} (hi : hs[i]? = some x) (y : Int) :
    OwnD (w.setCell ⟨g, i * 2 + 1, none⟩ (.int .i64 y)) lo e (some ⟨g, 0, none⟩) n c (hs.set i (x.1, y)) ∧ w.grownBy (w.setCell ⟨g, i * 2 + 1, none⟩ (.int .i64 y)) (some g) := by
  obtain ⟨q2, r2⟩ := World.ownsRow.stored h (i * 2 + 1) (.int .i64 y)
  refine ⟨?_, r2⟩
  unfold OwnD
  rw [flatD_set1 _ _ _ hi]
  exact q2
theorem OwnD.cells {w : World} {e : TypeId} {lo n c g i : Nat} {hs : List Duo} (h : OwnD w lo e (some ⟨g, 0, none⟩) n c hs) (hi : i < n) :
    ∃ x : Duo, hs[i]? = some x ∧ w.cell? ⟨g, i * 2, none⟩ = some (.int .i64 x.1) ∧ w.cell? ⟨g, i * 2 + 1, none⟩ = some (.int .i64 x.2) := by
  have hl : hs.length = n := h.len
  have hx : hs[i]? = some hs[i] := List.getElem?_eq_getElem (by omega)
  obtain ⟨e0, e1⟩ := flatD_at hs i _ hx
  exact ⟨_, hx, (World.ownsRow.cellAt h _ (by omega)).trans e0, (World.ownsRow.cellAt h _ (by omega)).trans e1⟩

open Go.ChangeShapes Go.WideShapes Go.ChangeAt Go.Deep in
/-- Rows of two that came in. -/
theorem hasD_of_trod {H : Type} {enc : TypeId × Value → H} {P : Program} {W : World} {base : Nat} {spare : Nat → Bool} {held : Bool} {t e : TypeId} {f0 f1 : Field} {A : Option Addr} {n c : Nat} {d : DataW H} {p : List MemPlace}
    (ht : P.underlying t = some (.slice e)) (he : P.underlying e = some (.struct #[f0, f1])) (hC : P.cellsOf e = 2) (hone : oneCellFields P #[f0, f1] = true)
    (h0 : P.underlying f0.type = some (.int .i64)) (h1 : P.underlying f1.type = some (.int .i64)) (h : DataW.Trod enc P W base spare held t (.slice A n c) d p) :
    ∃ hs, HasD W A n hs ∧ I64D hs ∧ n ≤ c ∧ c ≤ maxLen := by
  obtain ⟨fuel, hf⟩ := h
  obtain ⟨o0, k0⟩ := hone_of hone 0 f0 rfl
  obtain ⟨o1, k1⟩ := hone_of hone 1 f1 rfl
  rcases open_slice ht hf with ⟨hcs, _⟩ | ⟨x, l, c', m, n', D, Pl, hcs, _, hl, hm, hmm, _, hi⟩
  · simp [Value.cells] at hcs
    obtain ⟨rfl, rfl, rfl⟩ := hcs
    exact ⟨[], ⟨rfl, fun i hi => absurd hi (by omega)⟩, (fun h hh => by cases hh), by simp, by simp⟩
  · simp [Value.cells] at hcs
    obtain ⟨rfl, rfl, rfl⟩ := hcs
    have hnm : n ≤ m := by rw [hmm]; split <;> omega
    have key : ∀ i, i < n → ∃ a b : Int, W.cell? (x.add (i * 2 + 0)) = some (.int .i64 a) ∧ W.cell? (x.add (i * 2 + 1)) = some (.int .i64 b) ∧ (Lit.int .i64 a).wf = true ∧ (Lit.int .i64 b).wf = true := fun i hin => by
      obtain ⟨cs', hc, ht'⟩ := hi i (by omega)
      rw [hC] at hc
      obtain ⟨_, hcl, hat⟩ := World.cells?_some hc
      obtain ⟨y0, y1, q, _, _, t0, t1⟩ := trod_struct2 he ht'
      rw [o0, k0] at t0
      rw [o1, k1] at t1
      obtain ⟨a, ea, _, wa⟩ := DataW.trod_int h0 t0
      obtain ⟨b, eb, _, wb⟩ := DataW.trod_int h1 t1
      have g : ∀ j v, (cs'.drop j).take 1 = [v] → cs'[j]? = some v := fun j v e => by
        have h3 : ((cs'.drop j).take 1)[0]? = some v := by rw [e]; rfl
        simpa using h3
      refine ⟨a, b, ?_, ?_, wa, wb⟩
      · rw [← Go.Deep.add_add, hat 0 (by omega)]; exact g 0 _ ea
      · rw [← Go.Deep.add_add, hat 1 (by omega)]; exact g 1 _ eb
    have key2 : ∀ i : Nat, ∃ h3 : Duo, i < n → W.cell? (x.add (i * 2 + 0)) = some (.int .i64 h3.1) ∧ W.cell? (x.add (i * 2 + 1)) = some (.int .i64 h3.2) ∧ (Lit.int .i64 h3.1).wf = true ∧ (Lit.int .i64 h3.2).wf = true := fun i => by
      by_cases hin : i < n
      · obtain ⟨a, b, r⟩ := key i hin
        exact ⟨(a, b), fun _ => r⟩
      · exact ⟨(0, 0), fun hh => absurd hh hin⟩
    obtain ⟨F, hF⟩ := Classical.axiomOfChoice key2
    refine ⟨(List.range n).map F, ⟨by simp, fun i hin => ?_⟩, fun h3 hh => ?_, hl, hm⟩
    · obtain ⟨c0, c1, _⟩ := hF i hin
      obtain ⟨b, off, spot⟩ := x
      have hspot : spot = none := by
        have c00 := (hF 0 (by omega)).1
        simpa [Addr.add] using World.cell?_spot c00
      subst hspot
      have hadd : ∀ k, (⟨b, off, none⟩ : Addr).add k = ⟨b, off + k, none⟩ := fun k => by unfold Addr.add; split <;> simp_all
      rw [hadd] at c0 c1
      exact ⟨b, off, F i, rfl, by simp [hin], by simpa using c0, by rw [show off + i * 2 + 1 = off + (i * 2 + 1) by omega]; exact c1⟩
    · simp only [List.mem_map, List.mem_range] at hh
      obtain ⟨i, hin, rfl⟩ := hh
      obtain ⟨_, _, w0, w1⟩ := hF i hin
      exact ⟨i64_of_wf w0, i64_of_wf w1⟩
end Go.Proofs.Ytmifhkhanjiklaa
