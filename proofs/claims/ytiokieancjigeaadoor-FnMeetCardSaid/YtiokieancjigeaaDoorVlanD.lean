/-
  Frames that go out, as rows of two in memory, and FloodVlan of the model: what is proved here is what it returns, and that it writes nothing that was there. Condition: lengths up to 2^24.
-/
import Derived.Test.YtiokieancjigeaaDoorVlanC
import Derived.Deep.RegionLaw
namespace Go.Proofs.YtiokieancjigeaaDoor
open Go.RowKit

theorem Tryd.infoOut : (Tryd.prog.info? 36).map (fun i => (i.zero, i.size, i.bytes)) = some (some (.agg #[.int .i64 0, .int .i64 0]), 2, 16) := by kernel_rfl
def flatO : List (Int × Int) → List Value
  | [] => []
  | h :: hs => .int .i64 h.1 :: .int .i64 h.2 :: flatO hs
theorem flatO_len (hs : List (Int × Int)) : (flatO hs).length = hs.length * 2 := by
  induction hs with
  | nil => rfl
  | cons d ds ih => simp only [flatO, List.length_cons, ih]; omega
theorem flatO_app (a b : List (Int × Int)) : flatO (a ++ b) = flatO a ++ flatO b := by
  induction a with
  | nil => rfl
  | cons d ds ih => simp [flatO, ih]
theorem flatO_at (hs : List (Int × Int)) (i : Nat) (h : Int × Int) (hi : hs[i]? = some h) : (flatO hs)[i * 2]? = some (.int .i64 h.1) ∧ (flatO hs)[i * 2 + 1]? = some (.int .i64 h.2) := by
  induction hs generalizing i with
  | nil => simp at hi
  | cons d ds ih =>
    cases i with
    | zero => simp at hi; subst hi; simp [flatO]
    | succ i =>
      have := ih i (by simpa using hi)
      have e : (i + 1) * 2 = i * 2 + 1 + 1 := by omega
      rw [e]
      simpa [flatO] using this
theorem flatO_set (hs : List (Int × Int)) (i : Nat) (h : Int × Int) : flatO (hs.set i h) = ((flatO hs).set (i * 2) (.int .i64 h.1)).set (i * 2 + 1) (.int .i64 h.2) := by
  induction hs generalizing i with
  | nil => rfl
  | cons e ds ih =>
    cases i with
    | zero => simp [flatO]
    | succ i =>
      have e1 : (i + 1) * 2 = i * 2 + 1 + 1 := by omega
      rw [e1]
      simp [flatO, ih]
/-- The slice at A with n frames reads as xs. -/
def HasO (w : World) (A : Option Addr) (n : Nat) (xs : List (Int × Int)) : Prop :=
  xs.length = n ∧ ∀ i, i < n → ∃ b o x, A = some ⟨b, o, none⟩ ∧ xs[i]? = some x ∧ w.cell? ⟨b, o + i * 2, none⟩ = some (.int .i64 x.1) ∧ w.cell? ⟨b, o + i * 2 + 1, none⟩ = some (.int .i64 x.2)
/-- A slice of frames that the call made. -/
def OwnO (w : World) (lo : Nat) (A : Option Addr) (n c : Nat) (xs : List (Int × Int)) : Prop := w.ownsRow lo 36 2 (.slice A n c) n (flatO xs)
section
variable {w w' : World} {lo n c : Nat} {A : Option Addr} {xs : List (Int × Int)}
theorem HasO.bel (h : HasO w A n xs) (hb : Below w.heap.size w w') : HasO w' A n xs :=
  ⟨h.1, fun i hi => by
    obtain ⟨b, o, x, hA, hx, c0, c1⟩ := h.2 i hi
    have hlt : b < w.heap.size := World.block_lt_of_cell? w ⟨b, o + i * 2, none⟩ c0
    exact ⟨b, o, x, hA, hx, (hb.cell (p := ⟨b, o + i * 2, none⟩) hlt).trans c0, (hb.cell (p := ⟨b, o + i * 2 + 1, none⟩) hlt).trans c1⟩⟩
theorem HasO.at_ (h : HasO w A n xs) {i : Nat} (hi : i < n) :
    ∃ b o x y, A = some ⟨b, o, none⟩ ∧ b < w.heap.size ∧ xs[i]? = some (x, y) ∧ w.cell? ⟨b, o + i * 2, none⟩ = some (.int .i64 x) ∧ w.cell? ⟨b, o + i * 2 + 1, none⟩ = some (.int .i64 y) := by
  obtain ⟨b, o, ⟨x, y⟩, hA, hx, c0, c1⟩ := h.2 i hi
  exact ⟨b, o, x, y, hA, World.block_lt_of_cell? w ⟨b, o + i * 2, none⟩ c0, hx, c0, c1⟩
theorem OwnO.len (h : OwnO w lo A n c xs) : xs.length = n := by have := h.1; rw [flatO_len] at this; omega
theorem OwnO.has (h : OwnO w lo A n c xs) : HasO w A n xs := by
  have hl := h.len
  refine ⟨hl, fun i hi => ?_⟩
  obtain ⟨g, cap, hv, _, _⟩ := World.ownsRow.form h (by omega)
  injection hv with hA _ hcap
  subst hA hcap
  have hx : xs[i]? = some xs[i] := List.getElem?_eq_getElem (by omega)
  obtain ⟨e0, e1⟩ := flatO_at xs i _ hx
  refine ⟨g, 0, xs[i], rfl, hx, ?_, ?_⟩
  · rw [Nat.zero_add]; exact (World.ownsRow.cellAt h _ (by omega)).trans e0
  · rw [Nat.zero_add]; exact (World.ownsRow.cellAt h _ (by omega)).trans e1
theorem OwnO.bel (h : OwnO w lo A n c xs) (hb : Below w.heap.size w w') : OwnO w' lo A n c xs :=
  World.ownsRow.kept h (grown_of_below hb) (by cases hA : (Value.slice A n c).ownBlock <;> simp)
theorem OwnO.mono {lo' : Nat} (h : OwnO w lo A n c xs) (hl : lo' ≤ lo) : OwnO w lo' A n c xs := by
  refine ⟨h.1, ?_⟩
  rcases h.2 with h' | ⟨g, cap, cur, hv, hb, r⟩
  · exact .inl h'
  · exact .inr ⟨g, cap, cur, hv, by omega, r⟩
theorem OwnO.blk (h : OwnO w lo A n c xs) {b : Nat} (hb : (Value.slice A n c).ownBlock = some b) : lo ≤ b ∧ b < w.heap.size := by
  rcases h.2 with ⟨hv, _⟩ | ⟨g, cap, cur, hv, hlo, hg, _⟩
  · rw [hv] at hb; cases hb
  · rw [hv] at hb
    have : g = b := by simpa [Value.ownBlock] using hb
    subst this
    exact ⟨hlo, (Array.getElem?_eq_some_iff.1 hg).1⟩
theorem OwnO.heapEq (h : OwnO w lo A n c xs) (he : ∀ b, (Value.slice A n c).ownBlock = some b → w'.heap[b]? = w.heap[b]?) : OwnO w' lo A n c xs := by
  refine ⟨h.1, ?_⟩
  rcases h.2 with h' | ⟨g, cap, cur, hv, hb, hg, r⟩
  · exact .inl h'
  · exact .inr ⟨g, cap, cur, hv, hb, (he g (by rw [hv]; rfl)).trans hg, r⟩
theorem OwnO.head (h : OwnO w lo A n c xs) (hn : 0 < n) : ∃ g, A = some ⟨g, 0, none⟩ ∧ lo ≤ g ∧ g < w.heap.size := by
  obtain ⟨g, cap, hv, h1, h2⟩ := World.ownsRow.form h hn
  injection hv with hA _ _
  exact ⟨g, hA, h1, h2⟩
theorem OwnO.cells {g i : Nat} {x y : Int} (h : OwnO w lo (some ⟨g, 0, none⟩) n c xs) (hi : xs[i]? = some (x, y)) :
    w.cell? ⟨g, i * 2, none⟩ = some (.int .i64 x) ∧ w.cell? ⟨g, i * 2 + 1, none⟩ = some (.int .i64 y) ∧ (∀ j, w.frozen? ⟨g, j, none⟩ = false) := by
  have hl := h.len
  have hil := (List.getElem?_eq_some_iff.1 hi).1
  obtain ⟨e0, e1⟩ := flatO_at xs i _ hi
  exact ⟨(World.ownsRow.cellAt h _ (by omega)).trans e0, (World.ownsRow.cellAt h _ (by omega)).trans e1, World.ownsRow.frozenAt h⟩
theorem OwnO.put {g : Nat} (h : OwnO w lo (some ⟨g, 0, none⟩) n c xs) (i : Nat) (x : Int × Int) :
    OwnO ((w.setCell ⟨g, i * 2, none⟩ (.int .i64 x.1)).setCell ⟨g, i * 2 + 1, none⟩ (.int .i64 x.2)) lo (some ⟨g, 0, none⟩) n c (xs.set i x) ∧
    w.grownBy ((w.setCell ⟨g, i * 2, none⟩ (.int .i64 x.1)).setCell ⟨g, i * 2 + 1, none⟩ (.int .i64 x.2)) (some g) := by
  obtain ⟨q1, r1⟩ := World.ownsRow.stored h (i * 2) (.int .i64 x.1)
  obtain ⟨q2, r2⟩ := World.ownsRow.stored q1 (i * 2 + 1) (.int .i64 x.2)
  refine ⟨?_, gr_trans r1 r2⟩
  unfold OwnO
  rw [flatO_set]
  exact q2
end
theorem ownO_lit (w : World) : OwnO (w.alloc (.cells #[] 36)) w.heap.size (some ⟨w.heap.size, 0, none⟩) 0 0 [] := World.ownsRow_lit w #[] 0 (Nat.le_refl _) (by unfold maxLen; omega) rfl
theorem ownO_more {w : World} {lo n c g : Nat} {xs : List (Int × Int)} {x y : Int} (h : w.ownsRow lo 36 2 (.slice (some ⟨g, 0, none⟩) (n + 1) c) (n + 1) (flatO xs ++ (#[Value.int .i64 x, Value.int .i64 y] : Array Value).toList)) : OwnO w lo (some ⟨g, 0, none⟩) (n + 1) c (xs ++ [(x, y)]) := by
  unfold OwnO; rw [flatO_app]; exact h

theorem floodI_no {ps : List Port} {a t : Int} (h : ¬ (psOk ps ∧ 0 ≤ a ∧ a < ps.length)) : floodI ps a t = [] := by unfold floodI; rw [if_neg h]
theorem floodI_yes {ps : List Port} {a : Nat} {p : Port} {t v : Int} (h : psOk ps) (ha : ps[a]? = some p) (hv : inI p t = v) : floodI ps (a : Int) t = notAt (a : Int) (outsTo ps v ps.length) := by
  have h1 := (List.getElem?_eq_some_iff.1 ha).1
  unfold floodI
  rw [if_pos ⟨h, by omega, by omega⟩]
  simp [dp_at ha, hv]
theorem notAt_take {a : Int} {l : List (Int × Int)} {k : Nat} {x : Int × Int} (hx : l[k]? = some x) : notAt a (l.take (k + 1)) = notAt a (l.take k) ++ (if x.1 ≠ a then [x] else []) := by
  unfold notAt
  rw [List.take_add_one, hx, List.filter_append]
  congr 1
  by_cases h : x.1 = a <;> simp [h]
theorem outs_at {ps : List Port} {v : Int} {n k : Nat} {x y : Int} (hx : (outsTo ps v n)[k]? = some (x, y)) : ∃ i : Nat, i < n ∧ x = (i : Int) ∧ y = outI (dp ps i) v := by
  obtain ⟨i, hi, he, _⟩ := outs_mem.1 (List.mem_of_getElem? hx)
  injection he with e1 e2
  exact ⟨i, hi, e1, e2⟩

theorem grown_of_alloc {w w' : World} {o : Obj} {row : Option Nat} (h : (w.alloc o).grownBy w' row) : w.grownBy w' row :=
  ⟨h.os, h.tape, h.output, Nat.le_trans (by simp) h.size, fun k hk hne => (h.block k (by simp; omega) hne).trans (heap_alloc_old w o hk)⟩
end Go.Proofs.YtiokieancjigeaaDoor
