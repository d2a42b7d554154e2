/-
  Ports in memory: what is proved here is how lists of ports that came in, and those that a call made, are read and kept while a call goes on. No condition.
-/
import Derived.Test.YtiokieancjigeaaDoorMathVlan
import Derived.Test.YtiokieancjigeaaDoorRowsK
namespace Go.Proofs.YtiokieancjigeaaDoor
open Go.RowKit

theorem Tryd.infoPort : (Tryd.prog.info? 32).map (fun i => (i.zero, i.size, i.bytes)) = some (some (.agg #[.int .i64 0, .int .i64 0, .slice none 0 0]), 3, 40) := by kernel_rfl

/-- The slice at A with n ports reads as ps. -/
def HasP (w : World) (A : Option Addr) (n : Nat) (ps : List Port) : Prop :=
  ps.length = n ∧ ∀ i, i < n → ∃ b o B m d p, A = some ⟨b, o, none⟩ ∧ ps[i]? = some p ∧ w.cell? ⟨b, o + i * 3, none⟩ = some (.int .i64 p.1) ∧ w.cell? ⟨b, o + i * 3 + 1, none⟩ = some (.int .i64 p.2.1) ∧ w.cell? ⟨b, o + i * 3 + 2, none⟩ = some (.slice B m d) ∧ m ≤ d ∧ Has w B m (ints .i64 p.2.2)
theorem HasP.bel {w w' : World} {A : Option Addr} {n : Nat} {ps : List Port} (h : HasP w A n ps) (hb : Below w.heap.size w w') : HasP w' A n ps :=
  ⟨h.1, fun i hi => by
    obtain ⟨b, o, B, m, d, p, hA, hx, c0, c1, c2, hmd, hH⟩ := h.2 i hi
    have hlt : b < w.heap.size := World.block_lt_of_cell? w ⟨b, o + i * 3, none⟩ c0
    exact ⟨b, o, B, m, d, p, hA, hx, (hb.cell (p := ⟨b, o + i * 3, none⟩) hlt).trans c0, (hb.cell (p := ⟨b, o + i * 3 + 1, none⟩) hlt).trans c1, (hb.cell (p := ⟨b, o + i * 3 + 2, none⟩) hlt).trans c2, hmd, hH.bel hb⟩⟩
theorem HasP.at_ {w : World} {A : Option Addr} {n : Nat} {ps : List Port} (h : HasP w A n ps) {i : Nat} (hi : i < n) :
    ∃ b o B m d k q l, A = some ⟨b, o, none⟩ ∧ b < w.heap.size ∧ ps[i]? = some (k, q, l) ∧ w.cell? ⟨b, o + i * 3, none⟩ = some (.int .i64 k) ∧ w.cell? ⟨b, o + i * 3 + 1, none⟩ = some (.int .i64 q) ∧ w.cell? ⟨b, o + i * 3 + 2, none⟩ = some (.slice B m d) ∧ m ≤ d ∧ Has w B m (ints .i64 l) := by
  obtain ⟨b, o, B, m, d, ⟨k, q, l⟩, hA, hx, c0, c1, c2, hmd, hH⟩ := h.2 i hi
  exact ⟨b, o, B, m, d, k, q, l, hA, World.block_lt_of_cell? w ⟨b, o + i * 3, none⟩ c0, hx, c0, c1, c2, hmd, hH⟩

abbrev PV := Int × Int × Value
def flatP : List PV → List Value
  | [] => []
  | h :: hs => .int .i64 h.1 :: .int .i64 h.2.1 :: h.2.2 :: flatP hs
theorem flatP_len (hs : List PV) : (flatP hs).length = hs.length * 3 := by
  induction hs with
  | nil => rfl
  | cons d ds ih => simp only [flatP, List.length_cons, ih]; omega
theorem flatP_app (a b : List PV) : flatP (a ++ b) = flatP a ++ flatP b := by
  induction a with
  | nil => rfl
  | cons d ds ih => simp [flatP, ih]
theorem flatP_at (hs : List PV) (i : Nat) (h : PV) (hi : hs[i]? = some h) : (flatP hs)[i * 3]? = some (.int .i64 h.1) ∧ (flatP hs)[i * 3 + 1]? = some (.int .i64 h.2.1) ∧ (flatP hs)[i * 3 + 2]? = some h.2.2 := by
  induction hs generalizing i with
  | nil => simp at hi
  | cons d ds ih =>
    cases i with
    | zero => simp at hi; subst hi; simp [flatP]
    | succ i =>
      have := ih i (by simpa using hi)
      have e : (i + 1) * 3 = i * 3 + 1 + 1 + 1 := by omega
      rw [e]
      simpa [flatP] using this
theorem flatP_set (hs : List PV) (i : Nat) (h : PV) : flatP (hs.set i h) = (((flatP hs).set (i * 3) (.int .i64 h.1)).set (i * 3 + 1) (.int .i64 h.2.1)).set (i * 3 + 2) h.2.2 := by
  induction hs generalizing i with
  | nil => rfl
  | cons e ds ih =>
    cases i with
    | zero => simp [flatP]
    | succ i =>
      have e1 : (i + 1) * 3 = i * 3 + 1 + 1 + 1 := by omega
      rw [e1]
      simp [flatP, ih]
theorem flatP_set0 (hs : List PV) (i : Nat) (h : PV) (x : Int) (hi : hs[i]? = some h) : (flatP hs).set (i * 3) (.int .i64 x) = flatP (hs.set i (x, h.2)) := by
  induction hs generalizing i with
  | nil => rfl
  | cons e ds ih =>
    cases i with
    | zero => simp at hi; subst hi; simp [flatP]
    | succ i =>
      have e1 : (i + 1) * 3 = i * 3 + 1 + 1 + 1 := by omega
      rw [e1]
      simp [flatP, ih i (by simpa using hi)]
theorem flatP_set1 (hs : List PV) (i : Nat) (h : PV) (x : Int) (hi : hs[i]? = some h) : (flatP hs).set (i * 3 + 1) (.int .i64 x) = flatP (hs.set i (h.1, x, h.2.2)) := by
  induction hs generalizing i with
  | nil => rfl
  | cons e ds ih =>
    cases i with
    | zero => simp at hi; subst hi; simp [flatP]
    | succ i =>
      have e1 : (i + 1) * 3 + 1 = i * 3 + 1 + 1 + 1 + 1 := by omega
      rw [e1]
      simp [flatP, ih i (by simpa using hi)]
theorem flatP_set2 (hs : List PV) (i : Nat) (h : PV) (v : Value) (hi : hs[i]? = some h) : (flatP hs).set (i * 3 + 2) v = flatP (hs.set i (h.1, h.2.1, v)) := by
  induction hs generalizing i with
  | nil => rfl
  | cons e ds ih =>
    cases i with
    | zero => simp at hi; subst hi; simp [flatP]
    | succ i =>
      have e1 : (i + 1) * 3 + 2 = i * 3 + 2 + 1 + 1 + 1 := by omega
      rw [e1]
      simp [flatP, ih i (by simpa using hi)]
theorem flatP_zeros (n : Nat) : (madeCells (Value.cells (.agg #[.int .i64 0, .int .i64 0, .slice none 0 0])) (n * 3)).toList = flatP (List.replicate n (0, 0, .slice none 0 0)) := by
  apply List.ext_getElem?
  intro j
  have hl : (flatP (List.replicate n ((0, 0, .slice none 0 0) : PV))).length = n * 3 := by rw [flatP_len]; simp
  by_cases hj : j < n * 3
  · have h0 : (List.replicate n ((0, 0, .slice none 0 0) : PV))[j / 3]? = some (0, 0, .slice none 0 0) := by rw [List.getElem?_replicate, if_pos (by omega)]
    obtain ⟨a0, a1, a2⟩ := flatP_at _ _ _ h0
    have h3 : j % 3 = 0 ∨ j % 3 = 1 ∨ j % 3 = 2 := by omega
    rcases h3 with h3 | h3 | h3
    · rw [show j / 3 * 3 = j by omega] at a0; rw [a0]; simp [madeCells, hj, h3, Value.cells]
    · rw [show j / 3 * 3 + 1 = j by omega] at a1; rw [a1]; simp [madeCells, hj, h3, Value.cells]
    · rw [show j / 3 * 3 + 2 = j by omega] at a2; rw [a2]; simp [madeCells, hj, h3, Value.cells]
  · have hnone := List.getElem?_eq_none (l := flatP (List.replicate n ((0, 0, .slice none 0 0) : PV))) (i := j) (by rw [hl]; omega)
    rw [hnone]
    simp [madeCells, hj]

theorem blk_lt {w : World} {lo n c : Nat} {e : TypeId} {xs : List Value} {B : Option Addr} (h : Own w lo e B n c xs) {b : Nat} (hb : (Value.slice B n c).ownBlock = some b) : lo ≤ b ∧ b < w.heap.size := by
  cases B with
  | none => cases hb
  | some a => have := h.block; simp only [Value.ownBlock] at hb; injection hb with hb; omega
theorem map_blk {A : Option Addr} {b : Nat} (h : A.map (·.block) = some b) (m d : Nat) : (Value.slice A m d).ownBlock = some b := by
  cases A with
  | none => cases h
  | some a => exact h
theorem Own.heapEqP {w w' : World} {lo n c : Nat} {e : TypeId} {A : Option Addr} {xs : List Value} (hO : Own w lo e A n c xs) (h : ∀ b, (Value.slice A n c).ownBlock = some b → w'.heap[b]? = w.heap[b]?) : Own w' lo e A n c xs := by
  refine ⟨hO.1, ?_⟩
  rcases hO.2 with h' | ⟨g, cap, cur, hv, hb, hg, r⟩
  · exact .inl h'
  · exact .inr ⟨g, cap, cur, hv, hb, (h g (by rw [hv]; rfl)).trans hg, r⟩

/-- A list of ports that the call made (from block lo on), with all their networks. -/
def OwnP (w : World) (lo : Nat) (A : Option Addr) (n c : Nat) (pvs : List PV) (ps : List Port) : Prop :=
  w.ownsRow lo 32 3 (.slice A n c) n (flatP pvs) ∧ pvs.length = ps.length ∧
  (∀ (i : Nat) (pv : PV) (p : Port), pvs[i]? = some pv → ps[i]? = some p → pv.1 = p.1 ∧ pv.2.1 = p.2.1 ∧ ∃ B m d, pv.2.2 = .slice B m d ∧ Own w lo 3 B m d (ints .i64 p.2.2)) ∧
  (∀ (i : Nat) (pv : PV), pvs[i]? = some pv → ∀ b, pv.2.2.ownBlock = some b → A.map (·.block) ≠ some b) ∧
  ∀ (i j : Nat) (pi pj : PV), i ≠ j → pvs[i]? = some pi → pvs[j]? = some pj → ∀ b, pi.2.2.ownBlock = some b → pj.2.2.ownBlock ≠ some b
section
variable {w w' : World} {lo n c : Nat} {A : Option Addr} {pvs : List PV} {ps : List Port}
theorem OwnP.len (h : OwnP w lo A n c pvs ps) : pvs.length = n ∧ ps.length = n := by
  have h1 := h.1.1; have h2 := h.2.1; rw [flatP_len] at h1; omega
theorem OwnP.cap (h : OwnP w lo A n c pvs ps) : n ≤ c := by
  rcases h.1.2 with ⟨hv, h0⟩ | ⟨g, cap, cur, hv, _, _, hnc, _⟩
  · omega
  · cases hv; exact hnc
theorem OwnP.has (h : OwnP w lo A n c pvs ps) : HasP w A n ps := by
  have hl := h.len
  refine ⟨hl.2, fun i hi => ?_⟩
  obtain ⟨g, cap, hv, _, _⟩ := World.ownsRow.form h.1 (by omega)
  injection hv with hA _ hcap
  subst hA hcap
  have hx : pvs[i]? = some pvs[i] := List.getElem?_eq_getElem (by omega)
  have hp : ps[i]? = some ps[i] := List.getElem?_eq_getElem (by omega)
  obtain ⟨e0, e1, e2⟩ := flatP_at pvs i _ hx
  obtain ⟨k0, k1, B, m, d, k2, hO⟩ := h.2.2.1 i _ _ hx hp
  rw [k0] at e0
  rw [k1] at e1
  rw [k2] at e2
  refine ⟨g, 0, B, m, d, ps[i], rfl, hp, ?_, ?_, ?_, hO.cap, hO.has⟩
  · rw [Nat.zero_add]; exact (World.ownsRow.cellAt h.1 _ (by omega)).trans e0
  · rw [Nat.zero_add]; exact (World.ownsRow.cellAt h.1 _ (by omega)).trans e1
  · rw [Nat.zero_add]; exact (World.ownsRow.cellAt h.1 _ (by omega)).trans e2
theorem OwnP.mono {lo' : Nat} (h : OwnP w lo A n c pvs ps) (hl : lo' ≤ lo) : OwnP w lo' A n c pvs ps := by
  refine ⟨⟨h.1.1, ?_⟩, h.2.1, fun i pv p hv hp => ?_, h.2.2.2.1, h.2.2.2.2⟩
  · rcases h.1.2 with h' | ⟨g, cap, cur, hv, hb, r⟩
    · exact .inl h'
    · exact .inr ⟨g, cap, cur, hv, by omega, r⟩
  · obtain ⟨k0, k1, B, m, d, k2, hO⟩ := h.2.2.1 i pv p hv hp
    exact ⟨k0, k1, B, m, d, k2, hO.mono hl⟩
/-- The blocks of a list of ports. -/
def InP (A : Option Addr) (pvs : List PV) (b : Nat) : Prop := A.map (·.block) = some b ∨ ∃ (i : Nat) (pv : PV), pvs[i]? = some pv ∧ pv.2.2.ownBlock = some b
theorem OwnP.inner (h : OwnP w lo A n c pvs ps) {i : Nat} {pv : PV} (hi : pvs[i]? = some pv) {b : Nat} (hb : pv.2.2.ownBlock = some b) : lo ≤ b ∧ b < w.heap.size := by
  have hl := (List.getElem?_eq_some_iff.1 hi).1
  have hp : ps[i]? = some (ps[i]'(by rw [← h.2.1]; exact hl)) := List.getElem?_eq_getElem (by rw [← h.2.1]; exact hl)
  obtain ⟨_, _, B, m, d, e, hO⟩ := h.2.2.1 i pv _ hi hp
  rw [e] at hb
  exact blk_lt hO hb
theorem OwnP.row (h : OwnP w lo A n c pvs ps) {b : Nat} (hb : A.map (·.block) = some b) : lo ≤ b ∧ b < w.heap.size := by
  rcases h.1.2 with ⟨hv, _⟩ | ⟨g, cap, cur, hv, hlo, hg, _⟩
  · cases hv; cases hb
  · cases hv
    simp at hb
    subst hb
    exact ⟨hlo, (Array.getElem?_eq_some_iff.1 hg).1⟩
theorem OwnP.bounds (h : OwnP w lo A n c pvs ps) {b : Nat} (hb : InP A pvs b) : lo ≤ b ∧ b < w.heap.size := by
  rcases hb with hb | ⟨i, pv, hi, hb⟩
  · exact h.row hb
  · exact h.inner hi hb
theorem OwnP.heapEq (h : OwnP w lo A n c pvs ps) (he : ∀ b, InP A pvs b → w'.heap[b]? = w.heap[b]?) : OwnP w' lo A n c pvs ps := by
  refine ⟨⟨h.1.1, ?_⟩, h.2.1, fun i pv p hv hp => ?_, h.2.2.2.1, h.2.2.2.2⟩
  · rcases h.1.2 with h' | ⟨g, cap, cur, hv, hb, hg, r⟩
    · exact .inl h'
    · exact .inr ⟨g, cap, cur, hv, hb, (he g (.inl (by cases hv; rfl))).trans hg, r⟩
  · obtain ⟨k0, k1, B, m, d, k2, hO⟩ := h.2.2.1 i pv p hv hp
    exact ⟨k0, k1, B, m, d, k2, hO.heapEqP fun b hb => he b (.inr ⟨i, pv, hv, by rw [k2]; exact hb⟩)⟩
theorem OwnP.bel (h : OwnP w lo A n c pvs ps) (hb : Below w.heap.size w w') : OwnP w' lo A n c pvs ps := h.heapEq fun b hb' => hb.block b (h.bounds hb').2
theorem OwnP.grown {row : Option Nat} (h : OwnP w lo A n c pvs ps) (hg : w.grownBy w' row) (hr : ∀ b, row = some b → ¬ InP A pvs b) : OwnP w' lo A n c pvs ps :=
  h.heapEq fun b hb => hg.block b (h.bounds hb).2 fun e => hr b e.symm hb
theorem OwnP.past {r : Nat} (h : OwnP w lo A n c pvs ps) (hr : r < lo) (hg : w.grownBy w' (some r)) : OwnP w' lo A n c pvs ps :=
  h.grown hg fun b e hb => by injection e with e; have := (h.bounds hb).1; omega
/-- One port is another. -/
theorem OwnP.upd (h : OwnP w lo A n c pvs ps) {k : Nat} (hk : k < n) {pv' : PV} {p' : Port} (hrow : w'.ownsRow lo 32 3 (.slice A n c) n (flatP (pvs.set k pv')))
    (hsame : ∀ (i : Nat) (pv : PV), i ≠ k → pvs[i]? = some pv → ∀ b, pv.2.2.ownBlock = some b → w'.heap[b]? = w.heap[b]?)
    (hnew : pv'.1 = p'.1 ∧ pv'.2.1 = p'.2.1 ∧ ∃ B m d, pv'.2.2 = .slice B m d ∧ Own w' lo 3 B m d (ints .i64 p'.2.2))
    (hap : ∀ b, pv'.2.2.ownBlock = some b → A.map (·.block) ≠ some b ∧ ∀ (i : Nat) (pv : PV), i ≠ k → pvs[i]? = some pv → pv.2.2.ownBlock ≠ some b) : OwnP w' lo A n c (pvs.set k pv') (ps.set k p') := by
  have hl := h.len
  refine ⟨hrow, by simp [h.2.1], fun i pv p hv hp => ?_, fun i pv hv b hb => ?_, fun i j pi pj hij hi hj b hbi hbj => ?_⟩
  · by_cases hik : i = k
    · subst hik
      rw [List.getElem?_set_self (by omega)] at hv hp
      injection hv with hv
      injection hp with hp
      subst hv hp
      exact hnew
    · rw [List.getElem?_set_ne (by omega)] at hv hp
      obtain ⟨k0, k1, B, m, d, k2, hO⟩ := h.2.2.1 i pv p hv hp
      exact ⟨k0, k1, B, m, d, k2, hO.heapEqP fun b hb => hsame i pv hik hv b (by rw [k2]; exact hb)⟩
  · by_cases hik : i = k
    · subst hik
      rw [List.getElem?_set_self (by omega)] at hv
      injection hv with hv
      subst hv
      exact (hap b hb).1
    · rw [List.getElem?_set_ne (by omega)] at hv
      exact h.2.2.2.1 i pv hv b hb
  · by_cases hik : i = k
    · subst hik
      rw [List.getElem?_set_self (by omega)] at hi
      injection hi with hi
      subst hi
      rw [List.getElem?_set_ne (by omega)] at hj
      exact (hap b hbi).2 j pj (by omega) hj hbj
    · rw [List.getElem?_set_ne (by omega)] at hi
      by_cases hjk : j = k
      · subst hjk
        rw [List.getElem?_set_self (by omega)] at hj
        injection hj with hj
        subst hj
        exact (hap b hbj).2 i pi hik hi hbi
      · rw [List.getElem?_set_ne (by omega)] at hj
        exact h.2.2.2.2 i j pi pj hij hi hj b hbi hbj
/-- One port more: made behind the world wa, in which the list stood. -/
theorem OwnP.snoc {wa : World} {lo' : Nat} {ps' : List Port} (hw : OwnP w lo A n c pvs ps) (hv : OwnP wa lo' A n c pvs ps') (hsz : wa.heap.size ≤ w.heap.size) {X : Option Addr} {m d : Nat} {p : Port} (hlo : lo ≤ wa.heap.size) (hx : Own w wa.heap.size 3 X m d (ints .i64 p.2.2)) :
    ∀ g cap w', w'.ownsRow lo 32 3 (.slice (some ⟨g, 0, none⟩) (n + 1) cap) (n + 1) (flatP (pvs ++ [(p.1, p.2.1, .slice X m d)])) → w.grownBy w' (A.map (·.block)) → (A.map (·.block) = some g ∨ w.heap.size ≤ g) → OwnP w' lo (some ⟨g, 0, none⟩) (n + 1) cap (pvs ++ [(p.1, p.2.1, .slice X m d)]) (ps ++ [p]) := by
  have hl := hw.len
  have hXb : ∀ b, (Value.slice X m d).ownBlock = some b → wa.heap.size ≤ b ∧ b < w.heap.size := fun b hb => blk_lt hx hb
  have hAb : ∀ b, A.map (·.block) = some b → b < wa.heap.size := fun b hb => (hv.row hb).2
  intro g cap w' hO hg hat
  have cases_ : ∀ (i : Nat) (pv : PV), (pvs ++ [((p.1, p.2.1, .slice X m d) : PV)])[i]? = some pv → (pvs[i]? = some pv ∧ i < n) ∨ (i = n ∧ pv = (p.1, p.2.1, .slice X m d)) := fun i pv h => by
    by_cases hi : i < pvs.length
    · rw [List.getElem?_append_left hi] at h; exact .inl ⟨h, by omega⟩
    · have h2 := (List.getElem?_eq_some_iff.1 h).1
      simp at h2
      have h3 : i = pvs.length := by omega
      subst h3
      rw [List.getElem?_append_right (Nat.le_refl _), Nat.sub_self] at h
      simp at h
      exact .inr ⟨hl.1, h.symm⟩
  refine ⟨hO, by simp [hw.2.1], fun i pv q hvi hqi => ?_, fun i pv hvi b hb he => ?_, fun i j pi pj hij hi hj b hbi hbj => ?_⟩
  · rcases cases_ i pv hvi with ⟨h1, h2⟩ | ⟨rfl, rfl⟩
    · rw [List.getElem?_append_left (by omega)] at hqi
      obtain ⟨k0, k1, B, q', r, k2, hB⟩ := hw.2.2.1 i pv q h1 hqi
      refine ⟨k0, k1, B, q', r, k2, hB.heapEqP fun b hb => hg.block b (blk_lt hB hb).2 fun e => ?_⟩
      exact hv.2.2.2.1 i pv h1 b (by rw [k2]; exact hb) e.symm
    · rw [List.getElem?_append_right (by omega), hl.2, Nat.sub_self] at hqi
      simp at hqi
      subst hqi
      refine ⟨rfl, rfl, X, m, d, rfl, (hx.mono hlo).heapEqP fun b hb => hg.block b (hXb b hb).2 fun e => ?_⟩
      have h1 := hAb b e.symm
      have h2 := (hXb b hb).1
      omega
  · injection he with he
    have he' : g = b := he
    subst he'
    rcases cases_ i pv hvi with ⟨h1, h2⟩ | ⟨rfl, rfl⟩
    · rcases hat with h3 | h3
      · exact hv.2.2.2.1 i pv h1 g hb h3
      · have := (hv.inner h1 hb).2; omega
    · have h4 := hXb g hb
      rcases hat with h3 | h3
      · have := hAb g h3; omega
      · omega
  · rcases cases_ i pi hi with ⟨h1, h2⟩ | ⟨rfl, rfl⟩
    · rcases cases_ j pj hj with ⟨h3, h4⟩ | ⟨rfl, rfl⟩
      · exact hv.2.2.2.2 i j pi pj hij h1 h3 b hbi hbj
      · have h5 := (hv.inner h1 hbi).2; have h6 := (hXb b hbj).1; omega
    · rcases cases_ j pj hj with ⟨h3, h4⟩ | ⟨rfl, rfl⟩
      · have h5 := (hv.inner h3 hbj).2; have h6 := (hXb b hbi).1; omega
      · exact hij rfl
theorem ownP_nil (w : World) (lo : Nat) : OwnP w lo none 0 0 [] [] := ⟨World.ownsRow_nil _ _ _ _, rfl, (fun i v p hv _ => by simp at hv), (fun i v hv => by simp at hv), (fun i j vi vj _ hi => by simp at hi)⟩
theorem ownP_lit (w : World) (lo : Nat) (hlo : lo ≤ w.heap.size) : OwnP (w.alloc (.cells #[] 32)) lo (some ⟨w.heap.size, 0, none⟩) 0 0 [] [] :=
  ⟨World.ownsRow_lit w #[] 0 hlo (by unfold maxLen; omega) rfl, rfl, (fun i v p hv _ => by simp at hv), (fun i v hv => by simp at hv), (fun i j vi vj _ hi => by simp at hi)⟩
/-- Ports of nothing. -/
theorem ownP_made {g : Nat} (h : w.ownsRow lo 32 3 (.slice (some ⟨g, 0, none⟩) n c) n (flatP (List.replicate n (0, 0, .slice none 0 0)))) : OwnP w lo (some ⟨g, 0, none⟩) n c (List.replicate n (0, 0, .slice none 0 0)) (List.replicate n (0, 0, [])) := by
  refine ⟨h, by simp, fun i v p hv hp => ?_, fun i v hv b hb => ?_, fun i j vi vj _ hi _ b hb => ?_⟩
  · have h1 := List.mem_of_getElem? hv
    have h2 := List.mem_of_getElem? hp
    rw [List.mem_replicate] at h1 h2
    rw [h1.2, h2.2]
    exact ⟨rfl, rfl, none, 0, 0, rfl, World.ownsRow_nil _ _ _ _⟩
  · have h1 := List.mem_of_getElem? hv
    rw [List.mem_replicate] at h1
    rw [h1.2] at hb; cases hb
  · have h1 := List.mem_of_getElem? hi
    rw [List.mem_replicate] at h1
    rw [h1.2] at hb; cases hb
end

open Go.ChangeShapes Go.WideShapes Go.ChangeAt Go.Deep in
/-- Ports that came in. -/
theorem hasP_of_trod {H : Type} {enc : TypeId × Value → H} {P : Program} {W : World} {base : Nat} {held : Bool} {t e q : TypeId} {f0 f1 f2 : Field} {A : Option Addr} {n c : Nat} {d : DataW H} {p : List MemPlace}
    (ht : P.underlying t = some (.slice e)) (he : P.underlying e = some (.struct #[f0, f1, f2])) (hC : P.cellsOf e = 3) (hone : oneCellFields P #[f0, f1, f2] = true)
    (h0 : P.underlying f0.type = some (.int .i64)) (h1 : P.underlying f1.type = some (.int .i64)) (h2 : P.underlying f2.type = some (.slice q)) (hq : P.underlying q = some (.int .i64)) (cq : P.cellsOf q = 1) (h : DataW.Trod enc P W base (fun _ => true) held t (.slice A n c) d p) :
    ∃ ps, HasP W A n ps ∧ (∀ p ∈ ps, p.2.2.length ≤ maxLen) ∧ n ≤ c ∧ c ≤ maxLen := by
  obtain ⟨fuel, hf⟩ := h
  obtain ⟨o0, k0⟩ := hone_of hone 0 f0 rfl
  obtain ⟨o1, k1⟩ := hone_of hone 1 f1 rfl
  obtain ⟨o2, k2⟩ := hone_of hone 2 f2 rfl
  rcases open_slice ht hf with ⟨hcs, _⟩ | ⟨x, l, c', m, n', D, Pl, hcs, _, hl, hm, hmm, _, hi⟩
  · simp [Value.cells] at hcs
    obtain ⟨rfl, rfl, rfl⟩ := hcs
    exact ⟨[], ⟨rfl, fun i hi => absurd hi (by omega)⟩, (fun h hh => by cases hh), by simp, by simp⟩
  · simp [Value.cells] at hcs
    obtain ⟨rfl, rfl, rfl⟩ := hcs
    have hnm : n ≤ m := by rw [hmm]; split <;> omega
    have key : ∀ i : Nat, ∃ r : Port × Option Addr × Nat × Nat, i < n → W.cell? (x.add (i * 3 + 0)) = some (.int .i64 r.1.1) ∧ W.cell? (x.add (i * 3 + 1)) = some (.int .i64 r.1.2.1) ∧ W.cell? (x.add (i * 3 + 2)) = some (.slice r.2.1 r.2.2.1 r.2.2.2) ∧ r.2.2.1 ≤ r.2.2.2 ∧ r.2.2.2 ≤ maxLen ∧ Has W r.2.1 r.2.2.1 (ints .i64 r.1.2.2) := by
      intro i
      by_cases hin : i < n
      · obtain ⟨cs', hc, ht'⟩ := hi i (by omega)
        rw [hC] at hc
        obtain ⟨_, hcl, hat⟩ := World.cells?_some hc
        obtain ⟨y0, y1, y2, q', _, _, t0, t1, t2⟩ := trod_struct3 he ht'
        rw [o0, k0] at t0
        rw [o1, k1] at t1
        rw [o2, k2] at t2
        obtain ⟨a, ea, _, wa⟩ := DataW.trod_int h0 t0
        obtain ⟨b, eb, _, wb⟩ := DataW.trod_int h1 t1
        obtain ⟨B, L, C, ez⟩ := Go.Joins.slice_form h2 t2
        rw [ez] at t2
        obtain ⟨zs, H1, _, H2, H3⟩ := has_of_trod (k := .i64) h2 hq cq (show DataW.Trod enc P W base (fun _ => true) held f2.type (.slice B L C) y2.1 y2.2 from ⟨_, by simpa [Value.cells] using t2⟩)
        have g : ∀ j v, (cs'.drop j).take 1 = [v] → cs'[j]? = some v := fun j v e => by
          have h3 : ((cs'.drop j).take 1)[0]? = some v := by rw [e]; rfl
          simpa using h3
        refine ⟨((a, b, zs), B, L, C), fun _ => ⟨?_, ?_, ?_, H2, H3, H1⟩⟩
        · rw [← Go.Deep.add_add, hat 0 (by omega)]; exact g 0 _ ea
        · rw [← Go.Deep.add_add, hat 1 (by omega)]; exact g 1 _ eb
        · rw [← Go.Deep.add_add, hat 2 (by omega)]; exact g 2 _ ez
      · exact ⟨((0, 0, []), none, 0, 0), fun hh => absurd hh hin⟩
    obtain ⟨F, hF⟩ := Classical.axiomOfChoice key
    refine ⟨(List.range n).map fun i => (F i).1, ⟨by simp, fun i hin => ?_⟩, fun p hh => ?_, hl, hm⟩
    · obtain ⟨c0, c1, c2, c3, _, c4⟩ := hF i hin
      obtain ⟨b, off, spot⟩ := x
      have hspot : spot = none := by
        have c00 := (hF 0 (by omega)).1
        simpa [Addr.add] using World.cell?_spot c00
      subst hspot
      have hadd : ∀ k, (⟨b, off, none⟩ : Addr).add k = ⟨b, off + k, none⟩ := fun k => by unfold Addr.add; split <;> simp_all
      rw [hadd] at c0 c1 c2
      exact ⟨b, off, (F i).2.1, (F i).2.2.1, (F i).2.2.2, (F i).1, rfl, by simp [hin], by simpa using c0, by rw [show off + i * 3 + 1 = off + (i * 3 + 1) by omega]; exact c1, by rw [show off + i * 3 + 2 = off + (i * 3 + 2) by omega]; exact c2, c3, c4⟩
    · simp only [List.mem_map, List.mem_range] at hh
      obtain ⟨i, hin, rfl⟩ := hh
      obtain ⟨_, _, _, c3, c5, c4⟩ := hF i hin
      have := c4.len
      omega
end Go.Proofs.YtiokieancjigeaaDoor
