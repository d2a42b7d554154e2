/-
  Lists of slices of rows of three, and slices of rows of four: what is proved here is how they are read, made, appended to and stored. No condition.
-/
import Derived.Test.YtkmdpmhaljieaaaRowsK
import Derived.Test.YtkmdpmhaljieaaaMathCab
import Derived.Test.YtkmdpmhaljieaaaListI
namespace Go.Proofs.Ytkmdpmhaljieaaa
open Go.RowKit

/-- A list of slices of ends of cables that the call made. -/
def OwnVE (w : World) (lo g n : Nat) (vs : List Value) (es : List (List Cab)) : Prop :=
  Own w lo 98 (some ⟨g, 0, none⟩) n n vs ∧ vs.length = es.length ∧
  (∀ (i : Nat) (v : Value) (zs : List Cab), vs[i]? = some v → es[i]? = some zs → ∃ B m d, v = .slice B m d ∧ OwnK w lo 100 B m d (zs.map triOf)) ∧
  ∀ (i j : Nat) (vi vj : Value), i < j → vs[i]? = some vi → vs[j]? = some vj → ∀ b, vi.ownBlock = some b → vj.ownBlock ≠ some b
def OwnE (w : World) (lo g n : Nat) (es : List (List Cab)) : Prop := ∃ vs, OwnVE w lo g n vs es
/-- Such a list as it is read. -/
def HasE (w : World) (A : Option Addr) (n : Nat) (es : List (List Cab)) : Prop :=
  es.length = n ∧ ∀ i, i < n → ∃ b o B m d zs, A = some ⟨b, o, none⟩ ∧ es[i]? = some zs ∧ w.cell? ⟨b, o + i, none⟩ = some (.slice B m d) ∧ HasK w B m (zs.map triOf)
theorem ownK_block {w : World} {lo : Nat} {e : TypeId} {B : Option Addr} {m d b : Nat} {hs : List Tri} (h : OwnK w lo e B m d hs) (hb : (Value.slice B m d).ownBlock = some b) : lo ≤ b ∧ b < w.heap.size := World.ownsRow.lt h b hb
theorem ownK_type {w : World} {lo : Nat} {e : TypeId} {B : Option Addr} {m d b : Nat} {hs : List Tri} (h : OwnK w lo e B m d hs) (hb : (Value.slice B m d).ownBlock = some b) : ∃ cur fz, w.heap[b]? = some (.cells cur e fz) := by
  rcases h.2 with ⟨hv, _⟩ | ⟨g, cap, cur, hv, _, hg, _⟩
  · cases hv; cases hb
  · cases hv
    have : g = b := by simpa [Value.ownBlock] using hb
    subst this
    exact ⟨cur, _, hg⟩
theorem own_type {w : World} {lo : Nat} {e : TypeId} {g n c : Nat} {xs : List Value} (h : Own w lo e (some ⟨g, 0, none⟩) n c xs) : ∃ cur fz, w.heap[g]? = some (.cells cur e fz) := by
  rcases h.2 with ⟨hv, _⟩ | ⟨g', cap, cur, hv, _, hg, _⟩
  · cases hv
  · cases hv
    exact ⟨cur, _, hg⟩
section
variable {w w' : World} {lo g n : Nat} {vs : List Value} {es : List (List Cab)}
theorem OwnVE.len (h : OwnVE w lo g n vs es) : es.length = n := by have h1 := h.1.has.1; have h2 := h.2.1; omega
theorem OwnVE.has (h : OwnVE w lo g n vs es) : HasE w (some ⟨g, 0, none⟩) n es := by
  refine ⟨h.len, fun i hi => ?_⟩
  obtain ⟨u, hu, hc, _⟩ := h.1.at_ hi
  obtain ⟨z, hz⟩ : ∃ z, es[i]? = some z := ⟨_, List.getElem?_eq_getElem (by rw [h.len]; exact hi)⟩
  obtain ⟨B, m, d, rfl, hO⟩ := h.2.2.1 i u _ hu hz
  exact ⟨g, 0, B, m, d, _, rfl, hz, by rw [Nat.zero_add]; exact hc, hO.has⟩
theorem OwnVE.bel (h : OwnVE w lo g n vs es) (hb : Below w.heap.size w w') : OwnVE w' lo g n vs es :=
  ⟨h.1.bel hb, h.2.1, fun i v zs hv hz => by
    obtain ⟨B, m, d, rfl, hO⟩ := h.2.2.1 i v zs hv hz
    exact ⟨B, m, d, rfl, hO.bel hb⟩, h.2.2.2⟩
theorem HasE.bel {A : Option Addr} (h : HasE w A n es) (hb : Below w.heap.size w w') : HasE w' A n es := by
  refine ⟨h.1, fun i hi => ?_⟩
  obtain ⟨b, o, B, m, d, zs, hA, hz, hc, hK⟩ := h.2 i hi
  exact ⟨b, o, B, m, d, zs, hA, hz, (hb.cell (p := ⟨b, o + i, none⟩) (World.block_lt_of_cell? w _ hc)).trans hc, hK.bel hb⟩
theorem HasE.len {A : Option Addr} (h : HasE w A n es) : es.length = n := h.1
/-- A list of nothing but nil slices. -/
theorem ownVE_made (h : Own w lo 98 (some ⟨g, 0, none⟩) n n (List.replicate n (.slice none 0 0))) : OwnVE w lo g n (List.replicate n (.slice none 0 0)) (List.replicate n []) := by
  refine ⟨h, by simp, fun i v zs hv hz => ?_, fun i j vi vj _ hi _ b hb => ?_⟩
  · have h1 := List.mem_of_getElem? hv
    have h2 := List.mem_of_getElem? hz
    rw [List.mem_replicate] at h1 h2
    rw [h1.2, h2.2]
    exact ⟨none, 0, 0, rfl, World.ownsRow_nil _ _ _ _⟩
  · have h1 := List.mem_of_getElem? hi
    rw [List.mem_replicate] at h1
    rw [h1.2] at hb; cases hb
/-- One end more in one of the slices. -/
theorem OwnVE.push {a m d g2 d2 : Nat} {B : Option Addr} {zs : List Cab} {x : Cab} (h : OwnVE w lo g n vs es) (hv : vs[a]? = some (.slice B m d)) (hz : es[a]? = some zs)
    (h2 : OwnK w' lo 100 (some ⟨g2, 0, none⟩) (m + 1) d2 ((zs ++ [x]).map triOf)) (hg : w.grownBy w' (B.map (·.block))) (hat : B.map (·.block) = some g2 ∨ w.heap.size ≤ g2) :
    OwnVE (w'.setCell ⟨g, a, none⟩ (.slice (some ⟨g2, 0, none⟩) (m + 1) d2)) lo g n (vs.set a (.slice (some ⟨g2, 0, none⟩) (m + 1) d2)) (es.set a (zs ++ [x])) ∧ Own w' lo 98 (some ⟨g, 0, none⟩) n n vs := by
  have hl := h.2.1
  have hal := (List.getElem?_eq_some_iff.1 hv).1
  have hvl : vs.length = n := h.1.has.1
  obtain ⟨_, _, _, hB, hOB⟩ := h.2.2.1 a _ zs hv hz
  injection hB with q1 q2 q3
  subst q1 q2 q3
  -- the list's own block is none of the slices'
  have hgne : ∀ (i : Nat) (v : Value) (b : Nat), vs[i]? = some v → v.ownBlock = some b → b ≠ g := fun i v b hi hb e => by
    subst e
    obtain ⟨zi, hzi⟩ : ∃ z, es[i]? = some z := ⟨_, List.getElem?_eq_getElem (by rw [← hl]; exact (List.getElem?_eq_some_iff.1 hi).1)⟩
    obtain ⟨B', m', d', rfl, hO⟩ := h.2.2.1 i v _ hi hzi
    obtain ⟨c1, f1, e1⟩ := ownK_type hO hb
    obtain ⟨c2, f2, e2⟩ := own_type h.1
    rw [e1] at e2
    injection e2 with e2
    injection e2 with _ e2
    exact absurd e2 (by decide)
  have hBne : B.map (·.block) ≠ some g := fun e => hgne a _ g hv (by cases B <;> simp_all [Value.ownBlock]) rfl
  have hO1 : Own w' lo 98 (some ⟨g, 0, none⟩) n n vs := h.1.grown hg (fun ad ha e => by cases ha; exact hBne e.symm)
  have hgl : g < w.heap.size := h.1.block.2
  have hg2 : g2 ≠ g := by
    rcases hat with e | e
    · intro e2; rw [e2] at e; exact hBne e
    · omega
  have hgr : w'.grownBy (w'.setCell ⟨g, a, none⟩ (.slice (some ⟨g2, 0, none⟩) (m + 1) d2)) (some g) := grown_set (World.grownBy.refl w' (some g)) a _
  have keep : ∀ {B' : Option Addr} {m' d' : Nat} {hs : List Tri}, OwnK w' lo 100 B' m' d' hs → (∀ b, (Value.slice B' m' d').ownBlock = some b → b ≠ g) → OwnK (w'.setCell ⟨g, a, none⟩ (.slice (some ⟨g2, 0, none⟩) (m + 1) d2)) lo 100 B' m' d' hs := fun hO hne =>
    World.ownsRow.kept hO hgr (by
      cases hb : (Value.slice _ _ _).ownBlock with
      | none => exact .inl rfl
      | some b => exact .inr (fun e => hne b hb (by injection e)))
  have other : ∀ (i : Nat) (v : Value) (b : Nat), i ≠ a → vs[i]? = some v → v.ownBlock = some b → b ≠ g2 := fun i v b hia hi hb e => by
    subst e
    rcases hat with e | e
    · rcases Nat.lt_or_ge i a with hlt | hge
      · exact h.2.2.2 i a _ _ hlt hi hv b hb (by cases B <;> simp_all [Value.ownBlock])
      · exact h.2.2.2 a i _ _ (by omega) hv hi b (by cases B <;> simp_all [Value.ownBlock]) hb
    · obtain ⟨zi, hzi⟩ : ∃ z, es[i]? = some z := ⟨_, List.getElem?_eq_getElem (by rw [← hl]; exact (List.getElem?_eq_some_iff.1 hi).1)⟩
      obtain ⟨B', m', d', rfl, hO⟩ := h.2.2.1 i v _ hi hzi
      have := ownK_block hO hb
      omega
  refine ⟨⟨hO1.set_ a _, by simp [hl], fun i v zs' hvi hzi => ?_, fun i j vi vj hij hvi hvj b hbi hbj => ?_⟩, hO1⟩
  · by_cases hia : i = a
    · subst hia
      rw [List.getElem?_set_self hal] at hvi
      rw [List.getElem?_set_self (by rw [← hl]; exact hal)] at hzi
      injection hvi with hvi
      injection hzi with hzi
      subst hvi hzi
      refine ⟨_, _, _, rfl, keep h2 (fun b hb e => ?_)⟩
      have : g2 = b := by simpa [Value.ownBlock] using hb
      omega
    · rw [List.getElem?_set_ne (Ne.symm hia)] at hvi hzi
      obtain ⟨B', m', d', rfl, hO⟩ := h.2.2.1 i v zs' hvi hzi
      refine ⟨_, _, _, rfl, keep (World.ownsRow.kept hO hg ?_) (fun b hb => hgne i _ b hvi hb)⟩
      cases hb : (Value.slice B' m' d').ownBlock with
      | none => exact .inl rfl
      | some b =>
        refine .inr (fun e => ?_)
        rcases Nat.lt_or_ge i a with hlt | hge
        · exact h.2.2.2 i a _ _ hlt hvi hv b hb (by cases B <;> simp_all [Value.ownBlock])
        · exact h.2.2.2 a i _ _ (by omega) hv hvi b (by cases B <;> simp_all [Value.ownBlock]) hb
  · by_cases hia : i = a
    · subst hia
      rw [List.getElem?_set_self hal] at hvi
      injection hvi with hvi
      subst hvi
      rw [List.getElem?_set_ne (by omega)] at hvj
      have : g2 = b := by simpa [Value.ownBlock] using hbi
      exact other j vj b (by omega) hvj hbj this.symm
    · rw [List.getElem?_set_ne (Ne.symm hia)] at hvi
      by_cases hja : j = a
      · subst hja
        rw [List.getElem?_set_self hal] at hvj
        injection hvj with hvj
        subst hvj
        have : g2 = b := by simpa [Value.ownBlock] using hbj
        exact other i vi b hia hvi hbi this.symm
      · rw [List.getElem?_set_ne (Ne.symm hja)] at hvj
        exact h.2.2.2 i j vi vj hij hvi hvj b hbi hbj
end

/- Rows of four. -/
def flat4 : List (List Int) → List Value
  | [] => []
  | x :: xs => .int .i64 (gi x 0) :: .int .i64 (gi x 1) :: .int .i64 (gi x 2) :: .int .i64 (gi x 3) :: flat4 xs
theorem flat4_len (cl : List (List Int)) : (flat4 cl).length = cl.length * 4 := by
  induction cl with
  | nil => rfl
  | cons d ds ih => simp only [flat4, List.length_cons, ih]; omega
theorem flat4_at (cl : List (List Int)) (i : Nat) (h : i < cl.length) : (flat4 cl)[i * 4]? = some (.int .i64 (gi (clmAt cl i) 0)) ∧ (flat4 cl)[i * 4 + 1]? = some (.int .i64 (gi (clmAt cl i) 1)) ∧ (flat4 cl)[i * 4 + 2]? = some (.int .i64 (gi (clmAt cl i) 2)) ∧ (flat4 cl)[i * 4 + 3]? = some (.int .i64 (gi (clmAt cl i) 3)) := by
  induction cl generalizing i with
  | nil => simp at h
  | cons d ds ih =>
    cases i with
    | zero => simp [flat4, clmAt]
    | succ i =>
      have := ih i (by simpa using h)
      have e : (i + 1) * 4 = i * 4 + 1 + 1 + 1 + 1 := by omega
      rw [e]
      simpa [flat4, clmAt] using this
theorem flat4_set (cl : List (List Int)) (i : Nat) (x : List Int) : flat4 (cl.set i x) = ((((flat4 cl).set (i * 4) (.int .i64 (gi x 0))).set (i * 4 + 1) (.int .i64 (gi x 1))).set (i * 4 + 2) (.int .i64 (gi x 2))).set (i * 4 + 3) (.int .i64 (gi x 3)) := by
  induction cl generalizing i with
  | nil => rfl
  | cons e ds ih =>
    cases i with
    | zero => simp [flat4]
    | succ i =>
      have e1 : (i + 1) * 4 = i * 4 + 1 + 1 + 1 + 1 := by omega
      rw [e1]
      simp [flat4, ih]
theorem flat4_zeros (n : Nat) : flat4 (List.replicate n [0, 0, 0, 0]) = List.replicate (n * 4) (.int .i64 0) := by
  induction n with
  | zero => rfl
  | succ n ih =>
    rw [List.replicate_succ, flat4, ih, show (n + 1) * 4 = n * 4 + 1 + 1 + 1 + 1 by omega, List.replicate_succ, List.replicate_succ, List.replicate_succ, List.replicate_succ]
    rfl
theorem made_zeros4 (n : Nat) : (madeCells (Value.cells (.agg #[.int .i64 0, .int .i64 0, .int .i64 0, .int .i64 0])) (n * 4)).toList = flat4 (List.replicate n [0, 0, 0, 0]) := by
  rw [flat4_zeros]
  apply List.ext_getElem?
  intro j
  by_cases hj : j < n * 4
  · have h3 : j % 4 = 0 ∨ j % 4 = 1 ∨ j % 4 = 2 ∨ j % 4 = 3 := by omega
    rcases h3 with h3 | h3 | h3 | h3 <;> simp [madeCells, hj, h3, Value.cells]
  · simp [madeCells, hj]
/-- A slice of claims as it is read. -/
def HasC (w : World) (A : Option Addr) (n : Nat) (cl : List (List Int)) : Prop :=
  cl.length = n ∧ ∀ i, i < n → ∃ b o, A = some ⟨b, o, none⟩ ∧ w.cell? ⟨b, o + i * 4, none⟩ = some (.int .i64 (gi (clmAt cl i) 0)) ∧ w.cell? ⟨b, o + i * 4 + 1, none⟩ = some (.int .i64 (gi (clmAt cl i) 1)) ∧ w.cell? ⟨b, o + i * 4 + 2, none⟩ = some (.int .i64 (gi (clmAt cl i) 2)) ∧ w.cell? ⟨b, o + i * 4 + 3, none⟩ = some (.int .i64 (gi (clmAt cl i) 3))
/-- A slice of claims that the call made. -/
def OwnC (w : World) (lo : Nat) (A : Option Addr) (n c : Nat) (cl : List (List Int)) : Prop := w.ownsRow lo 69 4 (.slice A n c) n (flat4 cl)
section
variable {w w' : World} {lo n c g : Nat} {A : Option Addr} {cl : List (List Int)}
theorem HasC.bel (h : HasC w A n cl) (hb : Below w.heap.size w w') : HasC w' A n cl :=
  ⟨h.1, fun i hi => by
    obtain ⟨b, o, hA, c0, c1, c2, c3⟩ := h.2 i hi
    have hlt : b < w.heap.size := World.block_lt_of_cell? w ⟨b, o + i * 4, none⟩ c0
    exact ⟨b, o, hA, (hb.cell (p := ⟨b, o + i * 4, none⟩) hlt).trans c0, (hb.cell (p := ⟨b, o + i * 4 + 1, none⟩) hlt).trans c1, (hb.cell (p := ⟨b, o + i * 4 + 2, none⟩) hlt).trans c2, (hb.cell (p := ⟨b, o + i * 4 + 3, none⟩) hlt).trans c3⟩⟩
theorem OwnC.len (h : OwnC w lo A n c cl) : cl.length = n := by have := h.1; rw [flat4_len] at this; omega
theorem OwnC.has (h : OwnC w lo A n c cl) : HasC w A n cl := by
  have hl := h.len
  refine ⟨hl, fun i hi => ?_⟩
  obtain ⟨g, cap, hv, _, _⟩ := World.ownsRow.form h (by omega)
  injection hv with hA _ hcap
  subst hA hcap
  obtain ⟨e0, e1, e2, e3⟩ := flat4_at cl i (by omega)
  refine ⟨g, 0, rfl, ?_, ?_, ?_, ?_⟩
  · rw [Nat.zero_add]; exact (World.ownsRow.cellAt h _ (by omega)).trans e0
  · rw [Nat.zero_add]; exact (World.ownsRow.cellAt h _ (by omega)).trans e1
  · rw [Nat.zero_add]; exact (World.ownsRow.cellAt h _ (by omega)).trans e2
  · rw [Nat.zero_add]; exact (World.ownsRow.cellAt h _ (by omega)).trans e3
theorem OwnC.bel (h : OwnC w lo A n c cl) (hb : Below w.heap.size w w') : OwnC w' lo A n c cl :=
  World.ownsRow.kept h (grown_of_below hb) (by cases hA : (Value.slice A n c).ownBlock <;> simp)
theorem OwnC.mono {lo' : Nat} (h : OwnC w lo A n c cl) (hl : lo' ≤ lo) : OwnC w lo' A n c cl := by
  refine ⟨h.1, ?_⟩
  rcases h.2 with h' | ⟨g, cap, cur, hv, hb, r⟩
  · exact .inl h'
  · exact .inr ⟨g, cap, cur, hv, by omega, r⟩
theorem OwnC.block (h : OwnC w lo (some ⟨g, 0, none⟩) n c cl) : lo ≤ g ∧ g < w.heap.size := World.ownsRow.lt h g rfl
def put4 (w : World) (g i : Nat) (x : List Int) : World :=
  (((w.setCell ⟨g, i * 4, none⟩ (.int .i64 (gi x 0))).setCell ⟨g, i * 4 + 1, none⟩ (.int .i64 (gi x 1))).setCell ⟨g, i * 4 + 2, none⟩ (.int .i64 (gi x 2))).setCell ⟨g, i * 4 + 3, none⟩ (.int .i64 (gi x 3))
theorem OwnC.put (h : OwnC w lo (some ⟨g, 0, none⟩) n c cl) (i : Nat) (x : List Int) : OwnC (put4 w g i x) lo (some ⟨g, 0, none⟩) n c (cl.set i x) ∧ w.grownBy (put4 w g i x) (some g) := by
  obtain ⟨q1, r1⟩ := World.ownsRow.stored h (i * 4) (.int .i64 (gi x 0))
  obtain ⟨q2, r2⟩ := World.ownsRow.stored q1 (i * 4 + 1) (.int .i64 (gi x 1))
  obtain ⟨q3, r3⟩ := World.ownsRow.stored q2 (i * 4 + 2) (.int .i64 (gi x 2))
  obtain ⟨q4, r4⟩ := World.ownsRow.stored q3 (i * 4 + 3) (.int .i64 (gi x 3))
  refine ⟨?_, gr_trans (gr_trans (gr_trans r1 r2) r3) r4⟩
  unfold OwnC
  rw [flat4_set]
  exact q4
theorem OwnC.at_ (h : OwnC w lo (some ⟨g, 0, none⟩) n c cl) {i : Nat} (hi : i < n) :
    w.cell? ⟨g, i * 4, none⟩ = some (.int .i64 (gi (clmAt cl i) 0)) ∧ w.cell? ⟨g, i * 4 + 1, none⟩ = some (.int .i64 (gi (clmAt cl i) 1)) ∧ w.cell? ⟨g, i * 4 + 2, none⟩ = some (.int .i64 (gi (clmAt cl i) 2)) ∧ w.cell? ⟨g, i * 4 + 3, none⟩ = some (.int .i64 (gi (clmAt cl i) 3)) := by
  have hl := h.len
  obtain ⟨e0, e1, e2, e3⟩ := flat4_at cl i (by omega)
  exact ⟨(World.ownsRow.cellAt h _ (by omega)).trans e0, (World.ownsRow.cellAt h _ (by omega)).trans e1, (World.ownsRow.cellAt h _ (by omega)).trans e2, (World.ownsRow.cellAt h _ (by omega)).trans e3⟩
theorem OwnC.frozen (h : OwnC w lo (some ⟨g, 0, none⟩) n c cl) : ∀ j, w.frozen? ⟨g, j, none⟩ = false := World.ownsRow.frozenAt h
end
theorem four_list {x : List Int} (h : x.length = 4) : x = [gi x 0, gi x 1, gi x 2, gi x 3] := by
  match x, h with
  | [a, b, c, d], _ => rfl
theorem cells4 {w : World} {B : Nat} {x y z u : Value} {t : TypeId} (h : w.heap[B]? = some (.cells #[x, y, z, u] t (0, 0))) :
    w.cell? ⟨B, 0, none⟩ = some x ∧ w.cell? ⟨B, 1, none⟩ = some y ∧ w.cell? ⟨B, 2, none⟩ = some z ∧ w.cell? ⟨B, 3, none⟩ = some u :=
  ⟨(cell_of_row w B 0 _ t (0, 0) h).trans rfl, (cell_of_row w B 1 _ t (0, 0) h).trans rfl, (cell_of_row w B 2 _ t (0, 0) h).trans rfl, (cell_of_row w B 3 _ t (0, 0) h).trans rfl⟩
theorem Try.infoClaim : (Try.prog.info? 69).map (fun i => (i.zero, i.size, i.bytes)) = some (some (.agg #[.int .i64 0, .int .i64 0, .int .i64 0, .int .i64 0]), 4, 32) := by kernel_rfl
theorem Try.infoEnd : (Try.prog.info? 100).map (fun i => (i.zero, i.size, i.bytes)) = some (some (.agg #[.int .i64 0, .int .i64 0, .int .i64 0]), 3, 24) := by kernel_rfl
theorem Try.infoSlE : (Try.prog.info? 98).map (fun i => (i.zero, i.size, i.bytes)) = some (some (.slice none 0 0), 1, 24) := by kernel_rfl
end Go.Proofs.Ytkmdpmhaljieaaa
