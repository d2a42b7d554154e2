/-
  Plain words for lists of slices of bytes: what is proved here is how such lists that came in, and those that a call made, are read and kept while a call goes on. No condition.
-/
import Derived.Test.YthcfjnedpffbbaaDoorList
namespace Go.Proofs.YthcfjnedpffbbaaDoor
open Go.RowKit

theorem Tryd.infoSlI : (Tryd.prog.info? 25).map (fun i => (i.zero, i.size, i.bytes)) = some (some (.slice none 0 0), 1, 24) := by kernel_rfl

/-- The slice at A with n elements reads as the lists zss. -/
def HasLI (w : World) (A : Option Addr) (n : Nat) (zss : List (List Int)) : Prop :=
  ∃ vs, Has w A n vs ∧ vs.length = zss.length ∧ ∀ (i : Nat) (v : Value) (zs : List Int), vs[i]? = some v → zss[i]? = some zs → ∃ B m c, v = .slice B m c ∧ m ≤ c ∧ Has w B m (ints .i64 zs)
/-- A list that the call made (from block lo on), with all its slices. -/
def OwnVI (w : World) (lo : Nat) (A : Option Addr) (n c : Nat) (vs : List Value) (zss : List (List Int)) : Prop :=
  Own w lo 25 A n c vs ∧ vs.length = zss.length ∧ (∀ (i : Nat) (v : Value) (zs : List Int), vs[i]? = some v → zss[i]? = some zs → ∃ B m d, v = .slice B m d ∧ Own w lo 3 B m d (ints .i64 zs)) ∧ Apart A vs
def OwnLI (w : World) (lo : Nat) (A : Option Addr) (n c : Nat) (zss : List (List Int)) : Prop := ∃ vs, OwnVI w lo A n c vs zss

section
variable {w w' wa : World} {lo n c : Nat} {A : Option Addr} {vs : List Value} {zss : List (List Int)}
theorem HasLI.len (h : HasLI w A n zss) : zss.length = n := by obtain ⟨vs, h1, h2, _⟩ := h; have := h1.1; omega
theorem HasLI.bel (h : HasLI w A n zss) (hb : Below w.heap.size w w') : HasLI w' A n zss := by
  obtain ⟨vs, h1, h2, h3⟩ := h
  refine ⟨vs, h1.bel hb, h2, fun i v zs hv hz => ?_⟩
  obtain ⟨B, m, d, rfl, hmd, hH⟩ := h3 i v zs hv hz
  exact ⟨B, m, d, rfl, hmd, hH.bel hb⟩
theorem HasLI.at_ (h : HasLI w A n zss) {i : Nat} (hi : i < n) :
    ∃ b o B m d zs, A = some ⟨b, o, none⟩ ∧ b < w.heap.size ∧ zss[i]? = some zs ∧ w.cell? ⟨b, o + i, none⟩ = some (.slice B m d) ∧ m ≤ d ∧ Has w B m (ints .i64 zs) := by
  obtain ⟨vs, h1, h2, h3⟩ := h
  obtain ⟨b, o, hA, hc⟩ := h1.2 i hi
  have hl := h1.1
  have hv : vs[i]? = some vs[i] := List.getElem?_eq_getElem (by omega)
  have hz : zss[i]? = some zss[i] := List.getElem?_eq_getElem (by omega)
  obtain ⟨B, m, d, hB, hmd, hH⟩ := h3 i _ _ hv hz
  rw [hv, hB] at hc
  exact ⟨b, o, B, m, d, _, hA, World.block_lt_of_cell? w _ hc, hz, hc, hmd, hH⟩
theorem OwnVI.has (h : OwnVI w lo A n c vs zss) : HasLI w A n zss :=
  ⟨vs, h.1.has, h.2.1, fun i v zs hv hz => by
    obtain ⟨B, m, d, rfl, hO⟩ := h.2.2.1 i v zs hv hz
    exact ⟨B, m, d, rfl, hO.cap, hO.has⟩⟩
theorem OwnLI.has (h : OwnLI w lo A n c zss) : HasLI w A n zss := by obtain ⟨vs, h⟩ := h; exact h.has
theorem OwnVI.bel (h : OwnVI w lo A n c vs zss) (hb : Below w.heap.size w w') : OwnVI w' lo A n c vs zss :=
  ⟨h.1.bel hb, h.2.1, fun i v zs hv hz => by
    obtain ⟨B, m, d, rfl, hO⟩ := h.2.2.1 i v zs hv hz
    exact ⟨B, m, d, rfl, hO.bel hb⟩, h.2.2.2⟩
theorem OwnLI.bel (h : OwnLI w lo A n c zss) (hb : Below w.heap.size w w') : OwnLI w' lo A n c zss := by obtain ⟨vs, h⟩ := h; exact ⟨vs, h.bel hb⟩
theorem OwnVI.mono {lo' : Nat} (h : OwnVI w lo A n c vs zss) (hl : lo' ≤ lo) : OwnVI w lo' A n c vs zss :=
  ⟨h.1.mono hl, h.2.1, fun i v zs hv hz => by
    obtain ⟨B, m, d, rfl, hO⟩ := h.2.2.1 i v zs hv hz
    exact ⟨B, m, d, rfl, hO.mono hl⟩, h.2.2.2⟩
theorem OwnLI.mono {lo' : Nat} (h : OwnLI w lo A n c zss) (hl : lo' ≤ lo) : OwnLI w lo' A n c zss := by obtain ⟨vs, h⟩ := h; exact ⟨vs, h.mono hl⟩
theorem OwnLI.cap (h : OwnLI w lo A n c zss) : n ≤ c := by obtain ⟨vs, h⟩ := h; exact h.1.cap
/-- The inner blocks of a list that the call made lie between lo and the end of the heap. -/
theorem OwnVI.inner (h : OwnVI w lo A n c vs zss) : ∀ v ∈ vs, ∀ b, v.ownBlock = some b → lo ≤ b ∧ b < w.heap.size := by
  intro v hv b hb
  obtain ⟨i, hi⟩ := List.getElem?_of_mem hv
  have hl := (List.getElem?_eq_some_iff.1 hi).1
  have hz : zss[i]? = some (zss[i]'(by rw [← h.2.1]; exact hl)) := List.getElem?_eq_getElem (by rw [← h.2.1]; exact hl)
  obtain ⟨B, m, d, rfl, hO⟩ := h.2.2.1 i v _ hi hz
  exact own_block_lt hO hb
theorem ownLI_nil (w : World) (lo : Nat) : OwnLI w lo none 0 0 [] := ⟨[], World.ownsRow_nil _ _ _ _, rfl, (fun i v zs hv _ => by simp at hv), ⟨(fun v hv => by cases hv), (fun i j vi vj _ hi => by simp at hi)⟩⟩
theorem ownVI_lit (w : World) (lo : Nat) (hlo : lo ≤ w.heap.size) : OwnVI (w.alloc (.cells #[] 25)) lo (some ⟨w.heap.size, 0, none⟩) 0 0 [] [] :=
  ⟨World.ownsRow_lit w #[] 0 hlo (by unfold maxLen; omega) rfl, rfl, (fun i v zs hv _ => by simp at hv), ⟨(fun v hv => by cases hv), (fun i j vi vj _ hv => by simp at hv)⟩⟩
theorem ownLI_lit (w : World) (lo : Nat) (hlo : lo ≤ w.heap.size) : OwnLI (w.alloc (.cells #[] 25)) lo (some ⟨w.heap.size, 0, none⟩) 0 0 [] :=
  ⟨[], World.ownsRow_lit w #[] 0 hlo (by unfold maxLen; omega) rfl, rfl, (fun i v zs hv _ => by simp at hv), ⟨(fun v hv => by cases hv), (fun i j vi vj _ hi => by simp at hi)⟩⟩

theorem OwnLI.stay (h : OwnLI w lo A n c zss) (hm : Mid lo w.heap.size w w') : HasLI w' A n zss := by
  obtain ⟨vs, h⟩ := h
  refine ⟨vs, h.1.has.stay (fun a ha => ?_), h.2.1, fun i v zs hv hz => ?_⟩
  · subst ha; exact hm _ h.1.block.1 h.1.block.2
  · obtain ⟨B, m, d, rfl, hO⟩ := h.2.2.1 i v zs hv hz
    refine ⟨B, m, d, rfl, hO.cap, hO.has.stay (fun a ha => ?_)⟩
    subst ha; exact hm _ hO.block.1 hO.block.2
/-- One slice more: made behind the world wa, in which the list stood. -/
theorem OwnVI.snocV {lo' : Nat} {zss' : List (List Int)} (hw : OwnVI w lo A n c vs zss) (hv : OwnVI wa lo' A n c vs zss') (hsz : wa.heap.size ≤ w.heap.size) {X : Option Addr} {m d : Nat} {zs : List Int} (hlo : lo ≤ wa.heap.size) (hx : Own w wa.heap.size 3 X m d (ints .i64 zs)) :
    ∀ g cap w', Own w' lo 25 (some ⟨g, 0, none⟩) (n + 1) cap (vs ++ [.slice X m d]) → w.grownBy w' (A.map (·.block)) → (A.map (·.block) = some g ∨ w.heap.size ≤ g) → OwnVI w' lo (some ⟨g, 0, none⟩) (n + 1) cap (vs ++ [.slice X m d]) (zss ++ [zs]) := by
  have hin := hv.inner
  have hA : ∀ b, A.map (·.block) = some b → b < wa.heap.size := fun b hb => (own_block_lt hv.1 (map_block hb n c)).2
  refine fun g cap w' hO hg hat => ⟨hO, by simp [hw.2.1], ?_, ?_, ?_⟩
  · intro i v zs' hvi hzi
    by_cases hi : i < vs.length
    · rw [List.getElem?_append_left hi] at hvi
      rw [List.getElem?_append_left (by rw [← hw.2.1]; exact hi)] at hzi
      obtain ⟨B, q, r, rfl, hB⟩ := hw.2.2.1 i v zs' hvi hzi
      refine ⟨B, q, r, rfl, hB.grown hg (fun a ha he => ?_)⟩
      subst ha
      exact hv.2.2.2.1 _ (List.mem_of_getElem? hvi) a.block rfl he.symm
    · have hi2 : i = vs.length := by
        have := (List.getElem?_eq_some_iff.1 hvi).1
        simp at this; omega
      subst hi2
      rw [List.getElem?_append_right (Nat.le_refl _), Nat.sub_self] at hvi
      rw [List.getElem?_append_right (by rw [hw.2.1]; exact Nat.le_refl _), hw.2.1, Nat.sub_self] at hzi
      simp at hvi hzi
      subst hvi hzi
      refine ⟨X, m, d, rfl, (hx.mono hlo).grown hg (fun a ha he => ?_)⟩
      subst ha
      have := hA _ he.symm
      have := hx.block
      omega
  · intro v hvm b hvb he
    injection he with he
    have he' : g = b := he
    subst he'
    rcases List.mem_append.1 hvm with hm | hm
    · rcases hat with h1 | h1
      · exact hv.2.2.2.1 v hm g hvb h1
      · have := (hin v hm g hvb).2
        omega
    · rw [List.mem_singleton.1 hm] at hvb
      have h2 := own_block_lt hx hvb
      rcases hat with h1 | h1
      · have := hA g h1; omega
      · omega
  · intro i j vi vj hij hvi hvj b hbi hbj
    have hj := (List.getElem?_eq_some_iff.1 hvj).1
    simp at hj
    by_cases hj2 : j < vs.length
    · rw [List.getElem?_append_left (by omega)] at hvi
      rw [List.getElem?_append_left hj2] at hvj
      exact hv.2.2.2.2 i j vi vj hij hvi hvj b hbi hbj
    · have hj3 : j = vs.length := by omega
      subst hj3
      rw [List.getElem?_append_left hij] at hvi
      rw [List.getElem?_append_right (Nat.le_refl _), Nat.sub_self] at hvj
      simp at hvj
      subst hvj
      have h1 := (hin vi (List.mem_of_getElem? hvi) b hbi).2
      have h2 := (own_block_lt hx hbj).1
      omega

theorem OwnVI.snoc {lo' : Nat} {zss' : List (List Int)} (hw : OwnVI w lo A n c vs zss) (hv : OwnVI wa lo' A n c vs zss') (hsz : wa.heap.size ≤ w.heap.size) {X : Option Addr} {m d : Nat} {zs : List Int} (hlo : lo ≤ wa.heap.size) (hx : Own w wa.heap.size 3 X m d (ints .i64 zs)) :
    ∀ g cap w', Own w' lo 25 (some ⟨g, 0, none⟩) (n + 1) cap (vs ++ [.slice X m d]) → w.grownBy w' (A.map (·.block)) → (A.map (·.block) = some g ∨ w.heap.size ≤ g) → OwnLI w' lo (some ⟨g, 0, none⟩) (n + 1) cap (zss ++ [zs]) := by
  have hin := hv.inner
  have hA : ∀ b, A.map (·.block) = some b → b < wa.heap.size := fun b hb => (own_block_lt hv.1 (map_block hb n c)).2
  refine fun g cap w' hO hg hat => ⟨vs ++ [.slice X m d], hO, by simp [hw.2.1], ?_, ?_, ?_⟩
  · intro i v zs' hvi hzi
    by_cases hi : i < vs.length
    · rw [List.getElem?_append_left hi] at hvi
      rw [List.getElem?_append_left (by rw [← hw.2.1]; exact hi)] at hzi
      obtain ⟨B, q, r, rfl, hB⟩ := hw.2.2.1 i v zs' hvi hzi
      refine ⟨B, q, r, rfl, hB.grown hg (fun a ha he => ?_)⟩
      subst ha
      exact hv.2.2.2.1 _ (List.mem_of_getElem? hvi) a.block rfl he.symm
    · have hi2 : i = vs.length := by
        have := (List.getElem?_eq_some_iff.1 hvi).1
        simp at this; omega
      subst hi2
      rw [List.getElem?_append_right (Nat.le_refl _), Nat.sub_self] at hvi
      rw [List.getElem?_append_right (by rw [hw.2.1]; exact Nat.le_refl _), hw.2.1, Nat.sub_self] at hzi
      simp at hvi hzi
      subst hvi hzi
      refine ⟨X, m, d, rfl, (hx.mono hlo).grown hg (fun a ha he => ?_)⟩
      subst ha
      have := hA _ he.symm
      have := hx.block
      omega
  · intro v hvm b hvb he
    injection he with he
    have he' : g = b := he
    subst he'
    rcases List.mem_append.1 hvm with hm | hm
    · rcases hat with h1 | h1
      · exact hv.2.2.2.1 v hm g hvb h1
      · have := (hin v hm g hvb).2
        omega
    · rw [List.mem_singleton.1 hm] at hvb
      have h2 := own_block_lt hx hvb
      rcases hat with h1 | h1
      · have := hA g h1; omega
      · omega
  · intro i j vi vj hij hvi hvj b hbi hbj
    have hj := (List.getElem?_eq_some_iff.1 hvj).1
    simp at hj
    by_cases hj2 : j < vs.length
    · rw [List.getElem?_append_left (by omega)] at hvi
      rw [List.getElem?_append_left hj2] at hvj
      exact hv.2.2.2.2 i j vi vj hij hvi hvj b hbi hbj
    · have hj3 : j = vs.length := by omega
      subst hj3
      rw [List.getElem?_append_left hij] at hvi
      rw [List.getElem?_append_right (Nat.le_refl _), Nat.sub_self] at hvj
      simp at hvj
      subst hvj
      have h1 := (hin vi (List.mem_of_getElem? hvi) b hbi).2
      have h2 := (own_block_lt hx hbj).1
      omega

theorem OwnLI.snoc (h : OwnLI wa lo A n c zss) (hb : Below wa.heap.size wa w) {X : Option Addr} {m d : Nat} {zs : List Int} (hlo : lo ≤ wa.heap.size) (hx : Own w wa.heap.size 3 X m d (ints .i64 zs)) :
    ∃ vs, Own w lo 25 A n c vs ∧ ∀ g cap w', Own w' lo 25 (some ⟨g, 0, none⟩) (n + 1) cap (vs ++ [.slice X m d]) → w.grownBy w' (A.map (·.block)) → (A.map (·.block) = some g ∨ w.heap.size ≤ g) → OwnLI w' lo (some ⟨g, 0, none⟩) (n + 1) cap (zss ++ [zs]) := by
  obtain ⟨vs, hv⟩ := h
  exact ⟨vs, (hv.bel hb).1, OwnVI.snoc (hv.bel hb) hv hb.size hlo hx⟩

/-- A list of nothing but nil slices. -/
theorem ownLI_made {g : Nat} (h : Own w lo 25 (some ⟨g, 0, none⟩) n c (List.replicate n (.slice none 0 0))) : OwnLI w lo (some ⟨g, 0, none⟩) n c (List.replicate n []) := by
  refine ⟨_, h, by simp, fun i v zs hv hz => ?_, fun v hv b hb => ?_, fun i j vi vj _ hi _ b hb => ?_⟩
  · have h1 := List.mem_of_getElem? hv
    have h2 := List.mem_of_getElem? hz
    rw [List.mem_replicate] at h1 h2
    rw [h1.2, h2.2]
    exact ⟨none, 0, 0, rfl, World.ownsRow_nil _ _ _ _⟩
  · rw [List.mem_replicate] at hv
    rw [hv.2] at hb; cases hb
  · have h1 := List.mem_of_getElem? hi
    rw [List.mem_replicate] at h1
    rw [h1.2] at hb; cases hb
/-- One slice put in its place: made behind the world wa, in which the list stood. -/
theorem OwnLI.put {g k m d : Nat} {X : Option Addr} {zs : List Int} (h : OwnLI wa lo (some ⟨g, 0, none⟩) n c zss) (hb : Below wa.heap.size wa w) (hlo : lo ≤ wa.heap.size) (hx : Own w wa.heap.size 3 X m d (ints .i64 zs)) (hk : k < n) :
    OwnLI (w.setCell ⟨g, k, none⟩ (.slice X m d)) lo (some ⟨g, 0, none⟩) n c (zss.set k zs) := by
  obtain ⟨vs, hv⟩ := h
  have hin := hv.inner
  have hw := hv.bel hb
  have hgl : g < wa.heap.size := hv.1.block.2
  have hl := hv.2.1
  have hvl : vs.length = n := by have := hv.1.1; omega
  have hgr : w.grownBy (w.setCell ⟨g, k, none⟩ (.slice X m d)) (some g) := grown_set (World.grownBy.refl w (some g)) k _
  have hXb : ∀ b, (Value.slice X m d).ownBlock = some b → wa.heap.size ≤ b := fun b hb' => (own_block_lt hx hb').1
  refine ⟨vs.set k (.slice X m d), hw.1.set_ k _, by simp [hl], fun i v zs' hvi hzi => ?_, fun v hvm b hvb he => ?_, fun i j vi vj hij hvi hvj b hbi hbj => ?_⟩
  · by_cases hik : i = k
    · subst hik
      rw [List.getElem?_set_self (by omega)] at hvi
      rw [List.getElem?_set_self (by omega)] at hzi
      injection hvi with hvi
      injection hzi with hzi
      subst hvi hzi
      refine ⟨X, m, d, rfl, (hx.mono hlo).grown hgr (fun a ha he => ?_)⟩
      subst ha
      injection he with he
      have := hx.block; omega
    · rw [List.getElem?_set_ne (by omega)] at hvi hzi
      obtain ⟨B, q, r, rfl, hB⟩ := hw.2.2.1 i v zs' hvi hzi
      refine ⟨B, q, r, rfl, hB.grown hgr (fun a ha he => ?_)⟩
      subst ha
      exact hv.2.2.2.1 _ (List.mem_of_getElem? hvi) a.block rfl he.symm
  · injection he with he
    have he' : g = b := he
    subst he'
    rcases List.mem_or_eq_of_mem_set hvm with hm | hm
    · exact hv.2.2.2.1 v hm g hvb rfl
    · subst hm
      have := hXb g hvb; omega
  · by_cases hik : i = k
    · subst hik
      rw [List.getElem?_set_self (by omega)] at hvi
      injection hvi with hvi
      subst hvi
      rw [List.getElem?_set_ne (by omega)] at hvj
      have h1 := hXb b hbi
      have h2 := (hin vj (List.mem_of_getElem? hvj) b hbj).2
      omega
    · rw [List.getElem?_set_ne (by omega)] at hvi
      by_cases hjk : j = k
      · subst hjk
        rw [List.getElem?_set_self (by omega)] at hvj
        injection hvj with hvj
        subst hvj
        have h1 := hXb b hbj
        have h2 := (hin vi (List.mem_of_getElem? hvi) b hbi).2
        omega
      · rw [List.getElem?_set_ne (by omega)] at hvj
        exact hv.2.2.2.2 i j vi vj hij hvi hvj b hbi hbj
/-- One slice of a list is marked. -/
theorem OwnVI.mark {k m d : Nat} {X : Option Addr} {zs' : List Int} (h : OwnVI w lo A n c vs zss) (hk : vs[k]? = some (.slice X m d)) (hO : Own w' lo 3 X m d (ints .i64 zs')) (hg : w.grownBy w' (X.map (·.block))) : OwnVI w' lo A n c vs (zss.set k zs') := by
  have hkl := (List.getElem?_eq_some_iff.1 hk).1
  refine ⟨h.1.grown hg (fun a ha he => ?_), by simp [h.2.1], fun i v zs hv hz => ?_, h.2.2.2⟩
  · subst ha
    exact h.2.2.2.1 _ (List.mem_of_getElem? hk) a.block (map_block he.symm m d) rfl
  · by_cases hik : i = k
    · subst hik
      rw [hk] at hv
      injection hv with hv
      rw [List.getElem?_set_self (by rw [← h.2.1]; exact hkl)] at hz
      injection hz with hz
      subst hv hz
      exact ⟨X, m, d, rfl, hO⟩
    · rw [List.getElem?_set_ne (by omega)] at hz
      obtain ⟨B, q, r, rfl, hB⟩ := h.2.2.1 i v zs hv hz
      refine ⟨B, q, r, rfl, hB.grown hg (fun a ha he => ?_)⟩
      subst ha
      have hX := map_block he.symm m d
      rcases Nat.lt_or_ge i k with hlt | hge
      · exact h.2.2.2.2 i k _ _ hlt hv hk a.block rfl hX
      · exact h.2.2.2.2 k i _ _ (by omega) hk hv a.block hX rfl
theorem OwnVI.bounds (h : OwnVI w lo A n c vs zss) {i : Nat} (hi : InL A vs i) : lo ≤ i ∧ i < w.heap.size := by
  rcases hi with h1 | ⟨v, hv, h1⟩
  · exact own_block_lt h.1 (map_block h1 n c)
  · exact h.inner v hv i h1
theorem OwnVI.heapEq (h : OwnVI w lo A n c vs zss) (he : ∀ i, InL A vs i → w'.heap[i]? = w.heap[i]?) : OwnVI w' lo A n c vs zss :=
  ⟨h.1.heapEq (fun ad hA => he _ (.inl (by rw [hA]; rfl))), h.2.1, fun i v zs hv hz => by
    obtain ⟨B, m, d, rfl, hO⟩ := h.2.2.1 i v zs hv hz
    exact ⟨B, m, d, rfl, hO.heapEq (fun ad hA => he _ (.inr ⟨_, List.mem_of_getElem? hv, by rw [hA]; rfl⟩))⟩, h.2.2.2⟩
/-- The slice at B, made before the list, is marked. -/
theorem OwnVI.later {B : Option Addr} (h : OwnVI w lo A n c vs zss) (hB : ∀ ad, B = some ad → ad.block < lo) (k : w.grownBy w' (B.map (·.block))) : OwnVI w' lo A n c vs zss :=
  h.heapEq (fun i hi => k.block i (h.bounds hi).2 (fun e => by
    cases B with
    | none => cases e
    | some ad => have h1 := hB ad rfl; have h2 := (h.bounds hi).1; injection e with e; have e' : i = ad.block := e; omega))
/-- The slice at B, made behind the list, is marked. -/
theorem OwnVI.earlier {B : Option Addr} {z : World} {lo' : Nat} {zss' : List (List Int)} (h : OwnVI w lo A n c vs zss) (h0 : OwnVI z lo' A n c vs zss') (hB : ∀ ad, B = some ad → z.heap.size ≤ ad.block) (k : w.grownBy w' (B.map (·.block))) : OwnVI w' lo A n c vs zss :=
  h.heapEq (fun i hi => k.block i (h.bounds hi).2 (fun e => by
    cases B with
    | none => cases e
    | some ad => have h1 := hB ad rfl; have h2 := (h0.bounds hi).2; injection e with e; have e' : i = ad.block := e; omega))
/-- Nothing below block B is written, and the list lies there. -/
theorem OwnVI.under {B : Nat} {z : World} {lo' : Nat} {zss' : List (List Int)} (h : OwnVI w lo A n c vs zss) (h0 : OwnVI z lo' A n c vs zss') (hb : Below B w w') (hz : z.heap.size ≤ B) : OwnVI w' lo A n c vs zss :=
  h.heapEq (fun i hi => hb.block i (by have := (h0.bounds hi).2; omega))
end
theorem OwnVI.past {w w' : World} {lo n c r : Nat} {A : Option Addr} {vs : List Value} {zss : List (List Int)} (h : OwnVI w lo A n c vs zss) (hr : r < lo) (hg : w.grownBy w' (some r)) : OwnVI w' lo A n c vs zss :=
  h.later (B := some ⟨r, 0, none⟩) (fun ad hh => by injection hh with hh; subst hh; exact hr) hg
theorem OwnLI.past {w w' : World} {lo n c r : Nat} {A : Option Addr} {zss : List (List Int)} (h : OwnLI w lo A n c zss) (hr : r < lo) (hg : w.grownBy w' (some r)) : OwnLI w' lo A n c zss := by
  obtain ⟨vs, h⟩ := h; exact ⟨vs, h.past hr hg⟩
end Go.Proofs.YthcfjnedpffbbaaDoor
