/-
  Chapter 7's plain mathematics: which bridges are joined, their roots, what it costs to come to them, the tree, and what bridges claim. No condition.
-/
import Derived.Test.YtkmdpmhaljieaaaBits
namespace Go.Proofs.Ytkmdpmhaljieaaa
open Go.RowKit

theorem getD_set_ne {α : Type} (l : List α) (i j : Nat) (v d : α) (h : i ≠ j) : (l.set i v).getD j d = l.getD j d := by
  rw [List.getD_eq_getElem?_getD, List.getD_eq_getElem?_getD, List.getElem?_set_ne h]
theorem getD_set_eq {α : Type} (l : List α) (i : Nat) (v d : α) (h : i < l.length) : (l.set i v).getD i d = v := by
  rw [List.getD_eq_getElem?_getD, List.getElem?_set_self h]; rfl
theorem getD_set_or {α : Type} (l : List α) (i j : Nat) (v d : α) : (l.set i v).getD j d = if i = j ∧ i < l.length then v else l.getD j d := by
  by_cases h : i = j
  · subst h
    by_cases hl : i < l.length
    · rw [getD_set_eq _ _ _ _ hl, if_pos ⟨rfl, hl⟩]
    · rw [if_neg (fun x => hl x.2), List.set_eq_of_length_le (by omega)]
  · rw [getD_set_ne _ _ _ _ _ h, if_neg (fun x => h x.1)]
def iter {α : Type} (f : α → α) : Nat → α → α
  | 0, x => x
  | n + 1, x => f (iter f n x)
theorem iter_inv {α : Type} {f : α → α} {P : α → Prop} (hf : ∀ x, P x → P (f x)) {x : α} (h : P x) : ∀ n, P (iter f n x)
  | 0 => h
  | n + 1 => hf _ (iter_inv hf h n)
theorem iter_fix {α : Type} {f : α → α} {x : α} {k : Nat} (h : f (iter f k x) = iter f k x) : ∀ m, iter f (k + m) x = iter f k x
  | 0 => rfl
  | m + 1 => by show f (iter f (k + m) x) = _; rw [iter_fix h m, h]

/- How many below n are so. -/
open Classical in
noncomputable def cnt (P : Nat → Prop) : Nat → Nat
  | 0 => 0
  | n + 1 => cnt P n + if P n then 1 else 0
theorem cnt_le (P : Nat → Prop) : ∀ n, cnt P n ≤ n
  | 0 => Nat.le_refl 0
  | n + 1 => by have := cnt_le P n; unfold cnt; split <;> omega
theorem cnt_mono {P Q : Nat → Prop} : ∀ n, (∀ v, v < n → P v → Q v) → cnt P n ≤ cnt Q n
  | 0, _ => Nat.le_refl 0
  | n + 1, h => by
    have := cnt_mono n (fun v hv => h v (by omega)); unfold cnt
    by_cases hp : P n
    · rw [if_pos hp, if_pos (h n (by omega) hp)]; omega
    · rw [if_neg hp]; split <;> omega
theorem cnt_lt {P Q : Nat → Prop} : ∀ n, (∀ v, v < n → P v → Q v) → (∃ v, v < n ∧ Q v ∧ ¬ P v) → cnt P n < cnt Q n
  | 0, _, h => by obtain ⟨v, hv, _⟩ := h; omega
  | n + 1, h, hx => by
    have hm := cnt_mono n (fun v hv => h v (by omega))
    obtain ⟨v, hv, hq, hp⟩ := hx
    unfold cnt
    by_cases e : v = n
    · subst e; rw [if_neg hp, if_pos hq]; omega
    · have := cnt_lt n (fun v hv => h v (by omega)) ⟨v, by omega, hq, hp⟩
      by_cases hp : P n
      · rw [if_pos hp, if_pos (h n (by omega) hp)]; omega
      · rw [if_neg hp]; split <;> omega
theorem cnt_full {P : Nat → Prop} : ∀ n, n ≤ cnt P n → ∀ v, v < n → P v
  | 0, _, v, hv => by omega
  | n + 1, h, v, hv => by
    have hl := cnt_le P n
    unfold cnt at h
    by_cases hp : P n
    · by_cases e : v = n
      · exact e ▸ hp
      · rw [if_pos hp] at h; exact cnt_full n (by omega) v (by omega)
    · rw [if_neg hp] at h; omega
theorem cnt_pos {P : Nat → Prop} {n v : Nat} (hv : v < n) (hp : P v) : 1 ≤ cnt P n := by
  have h0 : ∀ m, cnt (fun _ => False) m = 0 := fun m => by
    induction m with
    | zero => rfl
    | succ m ih => unfold cnt; rw [ih, if_neg (fun h => h)]
  have := cnt_lt (P := fun _ => False) (Q := P) n (fun _ _ h => h.elim) ⟨v, hv, hp, fun h => h⟩
  rw [h0] at this; omega
/-- What has one in the beginning, and grows until all are in it, has all of them after n - 1 steps. -/
theorem grow_full (S : Nat → Nat → Prop) (n : Nat) (h0 : ∃ v, v < n ∧ S 0 v) (hm : ∀ k v, v < n → S k v → S (k + 1) v) (hg : ∀ k, (∃ v, v < n ∧ ¬ S k v) → ∃ v, v < n ∧ ¬ S k v ∧ S (k + 1) v) :
    ∀ k, n ≤ k + 1 → ∀ v, v < n → S k v := by
  have key : ∀ k, k + 1 ≤ cnt (S k) n ∨ n ≤ cnt (S k) n := fun k => by
    induction k with
    | zero => obtain ⟨v, hv, h⟩ := h0; exact Or.inl (cnt_pos hv h)
    | succ k ih =>
      by_cases hf : ∀ v, v < n → S k v
      · refine Or.inr ?_
        have hall : ∀ m, m ≤ n → m ≤ cnt (S (k + 1)) m := fun m hmn => by
          induction m with
          | zero => exact Nat.le_refl 0
          | succ m ih2 => have := ih2 (by omega); unfold cnt; rw [if_pos (hm k m (by omega) (hf m (by omega)))]; omega
        exact hall n (Nat.le_refl n)
      · have hx : ∃ v, v < n ∧ ¬ S k v := Classical.byContradiction fun hno => hf fun v hv => Classical.byContradiction fun hs => hno ⟨v, hv, hs⟩
        obtain ⟨v, hv, h1, h2⟩ := hg k hx
        have := cnt_lt n (hm k) ⟨v, hv, h2, h1⟩
        rcases ih with ih | ih
        · exact Or.inl (by omega)
        · exact Or.inr (by omega)
  intro k hk
  rcases key k with h | h
  · exact cnt_full n (by omega)
  · exact cnt_full n h
theorem cnt_congr {P Q : Nat → Prop} (n : Nat) (h : ∀ v, v < n → (P v ↔ Q v)) : cnt P n = cnt Q n :=
  Nat.le_antisymm (cnt_mono n fun v hv => (h v hv).1) (cnt_mono n fun v hv => (h v hv).2)
theorem cnt_not (P : Nat → Prop) : ∀ n, cnt P n + cnt (fun v => ¬ P v) n = n
  | 0 => rfl
  | n + 1 => by
    have := cnt_not P n
    unfold cnt
    by_cases h : P n
    · rw [if_pos h, if_neg (fun x => x h)]; omega
    · rw [if_neg h, if_pos h]; omega
theorem cnt_yes {P : Nat → Prop} {n : Nat} (h : P n) : cnt P (n + 1) = cnt P n + 1 := by rw [cnt, if_pos h]
theorem cnt_no {P : Nat → Prop} {n : Nat} (h : ¬ P n) : cnt P (n + 1) = cnt P n := by rw [cnt, if_neg h]; rfl
theorem cnt_dec (P : Nat → Prop) [DecidablePred P] : ∀ n, cnt P n = ((List.range n).filter (fun v => decide (P v))).length
  | 0 => rfl
  | n + 1 => by
    rw [List.range_succ, List.filter_append, List.length_append, ← cnt_dec P n]
    by_cases h : P n
    · rw [cnt_yes h]; simp [h]
    · rw [cnt_no h]; simp [h]
/-- The least below n that is so. -/
theorem least {P : Nat → Prop} (f : Nat → Nat) (n : Nat) (h : ∃ v, v < n ∧ P v) : ∃ v, v < n ∧ P v ∧ ∀ u, u < n → P u → f v ≤ f u := by
  have key : ∀ m, ∀ v, v < n → P v → f v ≤ m → ∃ v, v < n ∧ P v ∧ ∀ u, u < n → P u → f v ≤ f u := fun m => by
    induction m with
    | zero => exact fun v hv hp hm => ⟨v, hv, hp, fun u _ _ => by omega⟩
    | succ m ih =>
      intro v hv hp hm
      by_cases hx : ∃ u, u < n ∧ P u ∧ f u ≤ m
      · obtain ⟨u, hu, hpu, hfu⟩ := hx; exact ih u hu hpu hfu
      · exact ⟨v, hv, hp, fun u hu hpu => by
          have : ¬ f u ≤ m := fun hh => hx ⟨u, hu, hpu, hh⟩
          omega⟩
  obtain ⟨v, hv, hp⟩ := h
  exact key (f v) v hv hp (Nat.le_refl _)

/-- A cable between a and b at the cost k. -/
abbrev Cab := Nat × Nat × Nat
def cabOk (n : Nat) (c : Cab) : Prop := c.1 < n ∧ c.2.1 < n ∧ c.1 ≠ c.2.1 ∧ 1 ≤ c.2.2 ∧ c.2.2 ≤ 99
def cabsOk (n : Nat) (cs : List Cab) : Prop := ∀ c ∈ cs, cabOk n c
def Edge (cs : List Cab) (u v k : Nat) : Prop := (u, v, k) ∈ cs ∨ (v, u, k) ∈ cs
theorem Edge.symm {cs : List Cab} {u v k : Nat} (h : Edge cs u v k) : Edge cs v u k := h.elim Or.inr Or.inl
theorem Edge.ok {n : Nat} {cs : List Cab} (hc : cabsOk n cs) {u v k : Nat} (h : Edge cs u v k) : u < n ∧ v < n ∧ u ≠ v ∧ 1 ≤ k ∧ k ≤ 99 := by
  rcases h with h | h
  · exact hc _ h
  · obtain ⟨h1, h2, h3, h4, h5⟩ := hc _ h
    exact ⟨h2, h1, fun e => h3 e.symm, h4, h5⟩
theorem Edge.sub {cs ds : List Cab} (hs : ∀ c ∈ cs, c ∈ ds) {u v k : Nat} (h : Edge cs u v k) : Edge ds u v k := h.elim (fun h => Or.inl (hs _ h)) (fun h => Or.inr (hs _ h))
inductive Conn (cs : List Cab) (u : Nat) : Nat → Prop
  | refl : Conn cs u u
  | tail {v w k : Nat} : Conn cs u v → Edge cs v w k → Conn cs u w
theorem Conn.trans {cs : List Cab} {u v w : Nat} (h : Conn cs u v) (h2 : Conn cs v w) : Conn cs u w := by
  induction h2 with
  | refl => exact h
  | tail _ e ih => exact ih.tail e
theorem Conn.symm {cs : List Cab} {u v : Nat} (h : Conn cs u v) : Conn cs v u := by
  induction h with
  | refl => exact .refl
  | tail _ e ih => exact (Conn.tail .refl e.symm).trans ih
theorem Conn.sub {cs ds : List Cab} (hs : ∀ c ∈ cs, c ∈ ds) {u v : Nat} (h : Conn cs u v) : Conn ds u v := by
  induction h with
  | refl => exact .refl
  | tail _ e ih => exact ih.tail (e.sub hs)
theorem Conn.lt {n : Nat} {cs : List Cab} (hc : cabsOk n cs) {u v : Nat} (hu : u < n) (h : Conn cs u v) : v < n := by
  cases h with
  | refl => exact hu
  | tail _ e => exact (e.ok hc).2.1
theorem Conn.closed {cs : List Cab} {u : Nat} {P : Nat → Prop} (hu : P u) (hP : ∀ v w k, Edge cs v w k → P v → P w) {v : Nat} (h : Conn cs u v) : P v := by
  induction h with
  | refl => exact hu
  | tail _ e ih => exact hP _ _ _ e ih
theorem Conn.cross {cs : List Cab} {u v : Nat} {P : Nat → Prop} (hu : P u) (hv : ¬ P v) (h : Conn cs u v) : ∃ x y k, Conn cs u x ∧ Edge cs x y k ∧ P x ∧ ¬ P y := by
  induction h with
  | refl => exact (hv hu).elim
  | @tail x y k hx e ih =>
    by_cases hp : P x
    · exact ⟨x, y, k, hx, e, hp, hv⟩
    · exact ih hp

def hasB (l : List Bool) (v : Nat) : Bool := l.getD v false
/-- One cable joins its ends, if one of them is joined. -/
def relJ (l : List Bool) (c : Cab) : List Bool := if hasB l c.1 || hasB l c.2.1 then (l.set c.1 true).set c.2.1 true else l
def passJ (cs : List Cab) (l : List Bool) : List Bool := cs.foldl relJ l
def startJ (n b : Nat) : List Bool := (List.replicate n false).set b true
def joinedL (n : Nat) (cs : List Cab) (b : Nat) : List Bool := iter (passJ cs) n (startJ n b)
theorem relJ_len (l : List Bool) (c : Cab) : (relJ l c).length = l.length := by unfold relJ; split <;> simp
theorem passJ_len (cs : List Cab) : ∀ l : List Bool, (passJ cs l).length = l.length := by
  induction cs with
  | nil => exact fun l => rfl
  | cons c cs ih => exact fun l => (ih (relJ l c)).trans (relJ_len l c)
theorem startJ_len (n b : Nat) : (startJ n b).length = n := by simp [startJ]
theorem joined_len (n : Nat) (cs : List Cab) (b k : Nat) : (iter (passJ cs) k (startJ n b)).length = n :=
  iter_inv (P := fun l => l.length = n) (fun x h => (passJ_len cs x).trans h) (startJ_len n b) k
theorem relJ_has (l : List Bool) (c : Cab) (v : Nat) (h : hasB l v = true) : hasB (relJ l c) v = true := by
  unfold relJ; split
  · unfold hasB at *; rw [getD_set_or, getD_set_or]; split; rfl; split; rfl; exact h
  · exact h
theorem passJ_has (cs : List Cab) : ∀ (l : List Bool) (v : Nat), hasB l v = true → hasB (passJ cs l) v = true := by
  induction cs with
  | nil => exact fun l v h => h
  | cons c cs ih => exact fun l v h => ih _ _ (relJ_has l c v h)
theorem relJ_new {l : List Bool} {c : Cab} {v : Nat} (h : hasB (relJ l c) v = true) : hasB l v = true ∨ ((hasB l c.1 = true ∨ hasB l c.2.1 = true) ∧ (v = c.1 ∨ v = c.2.1)) := by
  unfold relJ at h; split at h
  · rename_i hc
    rw [Bool.or_eq_true] at hc
    unfold hasB at h ⊢
    rw [getD_set_or, getD_set_or] at h
    split at h
    · rename_i e; exact Or.inr ⟨hc, Or.inr e.1.symm⟩
    · split at h
      · rename_i e; exact Or.inr ⟨hc, Or.inl e.1.symm⟩
      · exact Or.inl h
  · exact Or.inl h
theorem joined_sound {n : Nat} {cs : List Cab} {b : Nat} : ∀ k v, hasB (iter (passJ cs) k (startJ n b)) v = true → Conn cs b v := by
  have hp : ∀ (ds : List Cab), (∀ c ∈ ds, c ∈ cs) → ∀ l : List Bool, (∀ v, hasB l v = true → Conn cs b v) → ∀ v, hasB (passJ ds l) v = true → Conn cs b v := by
    intro ds
    induction ds with
    | nil => exact fun _ l h => h
    | cons c ds ih =>
      refine fun hs l h => ih (fun x hx => hs x (List.mem_cons_of_mem _ hx)) _ fun v hv => ?_
      have hc : c ∈ cs := hs c List.mem_cons_self
      rcases relJ_new hv with h1 | ⟨h1 | h1, rfl | rfl⟩
      · exact h v h1
      · exact h _ h1
      · exact (h _ h1).tail (k := c.2.2) (Or.inl hc)
      · exact (h _ h1).tail (k := c.2.2) (Or.inr hc)
      · exact h _ h1
  intro k
  refine iter_inv (P := fun l => ∀ v, hasB l v = true → Conn cs b v) (hp cs fun _ h => h) (fun v hv => ?_) k
  unfold hasB startJ at hv
  rw [getD_set_or] at hv
  split at hv
  · rename_i e; exact e.1 ▸ .refl
  · rw [List.getD_eq_getElem?_getD, List.getElem?_replicate] at hv; split at hv <;> cases hv
theorem startJ_self {n b : Nat} (hb : b < n) : hasB (startJ n b) b = true := by
  unfold hasB startJ; rw [getD_set_eq _ _ _ _ (by simpa using hb)]
/-- A pass takes each end of a cable whose other end is joined. -/
theorem passJ_edge {n : Nat} {cs : List Cab} (hc : cabsOk n cs) {l : List Bool} (hl : l.length = n) {x y k : Nat} (he : Edge cs x y k) (hx : hasB l x = true) : hasB (passJ cs l) y = true := by
  have key : ∀ (ds : List Cab) (l : List Bool), l.length = n → cabsOk n ds → Edge ds x y k → hasB l x = true → hasB (passJ ds l) y = true := by
    intro ds
    induction ds with
    | nil => intro l _ _ he; rcases he with he | he <;> cases he
    | cons c ds ih =>
      intro l hl hd he hx
      by_cases hh : Edge ds x y k
      · exact ih _ ((relJ_len l c).trans hl) (fun z hz => hd z (List.mem_cons_of_mem _ hz)) hh (relJ_has l c x hx)
      · refine passJ_has ds _ _ ?_
        have hco := hd c List.mem_cons_self
        have hce : c = (x, y, k) ∨ c = (y, x, k) := by
          rcases he with he | he
          · rcases List.mem_cons.1 he with h1 | h1
            · exact Or.inl h1.symm
            · exact (hh (Or.inl h1)).elim
          · rcases List.mem_cons.1 he with h1 | h1
            · exact Or.inr h1.symm
            · exact (hh (Or.inr h1)).elim
        have h12 : hasB l c.1 || hasB l c.2.1 := by
          rcases hce with rfl | rfl
          · rw [Bool.or_eq_true]; exact Or.inl hx
          · rw [Bool.or_eq_true]; exact Or.inr hx
        unfold relJ
        rw [if_pos h12]
        unfold hasB
        rw [getD_set_or, getD_set_or, List.length_set, hl]
        rcases hce with rfl | rfl
        · rw [if_pos ⟨rfl, hco.2.1⟩]
        · split
          · rfl
          · rw [if_pos ⟨rfl, hco.1⟩]
  exact key cs l hl hc he hx
theorem joined_iff {n : Nat} {cs : List Cab} (hc : cabsOk n cs) {b : Nat} (hb : b < n) (v : Nat) : hasB (joinedL n cs b) v = true ↔ Conn cs b v := by
  refine ⟨joined_sound n v, fun h => ?_⟩
  have hv : v < n := h.lt hc hb
  refine Classical.byContradiction fun hno => ?_
  have hfull := grow_full (fun k u => hasB (iter (passJ cs) k (startJ n b)) u = true ∨ ¬ Conn cs b u) n ⟨b, hb, Or.inl (startJ_self hb)⟩
    (fun k u hu h => h.elim (fun h => Or.inl (passJ_has cs _ _ h)) Or.inr)
    (fun k ⟨u, hu, hn⟩ => by
      have hcu : Conn cs b u := Classical.byContradiction fun h => hn (Or.inr h)
      have hb0 : hasB (iter (passJ cs) k (startJ n b)) b = true :=
        iter_inv (P := fun l => hasB l b = true) (fun l h => passJ_has cs l b h) (startJ_self hb) k
      obtain ⟨x, y, kk, hx, he, h1, h2⟩ := Conn.cross (P := fun u => hasB (iter (passJ cs) k (startJ n b)) u = true) hb0 (fun h => hn (Or.inl h)) hcu
      refine ⟨y, (he.ok hc).2.1, fun h => h.elim h2 (fun h => h (hx.tail he)), Or.inl (passJ_edge hc (joined_len n cs b k) he h1)⟩)
    n (by omega) v hv
  exact hfull.elim hno (fun hx => hx h)

/-- The first that is true. -/
def firstT : List Bool → Nat
  | [] => 0
  | x :: l => if x then 0 else firstT l + 1
theorem firstT_at : ∀ (l : List Bool) (v : Nat), hasB l v = true → hasB l (firstT l) = true ∧ firstT l ≤ v
  | [], v, h => by cases h
  | x :: l, v, h => by
    unfold firstT
    cases x with
    | true => exact ⟨rfl, Nat.zero_le v⟩
    | false =>
      cases v with
      | zero => cases h
      | succ v => obtain ⟨h1, h2⟩ := firstT_at l v h; exact ⟨h1, Nat.succ_le_succ h2⟩
theorem firstT_not (l : List Bool) (i : Nat) (h : i < firstT l) : hasB l i = false := by
  cases hx : hasB l i
  · rfl
  · exact absurd (firstT_at l i hx).2 (by omega)
def rootN (n : Nat) (cs : List Cab) (b : Nat) : Nat := firstT (joinedL n cs b)
theorem root_conn {n : Nat} {cs : List Cab} (hc : cabsOk n cs) {b : Nat} (hb : b < n) : Conn cs b (rootN n cs b) :=
  (joined_iff hc hb _).1 (firstT_at _ b ((joined_iff hc hb b).2 .refl)).1
theorem root_least {n : Nat} {cs : List Cab} (hc : cabsOk n cs) {b v : Nat} (hb : b < n) (h : Conn cs b v) : rootN n cs b ≤ v :=
  (firstT_at _ v ((joined_iff hc hb v).2 h)).2
theorem root_le {n : Nat} {cs : List Cab} (hc : cabsOk n cs) {b : Nat} (hb : b < n) : rootN n cs b ≤ b := root_least hc hb .refl
theorem root_lt {n : Nat} {cs : List Cab} (hc : cabsOk n cs) {b : Nat} (hb : b < n) : rootN n cs b < n := by have := root_le hc hb; omega
theorem root_eq {n : Nat} {cs : List Cab} (hc : cabsOk n cs) {b v : Nat} (hb : b < n) (h : Conn cs b v) : rootN n cs b = rootN n cs v := by
  have hv := h.lt hc hb
  exact Nat.le_antisymm (root_least hc hb (h.trans (root_conn hc hv))) (root_least hc hv (h.symm.trans (root_conn hc hb)))
theorem root_root {n : Nat} {cs : List Cab} (hc : cabsOk n cs) {b : Nat} (hb : b < n) : rootN n cs (rootN n cs b) = rootN n cs b :=
  (root_eq hc hb (root_conn hc hb)).symm
theorem root_iff {n : Nat} {cs : List Cab} (hc : cabsOk n cs) {b v : Nat} (hb : b < n) (hv : v < n) : rootN n cs b = rootN n cs v ↔ Conn cs b v :=
  ⟨fun h => (root_conn hc hb).trans (h ▸ (root_conn hc hv).symm), root_eq hc hb⟩
theorem root_edge {n : Nat} {cs : List Cab} (hc : cabsOk n cs) {u v k : Nat} (h : Edge cs u v k) : rootN n cs u = rootN n cs v :=
  root_eq hc (h.ok hc).1 (Conn.refl.tail h)

def gn (l : List Nat) (v : Nat) : Nat := l.getD v 0
theorem gn_set (l : List Nat) (i x v : Nat) : gn (l.set i v) x = if i = x ∧ i < l.length then v else gn l x := getD_set_or l i x v 0
theorem gn_ext {a b : List Nat} (hl : a.length = b.length) (h : ∀ v, v < b.length → gn a v = gn b v) : a = b := by
  refine List.ext_getElem hl fun i h1 h2 => ?_
  have := h i h2
  unfold gn at this
  rw [List.getD_eq_getElem?_getD, List.getD_eq_getElem?_getD, List.getElem?_eq_getElem h1, List.getElem?_eq_getElem h2] at this
  exact this
/-- One end of a cable hears the other. -/
def rel1 (l : List Nat) (u v k : Nat) : List Nat := l.set u (min (gn l u) (gn l v + k))
def relC (l : List Nat) (c : Cab) : List Nat := rel1 (rel1 l c.1 c.2.1 c.2.2) c.2.1 c.1 c.2.2
def passC (cs : List Cab) (l : List Nat) : List Nat := cs.foldl relC l
def initC (n : Nat) (cs : List Cab) : List Nat := (List.range n).map fun b => if rootN n cs b = b then 0 else 10000
def costsN (n : Nat) (cs : List Cab) : List Nat := iter (passC cs) n (initC n cs)
theorem rel1_len (l : List Nat) (u v k : Nat) : (rel1 l u v k).length = l.length := by simp [rel1]
theorem relC_len (l : List Nat) (c : Cab) : (relC l c).length = l.length := (rel1_len _ _ _ _).trans (rel1_len _ _ _ _)
theorem passC_len (cs : List Cab) : ∀ l : List Nat, (passC cs l).length = l.length := by
  induction cs with
  | nil => exact fun l => rfl
  | cons c cs ih => exact fun l => (ih (relC l c)).trans (relC_len l c)
theorem initC_len (n : Nat) (cs : List Cab) : (initC n cs).length = n := by simp [initC]
theorem iterC_len (n : Nat) (cs : List Cab) (k : Nat) : (iter (passC cs) k (initC n cs)).length = n :=
  iter_inv (P := fun l => l.length = n) (fun x h => (passC_len cs x).trans h) (initC_len n cs) k
theorem costs_len (n : Nat) (cs : List Cab) : (costsN n cs).length = n := iterC_len n cs n
theorem rel1_le (l : List Nat) (u v k x : Nat) : gn (rel1 l u v k) x ≤ gn l x := by
  unfold rel1; rw [gn_set]; split
  · rename_i h; rw [← h.1]; omega
  · exact Nat.le_refl _
theorem relC_le (l : List Nat) (c : Cab) (x : Nat) : gn (relC l c) x ≤ gn l x := Nat.le_trans (rel1_le _ _ _ _ _) (rel1_le _ _ _ _ _)
theorem passC_le (cs : List Cab) : ∀ (l : List Nat) (x : Nat), gn (passC cs l) x ≤ gn l x := by
  induction cs with
  | nil => exact fun l x => Nat.le_refl _
  | cons c cs ih => exact fun l x => Nat.le_trans (ih (relC l c) x) (relC_le l c x)
theorem iterC_le (cs : List Cab) (l : List Nat) (x k : Nat) : ∀ m, gn (iter (passC cs) (k + m) l) x ≤ gn (iter (passC cs) k l) x
  | 0 => Nat.le_refl _
  | m + 1 => Nat.le_trans (passC_le cs _ x) (iterC_le cs l x k m)
theorem rel1_at (l : List Nat) (u v k : Nat) (hu : u < l.length) : gn (rel1 l u v k) u ≤ gn l v + k := by
  unfold rel1; rw [gn_set, if_pos ⟨rfl, hu⟩]; omega
theorem passC_edge {n : Nat} {x y k : Nat} : ∀ (cs : List Cab) (l : List Nat), l.length = n → cabsOk n cs → Edge cs x y k → gn (passC cs l) x ≤ gn l y + k := by
  intro ds
  induction ds with
  | nil => intro l _ _ he; rcases he with he | he <;> cases he
  | cons c ds ih =>
    intro l hl hd he
    by_cases hh : Edge ds x y k
    · have := ih (relC l c) ((relC_len l c).trans hl) (fun z hz => hd z (List.mem_cons_of_mem _ hz)) hh
      have := relC_le l c y
      show gn (passC ds (relC l c)) x ≤ _
      omega
    · have hco := hd c List.mem_cons_self
      have hce : c = (x, y, k) ∨ c = (y, x, k) := by
        rcases he with he | he
        · rcases List.mem_cons.1 he with h1 | h1
          · exact Or.inl h1.symm
          · exact (hh (Or.inl h1)).elim
        · rcases List.mem_cons.1 he with h1 | h1
          · exact Or.inr h1.symm
          · exact (hh (Or.inr h1)).elim
      refine Nat.le_trans (passC_le ds (relC l c) x) ?_
      rcases hce with rfl | rfl
      · exact Nat.le_trans (rel1_le _ _ _ _ _) (rel1_at l x y k (hl ▸ hco.1))
      · have h1 := rel1_at (rel1 l y x k) x y k (by rw [rel1_len, hl]; exact hco.2.1)
        have h2 := rel1_le l y x k y
        show gn (rel1 (rel1 l y x k) x y k) x ≤ _
        omega
/-- Each number is as in the beginning, or some cable's other end is as much less as the cable costs. -/
def SrcC (cs : List Cab) (I : Nat → Nat) (l : List Nat) : Prop := ∀ x, gn l x = I x ∨ ∃ y k, Edge cs x y k ∧ gn l y + k ≤ gn l x
theorem rel1_src {cs : List Cab} {I : Nat → Nat} {l : List Nat} {u v k : Nat} (he : Edge cs u v k) (h : SrcC cs I l) : SrcC cs I (rel1 l u v k) := by
  intro x
  have hle := rel1_le l u v k
  by_cases hx : gn (rel1 l u v k) x = gn l x
  · rw [hx]
    rcases h x with h | ⟨y, j, hy, hj⟩
    · exact Or.inl h
    · refine Or.inr ⟨y, j, hy, ?_⟩
      have := hle y; omega
  · have hux : u = x := by
      refine Classical.byContradiction fun hne => hx ?_
      unfold rel1; rw [gn_set, if_neg (fun h => hne h.1)]
    subst hux
    refine Or.inr ⟨v, k, he, ?_⟩
    have hv := hle v
    have : gn (rel1 l u v k) u = min (gn l u) (gn l v + k) := by
      unfold rel1 at hx ⊢; rw [gn_set] at hx ⊢; split at hx
      · rename_i hc; rw [if_pos hc]
      · exact (hx rfl).elim
    omega
theorem passC_src {cs : List Cab} {I : Nat → Nat} : ∀ (ds : List Cab), (∀ c ∈ ds, c ∈ cs) → ∀ l : List Nat, SrcC cs I l → SrcC cs I (passC ds l) := by
  intro ds
  induction ds with
  | nil => exact fun _ l h => h
  | cons c ds ih =>
    intro hs l h
    have hc : c ∈ cs := hs c List.mem_cons_self
    exact ih (fun x hx => hs x (List.mem_cons_of_mem _ hx)) _ (rel1_src (Or.inr hc) (rel1_src (Or.inl hc) h))
theorem sum_lt : ∀ (a b : List Nat), a.length = b.length → (∀ x, gn a x ≤ gn b x) → a = b ∨ a.sum < b.sum
  | [], [], _, _ => Or.inl rfl
  | [], _ :: _, h, _ => by simp at h
  | _ :: _, [], h, _ => by simp at h
  | x :: a, y :: b, h, hle => by
    have h0 : x ≤ y := hle 0
    have ht := sum_lt a b (by simpa using h) (fun i => hle (i + 1))
    rw [List.sum_cons, List.sum_cons]
    rcases ht with rfl | ht
    · by_cases e : x = y
      · exact Or.inl (by rw [e])
      · exact Or.inr (by omega)
    · exact Or.inr (by omega)
theorem iter_front {α : Type} (f : α → α) (x : α) : ∀ k, iter f k (f x) = iter f (k + 1) x
  | 0 => rfl
  | k + 1 => by show f (iter f k (f x)) = _; rw [iter_front f x k]; rfl
theorem fix_ex (cs : List Cab) : ∀ (m : Nat) (l : List Nat), l.sum ≤ m → ∃ N, passC cs (iter (passC cs) N l) = iter (passC cs) N l := by
  intro m
  induction m with
  | zero =>
    intro l hl
    rcases sum_lt _ _ (passC_len cs l) (passC_le cs l) with h | h
    · exact ⟨0, h⟩
    · omega
  | succ m ih =>
    intro l hl
    rcases sum_lt _ _ (passC_len cs l) (passC_le cs l) with h | h
    · exact ⟨0, h⟩
    · obtain ⟨N, hN⟩ := ih (passC cs l) (by omega)
      rw [iter_front] at hN
      exact ⟨N + 1, hN⟩
theorem initC_at {n : Nat} {cs : List Cab} {v : Nat} (hv : v < n) : gn (initC n cs) v = if rootN n cs v = v then 0 else 10000 := by
  unfold gn initC
  rw [List.getD_eq_getElem?_getD, List.getElem?_map, List.getElem?_range hv]; rfl
/-- After n passes another one changes nothing. -/
theorem costs_fix {n : Nat} {cs : List Cab} (hc : cabsOk n cs) : passC cs (costsN n cs) = costsN n cs := by
  obtain ⟨N, hN⟩ := fix_ex cs _ (initC n cs) (Nat.le_refl _)
  suffices h : costsN n cs = iter (passC cs) N (initC n cs) by rw [h]; exact hN
  have hlow : ∀ k v, gn (iter (passC cs) N (initC n cs)) v ≤ gn (iter (passC cs) k (initC n cs)) v := fun k v => by
    rw [← iter_fix hN k, Nat.add_comm]; exact iterC_le cs _ v k N
  have hsrc : SrcC cs (gn (initC n cs)) (iter (passC cs) N (initC n cs)) := iter_inv (P := SrcC cs (gn (initC n cs))) (fun l h => passC_src cs (fun _ h => h) l h) (fun x => Or.inl rfl) N
  by_cases h0 : n = 0
  · exact gn_ext ((costs_len n cs).trans (iterC_len n cs N).symm) fun v hv => by rw [iterC_len] at hv; omega
  refine gn_ext ((costs_len n cs).trans (iterC_len n cs N).symm) fun v hv => ?_
  rw [iterC_len] at hv
  refine grow_full (fun k v => gn (iter (passC cs) k (initC n cs)) v = gn (iter (passC cs) N (initC n cs)) v) n ?_ ?_ ?_ n (by omega) v hv
  · have hr := root_lt hc (b := 0) (by omega)
    refine ⟨rootN n cs 0, hr, ?_⟩
    have h1 := hlow 0 (rootN n cs 0)
    have h2 : gn (initC n cs) (rootN n cs 0) = 0 := by rw [initC_at hr, if_pos (root_root hc (by omega))]
    show gn (initC n cs) _ = _
    have h3 : gn (iter (passC cs) 0 (initC n cs)) (rootN n cs 0) = 0 := h2
    omega
  · intro k v _ h
    have h1 := passC_le cs (iter (passC cs) k (initC n cs)) v
    have h2 := hlow (k + 1) v
    show gn (passC cs (iter (passC cs) k (initC n cs))) v = _
    have h3 : gn (passC cs (iter (passC cs) k (initC n cs))) v = gn (iter (passC cs) (k + 1) (initC n cs)) v := rfl
    omega
  · intro k hx
    obtain ⟨v, hv, hno, hmin⟩ := least (gn (iter (passC cs) N (initC n cs))) n hx
    refine ⟨v, hv, hno, ?_⟩
    rcases hsrc v with h | ⟨y, j, hy, hj⟩
    · refine (hno ?_).elim
      have h1 := iterC_le cs (initC n cs) v 0 k
      rw [Nat.zero_add] at h1
      have h2 := hlow k v
      have h3 : gn (iter (passC cs) 0 (initC n cs)) v = gn (initC n cs) v := rfl
      show gn (iter (passC cs) k (initC n cs)) v = _
      omega
    · have hok := hy.ok hc
      have hin : gn (iter (passC cs) k (initC n cs)) y = gn (iter (passC cs) N (initC n cs)) y := Classical.byContradiction fun hh => by
        have := hmin y hok.2.1 hh; omega
      have h1 := passC_edge cs (iter (passC cs) k (initC n cs)) (iterC_len n cs k) hc hy
      have h2 := hlow (k + 1) v
      show gn (passC cs (iter (passC cs) k (initC n cs))) v = _
      have h3 : gn (passC cs (iter (passC cs) k (initC n cs))) v = gn (iter (passC cs) (k + 1) (initC n cs)) v := rfl
      omega
theorem cost_tri {n : Nat} {cs : List Cab} (hc : cabsOk n cs) {u v k : Nat} (h : Edge cs u v k) : gn (costsN n cs) u ≤ gn (costsN n cs) v + k := by
  have := passC_edge cs (costsN n cs) (costs_len n cs) hc h
  rwa [costs_fix hc] at this
theorem cost_src0 {n : Nat} {cs : List Cab} (hc : cabsOk n cs) (v : Nat) : gn (costsN n cs) v = gn (initC n cs) v ∨ ∃ u k, Edge cs v u k ∧ gn (costsN n cs) v = gn (costsN n cs) u + k := by
  have hsrc : SrcC cs (gn (initC n cs)) (costsN n cs) := iter_inv (P := SrcC cs (gn (initC n cs))) (fun l h => passC_src cs (fun _ h => h) l h) (fun x => Or.inl rfl) n
  rcases hsrc v with h | ⟨u, k, he, hk⟩
  · exact Or.inl h
  · have := cost_tri hc he
    exact Or.inr ⟨u, k, he, by omega⟩
theorem cost_root {n : Nat} {cs : List Cab} {v : Nat} (hv : v < n) (h : rootN n cs v = v) : gn (costsN n cs) v = 0 := by
  have h1 := iterC_le cs (initC n cs) v 0 n
  rw [Nat.zero_add] at h1
  have h2 : gn (iter (passC cs) 0 (initC n cs)) v = 0 := by show gn (initC n cs) v = 0; rw [initC_at hv, if_pos h]
  have h3 : gn (costsN n cs) v = gn (iter (passC cs) n (initC n cs)) v := rfl
  omega
theorem cost_zero {n : Nat} {cs : List Cab} (hc : cabsOk n cs) {v : Nat} (hv : v < n) : gn (costsN n cs) v = 0 ↔ rootN n cs v = v := by
  refine ⟨fun h => ?_, cost_root hv⟩
  rcases cost_src0 hc v with h1 | ⟨u, k, he, hk⟩
  · rw [initC_at hv] at h1
    by_cases hr : rootN n cs v = v
    · exact hr
    · rw [if_neg hr] at h1; omega
  · have := he.ok hc; omega
theorem cost_le {n : Nat} {cs : List Cab} (hc : cabsOk n cs) {v : Nat} (hv : v < n) : gn (costsN n cs) v ≤ 99 * n := by
  have hr := root_lt hc hv
  have hcv := root_conn hc hv
  have := grow_full (fun k u => Conn cs (rootN n cs v) u → gn (costsN n cs) u ≤ 99 * k) n ⟨rootN n cs v, hr, fun _ => by rw [cost_root hr (root_root hc hv)]; omega⟩
    (fun k u _ h hh => by have := h hh; omega)
    (fun k ⟨u, hu, hno⟩ => by
      have hcu : Conn cs (rootN n cs v) u := Classical.byContradiction fun h => hno fun hh => (h hh).elim
      have hbu : ¬ gn (costsN n cs) u ≤ 99 * k := fun h => hno fun _ => h
      obtain ⟨x, y, j, hx, he, h1, h2⟩ := Conn.cross (P := fun u => gn (costsN n cs) u ≤ 99 * k) (by show gn (costsN n cs) (rootN n cs v) ≤ _; rw [cost_root hr (root_root hc hv)]; omega) hbu hcu
      have hok := he.ok hc
      refine ⟨y, hok.2.1, fun h => h2 (h (hx.tail he)), fun _ => ?_⟩
      have := cost_tri hc he.symm
      omega) n (by omega) v hv hcv.symm
  exact this
theorem cost_src {n : Nat} {cs : List Cab} (hc : cabsOk n cs) (hn : n ≤ 8) {v : Nat} (hv : v < n) (h0 : gn (costsN n cs) v ≠ 0) : ∃ u k, Edge cs v u k ∧ gn (costsN n cs) v = gn (costsN n cs) u + k := by
  rcases cost_src0 hc v with h | h
  · have hb := cost_le hc hv
    rw [initC_at hv] at h
    split at h
    · exact (h0 h).elim
    · omega
  · exact h
/-- Numbers that come from cables are at least numbers that no cable lets be more. -/
theorem cost_mono {n : Nat} {F G : Nat → Nat} {E D : Nat → Nat → Nat → Prop} (h0 : ∀ v, v < n → F v = 0 → G v = 0) (hs : ∀ v, v < n → F v ≠ 0 → ∃ u k, E v u k ∧ u < n ∧ 1 ≤ k ∧ F v = F u + k) (hED : ∀ v u k, E v u k → D v u k) (ht : ∀ v u k, D v u k → G v ≤ G u + k) :
    ∀ v, v < n → G v ≤ F v := by
  have key : ∀ m v, v < n → F v ≤ m → G v ≤ F v := fun m => by
    induction m with
    | zero => intro v hv hm; rw [h0 v hv (by omega)]; omega
    | succ m ih =>
      intro v hv hm
      by_cases hz : F v = 0
      · rw [h0 v hv hz]; omega
      · obtain ⟨u, k, he, hu, hk, e⟩ := hs v hv hz
        have := ih u hu (by omega)
        have := ht v u k (hED _ _ _ he)
        omega
  exact fun v hv => key (F v) v hv (Nat.le_refl _)

def cab (cs : List Cab) (i : Nat) : Cab := cs.getD i (0, 0, 0)
theorem cab_mem {cs : List Cab} {i : Nat} (hi : i < cs.length) : cab cs i ∈ cs := by
  unfold cab; rw [List.getD_eq_getElem?_getD, List.getElem?_eq_getElem hi]; exact List.getElem_mem hi
theorem cab_of {cs : List Cab} {c : Cab} (h : c ∈ cs) : ∃ i, i < cs.length ∧ cab cs i = c := by
  obtain ⟨i, hi, e⟩ := List.getElem_of_mem h
  exact ⟨i, hi, by unfold cab; rw [List.getD_eq_getElem?_getD, List.getElem?_eq_getElem hi]; exact e⟩
/-- The other end of a cable. -/
def otherN (c : Cab) (b : Nat) : Option Nat := if b = c.1 then some c.2.1 else if b = c.2.1 then some c.1 else none
theorem other_edge {cs : List Cab} {i b o : Nat} (hi : i < cs.length) (h : otherN (cab cs i) b = some o) : Edge cs b o (cab cs i).2.2 := by
  have hm := cab_mem hi
  unfold otherN at h
  split at h
  · rename_i e; injection h with h; subst e h; exact Or.inl hm
  · split at h
    · rename_i e; injection h with h; subst e h; exact Or.inr hm
    · cases h
theorem edge_other {n : Nat} {cs : List Cab} (hc : cabsOk n cs) {b o k : Nat} (h : Edge cs b o k) : ∃ i, i < cs.length ∧ otherN (cab cs i) b = some o ∧ (cab cs i).2.2 = k := by
  have hok := h.ok hc
  rcases h with h | h
  · obtain ⟨i, hi, e⟩ := cab_of h
    exact ⟨i, hi, by rw [e]; simp [otherN], by rw [e]⟩
  · obtain ⟨i, hi, e⟩ := cab_of h
    exact ⟨i, hi, by rw [e]; simp [otherN, hok.2.2.1], by rw [e]⟩
theorem other_sum {c : Cab} {b o : Nat} (h : otherN c b = some o) : c.1 + c.2.1 = b + o ∧ (c.1 = o ∨ c.2.1 = o) := by
  unfold otherN at h
  split at h
  · rename_i e; injection h with h; omega
  · split at h
    · rename_i e; injection h with h; omega
    · cases h
/-- A cable over which a bridge comes to the root at its cost. -/
def UpC (cs : List Cab) (F : List Nat) (b i o : Nat) : Prop := otherN (cab cs i) b = some o ∧ gn F o + (cab cs i).2.2 = gn F b
def upStep (cs : List Cab) (F : List Nat) (b : Nat) (best : Option Nat) (i : Nat) : Option Nat :=
  match otherN (cab cs i) b with
  | none => best
  | some o => if gn F o + (cab cs i).2.2 = gn F b then
      match best with
      | none => some i
      | some j => if o < (otherN (cab cs j) b).getD 0 then some i else some j
    else best
def upTo (cs : List Cab) (F : List Nat) (b : Nat) : Nat → Option Nat
  | 0 => none
  | m + 1 => upStep cs F b (upTo cs F b m) m
def upN (cs : List Cab) (F : List Nat) (b : Nat) : Option Nat := if gn F b = 0 then none else upTo cs F b cs.length
theorem upTo_spec (cs : List Cab) (F : List Nat) (b : Nat) : ∀ m, (upTo cs F b m = none → ∀ i o, i < m → ¬ UpC cs F b i o) ∧ ∀ j, upTo cs F b m = some j → j < m ∧ ∃ o, UpC cs F b j o ∧ ∀ i q, i < m → UpC cs F b i q → o < q ∨ o = q ∧ j ≤ i
  | 0 => ⟨fun _ i o hi => by omega, fun j h => by cases h⟩
  | m + 1 => by
    obtain ⟨h1, h2⟩ := upTo_spec cs F b m
    show (upStep cs F b (upTo cs F b m) m = none → _) ∧ ∀ j, upStep cs F b (upTo cs F b m) m = some j → _
    generalize upTo cs F b m = best at *
    cases ho : otherN (cab cs m) b with
    | none =>
      have e : upStep cs F b best m = best := by unfold upStep; rw [ho]
      rw [e]
      have hm : ∀ q, ¬ UpC cs F b m q := fun q hq => by rw [hq.1] at ho; cases ho
      refine ⟨fun hb i o hi hu => ?_, fun j hj => ?_⟩
      · by_cases e : i = m
        · exact hm o (e ▸ hu)
        · exact h1 hb i o (by omega) hu
      · obtain ⟨a, o, b1, b2⟩ := h2 j hj
        refine ⟨by omega, o, b1, fun i q hi hu => ?_⟩
        by_cases e : i = m
        · exact (hm q (e ▸ hu)).elim
        · exact b2 i q (by omega) hu
    | some o =>
      by_cases hk : gn F o + (cab cs m).2.2 = gn F b
      · have hum : UpC cs F b m o := ⟨ho, hk⟩
        have huniq : ∀ q, UpC cs F b m q → q = o := fun q hq => by have := hq.1.symm.trans ho; injection this
        cases best with
        | none =>
          have e : upStep cs F b none m = some m := by unfold upStep; rw [ho]; exact if_pos hk
          rw [e]
          refine ⟨fun h => (by cases h), fun j hj => ?_⟩
          injection hj with hj; subst hj
          refine ⟨by omega, o, hum, fun i q hi hu => ?_⟩
          by_cases e : i = m
          · subst e; exact Or.inr ⟨(huniq q hu).symm, Nat.le_refl _⟩
          · exact (h1 rfl i q (by omega) hu).elim
        | some j0 =>
          obtain ⟨a, o0, b1, b2⟩ := h2 j0 rfl
          have e0 : (otherN (cab cs j0) b).getD 0 = o0 := by rw [b1.1]; rfl
          by_cases hlt : o < o0
          · have e : upStep cs F b (some j0) m = some m := by unfold upStep; rw [ho]; simp only [hk, if_true, e0, hlt]
            rw [e]
            refine ⟨fun h => (by cases h), fun j hj => ?_⟩
            injection hj with hj; subst hj
            refine ⟨by omega, o, hum, fun i q hi hu => ?_⟩
            by_cases e : i = m
            · subst e; exact Or.inr ⟨(huniq q hu).symm, Nat.le_refl _⟩
            · rcases b2 i q (by omega) hu with h | h
              · exact Or.inl (by omega)
              · exact Or.inl (by omega)
          · have e : upStep cs F b (some j0) m = some j0 := by unfold upStep; rw [ho]; simp only [hk, if_true, e0, hlt, if_false]
            rw [e]
            refine ⟨fun h => (by cases h), fun j hj => ?_⟩
            injection hj with hj; subst hj
            refine ⟨by omega, o0, b1, fun i q hi hu => ?_⟩
            by_cases e : i = m
            · subst e; have := huniq q hu; omega
            · exact b2 i q (by omega) hu
      · have e : upStep cs F b best m = best := by unfold upStep; rw [ho]; exact if_neg hk
        rw [e]
        have hm : ∀ q, ¬ UpC cs F b m q := fun q hq => by
          have := hq.1.symm.trans ho; injection this with h; subst h; exact hk hq.2
        refine ⟨fun hb i o hi hu => ?_, fun j hj => ?_⟩
        · by_cases e : i = m
          · exact hm o (e ▸ hu)
          · exact h1 hb i o (by omega) hu
        · obtain ⟨a, o, b1, b2⟩ := h2 j hj
          refine ⟨by omega, o, b1, fun i q hi hu => ?_⟩
          by_cases e : i = m
          · exact (hm q (e ▸ hu)).elim
          · exact b2 i q (by omega) hu
theorem up_some {cs : List Cab} {F : List Nat} {b j : Nat} (h : upN cs F b = some j) : gn F b ≠ 0 ∧ j < cs.length ∧ ∃ o, UpC cs F b j o ∧ ∀ i q, i < cs.length → UpC cs F b i q → o < q ∨ o = q ∧ j ≤ i := by
  unfold upN at h
  split at h
  · cases h
  · rename_i h0; exact ⟨h0, (upTo_spec cs F b cs.length).2 j h⟩
theorem up_none {n : Nat} {cs : List Cab} (hc : cabsOk n cs) (hn : n ≤ 8) {b : Nat} (hb : b < n) : upN cs (costsN n cs) b = none ↔ gn (costsN n cs) b = 0 := by
  refine ⟨fun h => Classical.byContradiction fun h0 => ?_, fun h => by unfold upN; rw [if_pos h]⟩
  unfold upN at h
  rw [if_neg h0] at h
  obtain ⟨u, k, he, hk⟩ := cost_src hc hn hb h0
  obtain ⟨i, hi, ho, hk2⟩ := edge_other hc he
  exact (upTo_spec cs _ b cs.length).1 h i u hi ⟨ho, by rw [hk2]; exact hk.symm⟩
theorem up_edge {n : Nat} {cs : List Cab} (hc : cabsOk n cs) {F : List Nat} {b j : Nat} (h : upN cs F b = some j) : ∃ o, otherN (cab cs j) b = some o ∧ o < n ∧ gn F o + (cab cs j).2.2 = gn F b ∧ gn F o < gn F b := by
  obtain ⟨_, hj, o, hu, _⟩ := up_some h
  have hok := (other_edge hj hu.1).ok hc
  have := hu.2
  exact ⟨o, hu.1, hok.2.1, hu.2, by omega⟩

/- The tree. -/
def rowT (cs : List Cab) (F : List Nat) (i : Nat) : Nat → List Nat
  | 0 => []
  | b + 1 => rowT cs F i b ++ if upN cs F b = some i then [i] else []
def treeT (cs : List Cab) (F : List Nat) (n : Nat) : Nat → List Nat
  | 0 => []
  | m + 1 => treeT cs F n m ++ rowT cs F m n
def treeN (n : Nat) (cs : List Cab) : List Nat := treeT cs (costsN n cs) n cs.length
theorem row_mem {cs : List Cab} {F : List Nat} {i j : Nat} : ∀ n, j ∈ rowT cs F i n ↔ j = i ∧ ∃ b, b < n ∧ upN cs F b = some i
  | 0 => ⟨fun h => (List.not_mem_nil h).elim, fun ⟨_, b, hb, _⟩ => by omega⟩
  | n + 1 => by
    unfold rowT
    rw [List.mem_append, row_mem n]
    constructor
    · rintro (⟨h, b, hb, hu⟩ | h)
      · exact ⟨h, b, by omega, hu⟩
      · split at h
        · rename_i hu; exact ⟨List.mem_singleton.1 h, n, by omega, hu⟩
        · cases h
    · rintro ⟨rfl, b, hb, hu⟩
      by_cases e : b = n
      · subst e; rw [if_pos hu]; exact Or.inr (List.mem_singleton.2 rfl)
      · exact Or.inl ⟨rfl, b, by omega, hu⟩
theorem row_len (cs : List Cab) (F : List Nat) (i : Nat) : ∀ n, (rowT cs F i n).length = cnt (fun b => upN cs F b = some i) n
  | 0 => rfl
  | n + 1 => by
    unfold rowT
    rw [List.length_append, row_len cs F i n]
    by_cases h : upN cs F n = some i
    · rw [if_pos h, cnt_yes h]; rfl
    · rw [if_neg h, cnt_no h]; rfl
theorem cnt_one {P : Nat → Prop} (h : ∀ a b, P a → P b → a = b) : ∀ n, cnt P n ≤ 1
  | 0 => Nat.zero_le 1
  | n + 1 => by
    by_cases hp : P n
    · have h0 : ∀ m, m ≤ n → cnt P m = 0 := fun m hm => by
        induction m with
        | zero => rfl
        | succ m ih =>
          have hno : ¬ P m := fun hh => by have := h m n hh hp; omega
          rw [cnt_no hno]; exact ih (by omega)
      rw [cnt_yes hp, h0 n (Nat.le_refl n)]; omega
    · rw [cnt_no hp]; exact cnt_one h n
theorem tree_mem {cs : List Cab} {F : List Nat} {n j : Nat} : ∀ m, j ∈ treeT cs F n m ↔ j < m ∧ ∃ b, b < n ∧ upN cs F b = some j
  | 0 => ⟨fun h => (List.not_mem_nil h).elim, fun ⟨h, _⟩ => by omega⟩
  | m + 1 => by
    unfold treeT
    rw [List.mem_append, tree_mem m, row_mem n]
    constructor
    · rintro (⟨h, b, hb, hu⟩ | ⟨rfl, b, hb, hu⟩)
      · exact ⟨by omega, b, hb, hu⟩
      · exact ⟨by omega, b, hb, hu⟩
    · rintro ⟨h, b, hb, hu⟩
      by_cases e : j = m
      · subst e; exact Or.inr ⟨rfl, b, hb, hu⟩
      · exact Or.inl ⟨by omega, b, hb, hu⟩
/-- Two bridges don't go up over the same cable. -/
theorem up_inj {n : Nat} {cs : List Cab} (hc : cabsOk n cs) {F : List Nat} {a b j : Nat} (ha : upN cs F a = some j) (hb : upN cs F b = some j) : a = b := by
  obtain ⟨o, h1, _, h3, h4⟩ := up_edge hc ha
  obtain ⟨q, g1, _, g3, g4⟩ := up_edge hc hb
  unfold otherN at h1 g1
  refine Classical.byContradiction fun hne => ?_
  have hx : o = b ∧ q = a := by
    split at h1
    · injection h1 with h1
      split at g1
      · omega
      · split at g1
        · injection g1 with g1; omega
        · cases g1
    · split at h1
      · injection h1 with h1
        split at g1
        · injection g1 with g1; omega
        · split at g1
          · omega
          · cases g1
      · cases h1
  rw [hx.1] at h4; rw [hx.2] at g4; omega
theorem tree_asc {n : Nat} {cs : List Cab} (hc : cabsOk n cs) (F : List Nat) : ∀ m, (treeT cs F n m).Pairwise (· < ·)
  | 0 => List.Pairwise.nil
  | m + 1 => by
    unfold treeT
    rw [List.pairwise_append]
    refine ⟨tree_asc hc F m, ?_, fun a ha b hb => ?_⟩
    · have h1 : (rowT cs F m n).length ≤ 1 := by rw [row_len]; exact cnt_one (fun a b ha hb => up_inj hc ha hb) n
      match h : rowT cs F m n with
      | [] => exact List.Pairwise.nil
      | [x] => exact List.pairwise_singleton _ _
      | x :: y :: l => rw [h] at h1; simp at h1
    · have := (tree_mem m).1 ha; have := (row_mem n).1 hb; omega
theorem cnt_add {P Q R : Nat → Prop} (hR : ∀ v, R v ↔ P v ∨ Q v) (hd : ∀ v, P v → ¬ Q v) : ∀ n, cnt R n = cnt P n + cnt Q n
  | 0 => rfl
  | n + 1 => by
    have ih := cnt_add hR hd n
    by_cases hp : P n
    · rw [cnt_yes hp, cnt_no (hd n hp), cnt_yes ((hR n).2 (Or.inl hp)), ih]; omega
    · by_cases hq : Q n
      · rw [cnt_no hp, cnt_yes hq, cnt_yes ((hR n).2 (Or.inr hq)), ih]; omega
      · rw [cnt_no hp, cnt_no hq, cnt_no (fun h => ((hR n).1 h).elim hp hq), ih]
theorem tree_len (cs : List Cab) (F : List Nat) (n : Nat) : ∀ m, (treeT cs F n m).length = cnt (fun b => ∃ i, i < m ∧ upN cs F b = some i) n
  | 0 => by
    have h0 : ∀ m, cnt (fun b => ∃ i, i < 0 ∧ upN cs F b = some i) m = 0 := fun m => by
      induction m with
      | zero => rfl
      | succ m ih => rw [cnt_no (fun ⟨i, hi, _⟩ => by omega)]; exact ih
    exact (h0 n).symm
  | m + 1 => by
    unfold treeT
    rw [List.length_append, tree_len cs F n m, row_len]
    refine (cnt_add (fun v => ?_) (fun v => ?_) n).symm
    · constructor
      · rintro ⟨i, hi, hu⟩
        by_cases e : i = m
        · subst e; exact Or.inr hu
        · exact Or.inl ⟨i, by omega, hu⟩
      · rintro (⟨i, hi, hu⟩ | hu)
        · exact ⟨i, by omega, hu⟩
        · exact ⟨m, by omega, hu⟩
    · rintro ⟨i, hi, hu⟩ h2
      rw [hu] at h2; injection h2 with h2; omega
theorem treeN_mem {n : Nat} {cs : List Cab} {j : Nat} : j ∈ treeN n cs ↔ ∃ b, b < n ∧ upN cs (costsN n cs) b = some j :=
  ⟨fun h => ((tree_mem _).1 h).2, fun ⟨b, hb, hu⟩ => (tree_mem _).2 ⟨(up_some hu).2.1, b, hb, hu⟩⟩
/-- As many cables as bridges that are no roots. -/
theorem treeN_len {n : Nat} {cs : List Cab} (hc : cabsOk n cs) (hn : n ≤ 8) : (treeN n cs).length + cnt (fun b => rootN n cs b = b) n = n := by
  have h1 : (treeN n cs).length = cnt (fun b => ¬ rootN n cs b = b) n := by
    unfold treeN
    rw [tree_len]
    refine cnt_congr n fun v hv => ?_
    rw [← cost_zero hc hv, ← up_none hc hn hv]
    constructor
    · rintro ⟨i, _, hu⟩ h; rw [hu] at h; cases h
    · intro h
      cases hu : upN cs (costsN n cs) v with
      | none => exact (h hu).elim
      | some i => exact ⟨i, (up_some hu).2.1, rfl⟩
  have := cnt_not (fun b => rootN n cs b = b) n
  omega
def cabsAt (cs : List Cab) (l : List Nat) : List Cab := l.map (cab cs)
theorem cabsAt_sub {cs : List Cab} {l : List Nat} (h : ∀ j ∈ l, j < cs.length) : ∀ c ∈ cabsAt cs l, c ∈ cs := fun c hc => by
  obtain ⟨j, hj, rfl⟩ := List.mem_map.1 hc
  exact cab_mem (h j hj)
theorem treeN_lt {n : Nat} {cs : List Cab} : ∀ j ∈ treeN n cs, j < cs.length := fun _ hj => ((tree_mem _).1 hj).1
theorem tree_ok {n : Nat} {cs : List Cab} (hc : cabsOk n cs) : cabsOk n (cabsAt cs (treeN n cs)) := fun c h => hc c (cabsAt_sub treeN_lt c h)
theorem edge_at {cs : List Cab} {l : List Nat} {j b o : Nat} (hj : j ∈ l) (h : otherN (cab cs j) b = some o) : Edge (cabsAt cs l) b o (cab cs j).2.2 := by
  have hm : cab cs j ∈ cabsAt cs l := List.mem_map.2 ⟨j, hj, rfl⟩
  unfold otherN at h
  split at h
  · rename_i e; injection h with h; subst e h; exact Or.inl hm
  · split at h
    · rename_i e; injection h with h; subst e h; exact Or.inr hm
    · cases h
theorem tree_down {n : Nat} {cs : List Cab} (hc : cabsOk n cs) (hn : n ≤ 8) {v : Nat} (hv : v < n) : Conn (cabsAt cs (treeN n cs)) v (rootN n cs v) := by
  have key : ∀ m v, v < n → gn (costsN n cs) v ≤ m → Conn (cabsAt cs (treeN n cs)) v (rootN n cs v) := fun m => by
    induction m with
    | zero => intro v hv hm; rw [(cost_zero hc hv).1 (by omega)]; exact .refl
    | succ m ih =>
      intro v hv hm
      cases hu : upN cs (costsN n cs) v with
      | none => rw [(cost_zero hc hv).1 ((up_none hc hn hv).1 hu)]; exact .refl
      | some j =>
        obtain ⟨o, ho, hon, _, hlt⟩ := up_edge hc hu
        have he := edge_at (treeN_mem.2 ⟨v, hv, hu⟩) ho
        have := ih o hon (by omega)
        rw [← root_edge hc (other_edge (up_some hu).2.1 ho)] at this
        exact (Conn.tail .refl he).trans this
  exact key _ v hv (Nat.le_refl _)
theorem tree_conn {n : Nat} {cs : List Cab} (hc : cabsOk n cs) (hn : n ≤ 8) {u v : Nat} (hu : u < n) : Conn (cabsAt cs (treeN n cs)) u v ↔ Conn cs u v := by
  refine ⟨fun h => h.sub (cabsAt_sub treeN_lt), fun h => ?_⟩
  have hv := h.lt hc hu
  have := (tree_down hc hn hv).symm
  rw [← root_eq hc hu h] at this
  exact (tree_down hc hn hu).trans this
theorem tree_root {n : Nat} {cs : List Cab} (hc : cabsOk n cs) (hn : n ≤ 8) {b : Nat} (hb : b < n) : rootN n (cabsAt cs (treeN n cs)) b = rootN n cs b :=
  Nat.le_antisymm (root_least (tree_ok hc) hb (tree_down hc hn hb)) (root_least hc hb ((tree_conn hc hn hb).1 (root_conn (tree_ok hc) hb)))
theorem tree_costs {n : Nat} {cs : List Cab} (hc : cabsOk n cs) (hn : n ≤ 8) : costsN n (cabsAt cs (treeN n cs)) = costsN n cs := by
  have ht := tree_ok hc (cs := cs)
  refine gn_ext ((costs_len _ _).trans (costs_len _ _).symm) fun v hv => ?_
  rw [costs_len] at hv
  refine Nat.le_antisymm ?_ ?_
  · refine cost_mono (n := n) (F := gn (costsN n cs)) (G := gn (costsN n (cabsAt cs (treeN n cs)))) (E := Edge (cabsAt cs (treeN n cs))) (D := Edge (cabsAt cs (treeN n cs))) (fun v hv h => ?_) (fun v hv h => ?_) (fun _ _ _ h => h) (fun v u k h => cost_tri ht h) v hv
    · exact (cost_zero ht hv).2 ((tree_root hc hn hv).trans ((cost_zero hc hv).1 h))
    · cases hu : upN cs (costsN n cs) v with
      | none => exact (h ((up_none hc hn hv).1 hu)).elim
      | some j =>
        obtain ⟨o, ho, hon, hk, _⟩ := up_edge hc hu
        have he := edge_at (treeN_mem.2 ⟨v, hv, hu⟩) ho
        exact ⟨o, _, he, hon, (he.ok ht).2.2.2.1, hk.symm⟩
  · refine cost_mono (n := n) (F := gn (costsN n (cabsAt cs (treeN n cs)))) (G := gn (costsN n cs)) (E := Edge (cabsAt cs (treeN n cs))) (D := Edge cs) (fun v hv h => ?_) (fun v hv h => ?_) (fun _ _ _ h => h.sub (cabsAt_sub treeN_lt)) (fun v u k h => cost_tri hc h) v hv
    · exact (cost_zero hc hv).2 ((tree_root hc hn hv).symm.trans ((cost_zero ht hv).1 h))
    · obtain ⟨u, k, he, hk⟩ := cost_src ht hn hv h
      have hok := he.ok ht
      exact ⟨u, k, he, hok.2.1, hok.2.2.2.1, hk⟩
/-- Which bridges come to b by going up. -/
inductive Below7 (cs : List Cab) (F : List Nat) (b : Nat) : Nat → Prop
  | base : Below7 cs F b b
  | up {x j y : Nat} : upN cs F x = some j → otherN (cab cs j) x = some y → Below7 cs F b y → Below7 cs F b x
theorem below7_le {n : Nat} {cs : List Cab} (hc : cabsOk n cs) {F : List Nat} {b x : Nat} (h : Below7 cs F b x) : gn F b ≤ gn F x := by
  induction h with
  | base => exact Nat.le_refl _
  | up hu ho _ ih =>
    obtain ⟨o, h1, _, _, h4⟩ := up_edge hc hu
    rw [ho] at h1; injection h1 with h1; subst h1; omega
/-- Without one of its cables the tree parts the two ends of it. -/
theorem tree_less {n : Nat} {cs : List Cab} (hc : cabsOk n cs) {k : Nat} (hk : k ∈ treeN n cs) {l : List Nat} (hl : ∀ j ∈ l, j ∈ treeN n cs ∧ j ≠ k) : rootN n (cabsAt cs l) (cab cs k).1 ≠ rootN n (cabsAt cs l) (cab cs k).2.1 := by
  have hlok : cabsOk n (cabsAt cs l) := fun c h => hc c (cabsAt_sub (fun j hj => treeN_lt j (hl j hj).1) c h)
  obtain ⟨b, hb, hu⟩ := treeN_mem.1 hk
  obtain ⟨o, ho, hon, _, hlt⟩ := up_edge hc hu
  have hmem := hc _ (cab_mem (treeN_lt k hk))
  have hno : ¬ Conn (cabsAt cs l) b o := fun h => by
    have hd : Below7 cs (costsN n cs) b o := by
      refine Conn.closed (P := Below7 cs (costsN n cs) b) .base (fun v w kk he hv => ?_) h
      have hj : ∃ j, j ∈ l ∧ (otherN (cab cs j) v = some w ∧ otherN (cab cs j) w = some v) := by
        have hvw := he.ok hlok
        rcases he with he | he
        · obtain ⟨j, hj, e⟩ := List.mem_map.1 he
          refine ⟨j, hj, ?_, ?_⟩ <;> rw [e] <;> simp [otherN]

        · obtain ⟨j, hj, e⟩ := List.mem_map.1 he
          refine ⟨j, hj, ?_, ?_⟩ <;> rw [e] <;> simp [otherN]

      obtain ⟨j, hj, hvw, hwv⟩ := hj
      obtain ⟨x, hx, hux⟩ := treeN_mem.1 (hl j hj).1
      obtain ⟨y, hy, _, _, _⟩ := up_edge hc hux
      have hxy : x = v ∧ y = w ∨ x = w ∧ y = v := by
        have s1 := other_sum hy; have s2 := other_sum hvw; have s3 := other_sum hwv
        have hx2 : x = (cab cs j).1 ∨ x = (cab cs j).2.1 := by
          unfold otherN at hy; split at hy
          · rename_i e; exact Or.inl e
          · split at hy
            · rename_i e; exact Or.inr e
            · cases hy
        omega
      rcases hxy with ⟨rfl, rfl⟩ | ⟨rfl, rfl⟩
      · cases hv with
        | base => rw [hux] at hu; injection hu with hu; exact ((hl j hj).2 hu).elim
        | up hu2 ho2 hb2 =>
          rw [hux] at hu2; injection hu2 with hu2; subst hu2
          rw [hy] at ho2; injection ho2 with ho2; subst ho2; exact hb2
      · exact .up hux hy hv
    have := below7_le hc hd; omega
  intro he
  refine hno ?_
  have hcc := (root_iff hlok hmem.1 hmem.2.1).1 he
  unfold otherN at ho
  split at ho
  · rename_i e; injection ho with ho; subst ho; subst e; exact hcc
  · split at ho
    · rename_i e; injection ho with ho; subst ho; subst e; exact hcc.symm
    · cases ho

/- The way up. -/
def wayF (cs : List Cab) (F : List Nat) : Nat → Nat → List Nat
  | 0, b => [b]
  | f + 1, b => match upN cs F b with
    | none => [b]
    | some i => b :: wayF cs F f ((otherN (cab cs i) b).getD 0)
def wayN (n : Nat) (cs : List Cab) (b : Nat) : List Nat := wayF cs (costsN n cs) (gn (costsN n cs) b) b
theorem wayF_head (cs : List Cab) (F : List Nat) (f b : Nat) : ∃ l, wayF cs F f b = b :: l := by
  cases f with
  | zero => exact ⟨[], rfl⟩
  | succ f =>
    unfold wayF
    split
    · exact ⟨[], rfl⟩
    · exact ⟨_, rfl⟩
theorem wayF_len (cs : List Cab) (F : List Nat) : ∀ f b, (wayF cs F f b).length ≤ f + 1
  | 0, b => Nat.le_refl 1
  | f + 1, b => by
    unfold wayF
    split
    · simp
    · rename_i i _
      have := wayF_len cs F f ((otherN (cab cs i) b).getD 0)
      rw [List.length_cons]; exact Nat.succ_le_succ this
theorem wayF_none {cs : List Cab} {F : List Nat} {f b : Nat} (h : upN cs F b = none) : wayF cs F f b = [b] := by
  cases f with
  | zero => rfl
  | succ f => unfold wayF; rw [h]
theorem wayF_some {cs : List Cab} {F : List Nat} {f b i o : Nat} (h : upN cs F b = some i) (ho : otherN (cab cs i) b = some o) : wayF cs F (f + 1) b = b :: wayF cs F f o := by
  rw [wayF, h]; simp [ho]
/-- What FnWayUp asks of a way: each step goes up a cable. -/
theorem wayF_good {n : Nat} {cs : List Cab} (hc : cabsOk n cs) (hn : n ≤ 8) : ∀ f b, b < n → gn (costsN n cs) b ≤ f →
    (∀ x ∈ wayF cs (costsN n cs) f b, x < n) ∧ (wayF cs (costsN n cs) f b).getLast? = some (rootN n cs b) ∧
    ∀ i x y, (wayF cs (costsN n cs) f b)[i]? = some x → (wayF cs (costsN n cs) f b)[i + 1]? = some y → ∃ j, upN cs (costsN n cs) x = some j ∧ otherN (cab cs j) x = some y := by
  intro f
  induction f with
  | zero =>
    intro b hb hf
    have hr := (cost_zero hc hb).1 (by omega)
    refine ⟨fun x hx => by rw [List.mem_singleton.1 hx]; exact hb, by rw [hr]; rfl, fun i x y _ h2 => by simp [wayF] at h2⟩
  | succ f ih =>
    intro b hb hf
    cases hu : upN cs (costsN n cs) b with
    | none =>
      have hr := (cost_zero hc hb).1 ((up_none hc hn hb).1 hu)
      rw [wayF_none hu]
      exact ⟨fun x hx => by rw [List.mem_singleton.1 hx]; exact hb, by rw [hr]; rfl, fun i x y _ h2 => by simp at h2⟩
    | some j =>
      obtain ⟨o, ho, hon, _, hlt⟩ := up_edge hc hu
      obtain ⟨h1, h2, h3⟩ := ih o hon (by omega)
      rw [wayF_some hu ho]
      obtain ⟨l, hl⟩ := wayF_head cs (costsN n cs) f o
      refine ⟨fun x hx => ?_, ?_, fun i x y hx hy => ?_⟩
      · rcases List.mem_cons.1 hx with rfl | hx
        · exact hb
        · exact h1 x hx
      · rw [root_edge hc (other_edge (up_some hu).2.1 ho), ← h2, hl, List.getLast?_cons_cons]
      · cases i with
        | zero =>
          rw [hl] at hy
          have e1 : b = x := by simpa using hx
          have e2 : o = y := by simpa using hy
          subst e1 e2
          exact ⟨j, hu, ho⟩
        | succ i => exact h3 i x y (by simpa using hx) (by simpa using hy)

/- Claims. -/
def gi (l : List Int) (i : Nat) : Int := l.getD i 0
def clm0 (b : Nat) : List Int := [(b : Int), 0, -1, -1]
def firstL (n : Nat) : List (List Int) := (List.range n).map clm0
def less4 (a b : List Int) : Prop := gi a 0 < gi b 0 ∨ gi a 0 = gi b 0 ∧ (gi a 1 < gi b 1 ∨ gi a 1 = gi b 1 ∧ (gi a 2 < gi b 2 ∨ gi a 2 = gi b 2 ∧ gi a 3 < gi b 3))
instance (a b : List Int) : Decidable (less4 a b) := by unfold less4; infer_instance
theorem less4_mk (a b c d p q r s : Int) : less4 [a, b, c, d] [p, q, r, s] ↔ (a < p ∨ a = p ∧ (b < q ∨ b = q ∧ (c < r ∨ c = r ∧ d < s))) := Iff.rfl
def clmAt (claims : List (List Int)) (b : Nat) : List Int := claims.getD b []
def candL (cs : List Cab) (claims : List (List Int)) (b i : Nat) : Option (List Int) :=
  match otherN (cab cs i) b with
  | none => none
  | some o => some [gi (clmAt claims o) 0, gi (clmAt claims o) 1 + ((cab cs i).2.2 : Nat), (o : Int), (i : Int)]
def bestTo (cs : List Cab) (claims : List (List Int)) (b : Nat) : Nat → List Int
  | 0 => clm0 b
  | m + 1 => match candL cs claims b m with
    | none => bestTo cs claims b m
    | some x => if less4 x (bestTo cs claims b m) then x else bestTo cs claims b m
def nextN (n : Nat) (cs : List Cab) (claims : List (List Int)) : List (List Int) := (List.range n).map fun b => bestTo cs claims b cs.length
def afterN (n : Nat) (cs : List Cab) (k : Nat) : List (List Int) := iter (nextN n cs) k (firstL n)
theorem best_from (cs : List Cab) (claims : List (List Int)) (b : Nat) : ∀ m, bestTo cs claims b m = clm0 b ∨ ∃ i, i < m ∧ candL cs claims b i = some (bestTo cs claims b m)
  | 0 => Or.inl rfl
  | m + 1 => by
    have ih := best_from cs claims b m
    have ih2 : ∀ x, x = bestTo cs claims b m → x = clm0 b ∨ ∃ i, i < m + 1 ∧ candL cs claims b i = some x := fun x e => by
      subst e
      exact ih.elim Or.inl fun ⟨i, hi, e⟩ => Or.inr ⟨i, by omega, e⟩
    cases hx : candL cs claims b m with
    | none => exact ih2 _ (by rw [bestTo, hx])
    | some x =>
      by_cases hl : less4 x (bestTo cs claims b m)
      · exact Or.inr ⟨m, by omega, by rw [bestTo, hx]; simp [hl]⟩
      · exact ih2 _ (by rw [bestTo, hx]; simp [hl])
theorem best_le (cs : List Cab) (claims : List (List Int)) (b : Nat) : ∀ m, ¬ less4 (clm0 b) (bestTo cs claims b m) ∧ ∀ i x, i < m → candL cs claims b i = some x → ¬ less4 x (bestTo cs claims b m)
  | 0 => ⟨fun h => by unfold less4 at h; simp only [bestTo] at h; omega, fun i x hi => by omega⟩
  | m + 1 => by
    obtain ⟨h1, h2⟩ := best_le cs claims b m
    cases hx : candL cs claims b m with
    | none =>
      have e : bestTo cs claims b (m + 1) = bestTo cs claims b m := by rw [bestTo, hx]
      rw [e]
      refine ⟨h1, fun i x hi hh => ?_⟩
      by_cases e : i = m
      · subst e; rw [hx] at hh; cases hh
      · exact h2 i x (by omega) hh
    | some y =>
      by_cases hl : less4 y (bestTo cs claims b m)
      · have e : bestTo cs claims b (m + 1) = y := by rw [bestTo, hx]; simp [hl]
        rw [e]
        have hall : ∀ x, ¬ less4 x (bestTo cs claims b m) → ¬ less4 x y := fun x h hh => h (by unfold less4 at *; omega)
        refine ⟨hall _ h1, fun i x hi hh => ?_⟩
        by_cases e : i = m
        · subst e; rw [hx] at hh; injection hh with hh; subst hh; intro h; unfold less4 at h; omega
        · exact hall _ (h2 i x (by omega) hh)
      · have e : bestTo cs claims b (m + 1) = bestTo cs claims b m := by rw [bestTo, hx]; simp [hl]
        rw [e]
        refine ⟨h1, fun i x hi hh => ?_⟩
        by_cases e : i = m
        · subst e; rw [hx] at hh; injection hh with hh; subst hh; exact hl
        · exact h2 i x (by omega) hh
theorem cand_some {cs : List Cab} {claims : List (List Int)} {b i : Nat} {x : List Int} (h : candL cs claims b i = some x) : ∃ o, otherN (cab cs i) b = some o ∧ x = [gi (clmAt claims o) 0, gi (clmAt claims o) 1 + ((cab cs i).2.2 : Nat), (o : Int), (i : Int)] := by
  unfold candL at h
  split at h
  · cases h
  · rename_i o ho; injection h with h; exact ⟨o, ho, h.symm⟩
theorem cand_at {cs : List Cab} {claims : List (List Int)} {b i o : Nat} (h : otherN (cab cs i) b = some o) : candL cs claims b i = some [gi (clmAt claims o) 0, gi (clmAt claims o) 1 + ((cab cs i).2.2 : Nat), (o : Int), (i : Int)] := by
  unfold candL; rw [h]
theorem next_at {n : Nat} {cs : List Cab} {claims : List (List Int)} {b : Nat} (hb : b < n) : clmAt (nextN n cs claims) b = bestTo cs claims b cs.length := by
  unfold clmAt nextN; rw [List.getD_eq_getElem?_getD, List.getElem?_map, List.getElem?_range hb]; rfl
theorem first_at {n b : Nat} (hb : b < n) : clmAt (firstL n) b = clm0 b := by
  unfold clmAt firstL; rw [List.getD_eq_getElem?_getD, List.getElem?_map, List.getElem?_range hb]; rfl
theorem after_len (n : Nat) (cs : List Cab) (k : Nat) : (afterN n cs k).length = n :=
  iter_inv (f := nextN n cs) (x := firstL n) (P := fun l : List (List Int) => l.length = n) (fun x _ => by simp [nextN]) (by simp [firstL]) k
theorem after_succ {n : Nat} {cs : List Cab} {k b : Nat} (hb : b < n) : clmAt (afterN n cs (k + 1)) b = bestTo cs (afterN n cs k) b cs.length := next_at hb
/-- What bridges claim is true of some way, and no less than it costs. -/
theorem after_low {n : Nat} {cs : List Cab} (hc : cabsOk n cs) : ∀ k b, b < n → ∃ r : Nat, gi (clmAt (afterN n cs k) b) 0 = r ∧ Conn cs b r ∧ (r = rootN n cs b → (gn (costsN n cs) b : Int) ≤ gi (clmAt (afterN n cs k) b) 1) ∧ 0 ≤ gi (clmAt (afterN n cs k) b) 1 ∧ gi (clmAt (afterN n cs k) b) 1 ≤ 99 * k := by
  intro k
  have h0 : ∀ b, b < n → ∃ r : Nat, gi (clm0 b) 0 = r ∧ Conn cs b r ∧ (r = rootN n cs b → (gn (costsN n cs) b : Int) ≤ gi (clm0 b) 1) ∧ 0 ≤ gi (clm0 b) 1 ∧ gi (clm0 b) 1 ≤ 0 := fun b hb =>
    ⟨b, rfl, .refl, fun h => by rw [cost_root hb h.symm]; exact Int.le_refl 0, Int.le_refl 0, Int.le_refl 0⟩
  induction k with
  | zero =>
    intro b hb
    have e : clmAt (afterN n cs 0) b = clm0 b := first_at hb
    rw [e]
    obtain ⟨r, h1, h2, h3, h4, h5⟩ := h0 b hb
    exact ⟨r, h1, h2, h3, h4, by omega⟩
  | succ k ih =>
    intro b hb
    rw [after_succ hb]
    rcases best_from cs (afterN n cs k) b cs.length with h | ⟨i, hi, h⟩
    · rw [h]
      obtain ⟨r, h1, h2, h3, h4, h5⟩ := h0 b hb
      exact ⟨r, h1, h2, h3, h4, by omega⟩
    · obtain ⟨o, ho, e⟩ := cand_some h
      have he := other_edge hi ho
      have hok := he.ok hc
      obtain ⟨r, h1, h2, h3, h4, h5⟩ := ih o hok.2.1
      rw [e]
      refine ⟨r, h1, (Conn.tail .refl he).trans h2, fun hr => ?_, ?_, ?_⟩
      · rw [root_edge hc he] at hr
        have := h3 hr
        have := cost_tri hc he
        show _ ≤ gi (clmAt (afterN n cs k) o) 1 + ((cab cs i).2.2 : Nat)
        omega
      · show 0 ≤ gi (clmAt (afterN n cs k) o) 1 + ((cab cs i).2.2 : Nat); omega
      · show gi (clmAt (afterN n cs k) o) 1 + ((cab cs i).2.2 : Nat) ≤ _; omega
/-- At most, by root and cost. -/
def le2 (x y : List Int) : Prop := gi x 0 < gi y 0 ∨ gi x 0 = gi y 0 ∧ gi x 1 ≤ gi y 1
theorem le2_of {x y : List Int} (h : ¬ less4 y x) : le2 x y := by unfold less4 at h; unfold le2; omega
theorem le2_trans {x y z : List Int} (h : le2 x y) (h2 : le2 y z) : le2 x z := by unfold le2 at *; omega
theorem best_le0 (cs : List Cab) (claims : List (List Int)) (b : Nat) : le2 (bestTo cs claims b cs.length) (clm0 b) := le2_of (best_le cs claims b _).1
theorem best_le1 {cs : List Cab} {claims : List (List Int)} {b i o : Nat} (hi : i < cs.length) (ho : otherN (cab cs i) b = some o) :
    le2 (bestTo cs claims b cs.length) [gi (clmAt claims o) 0, gi (clmAt claims o) 1 + ((cab cs i).2.2 : Nat), (o : Int), (i : Int)] := le2_of ((best_le cs claims b _).2 i _ hi (cand_at ho))
/-- Claims never get worse. -/
theorem after_mono {n : Nat} {cs : List Cab} (hc : cabsOk n cs) : ∀ k b, b < n → le2 (clmAt (afterN n cs (k + 1)) b) (clmAt (afterN n cs k) b) := by
  intro k
  induction k with
  | zero =>
    intro b hb
    rw [after_succ hb]
    have e : clmAt (afterN n cs 0) b = clm0 b := first_at hb
    rw [e]; exact best_le0 _ _ _
  | succ k ih =>
    intro b hb
    rw [after_succ hb (k := k + 1), after_succ hb (k := k)]
    rcases best_from cs (afterN n cs k) b cs.length with h | ⟨i, hi, h⟩
    · rw [h]; exact best_le0 _ _ _
    · obtain ⟨o, ho, e⟩ := cand_some h
      rw [e]
      refine le2_trans (best_le1 hi ho) ?_
      have := ih o (((other_edge hi ho).ok hc).2.1)
      unfold le2 at this ⊢
      simp only [gi, List.getD_cons_zero, List.getD_cons_succ] at this ⊢
      omega
/-- After as many rounds as there are other bridges, each claims its root at its cost. -/
theorem after_all {n : Nat} {cs : List Cab} (hc : cabsOk n cs) (hn : n ≤ 8) {k : Nat} (hk : n ≤ k + 1) {b : Nat} (hb : b < n) :
    gi (clmAt (afterN n cs k) b) 0 = (rootN n cs b : Nat) ∧ gi (clmAt (afterN n cs k) b) 1 = (gn (costsN n cs) b : Nat) := by
  have low : ∀ k b, b < n → le2 (clmAt (afterN n cs k) b) [(rootN n cs b : Nat), (gn (costsN n cs) b : Nat)] → gi (clmAt (afterN n cs k) b) 0 = (rootN n cs b : Nat) ∧ gi (clmAt (afterN n cs k) b) 1 = (gn (costsN n cs) b : Nat) := fun k b hb h => by
    obtain ⟨r, h1, h2, h3, h4, h5⟩ := after_low hc k b hb
    have h6 := root_least hc hb h2
    have h7 : gi (clmAt (afterN n cs k) b) 0 < (rootN n cs b : Nat) ∨ gi (clmAt (afterN n cs k) b) 0 = (rootN n cs b : Nat) ∧ gi (clmAt (afterN n cs k) b) 1 ≤ (gn (costsN n cs) b : Nat) := h
    have h8 : r = rootN n cs b := by omega
    have := h3 h8
    omega
  refine grow_full (fun k b => gi (clmAt (afterN n cs k) b) 0 = (rootN n cs b : Nat) ∧ gi (clmAt (afterN n cs k) b) 1 = (gn (costsN n cs) b : Nat)) n ?_ ?_ ?_ k hk b hb
  · have hr := root_lt hc hb
    refine ⟨rootN n cs b, hr, low 0 _ hr ?_⟩
    have e : clmAt (afterN n cs 0) (rootN n cs b) = clm0 (rootN n cs b) := first_at hr
    rw [e, root_root hc hb, cost_root hr (root_root hc hb)]
    exact Or.inr ⟨rfl, Int.le_refl 0⟩
  · intro k v hv h
    refine low (k + 1) v hv (le2_trans (after_mono hc k v hv) ?_)
    exact Or.inr ⟨h.1, Int.le_of_eq h.2⟩
  · intro k hx
    obtain ⟨v, hv, hno, hmin⟩ := least (gn (costsN n cs)) n hx
    refine ⟨v, hv, hno, low (k + 1) v hv ?_⟩
    by_cases hz : gn (costsN n cs) v = 0
    · have hr := (cost_zero hc hv).1 hz
      refine le2_trans (y := clm0 v) ?_ ?_
      · rw [after_succ hv]; exact best_le0 _ _ _
      · rw [hr, hz]; exact Or.inr ⟨rfl, Int.le_refl 0⟩
    · obtain ⟨u, j, he, hj⟩ := cost_src hc hn hv hz
      have hok := he.ok hc
      have hin : gi (clmAt (afterN n cs k) u) 0 = (rootN n cs u : Nat) ∧ gi (clmAt (afterN n cs k) u) 1 = (gn (costsN n cs) u : Nat) := Classical.byContradiction fun hh => by
        have := hmin u hok.2.1 hh; omega
      obtain ⟨i, hi, ho, hik⟩ := edge_other hc he
      rw [after_succ hv]
      refine le2_trans (best_le1 hi ho) ?_
      rw [hik, hin.1, hin.2, root_edge hc he, hj]
      exact Or.inr ⟨rfl, by simp [gi]⟩
/-- What a bridge claims in the end. -/
theorem after_end {n : Nat} {cs : List Cab} (hc : cabsOk n cs) (hn : n ≤ 8) {k : Nat} (hk : n ≤ k) {b : Nat} (hb : b < n) :
    (gn (costsN n cs) b = 0 ∧ clmAt (afterN n cs k) b = clm0 b) ∨ ∃ i o, upN cs (costsN n cs) b = some i ∧ otherN (cab cs i) b = some o ∧ gn (costsN n cs) b ≠ 0 ∧ clmAt (afterN n cs k) b = [(rootN n cs b : Int), (gn (costsN n cs) b : Int), (o : Int), (i : Int)] := by
  obtain ⟨j, rfl⟩ : ∃ j, k = j + 1 := ⟨k - 1, by omega⟩
  rw [after_succ hb]
  have hall : ∀ o, o < n → gi (clmAt (afterN n cs j) o) 0 = (rootN n cs o : Nat) ∧ gi (clmAt (afterN n cs j) o) 1 = (gn (costsN n cs) o : Nat) := fun o ho => after_all hc hn hk ho
  obtain ⟨l0, l1⟩ := best_le cs (afterN n cs j) b cs.length
  have hf := best_from cs (afterN n cs j) b cs.length
  generalize bestTo cs (afterN n cs j) b cs.length = x at *
  cases hu : upN cs (costsN n cs) b with
  | none =>
    have hz := (up_none hc hn hb).1 hu
    refine Or.inl ⟨hz, ?_⟩
    rcases hf with h | ⟨i, hi, h⟩
    · exact h
    · obtain ⟨o, ho, e⟩ := cand_some h
      have he := other_edge hi ho
      have hok := he.ok hc
      obtain ⟨a0, a1⟩ := hall o hok.2.1
      rw [a0, a1, ← root_edge hc he, (cost_zero hc hb).1 hz] at e
      refine (l0 ?_).elim
      rw [e, clm0, less4_mk]
      omega
  | some i =>
    obtain ⟨hz, hi, o, huc, hmin⟩ := up_some hu
    refine Or.inr ⟨i, o, rfl, huc.1, hz, ?_⟩
    have he := other_edge hi huc.1
    have hok := he.ok hc
    obtain ⟨a0, a1⟩ := hall o hok.2.1
    have hl := l1 i _ hi (cand_at huc.1)
    have hrb : rootN n cs b < b := by
      have := root_le hc hb
      have h2 : rootN n cs b ≠ b := fun h => hz ((cost_zero hc hb).2 h)
      omega
    have hk2 := huc.2
    rw [a0, a1, ← root_edge hc he] at hl
    rcases hf with h | ⟨i2, hi2, h⟩
    · refine (hl ?_).elim
      rw [h, clm0, less4_mk]
      omega
    · obtain ⟨o2, ho2, e⟩ := cand_some h
      have he2 := other_edge hi2 ho2
      have hok2 := he2.ok hc
      obtain ⟨b0, b1⟩ := hall o2 hok2.2.1
      rw [b0, b1, ← root_edge hc he2] at e
      have ht := cost_tri hc he2
      rw [e, less4_mk] at hl
      have heq : gn (costsN n cs) o2 + (cab cs i2).2.2 = gn (costsN n cs) b := by omega
      have hm := hmin i2 o2 hi2 ⟨ho2, heq⟩
      have ho3 : o = o2 := by omega
      have hi3 : i = i2 := by omega
      subst ho3 hi3
      rw [e, ← heq]; rfl
theorem after_fix {n : Nat} {cs : List Cab} (hc : cabsOk n cs) (hn : n ≤ 8) {k : Nat} (hk : n ≤ k) : nextN n cs (afterN n cs k) = afterN n cs k := by
  have e1 : nextN n cs (afterN n cs k) = afterN n cs (k + 1) := rfl
  rw [e1]
  refine List.ext_getElem ((after_len n cs (k + 1)).trans (after_len n cs k).symm) fun b h1 h2 => ?_
  have hb : b < n := by rw [after_len] at h2; exact h2
  have g : ∀ m (h : b < (afterN n cs m).length), (afterN n cs m)[b] = clmAt (afterN n cs m) b := fun m h => by
    unfold clmAt; rw [List.getD_eq_getElem?_getD, List.getElem?_eq_getElem h]; rfl
  rw [g, g]
  rcases after_end hc hn (k := k + 1) (by omega) hb with ⟨z, h⟩ | ⟨i, o, hu, ho, z, h⟩
  · rcases after_end hc hn hk hb with ⟨_, h'⟩ | ⟨_, _, _, _, z', _⟩
    · rw [h, h']
    · exact (z' z).elim
  · rcases after_end hc hn hk hb with ⟨z', _⟩ | ⟨i', o', hu', ho', _, h'⟩
    · exact (z z').elim
    · rw [hu] at hu'; injection hu' with hu'; subst hu'
      rw [ho] at ho'; injection ho' with ho'; subst ho'
      rw [h, h']
end Go.Proofs.Ytkmdpmhaljieaaa
