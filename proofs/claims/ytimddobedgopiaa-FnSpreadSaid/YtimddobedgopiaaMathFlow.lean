/-
  Chapter 11's mathematics: flows, scores, the wire of a flow, the shares, what moves, what is spread. Plain mathematics about lists, no condition.
-/
import Derived.Below
namespace Go.Proofs.Ytimddobedgopiaa

/-- A wire's score for a flow. -/
def scoreM (f m : Nat) : Nat := (((f * 131 + m * 1117 + 7) * (f * 131 + m * 1117 + 7)) % 65521 * 31 + (f * 131 + m * 1117 + 7)) % 65521
theorem scoreM_lt (f m : Nat) : scoreM f m < 65521 := Nat.mod_lt _ (by decide)
def scoreI (f m : Int) : Int := if 0 ≤ f ∧ f ≤ 239 ∧ 0 ≤ m ∧ m ≤ 7 then (scoreM f.toNat m.toNat : Int) else -1
def flowI (a b : Int) : Int := if 0 ≤ a ∧ a ≤ 14 ∧ 0 ≤ b ∧ b ≤ 15 then 15 * a + b % 15 else -1

/-- The best of the first wires. -/
def bestTo (us : List Bool) (f : Nat) : Nat → Int
  | 0 => -1
  | m + 1 => if us.getD m false = true ∧ (bestTo us f m < 0 ∨ scoreM f (bestTo us f m).toNat < scoreM f m) then (m : Int) else bestTo us f m
def upOk (us : List Bool) : Prop := 1 ≤ us.length ∧ us.length ≤ 8
instance (us : List Bool) : Decidable (upOk us) := by unfold upOk; infer_instance
def memP (us : List Bool) (f : Nat) : Int := bestTo us f us.length
def memI (us : List Bool) (f : Int) : Int := if upOk us ∧ 0 ≤ f ∧ f ≤ 239 then memP us f.toNat else -1

/-- What a flow's wire is. -/
def Best (us : List Bool) (f : Nat) (n : Nat) (b : Int) : Prop :=
  (b = -1 ∧ ∀ i : Nat, i < n → us.getD i false = false) ∨
  (∃ j : Nat, b = (j : Int) ∧ j < n ∧ us.getD j false = true ∧ ∀ i : Nat, i < n → us.getD i false = true → scoreM f i < scoreM f j ∨ (scoreM f i = scoreM f j ∧ j ≤ i))
theorem best_to (us : List Bool) (f : Nat) : ∀ n, Best us f n (bestTo us f n)
  | 0 => .inl ⟨rfl, fun i h => by omega⟩
  | n + 1 => by
    have ih := best_to us f n
    unfold bestTo
    split
    · rename_i h
      obtain ⟨h1, h2⟩ := h
      refine .inr ⟨n, rfl, by omega, h1, fun i hi hu => ?_⟩
      by_cases e : i = n
      · subst e; exact .inr ⟨rfl, Nat.le_refl _⟩
      · rcases ih with ⟨hb, hn⟩ | ⟨j, hb, hj, hu', hall⟩
        · rw [hn i (by omega)] at hu; cases hu
        · rw [hb] at h2
          simp at h2
          rcases h2 with h2 | h2
          · omega
          · rcases hall i (by omega) hu with h | ⟨h, _⟩ <;> (left; omega)
    · rename_i h
      rcases ih with ⟨hb, hn⟩ | ⟨j, hb, hj, hu', hall⟩
      · refine .inl ⟨hb, fun i hi => ?_⟩
        by_cases e : i = n
        · subst e
          cases hu : us.getD i false
          · rfl
          · exact (h ⟨hu, .inl (by omega)⟩).elim
        · exact hn i (by omega)
      · refine .inr ⟨j, hb, by omega, hu', fun i hi hu => ?_⟩
        by_cases e : i = n
        · subst e
          have : ¬ scoreM f j < scoreM f i := fun hh => h ⟨hu, .inr (by rw [hb]; simpa using hh)⟩
          by_cases e2 : scoreM f i = scoreM f j
          · exact .inr ⟨e2, by omega⟩
          · left; omega
        · exact hall i (by omega) hu
theorem Best.uniq {us : List Bool} {f n : Nat} {a b : Int} (h1 : Best us f n a) (h2 : Best us f n b) : a = b := by
  rcases h1 with ⟨ha, hn⟩ | ⟨i, ha, hi, hu, hall⟩ <;> rcases h2 with ⟨hb, hn'⟩ | ⟨j, hb, hj, hu', hall'⟩
  · omega
  · rw [hn j hj] at hu'; cases hu'
  · rw [hn' i hi] at hu; cases hu
  · have h3 := hall j hj hu'
    have h4 := hall' i hi hu
    omega
theorem bestTo_lt (us : List Bool) (f n : Nat) : -1 ≤ bestTo us f n ∧ bestTo us f n < (n : Int) := by
  rcases best_to us f n with ⟨hb, _⟩ | ⟨j, hb, hj, _⟩ <;> omega
theorem memP_lt (us : List Bool) (f : Nat) : -1 ≤ memP us f ∧ memP us f < (us.length : Int) := bestTo_lt us f us.length

/-- How many numbers below n there are of which p is so. -/
def cnt (p : Nat → Bool) : Nat → Nat
  | 0 => 0
  | n + 1 => cnt p n + (if p n = true then 1 else 0)
theorem cnt_le (p : Nat → Bool) : ∀ n, cnt p n ≤ n
  | 0 => Nat.le_refl _
  | n + 1 => by have := cnt_le p n; unfold cnt; split <;> omega
theorem cnt_congr {p q : Nat → Bool} : ∀ {n : Nat}, (∀ i, i < n → p i = q i) → cnt p n = cnt q n
  | 0, _ => rfl
  | n + 1, h => by
    unfold cnt
    rw [cnt_congr (fun i hi => h i (by omega)), h n (by omega)]
theorem cnt_none {p : Nat → Bool} : ∀ {n : Nat}, (∀ i, i < n → p i = false) → cnt p n = 0
  | 0, _ => rfl
  | n + 1, h => by
    unfold cnt
    rw [cnt_none (fun i hi => h i (by omega)), h n (by omega)]; rfl
theorem cnt_all {p : Nat → Bool} : ∀ {n : Nat}, (∀ i, i < n → p i = true) → cnt p n = n
  | 0, _ => rfl
  | n + 1, h => by
    unfold cnt
    rw [cnt_all (fun i hi => h i (by omega)), h n (by omega)]; rfl
theorem cnt_split {p q r : Nat → Bool} : ∀ {n : Nat}, (∀ i, i < n → (p i = true ↔ (q i = true ∨ r i = true)) ∧ ¬ (q i = true ∧ r i = true)) → cnt p n = cnt q n + cnt r n
  | 0, _ => rfl
  | n + 1, h => by
    unfold cnt
    rw [cnt_split (fun i hi => h i (by omega))]
    obtain ⟨h1, h2⟩ := h n (by omega)
    cases hp : p n <;> cases hq : q n <;> cases hr : r n <;> simp [hp, hq, hr] at h1 h2 ⊢ <;> omega

/-- How many of the flows that frames can have go over a wire. -/
def shareI (us : List Bool) (n : Nat) (m : Int) : Int := (cnt (fun f => decide (memP us f = m)) n : Int)
def sharesTo (us : List Bool) (n : Nat) : List Int := (List.range us.length).map (fun m : Nat => shareI us n (m : Int))
def sharesI (us : List Bool) : List Int := if upOk us then sharesTo us 225 else []
theorem sharesTo_len (us : List Bool) (n : Nat) : (sharesTo us n).length = us.length := by simp [sharesTo]
theorem sharesTo_zero (us : List Bool) : sharesTo us 0 = List.replicate us.length 0 := by
  apply List.ext_getElem
  · simp [sharesTo]
  · intro i h1 h2; simp [sharesTo, shareI, cnt]
theorem sharesTo_get (us : List Bool) (n : Nat) {m : Nat} (h : m < us.length) : (sharesTo us n)[m]? = some (shareI us n (m : Int)) := by
  simp [sharesTo, h]
theorem shareI_bounds (us : List Bool) (n : Nat) (m : Int) : 0 ≤ shareI us n m ∧ shareI us n m ≤ (n : Int) := by
  unfold shareI
  have := cnt_le (fun f => decide (memP us f = m)) n
  omega
theorem sharesTo_none {us : List Bool} {n : Nat} (h : memP us n = -1) : sharesTo us (n + 1) = sharesTo us n := by
  unfold sharesTo
  apply List.map_congr_left
  intro m _
  unfold shareI
  rw [cnt, h, decide_eq_false (show ¬ ((-1 : Int) = (m : Int)) by omega)]
  simp
theorem sharesTo_some {us : List Bool} {n m : Nat} (h : memP us n = (m : Int)) : sharesTo us (n + 1) = (sharesTo us n).set m (shareI us n (m : Int) + 1) := by
  apply List.ext_getElem
  · simp [sharesTo]
  · intro j h1 h2
    simp only [sharesTo, List.getElem_set, List.getElem_map, List.getElem_range]
    by_cases e : m = j
    · subst e
      simp [shareI, cnt, h]
    · rw [if_neg e]
      unfold shareI
      rw [cnt, h, decide_eq_false (show ¬ ((m : Int) = (j : Int)) by omega)]
      simp
/-- The flows of the first wires. -/
theorem shares_sum (us : List Bool) (N : Nat) (m : Nat) : (cnt (fun f => decide (0 ≤ memP us f ∧ memP us f < ((m + 1 : Nat) : Int))) N : Int) = (cnt (fun f => decide (0 ≤ memP us f ∧ memP us f < (m : Int))) N : Int) + shareI us N (m : Int) := by
  unfold shareI
  rw [cnt_split (p := fun f => decide (0 ≤ memP us f ∧ memP us f < ((m + 1 : Nat) : Int))) (q := fun f => decide (0 ≤ memP us f ∧ memP us f < (m : Int))) (r := fun f => decide (memP us f = (m : Int)))]
  · omega
  · intro i _
    constructor
    · simp only [decide_eq_true_eq]; omega
    · simp only [decide_eq_true_eq]; omega
def sumTo (us : List Bool) (m : Nat) : Int := (cnt (fun f => decide (0 ≤ memP us f ∧ memP us f < (m : Int))) 225 : Int)
theorem sumTo_zero (us : List Bool) : sumTo us 0 = 0 := by
  unfold sumTo
  rw [cnt_none]
  · rfl
  · intro i _; exact decide_eq_false (by omega)
theorem sumTo_succ (us : List Bool) (m : Nat) : sumTo us (m + 1) = sumTo us m + shareI us 225 (m : Int) := shares_sum us 225 m
theorem sumTo_bounds (us : List Bool) (m : Nat) : 0 ≤ sumTo us m ∧ sumTo us m ≤ 225 := by
  unfold sumTo
  have := cnt_le (fun f => decide (0 ≤ memP us f ∧ memP us f < (m : Int))) 225
  omega
/-- Whether one of the first wires is up. -/
def someTo (us : List Bool) (m : Nat) : Bool := (us.take m).any (fun b => b)
theorem someTo_iff {us : List Bool} : ∀ {m : Nat}, m ≤ us.length → (someTo us m = true ↔ ∃ i, i < m ∧ us.getD i false = true) := by
  intro m hm
  unfold someTo
  rw [List.any_eq_true]
  constructor
  · rintro ⟨b, hb, rfl⟩
    obtain ⟨i, hi, he⟩ := List.mem_iff_getElem.1 hb
    rw [List.getElem_take] at he
    have hi' : i < m := by simp at hi; omega
    exact ⟨i, hi', by rw [List.getD_eq_getElem?_getD, List.getElem?_eq_getElem (by omega), he]; rfl⟩
  · rintro ⟨i, hi, he⟩
    refine ⟨true, List.mem_iff_getElem.2 ⟨i, by simp; omega, ?_⟩, rfl⟩
    rw [List.getElem_take]
    rw [List.getD_eq_getElem?_getD, List.getElem?_eq_getElem (by omega)] at he
    simpa using he
theorem mem_some {us : List Bool} (f : Nat) : (someTo us us.length = true → 0 ≤ memP us f) ∧ (someTo us us.length = false → memP us f = -1) := by
  rcases best_to us f us.length with ⟨hb, hn⟩ | ⟨j, hb, hj, hu, _⟩
  · refine ⟨fun h => ?_, fun _ => hb⟩
    obtain ⟨i, hi, he⟩ := (someTo_iff (Nat.le_refl _)).1 h
    rw [hn i hi] at he; cases he
  · refine ⟨fun _ => by unfold memP; omega, fun h => ?_⟩
    rw [(someTo_iff (Nat.le_refl _)).2 ⟨j, hj, hu⟩] at h; cases h
theorem sumTo_all (us : List Bool) : sumTo us us.length = if someTo us us.length = true then 225 else 0 := by
  unfold sumTo
  split
  · rename_i h
    rw [cnt_all]; · rfl
    intro i _
    have := (mem_some i).1 h
    have := (memP_lt us i).2
    simp; omega
  · rename_i h
    rw [cnt_none]; · rfl
    intro i _
    have := (mem_some (us := us) i).2 (by simpa using h)
    simp; omega
theorem mem_up {us : List Bool} {f m : Nat} (h : memP us f = (m : Int)) : us.getD m false = true := by
  rcases best_to us f us.length with ⟨hb, hn⟩ | ⟨j, hb, hj, hu, _⟩
  · unfold memP at h; omega
  · unfold memP at h
    have : j = m := by omega
    subst this; exact hu
theorem share_up {us : List Bool} {n m : Nat} (h : 0 < shareI us n (m : Int)) : us.getD m false = true := by
  cases hu : us.getD m false
  · unfold shareI at h
    rw [cnt_none] at h
    · simp at h
    · intro i _
      simp
      intro e
      rw [mem_up e] at hu; cases hu
  · rfl

/-- How many flows change their wire. -/
def movedTo (us vs : List Bool) (n : Nat) : Int := (cnt (fun f => decide (memP us f ≠ memP vs f)) n : Int)
def movedI (us vs : List Bool) : Int := if upOk us ∧ us.length = vs.length then movedTo us vs 225 else -1
theorem movedTo_bounds (us vs : List Bool) (n : Nat) : 0 ≤ movedTo us vs n ∧ movedTo us vs n ≤ (n : Int) := by
  unfold movedTo
  have := cnt_le (fun f => decide (memP us f ≠ memP vs f)) n
  omega
theorem movedTo_comm (us vs : List Bool) (n : Nat) : movedTo us vs n = movedTo vs us n := by
  unfold movedTo
  rw [cnt_congr]
  intro i _
  by_cases h : memP us i = memP vs i
  · simp [h]
  · simp [h, Ne.symm h]
theorem movedTo_self (us : List Bool) (n : Nat) : movedTo us us n = 0 := by
  unfold movedTo
  rw [cnt_none]
  · rfl
  · intro i _; simp
theorem movedI_comm (us vs : List Bool) : movedI us vs = movedI vs us := by
  unfold movedI
  rw [movedTo_comm]
  by_cases h : upOk us ∧ us.length = vs.length
  · rw [if_pos h, if_pos ⟨by have := h.1; have := h.2; unfold upOk at *; omega, h.2.symm⟩]
  · rw [if_neg h, if_neg]
    rintro ⟨h1, h2⟩
    exact h ⟨by unfold upOk at *; omega, h2.symm⟩
/-- A wire goes down: its flows move, and no others. -/
theorem moved_one {us vs : List Bool} {d : Nat} (hl : us.length = vs.length) (hd : us.getD d false = true) (hd' : vs.getD d false = false) (ho : ∀ i, i ≠ d → us.getD i false = vs.getD i false) (f : Nat) : memP us f ≠ memP vs f ↔ memP us f = (d : Int) := by
  have hA := best_to us f us.length
  have hB := best_to vs f vs.length
  change Best us f us.length (memP us f) at hA
  change Best vs f vs.length (memP vs f) at hB
  have hdl : d < us.length := by
    rw [List.getD_eq_getElem?_getD] at hd
    by_cases h : d < us.length
    · exact h
    · rw [List.getElem?_eq_none (by omega)] at hd; cases hd
  constructor
  · intro hne
    rcases hA with ⟨hb, hn⟩ | ⟨j, hb, hj, hu, hall⟩
    · rw [hn d hdl] at hd; cases hd
    · by_cases e : j = d
      · rw [hb, e]
      · refine (hne ?_).elim
        refine Best.uniq (f := f) (us := vs) (n := vs.length) (.inr ⟨j, hb, by omega, by rw [← ho j e]; exact hu, fun i hi hui => ?_⟩) hB
        by_cases e2 : i = d
        · subst e2; rw [hd'] at hui; cases hui
        · exact hall i (by omega) (by rw [ho i e2]; exact hui)
  · intro h hne
    rw [h] at hne
    rw [mem_up hne.symm] at hd'; cases hd'
theorem moved_share {us vs : List Bool} {d : Nat} (hl : us.length = vs.length) (hd : us.getD d false = true) (hd' : vs.getD d false = false) (ho : ∀ i, i ≠ d → us.getD i false = vs.getD i false) (n : Nat) : movedTo us vs n = shareI us n (d : Int) := by
  unfold movedTo shareI
  rw [cnt_congr]
  intro i _
  have := moved_one hl hd hd' ho i
  by_cases h : memP us i = (d : Int)
  · rw [decide_eq_true (this.2 h), decide_eq_true h]
  · rw [decide_eq_false (fun hh => h (this.1 hh)), decide_eq_false h]

/-- Which of the first frames have a wire. -/
def hasTo (g : Nat → Int) (m : Int) : Nat → List Int
  | 0 => []
  | n + 1 => hasTo g m n ++ (if g n = m then [(n : Int)] else [])
theorem hasTo_len (g : Nat → Int) (m : Int) : ∀ n, (hasTo g m n).length = cnt (fun i => decide (g i = m)) n
  | 0 => rfl
  | n + 1 => by
    unfold hasTo cnt
    rw [List.length_append, hasTo_len g m n]
    split <;> simp_all
theorem hasTo_mem {g : Nat → Int} {m : Int} {x : Int} : ∀ {n : Nat}, x ∈ hasTo g m n → ∃ i : Nat, i < n ∧ x = (i : Int) ∧ g i = m
  | 0, h => by cases h
  | n + 1, h => by
    unfold hasTo at h
    rw [List.mem_append] at h
    rcases h with h | h
    · obtain ⟨i, h1, h2, h3⟩ := hasTo_mem h
      exact ⟨i, by omega, h2, h3⟩
    · split at h
      · rename_i hg
        simp at h
        exact ⟨n, by omega, h, hg⟩
      · cases h
theorem hasTo_asc (g : Nat → Int) (m : Int) : ∀ n, List.Pairwise (· < ·) (hasTo g m n)
  | 0 => List.Pairwise.nil
  | n + 1 => by
    unfold hasTo
    rw [List.pairwise_append]
    refine ⟨hasTo_asc g m n, by split <;> simp, fun a ha b hb => ?_⟩
    obtain ⟨i, h1, h2, _⟩ := hasTo_mem ha
    split at hb
    · simp at hb; omega
    · cases hb
def spreadTo (g : Nat → Int) (M n : Nat) : List (List Int) := (List.range M).map (fun m : Nat => hasTo g (m : Int) n)
theorem spreadTo_len (g : Nat → Int) (M n : Nat) : (spreadTo g M n).length = M := by simp [spreadTo]
theorem spreadTo_zero (g : Nat → Int) (M : Nat) : spreadTo g M 0 = List.replicate M [] := by
  apply List.ext_getElem
  · simp [spreadTo]
  · intro i h1 h2; simp [spreadTo, hasTo]
theorem spreadTo_get (g : Nat → Int) (n : Nat) {m M : Nat} (h : m < M) : (spreadTo g M n)[m]? = some (hasTo g (m : Int) n) := by
  simp [spreadTo, h]
theorem spreadTo_none {g : Nat → Int} {M n : Nat} (h : g n < 0) : spreadTo g M (n + 1) = spreadTo g M n := by
  unfold spreadTo
  apply List.map_congr_left
  intro m _
  rw [hasTo, if_neg (by omega), List.append_nil]
theorem spreadTo_some {g : Nat → Int} {M n m : Nat} (h : g n = (m : Int)) : spreadTo g M (n + 1) = (spreadTo g M n).set m (hasTo g (m : Int) n ++ [(n : Int)]) := by
  apply List.ext_getElem
  · simp [spreadTo]
  · intro j h1 h2
    simp only [spreadTo, List.getElem_set, List.getElem_map, List.getElem_range]
    by_cases e : m = j
    · subst e
      simp [hasTo, h]
    · rw [if_neg e, hasTo, if_neg (by omega), List.append_nil]
/-- How many frames the first wires have. -/
def lensTo (g : Nat → Int) (n m : Nat) : Int := (cnt (fun i => decide (0 ≤ g i ∧ g i < (m : Int))) n : Int)
theorem lensTo_zero (g : Nat → Int) (n : Nat) : lensTo g n 0 = 0 := by
  unfold lensTo
  rw [cnt_none]
  · rfl
  · intro i _; exact decide_eq_false (by omega)
theorem lensTo_succ (g : Nat → Int) (n m : Nat) : lensTo g n (m + 1) = lensTo g n m + ((hasTo g (m : Int) n).length : Int) := by
  unfold lensTo
  rw [hasTo_len, cnt_split (p := fun i => decide (0 ≤ g i ∧ g i < ((m + 1 : Nat) : Int))) (q := fun i => decide (0 ≤ g i ∧ g i < (m : Int))) (r := fun i => decide (g i = (m : Int)))]
  · omega
  · intro i _
    constructor
    · simp only [decide_eq_true_eq]; omega
    · simp only [decide_eq_true_eq]; omega
theorem lensTo_bounds (g : Nat → Int) (n m : Nat) : 0 ≤ lensTo g n m ∧ lensTo g n m ≤ (n : Int) := by
  unfold lensTo
  have := cnt_le (fun i => decide (0 ≤ g i ∧ g i < (m : Int))) n
  omega
theorem lensTo_all {g : Nat → Int} {n m : Nat} (h : ∀ i, i < n → 0 ≤ g i ∧ g i < (m : Int)) : lensTo g n m = (n : Int) := by
  unfold lensTo
  rw [cnt_all]
  intro i hi
  exact decide_eq_true (h i hi)
theorem lensTo_none {g : Nat → Int} {n m : Nat} (h : ∀ i, i < n → g i = -1) : lensTo g n m = 0 := by
  unfold lensTo
  rw [cnt_none]
  · rfl
  · intro i hi
    have := h i hi
    simp; omega
end Go.Proofs.Ytimddobedgopiaa
