/-
  Chapter 4's plain mathematics: which messages arrive, how often, in which order, how many are lost, and what a clear wire does. No condition.
-/
import Derived.Test.YtdkljljalfjpoaaBits
namespace Go.Proofs.Ytdkljljalfjpoaa
open Go.RowKit

def fOk (fs : List Int) : Prop := (∀ f ∈ fs, 0 ≤ f ∧ f ≤ 4) ∧ fs.length ≤ 200
instance (fs : List Int) : Decidable (fOk fs) := by unfold fOk; infer_instance
/-- The fate of the message i. -/
def fateN (fs : List Int) (i : Nat) : Int := fs.getD i 0
def fateI (fs : List Int) (i : Int) : Int := if fOk fs ∧ 0 ≤ i then fateN fs i.toNat else -1
theorem fateN_in (fs : List Int) (i : Nat) (f : Int) (h : fs[i]? = some f) : fateN fs i = f := by simp [fateN, List.getD_eq_getElem?_getD, h]
theorem fateN_out (fs : List Int) (i : Nat) (h : fs.length ≤ i) : fateN fs i = 0 := by simp [fateN, List.getD_eq_getElem?_getD, List.getElem?_eq_none h]
theorem fateN_b {fs : List Int} (h : fOk fs) (i : Nat) : 0 ≤ fateN fs i ∧ fateN fs i ≤ 4 := by
  by_cases hi : i < fs.length
  · have hf := List.getElem?_eq_getElem hi
    rw [fateN_in fs i _ hf]; exact h.1 _ (List.getElem_mem hi)
  · rw [fateN_out fs i (by omega)]; omega
theorem fateI_b (fs : List Int) (i : Int) : -1 ≤ fateI fs i ∧ fateI fs i ≤ 4 := by
  unfold fateI
  split
  · rename_i h; have := fateN_b h.1 i.toNat; omega
  · omega
theorem fateI_yes {fs : List Int} (h : fOk fs) (i : Nat) : fateI fs (i : Int) = fateN fs i := by unfold fateI; rw [if_pos ⟨h, by omega⟩]; rfl

/-- When the message i arrives; -1 if it doesn't. -/
def atN (fs : List Int) (i : Nat) : Int := if fateN fs i = 1 then -1 else if fateN fs i = 3 then 2 * (i : Int) + 3 else 2 * (i : Int)
def oneArr (fs : List Int) (t i : Nat) : List Int := if atN fs i = (t : Int) then (if fateN fs i = 2 then [(i : Int), (i : Int)] else [(i : Int)]) else []
def rowArr (fs : List Int) (t n : Nat) : List Int := (List.range n).flatMap (oneArr fs t)
def arrTo (fs : List Int) (n T : Nat) : List Int := (List.range T).flatMap (fun t => rowArr fs t n)
def arrF (fs : List Int) (n : Nat) : List Int := arrTo fs n (2 * n + 3)
def arrI (fs : List Int) (n : Int) : List Int := if fOk fs ∧ 0 ≤ n ∧ n ≤ 60 then arrF fs n.toNat else []
theorem oneArr_len (fs : List Int) (t i : Nat) : (oneArr fs t i).length ≤ 2 := by
  unfold oneArr; split
  · split <;> simp
  · simp
theorem rowArr_snoc (fs : List Int) (t n : Nat) : rowArr fs t (n + 1) = rowArr fs t n ++ oneArr fs t n := by simp [rowArr, List.range_succ]
theorem rowArr_len (fs : List Int) (t n : Nat) : (rowArr fs t n).length ≤ 2 * n := by
  induction n with
  | zero => simp [rowArr]
  | succ n ih => have := oneArr_len fs t n; rw [rowArr_snoc, List.length_append]; omega
theorem arrTo_snoc (fs : List Int) (n T : Nat) : arrTo fs n (T + 1) = arrTo fs n T ++ rowArr fs T n := by simp [arrTo, List.range_succ]
theorem arrTo_len (fs : List Int) (n T : Nat) : (arrTo fs n T).length ≤ T * (2 * n) := by
  induction T with
  | zero => simp [arrTo]
  | succ T ih => have := rowArr_len fs T n; rw [arrTo_snoc, List.length_append, Nat.succ_mul]; omega
theorem arrI_le (fs : List Int) (n : Int) : (arrI fs n).length ≤ 14760 := by
  unfold arrI
  split
  · rename_i h
    have h1 := arrTo_len fs n.toNat (2 * n.toNat + 3)
    have h2 : (2 * n.toNat + 3) * (2 * n.toNat) ≤ 123 * 120 := Nat.mul_le_mul (by omega) (by omega)
    unfold arrF; omega
  · simp
theorem mem_oneArr {fs : List Int} {t i : Nat} {x : Int} (h : x ∈ oneArr fs t i) : x = (i : Int) ∧ atN fs i = (t : Int) := by
  unfold oneArr at h
  split at h
  · rename_i h1
    split at h <;> (simp at h; exact ⟨h, h1⟩)
  · cases h
theorem mem_rowArr {fs : List Int} {t n : Nat} {x : Int} (h : x ∈ rowArr fs t n) : ∃ i : Nat, i < n ∧ x = (i : Int) ∧ atN fs i = (t : Int) := by
  simp only [rowArr, List.mem_flatMap, List.mem_range] at h
  obtain ⟨i, hi, hx⟩ := h
  exact ⟨i, hi, mem_oneArr hx⟩
theorem mem_arrTo {fs : List Int} {n T : Nat} {x : Int} (h : x ∈ arrTo fs n T) : ∃ i t : Nat, i < n ∧ t < T ∧ x = (i : Int) ∧ atN fs i = (t : Int) := by
  simp only [arrTo, List.mem_flatMap, List.mem_range] at h
  obtain ⟨t, ht, hx⟩ := h
  obtain ⟨i, hi, he, ha⟩ := mem_rowArr hx
  exact ⟨i, t, hi, ht, he, ha⟩
theorem arrI_b {fs : List Int} {n x : Int} (h : x ∈ arrI fs n) : 0 ≤ x ∧ x < n ∧ n ≤ 60 := by
  unfold arrI at h
  split at h
  · rename_i hg
    obtain ⟨i, t, hi, _, rfl, _⟩ := mem_arrTo h
    omega
  · cases h
/-- How often the message i arrives. -/
def wantN (fs : List Int) (i : Nat) : Nat := if fateN fs i = 1 then 0 else if fateN fs i = 2 then 2 else 1
theorem count_oneArr (fs : List Int) (t i j : Nat) : (oneArr fs t i).count (j : Int) = if i = j ∧ atN fs j = (t : Int) then wantN fs j else 0 := by
  by_cases hij : i = j
  · subst hij
    unfold oneArr
    by_cases ha : atN fs i = (t : Int)
    · rw [if_pos ha, if_pos (show i = i ∧ atN fs i = (t : Int) from ⟨rfl, ha⟩)]
      have h1 : fateN fs i ≠ 1 := fun h => by unfold atN at ha; rw [if_pos h] at ha; omega
      unfold wantN
      rw [if_neg h1]
      split <;> simp
    · rw [if_neg ha, if_neg (fun h => ha h.2)]; rfl
  · rw [if_neg (fun h => hij h.1)]
    apply List.count_eq_zero_of_not_mem
    intro h
    have := (mem_oneArr h).1
    omega
theorem count_rowArr (fs : List Int) (t n j : Nat) : (rowArr fs t n).count (j : Int) = if j < n ∧ atN fs j = (t : Int) then wantN fs j else 0 := by
  induction n with
  | zero => simp [rowArr]
  | succ n ih =>
    rw [rowArr_snoc, List.count_append, ih, count_oneArr]
    by_cases ha : atN fs j = (t : Int)
    · by_cases h1 : j < n
      · rw [if_pos ⟨h1, ha⟩, if_neg (fun h => by omega), if_pos ⟨by omega, ha⟩]; omega
      · by_cases h2 : n = j
        · rw [if_neg (fun h => h1 h.1), if_pos ⟨h2, ha⟩, if_pos ⟨by omega, ha⟩]; omega
        · rw [if_neg (fun h => h1 h.1), if_neg (fun h => h2 h.1), if_neg (fun h => by omega)]
    · rw [if_neg (fun h => ha h.2), if_neg (fun h => ha h.2), if_neg (fun h => ha h.2)]
theorem count_arrTo (fs : List Int) (n T j : Nat) (hj : j < n) : (arrTo fs n T).count (j : Int) = if atN fs j < (T : Int) then wantN fs j else 0 := by
  induction T with
  | zero =>
    by_cases h1 : fateN fs j = 1
    · simp [arrTo, wantN, h1]
    · have : ¬ atN fs j < ((0 : Nat) : Int) := by unfold atN; rw [if_neg h1]; split <;> omega
      rw [if_neg this]; rfl
  | succ T ih =>
    rw [arrTo_snoc, List.count_append, ih, count_rowArr]
    by_cases h0 : atN fs j < (T : Int)
    · rw [if_pos h0, if_neg (fun h => by omega), if_pos (by omega)]; omega
    · by_cases h1 : atN fs j = (T : Int)
      · rw [if_neg h0, if_pos ⟨hj, h1⟩, if_pos (by omega)]; omega
      · rw [if_neg h0, if_neg (fun h => h1 h.2), if_neg (by omega)]
theorem count_arrF (fs : List Int) (n j : Nat) (hj : j < n) : (arrF fs n).count (j : Int) = wantN fs j := by
  unfold arrF
  rw [count_arrTo fs n _ j hj, if_pos]
  unfold atN
  split
  · omega
  · split <;> omega
/-- In the order of their times, those with one time in that of their indexes. -/
def early (fs : List Int) (x y : Int) : Prop := ∃ i j : Nat, x = (i : Int) ∧ y = (j : Int) ∧ 0 ≤ atN fs i ∧ 0 ≤ atN fs j ∧ (atN fs i < atN fs j ∨ (atN fs i = atN fs j ∧ i ≤ j))
theorem pair_rowArr (fs : List Int) (t n : Nat) : (rowArr fs t n).Pairwise (early fs) := by
  induction n with
  | zero => simp [rowArr]
  | succ n ih =>
    rw [rowArr_snoc, List.pairwise_append]
    refine ⟨ih, ?_, ?_⟩
    · unfold oneArr
      split
      · rename_i h
        split
        · simp
          exact ⟨n, n, rfl, rfl, by omega, by omega, .inr ⟨rfl, Nat.le_refl _⟩⟩
        · simp
      · simp
    · intro x hx y hy
      obtain ⟨i, hi, rfl, ha⟩ := mem_rowArr hx
      obtain ⟨rfl, hb⟩ := mem_oneArr hy
      exact ⟨i, n, rfl, rfl, by omega, by omega, .inr ⟨by omega, by omega⟩⟩
theorem pair_arrTo (fs : List Int) (n T : Nat) : (arrTo fs n T).Pairwise (early fs) := by
  induction T with
  | zero => simp [arrTo]
  | succ T ih =>
    rw [arrTo_snoc, List.pairwise_append]
    refine ⟨ih, pair_rowArr fs T n, ?_⟩
    intro x hx y hy
    obtain ⟨i, t, _, ht, rfl, ha⟩ := mem_arrTo hx
    obtain ⟨j, _, rfl, hb⟩ := mem_rowArr hy
    exact ⟨i, j, rfl, rfl, by omega, by omega, .inl (by omega)⟩
/-- Who is overtaken is late, and overtaken by the next one alone, which is not. -/
theorem near {fs : List Int} {x y : Int} (h : early fs x y) (hlt : y < x) : x = y + 1 ∧ fateN fs y.toNat = 3 ∧ fateN fs x.toNat ≠ 3 := by
  obtain ⟨i, j, rfl, rfl, hi, hj, h⟩ := h
  rw [Int.toNat_natCast, Int.toNat_natCast]
  unfold atN at h hi hj
  by_cases a1 : fateN fs i = 1
  · rw [if_pos a1] at hi; omega
  · by_cases b1 : fateN fs j = 1
    · rw [if_pos b1] at hj; omega
    · rw [if_neg a1, if_neg b1] at h
      by_cases a3 : fateN fs i = 3
      · by_cases b3 : fateN fs j = 3
        · rw [if_pos a3, if_pos b3] at h; omega
        · rw [if_pos a3, if_neg b3] at h; omega
      · by_cases b3 : fateN fs j = 3
        · rw [if_neg a3, if_pos b3] at h; exact ⟨by omega, b3, a3⟩
        · rw [if_neg a3, if_neg b3] at h; omega

/-- How many of n messages have a fate. -/
def manyN (fs : List Int) (f : Int) (n : Nat) : Nat := ((List.range n).filter (fun i => decide (fateN fs i = f))).length
theorem manyN_zero (fs : List Int) (f : Int) : manyN fs f 0 = 0 := rfl
theorem manyN_snoc (fs : List Int) (f : Int) (n : Nat) : manyN fs f (n + 1) = manyN fs f n + (if fateN fs n = f then 1 else 0) := by
  unfold manyN
  rw [List.range_succ, List.filter_append, List.length_append]
  by_cases h : fateN fs n = f <;> simp [h]
theorem manyN_le (fs : List Int) (f : Int) (n : Nat) : manyN fs f n ≤ n := by
  induction n with
  | zero => simp [manyN]
  | succ n ih => rw [manyN_snoc]; split <;> omega
def lostI (fs : List Int) (n : Int) : Int := if fOk fs ∧ 0 ≤ n ∧ n ≤ 60 then (manyN fs 1 n.toNat : Int) else -1
theorem lostI_b (fs : List Int) (n : Int) : -1 ≤ lostI fs n ∧ lostI fs n ≤ 60 := by
  unfold lostI
  split
  · have := manyN_le fs 1 n.toNat; omega
  · omega
/-- The wanted ones of n messages together. -/
def sumWant (fs : List Int) : Nat → Nat
  | 0 => 0
  | n + 1 => sumWant fs n + wantN fs n
theorem sumWant_eq (fs : List Int) (n : Nat) : sumWant fs n + manyN fs 1 n = n + manyN fs 2 n := by
  induction n with
  | zero => rfl
  | succ n ih =>
    rw [manyN_snoc, manyN_snoc, sumWant]
    unfold wantN
    by_cases h1 : fateN fs n = 1
    · rw [if_pos h1, if_pos h1, if_neg (by omega)]; omega
    · rw [if_neg h1, if_neg h1]
      by_cases h2 : fateN fs n = 2
      · rw [if_pos h2, if_pos h2]; omega
      · rw [if_neg h2, if_neg h2]; omega
theorem len_counts (n : Nat) : ∀ xs : List Int, (∀ x ∈ xs, ∃ i : Nat, i < n ∧ x = (i : Int)) → xs.length = ((List.range n).map (fun i => xs.count ((i : Nat) : Int))).sum := by
  intro xs
  induction xs with
  | nil =>
    intro _
    have : ∀ m : Nat, ((List.range m).map (fun i => ([] : List Int).count ((i : Nat) : Int))).sum = 0 := by
      intro m
      induction m with
      | zero => rfl
      | succ m ih => rw [List.range_succ, List.map_append, List.sum_append, ih]; rfl
    rw [this]; rfl
  | cons x xs ih =>
    intro h
    obtain ⟨i, hi, rfl⟩ := h x (List.mem_cons_self)
    have h2 := ih (fun y hy => h y (List.mem_cons_of_mem _ hy))
    rw [List.length_cons, h2]
    have key : ∀ m : Nat, ((List.range m).map (fun j => ((i : Int) :: xs).count ((j : Nat) : Int))).sum = ((List.range m).map (fun j => xs.count ((j : Nat) : Int))).sum + (if i < m then 1 else 0) := by
      intro m
      induction m with
      | zero => simp
      | succ m ih2 =>
        rw [List.range_succ, List.map_append, List.map_append, List.sum_append, List.sum_append, ih2]
        simp only [List.map_cons, List.map_nil, List.sum_cons, List.sum_nil]
        by_cases he : i = m
        · subst he
          simp
          omega
        · have : ((i : Int) :: xs).count ((m : Nat) : Int) = xs.count ((m : Nat) : Int) := by
            rw [List.count_cons]
            have : ((i : Int) == ((m : Nat) : Int)) = false := by simp; omega
            rw [this]; simp
          rw [this]
          by_cases h3 : i < m
          · rw [if_pos h3, if_pos (by omega)]; omega
          · rw [if_neg h3, if_neg (by omega)]; omega
    rw [key, if_pos hi]
theorem len_arrF (fs : List Int) (n : Nat) : (arrF fs n).length = sumWant fs n := by
  rw [len_counts n (arrF fs n) (fun x hx => by obtain ⟨i, t, hi, _, he, _⟩ := mem_arrTo hx; exact ⟨i, hi, he⟩)]
  have : ∀ m, m ≤ n → ((List.range m).map (fun i => (arrF fs n).count ((i : Nat) : Int))).sum = sumWant fs m := by
    intro m
    induction m with
    | zero => intro _; rfl
    | succ m ih =>
      intro hm
      rw [List.range_succ, List.map_append, List.sum_append, ih (by omega), sumWant]
      simp [count_arrF fs n m (by omega)]
  exact this n (Nat.le_refl _)
theorem len_lost (fs : List Int) (n : Nat) : (arrF fs n).length + manyN fs 1 n = n + manyN fs 2 n := by rw [len_arrF]; exact sumWant_eq fs n
theorem sumWant_le (fs : List Int) (n : Nat) : sumWant fs n ≤ 2 * n := by
  have h1 := sumWant_eq fs n
  have h2 := manyN_le fs 2 n
  omega
theorem arrI_120 (fs : List Int) (n : Int) : (arrI fs n).length ≤ 120 := by
  unfold arrI
  split
  · rw [len_arrF]; have := sumWant_le fs n.toNat; omega
  · simp

/-- The fates behind the first n. -/
def behI (fs : List Int) (n : Int) : List Int := if fOk fs ∧ 0 ≤ n then fs.drop n.toNat else []
theorem behI_le {fs : List Int} {n : Int} : (behI fs n).length ≤ 200 := by
  unfold behI
  split
  · rename_i h; have := h.1.2; rw [List.length_drop]; omega
  · simp
theorem fOk_drop {fs : List Int} (h : fOk fs) (n : Nat) : fOk (fs.drop n) := ⟨fun f hf => h.1 f (List.mem_of_mem_drop hf), by have := h.2; rw [List.length_drop]; omega⟩
theorem fateN_drop (fs : List Int) (n i : Nat) : fateN (fs.drop n) i = fateN fs (n + i) := by simp [fateN, List.getD_eq_getElem?_getD]

/-- Fates that do nothing. -/
def clearB (fs : List Int) : Bool := decide ((∀ f ∈ fs, f = 0) ∧ fs.length ≤ 200)
theorem clear_ok {fs : List Int} (h : clearB fs = true) : fOk fs := by
  simp only [clearB, decide_eq_true_eq] at h
  exact ⟨fun f hf => by have := h.1 f hf; omega, h.2⟩
theorem clear_fate {fs : List Int} (h : clearB fs = true) (i : Nat) : fateN fs i = 0 := by
  simp only [clearB, decide_eq_true_eq] at h
  by_cases hi : i < fs.length
  · have hf := List.getElem?_eq_getElem hi
    rw [fateN_in fs i _ hf]; exact h.1 _ (List.getElem_mem hi)
  · exact fateN_out fs i (by omega)
end Go.Proofs.Ytdkljljalfjpoaa
