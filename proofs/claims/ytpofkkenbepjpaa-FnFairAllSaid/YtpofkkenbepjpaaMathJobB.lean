/-
  Chapter 12's mathematics: what is served, what waits. Plain mathematics about lists, no condition.
-/
import Derived.Test.YtpofkkenbepjpaaMathJob
namespace Go.Proofs.Ytpofkkenbepjpaa

theorem idxs_len (js : List Duo) (c m : Nat) : (idxs js c m).length ≤ m := by
  unfold idxs
  exact Nat.le_trans (List.length_filter_le _ _) (by simp)
theorem strictTo_len (js : List Duo) (nc : Nat) : (strictTo js nc).length ≤ nc * js.length := by
  induction nc with
  | zero => simp [strictTo]
  | succ nc ih =>
    rw [strictTo_succ, List.length_append, List.length_map]
    have := idxs_len js nc js.length
    rw [Nat.succ_mul]; omega
theorem strict_step (js : List Duo) (nc m : Nat) : strictTo js nc ++ (idxs js nc (m + 1)).map Int.ofNat = (strictTo js nc ++ (idxs js nc m).map Int.ofNat) ++ if (dj js m).1 = (nc : Int) then [(m : Int)] else [] := by
  rw [idxs_succ, List.map_append, List.append_assoc]
  congr 2
  split <;> rfl

/-- Each number of an order is the index of a job. -/
def ixOk (order : List Int) (m : Nat) : Prop := ∀ x ∈ order, 0 ≤ x ∧ x < (m : Int)
instance (order : List Int) (m : Nat) : Decidable (ixOk order m) := by unfold ixOk; infer_instance
def sumTo (js : List Duo) (order : List Int) (c : Nat) : Nat → Int
  | 0 => 0
  | m + 1 => sumTo js order c m + if (dj js m).1 = (c : Int) ∧ (m : Int) ∈ order then (dj js m).2 else 0
def servedTo (js : List Duo) (order : List Int) (nc m : Nat) : List Int := (List.range nc).map (fun c => sumTo js order c m)
def servedL (ws : List Int) (js : List Duo) (order : List Int) : List Int := if jobsOk ws js ∧ ixOk order js.length then servedTo js order ws.length js.length else []
theorem servedTo_len (js : List Duo) (order : List Int) (nc m : Nat) : (servedTo js order nc m).length = nc := by simp [servedTo]
theorem servedTo_at (js : List Duo) (order : List Int) (nc m c : Nat) (h : c < nc) : (servedTo js order nc m)[c]? = some (sumTo js order c m) := by simp [servedTo, h]
theorem sum_bounds {ws : List Int} {js : List Duo} (h : jobsOk ws js) (order : List Int) (c : Nat) : ∀ m, m ≤ js.length → 0 ≤ sumTo js order c m ∧ sumTo js order c m ≤ 9 * (m : Int) := by
  intro m
  induction m with
  | zero => intro _; simp [sumTo]
  | succ m ih =>
    intro hm
    have h1 := ih (by omega)
    have h2 := (dj_ok h (show m < js.length by omega)).2.2
    unfold sumTo
    split <;> omega
theorem sum_nil (js : List Duo) (c : Nat) : ∀ m, sumTo js [] c m = 0
  | 0 => rfl
  | m + 1 => by unfold sumTo; rw [sum_nil js c m]; simp
theorem served_nil (js : List Duo) (nc m : Nat) : servedTo js [] nc m = List.replicate nc 0 := by
  apply List.ext_getElem?
  intro i
  by_cases hi : i < nc
  · rw [servedTo_at _ _ _ _ _ hi, sum_nil, List.getElem?_replicate, if_pos hi]
  · rw [List.getElem?_eq_none (by rw [servedTo_len]; omega), List.getElem?_eq_none (by simp; omega)]
theorem served_zero (js : List Duo) (order : List Int) (nc : Nat) : servedTo js order nc 0 = List.replicate nc 0 := by
  apply List.ext_getElem?
  intro i
  by_cases hi : i < nc
  · rw [servedTo_at _ _ _ _ _ hi, List.getElem?_replicate, if_pos hi]; rfl
  · rw [List.getElem?_eq_none (by rw [servedTo_len]; omega), List.getElem?_eq_none (by simp; omega)]
theorem sum_same {js : List Duo} {o o' : List Int} (c : Nat) (h : ∀ x, x ∈ o ↔ x ∈ o') : ∀ m, sumTo js o c m = sumTo js o' c m
  | 0 => rfl
  | m + 1 => by unfold sumTo; rw [sum_same c h m]; simp only [h]
theorem served_same {js : List Duo} {o o' : List Int} (nc m : Nat) (h : ∀ x, x ∈ o ↔ x ∈ o') : servedTo js o nc m = servedTo js o' nc m := by
  unfold servedTo
  apply List.map_congr_left
  intro c _
  exact sum_same c h m
theorem sum_snoc (js : List Duo) (o : List Int) (c i : Nat) (hn : (i : Int) ∉ o) : ∀ m, sumTo js (o ++ [(i : Int)]) c m = sumTo js o c m + if i < m ∧ (dj js i).1 = (c : Int) then (dj js i).2 else 0
  | 0 => by simp [sumTo]
  | m + 1 => by
    unfold sumTo
    rw [sum_snoc js o c i hn m]
    by_cases him : i = m
    · subst him
      simp only [List.mem_append, List.mem_singleton, or_true, and_true, Nat.lt_irrefl, false_and, if_false, Nat.lt_succ_self, true_and, hn, and_false, Int.add_zero]
    · have e1 : ((m : Int) ∈ o ++ [(i : Int)]) ↔ (m : Int) ∈ o := by simp; omega
      have e2 : (i < m + 1 ∧ (dj js i).1 = (c : Int)) ↔ (i < m ∧ (dj js i).1 = (c : Int)) := by constructor <;> (rintro ⟨h1, h2⟩; exact ⟨by omega, h2⟩)
      simp only [e1, e2]
      split <;> split <;> omega
/-- One job more is done. -/
theorem served_snoc (js : List Duo) (o : List Int) (nc i c : Nat) (hc : c < nc) (hi : i < js.length) (hn : (i : Int) ∉ o) (hcl : (dj js i).1 = (c : Int)) :
    servedTo js (o ++ [(i : Int)]) nc js.length = (servedTo js o nc js.length).set c (sumTo js o c js.length + (dj js i).2) := by
  apply List.ext_getElem?
  intro k
  by_cases hk : k < nc
  · rw [servedTo_at _ _ _ _ _ hk, sum_snoc js o k i hn]
    by_cases hkc : k = c
    · subst hkc
      rw [List.getElem?_set_self (by rw [servedTo_len]; exact hk), if_pos ⟨hi, hcl⟩]
    · rw [List.getElem?_set_ne (Ne.symm hkc), servedTo_at _ _ _ _ _ hk, if_neg (by rintro ⟨_, h2⟩; omega), Int.add_zero]
  · rw [List.getElem?_eq_none (by rw [servedTo_len]; omega), List.getElem?_eq_none (by rw [List.length_set, servedTo_len]; omega)]
theorem served_again (js : List Duo) (o : List Int) (nc i m : Nat) (hn : (i : Int) ∈ o) : servedTo js (o ++ [(i : Int)]) nc m = servedTo js o nc m :=
  served_same nc m (fun x => by simp; intro e; rw [e]; exact hn)
/-- The next job is looked at. -/
theorem served_succ (js : List Duo) (o : List Int) (nc m c : Nat) (hc : c < nc) (hm : (m : Int) ∈ o) (hcl : (dj js m).1 = (c : Int)) : servedTo js o nc (m + 1) = (servedTo js o nc m).set c (sumTo js o c m + (dj js m).2) := by
  apply List.ext_getElem?
  intro k
  by_cases hk : k < nc
  · rw [servedTo_at _ _ _ _ _ hk]
    by_cases hkc : k = c
    · subst hkc
      rw [List.getElem?_set_self (by rw [servedTo_len]; exact hk), sumTo, if_pos ⟨hcl, hm⟩]
    · rw [List.getElem?_set_ne (Ne.symm hkc), servedTo_at _ _ _ _ _ hk, sumTo, if_neg (by rintro ⟨h2, _⟩; omega), Int.add_zero]
  · rw [List.getElem?_eq_none (by rw [servedTo_len]; omega), List.getElem?_eq_none (by rw [List.length_set, servedTo_len]; omega)]
theorem served_skip (js : List Duo) (o : List Int) (nc m : Nat) (hm : (m : Int) ∉ o) : servedTo js o nc (m + 1) = servedTo js o nc m := by
  unfold servedTo
  apply List.map_congr_left
  intro c _
  rw [sumTo, if_neg (by rintro ⟨_, h2⟩; exact hm h2), Int.add_zero]

/-- Which jobs have been seen. -/
def seenL (o : List Int) (n : Nat) : List Bool := (List.range n).map (fun (i : Nat) => decide (((i : Nat) : Int) ∈ o))
theorem seenL_nil (n : Nat) : seenL [] n = List.replicate n false := by
  apply List.ext_getElem?
  intro i
  by_cases hi : i < n
  · simp [seenL, hi]
  · rw [List.getElem?_eq_none (by simp [seenL]; omega), List.getElem?_eq_none (by simp; omega)]
theorem seenL_get (o : List Int) (n i : Nat) (h : i < n) : (seenL o n).getD i false = decide ((i : Int) ∈ o) := by
  rw [List.getD_eq_getElem?_getD]; simp [seenL, h]
theorem seenL_snoc (o : List Int) (n i : Nat) (h : i < n) : seenL (o ++ [(i : Int)]) n = (seenL o n).set i true := by
  apply List.ext_getElem?
  intro k
  by_cases hk : k < n
  · by_cases hki : k = i
    · subst hki
      rw [List.getElem?_set_self (by simp [seenL]; exact hk)]
      simp [seenL, hk]
    · rw [List.getElem?_set_ne (Ne.symm hki)]
      have : ¬ (k : Int) = (i : Int) := by omega
      simp [seenL, hk, this]
  · rw [List.getElem?_eq_none (by simp [seenL]; omega), List.getElem?_eq_none (by simp [seenL]; omega)]

/- What waits. -/
def szOk (js : List Duo) (order : List Int) : Prop := ∀ x ∈ order, 1 ≤ (dj js x.toNat).2 ∧ (dj js x.toNat).2 ≤ 9
instance (js : List Duo) (order : List Int) : Decidable (szOk js order) := by unfold szOk; infer_instance
def sizesL (js : List Duo) : List Int → Int
  | [] => 0
  | x :: o => (dj js x.toNat).2 + sizesL js o
/-- What is done ahead of k; -1 if it isn't in the order. -/
def aheadL (js : List Duo) (k : Int) : Int → List Int → Int
  | _, [] => -1
  | s, x :: o => if x = k then s else aheadL js k (s + (dj js x.toNat).2) o
def waitsL (js : List Duo) (order : List Int) (k : Int) : Int := if ixOk order js.length ∧ szOk js order then aheadL js k 0 order else -1
theorem sizesL_app (js : List Duo) (a b : List Int) : sizesL js (a ++ b) = sizesL js a + sizesL js b := by
  induction a with
  | nil => simp [sizesL]
  | cons x o ih => simp only [List.cons_append, sizesL, ih]; omega
theorem sizes_bounds {js : List Duo} {o : List Int} (h : szOk js o) : (o.length : Int) ≤ sizesL js o ∧ sizesL js o ≤ 9 * (o.length : Int) := by
  induction o with
  | nil => simp [sizesL]
  | cons x o ih =>
    have h1 := h x (by simp)
    have h2 := ih (fun y hy => h y (by simp [hy]))
    simp only [sizesL, List.length_cons]
    omega
theorem ahead_skip {js : List Duo} {k s : Int} {order : List Int} {p : Nat} {x : Int} (hx : order[p]? = some x) (hk : x ≠ k) : aheadL js k s (order.drop p) = aheadL js k (s + (dj js x.toNat).2) (order.drop (p + 1)) := by
  rw [List.drop_eq_getElem_cons (List.getElem?_eq_some_iff.1 hx).1, (List.getElem?_eq_some_iff.1 hx).2]
  rw [aheadL, if_neg hk]
theorem ahead_here {js : List Duo} {k s : Int} {order : List Int} {p : Nat} (hx : order[p]? = some k) : aheadL js k s (order.drop p) = s := by
  rw [List.drop_eq_getElem_cons (List.getElem?_eq_some_iff.1 hx).1, (List.getElem?_eq_some_iff.1 hx).2]
  rw [aheadL, if_pos rfl]
theorem ahead_none {js : List Duo} {k : Int} {o : List Int} (h : k ∉ o) : ∀ s, aheadL js k s o = -1 := by
  induction o with
  | nil => intro s; rfl
  | cons x o ih =>
    intro s
    rw [aheadL, if_neg (by rintro rfl; exact h (by simp))]
    exact ih (fun hh => h (by simp [hh])) _
/-- Where k stands first, what is ahead of it. -/
theorem ahead_take {js : List Duo} {k : Int} (o : List Int) : ∀ (p : Nat) (s : Int), o[p]? = some k → (∀ q, q < p → o[q]? ≠ some k) → aheadL js k s o = s + sizesL js (o.take p) := by
  induction o with
  | nil => intro p s h; simp at h
  | cons x o ih =>
    intro p s h hq
    cases p with
    | zero => simp at h; subst h; simp [aheadL, sizesL]
    | succ p =>
      have hxk : x ≠ k := by have := hq 0 (by omega); simpa using this
      rw [aheadL, if_neg hxk, ih p _ (by simpa using h) (fun q hqp => by have := hq (q + 1) (by omega); simpa using this), List.take_succ_cons, sizesL]
      omega
end Go.Proofs.Ytpofkkenbepjpaa
