/-
  Chapter 12's mathematics: weights, jobs, the order in turn, the order by classes, what is served, how far apart. Plain mathematics about lists, no condition.
-/
import Derived.Below
namespace Go.Proofs.Ytmifhkhanjiklaa

/-- A row of two numbers: a job (its class, its size), or a job in the line of its class (its index, its size). -/
abbrev Duo := Int × Int
def dw (ws : List Int) (c : Nat) : Int := ws.getD c 0
def dj (js : List Duo) (i : Nat) : Duo := js.getD i (0, 0)
def wtOk (ws : List Int) : Prop := (∀ w ∈ ws, 1 ≤ w ∧ w ≤ 9) ∧ 1 ≤ ws.length ∧ ws.length ≤ 4
instance (ws : List Int) : Decidable (wtOk ws) := by unfold wtOk; infer_instance
def jOk (nc : Nat) (j : Duo) : Prop := 0 ≤ j.1 ∧ j.1 < nc ∧ 1 ≤ j.2 ∧ j.2 ≤ 9
instance (nc : Nat) (j : Duo) : Decidable (jOk nc j) := by unfold jOk; infer_instance
def jobsOk (ws : List Int) (js : List Duo) : Prop := (∀ j ∈ js, jOk ws.length j) ∧ wtOk ws ∧ js.length ≤ 60
instance (ws : List Int) (js : List Duo) : Decidable (jobsOk ws js) := by unfold jobsOk; infer_instance
theorem dj_ok {ws : List Int} {js : List Duo} (h : jobsOk ws js) {i : Nat} (hi : i < js.length) : jOk ws.length (dj js i) := by
  have : dj js i = js[i] := by unfold dj; rw [List.getD_eq_getElem?_getD, List.getElem?_eq_getElem hi]; rfl
  rw [this]; exact h.1 _ (List.getElem_mem hi)
theorem dw_ok {ws : List Int} (h : wtOk ws) {c : Nat} (hc : c < ws.length) : 1 ≤ dw ws c ∧ dw ws c ≤ 9 := by
  have : dw ws c = ws[c] := by unfold dw; rw [List.getD_eq_getElem?_getD, List.getElem?_eq_getElem hc]; rfl
  rw [this]; exact h.1 _ (List.getElem_mem hc)

/-- The jobs of a class among the first m. -/
def idxs (js : List Duo) (c : Nat) (m : Nat) : List Nat := (List.range m).filter (fun i => decide ((dj js i).1 = (c : Int)))
theorem idxs_succ (js : List Duo) (c m : Nat) : idxs js c (m + 1) = idxs js c m ++ if (dj js m).1 = (c : Int) then [m] else [] := by
  unfold idxs
  rw [List.range_succ, List.filter_append]
  congr 1
  rw [List.filter_cons]
  by_cases h : (dj js m).1 = (c : Int) <;> simp [h]
/-- The line of a class. -/
def duoOf (js : List Duo) (i : Nat) : Duo := ((i : Int), (dj js i).2)
def lineTo (js : List Duo) (c m : Nat) : List Duo := (idxs js c m).map (duoOf js)
theorem lineTo_succ (js : List Duo) (c m : Nat) : lineTo js c (m + 1) = lineTo js c m ++ if (dj js m).1 = (c : Int) then [duoOf js m] else [] := by
  unfold lineTo
  rw [idxs_succ, List.map_append]
  congr 1
  split <;> rfl
def linesTo (js : List Duo) (nc m : Nat) : List (List Duo) := (List.range nc).map (fun c => lineTo js c m)
theorem linesTo_len (js : List Duo) (nc m : Nat) : (linesTo js nc m).length = nc := by simp [linesTo]
theorem linesTo_at (js : List Duo) (nc m c : Nat) (h : c < nc) : (linesTo js nc m)[c]? = some (lineTo js c m) := by simp [linesTo, h]
theorem linesTo_zero (js : List Duo) (nc : Nat) : linesTo js nc 0 = List.replicate nc [] := by
  apply List.ext_getElem?
  intro i
  by_cases hi : i < nc
  · rw [linesTo_at _ _ _ _ hi, List.getElem?_replicate, if_pos hi]; rfl
  · rw [List.getElem?_eq_none (by rw [linesTo_len]; omega), List.getElem?_eq_none (by simp; omega)]
theorem linesTo_succ (js : List Duo) (nc m c : Nat) (hc : c < nc) (h : (dj js m).1 = (c : Int)) : linesTo js nc (m + 1) = (linesTo js nc m).set c (lineTo js c m ++ [duoOf js m]) := by
  apply List.ext_getElem?
  intro i
  by_cases hi : i < nc
  · rw [linesTo_at _ _ _ _ hi]
    by_cases hic : i = c
    · subst hic
      rw [List.getElem?_set_self (by rw [linesTo_len]; exact hi), lineTo_succ, if_pos h]
    · rw [List.getElem?_set_ne (Ne.symm hic), linesTo_at _ _ _ _ hi, lineTo_succ, if_neg (by omega), List.append_nil]
  · rw [List.getElem?_eq_none (by rw [linesTo_len]; omega), List.getElem?_eq_none (by rw [List.length_set, linesTo_len]; omega)]

/- By classes. -/
def strictL (ws : List Int) (js : List Duo) : List Int := if jobsOk ws js then ((List.range ws.length).map (fun c => (idxs js c js.length).map Int.ofNat)).flatten else []
def strictTo (js : List Duo) (nc : Nat) : List Int := ((List.range nc).map (fun c => (idxs js c js.length).map Int.ofNat)).flatten
theorem strictTo_succ (js : List Duo) (nc : Nat) : strictTo js (nc + 1) = strictTo js nc ++ (idxs js nc js.length).map Int.ofNat := by
  unfold strictTo; rw [List.range_succ]; simp
theorem lineTo_fst (js : List Duo) (c m : Nat) : (lineTo js c m).map (·.1) = (idxs js c m).map Int.ofNat := by
  unfold lineTo; rw [List.map_map]; rfl

/- In turn. -/
def turnDo (k : Int) : List Duo → List Int × Int × List Duo
  | [] => ([], k, [])
  | j :: l => if j.2 ≤ k then (j.1 :: (turnDo (k - j.2) l).1, (turnDo (k - j.2) l).2) else ([], k, j :: l)
/-- A class in turn: what a turn gives, its credit, its line. -/
abbrev TC := Int × Int × List Duo
def tailOf (g : Int) (r : Int × List Duo) : List TC := if r.2 = [] then [] else [(g, r.1, r.2)]
def ringRun : Nat → List TC → List Int
  | 0, _ => []
  | _ + 1, [] => []
  | f + 1, c :: left => (turnDo (c.2.1 + c.1) c.2.2).1 ++ ringRun f (left ++ tailOf c.1 (turnDo (c.2.1 + c.1) c.2.2).2)
/-- What is left of a turn, and all behind it. -/
def contRun (f : Nat) (g : Int) (left : List TC) (k : Int) (l : List Duo) : List Int := (turnDo k l).1 ++ ringRun f (left ++ tailOf g (turnDo k l).2)
theorem ringRun_cons (f : Nat) (c : TC) (left : List TC) : ringRun (f + 1) (c :: left) = contRun f c.1 left (c.2.1 + c.1) c.2.2 := rfl
theorem turnDo_do (k : Int) (j : Duo) (l : List Duo) (h : j.2 ≤ k) : turnDo k (j :: l) = (j.1 :: (turnDo (k - j.2) l).1, (turnDo (k - j.2) l).2) := by
  conv => lhs; unfold turnDo
  rw [if_pos h]
theorem contRun_do (f : Nat) (g : Int) (left : List TC) (k : Int) (j : Duo) (l : List Duo) (h : j.2 ≤ k) : contRun f g left k (j :: l) = j.1 :: contRun f g left (k - j.2) l := by
  unfold contRun; rw [turnDo_do k j l h]; rfl
theorem contRun_stop (f : Nat) (g : Int) (left : List TC) (k : Int) (j : Duo) (l : List Duo) (h : ¬ j.2 ≤ k) : contRun f g left k (j :: l) = ringRun f (left ++ [(g, k, j :: l)]) := by
  unfold contRun turnDo; rw [if_neg h]; simp [tailOf]
theorem contRun_nil (f : Nat) (g : Int) (left : List TC) (k : Int) : contRun f g left k [] = ringRun f left := by
  unfold contRun turnDo; simp [tailOf]

def needL : List TC → Nat
  | [] => 0
  | c :: r => 1 + c.2.2.length + needL r
theorem needL_app (a b : List TC) : needL (a ++ b) = needL a + needL b := by
  induction a with
  | nil => simp [needL]
  | cons c r ih => simp only [List.cons_append, needL, ih]; omega
def lineOk (l : List Duo) : Prop := ∀ j ∈ l, 1 ≤ j.2 ∧ j.2 ≤ 9
def tcOk (c : TC) : Prop := 9 ≤ c.1 ∧ c.1 ≤ 81 ∧ 0 ≤ c.2.1 ∧ c.2.1 ≤ 8 ∧ lineOk c.2.2
def ringOk (r : List TC) : Prop := ∀ c ∈ r, tcOk c
theorem turn_len (l : List Duo) : ∀ k, (turnDo k l).2.2.length ≤ l.length := by
  induction l with
  | nil => intro k; simp [turnDo]
  | cons j l ih =>
    intro k
    unfold turnDo
    split
    · have := ih (k - j.2); simp only [List.length_cons]; omega
    · simp
theorem turn_less (j : Duo) (l : List Duo) (k : Int) (h : j.2 ≤ k) : (turnDo k (j :: l)).2.2.length < (j :: l).length := by
  unfold turnDo
  rw [if_pos h]
  have := turn_len l (k - j.2)
  simp only [List.length_cons]; omega
theorem turn_ok (l : List Duo) (hl : lineOk l) : ∀ k, 0 ≤ k → 0 ≤ (turnDo k l).2.1 ∧ ((turnDo k l).2.2 ≠ [] → (turnDo k l).2.1 ≤ 8) ∧ lineOk (turnDo k l).2.2 := by
  induction l with
  | nil => intro k hk; exact ⟨hk, fun h => absurd rfl h, hl⟩
  | cons j l ih =>
    intro k hk
    have hj := hl j (by simp)
    unfold turnDo
    split
    · exact ih (fun x hx => hl x (by simp [hx])) (k - j.2) (by omega)
    · exact ⟨hk, fun _ => by show k ≤ 8; omega, hl⟩
theorem need_tail (g : Int) (r : Int × List Duo) (h : r.2 ≠ []) : needL (tailOf g r) = 1 + r.2.length := by unfold tailOf; rw [if_neg h]; rfl
theorem need_tail_nil (g : Int) (r : Int × List Duo) (h : r.2 = []) : needL (tailOf g r) = 0 := by unfold tailOf; rw [if_pos h]; rfl
/-- A turn brings the ring nearer to its end. -/
theorem need_less {c : TC} {left : List TC} (hc : tcOk c) : needL (left ++ tailOf c.1 (turnDo (c.2.1 + c.1) c.2.2).2) < needL (c :: left) := by
  obtain ⟨g, k, l⟩ := c
  rw [needL_app, needL]
  show needL left + needL (tailOf g (turnDo (k + g) l).2) < 1 + l.length + needL left
  by_cases h : (turnDo (k + g) l).2.2 = []
  · rw [need_tail_nil _ _ h]; omega
  · rw [need_tail _ _ h]
    cases l with
    | nil => exact absurd (by simp [turnDo]) h
    | cons j l =>
      have h1 := hc.2.2.2.2 j (by simp)
      have h2 : 9 ≤ g := hc.1
      have h3 : 0 ≤ k := hc.2.2.1
      have := turn_less j l (k + g) (by omega)
      omega
theorem ringOk_turn {c : TC} {left : List TC} (h : ringOk (c :: left)) : ringOk (left ++ tailOf c.1 (turnDo (c.2.1 + c.1) c.2.2).2) := by
  intro x hx
  rcases List.mem_append.1 hx with hx | hx
  · exact h x (by simp [hx])
  · obtain ⟨h1, h2, h3, h4, h5⟩ := h c (by simp)
    obtain ⟨t1, t2, t3⟩ := turn_ok c.2.2 h5 (c.2.1 + c.1) (by omega)
    unfold tailOf at hx
    split at hx
    · cases hx
    · rename_i hne
      rw [List.mem_singleton.1 hx]
      exact ⟨h1, h2, t1, t2 hne, t3⟩
theorem need_pos (c : TC) (r : List TC) : 0 < needL (c :: r) := by unfold needL; omega
/-- Fuel that is enough is enough. -/
theorem ringRun_fuel (f : Nat) : ∀ (f' : Nat) (r : List TC), ringOk r → needL r ≤ f → needL r ≤ f' → ringRun f r = ringRun f' r := by
  induction f with
  | zero =>
    intro f' r _ h _
    cases r with
    | nil => cases f' <;> rfl
    | cons c r => have := need_pos c r; omega
  | succ f ih =>
    intro f' r hok h h'
    cases r with
    | nil => cases f' <;> rfl
    | cons c r =>
      have hp := need_pos c r
      cases f' with
      | zero => omega
      | succ f' =>
        have h1 := need_less (left := r) (hok c (by simp))
        unfold ringRun
        rw [ih f' _ (ringOk_turn hok) (by omega) (by omega)]
/-- A class without jobs is passed over. -/
theorem ringRun_live (f : Nat) : ∀ (f' : Nat) (r : List TC), ringOk r → needL r ≤ f → needL (r.filter (fun c => decide (c.2.2 ≠ []))) ≤ f' → ringRun f r = ringRun f' (r.filter (fun c => decide (c.2.2 ≠ []))) := by
  induction f with
  | zero =>
    intro f' r _ h _
    cases r with
    | nil => cases f' <;> rfl
    | cons c r => have := need_pos c r; omega
  | succ f ih =>
    intro f' r hok h h'
    cases r with
    | nil => cases f' <;> rfl
    | cons c r =>
      have h1 := need_less (left := r) (hok c (by simp))
      have h2 := ringOk_turn hok
      by_cases hc : c.2.2 = []
      · have e1 : (turnDo (c.2.1 + c.1) c.2.2) = ([], c.2.1 + c.1, []) := by rw [hc]; rfl
        have e2 : ringRun (f + 1) (c :: r) = ringRun f r := by
          rw [show ringRun (f + 1) (c :: r) = (turnDo (c.2.1 + c.1) c.2.2).1 ++ ringRun f (r ++ tailOf c.1 (turnDo (c.2.1 + c.1) c.2.2).2) from rfl, e1]; simp [tailOf]
        have e3 : (c :: r).filter (fun c => decide (c.2.2 ≠ [])) = r.filter (fun c => decide (c.2.2 ≠ [])) := by rw [List.filter_cons]; simp [hc]
        rw [e3] at h' ⊢
        rw [e2]
        exact ih f' r (fun x hx => hok x (by simp [hx])) (by rw [needL] at h; omega) h'
      · have e3 : (c :: r).filter (fun c => decide (c.2.2 ≠ [])) = c :: r.filter (fun c => decide (c.2.2 ≠ [])) := by rw [List.filter_cons]; simp [hc]
        have e4 : ∀ g x, (tailOf g x).filter (fun c => decide (c.2.2 ≠ [])) = tailOf g x := by
          intro g x; unfold tailOf; split
          · rfl
          · rename_i hne; simp [hne]
        have h3 := need_less (left := r.filter (fun c => decide (c.2.2 ≠ []))) (hok c (by simp))
        rw [e3] at h' ⊢
        cases f' with
        | zero => have := need_pos c (r.filter (fun c => decide (c.2.2 ≠ []))); omega
        | succ f' =>
          unfold ringRun
          congr 1
          have := ih f' _ h2 (by omega) (by rw [List.filter_append, e4]; omega)
          rw [this, List.filter_append, e4]

def ring0 (ws : List Int) (js : List Duo) : List TC := (List.range ws.length).map (fun c => (9 * dw ws c, 0, lineTo js c js.length))
def fairL (ws : List Int) (js : List Duo) : List Int := if jobsOk ws js then ringRun (needL (ring0 ws js)) (ring0 ws js) else []
theorem lineTo_ok {ws : List Int} {js : List Duo} (h : jobsOk ws js) (c m : Nat) (hm : m ≤ js.length) : lineOk (lineTo js c m) := by
  intro j hj
  unfold lineTo at hj
  rw [List.mem_map] at hj
  obtain ⟨i, hi, rfl⟩ := hj
  unfold idxs at hi
  rw [List.mem_filter, List.mem_range] at hi
  have := dj_ok h (show i < js.length by omega)
  exact this.2.2
theorem ring0_ok {ws : List Int} {js : List Duo} (h : jobsOk ws js) : ringOk (ring0 ws js) := by
  intro c hc
  unfold ring0 at hc
  rw [List.mem_map] at hc
  obtain ⟨i, hi, rfl⟩ := hc
  rw [List.mem_range] at hi
  have hw := dw_ok h.2.1 hi
  exact ⟨by show 9 ≤ 9 * dw ws i; omega, by show 9 * dw ws i ≤ 81; omega, Int.le_refl _, by show (0 : Int) ≤ 8; decide, lineTo_ok h _ _ (Nat.le_refl _)⟩
end Go.Proofs.Ytmifhkhanjiklaa
