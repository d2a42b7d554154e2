/-
  Chapter 12's mathematics: the model's way to do jobs in turn, round by round. Plain mathematics about lists, no condition.
-/
import Derived.Test.YtpofkkenbepjpaaMathJobB
namespace Go.Proofs.Ytpofkkenbepjpaa

/- How many are left. -/
def lenL : List TC → Nat
  | [] => 0
  | c :: r => c.2.2.length + lenL r
theorem lenL_app (a b : List TC) : lenL (a ++ b) = lenL a + lenL b := by
  induction a with
  | nil => simp [lenL]
  | cons c r ih => simp only [List.cons_append, lenL, ih]; omega
theorem turn_all (l : List Duo) : ∀ k, (turnDo k l).1 ++ (turnDo k l).2.2.map (·.1) = l.map (·.1) := by
  induction l with
  | nil => intro k; rfl
  | cons j l ih =>
    intro k
    by_cases h : j.2 ≤ k
    · rw [turnDo_do k j l h, List.map_cons, ← ih (k - j.2)]; rfl
    · unfold turnDo; rw [if_neg h]; rfl
theorem turn_lens (l : List Duo) (k : Int) : (turnDo k l).1.length + (turnDo k l).2.2.length = l.length := by
  have := congrArg List.length (turn_all l k)
  simpa using this
theorem len_tail (g : Int) (r : Int × List Duo) : lenL (tailOf g r) = r.2.length := by
  unfold tailOf
  split
  · rename_i h; rw [h]; rfl
  · rfl
theorem ringRun_len (f : Nat) : ∀ r : List TC, ringOk r → needL r ≤ f → (ringRun f r).length = lenL r := by
  induction f with
  | zero =>
    intro r _ h
    cases r with
    | nil => rfl
    | cons c r => have := need_pos c r; omega
  | succ f ih =>
    intro r hok h
    cases r with
    | nil => rfl
    | cons c r =>
      have h1 := need_less (left := r) (hok c (by simp))
      have h2 := ih _ (ringOk_turn hok) (by omega)
      unfold ringRun
      rw [List.length_append, h2, lenL_app, len_tail, lenL]
      have := turn_lens c.2.2 (c.2.1 + c.1)
      omega

/- The model's state: which jobs are done, and the credits. -/
def leftP (js : List Duo) (dn : List Bool) (cl : Nat) (i : Nat) : Bool := decide ((dj js i).1 = (cl : Int)) && !(dn.getD i false)
def restIx (js : List Duo) (dn : List Bool) (c : Nat) : List Nat := (List.range js.length).filter (leftP js dn c)
def restOf (js : List Duo) (dn : List Bool) (c : Nat) : List Duo := (restIx js dn c).map (duoOf js)
theorem restIx_mem {js : List Duo} {dn : List Bool} {c i : Nat} (h : i ∈ restIx js dn c) : i < js.length ∧ (dj js i).1 = (c : Int) ∧ dn.getD i false = false := by
  unfold restIx leftP at h
  rw [List.mem_filter, List.mem_range] at h
  simpa using h
theorem getD_set (dn : List Bool) (i j : Nat) (h : i < dn.length) : (dn.set i true).getD j false = if j = i then true else dn.getD j false := by
  rw [List.getD_eq_getElem?_getD, List.getD_eq_getElem?_getD]
  by_cases hj : j = i
  · subst hj; rw [List.getElem?_set_self h, if_pos rfl]; rfl
  · rw [List.getElem?_set_ne (Ne.symm hj), if_neg hj]
theorem rest_done {js : List Duo} {dn : List Bool} {c i : Nat} {r : List Nat} (h : restIx js dn c = i :: r) (hd : dn.length = js.length) : restIx js (dn.set i true) c = r := by
  have hi := (restIx_mem (i := i) (c := c) (dn := dn) (js := js) (by rw [h]; simp)).1
  have h1 : restIx js (dn.set i true) c = (restIx js dn c).filter (fun j => decide (j ≠ i)) := by
    unfold restIx
    rw [List.filter_filter]
    apply List.filter_congr
    intro j _
    unfold leftP
    rw [getD_set dn i j (by omega)]
    by_cases hj : j = i <;> simp [hj]
  have hnd : (restIx js dn c).Nodup := List.Nodup.sublist List.filter_sublist List.nodup_range
  rw [h1, h, List.filter_cons]
  rw [h] at hnd
  have h2 := (List.nodup_cons.1 hnd).1
  simp
  intro j hj e
  exact h2 (e ▸ hj)
theorem rest_other {js : List Duo} {dn : List Bool} {c c' i : Nat} (hc : c' ≠ c) (hi : (dj js i).1 = (c : Int)) (hd : i < dn.length) : restIx js (dn.set i true) c' = restIx js dn c' := by
  unfold restIx
  apply List.filter_congr
  intro j _
  unfold leftP
  rw [getD_set dn i j hd]
  by_cases hj : j = i
  · subst hj
    have : ¬ (dj js j).1 = (c' : Int) := by omega
    simp [this]
  · simp [hj]
def crAt (cr : List Int) (c : Nat) : Int := cr.getD c 0
def cellOf (ws : List Int) (js : List Duo) (dn : List Bool) (cr : List Int) (c : Nat) : List TC := if restOf js dn c = [] then [] else [(9 * dw ws c, crAt cr c, restOf js dn c)]
def livesT (ws : List Int) (js : List Duo) (dn : List Bool) (cr : List Int) (a k : Nat) : List TC := ((List.range' a k).map (cellOf ws js dn cr)).flatten
def othL (ws : List Int) (js : List Duo) (dn : List Bool) (cr : List Int) (c : Nat) : List TC := livesT ws js dn cr (c + 1) (ws.length - (c + 1)) ++ livesT ws js dn cr 0 c
def ringAt (ws : List Int) (js : List Duo) (dn : List Bool) (cr : List Int) (c : Nat) : List TC := livesT ws js dn cr c (ws.length - c) ++ livesT ws js dn cr 0 c
theorem lives_succ (ws : List Int) (js : List Duo) (dn : List Bool) (cr : List Int) (c : Nat) : livesT ws js dn cr 0 (c + 1) = livesT ws js dn cr 0 c ++ cellOf ws js dn cr c := by
  unfold livesT
  rw [List.range'_concat]
  simp
theorem ringAt_here (ws : List Int) (js : List Duo) (dn : List Bool) (cr : List Int) {c : Nat} (h : c < ws.length) : ringAt ws js dn cr c = cellOf ws js dn cr c ++ othL ws js dn cr c := by
  unfold ringAt othL
  rw [show ws.length - c = (ws.length - (c + 1)) + 1 by omega]
  rw [show livesT ws js dn cr c (ws.length - (c + 1) + 1) = cellOf ws js dn cr c ++ livesT ws js dn cr (c + 1) (ws.length - (c + 1)) by unfold livesT; rw [List.range'_succ]; simp]
  rw [List.append_assoc]
theorem ringAt_next (ws : List Int) (js : List Duo) (dn : List Bool) (cr : List Int) (c : Nat) : ringAt ws js dn cr (c + 1) = othL ws js dn cr c ++ cellOf ws js dn cr c := by
  unfold ringAt othL
  rw [lives_succ, List.append_assoc]
theorem ringAt_end (ws : List Int) (js : List Duo) (dn : List Bool) (cr : List Int) : ringAt ws js dn cr ws.length = ringAt ws js dn cr 0 := by
  unfold ringAt
  simp [livesT]
theorem lives_congr {ws : List Int} {js : List Duo} {dn dn' : List Bool} {cr cr' : List Int} {a k : Nat} (h : ∀ c, a ≤ c → c < a + k → cellOf ws js dn cr c = cellOf ws js dn' cr' c) : livesT ws js dn cr a k = livesT ws js dn' cr' a k := by
  unfold livesT
  congr 1
  apply List.map_congr_left
  intro c hc
  rw [List.mem_range'] at hc
  obtain ⟨i, hi, rfl⟩ := hc
  exact h _ (by omega) (by omega)
theorem oth_congr {ws : List Int} {js : List Duo} {dn dn' : List Bool} {cr cr' : List Int} {c : Nat} (h : ∀ c', c' ≠ c → cellOf ws js dn cr c' = cellOf ws js dn' cr' c') : othL ws js dn cr c = othL ws js dn' cr' c := by
  unfold othL
  rw [lives_congr (fun c' h1 _ => h c' (by omega)), lives_congr (a := 0) (k := c) (fun c' _ h2 => h c' (by omega))]
theorem crAt_set (cr : List Int) (c c' : Nat) (v : Int) (h : c' ≠ c) : crAt (cr.set c v) c' = crAt cr c' := by
  unfold crAt
  rw [List.getD_eq_getElem?_getD, List.getD_eq_getElem?_getD, List.getElem?_set_ne (Ne.symm h)]
theorem crAt_same (cr : List Int) (c : Nat) (v : Int) (h : c < cr.length) : crAt (cr.set c v) c = v := by
  unfold crAt
  rw [List.getD_eq_getElem?_getD, List.getElem?_set_self h]; rfl
theorem oth_credit (ws : List Int) (js : List Duo) (dn : List Bool) (cr : List Int) (c : Nat) (v : Int) : othL ws js dn (cr.set c v) c = othL ws js dn cr c :=
  oth_congr (fun c' h => by unfold cellOf; rw [crAt_set cr c c' v h])
theorem oth_done {ws : List Int} {js : List Duo} {dn : List Bool} {cr : List Int} {c i : Nat} (hi : (dj js i).1 = (c : Int)) (hd : i < dn.length) : othL ws js (dn.set i true) cr c = othL ws js dn cr c :=
  oth_congr (fun c' h => by unfold cellOf restOf; rw [rest_other h hi hd])
theorem cell_nil {ws : List Int} {js : List Duo} {dn : List Bool} {cr : List Int} {c : Nat} (h : restIx js dn c = []) : cellOf ws js dn cr c = [] := by
  unfold cellOf restOf; rw [h]; rfl
theorem cell_some {ws : List Int} {js : List Duo} {dn : List Bool} {cr : List Int} {c i : Nat} {r : List Nat} (h : restIx js dn c = i :: r) : cellOf ws js dn cr c = [(9 * dw ws c, crAt cr c, duoOf js i :: r.map (duoOf js))] := by
  unfold cellOf restOf; rw [h]; rfl

/- At the start. -/
theorem rest_start (js : List Duo) (c : Nat) : restIx js (List.replicate js.length false) c = idxs js c js.length := by
  unfold restIx idxs
  apply List.filter_congr
  intro j hj
  rw [List.mem_range] at hj
  unfold leftP
  simp [List.getD_eq_getElem?_getD, hj]
theorem ring_start (ws : List Int) (js : List Duo) : ringAt ws js (List.replicate js.length false) (List.replicate ws.length 0) 0 = (ring0 ws js).filter (fun c => decide (c.2.2 ≠ [])) := by
  unfold ringAt ring0
  rw [show livesT ws js (List.replicate js.length false) (List.replicate ws.length 0) 0 0 = [] from rfl, List.append_nil, Nat.sub_zero]
  unfold livesT
  rw [← List.range_eq_range']
  have key : ∀ l : List Nat, (∀ c ∈ l, c < ws.length) → (l.map (cellOf ws js (List.replicate js.length false) (List.replicate ws.length 0))).flatten = (l.map (fun c => ((9 * dw ws c, 0, lineTo js c js.length) : TC))).filter (fun c => decide (c.2.2 ≠ [])) := by
    intro l
    induction l with
    | nil => intro _; rfl
    | cons c l ih =>
      intro hl
      rw [List.map_cons, List.flatten_cons, ih (fun x hx => hl x (by simp [hx])), List.map_cons, List.filter_cons]
      have hc := hl c (by simp)
      unfold cellOf restOf
      rw [rest_start]
      have e1 : crAt (List.replicate ws.length (0 : Int)) c = 0 := by unfold crAt; simp [List.getD_eq_getElem?_getD, hc]
      rw [e1]
      show _ = if decide (lineTo js c js.length ≠ []) = true then _ else _
      unfold lineTo
      by_cases h : (idxs js c js.length).map (duoOf js) = []
      · rw [if_pos h, if_neg (by simp [h])]; rfl
      · rw [if_neg h, if_pos (by simpa using h)]; rfl
  exact key _ (fun c hc => by simpa using hc)
theorem filter_ok {r : List TC} (h : ringOk r) (p : TC → Bool) : ringOk (r.filter p) := fun c hc => h c (List.mem_filter.1 hc).1
/-- The number of jobs is that of all lines. -/
theorem len_lines {js : List Duo} {nc : Nat} (h : ∀ i, i < js.length → 0 ≤ (dj js i).1 ∧ (dj js i).1 < (nc : Int)) : ∀ m, m ≤ js.length → ((List.range nc).map (fun c => (idxs js c m).length)).sum = m := by
  intro m
  induction m with
  | zero =>
    intro _
    have : ∀ l : List Nat, (l.map (fun c => (idxs js c 0).length)).sum = 0 := by
      intro l; induction l with
      | nil => rfl
      | cons c l ih => rw [List.map_cons, List.sum_cons, ih]; rfl
    exact this _
  | succ m ih =>
    intro hm
    have h1 := ih (by omega)
    obtain ⟨h2, h3⟩ := h m (by omega)
    obtain ⟨c, hc⟩ := Int.eq_ofNat_of_zero_le h2
    have key : ∀ n, ((List.range n).map (fun x => (idxs js x (m + 1)).length)).sum = ((List.range n).map (fun x => (idxs js x m).length)).sum + if c < n then 1 else 0 := by
      intro n
      induction n with
      | zero => simp
      | succ n ih2 =>
        rw [List.range_succ, List.map_append, List.sum_append, List.map_append, List.sum_append, ih2]
        simp only [List.map_cons, List.map_nil, List.sum_cons, List.sum_nil, Nat.add_zero]
        rw [idxs_succ, List.length_append, hc]
        by_cases e : c = n
        · subst e; simp; omega
        · have e2 : ¬ (c : Int) = (n : Int) := by omega
          rw [if_neg e2]
          simp only [List.length_nil, Nat.add_zero]
          split <;> split <;> omega
    rw [key nc, h1, if_pos (by omega)]
theorem len_ring0 {ws : List Int} {js : List Duo} (h : jobsOk ws js) : lenL (ring0 ws js) = js.length := by
  have h1 := len_lines (js := js) (nc := ws.length) (fun i hi => ⟨(dj_ok h hi).1, (dj_ok h hi).2.1⟩) js.length (Nat.le_refl _)
  have key : ∀ l : List Nat, lenL (l.map (fun c => ((9 * dw ws c, 0, lineTo js c js.length) : TC))) = (l.map (fun c => (idxs js c js.length).length)).sum := by
    intro l
    induction l with
    | nil => rfl
    | cons c l ih =>
      rw [List.map_cons, lenL, ih, List.map_cons, List.sum_cons]
      congr 1
      unfold lineTo; simp
  unfold ring0
  rw [key, h1]
theorem fair_len {ws : List Int} {js : List Duo} (h : jobsOk ws js) : (fairL ws js).length = js.length := by
  unfold fairL
  rw [if_pos h, ringRun_len _ _ (ring0_ok h) (Nat.le_refl _), len_ring0 h]
theorem fair_start {ws : List Int} {js : List Duo} (h : jobsOk ws js) :
    ∃ f, fairL ws js = ringRun f (ringAt ws js (List.replicate js.length false) (List.replicate ws.length 0) 0) ∧ needL (ringAt ws js (List.replicate js.length false) (List.replicate ws.length 0) 0) ≤ f ∧ ringOk (ringAt ws js (List.replicate js.length false) (List.replicate ws.length 0) 0) := by
  refine ⟨_, ?_, Nat.le_refl _, ?_⟩
  · rw [ring_start]
    unfold fairL
    rw [if_pos h]
    exact ringRun_live _ _ _ (ring0_ok h) (Nat.le_refl _) (Nat.le_refl _)
  · rw [ring_start]; exact filter_ok (ring0_ok h) _

/- The invariants of the model's three loops. T: all that is to be returned. -/
/-- Between two classes. -/
def AtC (ws : List Int) (js : List Duo) (T : List Int) (dn : List Bool) (cr : List Int) (out : List Int) (c : Nat) : Prop :=
  dn.length = js.length ∧ cr.length = ws.length ∧ ringOk (ringAt ws js dn cr c) ∧ ∃ f, needL (ringAt ws js dn cr c) ≤ f ∧ out ++ ringRun f (ringAt ws js dn cr c) = T
/-- In a turn of class c: l1 jobs were left when it began, and q1 done. -/
def InC (ws : List Int) (js : List Duo) (T : List Int) (dn : List Bool) (cr : List Int) (out : List Int) (c q1 l1 : Nat) : Prop :=
  dn.length = js.length ∧ cr.length = ws.length ∧ ringOk (othL ws js dn cr c) ∧ (0 ≤ crAt cr c ∧ crAt cr c ≤ 89) ∧ out.length + (restIx js dn c).length = q1 + l1 ∧ q1 ≤ out.length ∧ (out.length = q1 → 9 ≤ crAt cr c) ∧ 0 < l1 ∧
  ∃ f, needL (othL ws js dn cr c) + l1 ≤ f ∧ out ++ contRun f (9 * dw ws c) (othL ws js dn cr c) (crAt cr c) (restOf js dn c) = T
section
variable {ws : List Int} {js : List Duo} {T : List Int} {dn : List Bool} {cr : List Int} {out : List Int} {c q1 l1 : Nat}
theorem atC_start (h : jobsOk ws js) : AtC ws js (fairL ws js) (List.replicate js.length false) (List.replicate ws.length 0) [] 0 := by
  obtain ⟨f, h1, h2, h3⟩ := fair_start h
  exact ⟨by simp, by simp, h3, f, h2, by rw [h1]; rfl⟩
theorem atC_len (h : AtC ws js T dn cr out c) : out.length + lenL (ringAt ws js dn cr c) = T.length := by
  obtain ⟨_, _, h3, f, h4, h5⟩ := h
  rw [← h5, List.length_append, ringRun_len f _ h3 h4]
theorem atC_full (h : AtC ws js T dn cr out c) (hl : T.length ≤ out.length) : out = T := by
  have h1 := atC_len h
  obtain ⟨_, _, h3, f, h4, h5⟩ := h
  have h6 := ringRun_len f _ h3 h4
  have h7 : ringRun f (ringAt ws js dn cr c) = [] := List.length_eq_zero_iff.1 (by omega)
  rw [h7, List.append_nil] at h5
  exact h5
theorem atC_pass (h : AtC ws js T dn cr out c) (hc : c < ws.length) (hr : restIx js dn c = []) : AtC ws js T dn cr out (c + 1) := by
  obtain ⟨h1, h2, h3, f, h4, h5⟩ := h
  have e : ringAt ws js dn cr (c + 1) = ringAt ws js dn cr c := by rw [ringAt_next, ringAt_here ws js dn cr hc, cell_nil hr, List.append_nil, List.nil_append]
  unfold AtC
  rw [e]
  exact ⟨h1, h2, h3, f, h4, h5⟩
theorem atC_round (h : AtC ws js T dn cr out ws.length) : AtC ws js T dn cr out 0 := by
  unfold AtC at *
  rw [ringAt_end] at h
  exact h
/-- Nothing was left of the first c classes. -/
def noneTo (js : List Duo) (dn : List Bool) (c : Nat) : Prop := ∀ c', c' < c → restIx js dn c' = []
theorem none_all (h : AtC ws js T dn cr out ws.length) (hn : noneTo js dn ws.length) : out.length = T.length := by
  have h1 := atC_len h
  have e : ringAt ws js dn cr ws.length = [] := by
    unfold ringAt livesT
    rw [Nat.sub_self]
    have : ∀ k, k ≤ ws.length → ((List.range' 0 k).map (cellOf ws js dn cr)).flatten = [] := by
      intro k
      induction k with
      | zero => intro _; rfl
      | succ k ih => intro hk; rw [List.range'_concat, List.map_append, List.flatten_append, ih (by omega)]; simp [cell_nil (hn k (by omega))]
    rw [this _ (Nat.le_refl _)]; rfl
  rw [e] at h1
  simpa [lenL] using h1
theorem inC_start (h : AtC ws js T dn cr out c) (hw : wtOk ws) (hc : c < ws.length) (hr : restIx js dn c ≠ []) : InC ws js T dn (cr.set c (crAt cr c + 9 * dw ws c)) out c out.length (restIx js dn c).length ∧ (0 ≤ crAt cr c ∧ crAt cr c ≤ 8) := by
  obtain ⟨h1, h2, h3, f, h4, h5⟩ := h
  obtain ⟨i, r, hir⟩ : ∃ i r, restIx js dn c = i :: r := by
    cases hx : restIx js dn c with
    | nil => exact absurd hx hr
    | cons i r => exact ⟨i, r, rfl⟩
  have hcell := cell_some (ws := ws) (cr := cr) hir
  rw [ringAt_here ws js dn cr hc, hcell, List.singleton_append] at h3 h4 h5
  have hok := h3 _ (List.mem_cons_self ..)
  obtain ⟨q1, q2, q3, q4, q5⟩ := hok
  have hd := dw_ok hw hc
  have hs : crAt (cr.set c (crAt cr c + 9 * dw ws c)) c = crAt cr c + 9 * dw ws c := crAt_same _ _ _ (by omega)
  refine ⟨⟨h1, by simpa using h2, ?_, ?_, rfl, Nat.le_refl _, ?_, by rw [hir]; simp, ?_⟩, q3, q4⟩
  · rw [oth_credit]; exact fun x hx => h3 x (by simp [hx])
  · rw [hs]; simp only at q3 q4; omega
  · rw [hs]; simp only at q3; omega
  · cases f with
    | zero => have := need_pos (9 * dw ws c, crAt cr c, duoOf js i :: r.map (duoOf js)) (othL ws js dn cr c); omega
    | succ f =>
      refine ⟨f, ?_, ?_⟩
      · rw [oth_credit, hir]
        rw [needL] at h4
        simp at h4 ⊢
        omega
      · rw [oth_credit, hs]
        unfold restOf
        rw [hir, List.map_cons, ← h5]
        rfl
theorem inC_do {i : Nat} {r : List Nat} (h : InC ws js T dn cr out c q1 l1) (hc : c < ws.length) (hir : restIx js dn c = i :: r) (hs : (dj js i).2 ≤ crAt cr c) (hj : 1 ≤ (dj js i).2 ∧ (dj js i).2 ≤ 9) :
    InC ws js T (dn.set i true) (cr.set c (crAt cr c - (dj js i).2)) (out ++ [(i : Int)]) c q1 l1 := by
  obtain ⟨h1, h2, h3, h4, h5, h6, h7, h8, f, h9, h10⟩ := h
  obtain ⟨m1, m2, m3⟩ := restIx_mem (i := i) (c := c) (dn := dn) (js := js) (by rw [hir]; simp)
  have hs2 : crAt (cr.set c (crAt cr c - (dj js i).2)) c = crAt cr c - (dj js i).2 := crAt_same _ _ _ (by omega)
  have hr2 := rest_done hir h1
  rw [hir] at h5
  simp only [List.length_cons] at h5
  refine ⟨by simpa using h1, by simpa using h2, ?_, ?_, ?_, ?_, ?_, h8, f, ?_, ?_⟩
  · rw [oth_credit, oth_done m2 (by omega)]; exact h3
  · rw [hs2]; omega
  · rw [hr2, List.length_append]; simp; omega
  · rw [List.length_append]; omega
  · rw [List.length_append]; simp; omega
  · rw [oth_credit, oth_done m2 (by omega)]; exact h9
  · rw [oth_credit, oth_done m2 (by omega), hs2, ← h10]
    unfold restOf
    rw [hr2, hir, List.map_cons, contRun_do _ _ _ _ _ _ (show (duoOf js i).2 ≤ crAt cr c from hs), List.append_assoc]
    rfl
theorem inC_empty (h : InC ws js T dn cr out c q1 l1) (hr : restIx js dn c = []) : AtC ws js T dn (cr.set c 0) out (c + 1) ∧ q1 < out.length := by
  obtain ⟨h1, h2, h3, h4, h5, h6, h7, h8, f, h9, h10⟩ := h
  have e : ringAt ws js dn (cr.set c 0) (c + 1) = othL ws js dn cr c := by rw [ringAt_next, oth_credit, cell_nil hr, List.append_nil]
  rw [hr] at h5
  refine ⟨⟨h1, by simpa using h2, by rw [e]; exact h3, f, by rw [e]; omega, ?_⟩, by simp at h5; omega⟩
  rw [e, ← h10]
  unfold restOf
  rw [hr, List.map_nil, contRun_nil]
theorem inC_stop {i : Nat} {r : List Nat} (h : InC ws js T dn cr out c q1 l1) (hw : wtOk ws) (hc : c < ws.length) (hir : restIx js dn c = i :: r) (hs : ¬ (dj js i).2 ≤ crAt cr c) (hj : ∀ i, i < js.length → 1 ≤ (dj js i).2 ∧ (dj js i).2 ≤ 9) :
    AtC ws js T dn cr out (c + 1) ∧ q1 < out.length := by
  obtain ⟨h1, h2, h3, h4, h5, h6, h7, h8, f, h9, h10⟩ := h
  obtain ⟨m1, m2, m3⟩ := restIx_mem (i := i) (c := c) (dn := dn) (js := js) (by rw [hir]; simp)
  have hji := hj i m1
  have hd := dw_ok hw hc
  have hlt : q1 < out.length := by
    rcases Nat.lt_or_ge q1 out.length with hh | hh
    · exact hh
    · have := h7 (by omega); omega
  have e : ringAt ws js dn cr (c + 1) = othL ws js dn cr c ++ [(9 * dw ws c, crAt cr c, duoOf js i :: r.map (duoOf js))] := by rw [ringAt_next, cell_some hir]
  rw [hir] at h5
  simp only [List.length_cons] at h5
  refine ⟨⟨h1, h2, ?_, f, ?_, ?_⟩, hlt⟩
  · rw [e]
    intro x hx
    rcases List.mem_append.1 hx with hx | hx
    · exact h3 x hx
    · rw [List.mem_singleton.1 hx]
      refine ⟨by show 9 ≤ 9 * dw ws c; omega, by show 9 * dw ws c ≤ 81; omega, h4.1, by show crAt cr c ≤ 8; omega, ?_⟩
      intro y hy
      have : y ∈ (restIx js dn c).map (duoOf js) := by rw [hir]; exact hy
      rw [List.mem_map] at this
      obtain ⟨k, hk, rfl⟩ := this
      exact hj k (restIx_mem hk).1
  · rw [e, needL_app]
    simp only [needL, List.length_cons, List.length_map]
    omega
  · rw [e, ← h10]
    unfold restOf
    rw [hir, List.map_cons, contRun_stop _ _ _ _ _ _ (show ¬ (duoOf js i).2 ≤ crAt cr c from hs)]
end
end Go.Proofs.Ytpofkkenbepjpaa
