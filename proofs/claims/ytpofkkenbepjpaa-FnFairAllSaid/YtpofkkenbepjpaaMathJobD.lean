/-
  Chapter 12's mathematics: each class in its order, one class alone, how far apart two classes are. Plain mathematics about lists, no condition.
-/
import Derived.Test.YtpofkkenbepjpaaMathJobC
namespace Go.Proofs.Ytpofkkenbepjpaa

def clI (js : List Duo) (x : Int) : Int := (dj js x.toNat).1
def szI (js : List Duo) (x : Int) : Int := (dj js x.toNat).2
/-- By its class, and in its class by its place. -/
def lexI (js : List Duo) (x y : Int) : Prop := clI js x < clI js y ∨ (clI js x = clI js y ∧ x < y)
theorem idxs_mem {js : List Duo} {c m i : Nat} (h : i ∈ idxs js c m) : i < m ∧ (dj js i).1 = (c : Int) := by
  unfold idxs at h
  rw [List.mem_filter, List.mem_range] at h
  simpa using h
theorem strictTo_mem {js : List Duo} : ∀ {nc : Nat} {x : Int}, x ∈ strictTo js nc → ∃ i : Nat, x = (i : Int) ∧ i < js.length ∧ clI js x < (nc : Int) ∧ 0 ≤ clI js x := by
  intro nc
  induction nc with
  | zero => intro x hx; simp [strictTo] at hx
  | succ nc ih =>
    intro x hx
    rw [strictTo_succ, List.mem_append] at hx
    rcases hx with hx | hx
    · obtain ⟨i, h1, h2, h3, h4⟩ := ih hx
      exact ⟨i, h1, h2, by omega, h4⟩
    · rw [List.mem_map] at hx
      obtain ⟨i, hi, rfl⟩ := hx
      obtain ⟨h1, h2⟩ := idxs_mem hi
      have : clI js (Int.ofNat i) = (nc : Int) := by unfold clI; simpa using h2
      exact ⟨i, rfl, h1, by omega, by omega⟩
theorem idxs_asc (js : List Duo) (c m : Nat) : (idxs js c m).Pairwise (· < ·) := List.Pairwise.sublist List.filter_sublist List.pairwise_lt_range
theorem strictTo_lex (js : List Duo) : ∀ nc, (strictTo js nc).Pairwise (lexI js)
  | 0 => by simp [strictTo]
  | nc + 1 => by
    rw [strictTo_succ, List.pairwise_append]
    refine ⟨strictTo_lex js nc, ?_, ?_⟩
    · rw [List.pairwise_map]
      refine List.Pairwise.imp_of_mem (fun ha hb hab => ?_) (idxs_asc js nc js.length)
      refine .inr ⟨?_, by simpa using hab⟩
      unfold clI
      simpa using (idxs_mem ha).2.trans (idxs_mem hb).2.symm
    · intro x hx y hy
      obtain ⟨_, _, _, h3, _⟩ := strictTo_mem hx
      rw [List.mem_map] at hy
      obtain ⟨i, hi, rfl⟩ := hy
      have : clI js (Int.ofNat i) = (nc : Int) := by unfold clI; simpa using (idxs_mem hi).2
      exact .inl (by omega)
theorem strict_len {ws : List Int} {js : List Duo} (h : jobsOk ws js) : (strictTo js ws.length).length = js.length := by
  have h1 := len_lines (js := js) (nc := ws.length) (fun i hi => ⟨(dj_ok h hi).1, (dj_ok h hi).2.1⟩) js.length (Nat.le_refl _)
  have key : ∀ nc, (strictTo js nc).length = ((List.range nc).map (fun c => (idxs js c js.length).length)).sum := by
    intro nc
    induction nc with
    | zero => rfl
    | succ nc ih => rw [strictTo_succ, List.length_append, ih, List.range_succ, List.map_append, List.sum_append]; simp
  rw [key, h1]
theorem strictL_eq {ws : List Int} {js : List Duo} (h : jobsOk ws js) : strictL ws js = strictTo js ws.length := by unfold strictL strictTo; rw [if_pos h]

/- Filtered by a class. -/
def lfst (r : List TC) : List Int := (r.map (fun a => a.2.2.map (·.1))).flatten
def Homog (js : List Duo) (r : List TC) : Prop := (∀ a ∈ r, ∀ x ∈ a.2.2, ∀ y ∈ a.2.2, clI js x.1 = clI js y.1) ∧ r.Pairwise (fun a b => ∀ x ∈ a.2.2, ∀ y ∈ b.2.2, clI js x.1 ≠ clI js y.1)
theorem turn_sub (l : List Duo) (k : Int) : ∀ x ∈ (turnDo k l).2.2, x ∈ l := by
  induction l generalizing k with
  | nil => intro x hx; simp [turnDo] at hx
  | cons j l ih =>
    intro x hx
    by_cases h : j.2 ≤ k
    · rw [turnDo_do k j l h] at hx
      exact List.mem_cons_of_mem _ (ih _ x hx)
    · unfold turnDo at hx; rw [if_neg h] at hx; exact hx
theorem homog_turn {js : List Duo} {c : TC} {left : List TC} (h : Homog js (c :: left)) : Homog js (left ++ tailOf c.1 (turnDo (c.2.1 + c.1) c.2.2).2) := by
  obtain ⟨h1, h2⟩ := h
  rw [List.pairwise_cons] at h2
  have hs := turn_sub c.2.2 (c.2.1 + c.1)
  have ht : ∀ a ∈ tailOf c.1 (turnDo (c.2.1 + c.1) c.2.2).2, ∀ x ∈ a.2.2, x ∈ c.2.2 := by
    intro a ha
    unfold tailOf at ha
    split at ha
    · cases ha
    · rw [List.mem_singleton.1 ha]; exact hs
  refine ⟨fun a ha x hx y hy => ?_, ?_⟩
  · rcases List.mem_append.1 ha with ha | ha
    · exact h1 a (by simp [ha]) x hx y hy
    · exact h1 c (by simp) x (ht a ha x hx) y (ht a ha y hy)
  · rw [List.pairwise_append]
    refine ⟨h2.2, ?_, fun a ha b hb x hx y hy => Ne.symm (h2.1 a ha y (ht b hb y hy) x hx)⟩
    unfold tailOf
    split
    · exact .nil
    · exact List.pairwise_singleton ..
theorem lfst_app (a b : List TC) : lfst (a ++ b) = lfst a ++ lfst b := by unfold lfst; simp
theorem lfst_tail (g : Int) (r : Int × List Duo) : lfst (tailOf g r) = r.2.map (·.1) := by
  unfold tailOf lfst
  split
  · rename_i h; rw [h]; rfl
  · simp
theorem ring_filter {js : List Duo} (f : Nat) : ∀ r : List TC, ringOk r → needL r ≤ f → Homog js r → ∀ c : Int, (ringRun f r).filter (fun x => decide (clI js x = c)) = (lfst r).filter (fun x => decide (clI js x = c)) := by
  induction f with
  | zero =>
    intro r _ h _ c
    cases r with
    | nil => rfl
    | cons a r => have := need_pos a r; omega
  | succ f ih =>
    intro r hok h hh c
    cases r with
    | nil => rfl
    | cons a left =>
      have h1 := need_less (left := left) (hok a (by simp))
      have h2 := ih _ (ringOk_turn hok) (by omega) (homog_turn hh) c
      unfold ringRun
      rw [List.filter_append, h2, lfst_app, lfst_tail, List.filter_append]
      show _ = ((a.2.2.map (·.1)) ++ lfst left).filter _
      rw [List.filter_append, ← turn_all a.2.2 (a.2.1 + a.1), List.filter_append, List.append_assoc]
      congr 1
      by_cases hx : ∃ x ∈ a.2.2, clI js x.1 = c
      · obtain ⟨x, hxm, hxc⟩ := hx
        have : (lfst left).filter (fun x => decide (clI js x = c)) = [] := by
          rw [List.filter_eq_nil_iff]
          intro y hy
          unfold lfst at hy
          rw [List.mem_flatten] at hy
          obtain ⟨l, hl, hyl⟩ := hy
          rw [List.mem_map] at hl
          obtain ⟨b, hb, rfl⟩ := hl
          rw [List.mem_map] at hyl
          obtain ⟨z, hz, rfl⟩ := hyl
          have := (List.pairwise_cons.1 hh.2).1 b hb x hxm z hz
          simp; omega
        rw [this]; simp
      · have : ((turnDo (a.2.1 + a.1) a.2.2).2.2.map (·.1)).filter (fun x => decide (clI js x = c)) = [] := by
          rw [List.filter_eq_nil_iff]
          intro y hy
          rw [List.mem_map] at hy
          obtain ⟨z, hz, rfl⟩ := hy
          have hz2 := turn_sub _ _ z hz
          simp
          exact fun e => hx ⟨z, hz2, e⟩
        rw [this]; simp
theorem lineTo_cl {js : List Duo} {c m : Nat} {x : Duo} (h : x ∈ lineTo js c m) : clI js x.1 = (c : Int) ∧ x.2 = szI js x.1 ∧ ∃ i : Nat, x.1 = (i : Int) ∧ i < m := by
  unfold lineTo at h
  rw [List.mem_map] at h
  obtain ⟨i, hi, rfl⟩ := h
  obtain ⟨h1, h2⟩ := idxs_mem hi
  exact ⟨by unfold clI duoOf; simpa using h2, by unfold szI duoOf; simp, i, rfl, h1⟩
theorem ring0_homog (ws : List Int) (js : List Duo) : Homog js (ring0 ws js) := by
  unfold ring0
  refine ⟨fun a ha x hx y hy => ?_, ?_⟩
  · rw [List.mem_map] at ha
    obtain ⟨c, _, rfl⟩ := ha
    rw [(lineTo_cl hx).1, (lineTo_cl hy).1]
  · rw [List.pairwise_map]
    refine List.Pairwise.imp (fun hab x hx y hy => ?_) (List.nodup_range (n := ws.length))
    rw [(lineTo_cl hx).1, (lineTo_cl hy).1]
    omega
theorem lfst_ring0 (ws : List Int) (js : List Duo) : lfst (ring0 ws js) = strictTo js ws.length := by
  unfold lfst ring0 strictTo
  rw [List.map_map]
  congr 1
  apply List.map_congr_left
  intro c _
  exact lineTo_fst js c js.length
theorem fair_filter {ws : List Int} {js : List Duo} (h : jobsOk ws js) (c : Int) : (fairL ws js).filter (fun x => decide (clI js x = c)) = (strictTo js ws.length).filter (fun x => decide (clI js x = c)) := by
  unfold fairL
  rw [if_pos h, ring_filter _ _ (ring0_ok h) (Nat.le_refl _) (ring0_homog ws js) c, lfst_ring0]
theorem fair_mem {ws : List Int} {js : List Duo} (h : jobsOk ws js) {x : Int} (hx : x ∈ fairL ws js) : x ∈ strictTo js ws.length := by
  have h1 : x ∈ (fairL ws js).filter (fun y => decide (clI js y = clI js x)) := List.mem_filter.2 ⟨hx, by simp⟩
  rw [fair_filter h] at h1
  exact (List.mem_filter.1 h1).1
/-- In its class by its place. -/
def inI (js : List Duo) (x y : Int) : Prop := clI js x = clI js y → x < y
theorem pair_of_filter {js : List Duo} (l : List Int) (h : ∀ c, (l.filter (fun x => decide (clI js x = c))).Pairwise (· < ·)) : l.Pairwise (inI js) := by
  induction l with
  | nil => exact .nil
  | cons x l ih =>
    rw [List.pairwise_cons]
    refine ⟨fun y hy e => ?_, ih (fun c => ?_)⟩
    · have h1 := h (clI js x)
      rw [List.filter_cons, if_pos (by simp), List.pairwise_cons] at h1
      exact h1.1 y (List.mem_filter.2 ⟨hy, by simp [e]⟩)
    · have h1 := h c
      rw [List.filter_cons] at h1
      split at h1
      · exact (List.pairwise_cons.1 h1).2
      · exact h1
theorem fair_in {ws : List Int} {js : List Duo} (h : jobsOk ws js) : (fairL ws js).Pairwise (inI js) := by
  apply pair_of_filter
  intro c
  rw [fair_filter h]
  have h1 := List.Pairwise.sublist (List.filter_sublist (p := fun x => decide (clI js x = c))) (strictTo_lex js ws.length)
  refine List.Pairwise.imp_of_mem (fun ha hb hab => ?_) h1
  have e1 := (List.mem_filter.1 ha).2
  have e2 := (List.mem_filter.1 hb).2
  simp at e1 e2
  rcases hab with hab | hab
  · omega
  · exact hab.2
/-- One class alone. -/
theorem fair_alone {ws : List Int} {js : List Duo} (c : Int) (hc : ∀ j ∈ js, j.1 = c) : fairL ws js = strictL ws js := by
  by_cases h : jobsOk ws js
  · rw [strictL_eq h]
    have hcl : ∀ x ∈ strictTo js ws.length, clI js x = c := by
      intro x hx
      obtain ⟨i, rfl, hi, _⟩ := strictTo_mem hx
      unfold clI
      have : dj js i = js[i] := by unfold dj; rw [List.getD_eq_getElem?_getD, List.getElem?_eq_getElem hi]; rfl
      simp only [Int.toNat_natCast, this]
      exact hc _ (List.getElem_mem hi)
    have h1 := fair_filter h c
    rw [List.filter_eq_self.2 (fun x hx => by simp [hcl x (fair_mem h hx)]), List.filter_eq_self.2 (fun x hx => by simp [hcl x hx])] at h1
    exact h1
  · unfold fairL strictL; rw [if_neg h, if_neg h]

/- How far apart. -/
def sumS (js : List Duo) (c : Int) : List Int → Int
  | [] => 0
  | x :: l => (if clI js x = c then szI js x else 0) + sumS js c l
theorem sumS_app (js : List Duo) (c : Int) (a b : List Int) : sumS js c (a ++ b) = sumS js c a + sumS js c b := by
  induction a with
  | nil => simp [sumS]
  | cons x a ih => simp only [List.cons_append, sumS, ih]; omega
def sumD : List Duo → Int
  | [] => 0
  | x :: l => x.2 + sumD l
theorem sumD_app (a b : List Duo) : sumD (a ++ b) = sumD a + sumD b := by
  induction a with
  | nil => simp [sumD]
  | cons x a ih => simp only [List.cons_append, sumD, ih]; omega
theorem sumD_nonneg {l : List Duo} (h : lineOk l) : 0 ≤ sumD l := by
  induction l with
  | nil => simp [sumD]
  | cons x l ih =>
    have := h x (by simp)
    have := ih (fun y hy => h y (by simp [hy]))
    simp only [sumD]; omega
/-- A line of class c. -/
def ofCl (js : List Duo) (c : Int) (l : List Duo) : Prop := ∀ x ∈ l, clI js x.1 = c ∧ x.2 = szI js x.1
theorem sumS_line {js : List Duo} {c : Int} {l : List Duo} (h : ofCl js c l) : sumS js c (l.map (·.1)) = sumD l := by
  induction l with
  | nil => rfl
  | cons x l ih =>
    have h1 := h x (by simp)
    simp only [List.map_cons, sumS, sumD]
    rw [if_pos h1.1, ih (fun y hy => h y (by simp [hy])), h1.2]
theorem sumS_other {js : List Duo} {c d : Int} {l : List Duo} (h : ofCl js c l) (hd : d ≠ c) : sumS js d (l.map (·.1)) = 0 := by
  induction l with
  | nil => rfl
  | cons x l ih =>
    have h1 := h x (by simp)
    simp only [List.map_cons, sumS]
    rw [if_neg (by omega), ih (fun y hy => h y (by simp [hy]))]; rfl
theorem turn_split (l : List Duo) : ∀ k, 0 ≤ k → ∃ pr, l = pr ++ (turnDo k l).2.2 ∧ (turnDo k l).1 = pr.map (·.1) ∧ sumD pr + (turnDo k l).2.1 = k := by
  induction l with
  | nil => intro k _; exact ⟨[], rfl, rfl, by simp [turnDo, sumD]⟩
  | cons j l ih =>
    intro k hk
    by_cases h : j.2 ≤ k
    · rw [turnDo_do k j l h]
      obtain ⟨pr, h1, h2, h3⟩ := ih (k - j.2) (by omega)
      refine ⟨j :: pr, by rw [List.cons_append, ← h1], by rw [List.map_cons, ← h2], ?_⟩
      simp only [sumD]; omega
    · unfold turnDo; rw [if_neg h]; exact ⟨[], rfl, rfl, by simp [sumD]⟩

/-- A class in turn with its number: its credit, its line. -/
abbrev AC := Nat × Int × List Duo
def tcOf (ws : List Int) (e : AC) : TC := (9 * dw ws e.1, e.2.1, e.2.2)
structure Inv (ws : List Int) (js : List Duo) (al : Nat → Int) (acc : List Int) (r : List AC) (t : Nat → Int) : Prop where
  nd : (r.map (·.1)).Nodup
  lt : ∀ e ∈ r, e.1 < ws.length
  cl : ∀ e ∈ r, ofCl js (e.1 : Int) e.2.2 ∧ lineOk e.2.2
  cr : ∀ e ∈ r, sumS js (e.1 : Int) acc + e.2.1 = 9 * dw ws e.1 * t e.1 ∧ 0 ≤ e.2.1 ∧ e.2.1 ≤ 8
  up : ∀ c, c < ws.length → sumS js (c : Int) acc ≤ 9 * dw ws c * t c
  tot : ∀ e ∈ r, sumS js (e.1 : Int) acc + sumD e.2.2 = al e.1
  out : ∀ c, c < ws.length → c ∉ r.map (·.1) → sumS js (c : Int) acc = al c
  so : r.Pairwise (fun a b => t a.1 ≤ t b.1)
  nr : ∀ c, c < ws.length → ∀ e ∈ r, t c ≤ t e.1 + 1
def GoodS (ws : List Int) (js : List Duo) (al : Nat → Int) (acc : List Int) : Prop :=
  ∀ a b, a < ws.length → b < ws.length → sumS js (b : Int) acc < al b → sumS js (a : Int) acc * dw ws b - sumS js (b : Int) acc * dw ws a ≤ 9 * dw ws a * dw ws b + 8 * dw ws a
theorem apart_core {sa sb wa wb tb : Int} (h1 : sa ≤ 9 * wa * (tb + 1)) (h2 : 9 * wb * tb - 8 ≤ sb) (ha : 1 ≤ wa) (hb : 1 ≤ wb) : sa * wb - sb * wa ≤ 9 * wa * wb + 8 * wa := by
  have e1 : sa * wb ≤ 9 * wa * (tb + 1) * wb := Int.mul_le_mul_of_nonneg_right h1 (by omega)
  have e2 : (9 * wb * tb - 8) * wa ≤ sb * wa := Int.mul_le_mul_of_nonneg_right h2 (by omega)
  have e3 : 9 * wa * (tb + 1) * wb = 9 * (wa * tb * wb) + 9 * (wa * wb) := by rw [Int.mul_add, Int.add_mul, Int.mul_one]; simp only [Int.mul_assoc]
  have e4 : (9 * wb * tb - 8) * wa = 9 * (wa * tb * wb) - 8 * wa := by
    rw [Int.sub_mul]
    congr 1
    rw [Int.mul_assoc, Int.mul_assoc, Int.mul_comm wa tb, Int.mul_assoc, Int.mul_left_comm wb tb wa, Int.mul_comm wb wa]
  have e5 : 9 * wa * wb = 9 * (wa * wb) := Int.mul_assoc 9 wa wb
  omega
section
variable {ws : List Int} {js : List Duo} {al : Nat → Int} {acc : List Int} {r : List AC} {t : Nat → Int}
theorem inv_good (hw : wtOk ws) (h : Inv ws js al acc r t) : GoodS ws js al acc := by
  intro a b ha hb hlt
  have hm : b ∈ r.map (·.1) := by
    rcases Classical.em (b ∈ r.map (·.1)) with hm | hm
    · exact hm
    · have := h.out b hb hm; omega
  rw [List.mem_map] at hm
  obtain ⟨e, he, rfl⟩ := hm
  obtain ⟨c1, c2, c3⟩ := h.cr e he
  have wa := dw_ok hw ha
  have wb := dw_ok hw hb
  have h1 := h.nr a ha e he
  have h2 := h.up a ha
  have h3 : 9 * dw ws a * t a ≤ 9 * dw ws a * (t e.1 + 1) := Int.mul_le_mul_of_nonneg_left h1 (by omega)
  exact apart_core (Int.le_trans h2 h3) (by omega) wa.1 wb.1
variable {e0 : AC} {left : List AC}
theorem inv_ne (h : Inv ws js al acc (e0 :: left) t) {e : AC} (he : e ∈ left) : e.1 ≠ e0.1 := by
  have h1 := h.nd
  rw [List.map_cons, List.nodup_cons] at h1
  exact fun e2 => h1.1 (by rw [← e2]; exact List.mem_map_of_mem he)
theorem inv_mid (hw : wtOk ws) (h : Inv ws js al acc (e0 :: left) t) {pr1 pr2 l' : List Duo} (hl : e0.2.2 = (pr1 ++ pr2) ++ l') (hk : sumD (pr1 ++ pr2) ≤ e0.2.1 + 9 * dw ws e0.1) : GoodS ws js al (acc ++ pr1.map (·.1)) := by
  obtain ⟨hcl, hlo⟩ := h.cl e0 (by simp)
  have hc1 : ofCl js (e0.1 : Int) pr1 := fun x hx => hcl x (by rw [hl]; simp [hx])
  have ho1 : lineOk pr1 := fun x hx => hlo x (by rw [hl]; simp [hx])
  have ho2 : lineOk pr2 := fun x hx => hlo x (by rw [hl]; simp [hx])
  have p1 := sumD_nonneg ho1
  have p2 := sumD_nonneg ho2
  rw [sumD_app] at hk
  have sh : sumS js (e0.1 : Int) (acc ++ pr1.map (·.1)) = sumS js (e0.1 : Int) acc + sumD pr1 := by rw [sumS_app, sumS_line hc1]
  have so : ∀ d : Nat, d ≠ e0.1 → sumS js (d : Int) (acc ++ pr1.map (·.1)) = sumS js (d : Int) acc := fun d hd => by rw [sumS_app, sumS_other hc1 (by omega), Int.add_zero]
  obtain ⟨k1, k2, k3⟩ := h.cr e0 (by simp)
  intro a b ha hb hlt
  have wa := dw_ok hw ha
  have wb := dw_ok hw hb
  by_cases hab : a = b
  · subst hab
    have := Int.mul_nonneg (show 0 ≤ dw ws a by omega) (show 0 ≤ dw ws a by omega)
    have e5 : 9 * dw ws a * dw ws a = 9 * (dw ws a * dw ws a) := Int.mul_assoc ..
    omega
  by_cases hbh : b = e0.1
  · subst hbh
    rw [sh, so a hab]
    have h1 := h.nr a ha e0 (by simp)
    have h2 := h.up a ha
    have h3 : 9 * dw ws a * t a ≤ 9 * dw ws a * (t e0.1 + 1) := Int.mul_le_mul_of_nonneg_left h1 (by omega)
    exact apart_core (Int.le_trans h2 h3) (by omega) wa.1 wb.1
  · rw [so b hbh] at hlt ⊢
    have hm : b ∈ (e0 :: left).map (·.1) := by
      rcases Classical.em (b ∈ (e0 :: left).map (·.1)) with hm | hm
      · exact hm
      · have := h.out b hb hm; omega
    rw [List.map_cons, List.mem_cons] at hm
    have hm := hm.resolve_left hbh
    rw [List.mem_map] at hm
    obtain ⟨e, he, rfl⟩ := hm
    obtain ⟨c1, c2, c3⟩ := h.cr e (by simp [he])
    by_cases hah : a = e0.1
    · subst hah
      rw [sh]
      have h4 := (List.pairwise_cons.1 h.so).1 e he
      have h3 : 9 * dw ws e0.1 * (t e0.1 + 1) ≤ 9 * dw ws e0.1 * (t e.1 + 1) := Int.mul_le_mul_of_nonneg_left (by omega) (by omega)
      have h5 : 9 * dw ws e0.1 * (t e0.1 + 1) = 9 * dw ws e0.1 * t e0.1 + 9 * dw ws e0.1 := by rw [Int.mul_add, Int.mul_one]
      exact apart_core (tb := t e.1) (by omega) (by omega) wa.1 wb.1
    · rw [so a hah]
      have h1 := h.nr a ha e (by simp [he])
      have h2 := h.up a ha
      have h3 : 9 * dw ws a * t a ≤ 9 * dw ws a * (t e.1 + 1) := Int.mul_le_mul_of_nonneg_left h1 (by omega)
      exact apart_core (Int.le_trans h2 h3) (by omega) wa.1 wb.1
def tailA (c : Nat) (k : Int) (l : List Duo) : List AC := if l = [] then [] else [(c, k, l)]
theorem inv_next (h : Inv ws js al acc (e0 :: left) t) {pr l' : List Duo} {k' : Int} (hl : e0.2.2 = pr ++ l') (hk : sumD pr + k' = e0.2.1 + 9 * dw ws e0.1) (hk0 : 0 ≤ k') (hk8 : l' ≠ [] → k' ≤ 8) :
    Inv ws js al (acc ++ pr.map (·.1)) (left ++ tailA e0.1 k' l') (fun c => if c = e0.1 then t c + 1 else t c) := by
  obtain ⟨hcl, hlo⟩ := h.cl e0 (by simp)
  have hc1 : ofCl js (e0.1 : Int) pr := fun x hx => hcl x (by rw [hl]; simp [hx])
  have sh : sumS js (e0.1 : Int) (acc ++ pr.map (·.1)) = sumS js (e0.1 : Int) acc + sumD pr := by rw [sumS_app, sumS_line hc1]
  have so : ∀ d : Nat, d ≠ e0.1 → sumS js (d : Int) (acc ++ pr.map (·.1)) = sumS js (d : Int) acc := fun d hd => by rw [sumS_app, sumS_other hc1 (by omega), Int.add_zero]
  obtain ⟨k1, k2, k3⟩ := h.cr e0 (by simp)
  have hne := fun (e : AC) (he : e ∈ left) => inv_ne h he
  have htl : ∀ e ∈ tailA e0.1 k' l', e = (e0.1, k', l') ∧ l' ≠ [] := by
    intro e he
    unfold tailA at he
    split at he
    · cases he
    · rename_i hh; exact ⟨List.mem_singleton.1 he, hh⟩
  have hcr : 9 * dw ws e0.1 * (t e0.1 + 1) = 9 * dw ws e0.1 * t e0.1 + 9 * dw ws e0.1 := by rw [Int.mul_add, Int.mul_one]
  have hnd := h.nd
  rw [List.map_cons, List.nodup_cons] at hnd
  refine ⟨?_, ?_, ?_, ?_, ?_, ?_, ?_, ?_, ?_⟩
  · rw [List.map_append, List.nodup_append]
    refine ⟨hnd.2, ?_, ?_⟩
    · unfold tailA; split <;> simp
    · intro x hx y hy e
      rw [List.mem_map] at hx hy
      obtain ⟨a, ha, rfl⟩ := hx
      obtain ⟨b, hb, rfl⟩ := hy
      rw [(htl b hb).1] at e
      exact hne a ha e
  · intro e he
    rcases List.mem_append.1 he with he | he
    · exact h.lt e (by simp [he])
    · rw [(htl e he).1]; exact h.lt e0 (by simp)
  · intro e he
    rcases List.mem_append.1 he with he | he
    · exact h.cl e (by simp [he])
    · rw [(htl e he).1]
      exact ⟨fun x hx => hcl x (by rw [hl]; simp [show x ∈ l' from hx]), fun x hx => hlo x (by rw [hl]; simp [show x ∈ l' from hx])⟩
  · intro e he
    rcases List.mem_append.1 he with he | he
    · have := h.cr e (by simp [he])
      rw [so e.1 (hne e he), if_neg (hne e he)]
      exact this
    · obtain ⟨h1, h2⟩ := htl e he
      rw [h1]
      simp only [if_true]
      rw [sh]
      have := hk8 h2
      omega
  · intro c hc
    by_cases e : c = e0.1
    · subst e
      rw [sh, if_pos rfl]
      omega
    · rw [so c e, if_neg e]
      exact h.up c hc
  · intro e he
    rcases List.mem_append.1 he with he | he
    · rw [so e.1 (hne e he)]; exact h.tot e (by simp [he])
    · rw [(htl e he).1]
      have h1 := h.tot e0 (by simp)
      rw [hl, sumD_app] at h1
      show sumS js (e0.1 : Int) _ + sumD l' = al e0.1
      rw [sh]; omega
  · intro c hc hn
    rw [List.map_append, List.mem_append] at hn
    by_cases e : c = e0.1
    · subst e
      have hl0 : l' = [] := by
        rcases Classical.em (l' = []) with hh | hh
        · exact hh
        · exact absurd (Or.inr (by unfold tailA; rw [if_neg hh]; simp)) hn
      have h1 := h.tot e0 (by simp)
      rw [hl, hl0, List.append_nil] at h1
      rw [sh]; omega
    · rw [so c e]
      exact h.out c hc (by rw [List.map_cons, List.mem_cons]; exact fun hh => hh.elim e (fun h2 => hn (.inl h2)))
  · rw [List.pairwise_append]
    refine ⟨?_, ?_, ?_⟩
    · refine List.Pairwise.imp_of_mem (fun ha hb hab => ?_) (List.pairwise_cons.1 h.so).2
      rw [if_neg (hne _ ha), if_neg (hne _ hb)]; exact hab
    · unfold tailA; split
      · exact .nil
      · exact List.pairwise_singleton ..
    · intro a ha b hb
      rw [(htl b hb).1]
      simp only [if_true]
      rw [if_neg (hne a ha)]
      exact h.nr a.1 (h.lt a (by simp [ha])) e0 (by simp)
  · intro c hc e he
    rcases List.mem_append.1 he with he | he
    · rw [if_neg (hne e he)]
      by_cases e2 : c = e0.1
      · rw [if_pos e2, e2]
        have := (List.pairwise_cons.1 h.so).1 e he
        omega
      · rw [if_neg e2]; exact h.nr c hc e (by simp [he])
    · rw [(htl e he).1]
      simp only [if_true]
      have := h.nr c hc e0 (by simp)
      split <;> omega
end
theorem tailA_tc (ws : List Int) (c : Nat) (r : Int × List Duo) : (tailA c r.1 r.2).map (tcOf ws) = tailOf (9 * dw ws c) r := by
  unfold tailA tailOf
  split <;> rfl
theorem run_good {ws : List Int} {js : List Duo} {al : Nat → Int} (hw : wtOk ws) (f : Nat) : ∀ (acc : List Int) (r : List AC) (t : Nat → Int), Inv ws js al acc r t → ringOk (r.map (tcOf ws)) → needL (r.map (tcOf ws)) ≤ f →
    (∀ i, GoodS ws js al (acc ++ (ringRun f (r.map (tcOf ws))).take i)) ∧ ∀ c, c < ws.length → sumS js (c : Int) (acc ++ ringRun f (r.map (tcOf ws))) = al c := by
  induction f with
  | zero =>
    intro acc r t h _ hn
    cases r with
    | nil =>
      simp only [ringRun, List.take_nil, List.append_nil]
      exact ⟨fun _ => inv_good hw h, fun c hc => h.out c hc (by simp)⟩
    | cons e r => have := need_pos (tcOf ws e) (r.map (tcOf ws)); rw [List.map_cons] at hn; omega
  | succ f ih =>
    intro acc r t h hok hn
    cases r with
    | nil =>
      simp only [List.map_nil, ringRun, List.take_nil, List.append_nil]
      exact ⟨fun _ => inv_good hw h, fun c hc => h.out c hc (by simp)⟩
    | cons e0 left =>
      rw [List.map_cons] at hok hn ⊢
      have h1 := need_less (left := left.map (tcOf ws)) (hok (tcOf ws e0) (by simp))
      have hok2 := ringOk_turn hok
      obtain ⟨o1, o2, o3, o4, o5⟩ := hok (tcOf ws e0) (by simp)
      have hg0 : 0 ≤ (tcOf ws e0).2.1 + (tcOf ws e0).1 := by omega
      obtain ⟨t1, t2, t3⟩ := turn_ok (tcOf ws e0).2.2 o5 _ hg0
      obtain ⟨pr, p1, p2, p3⟩ := turn_split (tcOf ws e0).2.2 _ hg0
      have hk : (tcOf ws e0).2.1 + (tcOf ws e0).1 = e0.2.1 + 9 * dw ws e0.1 := rfl
      have hnx := inv_next h (pr := pr) (l' := (turnDo ((tcOf ws e0).2.1 + (tcOf ws e0).1) (tcOf ws e0).2.2).2.2) (k' := (turnDo ((tcOf ws e0).2.1 + (tcOf ws e0).1) (tcOf ws e0).2.2).2.1) p1 (p3.trans hk) t1 t2
      have e1 : (left ++ tailA e0.1 (turnDo ((tcOf ws e0).2.1 + (tcOf ws e0).1) (tcOf ws e0).2.2).2.1 (turnDo ((tcOf ws e0).2.1 + (tcOf ws e0).1) (tcOf ws e0).2.2).2.2).map (tcOf ws) = left.map (tcOf ws) ++ tailOf (tcOf ws e0).1 (turnDo ((tcOf ws e0).2.1 + (tcOf ws e0).1) (tcOf ws e0).2.2).2 := by
        rw [List.map_append, tailA_tc]; rfl
      obtain ⟨g1, g2⟩ := ih _ _ _ hnx (by rw [e1]; exact hok2) (by rw [e1]; omega)
      rw [e1] at g1 g2
      rw [ringRun, p2]
      refine ⟨fun i => ?_, fun c hc => ?_⟩
      · rw [List.take_append]
        by_cases hi : i ≤ (pr.map (·.1)).length
        · rw [show i - (pr.map (·.1)).length = 0 by omega, List.take_zero, List.append_nil, ← List.map_take]
          refine inv_mid hw h (pr1 := pr.take i) (pr2 := pr.drop i) (by rw [List.take_append_drop]; exact p1) ?_
          rw [List.take_append_drop]
          omega
        · rw [List.take_of_length_le (show (pr.map (·.1)).length ≤ i by omega), ← List.append_assoc]
          exact g1 _
      · rw [← List.append_assoc]; exact g2 c hc
theorem fair_good {ws : List Int} {js : List Duo} (h : jobsOk ws js) : ∀ i a b, a < ws.length → b < ws.length → sumS js (b : Int) ((fairL ws js).take i) < sumS js (b : Int) (fairL ws js) →
    sumS js (a : Int) ((fairL ws js).take i) * dw ws b - sumS js (b : Int) ((fairL ws js).take i) * dw ws a ≤ 9 * dw ws a * dw ws b + 8 * dw ws a := by
  have hr0 : ring0 ws js = ((List.range ws.length).map (fun c => ((c, 0, lineTo js c js.length) : AC))).map (tcOf ws) := by
    unfold ring0; rw [List.map_map]; rfl
  have hmem : ∀ e ∈ (List.range ws.length).map (fun c => ((c, 0, lineTo js c js.length) : AC)), ∃ c, c < ws.length ∧ e = (c, 0, lineTo js c js.length) := by
    intro e he
    rw [List.mem_map] at he
    obtain ⟨c, hc, rfl⟩ := he
    exact ⟨c, by simpa using hc, rfl⟩
  have hinv : Inv ws js (fun c => sumD (lineTo js c js.length)) [] ((List.range ws.length).map (fun c => ((c, 0, lineTo js c js.length) : AC))) (fun _ => 0) := by
    refine ⟨?_, ?_, ?_, ?_, ?_, ?_, ?_, ?_, ?_⟩
    · rw [List.map_map]
      show (List.map (fun c => c) (List.range ws.length)).Nodup
      rw [List.map_id']; exact List.nodup_range
    · intro e he; obtain ⟨c, hc, rfl⟩ := hmem e he; exact hc
    · intro e he
      obtain ⟨c, hc, rfl⟩ := hmem e he
      exact ⟨fun x hx => ⟨(lineTo_cl hx).1, (lineTo_cl hx).2.1⟩, lineTo_ok h _ _ (Nat.le_refl _)⟩
    · intro e he
      obtain ⟨c, hc, rfl⟩ := hmem e he
      simp [sumS]
    · intro c _; simp [sumS]
    · intro e he
      obtain ⟨c, hc, rfl⟩ := hmem e he
      simp [sumS]
    · intro c hc hn
      refine absurd ?_ hn
      rw [List.map_map, List.mem_map]
      exact ⟨c, by simpa using hc, rfl⟩
    · exact List.pairwise_of_forall (fun _ _ => Int.le_refl _)
    · intro c _ e _; omega
  have := run_good h.2.1 (needL (ring0 ws js)) [] _ _ hinv (by rw [← hr0]; exact ring0_ok h) (by rw [← hr0]; exact Nat.le_refl _)
  rw [← hr0] at this
  obtain ⟨g1, g2⟩ := this
  have hf : fairL ws js = ringRun (needL (ring0 ws js)) (ring0 ws js) := by unfold fairL; rw [if_pos h]
  intro i a b ha hb hlt
  rw [hf] at hlt ⊢
  have g3 := g1 i a b ha hb
  simp only [List.nil_append] at g2 g3
  rw [g2 b hb] at hlt
  exact g3 hlt
/-- What is served, told of an order without repetition. -/
theorem sum_nodup_rev {js : List Duo} {c : Nat} : ∀ (l : List Int), l.Nodup → (∀ x ∈ l, 0 ≤ x ∧ x < (js.length : Int)) → sumTo js l.reverse c js.length = sumS js (c : Int) l
  | [], _, _ => by rw [List.reverse_nil, sum_nil]; rfl
  | x :: l, hn, hx => by
    rw [List.nodup_cons] at hn
    obtain ⟨i, hi⟩ := Int.eq_ofNat_of_zero_le (hx x (by simp)).1
    subst hi
    have hlt := (hx (i : Int) (by simp)).2
    have hni : (i : Int) ∉ l.reverse := by rw [List.mem_reverse]; exact hn.1
    rw [List.reverse_cons, sum_snoc js _ c i hni, sum_nodup_rev l hn.2 (fun y hy => hx y (by simp [hy]))]
    simp only [sumS]
    rw [Int.add_comm]
    congr 1
    unfold clI szI
    simp only [Int.toNat_natCast]
    have : i < js.length := by omega
    simp [this]
theorem sum_nodup {js : List Duo} {c : Nat} (l : List Int) (hn : l.Nodup) (hx : ∀ x ∈ l, 0 ≤ x ∧ x < (js.length : Int)) : sumTo js l c js.length = sumS js (c : Int) l := by
  rw [← sum_nodup_rev l hn hx]
  exact sum_same c (fun x => by rw [List.mem_reverse]) js.length
theorem fair_nodup {ws : List Int} {js : List Duo} (h : jobsOk ws js) : (fairL ws js).Nodup :=
  List.Pairwise.imp (fun hab e => by have := hab (by rw [e]); omega) (fair_in h)
theorem fair_ix {ws : List Int} {js : List Duo} (h : jobsOk ws js) : ixOk (fairL ws js) js.length := by
  intro x hx
  obtain ⟨i, rfl, hi, _⟩ := strictTo_mem (fair_mem h hx)
  omega
end Go.Proofs.Ytpofkkenbepjpaa
