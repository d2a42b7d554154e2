/-
  Chapter 7's plain mathematics of the program's own ways: unions of sets, a heap of times, the smallest claim over the ends of cables. No condition.
-/
import Derived.Test.YtkmdpmhaljieaaaMathTree
namespace Go.Proofs.Ytkmdpmhaljieaaa
open Go.RowKit

/- The ends of cables. -/
def endsTo (cs : List Cab) (b : Nat) : Nat → List Cab
  | 0 => []
  | m + 1 => endsTo cs b m ++ (match otherN (cab cs m) b with
    | none => []
    | some o => [(o, m, (cab cs m).2.2)])
def endsK (n : Nat) (cs : List Cab) (k : Nat) : List (List Cab) := (List.range n).map fun b => endsTo cs b k
def endsN (n : Nat) (cs : List Cab) : List (List Cab) := endsK n cs cs.length
theorem endsTo_none {cs : List Cab} {b m : Nat} (h : otherN (cab cs m) b = none) : endsTo cs b (m + 1) = endsTo cs b m := by rw [endsTo, h]; simp
theorem endsTo_some {cs : List Cab} {b m o : Nat} (h : otherN (cab cs m) b = some o) : endsTo cs b (m + 1) = endsTo cs b m ++ [(o, m, (cab cs m).2.2)] := by rw [endsTo, h]
theorem endsTo_len (cs : List Cab) (b : Nat) : ∀ m, (endsTo cs b m).length ≤ m
  | 0 => Nat.le_refl _
  | m + 1 => by
    have ih := endsTo_len cs b m
    cases ho : otherN (cab cs m) b with
    | none => rw [endsTo_none ho]; omega
    | some o => rw [endsTo_some ho, List.length_append]; simp; omega
theorem endsTo_mem {cs : List Cab} {b : Nat} {e : Cab} : ∀ m, e ∈ endsTo cs b m ↔ ∃ i o, i < m ∧ otherN (cab cs i) b = some o ∧ e = (o, i, (cab cs i).2.2)
  | 0 => ⟨fun h => (List.not_mem_nil h).elim, fun ⟨i, o, hi, _⟩ => by omega⟩
  | m + 1 => by
    have ih := endsTo_mem (e := e) (cs := cs) (b := b) m
    cases ho : otherN (cab cs m) b with
    | none =>
      rw [endsTo_none ho, ih]
      constructor
      · rintro ⟨i, o, hi, h⟩; exact ⟨i, o, by omega, h⟩
      · rintro ⟨i, o, hi, h1, h2⟩
        by_cases hm : i = m
        · subst hm; rw [ho] at h1; cases h1
        · exact ⟨i, o, by omega, h1, h2⟩
    | some o =>
      rw [endsTo_some ho, List.mem_append, ih, List.mem_singleton]
      constructor
      · rintro (⟨i, o', hi, h⟩ | rfl)
        · exact ⟨i, o', by omega, h⟩
        · exact ⟨m, o, by omega, ho, rfl⟩
      · rintro ⟨i, o', hi, h1, h2⟩
        by_cases hm : i = m
        · subst hm; rw [ho] at h1; injection h1 with h1; subst h1; exact Or.inr h2
        · exact Or.inl ⟨i, o', by omega, h1, h2⟩
theorem endsTo_edge {cs : List Cab} {b : Nat} {e : Cab} (h : e ∈ endsTo cs b cs.length) : Edge cs b e.1 e.2.2 := by
  obtain ⟨i, o, hi, ho, rfl⟩ := (endsTo_mem _).1 h
  exact other_edge hi ho
theorem edge_ends {n : Nat} {cs : List Cab} (hc : cabsOk n cs) {b o k : Nat} (h : Edge cs b o k) : ∃ i, (o, i, k) ∈ endsTo cs b cs.length := by
  obtain ⟨i, hi, ho, hk⟩ := edge_other hc h
  exact ⟨i, (endsTo_mem _).2 ⟨i, o, hi, ho, by rw [hk]⟩⟩
theorem endsK_len (n : Nat) (cs : List Cab) (k : Nat) : (endsK n cs k).length = n := by simp [endsK]
theorem endsK_at {n : Nat} {cs : List Cab} {k b : Nat} (hb : b < n) : (endsK n cs k)[b]? = some (endsTo cs b k) := by simp [endsK, hb]
theorem endsK_zero (n : Nat) (cs : List Cab) : endsK n cs 0 = List.replicate n [] := by
  unfold endsK
  apply List.ext_getElem?
  intro i
  by_cases hi : i < n
  · simp [hi, endsTo]
  · simp [hi]
theorem endsK_succ {n : Nat} {cs : List Cab} (hc : cabsOk n cs) {k : Nat} (hk : k < cs.length) {a b c : Nat} (he : cab cs k = (a, b, c)) :
    endsK n cs (k + 1) = ((endsK n cs k).set a (endsTo cs a k ++ [(b, k, c)])).set b (endsTo cs b k ++ [(a, k, c)]) := by
  have hok := hc _ (cab_mem hk)
  rw [he] at hok
  obtain ⟨ha, hb, hab, _⟩ := hok
  apply List.ext_getElem?
  intro i
  have hl : (endsK n cs k).length = n := endsK_len n cs k
  by_cases hi : i < n
  · rw [endsK_at hi]
    by_cases e2 : i = b
    · subst e2
      rw [List.getElem?_set_self (by rw [List.length_set, hl]; exact hi)]
      rw [endsTo_some (o := a) (by rw [he]; simp [otherN, Ne.symm hab]), he]
    · rw [List.getElem?_set_ne (Ne.symm e2)]
      by_cases e1 : i = a
      · subst e1
        rw [List.getElem?_set_self (by rw [hl]; exact hi)]
        rw [endsTo_some (o := b) (by rw [he]; simp [otherN]), he]
      · rw [List.getElem?_set_ne (Ne.symm e1), endsK_at hi, endsTo_none (by rw [he]; simp [otherN, e1, e2])]
  · rw [List.getElem?_eq_none (by rw [endsK_len]; omega), List.getElem?_eq_none (by rw [List.length_set, List.length_set, hl]; omega)]
/-- What stands between the two stores of one cable. -/
theorem endsK_mid {n : Nat} {cs : List Cab} (hc : cabsOk n cs) {k : Nat} (hk : k < cs.length) {a b c : Nat} (he : cab cs k = (a, b, c)) :
    ((endsK n cs k).set a (endsTo cs a k ++ [(b, k, c)]))[b]? = some (endsTo cs b k) := by
  have hok := hc _ (cab_mem hk)
  rw [he] at hok
  obtain ⟨ha, hb, hab, _⟩ := hok
  rw [List.getElem?_set_ne hab, endsK_at hb]

/- The smallest claim. -/
def heardOf (claims : List (List Int)) (e : Cab) : List Int := [gi (clmAt claims e.1) 0, gi (clmAt claims e.1) 1 + (e.2.2 : Nat), (e.1 : Int), (e.2.1 : Int)]
def stepE (claims : List (List Int)) (x : List Int) (e : Cab) : List Int := if less4 (heardOf claims e) x then heardOf claims e else x
def bestE (claims : List (List Int)) (b : Nat) (es : List Cab) : List Int := es.foldl (stepE claims) (clm0 b)
theorem bestE_snoc (claims : List (List Int)) (b : Nat) (es : List Cab) (e : Cab) : bestE claims b (es ++ [e]) = stepE claims (bestE claims b es) e := by simp [bestE, List.foldl_append]
theorem bestE_to (cs : List Cab) (claims : List (List Int)) (b : Nat) : ∀ m, bestE claims b (endsTo cs b m) = bestTo cs claims b m
  | 0 => rfl
  | m + 1 => by
    have ih := bestE_to cs claims b m
    cases ho : otherN (cab cs m) b with
    | none => rw [endsTo_none ho, ih, bestTo]; simp [candL, ho]
    | some o => rw [endsTo_some ho, bestE_snoc, ih, bestTo, cand_at ho]; rfl
theorem nextN_len (n : Nat) (cs : List Cab) (claims : List (List Int)) : (nextN n cs claims).length = n := by simp [nextN]
theorem bestTo_four (cs : List Cab) (claims : List (List Int)) (b m : Nat) : (bestTo cs claims b m).length = 4 := by
  rcases best_from cs claims b m with h | ⟨i, _, h⟩
  · rw [h]; rfl
  · obtain ⟨o, _, e⟩ := cand_some h
    rw [e]; rfl
theorem nextN_four {n : Nat} {cs : List Cab} {claims : List (List Int)} : ∀ x ∈ nextN n cs claims, x.length = 4 := fun x hx => by
  simp only [nextN, List.mem_map] at hx
  obtain ⟨b, _, rfl⟩ := hx
  exact bestTo_four _ _ _ _
theorem firstL_four {n : Nat} : ∀ x ∈ firstL n, x.length = 4 := fun x hx => by
  simp only [firstL, List.mem_map] at hx
  obtain ⟨b, _, rfl⟩ := hx
  rfl
theorem firstL_len (n : Nat) : (firstL n).length = n := by simp [firstL]
theorem afterN_four {n : Nat} {cs : List Cab} : ∀ k, ∀ x ∈ afterN n cs k, x.length = 4
  | 0 => firstL_four
  | _ + 1 => nextN_four
/-- Claims that say the same of roots and costs are heard alike. -/
theorem best_congr {n : Nat} {cs : List Cab} (hc : cabsOk n cs) {x y : List (List Int)} (h : ∀ o, o < n → gi (clmAt x o) 0 = gi (clmAt y o) 0 ∧ gi (clmAt x o) 1 = gi (clmAt y o) 1) (b : Nat) : ∀ m, m ≤ cs.length → bestTo cs x b m = bestTo cs y b m
  | 0, _ => rfl
  | m + 1, hm => by
    have ih := best_congr hc h b m (by omega)
    have e : candL cs x b m = candL cs y b m := by
      cases ho : otherN (cab cs m) b with
      | none => simp [candL, ho]
      | some o =>
        have hok := (other_edge (by omega) ho).ok hc
        obtain ⟨h0, h1⟩ := h o hok.2.1
        rw [cand_at ho, cand_at ho, h0, h1]
    rw [bestTo, bestTo, ih, e]
def rightN (n : Nat) (cs : List Cab) : List (List Int) := (List.range n).map fun b => [(rootN n cs b : Int), (gn (costsN n cs) b : Int), -1, -1]
theorem right_at {n : Nat} {cs : List Cab} {b : Nat} (hb : b < n) : clmAt (rightN n cs) b = [(rootN n cs b : Int), (gn (costsN n cs) b : Int), -1, -1] := by
  unfold clmAt rightN
  rw [List.getD_eq_getElem?_getD]
  simp [hb]
/-- What bridges claim that hear the right claims is what they claim in the end. -/
theorem next_right {n : Nat} {cs : List Cab} (hc : cabsOk n cs) (hn : n ≤ 8) : nextN n cs (rightN n cs) = afterN n cs n := by
  rw [← after_fix hc hn (Nat.le_refl n)]
  unfold nextN
  refine List.map_congr_left fun b _ => best_congr hc (fun o ho => ?_) b _ (Nat.le_refl _)
  rw [right_at ho]
  obtain ⟨h0, h1⟩ := after_all hc hn (show n ≤ n + 1 by omega) ho
  exact ⟨h0.symm, h1.symm⟩

/- Unions of sets. -/
def sm (s : List Nat) (b : Nat) : Nat := if gn s b < b then sm s (gn s b) else b
termination_by b
theorem sm_fix {s : List Nat} {b : Nat} (h : ¬ gn s b < b) : sm s b = b := by rw [sm, if_neg h]
theorem sm_down {s : List Nat} {b : Nat} (h : gn s b < b) : sm s b = sm s (gn s b) := by rw [sm, if_pos h]
theorem sm_le (s : List Nat) : ∀ m b, b ≤ m → sm s b ≤ b := by
  intro m
  induction m with
  | zero => intro b hb; rw [sm_fix (by omega)]; exact Nat.le_refl _
  | succ m ih =>
    intro b hb
    by_cases h : gn s b < b
    · rw [sm_down h]; have := ih (gn s b) (by omega); omega
    · rw [sm_fix h]; exact Nat.le_refl _
theorem sm_is (s : List Nat) : ∀ m b, b ≤ m → ¬ gn s (sm s b) < sm s b := by
  intro m
  induction m with
  | zero => intro b hb; rw [sm_fix (by omega)]; omega
  | succ m ih =>
    intro b hb
    by_cases h : gn s b < b
    · rw [sm_down h]; exact ih _ (by omega)
    · rw [sm_fix h]; exact h
theorem sm_sm (s : List Nat) (b : Nat) : sm s (sm s b) = sm s b := sm_fix (sm_is s b b (Nat.le_refl _))
def joinS (s : List Nat) (c : Cab) : List Nat := s.set (max (sm s c.1) (sm s c.2.1)) (min (sm s c.1) (sm s c.2.1))
def setsK (n : Nat) (cs : List Cab) : Nat → List Nat
  | 0 => List.range n
  | k + 1 => joinS (setsK n cs k) (cab cs k)
def SetsOk (n : Nat) (s : List Nat) : Prop := s.length = n ∧ ∀ b, b < n → gn s b ≤ b
theorem sm_set {s : List Nat} {hi lo : Nat} (hlt : lo < hi) (hh : hi < s.length) (fh : ¬ gn s hi < hi) (fl : ¬ gn s lo < lo) : ∀ m b, b ≤ m → sm (s.set hi lo) b = if sm s b = hi then lo else sm s b := by
  intro m
  have gl : gn (s.set hi lo) lo = gn s lo := by rw [gn_set, if_neg (by omega)]
  have gh : gn (s.set hi lo) hi = lo := by rw [gn_set, if_pos ⟨rfl, hh⟩]
  have sl : sm (s.set hi lo) lo = lo := sm_fix (by rw [gl]; exact fl)
  induction m with
  | zero =>
    intro b hb
    obtain rfl : b = 0 := by omega
    rw [sm_fix (by omega), sm_fix (by omega), if_neg (by omega)]
  | succ m ih =>
    intro b hb
    by_cases e : b = hi
    · subst e
      rw [sm_fix fh, if_pos rfl, sm_down (by rw [gh]; exact hlt), gh, sl]
    · have g : gn (s.set hi lo) b = gn s b := by rw [gn_set, if_neg (fun h => e h.1.symm)]
      by_cases h : gn s b < b
      · rw [sm_down (by rw [g]; exact h), g, ih _ (by omega), sm_down h]
      · rw [sm_fix (by rw [g]; exact h), sm_fix h, if_neg e]
theorem range_gn {n b : Nat} (hb : b < n) : gn (List.range n) b = b := by simp [gn, List.getD_eq_getElem?_getD, hb]
theorem join_ok {n : Nat} {s : List Nat} (h : SetsOk n s) (c : Cab) : SetsOk n (joinS s c) := by
  refine ⟨by simp [joinS, h.1], fun b hb => ?_⟩
  unfold joinS
  rw [gn_set]
  split
  · rename_i e; have := e.1; omega
  · exact h.2 b hb
theorem sets_ok (n : Nat) (cs : List Cab) : ∀ k, SetsOk n (setsK n cs k)
  | 0 => ⟨by simp [setsK], fun b hb => by rw [setsK, range_gn hb]; exact Nat.le_refl _⟩
  | k + 1 => join_ok (sets_ok n cs k) _
theorem sets_inv {n : Nat} {cs : List Cab} (hc : cabsOk n cs) : ∀ k, k ≤ cs.length → (∀ b, b < n → Conn cs b (sm (setsK n cs k) b)) ∧ ∀ i, i < k → sm (setsK n cs k) (cab cs i).1 = sm (setsK n cs k) (cab cs i).2.1
  | 0, _ => ⟨fun b hb => by rw [sm_fix (by rw [setsK, range_gn hb]; omega)]; exact .refl, fun i hi => by omega⟩
  | k + 1, hk => by
    obtain ⟨h1, h2⟩ := sets_inv hc k (by omega)
    have hs := sets_ok n cs k
    have hok := hc _ (cab_mem (show k < cs.length by omega))
    have hed : Edge cs (cab cs k).1 (cab cs k).2.1 (cab cs k).2.2 := Or.inl (cab_mem (show k < cs.length by omega))
    show (∀ b, b < n → Conn cs b (sm (joinS (setsK n cs k) (cab cs k)) b)) ∧ ∀ i, i < k + 1 → sm (joinS (setsK n cs k) (cab cs k)) (cab cs i).1 = sm (joinS (setsK n cs k) (cab cs k)) (cab cs i).2.1
    generalize setsK n cs k = s at *
    generalize hcc : cab cs k = c at *
    have ca := h1 _ hok.1
    have cb := h1 _ hok.2.1
    have la := sm_le s _ c.1 (Nat.le_refl _)
    have lb := sm_le s _ c.2.1 (Nat.le_refl _)
    have fa := sm_is s _ c.1 (Nat.le_refl _)
    have fb := sm_is s _ c.2.1 (Nat.le_refl _)
    have hab : Conn cs c.1 c.2.1 := Conn.tail .refl hed
    have hcab : Conn cs (sm s c.1) (sm s c.2.1) := ca.symm.trans (hab.trans cb)
    by_cases e : sm s c.1 = sm s c.2.1
    · have hj : joinS s c = s := by
        unfold joinS
        rw [← e, Nat.max_self, Nat.min_self]
        have hlt : sm s c.1 < s.length := by rw [hs.1]; have := hok.1; omega
        have hge := hs.2 (sm s c.1) (by rw [hs.1] at hlt; exact hlt)
        have hgn : gn s (sm s c.1) = sm s c.1 := by omega
        apply gn_ext (by simp)
        intro v _
        rw [gn_set]
        split
        · rename_i hv; rw [← hv.1, hgn]
        · rfl
      rw [hj]
      refine ⟨h1, fun i hi => ?_⟩
      by_cases him : i = k
      · subst him; rw [hcc]; exact e
      · exact h2 i (by omega)
    · have key : ∀ b, sm (joinS s c) b = if sm s b = max (sm s c.1) (sm s c.2.1) then min (sm s c.1) (sm s c.2.1) else sm s b := fun b => by
        unfold joinS
        refine sm_set (by omega) ?_ ?_ ?_ b b (Nat.le_refl _)
        · rw [hs.1]; have := hok.1; have := hok.2.1; omega
        · rcases Nat.le_total (sm s c.1) (sm s c.2.1) with h | h
          · rw [Nat.max_eq_right h]; exact fb
          · rw [Nat.max_eq_left h]; exact fa
        · rcases Nat.le_total (sm s c.1) (sm s c.2.1) with h | h
          · rw [Nat.min_eq_left h]; exact fa
          · rw [Nat.min_eq_right h]; exact fb
      refine ⟨fun b hb => ?_, fun i hi => ?_⟩
      · rw [key]
        have hb1 := h1 b hb
        split
        · rename_i hm
          rw [hm] at hb1
          rcases Nat.le_total (sm s c.1) (sm s c.2.1) with h | h
          · rw [Nat.max_eq_right h] at hb1; rw [Nat.min_eq_left h]; exact hb1.trans hcab.symm
          · rw [Nat.max_eq_left h] at hb1; rw [Nat.min_eq_right h]; exact hb1.trans hcab
        · exact hb1
      · rw [key, key]
        by_cases him : i = k
        · subst him
          rw [hcc]
          rcases Nat.le_total (sm s c.1) (sm s c.2.1) with h | h
          · rw [Nat.max_eq_right h, Nat.min_eq_left h, if_neg e, if_pos rfl]
          · rw [Nat.max_eq_left h, Nat.min_eq_right h, if_pos rfl, if_neg (Ne.symm e)]
        · rw [h2 i (by omega)]
theorem sets_root {n : Nat} {cs : List Cab} (hc : cabsOk n cs) {b : Nat} (hb : b < n) : sm (setsK n cs cs.length) b = rootN n cs b := by
  obtain ⟨h1, h2⟩ := sets_inv hc cs.length (Nat.le_refl _)
  generalize setsK n cs cs.length = s at *
  have hall : ∀ v, Conn cs b v → sm s v = sm s b := fun v hv => by
    refine hv.closed (P := fun v => sm s v = sm s b) rfl fun x y k he hx => ?_
    rcases he with he | he
    · obtain ⟨i, hi, e⟩ := cab_of he
      have := h2 i hi; rw [e] at this; exact this.symm.trans hx
    · obtain ⟨i, hi, e⟩ := cab_of he
      have := h2 i hi; rw [e] at this; exact this.trans hx
  have l1 := root_least hc hb (h1 b hb)
  have l2 := hall _ (root_conn hc hb)
  have l3 := sm_le s _ (rootN n cs b) (Nat.le_refl _)
  omega

/- A heap of times. -/
def Dj (n : Nat) (cs : List Cab) (col : List Int) (hp : List (Int × Int)) : Prop :=
  col.length = n ∧ (∀ v, v < n → gi col v = -1 ∨ gi col v = (gn (costsN n cs) v : Nat)) ∧
  (∀ x ∈ hp, ∃ t v : Nat, x = ((t : Int), (v : Int)) ∧ v < n ∧ gn (costsN n cs) v ≤ t ∧ t ≤ 2000) ∧
  (∀ v : Nat, v < n → gi col v = -1 → rootN n cs v = v → ((0 : Int), (v : Int)) ∈ hp) ∧
  ∀ u v k : Nat, Edge cs u v k → gi col u ≠ -1 → gi col v = -1 → (((gn (costsN n cs) u + k : Nat) : Int), (v : Int)) ∈ hp
theorem Dj.perm {n : Nat} {cs : List Cab} {col : List Int} {hp hq : List (Int × Int)} (h : Dj n cs col hp) (hm : hq.Perm hp) : Dj n cs col hq :=
  ⟨h.1, h.2.1, fun x hx => h.2.2.1 x (hm.mem_iff.1 hx), fun v h1 h2 h3 => hm.mem_iff.2 (h.2.2.2.1 v h1 h2 h3), fun u v k h1 h2 h3 => hm.mem_iff.2 (h.2.2.2.2 u v k h1 h2 h3)⟩
/-- To whatever is not reached something is on its way, early enough. -/
theorem Dj.way {n : Nat} {cs : List Cab} {col : List Int} {hp : List (Int × Int)} (hc : cabsOk n cs) (hn : n ≤ 8) (h : Dj n cs col hp) : ∀ m v, v < n → gn (costsN n cs) v ≤ m → gi col v = -1 → ∃ x ∈ hp, x.1 ≤ (gn (costsN n cs) v : Nat) := by
  intro m
  induction m with
  | zero =>
    intro v hv hm hu
    exact ⟨_, h.2.2.2.1 v hv hu ((cost_zero hc hv).1 (by omega)), by simp⟩
  | succ m ih =>
    intro v hv hm hu
    by_cases h0 : gn (costsN n cs) v = 0
    · exact ⟨_, h.2.2.2.1 v hv hu ((cost_zero hc hv).1 h0), by simp⟩
    · obtain ⟨u, k, he, hk⟩ := cost_src hc hn hv h0
      have hok := he.ok hc
      by_cases hs : gi col u = -1
      · obtain ⟨x, hx, hle⟩ := ih u hok.2.1 (by omega) hs
        exact ⟨x, hx, by omega⟩
      · exact ⟨_, h.2.2.2.2 u v k he.symm hs hu, by simp; omega⟩
def intsOf (l : List Nat) : List Int := l.map (fun x : Nat => (x : Int))
theorem Dj.done {n : Nat} {cs : List Cab} {col : List Int} (hc : cabsOk n cs) (hn : n ≤ 8) (h : Dj n cs col []) : col = intsOf (costsN n cs) := by
  unfold intsOf
  apply List.ext_getElem?
  intro i
  by_cases hi : i < n
  · have h1 : gi col i = (gn (costsN n cs) i : Nat) := by
      rcases h.2.1 i hi with h1 | h1
      · obtain ⟨x, hx, _⟩ := h.way hc hn _ i hi (Nat.le_refl _) h1
        exact (List.not_mem_nil hx).elim
      · exact h1
    unfold gi gn at h1
    rw [List.getD_eq_getElem?_getD, List.getD_eq_getElem?_getD, List.getElem?_eq_getElem (show i < col.length by rw [h.1]; exact hi), List.getElem?_eq_getElem (show i < (costsN n cs).length by rw [costs_len]; exact hi)] at h1
    rw [List.getElem?_map, List.getElem?_eq_getElem (show i < col.length by rw [h.1]; exact hi), List.getElem?_eq_getElem (show i < (costsN n cs).length by rw [costs_len]; exact hi)]
    simpa using h1
  · rw [List.getElem?_eq_none (by rw [h.1]; omega), List.getElem?_eq_none (by rw [List.length_map, costs_len]; omega)]
/-- What comes again to a bridge that is reached is let go. -/
theorem Dj.skip {n : Nat} {cs : List Cab} {col : List Int} {hp hq : List (Int × Int)} {t v : Nat} (h : Dj n cs col hp) (hm : (((t : Int), (v : Int)) :: hq).Perm hp) (hv : gi col v ≠ -1) : Dj n cs col hq := by
  have hmem : ∀ x, x ∈ hp → x ≠ ((t : Int), (v : Int)) → x ∈ hq := fun x hx hne => by
    rcases List.mem_cons.1 (hm.mem_iff.2 hx) with h1 | h1
    · exact (hne h1).elim
    · exact h1
  refine ⟨h.1, h.2.1, fun x hx => h.2.2.1 x (hm.mem_iff.1 (List.mem_cons_of_mem _ hx)), fun u h1 h2 h3 => hmem _ (h.2.2.2.1 u h1 h2 h3) (fun e => ?_), fun u x k h1 h2 h3 => hmem _ (h.2.2.2.2 u x k h1 h2 h3) (fun e => ?_)⟩
  · injection e with _ e
    have e : u = v := by omega
    subst e; exact hv h2
  · injection e with _ e
    have e : x = v := by omega
    subst e; exact hv h3
def pushOf (t : Int) (e : Cab) : Int × Int := (t + (e.2.2 : Nat), (e.1 : Int))
/-- What comes first comes at the least cost. -/
theorem Dj.take {n : Nat} {cs : List Cab} {col : List Int} {hp hq : List (Int × Int)} {t v : Nat} (hc : cabsOk n cs) (hn : n ≤ 8) (h : Dj n cs col hp) (hm : (((t : Int), (v : Int)) :: hq).Perm hp) (hmin : ∀ x ∈ hp, (t : Int) ≤ x.1) (hv : gi col v = -1) :
    v < n ∧ t = gn (costsN n cs) v ∧ Dj n cs (col.set v (t : Int)) (hq ++ (endsTo cs v cs.length).map (pushOf (t : Int))) := by
  obtain ⟨t', v', e, hvn, hle, hb⟩ := h.2.2.1 _ (hm.mem_iff.1 List.mem_cons_self)
  injection e with e1 e2
  have e1 : t = t' := by omega
  have e2 : v = v' := by omega
  subst e1 e2
  obtain ⟨x, hx, hxl⟩ := h.way hc hn _ v hvn (Nat.le_refl _) hv
  have := hmin x hx
  have ht : t = gn (costsN n cs) v := by omega
  refine ⟨hvn, ht, ?_⟩
  have hset : ∀ u, gi (col.set v (t : Int)) u = if v = u ∧ v < col.length then (t : Int) else gi col u := fun u => getD_set_or col v u _ 0
  have hcl : v < col.length := by rw [h.1]; exact hvn
  have hmem : ∀ x, x ∈ hp → x ≠ ((t : Int), (v : Int)) → x ∈ hq ++ (endsTo cs v cs.length).map (pushOf (t : Int)) := fun x hx hne => by
    rcases List.mem_cons.1 (hm.mem_iff.2 hx) with h1 | h1
    · exact (hne h1).elim
    · exact List.mem_append.2 (Or.inl h1)
  refine ⟨by rw [List.length_set]; exact h.1, fun u hu => ?_, fun x hx => ?_, fun u h1 h2 h3 => ?_, fun u x k h1 h2 h3 => ?_⟩
  · rw [hset]
    split
    · rename_i hh; right; rw [← hh.1, ht]
    · exact h.2.1 u hu
  · rcases List.mem_append.1 hx with hx | hx
    · exact h.2.2.1 x (hm.mem_iff.1 (List.mem_cons_of_mem _ hx))
    · obtain ⟨e, he, rfl⟩ := List.mem_map.1 hx
      have hed := endsTo_edge he
      have hok := hed.ok hc
      have htri := cost_tri hc hed.symm
      have hcl2 := cost_le hc hvn
      exact ⟨t + e.2.2, e.1, by simp [pushOf], hok.2.1, by omega, by omega⟩
  · rw [hset] at h2
    by_cases e : v = u
    · subst e; rw [if_pos ⟨rfl, hcl⟩] at h2; omega
    · rw [if_neg (fun hh => e hh.1)] at h2
      refine hmem _ (h.2.2.2.1 u h1 h2 h3) (fun ee => ?_)
      injection ee with _ ee
      exact e (by omega)
  · rw [hset] at h2 h3
    by_cases e : v = x
    · subst e; rw [if_pos ⟨rfl, hcl⟩] at h3; omega
    · rw [if_neg (fun hh => e hh.1)] at h3
      by_cases e' : v = u
      · subst e'
        obtain ⟨i, hi⟩ := edge_ends hc h1
        refine List.mem_append.2 (Or.inr (List.mem_map.2 ⟨_, hi, ?_⟩))
        simp [pushOf, ht]
      · rw [if_neg (fun hh => e' hh.1)] at h2
        refine hmem _ (h.2.2.2.2 u x k h1 h2 h3) (fun ee => ?_)
        injection ee with _ ee
        exact e (by omega)
def rootsTo (n : Nat) (cs : List Cab) : Nat → List (Int × Int)
  | 0 => []
  | k + 1 => rootsTo n cs k ++ if rootN n cs k = k then [((0 : Int), (k : Int))] else []
theorem rootsTo_mem {n : Nat} {cs : List Cab} {x : Int × Int} : ∀ k, x ∈ rootsTo n cs k ↔ ∃ v : Nat, v < k ∧ rootN n cs v = v ∧ x = ((0 : Int), (v : Int))
  | 0 => ⟨fun h => (List.not_mem_nil h).elim, fun ⟨v, hv, _⟩ => by omega⟩
  | k + 1 => by
    have ih := rootsTo_mem (n := n) (cs := cs) (x := x) k
    rw [rootsTo, List.mem_append, ih]
    constructor
    · rintro (⟨v, hv, h⟩ | h)
      · exact ⟨v, by omega, h⟩
      · split at h
        · rename_i hr; exact ⟨k, by omega, hr, List.mem_singleton.1 h⟩
        · exact (List.not_mem_nil h).elim
    · rintro ⟨v, hv, hr, e⟩
      by_cases hk : v = k
      · subst hk; rw [if_pos hr]; exact Or.inr (List.mem_singleton.2 e)
      · exact Or.inl ⟨v, by omega, hr, e⟩
theorem rootsTo_len (n : Nat) (cs : List Cab) : ∀ k, (rootsTo n cs k).length ≤ k
  | 0 => Nat.le_refl _
  | k + 1 => by
    have := rootsTo_len n cs k
    rw [rootsTo, List.length_append]
    split <;> simp <;> omega
theorem dj_start {n : Nat} {cs : List Cab} (hc : cabsOk n cs) : Dj n cs (List.replicate n (-1)) (rootsTo n cs n) := by
  have hg : ∀ u, u < n → gi (List.replicate n (-1)) u = -1 := fun u hu => by simp [gi, List.getD_eq_getElem?_getD, hu]
  refine ⟨by simp, fun v hv => Or.inl (hg v hv), fun x hx => ?_, fun v hv _ hr => (rootsTo_mem n).2 ⟨v, hv, hr, rfl⟩, fun u v k he hs hu => ?_⟩
  · obtain ⟨v, hv, hr, e⟩ := (rootsTo_mem n).1 hx
    exact ⟨0, v, e, hv, by rw [cost_root hv hr]; exact Nat.le_refl _, by omega⟩
  · exact (hs (hg u (he.ok hc).1)).elim
/-- What may still come onto the way. -/
def leftN (cs : List Cab) (col : List Int) : Nat → Nat
  | 0 => 0
  | k + 1 => leftN cs col k + if gi col k = -1 then (endsTo cs k cs.length).length else 0
theorem left_le (cs : List Cab) (col : List Int) : ∀ k, leftN cs col k ≤ k * cs.length
  | 0 => by simp [leftN]
  | k + 1 => by
    have := left_le cs col k
    have := endsTo_len cs k cs.length
    rw [leftN, Nat.add_mul]
    split <;> omega
theorem left_out (cs : List Cab) (col : List Int) (v : Nat) (t : Nat) : ∀ k, k ≤ v → leftN cs (col.set v (t : Int)) k = leftN cs col k
  | 0, _ => rfl
  | k + 1, h => by
    have ih := left_out cs col v t k (by omega)
    have hg : gi (col.set v (t : Int)) k = gi col k := getD_set_ne col v k _ 0 (by omega)
    rw [leftN, leftN, ih, hg]
theorem left_set (cs : List Cab) (col : List Int) (v : Nat) (t : Nat) (hl : v < col.length) (hv : gi col v = -1) : ∀ k, v < k → leftN cs (col.set v (t : Int)) k + (endsTo cs v cs.length).length = leftN cs col k
  | 0, h => by omega
  | k + 1, h => by
    by_cases e : v = k
    · subst e
      have hg : gi (col.set v (t : Int)) v = (t : Int) := getD_set_eq col v _ 0 hl
      rw [leftN, leftN, left_out cs col v t v (Nat.le_refl _), hg, if_neg (by omega), if_pos hv]; rfl
    · have ih := left_set cs col v t hl hv k (by omega)
      have hg : gi (col.set v (t : Int)) k = gi col k := getD_set_ne col v k _ 0 e
      rw [leftN, leftN, hg]; omega

/- The tree, unsorted. -/
def treeU (n : Nat) (cs : List Cab) (k : Nat) : List Nat := (List.range k).filterMap (upN cs (costsN n cs))
theorem treeU_succ (n : Nat) (cs : List Cab) (k : Nat) : treeU n cs (k + 1) = treeU n cs k ++ (upN cs (costsN n cs) k).toList := by
  unfold treeU
  rw [List.range_succ, List.filterMap_append]
  cases h : upN cs (costsN n cs) k <;> simp [h]
theorem treeU_mem {n : Nat} {cs : List Cab} {j : Nat} : j ∈ treeU n cs n ↔ j ∈ treeN n cs := by
  rw [treeN_mem, treeU, List.mem_filterMap]
  constructor
  · rintro ⟨b, hb, h⟩; exact ⟨b, List.mem_range.1 hb, h⟩
  · rintro ⟨b, hb, h⟩; exact ⟨b, List.mem_range.2 hb, h⟩
theorem treeU_nodup {n : Nat} {cs : List Cab} (hc : cabsOk n cs) : ∀ k, (treeU n cs k).Nodup
  | 0 => by simp [treeU]
  | k + 1 => by
    rw [treeU_succ]
    have ih := treeU_nodup hc k
    cases h : upN cs (costsN n cs) k with
    | none => simpa using ih
    | some i =>
      rw [List.nodup_append]
      refine ⟨ih, by simp, fun a ha b hb e => ?_⟩
      simp at hb
      subst hb e
      simp only [treeU, List.mem_filterMap, List.mem_range] at ha
      obtain ⟨x, hx, hux⟩ := ha
      have := up_inj hc hux h
      omega
theorem treeU_perm {n : Nat} {cs : List Cab} (hc : cabsOk n cs) : (treeU n cs n).Perm (treeN n cs) :=
  (List.perm_ext_iff_of_nodup (treeU_nodup hc n) ((tree_asc hc (costsN n cs) cs.length).imp (fun h => Nat.ne_of_lt h))).2 (fun _ => treeU_mem)
end Go.Proofs.Ytkmdpmhaljieaaa
