/-
  Chapter 15's mathematics: exchanges, spans, which numbers most spans have, as the model finds them and as the program does. Plain mathematics about lists, no condition.
-/
import Derived.Test.YtmifhkhanjiklaaMathJob
namespace Go.Proofs.Ytmifhkhanjiklaa

theorem dj_atT {js : List Duo} {i : Nat} {z : Duo} (h : js[i]? = some z) : dj js i = z := by unfold dj; rw [List.getD_eq_getElem?_getD, h]; rfl
theorem dj_someT {js : List Duo} {i : Nat} (h : i < js.length) : js[i]? = some (dj js i) := by unfold dj; rw [List.getD_eq_getElem?_getD, List.getElem?_eq_getElem h]; rfl
theorem dj_memT {js : List Duo} {i : Nat} (h : i < js.length) : dj js i ∈ js := List.mem_of_getElem? (dj_someT h)

/- Exchanges. -/
abbrev Quad := Int × Int × Int × Int
def dq (xs : List Quad) (i : Nat) : Quad := xs.getD i (0, 0, 0, 0)
theorem dq_at {xs : List Quad} {i : Nat} {z : Quad} (h : xs[i]? = some z) : dq xs i = z := by unfold dq; rw [List.getD_eq_getElem?_getD, h]; rfl
theorem dq_some {xs : List Quad} {i : Nat} (h : i < xs.length) : xs[i]? = some (dq xs i) := by unfold dq; rw [List.getD_eq_getElem?_getD, List.getElem?_eq_getElem h]; rfl
theorem dq_mem {xs : List Quad} {i : Nat} (h : i < xs.length) : dq xs i ∈ xs := List.mem_of_getElem? (dq_some h)
def tmOk (n : Int) : Prop := -1000000 ≤ n ∧ n ≤ 1000000
instance (n : Int) : Decidable (tmOk n) := by unfold tmOk; infer_instance
def exOk (x : Quad) : Prop := tmOk x.1 ∧ tmOk x.2.1 ∧ tmOk x.2.2.1 ∧ tmOk x.2.2.2 ∧ x.2.1 ≤ x.2.2.1 ∧ x.2.2.1 - x.2.1 ≤ x.2.2.2 - x.1
instance (x : Quad) : Decidable (exOk x) := by unfold exOk; infer_instance
def twI (x : Quad) : Int := if exOk x then x.2.1 - x.1 + x.2.2.1 - x.2.2.2 else 0
def wayI (x : Quad) : Int := if exOk x then x.2.2.2 - x.1 - (x.2.2.1 - x.2.1) else -1
theorem tw_bound (x : Quad) : -8000000 ≤ twI x ∧ twI x ≤ 8000000 := by
  unfold twI
  split
  · rename_i h
    unfold exOk tmOk at h
    omega
  · omega
theorem way_bound (x : Quad) : -1 ≤ wayI x ∧ wayI x ≤ 8000000 := by
  unfold wayI
  split
  · rename_i h
    unfold exOk tmOk at h
    omega
  · omega
/-- The exchange that a talk makes. -/
def talkX (a t k b n : Int) : Quad := (n, n + t + a, n + t + a + k, n + t + k + b)
def talkOk (a t k b n : Int) : Prop := tmOk a ∧ (0 ≤ t ∧ t ≤ 1000) ∧ (0 ≤ k ∧ k ≤ 1000) ∧ (0 ≤ b ∧ b ≤ 1000) ∧ tmOk n ∧ exOk (talkX a t k b n)
instance (a t k b n : Int) : Decidable (talkOk a t k b n) := by unfold talkOk; infer_instance
def talkI (a t k b n : Int) : Quad := if talkOk a t k b n then talkX a t k b n else (0, 0, 0, 0)
theorem talk_tw {a t k b n : Int} (h : talkOk a t k b n) : twI (talkX a t k b n) = 2 * a + t - b ∧ wayI (talkX a t k b n) = t + b := by
  unfold twI wayI
  rw [if_pos h.2.2.2.2.2, if_pos h.2.2.2.2.2]
  unfold talkX
  dsimp only
  omega
/- The exchange that tells most. -/
def exsOk (xs : List Quad) : Prop := (1 ≤ xs.length ∧ xs.length ≤ 40) ∧ ∀ x ∈ xs, exOk x
instance (xs : List Quad) : Decidable (exsOk xs) := by unfold exsOk; infer_instance
/-- The best of the first k + 1. -/
def bestX (xs : List Quad) : Nat → Nat
  | 0 => 0
  | k + 1 => if wayI (dq xs (k + 1)) < wayI (dq xs (bestX xs k)) then k + 1 else bestX xs k
def bestI (xs : List Quad) : Int := if exsOk xs then (bestX xs (xs.length - 1) : Int) else -1
theorem best_le (xs : List Quad) : ∀ k, bestX xs k ≤ k
  | 0 => Nat.le_refl _
  | k + 1 => by
    unfold bestX
    split
    · exact Nat.le_refl _
    · have := best_le xs k; omega
theorem best_min (xs : List Quad) : ∀ k i, i ≤ k → wayI (dq xs (bestX xs k)) ≤ wayI (dq xs i) ∧ (i < bestX xs k → wayI (dq xs (bestX xs k)) < wayI (dq xs i))
  | 0, i, h => by
    obtain rfl : i = 0 := by omega
    exact ⟨Int.le_refl _, fun hh => by unfold bestX at hh; omega⟩
  | k + 1, i, h => by
    unfold bestX
    by_cases hl : wayI (dq xs (k + 1)) < wayI (dq xs (bestX xs k))
    · rw [if_pos hl]
      by_cases hi : i = k + 1
      · subst hi; exact ⟨Int.le_refl _, fun hh => by omega⟩
      · have := (best_min xs k i (by omega)).1
        exact ⟨by omega, fun _ => by omega⟩
    · rw [if_neg hl]
      by_cases hi : i = k + 1
      · subst hi
        have := best_le xs k
        exact ⟨by omega, fun hh => by omega⟩
      · exact best_min xs k i (by omega)
theorem best_succ_yes {xs : List Quad} {k : Nat} (h : wayI (dq xs (k + 1)) < wayI (dq xs (bestX xs k))) : bestX xs (k + 1) = k + 1 := by
  conv => lhs; unfold bestX
  rw [if_pos h]
theorem best_succ_no {xs : List Quad} {k : Nat} (h : ¬ wayI (dq xs (k + 1)) < wayI (dq xs (bestX xs k))) : bestX xs (k + 1) = bestX xs k := by
  conv => lhs; unfold bestX
  rw [if_neg h]
/-- No exchange ahead of the best one is equal to it. -/
theorem best_first {xs : List Quad} {k i : Nat} (h : i < bestX xs k) : dq xs i ≠ dq xs (bestX xs k) := by
  intro e
  have h1 := best_le xs k
  have h2 := (best_min xs k i (by omega)).2 h
  rw [e] at h2
  omega

/- Spans. -/
def spOk (s : Duo) : Prop := -4000000 ≤ s.1 ∧ s.1 ≤ s.2 ∧ s.2 ≤ 4000000
instance (s : Duo) : Decidable (spOk s) := by unfold spOk; infer_instance
def hasS (s : Duo) (n : Int) : Prop := spOk s ∧ s.1 ≤ n ∧ n ≤ s.2
instance (s : Duo) (n : Int) : Decidable (hasS s n) := by unfold hasS; infer_instance
def spsOk (L : List Duo) : Prop := (1 ≤ L.length ∧ L.length ≤ 40) ∧ ∀ s ∈ L, spOk s
instance (L : List Duo) : Decidable (spsOk L) := by unfold spsOk; infer_instance
/-- The span of an exchange. -/
def spanX (x : Quad) : Duo := (twI x - wayI x, twI x + wayI x)
def spanI (x : Quad) : Duo := if exOk x then spanX x else (0, 0)
theorem span_ok {x : Quad} (h : exOk x) : spOk (spanX x) ∧ hasS (spanX x) (twI x) := by
  have h2 : 0 ≤ wayI x := by unfold wayI; rw [if_pos h]; have := h.2.2.2.2.2; omega
  have h3 : spOk (spanX x) := by
    unfold spOk spanX twI wayI
    rw [if_pos h, if_pos h]
    unfold exOk tmOk at h
    dsimp only
    omega
  refine ⟨h3, h3, ?_⟩
  unfold spanX
  dsimp only
  omega
theorem span_has {a t k b n : Int} (h : talkOk a t k b n) : hasS (spanX (talkX a t k b n)) (2 * a) := by
  refine ⟨(span_ok h.2.2.2.2.2).1, ?_⟩
  unfold spanX
  rw [(talk_tw h).1, (talk_tw h).2]
  have h1 := h.2.1
  have h2 := h.2.2.2.1
  dsimp only
  omega
/-- How many spans have a number. -/
def cntS (L : List Duo) (n : Int) : Nat := L.countP (fun s => decide (hasS s n))
theorem cnt_le_len (L : List Duo) (n : Int) : cntS L n ≤ L.length := List.countP_le_length
theorem cnt_take {L : List Duo} {k : Nat} (hk : k < L.length) (n : Int) : cntS (L.take (k + 1)) n = cntS (L.take k) n + if hasS (dj L k) n then 1 else 0 := by
  unfold cntS
  rw [List.take_add_one, dj_someT hk, List.countP_append]
  congr 1
  simp [List.countP_cons]
theorem cnt_mono {L : List Duo} {n m : Int} (h : ∀ s ∈ L, hasS s n → hasS s m) : cntS L n ≤ cntS L m := by
  unfold cntS
  refine List.countP_mono_left (fun s hs hh => ?_)
  exact decide_eq_true (h s hs (of_decide_eq_true hh))
theorem cnt_pos {L : List Duo} {n : Int} : 0 < cntS L n ↔ ∃ s ∈ L, hasS s n := by
  unfold cntS
  rw [List.countP_pos_iff]
  exact ⟨fun ⟨s, h1, h2⟩ => ⟨s, h1, of_decide_eq_true h2⟩, fun ⟨s, h1, h2⟩ => ⟨s, h1, decide_eq_true h2⟩⟩
theorem cnt_lt {L : List Duo} {n m : Int} (h : ∀ s ∈ L, hasS s n → hasS s m) (s0 : Duo) (h0 : s0 ∈ L) (h1 : hasS s0 m) (h2 : ¬ hasS s0 n) : cntS L n < cntS L m := by
  induction L with
  | nil => cases h0
  | cons x r ih =>
    unfold cntS at *
    rw [List.countP_cons, List.countP_cons]
    have hr := cnt_mono (L := r) (n := n) (m := m) (fun s hs => h s (List.mem_cons_of_mem _ hs))
    unfold cntS at hr
    have hx : hasS x n → hasS x m := h x (List.mem_cons_self)
    by_cases e : s0 = x
    · subst e
      rw [if_neg (by simpa using h2), if_pos (by simpa using h1)]
      omega
    · have h3 : s0 ∈ r := by rcases List.mem_cons.1 h0 with h4 | h4
                             · exact absurd h4 e
                             · exact h4
      have h4 := ih (fun s hs => h s (List.mem_cons_of_mem _ hs)) h3
      by_cases hxn : hasS x n
      · rw [if_pos (by simpa using hxn), if_pos (by simpa using hx hxn)]; omega
      · rw [if_neg (by simpa using hxn)]
        split <;> omega
/-- Each number is had by no more spans than one at which a span begins, not above it. -/
theorem cnt_low {L : List Duo} {n : Int} (h : 0 < cntS L n) : ∃ s ∈ L, s.1 ≤ n ∧ cntS L n ≤ cntS L s.1 := by
  have key : ∀ (K : List Duo), (∃ s ∈ K, hasS s n) → ∃ s ∈ K, hasS s n ∧ ∀ t ∈ K, hasS t n → t.1 ≤ s.1 := by
    intro K
    induction K with
    | nil => rintro ⟨s, h, _⟩; cases h
    | cons x r ih =>
      rintro ⟨s, hs, hn⟩
      by_cases hr : ∃ s ∈ r, hasS s n
      · obtain ⟨s1, m1, n1, a1⟩ := ih hr
        by_cases hx : hasS x n ∧ s1.1 < x.1
        · exact ⟨x, List.mem_cons_self, hx.1, fun t ht htn => by
            rcases List.mem_cons.1 ht with rfl | h4
            · exact Int.le_refl _
            · have := a1 t h4 htn; omega⟩
        · exact ⟨s1, List.mem_cons_of_mem _ m1, n1, fun t ht htn => by
            rcases List.mem_cons.1 ht with rfl | h4
            · by_cases h5 : s1.1 < t.1
              · exact absurd ⟨htn, h5⟩ hx
              · omega
            · exact a1 t h4 htn⟩
      · have hsx : s = x := by
          rcases List.mem_cons.1 hs with h4 | h4
          · exact h4
          · exact absurd ⟨s, h4, hn⟩ hr
        subst hsx
        exact ⟨s, List.mem_cons_self, hn, fun t ht htn => by
          rcases List.mem_cons.1 ht with rfl | h4
          · exact Int.le_refl _
          · exact absurd ⟨t, h4, htn⟩ hr⟩
  obtain ⟨s, hs, hn, ha⟩ := key L (cnt_pos.1 h)
  refine ⟨s, hs, hn.2.1, cnt_mono (fun t ht htn => ⟨htn.1, ha t ht htn, ?_⟩)⟩
  have h1 := hn.2.1
  have h2 := htn.2.2
  omega
/-- What is told of spans: the numbers from lo to hi, had by M. -/
def Meet (L : List Duo) (lo hi : Int) (M : Nat) : Prop :=
  (∀ n, cntS L n ≤ M) ∧ (∀ n, n < lo → cntS L n < M) ∧ lo ≤ hi ∧ (∀ n, lo ≤ n → n ≤ hi → cntS L n = M) ∧ cntS L (hi + 1) ≠ M
theorem Meet.uniq {L : List Duo} {a b a' b' : Int} {M M' : Nat} (h : Meet L a b M) (h' : Meet L a' b' M') : a = a' ∧ b = b' ∧ M = M' := by
  obtain ⟨h1, h2, h3, h4, h5⟩ := h
  obtain ⟨g1, g2, g3, g4, g5⟩ := h'
  have e1 := h4 a (Int.le_refl _) h3
  have e2 := g4 a' (Int.le_refl _) g3
  have f1 := h1 a'
  have f2 := g1 a
  have hM : M = M' := by omega
  subst hM
  have ha : a = a' := by
    rcases Int.lt_trichotomy a a' with hl | he | hg
    · have := g2 a hl; omega
    · exact he
    · have := h2 a' hg; omega
  subst ha
  refine ⟨rfl, ?_, rfl⟩
  rcases Int.lt_trichotomy b b' with hl | he | hg
  · exact absurd (g4 (b + 1) (by omega) (by omega)) h5
  · exact he
  · exact absurd (h4 (b' + 1) (by omega) (by omega)) g5
/-- What MeetSpans tells. -/
def MeetR (L : List Duo) (lo hi m : Int) : Prop := (spsOk L ∧ ∃ M : Nat, m = (M : Int) ∧ 1 ≤ M ∧ M ≤ 40 ∧ Meet L lo hi M ∧ spOk (lo, hi)) ∨ (¬ spsOk L ∧ lo = 0 ∧ hi = 0 ∧ m = 0)
theorem MeetR.uniq {L : List Duo} {a b m a' b' m' : Int} (h : MeetR L a b m) (h' : MeetR L a' b' m') : a = a' ∧ b = b' ∧ m = m' := by
  rcases h with ⟨k, M, rfl, _, _, hM, _⟩ | ⟨k, rfl, rfl, rfl⟩
  · rcases h' with ⟨_, M', rfl, _, _, hM', _⟩ | ⟨k', _⟩
    · obtain ⟨h1, h2, h3⟩ := hM.uniq hM'
      exact ⟨h1, h2, by rw [h3]⟩
    · exact absurd k k'
  · rcases h' with ⟨k', _⟩ | ⟨_, rfl, rfl, rfl⟩
    · exact absurd k' k
    · exact ⟨rfl, rfl, rfl⟩
/-- The least number is had by M, and not more: of a valid list. -/
theorem meet_ok {L : List Duo} (h : spsOk L) {lo hi : Int} {M : Nat} (hm : Meet L lo hi M) : 1 ≤ M ∧ M ≤ 40 ∧ spOk (lo, hi) := by
  obtain ⟨h1, h2, h3, h4, h5⟩ := hm
  have hp : 1 ≤ M := by
    have hl : 0 < L.length := h.1.1
    have hs := dj_memT hl
    have : 0 < cntS L (dj L 0).1 := cnt_pos.2 ⟨_, hs, h.2 _ hs, Int.le_refl _, (h.2 _ hs).2.1⟩
    have := h1 (dj L 0).1
    omega
  refine ⟨hp, ?_, ?_, h3, ?_⟩
  · have := cnt_le_len L lo
    rw [h4 lo (Int.le_refl _) h3] at this
    have := h.1.2
    omega
  · obtain ⟨s, hs, hn⟩ := cnt_pos.1 (show 0 < cntS L lo by rw [h4 lo (Int.le_refl _) h3]; omega)
    have h6 := hn.1.1
    have h7 := hn.2.1
    dsimp only
    omega
  · obtain ⟨s, hs, hn⟩ := cnt_pos.1 (show 0 < cntS L hi by rw [h4 hi h3 (Int.le_refl _)]; omega)
    have h6 := hn.1.2.2
    have h7 := hn.2.2
    dsimp only
    omega

/- As the model finds them. -/
/-- The first loop, k spans on: the most, and the least beginning that has so many. -/
def LowTo (L : List Duo) (k : Nat) (b : Nat) (lo : Int) : Prop :=
  (k = 0 ∧ b = 0 ∧ lo = 0) ∨ (0 < k ∧ 0 < b ∧ (∃ i, i < k ∧ lo = (dj L i).1 ∧ cntS L lo = b) ∧ ∀ i, i < k → cntS L (dj L i).1 ≤ b ∧ (cntS L (dj L i).1 = b → lo ≤ (dj L i).1))
theorem low_step {L : List Duo} {k b : Nat} {lo : Int} (h : LowTo L k b lo) {c : Nat} (hc : cntS L (dj L k).1 = c) (hp : 0 < c) :
    ((b < c ∨ (c = b ∧ (dj L k).1 < lo)) → LowTo L (k + 1) c (dj L k).1) ∧ (¬ (b < c ∨ (c = b ∧ (dj L k).1 < lo)) → LowTo L (k + 1) b lo) := by
  rcases h with ⟨rfl, rfl, rfl⟩ | ⟨h0, h1, h2, h3⟩
  · constructor
    · intro _
      refine Or.inr ⟨by omega, hp, ⟨0, by omega, rfl, hc⟩, fun i hi => ?_⟩
      obtain rfl : i = 0 := by omega
      exact ⟨by omega, fun _ => Int.le_refl _⟩
    · intro hh; exact absurd (Or.inl hp) hh
  · constructor
    · intro hh
      refine Or.inr ⟨by omega, hp, ⟨k, by omega, rfl, hc⟩, fun i hi => ?_⟩
      by_cases e : i = k
      · subst e; exact ⟨by omega, fun _ => Int.le_refl _⟩
      · obtain ⟨g1, g2⟩ := h3 i (by omega)
        refine ⟨by omega, fun he => ?_⟩
        rcases hh with hh | ⟨h4, h5⟩
        · omega
        · have := g2 (by omega); omega
    · intro hh
      have h4 : ¬ b < c := fun x => hh (Or.inl x)
      obtain ⟨j, hj, e1, e2⟩ := h2
      refine Or.inr ⟨by omega, h1, ⟨j, by omega, e1, e2⟩, fun i hi => ?_⟩
      by_cases e : i = k
      · subst e
        refine ⟨by omega, fun he => ?_⟩
        by_cases h6 : (dj L i).1 < lo
        · exact absurd (Or.inr ⟨by omega, h6⟩) hh
        · omega
      · exact h3 i (by omega)
theorem low_all {L : List Duo} (hL : 0 < L.length) {b : Nat} {lo : Int} (h : LowTo L L.length b lo) : 0 < b ∧ cntS L lo = b ∧ (∀ n, cntS L n ≤ b) ∧ ∀ n, n < lo → cntS L n < b := by
  rcases h with ⟨h, _⟩ | ⟨_, h1, ⟨i, _, e1, e2⟩, h3⟩
  · omega
  refine ⟨h1, e2, fun n => ?_, fun n hn => ?_⟩
  · by_cases h0 : 0 < cntS L n
    · obtain ⟨s, hs, _, hc⟩ := cnt_low h0
      obtain ⟨j, hj⟩ := List.getElem?_of_mem hs
      obtain ⟨hjl, _⟩ := List.getElem?_eq_some_iff.1 hj
      have := (h3 j hjl).1
      rw [dj_atT hj] at this
      omega
    · omega
  · by_cases h0 : 0 < cntS L n
    · obtain ⟨s, hs, hsn, hc⟩ := cnt_low h0
      obtain ⟨j, hj⟩ := List.getElem?_of_mem hs
      obtain ⟨hjl, _⟩ := List.getElem?_eq_some_iff.1 hj
      obtain ⟨g1, g2⟩ := h3 j hjl
      rw [dj_atT hj] at g1 g2
      by_cases he : cntS L s.1 = b
      · have := g2 he; omega
      · omega
    · omega
/-- The least end, below top, of the first k spans that have a number. -/
def endTo (L : List Duo) (p top : Int) : Nat → Int
  | 0 => top
  | k + 1 => if hasS (dj L k) p then min (endTo L p top k) (dj L k).2 else endTo L p top k
theorem end_le {L : List Duo} {p top : Int} : ∀ k, endTo L p top k ≤ top ∧ ∀ i, i < k → hasS (dj L i) p → endTo L p top k ≤ (dj L i).2
  | 0 => ⟨Int.le_refl _, fun i hi => by omega⟩
  | k + 1 => by
    obtain ⟨h1, h2⟩ := end_le (L := L) (p := p) (top := top) k
    unfold endTo
    split
    · rename_i hh
      refine ⟨by omega, fun i hi hp => ?_⟩
      by_cases e : i = k
      · subst e; omega
      · have := h2 i (by omega) hp; omega
    · rename_i hh
      refine ⟨h1, fun i hi hp => ?_⟩
      by_cases e : i = k
      · subst e; exact absurd hp hh
      · exact h2 i (by omega) hp
theorem end_is {L : List Duo} {p top : Int} : ∀ k, endTo L p top k = top ∨ ∃ i, i < k ∧ hasS (dj L i) p ∧ endTo L p top k = (dj L i).2
  | 0 => Or.inl rfl
  | k + 1 => by
    have ih := end_is (L := L) (p := p) (top := top) k
    unfold endTo
    split
    · rename_i hh
      rcases ih with ih | ⟨i, hi, hp, he⟩
      · rw [ih]
        rcases Int.le_total top (dj L k).2 with h3 | h3
        · exact Or.inl (by omega)
        · exact Or.inr ⟨k, by omega, hh, by omega⟩
      · rw [he]
        rcases Int.le_total (dj L i).2 (dj L k).2 with h3 | h3
        · exact Or.inr ⟨i, by omega, hp, by omega⟩
        · exact Or.inr ⟨k, by omega, hh, by omega⟩
    · rcases ih with ih | ⟨i, hi, hp, he⟩
      · exact Or.inl ih
      · exact Or.inr ⟨i, by omega, hp, he⟩
theorem end_low {L : List Duo} {p top : Int} (ht : -4000000 ≤ top) : ∀ k, -4000000 ≤ endTo L p top k := by
  intro k
  rcases end_is (L := L) (p := p) (top := top) k with h | ⟨i, _, h, e⟩
  · omega
  · have h1 := h.1.1
    have h2 := h.1.2.1
    omega
/-- The stretch so far: as many have each of its numbers, and a span ends at its end. -/
def HiTo (L : List Duo) (b : Nat) (lo hi : Int) : Prop := lo ≤ hi ∧ hi ≤ 4000000 ∧ (∀ n, lo ≤ n → n ≤ hi → cntS L n = b) ∧ ∃ s ∈ L, spOk s ∧ s.2 = hi
theorem hi_any {L : List Duo} {b : Nat} (h1 : ∀ n, cntS L n ≤ b) (h0 : 0 < b) {p top : Int} (hp : cntS L p = b) (ht : 4000000 ≤ top) {e : Int} (he : endTo L p top L.length = e) : HiTo L b p e := by
  subst he
  obtain ⟨g1, g2⟩ := end_le (L := L) (p := p) (top := top) L.length
  obtain ⟨s, hs, hn⟩ := cnt_pos.1 (show 0 < cntS L p by omega)
  obtain ⟨j, hj⟩ := List.getElem?_of_mem hs
  obtain ⟨hjl, _⟩ := List.getElem?_eq_some_iff.1 hj
  have g3 := g2 j hjl (by rw [dj_atT hj]; exact hn)
  rw [dj_atT hj] at g3
  have g4 := hn.1.2.2
  have lower : p ≤ endTo L p top L.length ∧ ∃ s ∈ L, spOk s ∧ s.2 = endTo L p top L.length := by
    rcases end_is (L := L) (p := p) (top := top) L.length with h | ⟨i, hi, h, e⟩
    · have g5 := hn.2.2
      exact ⟨by omega, s, hs, hn.1, by omega⟩
    · have g5 := h.2.2
      exact ⟨by omega, dj L i, dj_memT hi, h.1, e.symm⟩
  refine ⟨lower.1, by omega, fun n n1 n2 => ?_, lower.2⟩
  have h3 : cntS L p ≤ cntS L n := cnt_mono (fun t ht htp => by
    obtain ⟨i, hi⟩ := List.getElem?_of_mem ht
    obtain ⟨hil, _⟩ := List.getElem?_eq_some_iff.1 hi
    have g6 := g2 i hil (by rw [dj_atT hi]; exact htp)
    rw [dj_atT hi] at g6
    have g7 := htp.2.1
    exact ⟨htp.1, by omega, by omega⟩)
  have := h1 n
  omega
theorem hi_join {L : List Duo} {b : Nat} {lo hi e : Int} (h : HiTo L b lo hi) (h' : HiTo L b (hi + 1) e) : HiTo L b lo e ∧ hi < e := by
  obtain ⟨a1, a2, a3, a4⟩ := h
  obtain ⟨b1, b2, b3, b4⟩ := h'
  exact ⟨⟨by omega, b2, fun n n1 n2 => by
    by_cases hn : n ≤ hi
    · exact a3 n n1 hn
    · exact b3 n (by omega) n2, b4⟩, by omega⟩
theorem hi_done {L : List Duo} {b : Nat} {lo hi : Int} (h1 : ∀ n, cntS L n ≤ b) (h2 : ∀ n, n < lo → cntS L n < b) (h : HiTo L b lo hi) (hx : ∀ i, i < L.length → (dj L i).1 = hi + 1 → cntS L (dj L i).1 ≠ b) : Meet L lo hi b := by
  obtain ⟨a1, a2, a3, s, hs, hso, hse⟩ := h
  refine ⟨h1, h2, a1, a3, fun he => ?_⟩
  by_cases hb : ∃ i, i < L.length ∧ (dj L i).1 = hi + 1
  · obtain ⟨i, hi', e⟩ := hb
    exact hx i hi' e (by rw [e]; exact he)
  · have h5 : cntS L (hi + 1) < cntS L hi := by
      refine cnt_lt (fun t ht htn => ⟨htn.1, ?_, ?_⟩) s hs ⟨hso, ?_, ?_⟩ ?_
      · obtain ⟨i, hi'⟩ := List.getElem?_of_mem ht
        obtain ⟨hil, _⟩ := List.getElem?_eq_some_iff.1 hi'
        have h6 := htn.2.1
        by_cases h7 : t.1 = hi + 1
        · exact absurd ⟨i, hil, by rw [dj_atT hi']; exact h7⟩ hb
        · omega
      · have := htn.2.2; omega
      · have := hso.2.1; omega
      · omega
      · intro hh; have := hh.2.2; omega
    have h6 := a3 hi a1 (Int.le_refl _)
    omega

/- As the program finds them. -/
/-- The sum of what begins and ends up to a number. -/
def cumE (E : List Duo) (n : Int) : Int := ((E.filter (fun e => decide (e.1 ≤ n))).map (·.2)).sum
theorem cumE_nil (n : Int) : cumE [] n = 0 := rfl
theorem cumE_cons (e : Duo) (E : List Duo) (n : Int) : cumE (e :: E) n = (if e.1 ≤ n then e.2 else 0) + cumE E n := by
  unfold cumE
  rw [List.filter_cons]
  by_cases h : e.1 ≤ n <;> simp [h]
theorem cumE_app (E F : List Duo) (n : Int) : cumE (E ++ F) n = cumE E n + cumE F n := by
  induction E with
  | nil => rw [List.nil_append, cumE_nil]; omega
  | cons e r ih => rw [List.cons_append, cumE_cons, cumE_cons, ih]; omega
theorem cumE_perm {E F : List Duo} (h : E.Perm F) (n : Int) : cumE E n = cumE F n := by
  induction h with
  | nil => rfl
  | cons x _ ih => rw [cumE_cons, cumE_cons, ih]
  | swap x y l => rw [cumE_cons, cumE_cons, cumE_cons, cumE_cons]; omega
  | trans _ _ h1 h2 => rw [h1, h2]
/-- Where spans begin, and where numbers are behind them. -/
def evsOf : List Duo → List Duo
  | [] => []
  | s :: r => (s.1, 1) :: (s.2 + 1, -1) :: evsOf r
theorem evs_app (L K : List Duo) : evsOf (L ++ K) = evsOf L ++ evsOf K := by
  induction L with
  | nil => rfl
  | cons s r ih => simp [evsOf, ih]
theorem evs_len (L : List Duo) : (evsOf L).length = 2 * L.length := by
  induction L with
  | nil => rfl
  | cons s r ih => simp only [evsOf, List.length_cons, ih]; omega
theorem evs_take {L : List Duo} {k : Nat} (hk : k < L.length) : evsOf (L.take (k + 1)) = evsOf (L.take k) ++ [((dj L k).1, 1), ((dj L k).2 + 1, -1)] := by
  rw [List.take_add_one, dj_someT hk, evs_app]
  rfl
theorem evs_mem {L : List Duo} (h : ∀ s ∈ L, spOk s) : ∀ e ∈ evsOf L, (-4000000 ≤ e.1 ∧ e.1 ≤ 4000001) ∧ (e.2 = 1 ∨ e.2 = -1) := by
  induction L with
  | nil => intro e he; cases he
  | cons s r ih =>
    intro e he
    have hs := h s List.mem_cons_self
    unfold spOk at hs
    simp only [evsOf, List.mem_cons] at he
    rcases he with rfl | rfl | he
    · exact ⟨by dsimp only; omega, Or.inl rfl⟩
    · exact ⟨by dsimp only; omega, Or.inr rfl⟩
    · exact ih (fun s hs => h s (List.mem_cons_of_mem _ hs)) e he
theorem cum_cnt {L : List Duo} (h : ∀ s ∈ L, spOk s) (n : Int) : cumE (evsOf L) n = (cntS L n : Int) := by
  induction L with
  | nil => rfl
  | cons s r ih =>
    have hs := h s List.mem_cons_self
    have hr := ih (fun s hs => h s (List.mem_cons_of_mem _ hs))
    have hso := hs
    unfold spOk at hs
    unfold cntS at hr ⊢
    rw [evsOf, cumE_cons, cumE_cons, hr, List.countP_cons]
    by_cases h1 : s.1 ≤ n
    · by_cases h2 : n ≤ s.2
      · rw [if_pos h1, if_neg (by dsimp only; omega), if_pos (decide_eq_true (show hasS s n from ⟨hso, h1, h2⟩))]; omega
      · rw [if_pos h1, if_pos (by dsimp only; omega), if_neg (by simp only [decide_eq_true_eq]; intro hh; exact h2 hh.2.2)]; omega
    · rw [if_neg h1, if_neg (by dsimp only; omega), if_neg (by simp only [decide_eq_true_eq]; intro hh; exact h1 hh.2.1)]; omega
/-- All that is summed. -/
def totE (E : List Duo) : Int := (E.map (·.2)).sum
theorem tot_app (E : List Duo) (e : Duo) : totE (E ++ [e]) = totE E + e.2 := by unfold totE; simp
theorem cum_tot {E : List Duo} {n : Int} (h : ∀ e ∈ E, e.1 ≤ n) : cumE E n = totE E := by
  unfold cumE totE
  rw [List.filter_eq_self.2 (fun e he => decide_eq_true (h e he))]
theorem tot_bound {E : List Duo} (h : ∀ e ∈ E, e.2 = 1 ∨ e.2 = -1) : -(E.length : Int) ≤ totE E ∧ totE E ≤ (E.length : Int) := by
  induction E with
  | nil => exact ⟨by decide, by decide⟩
  | cons e r ih =>
    have h1 := ih (fun e he => h e (List.mem_cons_of_mem _ he))
    have h2 := h e List.mem_cons_self
    unfold totE at h1 ⊢
    simp only [List.map_cons, List.sum_cons, List.length_cons]
    omega
def ascS (C : List Duo) : Prop := C.Pairwise (fun a b => a.1 < b.1)
/-- What the stretches are, as far as the beginnings and ends of E are summed. -/
def StTo (E C : List Duo) : Prop := ascS C ∧ (∀ f ∈ C, f.2 = cumE E f.1) ∧ (∀ e ∈ E, ∃ f ∈ C, f.1 = e.1) ∧ (∀ f ∈ C, ∃ e ∈ E, f.1 = e.1)
theorem st_nil : StTo [] [] := ⟨List.Pairwise.nil, fun _ h => (by cases h), fun _ h => (by cases h), fun _ h => (by cases h)⟩
theorem st_new {E C : List Duo} {e : Duo} (h : StTo E C) (hle : ∀ x ∈ E, x.1 ≤ e.1) (hno : ∀ f ∈ C, f.1 ≠ e.1) : StTo (E ++ [e]) (C ++ [(e.1, totE (E ++ [e]))]) := by
  obtain ⟨h1, h2, h3, h4⟩ := h
  have hlt : ∀ f ∈ C, f.1 < e.1 := fun f hf => by
    obtain ⟨x, hx, ex⟩ := h4 f hf
    have := hle x hx
    have := hno f hf
    omega
  refine ⟨?_, ?_, ?_, ?_⟩
  · unfold ascS
    rw [List.pairwise_append]
    refine ⟨h1, List.pairwise_singleton _ _, fun a ha b hb => ?_⟩
    rw [List.mem_singleton.1 hb]
    exact hlt a ha
  · intro f hf
    rcases List.mem_append.1 hf with hf | hf
    · rw [cumE_app, cumE_cons, cumE_nil, if_neg (by have := hlt f hf; omega), h2 f hf]; omega
    · rw [List.mem_singleton.1 hf]
      dsimp only
      rw [cum_tot]
      intro x hx
      rcases List.mem_append.1 hx with hx | hx
      · exact hle x hx
      · rw [List.mem_singleton.1 hx]; exact Int.le_refl _
  · intro x hx
    rcases List.mem_append.1 hx with hx | hx
    · obtain ⟨f, hf, e1⟩ := h3 x hx
      exact ⟨f, List.mem_append_left _ hf, e1⟩
    · rw [List.mem_singleton.1 hx]
      exact ⟨_, List.mem_append_right _ (List.mem_singleton_self _), rfl⟩
  · intro f hf
    rcases List.mem_append.1 hf with hf | hf
    · obtain ⟨x, hx, e1⟩ := h4 f hf
      exact ⟨x, List.mem_append_left _ hx, e1⟩
    · rw [List.mem_singleton.1 hf]
      exact ⟨e, List.mem_append_right _ (List.mem_singleton_self _), rfl⟩
theorem st_same {E D : List Duo} {e : Duo} {v : Int} (h : StTo E (D ++ [(e.1, v)])) (hle : ∀ x ∈ E, x.1 ≤ e.1) : StTo (E ++ [e]) (D ++ [(e.1, totE (E ++ [e]))]) := by
  obtain ⟨h1, h2, h3, h4⟩ := h
  unfold ascS at h1
  rw [List.pairwise_append] at h1
  obtain ⟨p1, p2, p3⟩ := h1
  have hlt : ∀ f ∈ D, f.1 < e.1 := fun f hf => p3 f hf (e.1, v) (List.mem_singleton_self _)
  refine ⟨?_, ?_, ?_, ?_⟩
  · unfold ascS
    rw [List.pairwise_append]
    refine ⟨p1, List.pairwise_singleton _ _, fun a ha b hb => ?_⟩
    rw [List.mem_singleton.1 hb]
    exact hlt a ha
  · intro f hf
    rcases List.mem_append.1 hf with hf | hf
    · rw [cumE_app, cumE_cons, cumE_nil, if_neg (by have := hlt f hf; omega), h2 f (List.mem_append_left _ hf)]; omega
    · rw [List.mem_singleton.1 hf]
      dsimp only
      rw [cum_tot]
      intro x hx
      rcases List.mem_append.1 hx with hx | hx
      · exact hle x hx
      · rw [List.mem_singleton.1 hx]; exact Int.le_refl _
  · intro x hx
    rcases List.mem_append.1 hx with hx | hx
    · obtain ⟨f, hf, e1⟩ := h3 x hx
      rcases List.mem_append.1 hf with hf | hf
      · exact ⟨f, List.mem_append_left _ hf, e1⟩
      · rw [List.mem_singleton.1 hf] at e1
        exact ⟨_, List.mem_append_right _ (List.mem_singleton_self _), e1⟩
    · rw [List.mem_singleton.1 hx]
      exact ⟨_, List.mem_append_right _ (List.mem_singleton_self _), rfl⟩
  · intro f hf
    rcases List.mem_append.1 hf with hf | hf
    · obtain ⟨x, hx, e1⟩ := h4 f (List.mem_append_left _ hf)
      exact ⟨x, List.mem_append_left _ hx, e1⟩
    · rw [List.mem_singleton.1 hf]
      exact ⟨e, List.mem_append_right _ (List.mem_singleton_self _), rfl⟩
/-- The value of the last row at or ahead of n; v if there is none. -/
def evS (v : Int) : List Duo → Int → Int
  | [], _ => v
  | x :: r, n => if n < x.1 then v else evS x.2 r n
theorem ev_ahead {C : List Duo} {v n : Int} (h : ∀ x ∈ C, n < x.1) : evS v C n = v := by
  cases C with
  | nil => rfl
  | cons x r => rw [evS, if_pos (h x List.mem_cons_self)]
/-- What stands is the sum at each number. -/
theorem st_ev {E C : List Duo} (h : StTo E C) (n : Int) : evS 0 C n = cumE E n := by
  obtain ⟨h1, h2, h3, h4⟩ := h
  -- only the greatest row at or ahead of n counts
  have key : ∀ (D : List Duo) (v : Int), ascS D → (∀ f ∈ D, f.2 = cumE E f.1) → (∀ e ∈ E, e.1 ≤ n → (∃ f ∈ D, f.1 = e.1) ∨ (∀ f ∈ D, e.1 < f.1)) → ((∀ f ∈ D, n < f.1) → v = cumE E n) → evS v D n = cumE E n := by
    intro D
    induction D with
    | nil => intro v _ _ _ hv; exact hv (fun _ h => by cases h)
    | cons x r ih =>
      intro v ha hf he hv
      unfold ascS at ha
      rw [List.pairwise_cons] at ha
      rw [evS]
      by_cases hn : n < x.1
      · rw [if_pos hn]
        exact hv (fun f hf' => by
          rcases List.mem_cons.1 hf' with rfl | h5
          · exact hn
          · have := ha.1 f h5; omega)
      · rw [if_neg hn]
        refine ih x.2 ha.2 (fun f hf' => hf f (List.mem_cons_of_mem _ hf')) (fun e hee hen => ?_) (fun hall => ?_)
        · rcases he e hee hen with ⟨f, hf', e1⟩ | h6
          · rcases List.mem_cons.1 hf' with rfl | h5
            · exact Or.inr (fun g hg => by have := ha.1 g hg; omega)
            · exact Or.inl ⟨f, h5, e1⟩
          · exact Or.inr (fun g hg => h6 g (List.mem_cons_of_mem _ hg))
        · rw [hf x List.mem_cons_self]
          unfold cumE
          congr 2
          refine List.filter_congr (fun e hee => ?_)
          rw [decide_eq_decide]
          constructor
          · intro h7; omega
          · intro h7
            rcases he e hee h7 with ⟨f, hf', e1⟩ | h6
            · rcases List.mem_cons.1 hf' with rfl | h5
              · omega
              · have := hall f h5; omega
            · have := h6 x List.mem_cons_self; omega
  refine key C 0 h1 h2 (fun e he _ => Or.inl (h3 e he)) (fun hall => ?_)
  unfold cumE
  rw [List.filter_eq_nil_iff.2 (fun e he => ?_)]
  · rfl
  · obtain ⟨f, hf, e1⟩ := h3 e he
    have := hall f hf
    simp only [decide_eq_true_eq]
    omega
/-- Rows that differ in value from the row ahead of them. -/
def compF (p : Int) : List Duo → List Duo
  | [] => []
  | x :: r => if x.2 = p then compF p r else x :: compF x.2 r
def compS : List Duo → List Duo
  | [] => []
  | x :: r => x :: compF x.2 r
theorem compF_sub (p : Int) (C : List Duo) : ∀ x ∈ compF p C, x ∈ C := by
  induction C generalizing p with
  | nil => intro x h; cases h
  | cons y r ih =>
    intro x h
    unfold compF at h
    split at h
    · exact List.mem_cons_of_mem _ (ih p x h)
    · rcases List.mem_cons.1 h with rfl | h
      · exact List.mem_cons_self
      · exact List.mem_cons_of_mem _ (ih _ x h)
theorem compF_asc (p : Int) {C : List Duo} (h : ascS C) : ascS (compF p C) := by
  induction C generalizing p with
  | nil => exact List.Pairwise.nil
  | cons y r ih =>
    unfold ascS at h
    rw [List.pairwise_cons] at h
    unfold compF
    split
    · exact ih p h.2
    · unfold ascS
      rw [List.pairwise_cons]
      exact ⟨fun x hx => h.1 x (compF_sub _ _ x hx), ih _ h.2⟩
theorem compF_ev (p : Int) {C : List Duo} (h : ascS C) (n : Int) : evS p (compF p C) n = evS p C n := by
  induction C generalizing p with
  | nil => rfl
  | cons y r ih =>
    have h0 := h
    unfold ascS at h
    rw [List.pairwise_cons] at h
    unfold compF
    split
    · rename_i e
      rw [evS]
      by_cases hn : n < y.1
      · rw [if_pos hn]
        exact ev_ahead (fun x hx => by have := h.1 x (compF_sub _ _ x hx); omega)
      · rw [if_neg hn, ih p h.2, e]
    · rw [evS, evS]
      by_cases hn : n < y.1
      · rw [if_pos hn, if_pos hn]
      · rw [if_neg hn, if_neg hn, ih y.2 h.2]
/-- Two rows beside each other differ in value. -/
def difS : List Duo → Prop
  | [] => True
  | [_] => True
  | x :: y :: r => x.2 ≠ y.2 ∧ difS (y :: r)
theorem compF_dif (p : Int) (C : List Duo) (y : Duo) (hy : y.2 = p) : difS (y :: compF p C) := by
  induction C generalizing p y with
  | nil => exact trivial
  | cons x r ih =>
    unfold compF
    split
    · exact ih p y hy
    · rename_i h
      refine ⟨fun e => h (e.symm.trans hy), ih x.2 x rfl⟩
theorem dif_at {C : List Duo} (h : difS C) {i : Nat} (hi : i + 1 < C.length) : (dj C i).2 ≠ (dj C (i + 1)).2 := by
  induction C generalizing i with
  | nil => simp at hi
  | cons x r ih =>
    cases r with
    | nil => simp at hi
    | cons y r =>
      cases i with
      | zero => exact h.1
      | succ i => exact ih h.2 (i := i) (by simpa using hi)
theorem compS_ok {C : List Duo} (h : ascS C) : ascS (compS C) ∧ (∀ n, evS 0 (compS C) n = evS 0 C n) ∧ difS (compS C) ∧ (∀ x ∈ compS C, x ∈ C) := by
  cases C with
  | nil => exact ⟨List.Pairwise.nil, fun _ => rfl, trivial, fun _ h => h⟩
  | cons x r =>
    have h0 := h
    unfold ascS at h
    rw [List.pairwise_cons] at h
    refine ⟨?_, fun n => ?_, compF_dif x.2 r x rfl, fun y hy => ?_⟩
    · unfold ascS compS
      rw [List.pairwise_cons]
      exact ⟨fun y hy => h.1 y (compF_sub _ _ y hy), compF_asc _ h.2⟩
    · rw [compS, evS, evS]
      by_cases hn : n < x.1
      · rw [if_pos hn, if_pos hn]
      · rw [if_neg hn, if_neg hn, compF_ev x.2 h.2]
    · rw [compS] at hy
      rcases List.mem_cons.1 hy with rfl | hy
      · exact List.mem_cons_self
      · exact List.mem_cons_of_mem _ (compF_sub _ _ y hy)
/-- The first of the greatest among the first k + 1. -/
def mostX (C : List Duo) : Nat → Nat
  | 0 => 0
  | k + 1 => if (dj C (mostX C k)).2 < (dj C (k + 1)).2 then k + 1 else mostX C k
theorem most_le (C : List Duo) : ∀ k, mostX C k ≤ k
  | 0 => Nat.le_refl _
  | k + 1 => by
    unfold mostX
    split
    · exact Nat.le_refl _
    · have := most_le C k; omega
theorem most_max (C : List Duo) : ∀ k i, i ≤ k → (dj C i).2 ≤ (dj C (mostX C k)).2 ∧ (i < mostX C k → (dj C i).2 < (dj C (mostX C k)).2)
  | 0, i, h => by
    obtain rfl : i = 0 := by omega
    exact ⟨Int.le_refl _, fun hh => by unfold mostX at hh; omega⟩
  | k + 1, i, h => by
    unfold mostX
    by_cases hl : (dj C (mostX C k)).2 < (dj C (k + 1)).2
    · rw [if_pos hl]
      by_cases hi : i = k + 1
      · subst hi; exact ⟨Int.le_refl _, fun hh => by omega⟩
      · have := (most_max C k i (by omega)).1
        exact ⟨by omega, fun _ => by omega⟩
    · rw [if_neg hl]
      by_cases hi : i = k + 1
      · subst hi
        have := most_le C k
        exact ⟨by omega, fun hh => by omega⟩
      · exact most_max C k i (by omega)
theorem most_succ_yes {C : List Duo} {k : Nat} (h : (dj C (mostX C k)).2 < (dj C (k + 1)).2) : mostX C (k + 1) = k + 1 := by
  conv => lhs; unfold mostX
  rw [if_pos h]
theorem most_succ_no {C : List Duo} {k : Nat} (h : ¬ (dj C (mostX C k)).2 < (dj C (k + 1)).2) : mostX C (k + 1) = mostX C k := by
  conv => lhs; unfold mostX
  rw [if_neg h]
theorem most_first {C : List Duo} {k i : Nat} (h : i < mostX C k) : dj C i ≠ dj C (mostX C k) := by
  intro e
  have h1 := most_le C k
  have h2 := (most_max C k i (by omega)).2 h
  rw [e] at h2
  omega
theorem asc_at {C : List Duo} (h : ascS C) {i j : Nat} (hij : i < j) (hj : j < C.length) : (dj C i).1 < (dj C j).1 := by
  have h1 := dj_someT hj
  have h2 := dj_someT (js := C) (i := i) (by omega)
  obtain ⟨_, e1⟩ := List.getElem?_eq_some_iff.1 h1
  obtain ⟨_, e2⟩ := List.getElem?_eq_some_iff.1 h2
  rw [← e1, ← e2]
  exact List.pairwise_iff_getElem.1 h i j _ _ hij
theorem ev_at {C : List Duo} {v n : Int} (h : ascS C) : (evS v C n = v ∧ ∀ i, i < C.length → n < (dj C i).1) ∨ ∃ i, i < C.length ∧ (dj C i).1 ≤ n ∧ (∀ j, i < j → j < C.length → n < (dj C j).1) ∧ evS v C n = (dj C i).2 := by
  induction C generalizing v with
  | nil => exact Or.inl ⟨rfl, fun i hi => by simp at hi⟩
  | cons x r ih =>
    unfold ascS at h
    rw [List.pairwise_cons] at h
    rw [evS]
    by_cases hn : n < x.1
    · rw [if_pos hn]
      refine Or.inl ⟨rfl, fun i hi => ?_⟩
      cases i with
      | zero => exact hn
      | succ i =>
        have := h.1 _ (dj_memT (js := r) (i := i) (by simpa using hi))
        show n < (dj r i).1
        omega
    · rw [if_neg hn]
      rcases ih (v := x.2) h.2 with ⟨e, ha⟩ | ⟨i, hi, h1, h2, e⟩
      · refine Or.inr ⟨0, by simp, by show x.1 ≤ n; omega, fun j hj hl => ?_, e⟩
        cases j with
        | zero => omega
        | succ j => exact ha j (by simpa using hl)
      · refine Or.inr ⟨i + 1, by simpa using hi, h1, fun j hj hl => ?_, e⟩
        cases j with
        | zero => omega
        | succ j => exact h2 j (by omega) (by simpa using hl)
/-- THE PROGRAM'S WAY: from the first of the greatest stretches to the next one. -/
theorem meet_of {L C : List Duo} (hL : spsOk L) (ha : ascS C) (hd : difS C) (he : ∀ n, evS 0 C n = (cntS L n : Int)) :
    0 < C.length ∧ ∀ i, mostX C (C.length - 1) = i → i + 1 < C.length ∧ 0 ≤ (dj C i).2 ∧ Meet L (dj C i).1 ((dj C (i + 1)).1 - 1) (dj C i).2.toNat := by
  have hpos : ∃ n, 0 < cntS L n := by
    have hs := dj_memT (show 0 < L.length from hL.1.1)
    exact ⟨(dj L 0).1, cnt_pos.2 ⟨_, hs, hL.2 _ hs, Int.le_refl _, (hL.2 _ hs).2.1⟩⟩
  obtain ⟨n0, hn0⟩ := hpos
  have h0 : 0 < C.length := by
    rcases ev_at (v := 0) (n := n0) ha with ⟨e, _⟩ | ⟨i, hi, _⟩
    · have := he n0; omega
    · omega
  refine ⟨h0, fun i hi => ?_⟩
  have hile := most_le C (C.length - 1)
  rw [hi] at hile
  have hmx : ∀ j, j < C.length → (dj C j).2 ≤ (dj C i).2 := fun j hj => by
    have := (most_max C (C.length - 1) j (by omega)).1; rwa [hi] at this
  have hmf : ∀ j, j < i → (dj C j).2 < (dj C i).2 := fun j hj => by
    have := (most_max C (C.length - 1) j (by omega)).2 (by rw [hi]; exact hj); rwa [hi] at this
  have hM : 0 < (dj C i).2 := by
    rcases ev_at (v := 0) (n := n0) ha with ⟨e, _⟩ | ⟨j, hj, _, _, e⟩
    · have := he n0; omega
    · have := he n0; have := hmx j hj; omega
  have hall : ∀ n, (cntS L n : Int) ≤ (dj C i).2 := fun n => by
    rw [← he n]
    rcases ev_at (v := 0) (n := n) ha with ⟨e, _⟩ | ⟨j, hj, _, _, e⟩
    · omega
    · have := hmx j hj; omega
  have hin : ∀ n, (dj C i).1 ≤ n → (∀ j, i < j → j < C.length → n < (dj C j).1) → (cntS L n : Int) = (dj C i).2 := fun n h1 h2 => by
    rw [← he n]
    rcases ev_at (v := 0) (n := n) ha with ⟨e, h3⟩ | ⟨j, hj, h3, h4, e⟩
    · have := h3 i (by omega); omega
    · rcases Nat.lt_trichotomy i j with hl | hl | hl
      · have := h2 j hl hj; omega
      · subst hl; exact e
      · have := h4 i hl (by omega); omega
  have hnext : i + 1 < C.length := by
    by_cases hl : i + 1 < C.length
    · exact hl
    · exfalso
      -- behind all spans no number is had
      have h1 : cntS L (max (dj C i).1 4000001) = 0 := by
        rcases Nat.eq_zero_or_pos (cntS L (max (dj C i).1 4000001)) with h | h
        · exact h
        · obtain ⟨s, _, hs⟩ := cnt_pos.1 h
          have h2 := hs.1.2.2
          have h3 := hs.2.2
          omega
      have h2 := hin (max (dj C i).1 4000001) (by omega) (fun j h3 h4 => by omega)
      omega
  refine ⟨hnext, by omega, fun n => ?_, fun n hn => ?_, ?_, fun n n1 n2 => ?_, ?_⟩
  · have := hall n; omega
  · rcases ev_at (v := 0) (n := n) ha with ⟨e, _⟩ | ⟨j, hj, h3, _, e⟩
    · have := he n; omega
    · have h5 := he n
      rcases Nat.lt_trichotomy j i with hl | hl | hl
      · have := hmf j hl; omega
      · subst hl; omega
      · have := asc_at ha hl hj; omega
  · have := asc_at ha (show i < i + 1 by omega) hnext; omega
  · have h5 := hin n n1 (fun j h3 h4 => by
      by_cases e : j = i + 1
      · subst e; omega
      · have := asc_at ha (show i + 1 < j by omega) h4; omega)
    omega
  · intro hh
    have h5 : (cntS L (dj C (i + 1)).1 : Int) = (dj C (i + 1)).2 := by
      rw [← he]
      rcases ev_at (v := 0) (n := (dj C (i + 1)).1) ha with ⟨e, h3⟩ | ⟨j, hj, h3, h4, e⟩
      · have := h3 (i + 1) hnext; omega
      · rcases Nat.lt_trichotomy (i + 1) j with hl | hl | hl
        · have := asc_at ha hl hj; omega
        · subst hl; exact e
        · have := h4 (i + 1) hl hnext; omega
    have h6 := dif_at hd hnext
    rw [show (dj C (i + 1)).1 - 1 + 1 = (dj C (i + 1)).1 by omega] at hh
    omega
end Go.Proofs.Ytmifhkhanjiklaa
