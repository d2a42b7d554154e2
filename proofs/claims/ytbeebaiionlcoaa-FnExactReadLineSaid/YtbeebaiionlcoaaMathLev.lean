/-
  Chapter 8's plain mathematics: levels of bits, bits of levels, equal numbers that stand together, ticks of levels and back. No condition.
-/
import Derived.Test.YtbeebaiionlcoaaBits
namespace Go.Proofs.Ytbeebaiionlcoaa
open Go.RowKit

def okBits (zs : List Int) : Bool := zs.all fun x => decide (x = 0) || decide (x = 1)
theorem okBits_iff {zs : List Int} : okBits zs = true ↔ ∀ x ∈ zs, x = 0 ∨ x = 1 := by simp [okBits]
theorem okBits_no {zs : List Int} {x : Int} (hx : x ∈ zs) (h : ¬ (x = 0 ∨ x = 1)) : okBits zs = false := by
  cases hb : okBits zs with
  | false => rfl
  | true => exact absurd (okBits_iff.1 hb x hx) h
theorem okBits_take {zs : List Int} (h : okBits zs = true) (k : Nat) : okBits (zs.take k) = true := okBits_iff.2 fun x hx => okBits_iff.1 h x (List.mem_of_mem_take hx)

/- Levels of bits. -/
def levelsP (zs : List Int) : List Int := zs.flatMap fun b => [b, 1 - b]
theorem levelsP_cons (b : Int) (r : List Int) : levelsP (b :: r) = b :: (1 - b) :: levelsP r := rfl
theorem levelsP_app (a b : List Int) : levelsP (a ++ b) = levelsP a ++ levelsP b := by simp [levelsP]
theorem levelsP_snoc (a : List Int) (b : Int) : levelsP (a ++ [b]) = levelsP a ++ [b, 1 - b] := levelsP_app a [b]
theorem levelsP_len : ∀ zs : List Int, (levelsP zs).length = 2 * zs.length
  | [] => rfl
  | b :: r => by rw [levelsP_cons]; simp [levelsP_len r]; omega
theorem levelsP_bits : ∀ {zs : List Int}, okBits zs = true → okBits (levelsP zs) = true
  | [], _ => rfl
  | b :: r, h => by
    have h1 := okBits_iff.1 h b (by simp)
    have h2 : okBits r = true := okBits_iff.2 fun x hx => okBits_iff.1 h x (by simp [hx])
    have ih := okBits_iff.1 (levelsP_bits h2)
    refine okBits_iff.2 fun x hx => ?_
    rw [levelsP_cons] at hx
    simp at hx
    rcases hx with rfl | rfl | hx
    · exact h1
    · omega
    · exact ih x hx
def levelsL (zs : List Int) : List Int := if okBits zs = true ∧ zs.length ≤ 200 then levelsP zs else []
theorem levelsL_yes {zs : List Int} (h : okBits zs = true) (h2 : zs.length ≤ 200) : levelsL zs = levelsP zs := if_pos ⟨h, h2⟩
theorem levelsL_no {zs : List Int} (h : ¬ (okBits zs = true ∧ zs.length ≤ 200)) : levelsL zs = [] := if_neg h
theorem levelsL_len (zs : List Int) : (levelsL zs).length ≤ 400 := by
  unfold levelsL; split
  · rename_i h; rw [levelsP_len]; omega
  · simp
def sumZ (zs : List Int) : Int := zs.sum
theorem sumZ_snoc (a : List Int) (b : Int) : sumZ (a ++ [b]) = sumZ a + b := by simp [sumZ]
theorem sumZ_levels : ∀ zs : List Int, sumZ (levelsP zs) = zs.length
  | [] => rfl
  | b :: r => by
    have ih := sumZ_levels r
    unfold sumZ at *
    rw [levelsP_cons, List.sum_cons, List.sum_cons, ih]; simp; omega
theorem sumZ_bits : ∀ {zs : List Int}, okBits zs = true → 0 ≤ sumZ zs ∧ sumZ zs ≤ zs.length
  | [], _ => by simp [sumZ]
  | b :: r, h => by
    have h1 := okBits_iff.1 h b (by simp)
    have ih := sumZ_bits (zs := r) (okBits_iff.2 fun x hx => okBits_iff.1 h x (by simp [hx]))
    unfold sumZ at *
    rw [List.sum_cons, List.length_cons]; omega

/- Bits of levels. -/
def unpair : List Int → Option (List Int)
  | [] => some []
  | [_] => none
  | x :: y :: r => if x = y then none else (unpair r).map (x :: ·)
def bitsFromL (zs : List Int) : List Int × Bool :=
  if okBits zs = true ∧ zs.length ≤ 400 then (match unpair zs with
    | some o => (o, true)
    | none => ([], false)) else ([], false)
theorem bitsFromL_yes {zs o : List Int} (h : okBits zs = true) (h2 : zs.length ≤ 400) (h3 : unpair zs = some o) : bitsFromL zs = (o, true) := by
  unfold bitsFromL; rw [if_pos ⟨h, h2⟩, h3]
theorem bitsFromL_none {zs : List Int} (h3 : unpair zs = none) : bitsFromL zs = ([], false) := by
  unfold bitsFromL; rw [h3]; split <;> rfl
theorem bitsFromL_no {zs : List Int} (h : ¬ (okBits zs = true ∧ zs.length ≤ 400)) : bitsFromL zs = ([], false) := if_neg h
theorem bitsFromL_inv {zs o : List Int} (h : bitsFromL zs = (o, true)) : okBits zs = true ∧ zs.length ≤ 400 ∧ unpair zs = some o := by
  unfold bitsFromL at h
  split at h
  · rename_i h1
    split at h
    · rename_i o' h2
      injection h with h3
      subst h3
      exact ⟨h1.1, h1.2, h2⟩
    · injection h with _ h3; cases h3
  · injection h with _ h3; cases h3
theorem bitsFromL_false {zs o : List Int} (h : bitsFromL zs = (o, false)) : o = [] := by
  unfold bitsFromL at h
  split at h
  · split at h
    · injection h with _ h3; cases h3
    · injection h with h3; exact h3.symm
  · injection h with h3; exact h3.symm
theorem unpair_even : ∀ {zs o : List Int}, unpair zs = some o → zs.length = 2 * o.length
  | [], o, h => by injection h with h; subst h; rfl
  | [_], _, h => by cases h
  | x :: y :: r, o, h => by
    unfold unpair at h
    split at h
    · cases h
    · cases hr : unpair r with
      | none => rw [hr] at h; cases h
      | some o' =>
        rw [hr] at h; injection h with h; subst h
        have := unpair_even hr
        simp; omega
theorem unpair_levels : ∀ zs : List Int, unpair (levelsP zs) = some zs
  | [] => rfl
  | b :: r => by
    rw [levelsP_cons, unpair, if_neg (by omega), unpair_levels r]; rfl
theorem levels_unpair : ∀ {zs o : List Int}, okBits zs = true → unpair zs = some o → levelsP o = zs ∧ okBits o = true
  | [], o, _, h => by injection h with h; subst h; exact ⟨rfl, rfl⟩
  | [_], _, _, h => by cases h
  | x :: y :: r, o, hb, h => by
    unfold unpair at h
    have h0 := okBits_iff.1 hb
    split at h
    · cases h
    · rename_i hxy
      cases hr : unpair r with
      | none => rw [hr] at h; cases h
      | some o' =>
        rw [hr] at h; injection h with h; subst h
        obtain ⟨ih1, ih2⟩ := levels_unpair (okBits_iff.2 fun z hz => h0 z (by simp [hz])) hr
        have hx := h0 x (by simp)
        have hy := h0 y (by simp)
        refine ⟨?_, okBits_iff.2 fun z hz => ?_⟩
        · show levelsP (x :: o') = _
          rw [levelsP_cons, ih1, show 1 - x = y by omega]
        · rcases List.mem_cons.1 hz with rfl | hz
          · exact hx
          · exact okBits_iff.1 ih2 z hz
theorem bitsFrom_levels {zs : List Int} (h : okBits zs = true) (h2 : zs.length ≤ 200) : bitsFromL (levelsP zs) = (zs, true) :=
  bitsFromL_yes (levelsP_bits h) (by rw [levelsP_len]; omega) (unpair_levels zs)
theorem levels_bitsFrom {zs o : List Int} (h : bitsFromL zs = (o, true)) : levelsL o = zs ∧ levelsP o = zs ∧ okBits o = true ∧ o.length ≤ 200 := by
  obtain ⟨h1, h2, h3⟩ := bitsFromL_inv h
  obtain ⟨h4, h5⟩ := levels_unpair h1 h3
  have := unpair_even h3
  have h6 : o.length ≤ 200 := by omega
  exact ⟨(levelsL_yes h5 h6).trans h4, h4, h5, h6⟩
/-- What the model's loop has put together when it has gone over k pairs. -/
def evens : List Int → List Int
  | [] => []
  | [_] => []
  | x :: _ :: r => x :: evens r
theorem unpair_evens : ∀ {zs : List Int}, zs.length % 2 = 0 → (∀ j, 2 * j + 1 < zs.length → zs[2 * j]? ≠ zs[2 * j + 1]?) → unpair zs = some (evens zs)
  | [], _, _ => rfl
  | [_], h, _ => by simp at h
  | x :: y :: r, h, hd => by
    have h0 := hd 0 (by simp)
    rw [unpair, if_neg (fun e => h0 (by simp [e])), unpair_evens (by simp at h; omega) (fun j hj => by
      have := hd (j + 1) (by simp; omega)
      rw [show 2 * (j + 1) = 2 * j + 1 + 1 by omega, List.getElem?_cons_succ, List.getElem?_cons_succ, List.getElem?_cons_succ, List.getElem?_cons_succ] at this
      exact this)]
    rfl
theorem unpair_same : ∀ {zs : List Int} (j : Nat), 2 * j + 1 < zs.length → zs[2 * j]? = zs[2 * j + 1]? → unpair zs = none
  | [], j, h, _ => by simp at h
  | [_], j, h, _ => by simp at h
  | x :: y :: r, 0, _, e => by
    have : x = y := by simpa using e
    rw [unpair, if_pos this]
  | x :: y :: r, j + 1, h, e => by
    rw [show 2 * (j + 1) = 2 * j + 1 + 1 by omega, List.getElem?_cons_succ, List.getElem?_cons_succ, List.getElem?_cons_succ, List.getElem?_cons_succ] at e
    rw [unpair, unpair_same j (by simp at h; omega) e]
    split <;> rfl
theorem unpair_odd : ∀ {zs : List Int}, zs.length % 2 ≠ 0 → unpair zs = none := fun {zs} h => by
  cases hu : unpair zs with
  | none => rfl
  | some o => have := unpair_even hu; omega
theorem evens_take : ∀ (zs : List Int) (j : Nat) (x : Int), zs[2 * j]? = some x → 2 * j + 1 < zs.length → evens (zs.take (2 * j + 2)) = evens (zs.take (2 * j)) ++ [x]
  | [], j, x, h, _ => by simp at h
  | [_], j, x, _, h => by simp at h
  | a :: b :: r, 0, x, h, _ => by
    have : a = x := by simpa using h
    subst this
    rfl
  | a :: b :: r, j + 1, x, h, hl => by
    rw [show 2 * (j + 1) = 2 * j + 1 + 1 by omega, List.getElem?_cons_succ, List.getElem?_cons_succ] at h
    have ih := evens_take r j x h (by simp at hl; omega)
    rw [show 2 * (j + 1) + 2 = 2 * j + 2 + 1 + 1 by omega, show 2 * (j + 1) = 2 * j + 1 + 1 by omega, List.take_succ_cons, List.take_succ_cons, List.take_succ_cons, List.take_succ_cons]
    show a :: evens (r.take (2 * j + 2)) = (a :: evens (r.take (2 * j))) ++ [x]
    rw [ih]; rfl

/- The machine that reads levels. -/
def stepM (q : Int × List Int) (x : Int) : Int × List Int :=
  if q.1 = 0 ∧ x = 0 then (1, q.2) else if q.1 = 0 ∧ x = 1 then (2, q.2) else if q.1 = 1 ∧ x = 1 then (0, q.2 ++ [0]) else if q.1 = 2 ∧ x = 0 then (0, q.2 ++ [1]) else (3, q.2)
def feedM (q : Int × List Int) (x : Int) : Nat → Int × List Int
  | 0 => q
  | n + 1 => stepM (feedM q x n) x
def flatR (rs : List (Int × Nat)) : List Int := rs.flatMap fun p => List.replicate p.2 p.1
theorem flatR_cons (p : Int × Nat) (t : List (Int × Nat)) : flatR (p :: t) = List.replicate p.2 p.1 ++ flatR t := rfl
theorem flatR_app (a b : List (Int × Nat)) : flatR (a ++ b) = flatR a ++ flatR b := by simp [flatR]
def runM (q : Int × List Int) (rs : List (Int × Nat)) : Int × List Int := rs.foldl (fun q r => feedM q r.1 r.2) q
theorem runM_snoc (q : Int × List Int) (rs : List (Int × Nat)) (p : Int × Nat) : runM q (rs ++ [p]) = feedM (runM q rs) p.1 p.2 := by simp [runM]
theorem feedM_flat (q : Int × List Int) (x : Int) : ∀ n, feedM q x n = (List.replicate n x).foldl stepM q
  | 0 => rfl
  | n + 1 => by rw [feedM, feedM_flat q x n, List.replicate_succ', List.foldl_append]; rfl
theorem runM_flat : ∀ (rs : List (Int × Nat)) (q : Int × List Int), runM q rs = (flatR rs).foldl stepM q
  | [], _ => rfl
  | p :: t, q => by
    show runM (feedM q p.1 p.2) t = _
    rw [runM_flat t, flatR_cons, List.foldl_append, feedM_flat]
theorem stepM_len (q : Int × List Int) (x : Int) : (stepM q x).2.length ≤ q.2.length + 1 := by
  unfold stepM; repeat' split
  all_goals simp
theorem feedM_len (q : Int × List Int) (x : Int) : ∀ n, (feedM q x n).2.length ≤ q.2.length + n
  | 0 => Nat.le_refl _
  | n + 1 => by have := feedM_len q x n; have := stepM_len (feedM q x n) x; rw [feedM]; omega
theorem stepM_state (q : Int × List Int) (x : Int) : 0 ≤ (stepM q x).1 ∧ (stepM q x).1 ≤ 3 := by
  unfold stepM; repeat' split
  all_goals simp
theorem feedM_state {q : Int × List Int} (hq : 0 ≤ q.1 ∧ q.1 ≤ 3) (x : Int) : ∀ n, 0 ≤ (feedM q x n).1 ∧ (feedM q x n).1 ≤ 3
  | 0 => hq
  | _ + 1 => stepM_state _ _
theorem stepM_bad : ∀ (zs : List Int) (acc : List Int), zs.foldl stepM (3, acc) = (3, acc)
  | [], _ => rfl
  | z :: r, acc => by rw [List.foldl_cons, show stepM (3, acc) z = (3, acc) by simp [stepM], stepM_bad r]
theorem machine : ∀ (zs acc : List Int), (∃ o, okBits zs = true ∧ unpair zs = some o ∧ zs.foldl stepM (0, acc) = (0, acc ++ o)) ∨ (¬ (okBits zs = true ∧ ∃ o, unpair zs = some o) ∧ (zs.foldl stepM (0, acc)).1 ≠ 0)
  | [], acc => .inl ⟨[], rfl, rfl, by simp⟩
  | [x], acc => .inr ⟨fun h => by (obtain ⟨_, o, ho⟩ := h; cases ho), by
      show (stepM (0, acc) x).1 ≠ 0
      unfold stepM
      repeat' split
      all_goals simp_all⟩
  | x :: y :: r, acc => by
    by_cases hx : x = 0 ∨ x = 1
    · by_cases hy : y = 0 ∨ y = 1
      · by_cases hxy : x = y
        · refine .inr ⟨fun h => ?_, ?_⟩
          · obtain ⟨_, o, ho⟩ := h
            rw [unpair, if_pos hxy] at ho; cases ho
          · subst hxy
            have : stepM (stepM (0, acc) x) x = (3, acc) := by rcases hx with rfl | rfl <;> rfl
            rw [List.foldl_cons, List.foldl_cons, this, stepM_bad]; simp
        · have hs : stepM (stepM (0, acc) x) y = (0, acc ++ [x]) := by
            rcases hx with rfl | rfl <;> rcases hy with rfl | rfl
            · exact absurd rfl hxy
            · rfl
            · rfl
            · exact absurd rfl hxy
          rcases machine r (acc ++ [x]) with ⟨o, h1, h2, h3⟩ | ⟨h1, h2⟩
          · refine .inl ⟨x :: o, okBits_iff.2 fun z hz => ?_, by rw [unpair, if_neg hxy, h2]; rfl, by rw [List.foldl_cons, List.foldl_cons, hs, h3]; simp⟩
            simp at hz
            rcases hz with rfl | rfl | hz
            · exact hx
            · exact hy
            · exact okBits_iff.1 h1 z hz
          · refine .inr ⟨fun h => h1 ?_, by rw [List.foldl_cons, List.foldl_cons, hs]; exact h2⟩
            obtain ⟨hb, o, ho⟩ := h
            refine ⟨okBits_iff.2 fun z hz => okBits_iff.1 hb z (by simp [hz]), ?_⟩
            rw [unpair, if_neg hxy] at ho
            cases hr : unpair r with
            | none => rw [hr] at ho; cases ho
            | some o' => exact ⟨o', rfl⟩
      · refine .inr ⟨fun h => hy (okBits_iff.1 h.1 y (by simp)), ?_⟩
        have : (stepM (stepM (0, acc) x) y).1 = 3 := by
          rcases hx with rfl | rfl <;> simp [stepM] <;> simp_all
        rw [List.foldl_cons, List.foldl_cons, show stepM (stepM (0, acc) x) y = (3, (stepM (stepM (0, acc) x) y).2) from Prod.ext this rfl, stepM_bad]; simp
    · refine .inr ⟨fun h => hx (okBits_iff.1 h.1 x (by simp)), ?_⟩
      have : (stepM (0, acc) x).1 = 3 := by simp [stepM]; simp_all
      rw [List.foldl_cons, show stepM (0, acc) x = (3, (stepM (0, acc) x).2) from Prod.ext this rfl, stepM_bad]; simp

/- Equal numbers that stand together. -/
def rle : List Int → List (Int × Nat)
  | [] => []
  | x :: r => match rle r with
    | [] => [(x, 1)]
    | (y, n) :: t => if x = y then (y, n + 1) :: t else (x, 1) :: (y, n) :: t
def okR : List (Int × Nat) → Prop
  | [] => True
  | p :: t => 1 ≤ p.2 ∧ (∀ q, t.head? = some q → q.1 ≠ p.1) ∧ okR t
theorem rle_flat : ∀ ts : List Int, flatR (rle ts) = ts
  | [] => rfl
  | x :: r => by
    have ih := rle_flat r
    unfold rle
    split
    · rename_i h
      rw [h] at ih
      rw [flatR_cons, ← ih]; rfl
    · rename_i y n t h
      rw [h, flatR_cons] at ih
      split
      · rename_i hxy
        subst hxy
        rw [flatR_cons, ← ih]; rfl
      · rw [flatR_cons, flatR_cons, ← ih]; rfl
theorem rle_ok : ∀ ts : List Int, okR (rle ts)
  | [] => trivial
  | x :: r => by
    have ih := rle_ok r
    unfold rle
    split
    · exact ⟨Nat.le_refl _, fun q hq => by (simp at hq), trivial⟩
    · rename_i y n t h
      rw [h] at ih
      obtain ⟨h1, h2, h3⟩ := ih
      split
      · exact ⟨by simp, h2, h3⟩
      · rename_i hxy
        exact ⟨Nat.le_refl _, fun q hq => by simp at hq; subst hq; exact fun e => hxy e.symm, h1, h2, h3⟩
theorem rle_more {x : Int} {m : Nat} {t : List (Int × Nat)} {ts : List Int} (h : rle ts = (x, m) :: t) : ∀ n, rle (List.replicate n x ++ ts) = (x, m + n) :: t
  | 0 => h
  | n + 1 => by
    rw [List.replicate_succ, List.cons_append, rle, rle_more h n]
    simp; omega
theorem rle_head {ts : List Int} {y : Int} {n : Nat} {t : List (Int × Nat)} (h : rle ts = (y, n) :: t) : ts.head? = some y := by
  have h1 := rle_flat ts
  have h2 := rle_ok ts
  rw [h] at h1 h2
  rw [← h1, flatR_cons]
  obtain ⟨m, hm⟩ : ∃ m, n = m + 1 := ⟨n - 1, by have := h2.1; simp at this; omega⟩
  rw [hm]; rfl
theorem rle_one {x : Int} {ts : List Int} (h : ts.head? ≠ some x) : rle (x :: ts) = (x, 1) :: rle ts := by
  rw [rle]
  split
  · rename_i h1; rw [h1]
  · rename_i y n t h1
    have := rle_head h1
    rw [if_neg (fun e => h (by rw [e]; exact this)), h1]
theorem rle_run {x : Int} {ts : List Int} {n : Nat} (hn : 1 ≤ n) (h : ts.head? ≠ some x) : rle (List.replicate n x ++ ts) = (x, n) :: rle ts := by
  obtain ⟨m, rfl⟩ : ∃ m, n = m + 1 := ⟨n - 1, by omega⟩
  rw [List.replicate_succ', List.append_assoc, List.singleton_append, rle_more (rle_one h) m]
  simp; omega
theorem flatR_head {rs : List (Int × Nat)} (h : okR rs) : (flatR rs).head? = rs.head?.map (·.1) := by
  cases rs with
  | nil => rfl
  | cons p t =>
    rw [flatR_cons]
    obtain ⟨m, hm⟩ : ∃ m, p.2 = m + 1 := ⟨p.2 - 1, by have := h.1; omega⟩
    rw [hm]; rfl
theorem rle_uniq : ∀ {rs : List (Int × Nat)}, okR rs → rle (flatR rs) = rs
  | [], _ => rfl
  | p :: t, h => by
    rw [flatR_cons, rle_run h.1, rle_uniq h.2.2]
    rw [flatR_head h.2.2]
    intro e
    cases ht : t.head? with
    | none => rw [ht] at e; cases e
    | some q => rw [ht] at e; injection e with e; exact h.2.1 q ht e
theorem okR_mem : ∀ {rs : List (Int × Nat)}, okR rs → ∀ p ∈ rs, 1 ≤ p.2
  | p :: t, h, q, hq => by
    rcases List.mem_cons.1 hq with rfl | hq
    · exact h.1
    · exact okR_mem h.2.2 q hq
theorem okR_last : ∀ {rs : List (Int × Nat)} {y : Int} {n m : Nat}, okR (rs ++ [(y, n)]) → 1 ≤ m → okR (rs ++ [(y, m)])
  | [], _, _, _, _, hm => ⟨hm, fun _ hq => by simp at hq, trivial⟩
  | p :: t, y, n, m, h, hm => by
    obtain ⟨h1, h2, h3⟩ := h
    refine ⟨h1, fun q hq => ?_, okR_last h3 hm⟩
    cases t with
    | nil => simp at hq; subst hq; exact h2 (y, n) rfl
    | cons p2 t2 => exact h2 q hq
theorem okR_snoc : ∀ {rs : List (Int × Nat)} {y : Int} {m : Nat}, okR rs → (∀ q, rs.getLast? = some q → q.1 ≠ y) → 1 ≤ m → okR (rs ++ [(y, m)])
  | [], _, _, _, _, hm => ⟨hm, fun _ hq => by simp at hq, trivial⟩
  | [p], y, m, h, hl, hm => by
    refine ⟨h.1, fun q hq => ?_, hm, fun _ hq => by simp at hq, trivial⟩
    simp at hq; subst hq
    exact fun e => hl p rfl e.symm
  | p :: p2 :: t, y, m, h, hl, hm => ⟨h.1, h.2.1, okR_snoc h.2.2 (fun q hq => hl q hq) hm⟩
theorem rle_ne {ts : List Int} (h : ts ≠ []) : ∃ rs y n, rle ts = rs ++ [(y, n)] ∧ ts.getLast? = some y ∧ 1 ≤ n := by
  have h1 := rle_flat ts
  have h2 := rle_ok ts
  rcases List.eq_nil_or_concat (rle ts) with h0 | ⟨rs, ⟨y, n⟩, h0⟩
  · rw [h0] at h1; exact absurd h1.symm h
  · rw [h0] at h1 h2
    have hn := okR_mem h2 (y, n) (by simp)
    refine ⟨rs, y, n, h0.trans List.concat_eq_append, ?_, hn⟩
    rw [← h1, List.concat_eq_append, flatR_app]
    obtain ⟨m, rfl⟩ : ∃ m, n = m + 1 := ⟨n - 1, by simp at hn; omega⟩
    show (flatR rs ++ (List.replicate (m + 1) y ++ [])).getLast? = _
    rw [List.append_nil, List.replicate_succ', ← List.append_assoc, List.getLast?_concat]
def runsL (ts : List Int) : List Int := (rle ts).map fun p => (p.2 : Int)
theorem runs_same {p : List Int} {y : Int} (h : p.getLast? = some y) : ∃ (ns : List Int) (n : Nat), runsL p = ns ++ [(n : Int)] ∧ runsL (p ++ [y]) = ns ++ [((n + 1 : Nat) : Int)] ∧ n ≤ p.length := by
  obtain ⟨rs, y', n, h1, h2, h3⟩ := rle_ne (ts := p) (fun e => by rw [e] at h; cases h)
  obtain rfl : y = y' := by rw [h] at h2; injection h2
  have hf := rle_flat p
  have ho := rle_ok p
  rw [h1] at hf ho
  have e2 : rle (p ++ [y]) = rs ++ [(y, n + 1)] := by
    rw [← rle_uniq (okR_last ho (m := n + 1) (by omega)), flatR_app]
    congr 1
    rw [← hf, flatR_app, List.append_assoc]
    congr 1
    show List.replicate n y ++ [] ++ [y] = List.replicate (n + 1) y ++ []
    rw [List.append_nil, List.append_nil, List.replicate_succ']
  refine ⟨rs.map fun p => (p.2 : Int), n, by unfold runsL; rw [h1]; simp, by unfold runsL; rw [e2]; simp, ?_⟩
  rw [← hf, flatR_app, List.length_append]
  show n ≤ _ + (List.replicate n y ++ []).length
  simp
theorem runs_new {p : List Int} {y : Int} (h : p.getLast? ≠ some y) : runsL (p ++ [y]) = runsL p ++ [1] := by
  have hf := rle_flat p
  have e2 : rle (p ++ [y]) = rle p ++ [(y, 1)] := by
    rw [← rle_uniq (okR_snoc (rle_ok p) (y := y) (m := 1) (fun q hq e => ?_) (Nat.le_refl _)), flatR_app, hf]
    · rfl
    · by_cases hp : p = []
      · subst hp; cases hq
      · obtain ⟨rs, y', n, h1, h2, h3⟩ := rle_ne hp
        rw [h1] at hq
        simp at hq
        subst hq
        exact h (by rw [h2]; simp at e; rw [e])
  unfold runsL
  rw [e2]; simp
theorem runsL_len (ts : List Int) : (runsL ts).length = (rle ts).length := by simp [runsL]
theorem flatR_ge : ∀ {rs : List (Int × Nat)}, okR rs → rs.length ≤ (flatR rs).length
  | [], _ => Nat.le_refl _
  | p :: t, h => by have := flatR_ge h.2.2; have := h.1; rw [flatR_cons]; simp; omega
theorem rle_le (ts : List Int) : (rle ts).length ≤ ts.length := by
  have := flatR_ge (rle_ok ts); rw [rle_flat] at this; exact this
theorem rle_at {ts : List Int} {a e : Nat} {x : Int} (ha : a < e) (hall : ∀ j, a ≤ j → j < e → ts[j]? = some x) (hend : ts[e]? ≠ some x) : rle (ts.drop a) = (x, e - a) :: rle (ts.drop e) := by
  have h1 : ts.drop a = List.replicate (e - a) x ++ ts.drop e := by
    apply List.ext_getElem?
    intro i
    rw [List.getElem?_drop]
    by_cases hi : i < e - a
    · rw [List.getElem?_append_left (by simp; omega), hall (a + i) (by omega) (by omega), List.getElem?_replicate, if_pos hi]
    · rw [List.getElem?_append_right (by simp; omega), List.getElem?_drop]
      congr 1; simp; omega
  rw [h1]
  exact rle_run (by omega) (by rw [List.head?_drop]; exact hend)
def offs (rs : List (Int × Nat)) (k : Nat) : Nat := (flatR (rs.take k)).length
theorem offs_succ {rs : List (Int × Nat)} {k : Nat} {p : Int × Nat} (h : rs[k]? = some p) : offs rs (k + 1) = offs rs k + p.2 := by
  unfold offs
  rw [List.take_add_one, h, flatR_app, List.length_append]
  show _ + (List.replicate p.2 p.1 ++ []).length = _
  simp
theorem offs_all (rs : List (Int × Nat)) : offs rs rs.length = (flatR rs).length := by unfold offs; rw [List.take_length]
theorem flatR_split {rs : List (Int × Nat)} {k : Nat} {p : Int × Nat} (h : rs[k]? = some p) : flatR rs = flatR (rs.take k) ++ (List.replicate p.2 p.1 ++ flatR (rs.drop (k + 1))) := by
  have hk := (List.getElem?_eq_some_iff.1 h).1
  have : rs = rs.take k ++ p :: rs.drop (k + 1) := by
    conv => lhs; rw [← List.take_append_drop k rs]
    rw [List.drop_eq_getElem_cons hk, (List.getElem?_eq_some_iff.1 h).2]
  conv => lhs; rw [this]
  rw [flatR_app, flatR_cons]
theorem offs_at {rs : List (Int × Nat)} {k : Nat} {p : Int × Nat} (h : rs[k]? = some p) {i : Nat} (hi : i < p.2) : (flatR rs)[offs rs k + i]? = some p.1 := by
  rw [flatR_split h]
  unfold offs
  rw [List.getElem?_append_right (by omega), Nat.add_sub_cancel_left, List.getElem?_append_left (by simp; omega), List.getElem?_replicate, if_pos hi]
theorem okR_next : ∀ {rs : List (Int × Nat)} {k : Nat} {p q : Int × Nat}, okR rs → rs[k]? = some p → rs[k + 1]? = some q → q.1 ≠ p.1
  | r :: t, 0, p, q, h, hp, hq => by
    have : r = p := by simpa using hp
    subst this
    exact h.2.1 q (by rw [List.head?_eq_getElem?]; simpa using hq)
  | r :: t, k + 1, p, q, h, hp, hq => okR_next h.2.2 (by simpa using hp) (by simpa using hq)
theorem offs_before {rs : List (Int × Nat)} (ho : okR rs) {k : Nat} {p : Int × Nat} (h : rs[k]? = some p) (h0 : 0 < offs rs k) : ∃ x, (flatR rs)[offs rs k - 1]? = some x ∧ x ≠ p.1 := by
  cases k with
  | zero => simp [offs, flatR] at h0
  | succ k =>
    have hk := (List.getElem?_eq_some_iff.1 h).1
    obtain ⟨q, hq⟩ : ∃ q, rs[k]? = some q := ⟨_, List.getElem?_eq_getElem (by omega)⟩
    have hq2 := okR_mem ho q (List.mem_of_getElem? hq)
    refine ⟨q.1, ?_, fun e => okR_next ho hq h e.symm⟩
    rw [offs_succ hq, show offs rs k + q.2 - 1 = offs rs k + (q.2 - 1) by omega]
    exact offs_at hq (by omega)
theorem offs_le {rs : List (Int × Nat)} {k : Nat} {p : Int × Nat} (h : rs[k]? = some p) : offs rs k + p.2 ≤ (flatR rs).length := by
  rw [flatR_split h]; unfold offs; simp

/- Ticks of levels. -/
def okW (ws : List Int) : Bool := decide (1 ≤ ws.length) && ws.all fun x => decide (1 ≤ x) && decide (x ≤ 40)
theorem okW_iff {ws : List Int} : okW ws = true ↔ 1 ≤ ws.length ∧ ∀ x ∈ ws, 1 ≤ x ∧ x ≤ 40 := by simp [okW]
def wdAt (ws : List Int) (i : Nat) : Nat := (ws.getD (min i (ws.length - 1)) 0).toNat
theorem wdAt_get {ws : List Int} (h : okW ws = true) (i : Nat) : ws[min i (ws.length - 1)]? = some (wdAt ws i : Int) ∧ 1 ≤ wdAt ws i ∧ wdAt ws i ≤ 40 := by
  obtain ⟨h1, h2⟩ := okW_iff.1 h
  have hlt : min i (ws.length - 1) < ws.length := by omega
  have hm := h2 _ (List.getElem_mem hlt)
  unfold wdAt
  rw [List.getD_eq_getElem?_getD, List.getElem?_eq_getElem hlt]
  simp
  omega
def ticksP (ws : List Int) : Nat → List Int → List Int
  | _, [] => []
  | i, x :: r => List.replicate (wdAt ws i) x ++ ticksP ws (i + 1) r
theorem ticksP_app (ws : List Int) : ∀ (a b : List Int) (i : Nat), ticksP ws i (a ++ b) = ticksP ws i a ++ ticksP ws (i + a.length) b
  | [], b, i => rfl
  | x :: r, b, i => by
    rw [List.cons_append, ticksP, ticksP, ticksP_app ws r b, List.append_assoc]
    congr 3; simp; omega
theorem ticksP_take (ws : List Int) {ls : List Int} {k : Nat} {x : Int} (h : ls[k]? = some x) : ticksP ws 0 (ls.take (k + 1)) = ticksP ws 0 (ls.take k) ++ List.replicate (wdAt ws k) x := by
  have hk := (List.getElem?_eq_some_iff.1 h).1
  rw [List.take_add_one, h, ticksP_app]
  congr 1
  show List.replicate (wdAt ws (0 + (ls.take k).length)) x ++ [] = _
  rw [List.append_nil, List.length_take]
  congr 2; omega
theorem ticksP_len {ws : List Int} (h : okW ws = true) : ∀ (ls : List Int) (i : Nat), (ticksP ws i ls).length ≤ 40 * ls.length
  | [], _ => Nat.le_refl _
  | x :: r, i => by have := ticksP_len h r (i + 1); have := (wdAt_get h i).2.2; rw [ticksP]; simp; omega
theorem ticksP_ge {ws : List Int} (h : okW ws = true) : ∀ (ls : List Int) (i : Nat), ls.length ≤ (ticksP ws i ls).length
  | [], _ => Nat.le_refl _
  | x :: r, i => by have := ticksP_ge h r (i + 1); have := (wdAt_get h i).2.1; rw [ticksP]; simp; omega
theorem ticksP_mem {ws : List Int} : ∀ {ls : List Int} {i : Nat} {x : Int}, x ∈ ticksP ws i ls → x ∈ ls
  | [], _, _, h => h
  | y :: r, i, x, h => by
    rw [ticksP] at h
    rcases List.mem_append.1 h with h | h
    · rw [List.mem_replicate] at h; simp [h.2]
    · simp [ticksP_mem h]
def ticksL (ls ws : List Int) : List Int := if okBits ls = true ∧ ls.length ≤ 400 ∧ okW ws = true then ticksP ws 0 ls else []
theorem ticksL_yes {ls ws : List Int} (h1 : okBits ls = true) (h2 : ls.length ≤ 400) (h3 : okW ws = true) : ticksL ls ws = ticksP ws 0 ls := if_pos ⟨h1, h2, h3⟩
theorem ticksL_no {ls ws : List Int} (h : ¬ (okBits ls = true ∧ ls.length ≤ 400 ∧ okW ws = true)) : ticksL ls ws = [] := if_neg h
theorem ticksL_len (ls ws : List Int) : (ticksL ls ws).length ≤ 16000 := by
  unfold ticksL; split
  · rename_i h; have := ticksP_len h.2.2 ls 0; omega
  · simp
theorem ticksL_bits (ls ws : List Int) : okBits (ticksL ls ws) = true := by
  unfold ticksL; split
  · rename_i h; exact okBits_iff.2 fun x hx => okBits_iff.1 h.1 x (ticksP_mem hx)
  · rfl
theorem ticks_at {ws ls : List Int} {k j : Nat} {x : Int} (h : ls[k]? = some x) (hj : j < wdAt ws k) : (ticksP ws 0 ls)[(ticksP ws 0 (ls.take k)).length + j]? = some x := by
  have hk := (List.getElem?_eq_some_iff.1 h).1
  have e : ticksP ws 0 ls = ticksP ws 0 (ls.take k) ++ (List.replicate (wdAt ws k) x ++ ticksP ws (0 + (ls.take (k + 1)).length) (ls.drop (k + 1))) := by
    rw [← List.append_assoc, ← ticksP_take ws h, ← ticksP_app, List.take_append_drop]
  rw [e, List.getElem?_append_right (by omega), Nat.add_sub_cancel_left, List.getElem?_append_left (by simp; omega), List.getElem?_replicate, if_pos hj]

/- Levels of ticks. -/
def lasting (n w : Nat) : Nat := if 2 * n < w then 0 else if 2 * n < 3 * w then 1 else if 2 * n < 5 * w then 2 else 0
theorem lasting_le (n w : Nat) : lasting n w ≤ 2 := by unfold lasting; repeat' split
                                                       all_goals omega
def levP (w : Nat) : List (Int × Nat) → Option (List Int)
  | [] => some []
  | p :: t => if lasting p.2 w = 0 then none else (levP w t).map (List.replicate (lasting p.2 w) p.1 ++ ·)
theorem levP_app (w : Nat) : ∀ {a b : List (Int × Nat)} {x : List Int}, levP w a = some x → levP w (a ++ b) = (levP w b).map (x ++ ·)
  | [], b, x, h => by injection h with h; subst h; simp
  | p :: t, b, x, h => by
    unfold levP at h
    split at h
    · cases h
    · rename_i h0
      cases ht : levP w t with
      | none => rw [ht] at h; cases h
      | some y =>
        rw [ht] at h; injection h with h; subst h
        rw [List.cons_append, levP, if_neg h0, levP_app w ht]
        cases levP w b <;> simp
theorem levP_none (w : Nat) : ∀ {a : List (Int × Nat)} (b : List (Int × Nat)), levP w a = none → levP w (a ++ b) = none
  | [], _, h => by cases h
  | p :: t, b, h => by
    unfold levP at h
    rw [List.cons_append, levP]
    split at h
    · rename_i h0; rw [if_pos h0]
    · rename_i h0
      rw [if_neg h0]
      cases ht : levP w t with
      | none => rw [levP_none w b ht]; rfl
      | some y => rw [ht] at h; cases h
theorem levP_snoc {w : Nat} {a : List (Int × Nat)} {o : List Int} (h : levP w a = some o) (p : Int × Nat) : levP w (a ++ [p]) = if lasting p.2 w = 0 then none else some (o ++ List.replicate (lasting p.2 w) p.1) := by
  rw [levP_app w h]
  unfold levP
  split
  · rfl
  · simp [levP]
def levelsFromL (ts : List Int) (w : Int) : List Int × Bool :=
  if okBits ts = true ∧ (1 ≤ w ∧ w ≤ 40) ∧ ts.length ≤ 16000 then (match levP w.toNat (rle ts) with
    | some o => if o.length ≤ 400 then (o, true) else ([], false)
    | none => ([], false)) else ([], false)
theorem levelsFromL_no {ts : List Int} {w : Int} (h : ¬ (okBits ts = true ∧ (1 ≤ w ∧ w ≤ 40) ∧ ts.length ≤ 16000)) : levelsFromL ts w = ([], false) := if_neg h
theorem levelsFromL_yes {ts o : List Int} {w : Nat} (h1 : okBits ts = true) (hw : 1 ≤ w ∧ w ≤ 40) (h2 : ts.length ≤ 16000) (h3 : levP w (rle ts) = some o) (h4 : o.length ≤ 400) : levelsFromL ts (w : Int) = (o, true) := by
  unfold levelsFromL; rw [if_pos ⟨h1, by omega, h2⟩, Int.toNat_natCast, h3]; simp [h4]
theorem levelsFromL_bad {ts : List Int} {w : Nat} (h : ∀ o, levP w (rle ts) = some o → 400 < o.length) : levelsFromL ts (w : Int) = ([], false) := by
  unfold levelsFromL
  split
  · rw [Int.toNat_natCast]
    split
    · rename_i o ho; have := h o ho; rw [if_neg (by omega)]
    · rfl
  · rfl
theorem levelsFromL_inv {ts o : List Int} {w : Int} (h : levelsFromL ts w = (o, true)) : okBits ts = true ∧ (1 ≤ w ∧ w ≤ 40) ∧ ts.length ≤ 16000 ∧ levP w.toNat (rle ts) = some o ∧ o.length ≤ 400 := by
  unfold levelsFromL at h
  split at h
  · rename_i h1
    split at h
    · rename_i o' h2
      split at h
      · rename_i h4
        injection h with h3
        subst h3
        exact ⟨h1.1, h1.2.1, h1.2.2, h2, h4⟩
      · injection h with _ h3; cases h3
    · injection h with _ h3; cases h3
  · injection h with _ h3; cases h3
theorem levelsFromL_false {ts o : List Int} {w : Int} (h : levelsFromL ts w = (o, false)) : o = [] := by
  unfold levelsFromL at h
  split at h
  · split at h
    · split at h
      · injection h with _ h3; cases h3
      · injection h with h3; exact h3.symm
    · injection h with h3; exact h3.symm
  · injection h with h3; exact h3.symm
/-- Where the program's loop may stop. -/
theorem levelsFrom_stop {ts : List Int} {w : Nat} {pre : List (Int × Nat)} (hp : pre <+: rle ts) (h : levP w pre = none ∨ (∃ o, levP w pre = some o ∧ 400 < o.length) ∨ ∃ p ∈ pre, ¬ (p.1 = 0 ∨ p.1 = 1)) : levelsFromL ts (w : Int) = ([], false) := by
  obtain ⟨b, hb⟩ := hp
  rcases h with h | ⟨o, h, h2⟩ | ⟨p, h, h2⟩
  · exact levelsFromL_bad fun o ho => by rw [← hb, levP_none w b h] at ho; cases ho
  · refine levelsFromL_bad fun o' ho => ?_
    rw [← hb, levP_app w h] at ho
    cases hb2 : levP w b with
    | none => rw [hb2] at ho; cases ho
    | some y => rw [hb2] at ho; injection ho with ho; rw [← ho, List.length_append]; omega
  · refine levelsFromL_no fun hh => ?_
    have hm : p ∈ rle ts := by rw [← hb]; exact List.mem_append_left _ h
    have h1 := okR_mem (rle_ok ts) p hm
    refine h2 (okBits_iff.1 hh.1 p.1 ?_)
    rw [← rle_flat ts]
    exact List.mem_flatMap.2 ⟨p, hm, List.mem_replicate.2 ⟨by omega, rfl⟩⟩
theorem rle_bits {ts : List Int} (h : ∀ p ∈ rle ts, p.1 = 0 ∨ p.1 = 1) : okBits ts = true := by
  refine okBits_iff.2 fun x hx => ?_
  rw [← rle_flat ts] at hx
  obtain ⟨p, hp, hx⟩ := List.mem_flatMap.1 hx
  rw [(List.mem_replicate.1 hx).2]
  exact h p hp

/- Levels, their ticks, and their levels again. -/
theorem ticksP_run (ws : List Int) (x : Int) : ∀ (n i : Nat), ∃ m, ticksP ws i (List.replicate n x) = List.replicate m x ∧ (n = 1 → m = wdAt ws i) ∧ (n = 2 → m = wdAt ws i + wdAt ws (i + 1))
  | 0, i => ⟨0, rfl, by omega, by omega⟩
  | n + 1, i => by
    obtain ⟨m, h1, h2, h3⟩ := ticksP_run ws x n (i + 1)
    refine ⟨wdAt ws i + m, by rw [List.replicate_succ, ticksP, h1, List.replicate_append_replicate], fun hn => ?_, fun hn => by rw [h2 (by omega)]⟩
    obtain rfl : n = 0 := by omega
    have : m = 0 := by
      have := congrArg List.length h1
      simpa [ticksP] using this.symm
    omega
theorem lev_ticks {ws : List Int} {W : Nat} (hW : ∀ i, 3 * W ≤ 4 * wdAt ws i ∧ 4 * wdAt ws i < 5 * W) : ∀ {rs : List (Int × Nat)} (i : Nat), okR rs → (∀ p ∈ rs, p.2 ≤ 2) →
    levP W (rle (ticksP ws i (flatR rs))) = some (flatR rs) ∧ (rle (ticksP ws i (flatR rs))).length = rs.length
  | [], _, _, _ => ⟨rfl, rfl⟩
  | p :: t, i, ho, h2 => by
    obtain ⟨ih1, ih2⟩ := lev_ticks hW (i + p.2) ho.2.2 (fun q hq => h2 q (by simp [hq]))
    have hp := h2 p (by simp)
    have hp1 := ho.1
    obtain ⟨m, e1, e2, e3⟩ := ticksP_run ws p.1 p.2 i
    have hm : 1 ≤ m ∧ lasting m W = p.2 := by
      have a := hW i
      have b := hW (i + 1)
      rcases (by omega : p.2 = 1 ∨ p.2 = 2) with hq | hq
      · have := e2 hq
        refine ⟨by omega, ?_⟩
        unfold lasting
        rw [if_neg (by omega), if_pos (by omega), hq]
      · have := e3 hq
        refine ⟨by omega, ?_⟩
        unfold lasting
        rw [if_neg (by omega), if_neg (by omega), if_pos (by omega), hq]
    have hh : (ticksP ws (i + p.2) (flatR t)).head? ≠ some p.1 := by
      cases t with
      | nil => intro e; cases e
      | cons q t' =>
        have hq1 := ho.2.2.1
        have hq2 := ho.2.1 q rfl
        obtain ⟨k, hk⟩ : ∃ k, q.2 = k + 1 := ⟨q.2 - 1, by omega⟩
        rw [flatR_cons, hk, List.replicate_succ, List.cons_append, ticksP]
        obtain ⟨k2, hk2⟩ : ∃ k2, wdAt ws (i + p.2) = k2 + 1 := ⟨wdAt ws (i + p.2) - 1, by have := hW (i + p.2); omega⟩
        rw [hk2, List.replicate_succ]
        intro e
        exact hq2 (by simpa using e)
    have e4 : ticksP ws i (flatR (p :: t)) = List.replicate m p.1 ++ ticksP ws (i + p.2) (flatR t) := by
      rw [flatR_cons, ticksP_app, e1, List.length_replicate]
    rw [e4, rle_run hm.1 hh]
    refine ⟨?_, by simp [ih2]⟩
    rw [levP, hm.2, if_neg (by omega), ih1]
    rfl
theorem levels_runs : ∀ bits : List Int, (∀ p ∈ rle (levelsP bits), p.2 ≤ 2) ∧ ∀ p, (rle (levelsP bits)).head? = some p → p.2 = 1
  | [] => ⟨fun p hp => (by cases hp), fun p hp => (by cases hp)⟩
  | b :: r => by
    obtain ⟨ih1, ih2⟩ := levels_runs r
    have h1 : ∀ p ∈ rle ((1 - b) :: levelsP r), p.2 ≤ 2 := by
      rw [rle]
      split
      · intro p hp; simp at hp; subst hp; exact Nat.le_succ 1
      · rename_i y n t h
        rw [h] at ih1 ih2
        have hn : n = 1 := ih2 (y, n) rfl
        subst hn
        split
        · intro p hp
          rcases List.mem_cons.1 hp with rfl | hp
          · exact Nat.le_refl _
          · exact ih1 p (by simp [hp])
        · intro p hp
          rcases List.mem_cons.1 hp with rfl | hp
          · exact Nat.le_succ 1
          · exact ih1 p hp
    have h2 : rle (b :: (1 - b) :: levelsP r) = (b, 1) :: rle ((1 - b) :: levelsP r) := rle_one (by simp; omega)
    rw [levelsP_cons, h2]
    refine ⟨fun p hp => ?_, fun p hp => by simp at hp; subst hp; rfl⟩
    rcases List.mem_cons.1 hp with rfl | hp
    · exact Nat.le_succ 1
    · exact h1 p hp
/-- Bits, levels, ticks and back: the clock may drift. -/
theorem read_ticks {levels bits ws : List Int} {W : Nat} (hb : bitsFromL levels = (bits, true)) (hw : okW ws = true) (hW : 1 ≤ W ∧ W ≤ 40) (hnear : ∀ x ∈ ws, 3 * (W : Int) ≤ 4 * x ∧ 4 * x < 5 * (W : Int)) : levelsFromL (ticksP ws 0 levels) (W : Int) = (levels, true) := by
  obtain ⟨h1, h2, h3⟩ := bitsFromL_inv hb
  obtain ⟨_, h4, h5, h6⟩ := levels_bitsFrom hb
  have hn : ∀ i, 3 * W ≤ 4 * wdAt ws i ∧ 4 * wdAt ws i < 5 * W := fun i => by
    have := hnear _ (List.mem_of_getElem? (wdAt_get hw i).1); omega
  have hr := (levels_runs bits).1
  rw [h4] at hr
  have h7 := lev_ticks hn 0 (rle_ok levels) hr
  rw [rle_flat] at h7
  exact levelsFromL_yes (okBits_iff.2 fun x hx => okBits_iff.1 h1 x (ticksP_mem hx)) hW (by have := ticksP_len hw levels 0; omega) h7.1 h2
theorem levP_runs (w : Nat) : ∀ {rs : List (Int × Nat)} {o : List Int}, okR rs → levP w rs = some o → ∃ rs', o = flatR rs' ∧ okR rs' ∧ (∀ p ∈ rs', p.2 ≤ 2) ∧ rs'.length = rs.length ∧ rs'.head?.map (·.1) = rs.head?.map (·.1)
  | [], o, _, h => by injection h with h; subst h; exact ⟨[], rfl, trivial, fun _ hp => (by cases hp), rfl, rfl⟩
  | p :: t, o, ho, h => by
    unfold levP at h
    split at h
    · cases h
    · rename_i h0
      cases ht : levP w t with
      | none => rw [ht] at h; cases h
      | some y =>
        rw [ht] at h; injection h with h; subst h
        obtain ⟨rs', e1, e2, e3, e4, e5⟩ := levP_runs w ho.2.2 ht
        refine ⟨(p.1, lasting p.2 w) :: rs', by rw [flatR_cons, e1], ⟨by show 1 ≤ lasting p.2 w; omega, fun q hq => ?_, e2⟩, fun q hq => ?_, by simp [e4], rfl⟩
        · rw [hq] at e5
          cases hh : t.head? with
          | none => rw [hh] at e5; cases e5
          | some q' =>
            rw [hh] at e5
            have e6 : q.1 = q'.1 := by simpa using e5
            show q.1 ≠ p.1
            rw [e6]
            exact ho.2.1 q' hh
        · rcases List.mem_cons.1 hq with rfl | hq
          · exact lasting_le _ _
          · exact e3 q hq
theorem levP_bits {w : Nat} : ∀ {rs : List (Int × Nat)} {o : List Int}, (∀ p ∈ rs, p.1 = 0 ∨ p.1 = 1) → levP w rs = some o → okBits o = true
  | [], o, _, h => by injection h with h; subst h; rfl
  | p :: t, o, hb, h => by
    unfold levP at h
    split at h
    · cases h
    · cases ht : levP w t with
      | none => rw [ht] at h; cases h
      | some y =>
        rw [ht] at h; injection h with h; subst h
        have ih := levP_bits (fun q hq => hb q (by simp [hq])) ht
        refine okBits_iff.2 fun x hx => ?_
        rcases List.mem_append.1 hx with hx | hx
        · rw [(List.mem_replicate.1 hx).2]; exact hb p (by simp)
        · exact okBits_iff.1 ih x hx
/-- Levels that were read, sent by a right clock. -/
theorem levels_even {ts levels : List Int} {w : Int} (h : levelsFromL ts w = (levels, true)) : okBits levels = true ∧ levels.length ≤ 400 ∧ okW [w] = true ∧ levelsFromL (ticksP [w] 0 levels) w = (levels, true) ∧ (runsL (ticksP [w] 0 levels)).length = (runsL ts).length := by
  obtain ⟨h1, h2, h3, h4, h5⟩ := levelsFromL_inv h
  obtain ⟨W, rfl⟩ : ∃ W : Nat, w = (W : Int) := ⟨w.toNat, by omega⟩
  rw [Int.toNat_natCast] at h4
  have hb : okBits levels = true := levP_bits (fun p hp => by
    have := okR_mem (rle_ok ts) p hp
    refine okBits_iff.1 h1 p.1 ?_
    rw [← rle_flat ts]
    exact List.mem_flatMap.2 ⟨p, hp, List.mem_replicate.2 ⟨by omega, rfl⟩⟩) h4
  have hw : okW [(W : Int)] = true := okW_iff.2 ⟨by simp, fun x hx => by simp at hx; omega⟩
  obtain ⟨rs', e1, e2, e3, e4, _⟩ := levP_runs W (rle_ok ts) h4
  have hn : ∀ i, 3 * W ≤ 4 * wdAt [(W : Int)] i ∧ 4 * wdAt [(W : Int)] i < 5 * W := fun i => by
    have : wdAt [(W : Int)] i = W := by simp [wdAt]
    omega
  obtain ⟨e6, e7⟩ := lev_ticks hn 0 e2 e3
  rw [← e1] at e6 e7
  refine ⟨hb, h5, hw, levelsFromL_yes (okBits_iff.2 fun x hx => okBits_iff.1 hb x (ticksP_mem hx)) (by omega) (by have := ticksP_len hw levels 0; omega) e6 h5, ?_⟩
  rw [runsL_len, runsL_len, e7, e4]

/- The bits of ticks. -/
def readLineL (ts : List Int) (w : Int) : List Int × Bool := if (levelsFromL ts w).2 = true then bitsFromL (levelsFromL ts w).1 else ([], false)
theorem readLineL_yes {ts o : List Int} {w : Int} (h : levelsFromL ts w = (o, true)) : readLineL ts w = bitsFromL o := by unfold readLineL; rw [h]; rfl
theorem readLineL_no {ts o : List Int} {w : Int} (h : levelsFromL ts w = (o, false)) : readLineL ts w = ([], false) := by unfold readLineL; rw [h]; rfl
theorem readLineL_inv {ts o : List Int} {w : Int} (h : readLineL ts w = (o, true)) : ∃ lv, levelsFromL ts w = (lv, true) ∧ bitsFromL lv = (o, true) := by
  cases hl : levelsFromL ts w with
  | mk lv b =>
    cases b with
    | false => rw [readLineL_no hl] at h; injection h with _ h; cases h
    | true => exact ⟨lv, rfl, by rw [readLineL_yes hl] at h; exact h⟩
theorem readLineL_false {ts o : List Int} {w : Int} (h : readLineL ts w = (o, false)) : o = [] := by
  cases hl : levelsFromL ts w with
  | mk lv b =>
    cases b with
    | false => rw [readLineL_no hl] at h; injection h with h _; exact h.symm
    | true => rw [readLineL_yes hl] at h; exact bitsFromL_false h
end Go.Proofs.Ytbeebaiionlcoaa
