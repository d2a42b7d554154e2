/-
  Chapter 14's mathematics: frames, tokens, which frames are let through, when they go on, and what the laws say of them. Plain mathematics about lists, no condition.
-/
import Derived.Test.YtnloejcfakcpfaaMathJob
namespace Go.Proofs.Ytnloejcfakcpfaa

theorem dj_atS {js : List Duo} {i : Nat} {z : Duo} (h : js[i]? = some z) : dj js i = z := by unfold dj; rw [List.getD_eq_getElem?_getD, h]; rfl
theorem dj_someS {js : List Duo} {i : Nat} (h : i < js.length) : js[i]? = some (dj js i) := by unfold dj; rw [List.getD_eq_getElem?_getD, List.getElem?_eq_getElem h]; rfl
theorem dj_memS {js : List Duo} {i : Nat} (h : i < js.length) : dj js i ∈ js := List.mem_of_getElem? (dj_someS h)
theorem dj_front {js ks : List Duo} {i : Nat} (h : i < js.length) : dj (js ++ ks) i = dj js i := by unfold dj; rw [List.getD_eq_getElem?_getD, List.getD_eq_getElem?_getD, List.getElem?_append_left h]
theorem dj_last {js : List Duo} {x : Duo} : dj (js ++ [x]) js.length = x := by unfold dj; rw [List.getD_eq_getElem?_getD, List.getElem?_append_right (Nat.le_refl _), Nat.sub_self]; rfl

/- What frames are. -/
def puOk (h : Duo) : Prop := (0 ≤ h.1 ∧ h.1 ≤ 2000) ∧ 1 ≤ h.2 ∧ h.2 ≤ 50
instance (h : Duo) : Decidable (puOk h) := by unfold puOk; infer_instance
def ascTo (hs : List Duo) (k : Nat) : Prop := ∀ i, i < k - 1 → (dj hs i).1 ≤ (dj hs (i + 1)).1
instance (hs : List Duo) (k : Nat) : Decidable (ascTo hs k) := by unfold ascTo; infer_instance
def pulOk (hs : List Duo) : Prop := (∀ h ∈ hs, puOk h) ∧ ascTo hs hs.length ∧ hs.length ≤ 60
instance (hs : List Duo) : Decidable (pulOk hs) := by unfold pulOk; infer_instance
def shOk (r b : Int) (hs : List Duo) : Prop := (1 ≤ r ∧ r ≤ 20) ∧ (1 ≤ b ∧ b ≤ 100) ∧ pulOk hs
instance (r b : Int) (hs : List Duo) : Decidable (shOk r b hs) := by unfold shOk; infer_instance
theorem pu_at {hs : List Duo} (h : pulOk hs) {i : Nat} (hi : i < hs.length) : puOk (dj hs i) := h.1 _ (dj_memS hi)
theorem asc_le {hs : List Duo} {k : Nat} (h : ascTo hs k) {i j : Nat} (hij : i ≤ j) (hj : j < k) : (dj hs i).1 ≤ (dj hs j).1 := by
  induction j with
  | zero => rw [show i = 0 by omega]; exact Int.le_refl _
  | succ j ih =>
    by_cases he : i = j + 1
    · subst he; exact Int.le_refl _
    · exact Int.le_trans (ih (by omega) (by omega)) (h j (by omega))

/- Tokens. -/
def tok (r b f t : Int) : Int := b - max 0 (f - r * t)
def takeF (r f t m : Int) : Int := max f (r * t) + m
theorem tok_le (r b f t : Int) : tok r b f t ≤ b := by unfold tok; omega
theorem tok_zero (r b : Int) : tok r b 0 0 = b := by unfold tok; simp
theorem tok_on {r b f a t : Int} (hr : 0 ≤ r) (h : a ≤ t) : min b (tok r b f a + r * (t - a)) = tok r b f t := by
  have h1 : r * (t - a) = r * t - r * a := Int.mul_sub r t a
  have h2 : 0 ≤ r * (t - a) := Int.mul_nonneg hr (by omega)
  unfold tok
  generalize r * (t - a) = d at *
  generalize r * t = x at *
  generalize r * a = y at *
  omega
theorem tok_take {r b f t m : Int} (hm : 0 ≤ m) : tok r b (takeF r f t m) t = tok r b f t - m := by
  unfold tok takeF
  generalize r * t = x
  omega
theorem tok_mono {r b f a t : Int} (hr : 0 ≤ r) (h : a ≤ t) : tok r b f a ≤ tok r b f t := by
  have h2 : r * a ≤ r * t := Int.mul_le_mul_of_nonneg_left h hr
  unfold tok
  generalize r * t = x at *
  generalize r * a = y at *
  omega

/- Which frames are let through. -/
def passB (r b f : Int) (h : Duo) : Bool := decide (h.2 ≤ tok r b f h.1)
def polF (r b f : Int) (h : Duo) : Int := if passB r b f h = true then takeF r f h.1 h.2 else f
def fullTo (r b : Int) (hs : List Duo) : Nat → Int
  | 0 => 0
  | k + 1 => polF r b (fullTo r b hs k) (dj hs k)
def thr (r b : Int) (hs : List Duo) (k : Nat) : Bool := passB r b (fullTo r b hs k) (dj hs k)
def polTo (r b : Int) (hs : List Duo) (k : Nat) : List Bool := (List.range k).map (thr r b hs)
def polI (r b : Int) (hs : List Duo) : List Bool := if shOk r b hs then polTo r b hs hs.length else []
def confP (r b : Int) (hs : List Duo) : Prop := shOk r b hs ∧ ∀ k, k < hs.length → thr r b hs k = true
instance (r b : Int) (hs : List Duo) : Decidable (confP r b hs) := by unfold confP; infer_instance
theorem polTo_len (r b : Int) (hs : List Duo) (k : Nat) : (polTo r b hs k).length = k := by simp [polTo]
theorem polTo_succ (r b : Int) (hs : List Duo) (k : Nat) : polTo r b hs (k + 1) = polTo r b hs k ++ [thr r b hs k] := by simp [polTo, List.range_succ]
theorem polTo_at (r b : Int) (hs : List Duo) {k i : Nat} (h : i < k) : (polTo r b hs k)[i]? = some (thr r b hs i) := by simp [polTo, h]
theorem fullTo_succ (r b : Int) (hs : List Duo) (k : Nat) : fullTo r b hs (k + 1) = if thr r b hs k = true then takeF r (fullTo r b hs k) (dj hs k).1 (dj hs k).2 else fullTo r b hs k := rfl

/-- How full it can be. -/
theorem take_le {r b f t m : Int} (hp : m ≤ tok r b f t) : takeF r f t m ≤ b + r * t := by
  unfold tok at hp; unfold takeF
  generalize r * t = x at *
  omega
theorem full_bound {r b : Int} {hs : List Duo} (h : shOk r b hs) : ∀ k, k ≤ hs.length → 0 ≤ fullTo r b hs k ∧ fullTo r b hs k ≤ 40100 ∧ (∀ t : Int, 0 ≤ t → (∀ i, i < k → (dj hs i).1 ≤ t) → 0 ≤ tok r b (fullTo r b hs k) t)
  | 0, _ => by
    have h2 := h.2.1
    refine ⟨Int.le_refl _, by show (0 : Int) ≤ 40100; omega, fun t ht _ => ?_⟩
    have := Int.mul_nonneg (show 0 ≤ r by have := h.1; omega) ht
    unfold tok fullTo
    omega
  | k + 1, hk => by
    obtain ⟨i1, i2, i3⟩ := full_bound h k (by omega)
    have hpu := pu_at h.2.2 (i := k) (by omega)
    obtain ⟨⟨a0, a1⟩, s0, s1⟩ := hpu
    have hr := h.1
    have hb := h.2.1
    have q0 := Int.mul_nonneg (show 0 ≤ r by omega) a0
    have q1 : r * (dj hs k).1 ≤ 20 * 2000 := Int.mul_le_mul hr.2 a1 a0 (by omega)
    rw [fullTo_succ]
    by_cases hp : thr r b hs k = true
    · rw [if_pos hp]
      have hp2 : (dj hs k).2 ≤ tok r b (fullTo r b hs k) (dj hs k).1 := by simpa [thr, passB] using hp
      have ht := take_le hp2
      refine ⟨by unfold takeF; omega, by omega, fun t h0 hi => ?_⟩
      have hle := hi k (by omega)
      have q2 : r * (dj hs k).1 ≤ r * t := Int.mul_le_mul_of_nonneg_left hle (by omega)
      unfold tok
      generalize takeF r (fullTo r b hs k) (dj hs k).1 (dj hs k).2 = F at *
      omega
    · rw [if_neg hp]
      exact ⟨i1, i2, fun t h0 hi => i3 t h0 (fun i hik => hi i (by omega))⟩

/- All that are let through: sums of sizes. -/
def sumS (hs : List Duo) (i : Nat) : Nat → Int
  | 0 => 0
  | n + 1 => sumS hs i n + (dj hs (i + n)).2
def allF (r : Int) (hs : List Duo) : Nat → Int
  | 0 => 0
  | k + 1 => takeF r (allF r hs k) (dj hs k).1 (dj hs k).2
theorem all_full_to {r b : Int} {hs : List Duo} : ∀ k, (∀ i, i < k → thr r b hs i = true) → fullTo r b hs k = allF r hs k
  | 0, _ => rfl
  | k + 1, h => by rw [fullTo_succ, if_pos (h k (by omega)), all_full_to k (fun i hi => h i (by omega))]; rfl
theorem pass_iff {r b f : Int} {h : Duo} : (passB r b f h = true) ↔ takeF r f h.1 h.2 ≤ b + r * h.1 := by
  unfold passB tok takeF
  rw [decide_eq_true_iff]
  generalize r * h.1 = x
  omega
theorem allF_le {r : Int} {hs : List Duo} : ∀ (k : Nat) (X : Int), 0 ≤ X → (∀ i, i < k → 0 ≤ r * (dj hs i).1) → ((allF r hs k ≤ X) ↔ ∀ i, i < k → r * (dj hs i).1 + sumS hs i (k - i) ≤ X)
  | 0, X, hX, _ => ⟨fun _ i hi => by omega, fun _ => hX⟩
  | k + 1, X, hX, ha => by
    have hk := ha k (by omega)
    show takeF r (allF r hs k) (dj hs k).1 (dj hs k).2 ≤ X ↔ _
    have e1 : ∀ i, i ≤ k → sumS hs i (k + 1 - i) = sumS hs i (k - i) + (dj hs k).2 := fun i hi => by
      rw [show k + 1 - i = (k - i) + 1 by omega, sumS, show i + (k - i) = k by omega]
    have e2 : sumS hs k (k + 1 - k) = (dj hs k).2 := by rw [e1 k (Nat.le_refl _), Nat.sub_self, sumS]; omega
    constructor
    · intro h i hi
      have h2 : allF r hs k ≤ X - (dj hs k).2 ∧ r * (dj hs k).1 ≤ X - (dj hs k).2 := by unfold takeF at h; omega
      by_cases he : i = k
      · subst he; rw [e2]; omega
      · have := (allF_le k (X - (dj hs k).2) (by omega) (fun i hi => ha i (by omega))).1 h2.1 i (by omega)
        rw [e1 i (by omega)]; omega
    · intro h
      have h1 := h k (by omega)
      rw [e2] at h1
      have h2 := (allF_le k (X - (dj hs k).2) (by omega) (fun i hi => ha i (by omega))).2 (fun i hi => by have := h i (by omega); rw [e1 i (by omega)] at this; omega)
      unfold takeF
      omega
/-- From any frame to any later one. -/
def goodP (r b : Int) (hs : List Duo) (i j : Nat) : Prop := sumS hs i (j + 1) ≤ b + r * ((dj hs (i + j)).1 - (dj hs i).1)
instance (r b : Int) (hs : List Duo) (i j : Nat) : Decidable (goodP r b hs i j) := by unfold goodP; infer_instance
theorem conf_iff {r b : Int} {hs : List Duo} (h : shOk r b hs) : confP r b hs ↔ ∀ i, i < hs.length → ∀ j, j < hs.length - i → goodP r b hs i j := by
  have hr := h.1
  have hb := h.2.1
  have ha : ∀ i, i < hs.length → 0 ≤ r * (dj hs i).1 := fun i hi => Int.mul_nonneg (by omega) (pu_at h.2.2 hi).1.1
  have key : ∀ k, k < hs.length → ((allF r hs (k + 1) ≤ b + r * (dj hs k).1) ↔ ∀ i, i ≤ k → goodP r b hs i (k - i)) := by
    intro k hk
    have := allF_le (r := r) (hs := hs) (k + 1) (b + r * (dj hs k).1) (by have := ha k hk; omega) (fun i hi => ha i (by omega))
    rw [this]
    have e : ∀ i, i ≤ k → (goodP r b hs i (k - i) ↔ r * (dj hs i).1 + sumS hs i (k + 1 - i) ≤ b + r * (dj hs k).1) := by
      intro i hi
      unfold goodP
      rw [show k - i + 1 = k + 1 - i by omega, show i + (k - i) = k by omega, Int.mul_sub]
      omega
    exact ⟨fun hh i hi => (e i hi).2 (hh i (by omega)), fun hh i hi => (e i (by omega)).1 (hh i (by omega))⟩
  constructor
  · rintro ⟨_, hc⟩ i hi j hj
    have e := all_full_to (r := r) (b := b) (hs := hs) (i + j) (fun q hq => hc q (by omega))
    have h1 := hc (i + j) (by omega)
    unfold thr at h1
    rw [e, pass_iff] at h1
    have := (key (i + j) (by omega)).1 h1 i (by omega)
    rwa [show i + j - i = j by omega] at this
  · intro hh
    refine ⟨h, fun k hk => ?_⟩
    have hall : ∀ m, m ≤ hs.length → ∀ k, k < m → thr r b hs k = true := by
      intro m
      induction m with
      | zero => intro _ k hk; omega
      | succ m ih =>
        intro hm k hk
        by_cases he : k = m
        · subst he
          unfold thr
          rw [all_full_to k (fun q hq => ih (by omega) q hq), pass_iff]
          exact (key k (by omega)).2 (fun i hi => hh i (by omega) (k - i) (by omega))
        · exact ih (by omega) k (by omega)
    exact hall _ (Nat.le_refl _) k hk
theorem conf_mono {r b b' : Int} {hs : List Duo} (h : confP r b hs) (hb : b ≤ b') (hb' : b' ≤ 100) : confP r b' hs := by
  have h1 := h.1
  have h2 : shOk r b' hs := ⟨h1.1, by have := h1.2.1; omega, h1.2.2⟩
  rw [conf_iff h2]
  intro i hi j hj
  have := (conf_iff h1).1 h i hi j hj
  unfold goodP at *
  omega

/- The least burst. -/
def lead (p : Nat → Bool) : Nat → Nat → Nat
  | i, 0 => i
  | i, f + 1 => if p i = true then i else lead p (i + 1) f
theorem lead_ge (p : Nat → Bool) : ∀ (f i : Nat), i ≤ lead p i f ∧ lead p i f ≤ i + f ∧ (∀ j, i ≤ j → j < lead p i f → p j = false) ∧ (lead p i f < i + f → p (lead p i f) = true)
  | 0, i => ⟨Nat.le_refl _, Nat.le_refl _, fun j h1 h2 => by unfold lead at h2; omega, fun h => by unfold lead at h; omega⟩
  | f + 1, i => by
    unfold lead
    by_cases hp : p i = true
    · rw [if_pos hp]; exact ⟨Nat.le_refl _, by omega, fun j h1 h2 => by omega, fun _ => hp⟩
    · rw [if_neg hp]
      obtain ⟨a, b, c, d⟩ := lead_ge p f (i + 1)
      refine ⟨by omega, by omega, fun j h1 h2 => ?_, fun h => d (by omega)⟩
      by_cases he : j = i
      · subst he; simpa using hp
      · exact c j (by omega) h2
def leastP (r : Int) (hs : List Duo) (k : Nat) : Bool := decide (confP r ((k : Int) + 1) hs)
def leastN (r : Int) (hs : List Duo) : Nat := lead (leastP r hs) 0 100
def leastI (r : Int) (hs : List Duo) : Int := if leastN r hs < 100 then (leastN r hs : Int) + 1 else -1
theorem least_iff {r : Int} {hs : List Duo} {k : Nat} (hk : k < 100) : leastP r hs k = decide (leastN r hs ≤ k) := by
  obtain ⟨_, b, c, d⟩ := lead_ge (leastP r hs) 100 0
  by_cases h : leastN r hs ≤ k
  · have h1 := d (by unfold leastN at h; omega)
    rw [decide_eq_true h]
    have h2 : confP r ((leastN r hs : Int) + 1) hs := of_decide_eq_true h1
    exact decide_eq_true (conf_mono h2 (by omega) (by omega))
  · rw [decide_eq_false h]
    exact c k (Nat.zero_le _) (by unfold leastN at h; omega)
theorem leastN_le (r : Int) (hs : List Duo) : leastN r hs ≤ 100 := by have := (lead_ge (leastP r hs) 100 0).2.1; unfold leastN; omega
/-- The law of the least burst. -/
theorem least_law {r b : Int} {hs : List Duo} (h1 : 1 ≤ b) (h2 : b ≤ 100) : decide (confP r b hs) = (decide (0 < leastI r hs) && decide (leastI r hs ≤ b)) := by
  obtain ⟨k, hkb⟩ := Int.eq_ofNat_of_zero_le (show 0 ≤ b - 1 by omega)
  obtain rfl : b = (k : Int) + 1 := by omega
  have := least_iff (r := r) (hs := hs) (k := k) (by omega)
  have e : decide (confP r ((k : Int) + 1) hs) = leastP r hs k := rfl
  rw [e, this]
  have := leastN_le r hs
  unfold leastI
  by_cases h : leastN r hs < 100
  · rw [if_pos h]; by_cases hh : leastN r hs ≤ k
    · rw [decide_eq_true hh, decide_eq_true (by omega), decide_eq_true (by omega)]; rfl
    · rw [decide_eq_false hh, decide_eq_true (by omega), decide_eq_false (show ¬ ((leastN r hs : Int) + 1 ≤ (k : Int) + 1) by omega)]; rfl
  · rw [if_neg h, decide_eq_false (by omega), decide_eq_false (by omega)]; rfl
theorem least_bnd (r : Int) (hs : List Duo) : leastI r hs = -1 ∨ 1 ≤ leastI r hs ∧ leastI r hs ≤ 100 := by
  unfold leastI
  split <;> omega
theorem least_less {r : Int} {hs : List Duo} (h : 2 ≤ leastI r hs) : decide (confP r (leastI r hs - 1) hs) = false := by
  have := least_bnd r hs
  rw [least_law (by omega) (by omega), decide_eq_false (show ¬ (leastI r hs ≤ leastI r hs - 1) by omega), Bool.and_false]

/- When frames go on. -/
def goAt (r b f fr m : Int) : Int := fr + (max 0 (m - tok r b f fr) + r - 1) / r
theorem goAt_ge {r b f fr m : Int} (hr : 1 ≤ r) : fr ≤ goAt r b f fr m := by
  have : 0 ≤ (max 0 (m - tok r b f fr) + r - 1) / r := Int.ediv_nonneg (by omega) (by omega)
  unfold goAt; omega
theorem goAt_le {r b f fr m : Int} (hr : 1 ≤ r) : goAt r b f fr m ≤ fr + max 0 (m - tok r b f fr) := by
  have h0 : 0 ≤ max 0 (m - tok r b f fr) := by omega
  unfold goAt
  generalize max 0 (m - tok r b f fr) = l at *
  have h1 : (l + r - 1) / r < l + 1 := by
    refine Int.ediv_lt_of_lt_mul (by omega) ?_
    have : l * 1 ≤ l * r := Int.mul_le_mul_of_nonneg_left hr h0
    rw [Int.add_mul]; omega
  omega
theorem goAt_before {r b f fr m t : Int} (hr : 1 ≤ r) (h1 : fr ≤ t) (h2 : t < goAt r b f fr m) : tok r b f t < m := by
  unfold goAt at h2
  have h4 : 0 < (max 0 (m - tok r b f fr) + r - 1) / r := by omega
  have h5 : (t - fr + 1) * r ≤ max 0 (m - tok r b f fr) + r - 1 := (Int.le_ediv_iff_mul_le (by omega)).1 (by omega)
  have e : (t - fr + 1) * r = r * t - r * fr + r := by rw [Int.add_mul, Int.sub_mul, Int.mul_comm t r, Int.mul_comm fr r]; omega
  rw [e] at h5
  have q : r * fr ≤ r * t := Int.mul_le_mul_of_nonneg_left h1 (by omega)
  unfold tok at *
  generalize r * t = x at *
  generalize r * fr = y at *
  omega
theorem goAt_there {r b f fr m : Int} (hr : 1 ≤ r) (hm : m ≤ b) : m ≤ tok r b f (goAt r b f fr m) := by
  have h5 : goAt r b f fr m - fr ≤ (max 0 (m - tok r b f fr) + r - 1) / r := by unfold goAt; omega
  have h6 : (max 0 (m - tok r b f fr) + r - 1) / r < goAt r b f fr m - fr + 1 := by unfold goAt; omega
  have h7 := (Int.ediv_lt_iff_lt_mul (by omega)).1 h6
  generalize goAt r b f fr m = t at *
  have e : (t - fr + 1) * r = r * t - r * fr + r := by rw [Int.add_mul, Int.sub_mul, Int.mul_comm t r, Int.mul_comm fr r]; omega
  rw [e] at h7
  unfold tok at *
  generalize r * t = x at *
  generalize r * fr = y at *
  omega
theorem goAt_self {r b f fr m : Int} (hr : 1 ≤ r) (h : m ≤ tok r b f fr) : goAt r b f fr m = fr := by
  unfold goAt
  rw [show max 0 (m - tok r b f fr) + r - 1 = r - 1 by omega, Int.ediv_eq_zero_of_lt (by omega) (by omega)]
  omega
/-- Full, and the time of the last one, behind k frames. -/
def shS (r b : Int) (hs : List Duo) : Nat → Int × Int
  | 0 => (0, 0)
  | k + 1 =>
    let t := goAt r b (shS r b hs k).1 (max (dj hs k).1 (shS r b hs k).2) (dj hs k).2
    (takeF r (shS r b hs k).1 t (dj hs k).2, t)
def shT (r b : Int) (hs : List Duo) (k : Nat) : Int := goAt r b (shS r b hs k).1 (max (dj hs k).1 (shS r b hs k).2) (dj hs k).2
theorem shS_succ (r b : Int) (hs : List Duo) (k : Nat) : shS r b hs (k + 1) = (takeF r (shS r b hs k).1 (shT r b hs k) (dj hs k).2, shT r b hs k) := rfl
def shpTo (r b : Int) (hs : List Duo) (k : Nat) : List Int := (List.range k).map (shT r b hs)
def sizOk (b : Int) (hs : List Duo) : Prop := ∀ h ∈ hs, h.2 ≤ b
instance (b : Int) (hs : List Duo) : Decidable (sizOk b hs) := by unfold sizOk; infer_instance
def shpI (r b : Int) (hs : List Duo) : List Int := if shOk r b hs ∧ sizOk b hs then shpTo r b hs hs.length else []
theorem shpTo_len (r b : Int) (hs : List Duo) (k : Nat) : (shpTo r b hs k).length = k := by simp [shpTo]
theorem shpTo_succ (r b : Int) (hs : List Duo) (k : Nat) : shpTo r b hs (k + 1) = shpTo r b hs k ++ [shT r b hs k] := by simp [shpTo, List.range_succ]
theorem shpTo_at (r b : Int) (hs : List Duo) {k i : Nat} (h : i < k) : (shpTo r b hs k)[i]? = some (shT r b hs i) := by simp [shpTo, h]
theorem siz_at {b : Int} {hs : List Duo} (h : sizOk b hs) {i : Nat} (hi : i < hs.length) : (dj hs i).2 ≤ b := h _ (dj_memS hi)
theorem shp_bound {r b : Int} {hs : List Duo} (h : shOk r b hs) (hz : sizOk b hs) : ∀ k, k ≤ hs.length → 0 ≤ (shS r b hs k).1 ∧ (shS r b hs k).1 ≤ b + r * (shS r b hs k).2 ∧ 0 ≤ (shS r b hs k).2 ∧ (shS r b hs k).2 ≤ 2000 + 50 * (k : Int)
  | 0, _ => by
    have := h.2.1
    refine ⟨Int.le_refl _, ?_, Int.le_refl _, ?_⟩
    · show (0 : Int) ≤ b + r * 0; rw [Int.mul_zero]; omega
    · show (0 : Int) ≤ _; omega
  | k + 1, hk => by
    obtain ⟨i1, i2, i3, i4⟩ := shp_bound h hz k (by omega)
    obtain ⟨⟨a0, a1⟩, s0, s1⟩ := pu_at h.2.2 (i := k) (by omega)
    have hsz := siz_at hz (i := k) (by omega)
    have hr := h.1
    rw [shS_succ]
    simp only
    have g1 := goAt_ge (r := r) (b := b) (f := (shS r b hs k).1) (fr := max (dj hs k).1 (shS r b hs k).2) (m := (dj hs k).2) hr.1
    have g2 := goAt_le (r := r) (b := b) (f := (shS r b hs k).1) (fr := max (dj hs k).1 (shS r b hs k).2) (m := (dj hs k).2) hr.1
    have g3 := goAt_there (r := r) (b := b) (f := (shS r b hs k).1) (fr := max (dj hs k).1 (shS r b hs k).2) (m := (dj hs k).2) hr.1 hsz
    have e : shT r b hs k = goAt r b (shS r b hs k).1 (max (dj hs k).1 (shS r b hs k).2) (dj hs k).2 := rfl
    rw [← e] at g1 g2 g3
    have g4 := take_le g3
    have q : r * (shS r b hs k).2 ≤ r * (max (dj hs k).1 (shS r b hs k).2) := Int.mul_le_mul_of_nonneg_left (by omega) (by omega)
    have q2 : 0 ≤ tok r b (shS r b hs k).1 (max (dj hs k).1 (shS r b hs k).2) := by
      have hb := h.2.1
      unfold tok
      generalize r * max (dj hs k).1 (shS r b hs k).2 = x at *
      generalize r * (shS r b hs k).2 = y at *
      omega
    exact ⟨by unfold takeF; omega, g4, by omega, by omega⟩
theorem shT_eq (r b : Int) (hs : List Duo) (k : Nat) : (shS r b hs (k + 1)).2 = shT r b hs k := rfl
theorem shT_ge {r b : Int} {hs : List Duo} (hr : 1 ≤ r) (k : Nat) : (dj hs k).1 ≤ shT r b hs k ∧ (shS r b hs k).2 ≤ shT r b hs k := by
  have := goAt_ge (r := r) (b := b) (f := (shS r b hs k).1) (fr := max (dj hs k).1 (shS r b hs k).2) (m := (dj hs k).2) hr
  unfold shT; omega
theorem shT_pass {r b : Int} {hs : List Duo} (hr : 1 ≤ r) (hz : sizOk b hs) {k : Nat} (hk : k < hs.length) : (dj hs k).2 ≤ tok r b (shS r b hs k).1 (shT r b hs k) :=
  goAt_there hr (siz_at hz hk)
theorem shT_bound {r b : Int} {hs : List Duo} (h : shOk r b hs) (hz : sizOk b hs) {k : Nat} (hk : k < hs.length) : 0 ≤ shT r b hs k ∧ shT r b hs k ≤ 5000 := by
  have := shp_bound h hz (k + 1) (by omega)
  rw [shT_eq] at this
  have := h.2.2.2.2
  omega

/- Frames at other times. -/
def atTo (hs : List Duo) (ts : List Int) (k : Nat) : List Duo := (List.range k).map (fun i => (ts.getD i 0, (dj hs i).2))
theorem atTo_len (hs : List Duo) (ts : List Int) (k : Nat) : (atTo hs ts k).length = k := by simp [atTo]
theorem atTo_succ (hs : List Duo) (ts : List Int) (k : Nat) : atTo hs ts (k + 1) = atTo hs ts k ++ [(ts.getD k 0, (dj hs k).2)] := by simp [atTo, List.range_succ]
theorem atTo_at (hs : List Duo) (ts : List Int) {k i : Nat} (h : i < k) : dj (atTo hs ts k) i = (ts.getD i 0, (dj hs i).2) := dj_atS (by simp [atTo, h])
theorem atTo_puOk {hs : List Duo} {ts : List Int} {k : Nat} (hp : pulOk hs) (hk : k ≤ hs.length) (ht : ∀ i, i < k → 0 ≤ ts.getD i 0 ∧ ts.getD i 0 ≤ 2000) (ha : ∀ i, i + 1 < k → ts.getD i 0 ≤ ts.getD (i + 1) 0) : pulOk (atTo hs ts k) := by
  refine ⟨fun h hh => ?_, fun i hi => ?_, by rw [atTo_len]; have := hp.2.2; omega⟩
  · obtain ⟨i, hi, rfl⟩ := List.mem_map.1 hh
    have hik : i < k := by simpa using hi
    exact ⟨ht i hik, (pu_at hp (i := i) (by omega)).2⟩
  · rw [atTo_len] at hi
    rw [atTo_at _ _ (by omega), atTo_at _ _ (by omega)]
    exact ha i (by omega)
/-- As far as the times are those at which they go on, they are as full. -/
theorem atTo_full {r b : Int} {hs : List Duo} {ts : List Int} {k : Nat} (hr : 1 ≤ r) (hz : sizOk b hs) (hk : k ≤ hs.length) : ∀ m, m ≤ k → (∀ i, i < m → ts.getD i 0 = shT r b hs i) → fullTo r b (atTo hs ts k) m = (shS r b hs m).1 ∧ ∀ i, i < m → thr r b (atTo hs ts k) i = true
  | 0, _, _ => ⟨rfl, fun i hi => by omega⟩
  | m + 1, hm, h => by
    obtain ⟨i1, i2⟩ := atTo_full hr hz hk m (by omega) (fun i hi => h i (by omega))
    have hp : thr r b (atTo hs ts k) m = true := by
      unfold thr passB
      rw [i1, atTo_at _ _ (by omega), h m (by omega)]
      exact decide_eq_true (shT_pass hr hz (by omega))
    refine ⟨?_, fun i hi => ?_⟩
    · rw [fullTo_succ, if_pos hp, i1, atTo_at _ _ (by omega), h m (by omega), shS_succ]
    · by_cases he : i = m
      · subst he; exact hp
      · exact i2 i (by omega)
theorem shpTo_getD (r b : Int) (hs : List Duo) {k i : Nat} (h : i < k) : (shpTo r b hs k).getD i 0 = shT r b hs i := by rw [List.getD_eq_getElem?_getD, shpTo_at _ _ _ h]; rfl
/-- What goes on conforms. -/
theorem shape_conf {r b : Int} {hs : List Duo} (h : shOk r b hs) (hz : sizOk b hs) (hl : ∀ i, i < hs.length → shT r b hs i ≤ 2000) : confP r b (atTo hs (shpTo r b hs hs.length) hs.length) := by
  refine ⟨⟨h.1, h.2.1, atTo_puOk h.2.2 (Nat.le_refl _) (fun i hi => ?_) (fun i hi => ?_)⟩, fun k hk => ?_⟩
  · rw [shpTo_getD _ _ _ hi]; exact ⟨(shT_bound h hz hi).1, hl i hi⟩
  · rw [shpTo_getD _ _ _ hi, shpTo_getD _ _ _ (by omega)]
    have := (shT_ge (r := r) (b := b) (hs := hs) h.1.1 (i + 1)).2
    rwa [shT_eq] at this
  · rw [atTo_len] at hk
    exact (atTo_full h.1.1 hz (Nat.le_refl _) hs.length (Nat.le_refl _) (fun i hi => shpTo_getD _ _ _ hi)).2 k hk
/-- Not a step sooner. -/
theorem shape_first {r b : Int} {hs : List Duo} {ts : List Int} (h : shOk r b hs) (hz : sizOk b hs) {i : Nat} (hi : i < hs.length) (h1 : shT r b hs i ≠ (dj hs i).1) (h2 : 0 < i → shT r b hs (i - 1) ≠ shT r b hs i) (ht : ∀ q, q < i → ts.getD q 0 = shT r b hs q) (hti : ts.getD i 0 = shT r b hs i - 1) : ¬ confP r b (atTo hs ts (i + 1)) := by
  rintro ⟨_, hc⟩
  have hp := hc i (by rw [atTo_len]; omega)
  have hf := (atTo_full (r := r) (b := b) (hs := hs) (ts := ts) (k := i + 1) h.1.1 hz (by omega) i (by omega) ht).1
  unfold thr passB at hp
  rw [hf, atTo_at _ _ (by omega), hti] at hp
  have hp2 := of_decide_eq_true hp
  simp only at hp2
  have hge := shT_ge (r := r) (b := b) (hs := hs) h.1.1 i
  have h0 : (shS r b hs i).2 ≠ shT r b hs i ∨ i = 0 := by
    by_cases h0 : i = 0
    · exact .inr h0
    · have := h2 (by omega)
      obtain ⟨j, rfl⟩ : ∃ j, i = j + 1 := ⟨i - 1, by omega⟩
      exact .inl this
  have hfr : max (dj hs i).1 (shS r b hs i).2 ≤ shT r b hs i - 1 := by
    rcases h0 with h0 | h0
    · omega
    · subst h0
      have := (pu_at h.2.2 hi).1.1
      have e : (shS r b hs 0).2 = 0 := rfl
      rw [e]
      omega
  have := goAt_before (r := r) (b := b) (f := (shS r b hs i).1) (m := (dj hs i).2) h.1.1 hfr (by show shT r b hs i - 1 < shT r b hs i; omega)
  omega
/-- Frames that conform go on at once. -/
theorem shape_own {r b : Int} {hs : List Duo} (h : shOk r b hs) (hz : sizOk b hs) : confP r b hs ↔ ∀ k, k < hs.length → shT r b hs k = (dj hs k).1 := by
  have hr := h.1.1
  constructor
  · rintro ⟨_, hc⟩
    have key : ∀ m, m ≤ hs.length → (shS r b hs m).1 = fullTo r b hs m ∧ ((shS r b hs m).2 = if m = 0 then 0 else (dj hs (m - 1)).1) ∧ ∀ k, k < m → shT r b hs k = (dj hs k).1 := by
      intro m
      induction m with
      | zero => intro _; exact ⟨rfl, rfl, fun k hk => by omega⟩
      | succ m ih =>
        intro hm
        obtain ⟨i1, i2, i3⟩ := ih (by omega)
        have hp := hc m (by omega)
        have hl : max (dj hs m).1 (shS r b hs m).2 = (dj hs m).1 := by
          rw [i2]
          by_cases h0 : m = 0
          · rw [if_pos h0]; have := (pu_at h.2.2 (i := m) (by omega)).1.1; omega
          · rw [if_neg h0]; have := asc_le h.2.2.2.1 (i := m - 1) (j := m) (by omega) (by omega); omega
        have ht : shT r b hs m = (dj hs m).1 := by
          unfold shT
          rw [hl, i1]
          exact goAt_self hr (by simpa [thr, passB] using hp)
        refine ⟨?_, ?_, fun k hk => ?_⟩
        · rw [shS_succ, fullTo_succ, if_pos hp, i1, ht]
        · rw [shT_eq, if_neg (by omega)]; exact ht
        · by_cases he : k = m
          · subst he; exact ht
          · exact i3 k (by omega)
    exact (key hs.length (Nat.le_refl _)).2.2
  · intro ht
    refine ⟨h, ?_⟩
    have key : ∀ m, m ≤ hs.length → fullTo r b hs m = (shS r b hs m).1 ∧ ∀ k, k < m → thr r b hs k = true := by
      intro m
      induction m with
      | zero => intro _; exact ⟨rfl, fun k hk => by omega⟩
      | succ m ih =>
        intro hm
        obtain ⟨i1, i2⟩ := ih (by omega)
        have hp : thr r b hs m = true := by
          unfold thr passB
          rw [i1]
          have := shT_pass (r := r) (b := b) (hs := hs) hr hz (k := m) (by omega)
          rw [ht m (by omega)] at this
          exact decide_eq_true this
        refine ⟨?_, fun k hk => ?_⟩
        · rw [fullTo_succ, if_pos hp, i1, shS_succ, ht m (by omega)]
        · by_cases he : k = m
          · subst he; exact hp
          · exact i2 k (by omega)
    exact (key hs.length (Nat.le_refl _)).2
/-- Again, at the same times. -/
theorem shape_again {r b : Int} {hs : List Duo} (h : shOk r b hs) (hz : sizOk b hs) (hl : ∀ i, i < hs.length → shT r b hs i ≤ 2000) :
    shpI r b (atTo hs (shpTo r b hs hs.length) hs.length) = shpTo r b hs hs.length := by
  have hc := shape_conf h hz hl
  have hz2 : sizOk b (atTo hs (shpTo r b hs hs.length) hs.length) := fun x hx => by
    obtain ⟨i, hi, rfl⟩ := List.mem_map.1 hx
    exact siz_at hz (by simpa using hi)
  have ho := (shape_own hc.1 hz2).1 hc
  unfold shpI
  rw [if_pos ⟨hc.1, hz2⟩, atTo_len]
  apply List.ext_getElem?
  intro i
  by_cases hi : i < hs.length
  · rw [shpTo_at _ _ _ hi, shpTo_at _ _ _ hi, ho i (by rw [atTo_len]; exact hi), atTo_at _ _ hi, shpTo_getD _ _ _ hi]
  · rw [List.getElem?_eq_none (by rw [shpTo_len]; omega), List.getElem?_eq_none (by rw [shpTo_len]; omega)]

/- Tokens at a time. -/
def cntAt (hs : List Duo) (t : Int) : Nat → Nat
  | 0 => 0
  | k + 1 => if (dj hs k).1 ≤ t then k + 1 else cntAt hs t k
theorem cntAt_le (hs : List Duo) (t : Int) : ∀ k, cntAt hs t k ≤ k
  | 0 => Nat.le_refl _
  | k + 1 => by unfold cntAt; have := cntAt_le hs t k; split <;> omega
theorem cntAt_iff {hs : List Duo} {t : Int} : ∀ k, ascTo hs k → ∀ i, i < k → ((dj hs i).1 ≤ t ↔ i < cntAt hs t k)
  | 0, _, i, hi => by omega
  | k + 1, ha, i, hi => by
    unfold cntAt
    by_cases h : (dj hs k).1 ≤ t
    · rw [if_pos h]
      have := asc_le ha (i := i) (j := k) (by omega) (by omega)
      exact ⟨fun _ => hi, fun _ => by omega⟩
    · rw [if_neg h]
      by_cases he : i = k
      · subst he
        have := cntAt_le hs t i
        exact ⟨fun hh => absurd hh h, fun hh => by omega⟩
      · exact cntAt_iff k (fun j hj => ha j (by omega)) i (by omega)
def cntT (hs : List Duo) (t : Int) : Nat := cntAt hs t hs.length
theorem cntT_le (hs : List Duo) (t : Int) : cntT hs t ≤ hs.length := cntAt_le _ _ _
theorem cntT_iff {hs : List Duo} (h : pulOk hs) {t : Int} {i : Nat} (hi : i < hs.length) : (dj hs i).1 ≤ t ↔ i < cntT hs t := cntAt_iff _ h.2.1 i hi
theorem cntT_mono {hs : List Duo} (h : pulOk hs) {s t : Int} (hst : s ≤ t) : cntT hs s ≤ cntT hs t := by
  have h1 := cntT_le hs s
  by_cases h0 : cntT hs s = 0
  · omega
  · have := (cntT_iff h (t := s) (i := cntT hs s - 1) (by omega)).2 (by omega)
    have := (cntT_iff h (t := t) (i := cntT hs s - 1) (by omega)).1 (by omega)
    omega
theorem cntT_none {hs : List Duo} (h : pulOk hs) : cntT hs (-1) = 0 := by
  have h1 := cntT_le hs (-1)
  by_cases h0 : cntT hs (-1) = 0
  · exact h0
  · have := (cntT_iff h (t := -1) (i := 0) (by omega)).2 (by omega)
    have := (pu_at h (i := 0) (by omega)).1.1
    omega
def tokAt (r b : Int) (hs : List Duo) (t : Int) : Int := tok r b (fullTo r b hs (cntT hs t)) t
def tokI (r b : Int) (hs : List Duo) (t : Int) : Int := if shOk r b hs ∧ 0 ≤ t ∧ t ≤ 2000 then tokAt r b hs t else -1
/-- What is taken at a time by those that are let through among the first i. -/
def takenTo (r b : Int) (hs : List Duo) (t : Int) : Nat → Int
  | 0 => 0
  | i + 1 => takenTo r b hs t i + if (dj hs i).1 = t ∧ thr r b hs i = true then (dj hs i).2 else 0
theorem taken_tok {r b : Int} {hs : List Duo} (h : shOk r b hs) {t : Int} : ∀ i, i ≤ hs.length →
    tok r b (fullTo r b hs (cntT hs (t - 1))) t - takenTo r b hs t i = tok r b (fullTo r b hs (max (cntT hs (t - 1)) (min i (cntT hs t)))) t
  | 0, _ => by rw [Nat.zero_min, Nat.max_zero, takenTo]; omega
  | i + 1, hi => by
    have ih := taken_tok (r := r) (b := b) h (t := t) i (by omega)
    have hm := cntT_mono h.2.2 (show t - 1 ≤ t by omega)
    have c1 := cntT_iff h.2.2 (t := t - 1) (i := i) (by omega)
    have c2 := cntT_iff h.2.2 (t := t) (i := i) (by omega)
    rw [takenTo]
    by_cases he : (dj hs i).1 = t
    · have e1 : max (cntT hs (t - 1)) (min i (cntT hs t)) = i := by omega
      have e2 : max (cntT hs (t - 1)) (min (i + 1) (cntT hs t)) = i + 1 := by omega
      rw [e1] at ih
      rw [e2, fullTo_succ]
      by_cases hp : thr r b hs i = true
      · rw [if_pos ⟨he, hp⟩, if_pos hp, he, tok_take (by have := (pu_at h.2.2 (i := i) (by omega)).2.1; omega)]
        omega
      · rw [if_neg (fun hh => hp hh.2), if_neg hp]
        omega
    · have e1 : max (cntT hs (t - 1)) (min (i + 1) (cntT hs t)) = max (cntT hs (t - 1)) (min i (cntT hs t)) := by omega
      rw [if_neg (fun hh => he hh.1), e1]
      omega
theorem taken_all {r b : Int} {hs : List Duo} (h : shOk r b hs) {t : Int} : tok r b (fullTo r b hs (cntT hs (t - 1))) t - takenTo r b hs t hs.length = tokAt r b hs t := by
  rw [taken_tok h hs.length (Nat.le_refl _)]
  have hm := cntT_mono h.2.2 (show t - 1 ≤ t by omega)
  have := cntT_le hs t
  rw [show max (cntT hs (t - 1)) (min hs.length (cntT hs t)) = cntT hs t by omega]
  rfl
theorem tok_next {r b f t : Int} (hr : 0 ≤ r) : min b (tok r b f (t - 1) + r) = tok r b f t := by
  have := tok_on (r := r) (b := b) (f := f) hr (show t - 1 ≤ t by omega)
  rw [show t - (t - 1) = 1 by omega, Int.mul_one] at this
  exact this
theorem tokAt_bound {r b : Int} {hs : List Duo} (h : shOk r b hs) {t : Int} (ht : 0 ≤ t) : 0 ≤ tokAt r b hs t ∧ tokAt r b hs t ≤ b := by
  refine ⟨?_, tok_le _ _ _ _⟩
  have hl := cntT_le hs t
  exact (full_bound h (cntT hs t) hl).2.2 t ht (fun i hi => (cntT_iff h.2.2 (by omega)).2 hi)
/-- The law of tokens. -/
theorem tok_law {r b : Int} {hs : List Duo} (h : shOk r b hs) {t : Int} : tokAt r b hs t = min b (tokAt r b hs (t - 1) + r) - takenTo r b hs t hs.length := by
  rw [← taken_all h, ← tok_next (by have := h.1; omega)]
  rfl
theorem taken_bound {r b : Int} {hs : List Duo} (h : pulOk hs) {t : Int} : ∀ i, i ≤ hs.length → 0 ≤ takenTo r b hs t i ∧ takenTo r b hs t i ≤ 50 * (i : Int)
  | 0, _ => ⟨Int.le_refl _, by unfold takenTo; omega⟩
  | i + 1, hi => by
    have := taken_bound (r := r) (b := b) h (t := t) i (by omega)
    have := (pu_at h (i := i) (by omega)).2
    unfold takenTo
    split <;> omega

/- Those that are let through. -/
def someTo (r b : Int) (hs : List Duo) : Nat → List Duo
  | 0 => []
  | k + 1 => if thr r b hs k = true then someTo r b hs k ++ [dj hs k] else someTo r b hs k
theorem someTo_len (r b : Int) (hs : List Duo) : ∀ k, (someTo r b hs k).length ≤ k
  | 0 => Nat.le_refl _
  | k + 1 => by have := someTo_len r b hs k; unfold someTo; split <;> simp <;> omega
theorem someTo_mem {r b : Int} {hs : List Duo} : ∀ {k : Nat} {z : Duo}, z ∈ someTo r b hs k → ∃ i, i < k ∧ z = dj hs i
  | 0, z, h => by simp [someTo] at h
  | k + 1, z, h => by
    unfold someTo at h
    split at h
    · rcases List.mem_append.1 h with h | h
      · obtain ⟨i, hi, e⟩ := someTo_mem h; exact ⟨i, by omega, e⟩
      · exact ⟨k, by omega, by simpa using h⟩
    · obtain ⟨i, hi, e⟩ := someTo_mem h; exact ⟨i, by omega, e⟩
theorem asc_snoc {l : List Duo} {x : Duo} (h : ascTo l l.length) (hx : ∀ z ∈ l, z.1 ≤ x.1) : ascTo (l ++ [x]) (l ++ [x]).length := by
  intro i hi
  rw [List.length_append] at hi
  simp only [List.length_cons, List.length_nil] at hi
  rw [dj_front (by omega)]
  by_cases he : i + 1 = l.length
  · rw [he, dj_last]; exact hx _ (dj_memS (by omega))
  · rw [dj_front (by omega)]; exact h i (by omega)
theorem some_asc {r b : Int} {hs : List Duo} (h : pulOk hs) : ∀ k, k ≤ hs.length → ascTo (someTo r b hs k) (someTo r b hs k).length
  | 0, _ => fun i hi => by simp [someTo] at hi
  | k + 1, hk => by
    unfold someTo
    split
    · refine asc_snoc (some_asc h k (by omega)) (fun z hz => ?_)
      obtain ⟨i, hi, rfl⟩ := someTo_mem hz
      exact asc_le h.2.1 (by omega) (by omega)
    · exact some_asc h k (by omega)
theorem some_ok {r b : Int} {hs : List Duo} (h : pulOk hs) {k : Nat} (hk : k ≤ hs.length) : pulOk (someTo r b hs k) :=
  ⟨fun z hz => by obtain ⟨i, hi, rfl⟩ := someTo_mem hz; exact pu_at h (by omega), some_asc h k hk, by have := someTo_len r b hs k; have := h.2.2; omega⟩
theorem with_ok {r b : Int} {hs : List Duo} (h : pulOk hs) {k : Nat} (hk : k < hs.length) : pulOk (someTo r b hs k ++ [dj hs k]) :=
  ⟨fun z hz => by
    rcases List.mem_append.1 hz with hz | hz
    · obtain ⟨i, hi, rfl⟩ := someTo_mem hz; exact pu_at h (by omega)
    · obtain rfl : z = dj hs k := by simpa using hz
      exact pu_at h hk,
   asc_snoc (some_asc h k (by omega)) (fun z hz => by obtain ⟨i, hi, rfl⟩ := someTo_mem hz; exact asc_le h.2.1 (by omega) (by omega)),
   by have := someTo_len r b hs k; have := h.2.2; simp; omega⟩
theorem full_front (r b : Int) (l ks : List Duo) : ∀ k, k ≤ l.length → fullTo r b (l ++ ks) k = fullTo r b l k
  | 0, _ => rfl
  | k + 1, hk => by
    show polF r b (fullTo r b (l ++ ks) k) (dj (l ++ ks) k) = polF r b (fullTo r b l k) (dj l k)
    rw [full_front r b l ks k (by omega), dj_front (by omega)]
theorem thr_front (r b : Int) (l ks : List Duo) {k : Nat} (hk : k < l.length) : thr r b (l ++ ks) k = thr r b l k := by
  unfold thr
  rw [full_front r b l ks k (by omega), dj_front hk]
theorem thr_last (r b : Int) (l : List Duo) (x : Duo) : thr r b (l ++ [x]) l.length = passB r b (fullTo r b l l.length) x := by
  unfold thr
  rw [full_front r b l [x] _ (Nat.le_refl _), dj_last]
theorem some_full (r b : Int) (hs : List Duo) : ∀ k, fullTo r b (someTo r b hs k) (someTo r b hs k).length = fullTo r b hs k ∧ ∀ i, i < (someTo r b hs k).length → thr r b (someTo r b hs k) i = true
  | 0 => ⟨rfl, fun i hi => by simp [someTo] at hi⟩
  | k + 1 => by
    obtain ⟨i1, i2⟩ := some_full r b hs k
    rw [fullTo_succ]
    unfold someTo
    by_cases hp : thr r b hs k = true
    · rw [if_pos hp, if_pos hp]
      have hq : thr r b (someTo r b hs k ++ [dj hs k]) (someTo r b hs k).length = true := by rw [thr_last, i1]; exact hp
      refine ⟨?_, fun i hi => ?_⟩
      · rw [List.length_append]
        show fullTo r b _ ((someTo r b hs k).length + 1) = _
        rw [fullTo_succ, if_pos hq, full_front _ _ _ _ _ (Nat.le_refl _), i1, dj_last]
      · rw [List.length_append] at hi
        simp only [List.length_cons, List.length_nil] at hi
        by_cases he : i = (someTo r b hs k).length
        · subst he; exact hq
        · rw [thr_front _ _ _ _ (by omega)]; exact i2 i (by omega)
    · rw [if_neg hp, if_neg hp]; exact ⟨i1, i2⟩
theorem some_conf {r b : Int} {hs : List Duo} (h : shOk r b hs) {k : Nat} (hk : k ≤ hs.length) : confP r b (someTo r b hs k) :=
  ⟨⟨h.1, h.2.1, some_ok h.2.2 hk⟩, (some_full r b hs k).2⟩
theorem with_conf {r b : Int} {hs : List Duo} (h : shOk r b hs) {k : Nat} (hk : k < hs.length) : decide (confP r b (someTo r b hs k ++ [dj hs k])) = thr r b hs k := by
  obtain ⟨i1, i2⟩ := some_full r b hs k
  have hq : thr r b (someTo r b hs k ++ [dj hs k]) (someTo r b hs k).length = thr r b hs k := by rw [thr_last, i1]; rfl
  cases hp : thr r b hs k with
  | true =>
    refine decide_eq_true ⟨⟨h.1, h.2.1, with_ok h.2.2 hk⟩, fun i hi => ?_⟩
    rw [List.length_append] at hi
    simp only [List.length_cons, List.length_nil] at hi
    by_cases he : i = (someTo r b hs k).length
    · subst he; rw [hq, hp]
    · rw [thr_front _ _ _ _ (by omega)]; exact i2 i (by omega)
  | false =>
    refine decide_eq_false fun hh => ?_
    have := hh.2 (someTo r b hs k).length (by simp)
    rw [hq, hp] at this
    cases this
end Go.Proofs.Ytnloejcfakcpfaa
