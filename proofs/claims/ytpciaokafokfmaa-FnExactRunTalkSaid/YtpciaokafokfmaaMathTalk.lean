/-
  Chapter 9's plain mathematics: stations that send when they like and stations that send in turn. No condition.
-/
import Derived.Test.YtpciaokafokfmaaBase
namespace Go.Proofs.Ytpciaokafokfmaa

abbrev Tk := Int × Int × Int
def gq (l : List Int) (i : Nat) : Int := l.getD i 0
theorem gq_at {l : List Int} {i : Nat} (h : i < l.length) : l[i]? = some (gq l i) := by simp [gq, h]
theorem gq_mem {l : List Int} {i : Nat} (h : i < l.length) : gq l i ∈ l := by simp [gq, h]
theorem gq_big {l : List Int} {i : Nat} (h : l.length ≤ i) : gq l i = 0 := by simp [gq, h]
theorem gq_set_eq {l : List Int} {i : Nat} (h : i < l.length) (x : Int) : gq (l.set i x) i = x := by simp [gq, h]
theorem gq_set_ne {l : List Int} {i j : Nat} (h : i ≠ j) (x : Int) : gq (l.set i x) j = gq l j := by simp [gq, List.getElem?_set_ne h]
theorem gq_cons_s (a : Int) (l : List Int) (i : Nat) : gq (a :: l) (i + 1) = gq l i := by simp [gq]
theorem gq_cons_z (a : Int) (l : List Int) : gq (a :: l) 0 = a := by simp [gq]
theorem gq_app_r (a b : List Int) (i : Nat) : gq (a ++ b) (a.length + i) = gq b i := by simp [gq, List.getElem?_append_right]

/- Queues, draws, waits. -/
def okQ (qs : List Int) : Bool := qs.all fun x => decide (0 ≤ x) && decide (x ≤ 9)
theorem okQ_iff {qs : List Int} : okQ qs = true ↔ ∀ x ∈ qs, 0 ≤ x ∧ x ≤ 9 := by simp [okQ]
theorem okQ_no {qs : List Int} {x : Int} (hx : x ∈ qs) (h : ¬ (0 ≤ x ∧ x ≤ 9)) : okQ qs = false := by
  cases hb : okQ qs with
  | false => rfl
  | true => exact absurd (okQ_iff.1 hb x hx) h
def talkOk (qs : List Int) : Bool := okQ qs && decide (qs.length ≤ 6)
theorem talkOk_iff {qs : List Int} : talkOk qs = true ↔ okQ qs = true ∧ qs.length ≤ 6 := by simp [talkOk]
def okDs (ds : List Int) : Bool := ds.all fun x => decide (0 ≤ x) && decide (x ≤ 1000)
theorem okDs_iff {qs : List Int} : okDs qs = true ↔ ∀ x ∈ qs, 0 ≤ x ∧ x ≤ 1000 := by simp [okDs]
theorem okDs_no {qs : List Int} {x : Int} (hx : x ∈ qs) (h : ¬ (0 ≤ x ∧ x ≤ 1000)) : okDs qs = false := by
  cases hb : okDs qs with
  | false => rfl
  | true => exact absurd (okDs_iff.1 hb x hx) h
def waitP (t d : Int) : Int := d % (2 ^ (min t 5).toNat)
def waitI (t d : Int) : Int := if t < 1 ∨ ¬ (0 ≤ d ∧ d ≤ 1000) then -1 else waitP t d
theorem waitI_yes {t d : Int} (h1 : 1 ≤ t) (h2 : 0 ≤ d ∧ d ≤ 1000) : waitI t d = waitP t d := if_neg (by omega)
theorem waitI_no {t d : Int} (h : t < 1 ∨ ¬ (0 ≤ d ∧ d ≤ 1000)) : waitI t d = -1 := if_pos h
theorem min5 {t : Int} (h : 1 ≤ t) : min t 5 = 1 ∨ min t 5 = 2 ∨ min t 5 = 3 ∨ min t 5 = 4 ∨ min t 5 = 5 := by omega
theorem waitP_b {t d : Int} (h : 1 ≤ t) : 0 ≤ waitP t d ∧ waitP t d ≤ 31 := by
  unfold waitP
  rcases min5 h with e | e | e | e | e <;> rw [e] <;> simp <;> omega
def drawOf (ds : List Int) (i : Nat) : Int := match ds with
  | [] => 33 * (i : Int)
  | d :: _ => d
theorem drawOf_b {ds : List Int} {i : Nat} (h : ∀ x ∈ ds, 0 ≤ x ∧ x ≤ 1000) (hi : i < 6) : 0 ≤ drawOf ds i ∧ drawOf ds i ≤ 1000 := by
  cases ds with
  | nil => simp [drawOf]; omega
  | cons d r => exact h d (by simp)

/- A slot, as the program reckons it. -/
def sendsT (x : Tk) : Bool := decide (0 < x.1) && decide (x.2.2 = 0)
def sendersF : Nat → List Tk → List Nat
  | _, [] => []
  | i, x :: r => if sendsT x then i :: sendersF (i + 1) r else sendersF (i + 1) r
def slotF (hit : Bool) : Nat → List Tk → List Int → List Tk × List Int × List Int
  | _, [], ds => ([], ds, [])
  | i, x :: r, ds =>
    if sendsT x then
      if hit then
        let s := slotF hit (i + 1) r ds.tail
        ((x.1, x.2.1 + 1, waitP (x.2.1 + 1) (drawOf ds i)) :: s.1, s.2.1, s.2.2)
      else
        let s := slotF hit (i + 1) r ds
        ((x.1 - 1, 0, 0) :: s.1, s.2.1, (i : Int) :: s.2.2)
    else
      let s := slotF hit (i + 1) r ds
      ((x.1, x.2.1, max (x.2.2 - 1) 0) :: s.1, s.2.1, s.2.2)
structure TS where
  ts : List Tk
  ds : List Int
  o : List Int
  h : Nat
  s : Nat
def hitS (ts : List Tk) : Bool := decide (1 < (sendersF 0 ts).length)
def slotS (st : TS) : TS :=
  let r := slotF (hitS st.ts) 0 st.ts st.ds
  ⟨r.1, r.2.1, st.o ++ r.2.2, st.h + (if hitS st.ts then 1 else 0), st.s + 1⟩
def goesL (ts : List Tk) : Bool := ts.any fun x => decide (0 < x.1)
theorem goesL_iff {ts : List Tk} : goesL ts = true ↔ ∃ x ∈ ts, 0 < x.1 := by
  unfold goesL; rw [List.any_eq_true]; simp only [decide_eq_true_eq]
def runT : Nat → TS → TS
  | 0, st => st
  | n + 1, st => if goesL st.ts then runT n (slotS st) else st
def initT (qs ds : List Int) : TS := ⟨qs.map fun q => (q, 0, 0), ds, [], 0, 0⟩

/- What holds of stations all along. -/
structure OkT (n : Nat) (st : TS) : Prop where
  len : st.ts.length = n
  f : ∀ x ∈ st.ts, 0 ≤ x.1 ∧ x.1 ≤ 9
  t : ∀ x ∈ st.ts, 0 ≤ x.2.1 ∧ x.2.1 ≤ st.s
  w : ∀ x ∈ st.ts, 0 ≤ x.2.2 ∧ x.2.2 ≤ 31
  d : ∀ x ∈ st.ds, 0 ≤ x ∧ x ≤ 1000
  o : st.o.length + st.h ≤ st.s
theorem sendersF_ge : ∀ (ts : List Tk) (i k : Nat), k ∈ sendersF i ts → i ≤ k ∧ k < i + ts.length
  | [], _, _, h => by simp [sendersF] at h
  | x :: r, i, k, h => by
    unfold sendersF at h
    split at h
    · rcases List.mem_cons.1 h with rfl | h
      · simp
      · have := sendersF_ge r (i + 1) k h; simp; omega
    · have := sendersF_ge r (i + 1) k h; simp; omega
theorem sendersF_len (ts : List Tk) (i : Nat) : (sendersF i ts).length ≤ ts.length := by
  induction ts generalizing i with
  | nil => simp [sendersF]
  | cons x r ih => unfold sendersF; split <;> simp <;> have := ih (i + 1) <;> omega
theorem slotF_len (hit : Bool) : ∀ (ts : List Tk) (i : Nat) (ds : List Int), (slotF hit i ts ds).1.length = ts.length
  | [], _, _ => rfl
  | x :: r, i, ds => by
    unfold slotF
    split
    · split <;> simp [slotF_len hit r]
    · simp [slotF_len hit r]
theorem slotF_o : ∀ (hit : Bool) (ts : List Tk) (i : Nat) (ds : List Int), (slotF hit i ts ds).2.2 = if hit then [] else (sendersF i ts).map fun k => ((k : Nat) : Int)
  | hit, [], i, ds => by simp [slotF, sendersF]
  | hit, x :: r, i, ds => by
    have ih := fun ds => slotF_o hit r (i + 1) ds
    unfold slotF sendersF
    cases hit <;> cases sendsT x <;> simp_all
theorem slotF_ds : ∀ (hit : Bool) (ts : List Tk) (i : Nat) (ds : List Int), ∀ x ∈ (slotF hit i ts ds).2.1, x ∈ ds
  | hit, [], i, ds, x, h => by simpa [slotF] using h
  | hit, y :: r, i, ds, x, h => by
    unfold slotF at h
    split at h
    · split at h
      · exact List.mem_of_mem_tail (slotF_ds hit r (i + 1) ds.tail x h)
      · exact slotF_ds hit r (i + 1) ds x h
    · exact slotF_ds hit r (i + 1) ds x h
theorem slotF_ok (hit : Bool) (s : Nat) : ∀ (ts : List Tk) (i : Nat) (ds : List Int), i + ts.length ≤ 6 → (∀ x ∈ ds, 0 ≤ x ∧ x ≤ 1000) → (∀ x ∈ ts, 0 ≤ x.1 ∧ x.1 ≤ 9) → (∀ x ∈ ts, 0 ≤ x.2.1 ∧ x.2.1 ≤ s) → (∀ x ∈ ts, 0 ≤ x.2.2 ∧ x.2.2 ≤ 31) →
    ∀ x ∈ (slotF hit i ts ds).1, (0 ≤ x.1 ∧ x.1 ≤ 9) ∧ (0 ≤ x.2.1 ∧ x.2.1 ≤ (s + 1 : Nat)) ∧ (0 ≤ x.2.2 ∧ x.2.2 ≤ 31)
  | [], _, _, _, _, _, _, _, x, h => by simp [slotF] at h
  | y :: r, i, ds, hi, hd, hf, ht, hw, x, h => by
    have yf := hf y (by simp)
    have yt := ht y (by simp)
    have yw := hw y (by simp)
    have ih := fun ds hd => slotF_ok hit s r (i + 1) ds (by simp at hi; omega) hd (fun x hx => hf x (by simp [hx])) (fun x hx => ht x (by simp [hx])) (fun x hx => hw x (by simp [hx])) x
    unfold slotF at h
    split at h
    · rename_i hs
      simp [sendsT] at hs
      split at h
      · simp only at h
        rcases List.mem_cons.1 h with rfl | h
        · have := waitP_b (t := y.2.1 + 1) (d := drawOf ds i) (by omega)
          simp only; omega
        · exact ih _ (fun x hx => hd x (List.mem_of_mem_tail hx)) h
      · simp only at h
        rcases List.mem_cons.1 h with rfl | h
        · simp only; omega
        · exact ih _ hd h
    · simp only at h
      rcases List.mem_cons.1 h with rfl | h
      · simp only; omega
      · exact ih _ hd h
theorem slotS_ok {n : Nat} {st : TS} (hn : n ≤ 6) (h : OkT n st) : OkT n (slotS st) := by
  have hl := h.len
  have key := slotF_ok (hitS st.ts) st.s st.ts 0 st.ds (by omega) h.d h.f h.t h.w
  refine ⟨by simp [slotS, slotF_len, hl], fun x hx => (key x hx).1, fun x hx => (key x hx).2.1, fun x hx => (key x hx).2.2, fun x hx => h.d x (slotF_ds _ _ _ _ x hx), ?_⟩
  have ho := h.o
  simp only [slotS, slotF_o]
  cases hh : hitS st.ts with
  | true => simp; omega
  | false =>
    have h2 : (sendersF 0 st.ts).length ≤ 1 := by simpa [hitS] using hh
    simp; omega
theorem initT_ok {qs ds : List Int} (hq : okQ qs = true) (hd : okDs ds = true) : OkT qs.length (initT qs ds) := by
  have h1 := okQ_iff.1 hq
  refine ⟨by simp [initT], ?_, ?_, ?_, okDs_iff.1 hd, by simp [initT]⟩
  · intro x hx; simp [initT] at hx; obtain ⟨q, hq, rfl⟩ := hx; exact h1 q hq
  · intro x hx; simp [initT] at hx; obtain ⟨q, hq, rfl⟩ := hx; simp
  · intro x hx; simp [initT] at hx; obtain ⟨q, hq, rfl⟩ := hx; simp
theorem runT_ok {n : Nat} (hn : n ≤ 6) : ∀ (k : Nat) (st : TS), OkT n st → OkT n (runT k st)
  | 0, _, h => h
  | k + 1, st, h => by
    unfold runT; split
    · exact runT_ok hn k _ (slotS_ok hn h)
    · exact h
theorem slotS_s (st : TS) : (slotS st).s = st.s + 1 := rfl
theorem runT_s : ∀ (k : Nat) (st : TS), (runT k st).s ≤ st.s + k ∧ st.s ≤ (runT k st).s ∧ (goesL (runT k st).ts = true → (runT k st).s = st.s + k)
  | 0, st => ⟨by simp [runT], by simp [runT], fun _ => by simp [runT]⟩
  | k + 1, st => by
    unfold runT; split
    · have := runT_s k (slotS st)
      rw [slotS_s] at this
      exact ⟨by omega, by omega, fun h => by have := this.2.2 h; omega⟩
    · rename_i h0
      exact ⟨by omega, by omega, fun h => absurd h h0⟩
theorem runT_stop {st : TS} (h : goesL st.ts = false) : ∀ k, runT k st = st
  | 0 => rfl
  | k + 1 => by unfold runT; rw [h]; rfl
theorem runT_add : ∀ (a b : Nat) (st : TS), runT (a + b) st = runT b (runT a st)
  | 0, b, st => by rw [Nat.zero_add]; rfl
  | a + 1, b, st => by
    rw [show a + 1 + b = (a + b) + 1 by omega]
    by_cases hg : goesL st.ts = true
    · rw [runT, if_pos hg, runT_add a b, runT.eq_2 st a, if_pos hg]
    · have h0 : goesL st.ts = false := by simpa using hg
      rw [runT_stop h0 (a + b + 1), runT_stop h0 (a + 1), runT_stop h0 b]
theorem runT_more : ∀ (k : Nat) (st : TS), (∃ p, (runT k st).o = st.o ++ p) ∧ st.h ≤ (runT k st).h
  | 0, st => ⟨⟨[], by simp [runT]⟩, by simp [runT]⟩
  | k + 1, st => by
    unfold runT; split
    · obtain ⟨⟨p, hp⟩, hh⟩ := runT_more k (slotS st)
      refine ⟨⟨(slotF (hitS st.ts) 0 st.ts st.ds).2.2 ++ p, by rw [hp]; simp [slotS]⟩, Nat.le_trans (by simp [slotS]) hh⟩
    · exact ⟨⟨[], by simp⟩, by omega⟩

/- How many of each have been sent. -/
def frOf (ts : List Tk) (k : Nat) : Int := ((ts[k]?).map fun x => x.1).getD 0
theorem slotF_fr (hit : Bool) : ∀ (ts : List Tk) (i : Nat) (ds : List Int) (k : Nat), frOf (slotF hit i ts ds).1 k + (((slotF hit i ts ds).2.2).count ((i + k : Nat) : Int) : Nat) = frOf ts k
  | [], i, ds, k => by simp [slotF, frOf]
  | x :: r, i, ds, 0 => by
    have hc : ∀ ds, (slotF hit (i + 1) r ds).2.2.count ((i : Nat) : Int) = 0 := fun ds => by
      rw [List.count_eq_zero, slotF_o]
      intro hm
      split at hm
      · simp at hm
      · obtain ⟨k, hk, he⟩ := List.mem_map.1 hm
        have := sendersF_ge r (i + 1) k hk
        omega
    unfold slotF
    split
    · split
      · simp [frOf, hc]
      · simp [frOf, hc]
    · simp [frOf, hc]
  | x :: r, i, ds, k + 1 => by
    have ih := fun ds => slotF_fr hit r (i + 1) ds k
    have e : i + 1 + k = i + (k + 1) := by omega
    rw [e] at ih
    unfold slotF
    split
    · split
      · simpa [frOf] using ih ds.tail
      · have : ¬ ((i : Int) = ((i + (k + 1) : Nat) : Int)) := by omega
        have hb : ((i : Int) == ((i + (k + 1) : Nat) : Int)) = false := by simpa using this
        simp only [frOf, List.getElem?_cons_succ, List.count_cons, hb]
        simpa [frOf] using ih ds
    · simpa [frOf] using ih ds
theorem slotS_fr (st : TS) (k : Nat) : frOf (slotS st).ts k + ((slotS st).o.count (k : Int) : Nat) = frOf st.ts k + (st.o.count (k : Int) : Nat) := by
  have := slotF_fr (hitS st.ts) st.ts 0 st.ds k
  rw [Nat.zero_add] at this
  simp only [slotS, List.count_append]
  omega
theorem runT_fr : ∀ (n : Nat) (st : TS) (k : Nat), frOf (runT n st).ts k + ((runT n st).o.count (k : Int) : Nat) = frOf st.ts k + (st.o.count (k : Int) : Nat)
  | 0, _, _ => rfl
  | n + 1, st, k => by
    unfold runT; split
    · rw [runT_fr n, slotS_fr]
    · rfl
theorem frOf_init (qs ds : List Int) (k : Nat) : frOf (initT qs ds).ts k = gq qs k := by
  simp only [frOf, initT, gq, List.getElem?_map, List.getD_eq_getElem?_getD]
  cases qs[k]? <;> rfl
theorem frOf_ok {n : Nat} {st : TS} (h : OkT n st) (k : Nat) : 0 ≤ frOf st.ts k := by
  unfold frOf
  cases hk : st.ts[k]? with
  | none => simp
  | some x => exact (h.f x (List.mem_of_getElem? hk)).1
theorem frOf_done {st : TS} {n : Nat} (h : OkT n st) (hg : goesL st.ts = false) (k : Nat) : frOf st.ts k = 0 := by
  have h0 := frOf_ok h k
  unfold frOf at *
  cases hk : st.ts[k]? with
  | none => simp
  | some x =>
    have hm := List.mem_of_getElem? hk
    rw [hk] at h0
    simp at h0 ⊢
    have : ¬ 0 < x.1 := fun hp => by
      have := goesL_iff.2 ⟨x, hm, hp⟩
      rw [this] at hg; cases hg
    omega

/- What RunTalk returns. -/
def talkRunOk (qs ds : List Int) (sl : Int) : Bool := talkOk qs && (okDs ds && decide (ds.length ≤ 200)) && (decide (0 ≤ sl) && decide (sl ≤ 2000))
theorem talkRunOk_iff {qs ds : List Int} {sl : Int} : talkRunOk qs ds sl = true ↔ talkOk qs = true ∧ (okDs ds = true ∧ ds.length ≤ 200) ∧ 0 ≤ sl ∧ sl ≤ 2000 := by simp [talkRunOk, and_assoc]
def talkS (qs ds : List Int) (sl : Int) : TS := runT sl.toNat (initT qs ds)
def talkO (qs ds : List Int) (sl : Int) : List Int := if talkRunOk qs ds sl then (talkS qs ds sl).o else []
def talkH (qs ds : List Int) (sl : Int) : Nat := if talkRunOk qs ds sl then (talkS qs ds sl).h else 0
def talkN (qs ds : List Int) (sl : Int) : Nat := if talkRunOk qs ds sl then (talkS qs ds sl).s else 0
def talkD (qs ds : List Int) (sl : Int) : Bool := talkRunOk qs ds sl && !goesL (talkS qs ds sl).ts
theorem talkS_ok {qs ds : List Int} {sl : Int} (h : talkRunOk qs ds sl = true) : OkT qs.length (talkS qs ds sl) := by
  obtain ⟨h1, h2, h3⟩ := talkRunOk_iff.1 h
  obtain ⟨h4, h5⟩ := talkOk_iff.1 h1
  exact runT_ok h5 _ _ (initT_ok h4 h2.1)
theorem talk_b (qs ds : List Int) (sl : Int) : (talkO qs ds sl).length + talkH qs ds sl ≤ talkN qs ds sl ∧ talkN qs ds sl ≤ 2000 ∧ (talkRunOk qs ds sl = true → talkN qs ds sl ≤ sl.toNat) := by
  unfold talkO talkH talkN
  cases h : talkRunOk qs ds sl with
  | false => simp
  | true =>
    have h1 := (talkS_ok h).o
    have h2 := (runT_s sl.toNat (initT qs ds)).1
    have h3 := talkRunOk_iff.1 h
    have h2 : (talkS qs ds sl).s ≤ 0 + sl.toNat := h2
    simp only [if_true]
    refine ⟨h1, ?_, fun _ => ?_⟩
    · omega
    · omega
theorem talk_once {qs ds : List Int} {sl : Int} (h : talkRunOk qs ds sl = true) (k : Nat) :
    ((talkO qs ds sl).count (k : Int) : Int) ≤ gq qs k ∧ (talkD qs ds sl = true → ((talkO qs ds sl).count (k : Int) : Int) = gq qs k) := by
  have hO := talkS_ok h
  have h1 := runT_fr sl.toNat (initT qs ds) k
  rw [frOf_init] at h1
  have h0 := frOf_ok hO k
  have e : talkO qs ds sl = (talkS qs ds sl).o := by unfold talkO; rw [if_pos h]
  rw [e]
  unfold talkS at *
  have e0 : (initT qs ds).o.count (k : Int) = 0 := rfl
  rw [e0] at h1
  refine ⟨by omega, fun hd => ?_⟩
  have hg : goesL (runT sl.toNat (initT qs ds)).ts = false := by simpa [talkD, h, talkS] using hd
  have := frOf_done hO hg k
  omega
theorem talk_longer {qs ds : List Int} {sl m : Int} (h : talkRunOk qs ds sl = true) (h2 : talkRunOk qs ds m = true) (hm : sl ≤ m) :
    (talkD qs ds sl = true → talkO qs ds m = talkO qs ds sl ∧ talkN qs ds m = talkN qs ds sl) ∧ (∃ p, talkO qs ds m = talkO qs ds sl ++ p) ∧ talkH qs ds sl ≤ talkH qs ds m := by
  have h0 := (talkRunOk_iff.1 h).2.2
  obtain ⟨k, hk⟩ : ∃ k, m.toNat = sl.toNat + k := ⟨m.toNat - sl.toNat, by omega⟩
  have e : talkS qs ds m = runT k (talkS qs ds sl) := by unfold talkS; rw [hk, runT_add]
  have eO : ∀ x, talkRunOk qs ds x = true → talkO qs ds x = (talkS qs ds x).o := fun x hx => by unfold talkO; rw [if_pos hx]
  have eH : ∀ x, talkRunOk qs ds x = true → talkH qs ds x = (talkS qs ds x).h := fun x hx => by unfold talkH; rw [if_pos hx]
  have eN : ∀ x, talkRunOk qs ds x = true → talkN qs ds x = (talkS qs ds x).s := fun x hx => by unfold talkN; rw [if_pos hx]
  rw [eO _ h, eO _ h2, eH _ h, eH _ h2, eN _ h, eN _ h2, e]
  refine ⟨fun hd => ?_, (runT_more k _).1, (runT_more k _).2⟩
  have hg : goesL (talkS qs ds sl).ts = false := by simpa [talkD, h] using hd
  rw [runT_stop hg]; exact ⟨rfl, rfl⟩

/- One station alone. -/
def aloneT (n k : Nat) (f : Int) : List Tk := (List.replicate n (0, 0, 0)).set k (f, 0, 0)
theorem senders_zero : ∀ (n i : Nat), sendersF i (List.replicate n (0, 0, 0)) = []
  | 0, _ => rfl
  | n + 1, i => by rw [List.replicate_succ, sendersF, senders_zero n]; rfl
theorem slot_zero (ds : List Int) : ∀ (n i : Nat), slotF false i (List.replicate n (0, 0, 0)) ds = (List.replicate n (0, 0, 0), ds, [])
  | 0, _ => rfl
  | n + 1, i => by
    rw [List.replicate_succ, slotF, slot_zero ds n]
    rfl
theorem senders_alone {f : Int} (hf : 0 < f) : ∀ (n k i : Nat), k < n → sendersF i (aloneT n k f) = [i + k]
  | 0, _, _, h => absurd h (Nat.not_lt_zero _)
  | n + 1, 0, i, _ => by
    have hs : sendsT (f, 0, 0) = true := by simp [sendsT, hf]
    rw [aloneT, List.replicate_succ, List.set_cons_zero, sendersF, if_pos hs, senders_zero]; rfl
  | n + 1, k + 1, i, h => by
    have ih := senders_alone hf n k (i + 1) (by omega)
    have hs : ¬ sendsT (0, 0, 0) = true := by decide
    unfold aloneT at *
    rw [List.replicate_succ, List.set_cons_succ, sendersF, if_neg hs, ih, show i + 1 + k = i + (k + 1) by omega]
theorem slot_alone (ds : List Int) {f : Int} (hf : 0 < f) : ∀ (n k i : Nat), k < n → slotF false i (aloneT n k f) ds = (aloneT n k (f - 1), ds, [((i + k : Nat) : Int)])
  | 0, _, _, h => absurd h (Nat.not_lt_zero _)
  | n + 1, 0, i, _ => by
    have hs : sendsT (f, 0, 0) = true := by simp [sendsT, hf]
    unfold aloneT
    rw [List.replicate_succ, List.set_cons_zero, slotF, if_pos hs, if_neg (by decide), slot_zero]; rfl
  | n + 1, k + 1, i, h => by
    have ih := slot_alone ds hf n k (i + 1) (by omega)
    have hs : ¬ sendsT (0, 0, 0) = true := by decide
    unfold aloneT at *
    rw [List.replicate_succ, List.set_cons_succ, slotF, if_neg hs, ih, show i + 1 + k = i + (k + 1) by omega]; rfl
theorem goes_alone (n k : Nat) (f : Int) (h : k < n) : goesL (aloneT n k f) = decide (0 < f) := by
  by_cases hf : 0 < f
  · rw [decide_eq_true hf]
    exact goesL_iff.2 ⟨(f, 0, 0), List.mem_of_getElem? (i := k) (by simp [aloneT, h]), hf⟩
  · rw [decide_eq_false hf]
    cases hb : goesL (aloneT n k f) with
    | false => rfl
    | true =>
      obtain ⟨x, hx, hp⟩ := goesL_iff.1 hb
      rcases List.mem_or_eq_of_mem_set hx with hx | rfl
      · rw [List.mem_replicate] at hx; rw [hx.2] at hp; exact absurd hp (by decide)
      · exact absurd hp hf
theorem run_alone (ds : List Int) (n k : Nat) (h : k < n) : ∀ (f m : Nat) (o : List Int) (s : Nat), f ≤ m → runT m ⟨aloneT n k f, ds, o, 0, s⟩ = ⟨aloneT n k 0, ds, o ++ List.replicate f (k : Int), 0, s + f⟩
  | 0, m, o, s, _ => by rw [runT_stop (by rw [goes_alone n k _ h]; rfl)]; simp
  | f + 1, 0, _, _, hm => absurd hm (by omega)
  | f + 1, m + 1, o, s, hm => by
    have hp : (0 : Int) < ((f + 1 : Nat) : Int) := by omega
    have e : slotS ⟨aloneT n k ((f + 1 : Nat) : Int), ds, o, 0, s⟩ = ⟨aloneT n k (f : Int), ds, o ++ [(k : Int)], 0, s + 1⟩ := by
      have hh : hitS (aloneT n k ((f + 1 : Nat) : Int)) = false := by unfold hitS; rw [senders_alone hp n k 0 h]; rfl
      simp only [slotS, hh]
      rw [slot_alone ds hp n k 0 h, Nat.zero_add, show ((f + 1 : Nat) : Int) - 1 = (f : Int) by omega]
      rfl
    rw [runT, if_pos (by rw [goes_alone n k _ h]; exact decide_eq_true hp), e, run_alone ds n k h f m _ _ (by omega), List.append_assoc, List.singleton_append, ← List.replicate_succ, show s + 1 + f = s + (f + 1) by omega]
theorem talk_alone {ds : List Int} {n k f : Nat} (h : talkRunOk ((List.replicate n 0).set k (f : Int)) ds 2000 = true) (hk : k < n) (hf : f ≤ 9) :
    talkO ((List.replicate n 0).set k (f : Int)) ds 2000 = List.replicate f (k : Int) ∧ talkH ((List.replicate n 0).set k (f : Int)) ds 2000 = 0 ∧ talkN ((List.replicate n 0).set k (f : Int)) ds 2000 = f ∧ talkD ((List.replicate n 0).set k (f : Int)) ds 2000 = true := by
  have e : talkS ((List.replicate n 0).set k (f : Int)) ds 2000 = ⟨aloneT n k 0, ds, List.replicate f (k : Int), 0, f⟩ := by
    have h1 : initT ((List.replicate n 0).set k (f : Int)) ds = ⟨aloneT n k f, ds, [], 0, 0⟩ := by simp [initT, aloneT, List.map_set]
    unfold talkS
    rw [h1, run_alone ds n k hk f _ _ _ (by simp; omega)]; simp
  unfold talkO talkH talkN talkD
  rw [if_pos h, if_pos h, if_pos h, h, e]
  refine ⟨rfl, rfl, rfl, ?_⟩
  show (true && !goesL (aloneT n k 0)) = true
  rw [goes_alone n k 0 hk]; rfl

/- A slot, as the model reckons it. -/
def fO (ts : List Tk) : List Int := ts.map fun x => x.1
def tO (ts : List Tk) : List Int := ts.map fun x => x.2.1
def wO (ts : List Tk) : List Int := ts.map fun x => x.2.2
theorem fO_at (ts : List Tk) (i : Nat) (x : Tk) (h : ts[i]? = some x) : gq (fO ts) i = x.1 ∧ gq (tO ts) i = x.2.1 ∧ gq (wO ts) i = x.2.2 := by simp [gq, fO, tO, wO, h]
def hitF : List Nat → List Int → List Int → List Int → List Int × List Int × List Int
  | [], w, t, d => (w, t, d)
  | k :: ks, w, t, d => hitF ks (w.set k (waitP (gq t k + 1) (drawOf d k))) (t.set k (gq t k + 1)) d.tail
def decF : Nat → List Int → List Int → List Int
  | _, [], v => v
  | k, o :: os, v => decF (k + 1) os (if 0 < o then v.set k (gq v k - 1) else v)
def decZ (os vs : List Int) : List Int := List.zipWith (fun o v => if 0 < o then v - 1 else v) os vs
theorem decF_row : ∀ (os pre suf : List Int), os.length = suf.length → decF pre.length os (pre ++ suf) = pre ++ decZ os suf
  | [], pre, suf, h => by
    have : suf = [] := List.length_eq_zero_iff.1 h.symm
    subst this; rfl
  | o :: os, pre, [], h => by simp at h
  | o :: os, pre, v :: suf, h => by
    have hg : gq (pre ++ v :: suf) pre.length = v := by have := gq_app_r pre (v :: suf) 0; rw [Nat.add_zero] at this; rw [this, gq_cons_z]
    have hs : (pre ++ v :: suf).set pre.length (v - 1) = pre ++ (v - 1) :: suf := by simp
    unfold decF
    rw [hg, hs]
    have ih := fun y => decF_row os (pre ++ [y]) suf (by simpa using h)
    have e : (if 0 < o then pre ++ (v - 1) :: suf else pre ++ v :: suf) = (pre ++ [if 0 < o then v - 1 else v]) ++ suf := by split <;> simp
    rw [e]
    have := ih (if 0 < o then v - 1 else v)
    rw [List.length_append, List.length_singleton] at this
    rw [this]
    simp [decZ]
def restT (x : Tk) : Tk := (x.1, x.2.1, max (x.2.2 - 1) 0)
theorem slot_none (hit : Bool) (ds : List Int) : ∀ (ts : List Tk) (i : Nat), sendersF i ts = [] → slotF hit i ts ds = (ts.map restT, ds, [])
  | [], _, _ => rfl
  | x :: r, i, h => by
    unfold sendersF at h
    split at h
    · cases h
    · rename_i hs
      rw [slotF, if_neg hs, slot_none hit ds r (i + 1) h]; rfl
theorem decZ_rest : ∀ (ts : List Tk), (∀ x ∈ ts, 0 ≤ x.2.2) → decZ (wO ts) (wO ts) = wO (ts.map restT)
  | [], _ => rfl
  | x :: r, h => by
    have ih := decZ_rest r (fun y hy => h y (by simp [hy]))
    have hx := h x (by simp)
    simp only [decZ, wO, List.map_cons, List.zipWith_cons_cons] at *
    rw [ih]
    congr 1
    simp only [restT]; split <;> omega
theorem slot_one (ds : List Int) : ∀ (ts : List Tk) (i k : Nat), sendersF i ts = [i + k] → (∀ x ∈ ts, 0 ≤ x.2.2) →
    fO (slotF false i ts ds).1 = (fO ts).set k (gq (fO ts) k - 1) ∧ tO (slotF false i ts ds).1 = (tO ts).set k 0 ∧ wO (slotF false i ts ds).1 = decZ (wO ts) (wO ts) ∧ (slotF false i ts ds).2.1 = ds ∧ (slotF false i ts ds).2.2 = [((i + k : Nat) : Int)] ∧ k < ts.length
  | [], _, _, h, _ => by simp [sendersF] at h
  | x :: r, i, k, h, hw => by
    have hx := hw x (by simp)
    unfold sendersF at h
    split at h
    · rename_i hs
      injection h with h1 h2
      have hk : k = 0 := by omega
      subst hk
      rw [slotF, if_pos hs, slot_none false ds r (i + 1) h2]
      simp [sendsT] at hs
      have hr := decZ_rest r (fun y hy => hw y (by simp [hy]))
      refine ⟨?_, ?_, ?_, by simp, by simp, by simp⟩
      · simp [fO, gq]; intro _ _ _ _; rfl
      · simp [tO]; intro _ _ _ _; rfl
      · simp only [wO, decZ, List.map_cons, List.zipWith_cons_cons, hs.2] at *
        rw [hr]; simp
    · rename_i hs
      have hb := sendersF_ge r (i + 1) (i + k) (by rw [h]; simp)
      obtain ⟨j, rfl⟩ : ∃ j, k = j + 1 := ⟨k - 1, by omega⟩
      have ih := slot_one ds r (i + 1) j (by rw [h]; congr 1; omega) (fun y hy => hw y (by simp [hy]))
      obtain ⟨a, b, c, d, e, g⟩ := ih
      rw [slotF, if_neg hs]
      refine ⟨?_, ?_, ?_, by simpa using d, by rw [show i + (j + 1) = i + 1 + j by omega]; simpa using e, by simp; omega⟩
      · simp only [fO, List.map_cons, List.set_cons_succ, gq_cons_s] at *; rw [a]
      · simp only [tO, List.map_cons, List.set_cons_succ] at *; rw [b]
      · simp only [wO, decZ, List.map_cons, List.zipWith_cons_cons] at *
        rw [c]; congr 1; split <;> omega
theorem slot_hit : ∀ (ts : List Tk) (i : Nat) (ds pw pt : List Int), pw.length = i → pt.length = i → (∀ x ∈ ts, 0 ≤ x.2.2) →
    ∃ hw, hitF (sendersF i ts) (pw ++ wO ts) (pt ++ tO ts) ds = (pw ++ hw, pt ++ tO (slotF true i ts ds).1, (slotF true i ts ds).2.1) ∧ hw.length = ts.length ∧ decZ (wO ts) hw = wO (slotF true i ts ds).1 ∧ fO (slotF true i ts ds).1 = fO ts
  | [], i, ds, pw, pt, _, _, _ => ⟨[], by simp [sendersF, hitF, slotF, wO, tO], rfl, rfl, rfl⟩
  | x :: r, i, ds, pw, pt, h1, h2, hw => by
    have hx := hw x (by simp)
    have ih := fun ds pw pt h1 h2 => slot_hit r (i + 1) ds pw pt h1 h2 (fun y hy => hw y (by simp [hy]))
    unfold sendersF slotF
    by_cases hs : sendsT x = true
    · rw [if_pos hs, if_pos hs]
      subst h1
      have g1 : gq (pt ++ tO (x :: r)) pw.length = x.2.1 := by rw [← h2]; have := gq_app_r pt (tO (x :: r)) 0; rw [Nat.add_zero] at this; rw [this]; simp [tO, gq]
      unfold hitF
      rw [g1]
      have e1 : (pw ++ wO (x :: r)).set pw.length (waitP (x.2.1 + 1) (drawOf ds pw.length)) = (pw ++ [waitP (x.2.1 + 1) (drawOf ds pw.length)]) ++ wO r := by simp [wO]
      have e2 : (pt ++ tO (x :: r)).set pw.length (x.2.1 + 1) = (pt ++ [x.2.1 + 1]) ++ tO r := by rw [← h2]; simp [tO]
      rw [e1, e2]
      obtain ⟨hv, a, b, c, d⟩ := ih ds.tail (pw ++ [waitP (x.2.1 + 1) (drawOf ds pw.length)]) (pt ++ [x.2.1 + 1]) (by simp) (by simp [h2])
      refine ⟨waitP (x.2.1 + 1) (drawOf ds pw.length) :: hv, by rw [a]; simp [tO], by simp [b], ?_, ?_⟩
      · simp [sendsT] at hs
        simp only [if_true, wO, decZ, List.map_cons, List.zipWith_cons_cons, hs.2] at *
        rw [c]; simp
      · simp only [if_true, fO, List.map_cons] at *; rw [d]
    · rw [if_neg hs, if_neg hs]
      obtain ⟨hv, a, b, c, d⟩ := ih ds (pw ++ [x.2.2]) (pt ++ [x.2.1]) (by simp [h1]) (by simp [h2])
      refine ⟨x.2.2 :: hv, ?_, by simp [b], ?_, ?_⟩
      · have e1 : pw ++ wO (x :: r) = (pw ++ [x.2.2]) ++ wO r := by simp [wO]
        have e2 : pt ++ tO (x :: r) = (pt ++ [x.2.1]) ++ tO r := by simp [tO]
        rw [e1, e2, a]; simp [tO]
      · simp only [wO, decZ, List.map_cons, List.zipWith_cons_cons] at *
        rw [c]; congr 1; split <;> omega
      · simp only [fO, List.map_cons] at *; rw [d]
theorem sendersF_snoc : ∀ (ts : List Tk) (i k : Nat) (x : Tk), ts[k]? = some x → sendersF i (ts.take (k + 1)) = sendersF i (ts.take k) ++ (if sendsT x then [i + k] else [])
  | [], _, _, _, h => by simp at h
  | y :: r, i, 0, x, h => by
    simp at h; subst h
    simp only [List.take_succ_cons, List.take_zero, sendersF]
    split <;> simp [*]
  | y :: r, i, k + 1, x, h => by
    have ih := sendersF_snoc r (i + 1) k x (by simpa using h)
    rw [List.take_succ_cons, List.take_succ_cons, sendersF, sendersF, ih, show i + 1 + k = i + (k + 1) by omega]
    split <;> simp
theorem fO_pos : ∀ (ts : List Tk), (∀ x ∈ ts, 0 ≤ x.1) → (0 < (fO ts).sum ↔ goesL ts = true) ∧ 0 ≤ (fO ts).sum
  | [], _ => by simp [fO, goesL]
  | x :: r, h => by
    have ih := fO_pos r (fun y hy => h y (by simp [hy]))
    have hx := h x (by simp)
    simp only [fO, List.map_cons, List.sum_cons, goesL, List.any_cons, Bool.or_eq_true, decide_eq_true_eq] at *
    obtain ⟨i1, i2⟩ := ih
    refine ⟨⟨fun hs => ?_, fun hs => ?_⟩, by omega⟩
    · by_cases h0 : 0 < x.1
      · exact .inl h0
      · exact .inr (i1.1 (by omega))
    · rcases hs with h0 | h0
      · omega
      · have := i1.2 h0; omega

/- What was sent, by station. -/
def sentP (o : List Int) (n : Nat) : List Int := (List.range n).map fun (k : Nat) => ((o.count (k : Int) : Nat) : Int)
def sentL (o : List Int) (n : Int) : List Int := if 0 ≤ n ∧ n ≤ 6 then sentP o n.toNat else []
theorem sentL_yes {o : List Int} {n : Nat} (h : n ≤ 6) : sentL o n = sentP o n := by unfold sentL; rw [if_pos (by omega)]; simp
theorem sentL_no {o : List Int} {n : Int} (h : ¬ (0 ≤ n ∧ n ≤ 6)) : sentL o n = [] := if_neg h
theorem sentP_len (o : List Int) (n : Nat) : (sentP o n).length = n := by simp [sentP]
theorem sentP_at {o : List Int} {n k : Nat} (h : k < n) : (sentP o n)[k]? = some ((o.count (k : Int) : Nat) : Int) := by simp [sentP, h]
theorem sentP_succ (o : List Int) (n : Nat) : sentP o (n + 1) = sentP o n ++ [((o.count (n : Int) : Nat) : Int)] := by simp [sentP, List.range_succ]
theorem sentP_in {o : List Int} {x : Int} {n k : Nat} (hx : x = (k : Int)) (hk : k < n) : sentP (o ++ [x]) n = (sentP o n).set k (gq (sentP o n) k + 1) := by
  subst hx
  apply List.ext_getElem?
  intro j
  by_cases hj : j < n
  · rw [sentP_at hj]
    by_cases hjk : j = k
    · subst hjk
      rw [List.getElem?_set_self (by simp [sentP_len, hj])]
      simp [gq, sentP_at hj, List.count_append]
    · rw [List.getElem?_set_ne (Ne.symm hjk), sentP_at hj]
      have : ¬ ((k : Int) = (j : Int)) := by omega
      simp [List.count_append, this]
  · rw [List.getElem?_eq_none (by simp [sentP_len]; omega), List.getElem?_eq_none (by simp [sentP_len]; omega)]
theorem sentP_out {o : List Int} {x : Int} {n : Nat} (hx : ¬ (0 ≤ x ∧ x < n)) : sentP (o ++ [x]) n = sentP o n := by
  unfold sentP
  apply List.map_congr_left
  intro k hk
  have hk' := List.mem_range.1 hk
  have : ¬ (x = (k : Int)) := by omega
  simp [List.count_append, this]
theorem sentP_nil (n : Nat) : sentP [] n = List.replicate n 0 := by
  apply List.ext_getElem?
  intro j
  by_cases hj : j < n <;> simp [sentP, hj]

/- In turn. -/
def turnPart (hold T : Nat) : Nat → List Int → List Int
  | _, [] => []
  | i, f :: r => List.replicate (min (f.toNat - T * hold) hold) (i : Int) ++ turnPart hold T (i + 1) r
def orderTo (qs : List Int) (hold : Nat) : Nat → List Int
  | 0 => []
  | T + 1 => orderTo qs hold T ++ turnPart hold T 0 qs
def maxL (qs : List Int) : Int := qs.foldl max 0
theorem maxL_snoc (a : List Int) (x : Int) : maxL (a ++ [x]) = max (maxL a) x := by simp [maxL]
theorem maxL_nil : maxL [] = 0 := rfl
theorem foldmax_ge : ∀ (qs : List Int) (m : Int), m ≤ qs.foldl max m ∧ ∀ x ∈ qs, x ≤ qs.foldl max m
  | [], m => ⟨by simp, fun _ h => by cases h⟩
  | y :: r, m => by
    have ih := foldmax_ge r (max m y)
    refine ⟨by simp only [List.foldl_cons]; omega, fun x hx => ?_⟩
    rcases List.mem_cons.1 hx with rfl | hx
    · simp only [List.foldl_cons]; omega
    · exact ih.2 x hx
theorem foldmax_in : ∀ (qs : List Int) (m : Int), qs.foldl max m = m ∨ qs.foldl max m ∈ qs
  | [], m => .inl rfl
  | y :: r, m => by
    rcases foldmax_in r (max m y) with h | h
    · rw [List.foldl_cons, h]
      rcases Int.le_total m y with h2 | h2
      · rw [Int.max_eq_right h2]; exact .inr (by simp)
      · rw [Int.max_eq_left h2]; exact .inl rfl
    · exact .inr (by rw [List.foldl_cons]; exact List.mem_cons_of_mem _ h)
theorem maxL_ge {qs : List Int} {x : Int} (h : x ∈ qs) : x ≤ maxL qs := (foldmax_ge qs 0).2 x h
theorem maxL_nn (qs : List Int) : 0 ≤ maxL qs := (foldmax_ge qs 0).1
theorem maxL_in (qs : List Int) : maxL qs = 0 ∨ maxL qs ∈ qs := foldmax_in qs 0
theorem maxL_le {qs : List Int} (h : okQ qs = true) : maxL qs ≤ 9 := by
  rcases maxL_in qs with e | e
  · omega
  · exact (okQ_iff.1 h _ e).2
def ceilI (m hold : Int) : Int := (m + hold - 1) / hold
theorem ceilI_b {m hold : Int} (hm : 0 ≤ m ∧ m ≤ 9) (hh : 1 ≤ hold ∧ hold ≤ 9) : 0 ≤ ceilI m hold ∧ ceilI m hold ≤ 9 ∧ m ≤ ceilI m hold * hold ∧ (0 < ceilI m hold → (ceilI m hold - 1) * hold < m) := by
  unfold ceilI
  have h9 : hold = 1 ∨ hold = 2 ∨ hold = 3 ∨ hold = 4 ∨ hold = 5 ∨ hold = 6 ∨ hold = 7 ∨ hold = 8 ∨ hold = 9 := by omega
  rcases h9 with rfl | rfl | rfl | rfl | rfl | rfl | rfl | rfl | rfl <;> omega
theorem ceilI_max {a b hold : Int} (hh : 1 ≤ hold ∧ hold ≤ 9) : ceilI (max a b) hold = max (ceilI a hold) (ceilI b hold) := by
  unfold ceilI
  have h9 : hold = 1 ∨ hold = 2 ∨ hold = 3 ∨ hold = 4 ∨ hold = 5 ∨ hold = 6 ∨ hold = 7 ∨ hold = 8 ∨ hold = 9 := by omega
  rcases h9 with rfl | rfl | rfl | rfl | rfl | rfl | rfl | rfl | rfl <;> omega
theorem ceilI_zero {hold : Int} (hh : 1 ≤ hold ∧ hold ≤ 9) : ceilI 0 hold = 0 := by
  unfold ceilI
  have h9 : hold = 1 ∨ hold = 2 ∨ hold = 3 ∨ hold = 4 ∨ hold = 5 ∨ hold = 6 ∨ hold = 7 ∨ hold = 8 ∨ hold = 9 := by omega
  rcases h9 with rfl | rfl | rfl | rfl | rfl | rfl | rfl | rfl | rfl <;> omega
def turnsOk (qs : List Int) (hold : Int) : Bool := talkOk qs && (decide (1 ≤ hold) && decide (hold ≤ 9))
theorem turnsOk_iff {qs : List Int} {hold : Int} : turnsOk qs hold = true ↔ talkOk qs = true ∧ 1 ≤ hold ∧ hold ≤ 9 := by simp [turnsOk]
def turnsI (qs : List Int) (hold : Int) : Int := if turnsOk qs hold then ceilI (maxL qs) hold else -1
theorem turnsI_yes {qs : List Int} {hold : Int} (h : turnsOk qs hold = true) : turnsI qs hold = ceilI (maxL qs) hold := if_pos h
theorem turnsI_no {qs : List Int} {hold : Int} (h : turnsOk qs hold = false) : turnsI qs hold = -1 := by unfold turnsI; rw [h]; rfl
theorem turnsI_b (qs : List Int) (hold : Int) : -1 ≤ turnsI qs hold ∧ turnsI qs hold ≤ 9 := by
  unfold turnsI; split
  · rename_i h
    obtain ⟨h1, h2⟩ := turnsOk_iff.1 h
    have := ceilI_b ⟨maxL_nn qs, maxL_le (talkOk_iff.1 h1).1⟩ h2
    omega
  · omega
/-- In so many turns all is sent, and not before. -/
theorem turns_enough {qs : List Int} {hold : Int} (h : turnsOk qs hold = true) : (∀ x ∈ qs, x ≤ turnsI qs hold * hold) ∧ (turnsI qs hold = 0 ∨ ∃ x ∈ qs, (turnsI qs hold - 1) * hold < x) := by
  obtain ⟨h1, h2⟩ := turnsOk_iff.1 h
  have hb := ceilI_b ⟨maxL_nn qs, maxL_le (talkOk_iff.1 h1).1⟩ h2
  rw [turnsI_yes h]
  refine ⟨fun x hx => Int.le_trans (maxL_ge hx) hb.2.2.1, ?_⟩
  rcases maxL_in qs with e | e
  · left; rw [e]; exact ceilI_zero h2
  · by_cases h0 : 0 < ceilI (maxL qs) hold
    · exact .inr ⟨_, e, hb.2.2.2 h0⟩
    · left; omega
def orderAll (qs : List Int) (hold : Int) : List Int := orderTo qs hold.toNat (turnsI qs hold).toNat

theorem turnPart_mem (hold T : Nat) : ∀ (qs : List Int) (i : Nat), ∀ x ∈ turnPart hold T i qs, (i : Int) ≤ x ∧ x < (i + qs.length : Nat)
  | [], _, _, h => by simp [turnPart] at h
  | f :: r, i, x, h => by
    rw [turnPart, List.mem_append] at h
    rcases h with h | h
    · rw [List.mem_replicate] at h; rw [h.2]; simp; omega
    · have := turnPart_mem hold T r (i + 1) x h; simp; omega
theorem turnPart_count (hold T : Nat) : ∀ (qs : List Int) (i k : Nat), (turnPart hold T i qs).count ((i + k : Nat) : Int) = min ((gq qs k).toNat - T * hold) hold
  | [], i, k => by simp [turnPart, gq]
  | f :: r, i, 0 => by
    have h0 : (turnPart hold T (i + 1) r).count ((i : Nat) : Int) = 0 := by
      rw [List.count_eq_zero]
      intro hm
      have := turnPart_mem hold T r (i + 1) _ hm
      omega
    rw [turnPart, List.count_append, Nat.add_zero, h0, gq_cons_z]; simp
  | f :: r, i, k + 1 => by
    have ih := turnPart_count hold T r (i + 1) k
    rw [show i + 1 + k = i + (k + 1) by omega] at ih
    rw [turnPart, List.count_append, ih, gq_cons_s, List.count_replicate]
    have : ((i : Int) == ((i + (k + 1) : Nat) : Int)) = false := by simp; omega
    rw [this]; simp
theorem orderTo_count (qs : List Int) (hold k : Nat) : ∀ T, (orderTo qs hold T).count (k : Int) = min (gq qs k).toNat (T * hold)
  | 0 => by simp [orderTo]
  | T + 1 => by
    have h1 := turnPart_count hold T qs 0 k
    rw [Nat.zero_add] at h1
    rw [orderTo, List.count_append, orderTo_count qs hold k T, h1, Nat.succ_mul]
    omega
def sumMin (qs : List Int) (m : Nat) : Nat := (qs.map fun q => min q.toNat m).sum
theorem turnPart_len (hold T : Nat) : ∀ (qs : List Int) (i : Nat), sumMin qs (T * hold) + (turnPart hold T i qs).length = sumMin qs ((T + 1) * hold)
  | [], _ => rfl
  | f :: r, i => by
    have ih := turnPart_len hold T r (i + 1)
    unfold sumMin at *
    rw [turnPart, List.length_append, List.length_replicate, List.map_cons, List.sum_cons, List.map_cons, List.sum_cons]
    rw [Nat.succ_mul] at *
    omega
theorem orderTo_len (qs : List Int) (hold : Nat) : ∀ T, (orderTo qs hold T).length = sumMin qs (T * hold)
  | 0 => by
    simp only [orderTo, sumMin, Nat.zero_mul, Nat.min_zero, List.length_nil]
    induction qs with
    | nil => rfl
    | cons q r ih => simpa using ih
  | T + 1 => by rw [orderTo, List.length_append, orderTo_len qs hold T, turnPart_len]
theorem sumMin_all : ∀ (qs : List Int) (m : Nat), (∀ x ∈ qs, 0 ≤ x ∧ x ≤ m) → (sumMin qs m : Int) = qs.sum
  | [], _, _ => rfl
  | q :: r, m, h => by
    have ih := sumMin_all r m (fun x hx => h x (by simp [hx]))
    have hq := h q (by simp)
    unfold sumMin at *
    rw [List.map_cons, List.sum_cons, List.sum_cons]
    push_cast
    omega
theorem orderTo_pre (qs : List Int) (hold : Nat) : ∀ (k T : Nat), ∃ p, orderTo qs hold (T + k) = orderTo qs hold T ++ p
  | 0, T => ⟨[], by simp⟩
  | k + 1, T => by
    obtain ⟨p, hp⟩ := orderTo_pre qs hold k T
    exact ⟨p ++ turnPart hold (T + k) 0 qs, by rw [← Nat.add_assoc, orderTo, hp, List.append_assoc]⟩
theorem orderTo_mem (qs : List Int) (hold T : Nat) : ∀ x ∈ orderTo qs hold T, 0 ≤ x ∧ x < (qs.length : Nat) := by
  induction T with
  | zero => intro x h; simp [orderTo] at h
  | succ T ih =>
    intro x h
    rw [orderTo, List.mem_append] at h
    rcases h with h | h
    · exact ih x h
    · have := turnPart_mem hold T qs 0 x h; simpa using this
/-- All is in the order of all turns. -/
theorem orderAll_len {qs : List Int} {hold : Int} (h : turnsOk qs hold = true) : ((orderAll qs hold).length : Int) = qs.sum := by
  obtain ⟨h1, h2⟩ := turnsOk_iff.1 h
  have he := (turns_enough h).1
  have hb := turnsI_b qs hold
  have hq := okQ_iff.1 (talkOk_iff.1 h1).1
  unfold orderAll
  rw [orderTo_len, sumMin_all]
  intro x hx
  refine ⟨(hq x hx).1, Int.le_trans (he x hx) ?_⟩
  have h0 : 0 ≤ turnsI qs hold := by rw [turnsI_yes h]; exact (ceilI_b ⟨maxL_nn qs, maxL_le (talkOk_iff.1 h1).1⟩ h2).1
  push_cast
  rw [Int.toNat_of_nonneg h0, Int.toNat_of_nonneg (by omega)]
  exact Int.le_refl _
/-- The share of each in a beginning of the order. -/
theorem order_between (qs : List Int) (hold : Nat) : ∀ (M : Nat) (p s : List Int), orderTo qs hold M = p ++ s → ∃ T, ∀ k : Nat, min (gq qs k).toNat (T * hold) ≤ p.count (k : Int) ∧ p.count (k : Int) ≤ (T + 1) * hold
  | 0, p, s, h => by
    have hp : p = [] := (List.append_eq_nil_iff.1 h.symm).1
    exact ⟨0, fun k => by rw [hp]; simp⟩
  | M + 1, p, s, h => by
    rw [orderTo, List.append_eq_append_iff] at h
    rcases h with ⟨a, ha, hb⟩ | ⟨a, ha, _⟩
    · refine ⟨M, fun k => ?_⟩
      have h1 := turnPart_count hold M qs 0 k
      have h2 : a.count (k : Int) ≤ (turnPart hold M 0 qs).count (k : Int) := by rw [hb, List.count_append]; omega
      rw [Nat.zero_add] at h1
      rw [ha, List.count_append, orderTo_count, Nat.succ_mul]
      omega
    · exact order_between qs hold M p a ha
theorem order_fair {qs : List Int} {hold M : Nat} {p s : List Int} (h : orderTo qs hold M = p ++ s) {a b : Nat} (hlt : ((p.count (b : Int) : Nat) : Int) < gq qs b) : p.count (a : Int) ≤ p.count (b : Int) + hold := by
  obtain ⟨T, hT⟩ := order_between qs hold M p s h
  have h1 := (hT b).1
  have h2 := (hT a).2
  rw [Nat.succ_mul] at h2
  omega

/- What RunToken returns. -/
def tokOk (qs : List Int) (hold sl : Int) : Bool := turnsOk qs hold && (decide (0 ≤ sl) && decide (sl ≤ 2000))
theorem tokOk_iff {qs : List Int} {hold sl : Int} : tokOk qs hold sl = true ↔ turnsOk qs hold = true ∧ 0 ≤ sl ∧ sl ≤ 2000 := by simp [tokOk]
def tokO (qs : List Int) (hold sl : Int) : List Int := if tokOk qs hold sl then (orderAll qs hold).take sl.toNat else []
def tokD (qs : List Int) (hold sl : Int) : Bool := tokOk qs hold sl && decide ((orderAll qs hold).length ≤ sl.toNat)
theorem tokO_yes {qs : List Int} {hold sl : Int} (h : tokOk qs hold sl = true) : tokO qs hold sl = (orderAll qs hold).take sl.toNat := if_pos h
theorem tokO_no {qs : List Int} {hold sl : Int} (h : tokOk qs hold sl = false) : tokO qs hold sl = [] := by unfold tokO; rw [h]; rfl
theorem tokO_len (qs : List Int) (hold sl : Int) : (tokO qs hold sl).length ≤ 2000 := by
  unfold tokO; split
  · rename_i h; have := (tokOk_iff.1 h).2; rw [List.length_take]; omega
  · simp
theorem sum_b {qs : List Int} (h : okQ qs = true) : 0 ≤ qs.sum ∧ qs.sum ≤ 9 * (qs.length : Int) := by
  have h1 := okQ_iff.1 h
  clear h
  induction qs with
  | nil => simp
  | cons q r ih =>
    have := h1 q (by simp)
    have := ih (fun x hx => h1 x (by simp [hx]))
    simp; omega
theorem tok_all {qs : List Int} {hold sl : Int} (h : tokOk qs hold sl = true) : ((tokO qs hold sl).length : Int) = min qs.sum sl ∧ (tokD qs hold sl = decide (qs.sum ≤ sl)) := by
  obtain ⟨h1, h2⟩ := tokOk_iff.1 h
  have hl := orderAll_len h1
  refine ⟨by rw [tokO_yes h, List.length_take]; omega, ?_⟩
  unfold tokD
  rw [h, Bool.true_and]
  apply decide_eq_decide.2
  omega
theorem tok_fair {qs : List Int} {hold sl : Int} {i a b : Nat} (hlt : (((((tokO qs hold sl).take i)).count (b : Int) : Nat) : Int) < gq qs b) : ((((tokO qs hold sl).take i).count (a : Int) : Nat) : Int) ≤ (((tokO qs hold sl).take i).count (b : Int) : Nat) + max hold 0 := by
  unfold tokO at *
  split
  · rename_i h
    rw [if_pos h] at hlt
    rw [List.take_take] at *
    have := order_fair (qs := qs) (hold := hold.toNat) (M := (turnsI qs hold).toNat) (p := (orderAll qs hold).take (min i sl.toNat)) (s := (orderAll qs hold).drop (min i sl.toNat)) (a := a) (by rw [List.take_append_drop]; rfl) hlt
    omega
  · simp; omega

/- In turn, as the model reckons it. -/
def tokIn (lim k : Nat) : Nat → List Int → List Int → List Int × List Int
  | 0, l, o => (l, o)
  | m + 1, l, o => if 0 < gq l k ∧ o.length < lim then tokIn lim k m (l.set k (gq l k - 1)) (o ++ [(k : Int)]) else (l, o)
def tokRow (lim hold : Nat) : Nat → Nat → List Int → List Int → List Int × List Int
  | _, 0, l, o => (l, o)
  | k, m + 1, l, o => tokRow lim hold (k + 1) m (tokIn lim k hold l o).1 (tokIn lim k hold l o).2
/-- What is left when o was sent. -/
structure Lf (qs l o : List Int) : Prop where
  len : l.length = qs.length
  at_ : ∀ k : Nat, k < qs.length → gq l k + (o.count (k : Int) : Nat) = gq qs k
  sum : l.sum + (o.length : Nat) = qs.sum
  nn : ∀ x ∈ l, 0 ≤ x
theorem sum_set : ∀ (l : List Int) (k : Nat) (x : Int), k < l.length → (l.set k x).sum + gq l k = l.sum + x
  | [], k, x, h => by simp at h
  | a :: r, 0, x, _ => by simp [gq]; omega
  | a :: r, k + 1, x, h => by
    have ih := sum_set r k x (by simpa using h)
    rw [List.set_cons_succ, List.sum_cons, List.sum_cons, gq_cons_s]; omega
theorem Lf.step {qs l o : List Int} {k : Nat} (h : Lf qs l o) (hk : k < qs.length) (hp : 0 < gq l k) : Lf qs (l.set k (gq l k - 1)) (o ++ [(k : Int)]) := by
  have hl := h.len
  refine ⟨by simp [hl], fun j hj => ?_, ?_, fun x hx => ?_⟩
  · have h1 := h.at_ j hj
    by_cases hjk : j = k
    · subst hjk
      rw [gq_set_eq (by omega), List.count_append]
      simp; omega
    · rw [gq_set_ne (Ne.symm hjk), List.count_append]
      have : ¬ ((k : Int) = (j : Int)) := by omega
      simp [this]; omega
  · have := sum_set l k (gq l k - 1) (by omega)
    have := h.sum
    simp; omega
  · rcases List.mem_or_eq_of_mem_set hx with hx | rfl
    · exact h.nn x hx
    · omega
theorem tokIn_is {qs : List Int} {lim k : Nat} (hk : k < qs.length) : ∀ (m : Nat) (l o : List Int), Lf qs l o → o.length ≤ lim →
    Lf qs (tokIn lim k m l o).1 (tokIn lim k m l o).2 ∧ (tokIn lim k m l o).2 = (o ++ List.replicate (min (gq l k).toNat m) (k : Int)).take lim
  | 0, l, o, h, ho => by
    refine ⟨h, ?_⟩
    simp [tokIn, List.take_of_length_le ho]
  | m + 1, l, o, h, ho => by
    unfold tokIn
    split
    · rename_i hc
      have ih := tokIn_is (lim := lim) hk m _ _ (h.step hk hc.1) (by simp; omega)
      refine ⟨ih.1, ?_⟩
      rw [ih.2, gq_set_eq (by rw [h.len]; exact hk), List.append_assoc, List.singleton_append, ← List.replicate_succ, show min (gq l k - 1).toNat m + 1 = min (gq l k).toNat (m + 1) by omega]
    · rename_i hc
      refine ⟨h, ?_⟩
      by_cases hp : 0 < gq l k
      · have hlim : o.length = lim := by omega
        rw [← hlim]; simp
      · rw [show min (gq l k).toNat (m + 1) = 0 by omega]
        simp [List.take_of_length_le ho]
theorem take_app_take (a b : List Int) (n : Nat) : (a.take n ++ b).take n = (a ++ b).take n := by
  rw [List.take_append, List.take_append, List.take_take, List.length_take]
  congr 1
  · congr 1; omega
  · by_cases h : n ≤ a.length
    · rw [show n - min n a.length = 0 by omega, show n - a.length = 0 by omega]
    · congr 1; omega
theorem tokRow_is {qs : List Int} {lim hold T : Nat} : ∀ (r : List Int) (k : Nat) (l o P : List Int), k + r.length = qs.length → (∀ j, gq r j = gq qs (k + j)) → Lf qs l o → o = P.take lim → (∀ j : Nat, k ≤ j → P.count (j : Int) = min (gq qs j).toNat (T * hold)) →
    Lf qs (tokRow lim hold k r.length l o).1 (tokRow lim hold k r.length l o).2 ∧ (tokRow lim hold k r.length l o).2 = (P ++ turnPart hold T k r).take lim
  | [], k, l, o, P, _, _, h, ho, _ => ⟨h, by simp [tokRow, turnPart, ho]⟩
  | f :: r, k, l, o, P, hk, hr, h, ho, hP => by
    have hkq : k < qs.length := by simp at hk; omega
    have hf : f = gq qs k := by have := hr 0; rwa [gq_cons_z, Nat.add_zero] at this
    have hin := tokIn_is (lim := lim) hkq hold l o h (by rw [ho, List.length_take]; omega)
    have hat := h.at_ k hkq
    have key : (tokIn lim k hold l o).2 = (P ++ List.replicate (min (f.toNat - T * hold) hold) (k : Int)).take lim := by
      rw [hin.2]
      by_cases hlim : lim ≤ P.length
      · have hol : o.length = lim := by rw [ho, List.length_take]; omega
        rw [List.take_append_of_le_length hlim, List.take_append_of_le_length (by omega), ho, List.take_take, Nat.min_self]
      · have hoP : o = P := by rw [ho, List.take_of_length_le (by omega)]
        have hc := hP k (Nat.le_refl k)
        rw [← hoP] at hc ⊢
        congr 3
        rw [hf]
        omega
    have hstep := tokRow_is (qs := qs) (lim := lim) (hold := hold) (T := T) r (k + 1) _ _ (P ++ List.replicate (min (f.toNat - T * hold) hold) (k : Int)) (by simp at hk; omega) (fun j => by have := hr (j + 1); rw [gq_cons_s] at this; rw [this]; congr 1; omega) hin.1 key (fun j hj => by
      have := hP j (by omega)
      have hne : ¬ ((k : Int) = (j : Int)) := by omega
      rw [List.count_append, this, List.count_replicate]; simp [hne])
    rw [List.append_assoc] at hstep
    exact hstep
theorem tokRow_turn {qs : List Int} {lim hold T : Nat} {l o : List Int} (h : Lf qs l o) (ho : o = (orderTo qs hold T).take lim) :
    Lf qs (tokRow lim hold 0 qs.length l o).1 (tokRow lim hold 0 qs.length l o).2 ∧ (tokRow lim hold 0 qs.length l o).2 = (orderTo qs hold (T + 1)).take lim :=
  tokRow_is qs 0 l o (orderTo qs hold T) (by simp) (fun j => by rw [Nat.zero_add]) h ho (fun j _ => orderTo_count qs hold j T)
theorem lf_init (qs : List Int) (h : okQ qs = true) : Lf qs qs [] := ⟨rfl, fun _ _ => by simp, by simp, fun x hx => (okQ_iff.1 h x hx).1⟩
theorem sum_nn : ∀ (l : List Int), (∀ x ∈ l, 0 ≤ x) → 0 ≤ l.sum
  | [], _ => by simp
  | a :: r, h => by
    have := sum_nn r (fun x hx => h x (by simp [hx]))
    have := h a (by simp)
    rw [List.sum_cons]; omega
theorem tok_end {qs : List Int} {hold sl : Int} {T : Nat} {l o : List Int} (hv : tokOk qs hold sl = true) (h : Lf qs l o) (ho : o = (orderTo qs hold.toNat T).take sl.toNat)
    (hx : ¬ ((o.length : Int) < sl ∧ 0 < l.sum)) : o = tokO qs hold sl ∧ decide (l.sum = 0) = tokD qs hold sl := by
  obtain ⟨h1, h2⟩ := tokOk_iff.1 hv
  have hl := orderAll_len h1
  have hs := h.sum
  have hn := sum_nn l h.nn
  have hol : o.length ≤ sl.toNat := by rw [ho, List.length_take]; omega
  have hlen : o.length = ((orderAll qs hold).take sl.toNat).length := by rw [List.length_take]; omega
  have e : o = tokO qs hold sl := by
    rw [tokO_yes hv]
    obtain ⟨M, a, b, hM, hT⟩ : ∃ M a b, orderTo qs hold.toNat M = orderTo qs hold.toNat T ++ a ∧ orderTo qs hold.toNat M = orderAll qs hold ++ b := by
      rcases Nat.le_total T (turnsI qs hold).toNat with hle | hle
      · obtain ⟨p, hp⟩ := orderTo_pre qs hold.toNat ((turnsI qs hold).toNat - T) T
        rw [show T + ((turnsI qs hold).toNat - T) = (turnsI qs hold).toNat by omega] at hp
        exact ⟨_, p, [], hp, by simp [orderAll]⟩
      · obtain ⟨p, hp⟩ := orderTo_pre qs hold.toNat (T - (turnsI qs hold).toNat) (turnsI qs hold).toNat
        rw [show (turnsI qs hold).toNat + (T - (turnsI qs hold).toNat) = T by omega] at hp
        exact ⟨_, [], p, by simp, hp⟩
    have p1 : o <+: orderTo qs hold.toNat M := by rw [hM, ho]; exact (List.take_prefix _ _).trans (List.prefix_append _ _)
    have p2 : (orderAll qs hold).take sl.toNat <+: orderTo qs hold.toNat M := by rw [hT]; exact (List.take_prefix _ _).trans (List.prefix_append _ _)
    exact (List.prefix_of_prefix_length_le p1 p2 (by omega)).eq_of_length hlen
  refine ⟨e, ?_⟩
  rw [(tok_all hv).2]
  apply decide_eq_decide.2
  have := (tok_all hv).1
  rw [← e] at this
  omega
end Go.Proofs.Ytpciaokafokfmaa
