/-
  Chapter 13's mathematics: a sender and a receiver slot by slot, when they stop, that no more frames wait than there is room, how many are taken, and how many slots frames need where all slots are open. No condition.
-/
import Derived.Below
namespace Go.Proofs.Ytkdjcfejkgpplaa

/-- How many of n slots, from one on, are so. -/
def cntF (f : Nat → Bool) (a : Nat) : Nat → Nat
  | 0 => 0
  | n + 1 => cntF f a n + (f (a + n)).toNat
theorem cntF_cons (f : Nat → Bool) (a n : Nat) : cntF f a (n + 1) = (f a).toNat + cntF f (a + 1) n := by
  induction n with
  | zero => simp [cntF]
  | succ n ih =>
    rw [cntF, ih, cntF, show a + 1 + n = a + (n + 1) by omega]
    omega
theorem cntF_congr {f g : Nat → Bool} {a : Nat} : ∀ {n : Nat}, (∀ i, i < n → f (a + i) = g (a + i)) → cntF f a n = cntF g a n
  | 0, _ => rfl
  | n + 1, h => by rw [cntF, cntF, cntF_congr (fun i hi => h i (by omega)), h n (by omega)]
theorem cntF_split (f : Nat → Bool) (a k : Nat) : ∀ n, cntF f a (k + n) = cntF f a k + cntF f (a + k) n
  | 0 => rfl
  | n + 1 => by rw [show k + (n + 1) = k + n + 1 by omega, cntF, cntF_split f a k n, cntF, show a + k + n = a + (k + n) by omega]; omega
theorem toNat_le (b : Bool) : b.toNat ≤ 1 := by cases b <;> decide
theorem cntF_le (f : Nat → Bool) (a : Nat) : ∀ n, cntF f a n ≤ n
  | 0 => Nat.le_refl _
  | n + 1 => by have := cntF_le f a n; have := toNat_le (f (a + n)); rw [cntF]; omega
theorem cntF_head (f : Nat → Bool) (a : Nat) {n : Nat} (h : 0 < n) : (f a).toNat ≤ cntF f a n := by
  obtain ⟨m, rfl⟩ : ∃ m, n = m + 1 := ⟨n - 1, by omega⟩
  rw [cntF_cons]; omega

/-- A sender and a receiver: credits, waiting ones, sent, taken, the most that waited, and in which slots a frame and a credit arrive. -/
structure Cr where
  c : Nat
  w : Nat
  s : Nat
  k : Nat
  m : Nat
  fa : Nat → Bool
  ba : Nat → Bool
def Cr.ww (x : Cr) (t : Nat) : Nat := x.w + (x.fa t).toNat
def Cr.cc (x : Cr) (t : Nat) : Nat := x.c + (x.ba t).toNat
def Cr.tk (x : Cr) (op : Bool) (t : Nat) : Bool := op && decide (0 < x.ww t)
def Cr.sd (x : Cr) (many t : Nat) : Bool := decide (0 < x.cc t) && decide (x.s < many)
def upd1 (f : Nat → Bool) (i : Nat) (v : Bool) (j : Nat) : Bool := if j = i then v else f j
theorem upd1_same (f : Nat → Bool) (i : Nat) (v : Bool) : upd1 f i v i = v := if_pos rfl
theorem upd1_ne (f : Nat → Bool) {i j : Nat} (v : Bool) (h : j ≠ i) : upd1 f i v j = f j := if_neg h
def stepC (d many : Nat) (op : Bool) (t : Nat) (x : Cr) : Cr :=
  { c := x.cc t - (x.sd many t).toNat, w := x.ww t - (x.tk op t).toNat, s := x.s + (x.sd many t).toNat, k := x.k + (x.tk op t).toNat, m := max x.m (x.ww t), fa := upd1 x.fa (t + d) (x.sd many t), ba := upd1 x.ba (t + d) (x.tk op t) }
def crZero (room : Nat) : Cr := { c := room, w := 0, s := 0, k := 0, m := 0, fa := fun _ => false, ba := fun _ => false }
def crAt (room d many : Nat) (op : Nat → Bool) : Nat → Cr
  | 0 => crZero room
  | t + 1 => stepC d many (op t) t (crAt room d many op t)

theorem cntF_upd (f : Nat → Bool) (t d : Nat) (v : Bool) (hd : 1 ≤ d) : cntF (upd1 f (t + d) v) (t + 1) d + (f t).toNat = cntF f t d + v.toNat := by
  obtain ⟨e, rfl⟩ : ∃ e, d = e + 1 := ⟨d - 1, by omega⟩
  rw [cntF, cntF_cons f t e, show t + 1 + e = t + (e + 1) by omega, upd1_same, cntF_congr (f := upd1 f (t + (e + 1)) v) (g := f) (fun i hi => upd1_ne _ _ (by omega))]
  omega
theorem tk_le (x : Cr) (op : Bool) (t : Nat) : (x.tk op t).toNat ≤ x.ww t ∧ (x.tk op t).toNat ≤ op.toNat := by
  unfold Cr.tk
  cases op
  · simp
  · by_cases h : 0 < x.ww t
    · simp [h]; omega
    · simp [h]
theorem sd_le (x : Cr) (many t : Nat) : (x.sd many t).toNat ≤ x.cc t ∧ x.s + (x.sd many t).toNat ≤ max x.s many := by
  unfold Cr.sd
  by_cases h : 0 < x.cc t
  · by_cases h2 : x.s < many
    · simp [h, h2]; omega
    · simp [h2]; omega
  · simp [h]; omega

/-- What holds between sender and receiver ahead of each slot. -/
structure CrInv (room d many t : Nat) (x : Cr) : Prop where
  all : x.c + x.w + cntF x.fa t d + cntF x.ba t d = room
  sent : x.s = x.k + x.w + cntF x.fa t d
  many : x.s ≤ many
  most : x.m ≤ room
  late : ∀ j, j < d → x.fa j = false
  early : t ≤ d → x.w = 0 ∧ x.k = 0
theorem cntF_none (a : Nat) : ∀ n, cntF (fun _ => false) a n = 0
  | 0 => rfl
  | n + 1 => by rw [cntF, cntF_none a n]; rfl
theorem crInv_at {room d many : Nat} (op : Nat → Bool) (hd : 1 ≤ d) : ∀ t, CrInv room d many t (crAt room d many op t)
  | 0 => ⟨by simp [crAt, crZero, cntF_none], by simp [crAt, crZero, cntF_none], Nat.zero_le _, Nat.zero_le _, fun _ _ => rfl, fun _ => ⟨rfl, rfl⟩⟩
  | t + 1 => by
    have ih := crInv_at (room := room) (many := many) op hd t
    unfold crAt
    generalize crAt room d many op t = x at ih
    obtain ⟨h1, h2, h3, h4, h5, h6⟩ := ih
    have a1 := cntF_upd x.fa t d (x.sd many t) hd
    have a2 := cntF_upd x.ba t d (x.tk (op t) t) hd
    have a3 := cntF_head x.fa t (show 0 < d by omega)
    have a4 := tk_le x (op t) t
    have a5 := sd_le x many t
    have e1 : x.ww t = x.w + (x.fa t).toNat := rfl
    have e2 : x.cc t = x.c + (x.ba t).toNat := rfl
    refine ⟨?_, ?_, ?_, ?_, ?_, ?_⟩
    · dsimp only [stepC]; omega
    · dsimp only [stepC]; omega
    · dsimp only [stepC]; omega
    · dsimp only [stepC]; omega
    · intro j hj
      dsimp only [stepC]
      rw [upd1_ne _ _ (by omega)]
      exact h5 j hj
    · intro ht
      have ⟨q1, q2⟩ := h6 (by omega)
      have q3 := h5 t (by omega)
      rw [q3] at e1
      have q4 : false.toNat = 0 := rfl
      dsimp only [stepC]; omega

/-- A run, as it is told. -/
structure CR where
  s : Nat
  k : Nat
  m : Nat
  t : Nat
  f : Bool
def stopTo (room d many : Nat) (op : Nat → Bool) : Nat → Nat → Nat
  | 0, t => t
  | f + 1, t => if (crAt room d many op t).k < many then stopTo room d many op f (t + 1) else t
def runOf (room d many : Nat) (op : Nat → Bool) (t : Nat) : CR :=
  ⟨(crAt room d many op t).s, (crAt room d many op t).k, (crAt room d many op t).m, t, decide ((crAt room d many op t).k = many)⟩
def runC (room d many : Nat) (op : Nat → Bool) (slots : Nat) : CR := runOf room d many op (stopTo room d many op slots 0)
section
variable {room d many : Nat} {op : Nat → Bool}
theorem stop_spec : ∀ f t, t ≤ stopTo room d many op f t ∧ stopTo room d many op f t ≤ t + f ∧ (∀ i, t ≤ i → i < stopTo room d many op f t → (crAt room d many op i).k < many) ∧ (stopTo room d many op f t = t + f ∨ ¬ (crAt room d many op (stopTo room d many op f t)).k < many)
  | 0, t => ⟨Nat.le_refl _, Nat.le_refl _, fun i h1 h2 => by unfold stopTo at h2; omega, .inl rfl⟩
  | f + 1, t => by
    unfold stopTo
    by_cases h : (crAt room d many op t).k < many
    · rw [if_pos h]
      obtain ⟨h1, h2, h3, h4⟩ := stop_spec f (t + 1)
      refine ⟨by omega, by omega, fun i q1 q2 => ?_, ?_⟩
      · by_cases e : i = t
        · rw [e]; exact h
        · exact h3 i (by omega) q2
      · rcases h4 with h4 | h4
        · exact .inl (by omega)
        · exact .inr h4
    · rw [if_neg h]
      exact ⟨Nat.le_refl _, by omega, fun i q1 q2 => by omega, .inr h⟩
theorem stop_eq {f T : Nat} (h1 : T ≤ f) (h2 : ∀ i, i < T → (crAt room d many op i).k < many) (h3 : T = f ∨ ¬ (crAt room d many op T).k < many) : stopTo room d many op f 0 = T := by
  obtain ⟨_, q2, q3, q4⟩ := stop_spec (room := room) (d := d) (many := many) (op := op) f 0
  generalize stopTo room d many op f 0 = S at *
  rcases Nat.lt_trichotomy S T with h | h | h
  · have := h2 S h
    rcases q4 with q4 | q4
    · omega
    · exact absurd this q4
  · exact h
  · have := q3 T (by omega) h
    rcases h3 with h3 | h3
    · omega
    · exact absurd this h3
theorem crAt_mono {a b : Nat} (h : a ≤ b) : (crAt room d many op a).s ≤ (crAt room d many op b).s ∧ (crAt room d many op a).k ≤ (crAt room d many op b).k ∧ (crAt room d many op a).m ≤ (crAt room d many op b).m := by
  induction b with
  | zero => obtain rfl : a = 0 := by omega
            exact ⟨Nat.le_refl _, Nat.le_refl _, Nat.le_refl _⟩
  | succ b ih =>
    by_cases e : a = b + 1
    · subst e; exact ⟨Nat.le_refl _, Nat.le_refl _, Nat.le_refl _⟩
    · have ⟨h1, h2, h3⟩ := ih (by omega)
      have e2 : crAt room d many op (b + 1) = stepC d many (op b) b (crAt room d many op b) := rfl
      rw [e2]
      generalize crAt room d many op b = x at *
      dsimp only [stepC]
      omega

/-- What a run keeps: no more wait than there is room, no more are taken than sent. -/
theorem run_room (hd : 1 ≤ d) (slots : Nat) : (runC room d many op slots).m ≤ room ∧ (runC room d many op slots).k ≤ (runC room d many op slots).s ∧ (runC room d many op slots).s ≤ many ∧ (runC room d many op slots).s ≤ (runC room d many op slots).k + room ∧ (runC room d many op slots).t ≤ slots ∧ (runC room d many op slots).f = decide ((runC room d many op slots).k = many) ∧ ((runC room d many op slots).t < slots → (runC room d many op slots).k = many) := by
  have h := crInv_at (room := room) (many := many) op hd (stopTo room d many op slots 0)
  obtain ⟨_, q2, _, q4⟩ := stop_spec (room := room) (d := d) (many := many) (op := op) slots 0
  unfold runC
  generalize stopTo room d many op slots 0 = T at *
  obtain ⟨h1, h2, h3, h4, _, _⟩ := h
  dsimp only [runOf]
  refine ⟨h4, by omega, h3, by omega, by omega, rfl, fun hh => ?_⟩
  rcases q4 with q4 | q4
  · omega
  · omega
/-- With more slots a run goes on as it began. -/
theorem run_longer (hd : 1 ≤ d) {slots more : Nat} (hm : slots ≤ more) :
    ((runC room d many op slots).f = true → runC room d many op more = runC room d many op slots) ∧
    ((runC room d many op slots).f = false → (runC room d many op slots).t = slots ∧ (runC room d many op slots).k ≤ (runC room d many op more).k ∧ (runC room d many op slots).s ≤ (runC room d many op more).s ∧ (runC room d many op slots).m ≤ (runC room d many op more).m) := by
  obtain ⟨_, q2, q3, q4⟩ := stop_spec (room := room) (d := d) (many := many) (op := op) slots 0
  obtain ⟨_, p2, p3, p4⟩ := stop_spec (room := room) (d := d) (many := many) (op := op) more 0
  have hi := crInv_at (room := room) (many := many) op hd (stopTo room d many op slots 0)
  unfold runC
  constructor
  · intro hf
    have hk : (crAt room d many op (stopTo room d many op slots 0)).k = many := of_decide_eq_true hf
    rw [stop_eq (f := more) (T := stopTo room d many op slots 0) (by omega) (fun i hi => q3 i (by omega) hi) (.inr (by omega))]
  · intro hf
    have hk : ¬ (crAt room d many op (stopTo room d many op slots 0)).k = many := of_decide_eq_false hf
    have h2 := hi.sent
    have h3 := hi.many
    have e1 : stopTo room d many op slots 0 = slots := by
      rcases q4 with q4 | q4
      · omega
      · omega
    have hle : stopTo room d many op slots 0 ≤ stopTo room d many op more 0 := by
      apply Nat.le_of_not_lt
      intro hh
      have := q3 _ (by omega) hh
      rcases p4 with p4 | p4
      · omega
      · exact p4 this
    have := crAt_mono (room := room) (d := d) (many := many) (op := op) hle
    exact ⟨e1, this.2.1, this.1, this.2.2⟩
/-- No more are taken than slots are open, from when the first one can have come. -/
theorem taken_open (hd : 1 ≤ d) : ∀ t, (crAt room d many op (d + t)).k ≤ cntF op d t
  | 0 => by rw [Nat.add_zero, ((crInv_at (room := room) (many := many) op hd d).early (Nat.le_refl _)).2]; exact Nat.zero_le _
  | t + 1 => by
    have ih := taken_open hd t
    have e : crAt room d many op (d + (t + 1)) = stepC d many (op (d + t)) (d + t) (crAt room d many op (d + t)) := rfl
    have := (tk_le (crAt room d many op (d + t)) (op (d + t)) (d + t)).2
    rw [e, cntF]
    dsimp only [stepC]
    omega
theorem run_open (hd : 1 ≤ d) (slots : Nat) : ((runC room d many op slots).t ≤ d → (runC room d many op slots).k = 0) ∧ (d < (runC room d many op slots).t → (runC room d many op slots).k ≤ cntF op d ((runC room d many op slots).t - d)) := by
  unfold runC
  generalize stopTo room d many op slots 0 = T
  dsimp only [runOf]
  constructor
  · intro h
    exact ((crInv_at (room := room) (many := many) op hd T).early h).2
  · intro h
    have := taken_open (room := room) (many := many) (op := op) hd (T - d)
    rwa [show d + (T - d) = T by omega] at this
end

/-- How many frames could be sent ahead of a slot, where all slots are open, with a period p. -/
def nS (room p : Nat) : Nat → Nat
  | 0 => 0
  | t + 1 => nS room p t + if t % p < room then 1 else 0
section
variable {room p : Nat}
theorem nS_first : ∀ t, t ≤ p → nS room p t = min t room
  | 0, _ => by simp [nS]
  | t + 1, h => by
    rw [nS, nS_first t (by omega), Nat.mod_eq_of_lt (by omega)]
    split <;> omega
theorem nS_period (hp : room ≤ p) : ∀ t, nS room p (t + p) = nS room p t + room
  | 0 => by rw [Nat.zero_add, nS_first p (Nat.le_refl _)]; simp [nS]; omega
  | t + 1 => by
    rw [show t + 1 + p = t + p + 1 by omega, nS, nS_period hp t, nS, Nat.add_mod_right]
    omega
theorem nS_at (hp : room ≤ p) (a b : Nat) (hb : b ≤ p) : nS room p (a * p + b) = a * room + min b room := by
  induction a with
  | zero => rw [Nat.zero_mul, Nat.zero_mul, Nat.zero_add, Nat.zero_add]; exact nS_first b hb
  | succ a ih => rw [Nat.succ_mul, show a * p + p + b = a * p + b + p by omega, nS_period hp, ih, Nat.succ_mul]; omega
theorem nS_mono {a b : Nat} (h : a ≤ b) : nS room p a ≤ nS room p b := by
  induction b with
  | zero => obtain rfl : a = 0 := by omega
            exact Nat.le_refl _
  | succ b ih =>
    by_cases e : a = b + 1
    · rw [e]; exact Nat.le_refl _
    · have := ih (by omega); rw [nS]; omega
theorem nS_same (hr : 0 < room) : ∀ t, nS room room t = t
  | 0 => rfl
  | t + 1 => by rw [nS, nS_same hr t, if_pos (Nat.mod_lt _ hr)]
end
/-- A frame may go in a slot just if a credit is left. -/
theorem nS_goes {room d : Nat} (hr : 1 ≤ room) (t : Nat) : nS room (max room (2 * d)) t < room + nS room (max room (2 * d)) (t + 1 - 2 * d) ↔ t % max room (2 * d) < room := by
  by_cases h : 2 * d ≤ room
  · rw [show max room (2 * d) = room by omega, nS_same hr, nS_same hr]
    have := Nat.mod_lt t (show 0 < room by omega)
    omega
  · rw [show max room (2 * d) = 2 * d by omega]
    by_cases h2 : 2 * d ≤ t + 1
    · have e1 : nS room (2 * d) (t + 1) = nS room (2 * d) (t + 1 - 2 * d) + room := by
        have := nS_period (room := room) (p := 2 * d) (by omega) (t + 1 - 2 * d)
        rwa [show t + 1 - 2 * d + 2 * d = t + 1 by omega] at this
      have e2 : nS room (2 * d) (t + 1) = nS room (2 * d) t + if t % (2 * d) < room then 1 else 0 := rfl
      split at e2 <;> omega
    · rw [show t + 1 - 2 * d = 0 by omega, nS_first t (by omega), Nat.mod_eq_of_lt (by omega)]
      simp [nS]; omega
/-- How many frames have been sent ahead of a slot, where all are open. -/
def sS (room d many t : Nat) : Nat := min many (nS room (max room (2 * d)) t)
theorem sS_mono {room d many a b : Nat} (h : a ≤ b) : sS room d many a ≤ sS room d many b := by
  have := nS_mono (room := room) (p := max room (2 * d)) h
  unfold sS; omega
theorem sS_step {room d many : Nat} (t : Nat) : sS room d many (t + 1) ≤ sS room d many t + 1 := by
  have e : nS room (max room (2 * d)) (t + 1) = nS room (max room (2 * d)) t + if t % max room (2 * d) < room then 1 else 0 := rfl
  unfold sS
  rw [e]
  split <;> omega
structure AllOpen (room d many t : Nat) (x : Cr) : Prop where
  s : x.s = sS room d many t
  k : x.k = sS room d many (t - d)
  w : x.w = 0
  c : x.c + sS room d many t = room + sS room d many (t - 2 * d)
  fa : ∀ j, j < t + d → x.fa j = decide (sS room d many (j - d) < sS room d many (j + 1 - d))
  ba : ∀ j, j < t + d → x.ba j = decide (sS room d many (j - 2 * d) < sS room d many (j + 1 - 2 * d))
theorem toNat_dec {a b : Nat} (h1 : a ≤ b) (h2 : b ≤ a + 1) : a + (decide (a < b)).toNat = b := by
  by_cases h : a < b
  · rw [decide_eq_true h]; show a + 1 = b; omega
  · rw [decide_eq_false h]; show a + 0 = b; omega
theorem sS_sub (room d many t e : Nat) : sS room d many (t - e) ≤ sS room d many (t + 1 - e) ∧ sS room d many (t + 1 - e) ≤ sS room d many (t - e) + 1 := by
  by_cases h : e ≤ t
  · rw [show t + 1 - e = t - e + 1 by omega]
    exact ⟨sS_mono (by omega), sS_step _⟩
  · rw [show t + 1 - e = t - e by omega]; omega
theorem allOpen_at {room d many : Nat} (hr : 1 ≤ room) (hd : 1 ≤ d) : ∀ t, AllOpen room d many t (crAt room d many (fun _ => true) t)
  | 0 => ⟨by simp [crAt, crZero, sS, nS], by simp [crAt, crZero, sS, nS], rfl, by simp [crAt, crZero, sS, nS], fun j hj => by
      rw [show j - d = 0 by omega, show j + 1 - d = 0 by omega]; simp [crAt, crZero], fun j hj => by
      rw [show j - 2 * d = 0 by omega, show j + 1 - 2 * d = 0 by omega]; simp [crAt, crZero]⟩
  | t + 1 => by
    have ih := allOpen_at (many := many) hr hd t
    unfold crAt
    generalize crAt room d many (fun _ => true) t = x at ih
    obtain ⟨h1, h2, h3, h4, h5, h6⟩ := ih
    have f1 := h5 t (by omega)
    have b1 := h6 t (by omega)
    have s1 := sS_sub room d many t d
    have s2 := sS_sub room d many t (2 * d)
    have s3 := sS_sub room d many t 0
    rw [Nat.sub_zero, Nat.sub_zero] at s3
    have g1 := toNat_dec s1.1 s1.2
    have g2 := toNat_dec s2.1 s2.2
    have g3 := toNat_dec s3.1 s3.2
    have e1 : x.ww t = (decide (sS room d many (t - d) < sS room d many (t + 1 - d))).toNat := by unfold Cr.ww; rw [h3, f1, Nat.zero_add]
    have e2 : x.cc t = x.c + (decide (sS room d many (t - 2 * d) < sS room d many (t + 1 - 2 * d))).toNat := by unfold Cr.cc; rw [b1]
    have tkE : x.tk true t = decide (sS room d many (t - d) < sS room d many (t + 1 - d)) := by
      unfold Cr.tk
      rw [e1]
      by_cases h : sS room d many (t - d) < sS room d many (t + 1 - d)
      · simp [h]
      · simp [h]
    have cE : x.cc t + sS room d many t = room + sS room d many (t + 1 - 2 * d) := by omega
    have sdE : x.sd many t = decide (sS room d many t < sS room d many (t + 1)) := by
      unfold Cr.sd
      rw [h1]
      have gn := nS_goes (d := d) hr t
      have m1 := nS_mono (room := room) (p := max room (2 * d)) (show t + 1 - 2 * d ≤ t by omega)
      have e : nS room (max room (2 * d)) (t + 1) = nS room (max room (2 * d)) t + if t % max room (2 * d) < room then 1 else 0 := rfl
      unfold sS at cE ⊢
      rw [e]
      generalize nS room (max room (2 * d)) t = N at *
      generalize nS room (max room (2 * d)) (t + 1 - 2 * d) = M at *
      generalize nS room (max room (2 * d)) (t + 1) = N' at *
      by_cases hg : t % max room (2 * d) < room
      · rw [if_pos hg]
        have := gn.2 hg
        by_cases hm : min many N < many
        · rw [decide_eq_true hm, decide_eq_true (show 0 < x.cc t by omega), decide_eq_true (show min many N < min many (N + 1) by omega)]; rfl
        · rw [decide_eq_false hm, decide_eq_false (show ¬ min many N < min many (N + 1) by omega), Bool.and_false]
      · rw [if_neg hg]
        have : ¬ N < room + M := fun h => hg (gn.1 h)
        rw [decide_eq_false (show ¬ min many N < min many (N + 0) by omega)]
        by_cases hm : min many N < many
        · rw [decide_eq_false (show ¬ 0 < x.cc t by omega), Bool.false_and]
        · rw [decide_eq_false hm, Bool.and_false]
    refine ⟨?_, ?_, ?_, ?_, ?_, ?_⟩
    · dsimp only [stepC]; rw [sdE, h1]; exact g3
    · dsimp only [stepC]; rw [tkE, h2]; exact g1
    · dsimp only [stepC]; rw [tkE, e1]; omega
    · dsimp only [stepC]; rw [sdE]
      have := (sd_le x many t).1
      rw [sdE] at this
      omega
    · intro j hj
      dsimp only [stepC]
      by_cases e : j = t + d
      · rw [e, upd1_same, sdE, show t + d - d = t by omega, show t + d + 1 - d = t + 1 by omega]
      · rw [upd1_ne _ _ e]; exact h5 j (by omega)
    · intro j hj
      dsimp only [stepC]
      by_cases e : j = t + d
      · rw [e, upd1_same, tkE, show t + d - 2 * d = t - d by omega, show t + d + 1 - 2 * d = t + 1 - d by omega]
      · rw [upd1_ne _ _ e]; exact h6 j (by omega)
/-- How many slots frames need, where all are open. -/
theorem run_full {room d many slots : Nat} (hr : 1 ≤ room) (hd : 1 ≤ d) (h : (runC room d many (fun _ => true) slots).f = true) :
    (many = 0 → (runC room d many (fun _ => true) slots).t = 0) ∧ (1 ≤ many → (runC room d many (fun _ => true) slots).t = (many - 1) / room * max room (2 * d) + (many - 1) % room + d + 1) := by
  obtain ⟨_, q2, q3, q4⟩ := stop_spec (room := room) (d := d) (many := many) (op := fun _ => true) slots 0
  have hk : (crAt room d many (fun _ => true) (stopTo room d many (fun _ => true) slots 0)).k = many := of_decide_eq_true h
  unfold runC
  dsimp only [runOf]
  generalize stopTo room d many (fun _ => true) slots 0 = T at *
  constructor
  · intro h0
    subst h0
    apply Nat.eq_zero_of_not_pos
    intro hT
    exact absurd (q3 0 (Nat.le_refl _) hT) (Nat.not_lt_zero _)
  · intro h1
    obtain ⟨q, hq⟩ : ∃ q, (many - 1) / room * max room (2 * d) + (many - 1) % room = q := ⟨_, rfl⟩
    rw [hq]
    have hmod := Nat.mod_lt (many - 1) (show 0 < room by omega)
    have hdm := Nat.div_add_mod (many - 1) room
    rw [Nat.mul_comm] at hdm
    have N1 : nS room (max room (2 * d)) q = many - 1 := by
      rw [← hq, nS_at (by omega) _ _ (by omega)]; omega
    have N2 : nS room (max room (2 * d)) (q + 1) = many := by
      rw [← hq, Nat.add_assoc, nS_at (by omega) _ _ (by omega)]; omega
    have A := fun t => (allOpen_at (many := many) hr hd t).k
    have k1 : (crAt room d many (fun _ => true) (q + d + 1)).k = many := by
      rw [A, show q + d + 1 - d = q + 1 by omega]; unfold sS; omega
    have k2 : ∀ t, t < q + d + 1 → (crAt room d many (fun _ => true) t).k < many := by
      intro t ht
      rw [A]
      have := nS_mono (room := room) (p := max room (2 * d)) (show t - d ≤ q by omega)
      unfold sS; omega
    rcases Nat.lt_trichotomy T (q + d + 1) with h | h | h
    · have := k2 T h; omega
    · exact h
    · have := q3 (q + d + 1) (Nat.zero_le _) h; omega
theorem full_slots {room d many slots : Nat} (hr : 1 ≤ room) (hd : 1 ≤ d) (h : (runC room d many (fun _ => true) slots).f = true) (hm : 1 ≤ many) :
    (2 * d ≤ room → (runC room d many (fun _ => true) slots).t = many + d) ∧ (room < 2 * d → many + d ≤ (runC room d many (fun _ => true) slots).t ∧ (runC room d many (fun _ => true) slots).t = (many - 1) / room * (2 * d) + d + 1 + (many - 1) % room) := by
  rw [(run_full hr hd h).2 hm]
  have hdm := Nat.div_add_mod (many - 1) room
  rw [Nat.mul_comm] at hdm
  constructor
  · intro hh
    rw [show max room (2 * d) = room by omega]
    omega
  · intro hh
    rw [show max room (2 * d) = 2 * d by omega]
    have := Nat.mul_le_mul_left ((many - 1) / room) (show room ≤ 2 * d by omega)
    omega

theorem crAt_far {room d many : Nat} (op : Nat → Bool) : ∀ t j, t + d ≤ j → (crAt room d many op t).fa j = false ∧ (crAt room d many op t).ba j = false
  | 0, _, _ => ⟨rfl, rfl⟩
  | t + 1, j, h => by
    have ih := crAt_far (room := room) (d := d) (many := many) op t j (by omega)
    unfold crAt
    generalize crAt room d many op t = x at ih
    dsimp only [stepC]
    rw [upd1_ne _ _ (by omega), upd1_ne _ _ (by omega)]
    exact ih
theorem upd1_false {f : Nat → Bool} {i : Nat} (h : f i = false) : upd1 f i false = f := by
  funext j
  unfold upd1
  split
  · rename_i e; rw [e, h]
  · rfl
/-- The slots in which something arrives, as the model keeps them. -/
def arrF (f : Nat → Bool) (n : Nat) : List Int := (List.range n).map (fun j => ((f j).toNat : Int))
theorem arrF_len (f : Nat → Bool) (n : Nat) : (arrF f n).length = n := by simp [arrF]
theorem arrF_get (f : Nat → Bool) {n j : Nat} (h : j < n) : (arrF f n)[j]? = some ((f j).toNat : Int) := by
  unfold arrF
  rw [List.getElem?_map, List.getElem?_range h]; rfl
theorem arrF_set (f : Nat → Bool) (n i : Nat) : arrF (upd1 f i true) n = (arrF f n).set i 1 := by
  apply List.ext_getElem
  · simp [arrF]
  · intro j h1 h2
    rw [List.getElem_set]
    simp only [arrF, List.getElem_map, List.getElem_range]
    by_cases e : i = j
    · subst e; rw [upd1_same, if_pos rfl]; rfl
    · rw [upd1_ne _ _ (fun h => e h.symm), if_neg e]
theorem arrF_none (n : Nat) : arrF (fun _ => false) n = List.replicate n 0 := by
  apply List.ext_getElem
  · simp [arrF]
  · intro j h1 h2
    simp [arrF]
/-- The same as a ring of the last slots. -/
def RingF (us : List Bool) (f : Nat → Bool) (t d : Nat) : Prop := us.length = d ∧ ∀ j, t ≤ j → j < t + d → us.getD (j % d) false = f j
theorem ringF_none (d : Nat) : RingF (List.replicate d false) (fun _ => false) 0 d := by
  refine ⟨by simp, fun j _ h => ?_⟩
  rw [List.getD_eq_getElem?_getD, List.getElem?_replicate]
  split <;> rfl
theorem ringF_now {us : List Bool} {f : Nat → Bool} {t d : Nat} (h : RingF us f t d) (hd : 1 ≤ d) : us.getD (t % d) false = f t := h.2 t (Nat.le_refl _) (by omega)
theorem ringF_step {us : List Bool} {f : Nat → Bool} {t d : Nat} (h : RingF us f t d) (hd : 1 ≤ d) (v : Bool) : RingF (us.set (t % d) v) (upd1 f (t + d) v) (t + 1) d := by
  obtain ⟨hl, h⟩ := h
  refine ⟨by simpa using hl, fun j h1 h2 => ?_⟩
  have hm := Nat.mod_lt t (show 0 < d by omega)
  by_cases e : j = t + d
  · subst e
    rw [upd1_same, Nat.add_mod_right, List.getD_eq_getElem?_getD, List.getElem?_set_self (by omega)]; rfl
  · rw [upd1_ne _ _ e]
    have hne : t % d ≠ j % d := by
      intro hh
      have h3 := Nat.sub_mod_eq_zero_of_mod_eq hh.symm
      have h4 := Nat.le_of_dvd (by omega) (Nat.dvd_of_mod_eq_zero h3)
      omega
    rw [List.getD_eq_getElem?_getD, List.getElem?_set_ne hne, ← List.getD_eq_getElem?_getD]
    exact h j (by omega) (by omega)

/-- Numbers that tell which slots are open. -/
def drainOk (ds : List Int) : Prop := (∀ z ∈ ds, z = 0 ∨ z = 1) ∧ (1 : Int) ∈ ds ∧ ds.length ≤ 100
instance (ds : List Int) : Decidable (drainOk ds) := by unfold drainOk; infer_instance
def opOf (ds : List Int) (t : Nat) : Bool := decide (ds.getD (t % ds.length) 0 = 1)
theorem opOf_one : opOf [1] = fun _ => true := by
  funext t
  unfold opOf
  rw [show ([1] : List Int).length = 1 from rfl, Nat.mod_one]
  exact decide_eq_true rfl
theorem drainOk_one : drainOk [1] := by refine ⟨fun z hz => .inr (by simpa using hz), by simp, by decide⟩
theorem drainOk_pos {ds : List Int} (h : drainOk ds) : 1 ≤ ds.length := by
  cases ds with
  | nil => have := h.2.1; simp at this
  | cons a r => simp
theorem drain_at {ds : List Int} (h : drainOk ds) (t : Nat) : ∃ z : Int, ds[t % ds.length]? = some z ∧ z = ((opOf ds t).toNat : Int) ∧ (z == 1) = opOf ds t := by
  have hp := drainOk_pos h
  have hl := Nat.mod_lt t (show 0 < ds.length by omega)
  refine ⟨ds[t % ds.length], List.getElem?_eq_getElem hl, ?_⟩
  unfold opOf
  rw [List.getD_eq_getElem?_getD, List.getElem?_eq_getElem hl, Option.getD_some]
  rcases h.1 _ (List.getElem_mem hl) with e | e
  · rw [e]; decide
  · rw [e]; decide
def fitsOk (room d many : Int) : Prop := (1 ≤ room ∧ room ≤ 40) ∧ (1 ≤ d ∧ d ≤ 12) ∧ (0 ≤ many ∧ many ≤ 500)
instance (room d many : Int) : Decidable (fitsOk room d many) := by unfold fitsOk; infer_instance
def slotOk (n : Int) : Prop := 0 ≤ n ∧ n ≤ 3000
instance (n : Int) : Decidable (slotOk n) := by unfold slotOk; infer_instance
def CR.zero : CR := ⟨0, 0, 0, 0, false⟩
def credOk (room d many : Int) (ds : List Int) (slots : Int) : Prop := fitsOk room d many ∧ drainOk ds ∧ slotOk slots
instance (room d many : Int) (ds : List Int) (slots : Int) : Decidable (credOk room d many ds slots) := by unfold credOk; infer_instance
def credI (room d many : Int) (ds : List Int) (slots : Int) : CR := if credOk room d many ds slots then runC room.toNat d.toNat many.toNat (opOf ds) slots.toNat else CR.zero
def slotsI (room d many : Int) : Int := if fitsOk room d many then (if (runC room.toNat d.toNat many.toNat (fun _ => true) 3000).f then ((runC room.toNat d.toNat many.toNat (fun _ => true) 3000).t : Int) else -1) else -1
def roomI (d : Int) : Int := if 1 ≤ d ∧ d ≤ 12 then 2 * d else -1
def openI (ds : List Int) (a n : Int) : Int := if drainOk ds ∧ slotOk a ∧ slotOk n then (cntF (opOf ds) a.toNat n.toNat : Int) else -1
theorem cred_one (room d many : Int) : credI room d many [1] 3000 = if fitsOk room d many then runC room.toNat d.toNat many.toNat (fun _ => true) 3000 else CR.zero := by
  unfold credI
  by_cases h : fitsOk room d many
  · rw [if_pos h, if_pos (show credOk room d many [1] 3000 from ⟨h, drainOk_one, by unfold slotOk; omega⟩), opOf_one]; rfl
  · rw [if_neg h, if_neg (fun hh : credOk room d many [1] 3000 => h hh.1)]

/-- One slot more, written out. -/
theorem cr_next {room d many t c wv s k m bt ft : Nat} {op : Nat → Bool} {fa ba : Nat → Bool} (h : crAt room d many op t = ⟨c, wv, s, k, m, fa, ba⟩) (hb : (ba t).toNat = bt) (hf : (fa t).toNat = ft) {T S : Bool} (hT : (op t && decide (0 < wv + ft)) = T) (hS : (decide (0 < c + bt) && decide (s < many)) = S) :
    crAt room d many op (t + 1) = ⟨c + bt - S.toNat, wv + ft - T.toNat, s + S.toNat, k + T.toNat, max m (wv + ft), bif S then upd1 fa (t + d) true else fa, bif T then upd1 ba (t + d) true else ba⟩ := by
  have hfar := crAt_far (room := room) (d := d) (many := many) op t (t + d) (Nat.le_refl _)
  rw [h] at hfar
  obtain ⟨f1, f2⟩ := hfar
  dsimp only at f1 f2
  have e : crAt room d many op (t + 1) = stepC d many (op t) t (crAt room d many op t) := rfl
  have e1 : Cr.tk ⟨c, wv, s, k, m, fa, ba⟩ (op t) t = T := by unfold Cr.tk Cr.ww; dsimp only; rw [hf]; exact hT
  have e2 : Cr.sd ⟨c, wv, s, k, m, fa, ba⟩ many t = S := by unfold Cr.sd Cr.cc; dsimp only; rw [hb]; exact hS
  rw [e, h]
  unfold stepC
  rw [e1, e2]
  unfold Cr.cc Cr.ww
  dsimp only
  rw [hb, hf]
  have u1 : upd1 fa (t + d) S = bif S then upd1 fa (t + d) true else fa := by
    cases S
    · exact upd1_false f1
    · rfl
  have u2 : upd1 ba (t + d) T = bif T then upd1 ba (t + d) true else ba := by
    cases T
    · exact upd1_false f2
    · rfl
  rw [u1, u2]
theorem cr_bounds {room d many t c wv s k m : Nat} {op : Nat → Bool} {fa ba : Nat → Bool} (hd : 1 ≤ d) (h : crAt room d many op t = ⟨c, wv, s, k, m, fa, ba⟩) : c + (ba t).toNat ≤ room ∧ wv + (fa t).toNat ≤ room ∧ s ≤ many ∧ k ≤ many ∧ m ≤ room := by
  have hi := crInv_at (room := room) (many := many) op hd t
  rw [h] at hi
  obtain ⟨h1, h2, h3, h4, _, _⟩ := hi
  dsimp only at h1 h2 h3 h4
  have a1 := cntF_head fa t (show 0 < d by omega)
  have a2 := cntF_head ba t (show 0 < d by omega)
  omega
/-- A run that has come to its end. -/
theorem run_end {room d many t c wv s k m slots : Nat} {op : Nat → Bool} {fa ba : Nat → Bool} (h : crAt room d many op t = ⟨c, wv, s, k, m, fa, ba⟩) (ht : t ≤ slots) (hb : ∀ i, i < t → (crAt room d many op i).k < many) (he : t = slots ∨ ¬ k < many) : runC room d many op slots = ⟨s, k, m, t, decide (k = many)⟩ := by
  have hs : stopTo room d many op slots 0 = t := stop_eq ht hb (by rw [h]; exact he)
  unfold runC
  rw [hs]
  unfold runOf
  rw [h]
theorem run_not_yet {room d many t c wv s k m : Nat} {op : Nat → Bool} {fa ba : Nat → Bool} (h : crAt room d many op t = ⟨c, wv, s, k, m, fa, ba⟩) (hb : ∀ i, i < t → (crAt room d many op i).k < many) (hk : k < many) : ∀ i, i < t + 1 → (crAt room d many op i).k < many := by
  intro i hi
  by_cases e : i = t
  · subst e; rw [h]; exact hk
  · exact hb i (by omega)
end Go.Proofs.Ytkdjcfejkgpplaa
