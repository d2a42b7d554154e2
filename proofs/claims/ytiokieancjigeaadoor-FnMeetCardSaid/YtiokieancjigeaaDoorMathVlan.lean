/-
  Chapter 10's plain mathematics: ports, networks as bits of a word, and where frames go. No condition.
-/
import Derived.Below
namespace Go.Proofs.YtiokieancjigeaaDoor

/-- A port: its kind, its own network, and the networks that it carries. -/
abbrev Port := Int × Int × List Int
def vOk (l : List Int) : Prop := (∀ v ∈ l, 1 ≤ v ∧ v ≤ 9) ∧ l.Pairwise (· < ·)
instance (l : List Int) : Decidable (vOk l) := by unfold vOk; infer_instance
def pOk (p : Port) : Prop := (1 ≤ p.1 ∧ p.1 ≤ 2) ∧ (1 ≤ p.2.1 ∧ p.2.1 ≤ 9) ∧ (p.1 = 1 → p.2.2 = []) ∧ vOk p.2.2 ∧ (∀ v ∈ p.2.2, v ≠ p.2.1)
instance (p : Port) : Decidable (pOk p) := by unfold pOk; infer_instance
def inI (p : Port) (tag : Int) : Int := if pOk p then (if tag = 0 then p.2.1 else if tag ∈ p.2.2 then tag else -1) else -1
def outI (p : Port) (vlan : Int) : Int := if pOk p then (if vlan = p.2.1 then 0 else if vlan ∈ p.2.2 then vlan else -1) else -1
def psOk (ps : List Port) : Prop := (∀ p ∈ ps, pOk p) ∧ 1 ≤ ps.length ∧ ps.length ≤ 6
instance (ps : List Port) : Decidable (psOk ps) := by unfold psOk; infer_instance
def dp (ps : List Port) (i : Nat) : Port := ps.getD i (0, 0, [])
theorem dp_at {ps : List Port} {i : Nat} {p : Port} (h : ps[i]? = some p) : dp ps i = p := by unfold dp; rw [List.getD_eq_getElem?_getD, h]; rfl
theorem dp_some {ps : List Port} {i : Nat} (h : i < ps.length) : ps[i]? = some (dp ps i) := by rw [List.getElem?_eq_getElem h]; unfold dp; rw [List.getD_eq_getElem?_getD, List.getElem?_eq_getElem h]; rfl
theorem dp_ok {ps : List Port} (h : psOk ps) {i : Nat} (hi : i < ps.length) : pOk (dp ps i) := h.1 _ (List.mem_of_getElem? (dp_some hi))
/-- The ports of a network below k, with their tags. -/
def outsTo (ps : List Port) (vlan : Int) : Nat → List (Int × Int)
  | 0 => []
  | k + 1 => outsTo ps vlan k ++ (if 0 ≤ outI (dp ps k) vlan then [((k : Int), outI (dp ps k) vlan)] else [])
def onI (ps : List Port) (vlan : Int) : List Int := if psOk ps then (outsTo ps vlan ps.length).map (·.1) else []
def notAt (a : Int) (l : List (Int × Int)) : List (Int × Int) := l.filter (fun x => decide (x.1 ≠ a))
def floodI (ps : List Port) (a tag : Int) : List (Int × Int) := if psOk ps ∧ 0 ≤ a ∧ a < ps.length then notAt a (outsTo ps (inI (dp ps a.toNat) tag) ps.length) else []
def bothB (p q : Port) (v : Int) : Bool := decide (0 ≤ outI p v) && decide (0 ≤ outI q v)
/-- The networks below k of both ports. -/
def meetTo (p q : Port) : Nat → List Int
  | 0 => []
  | k + 1 => meetTo p q k ++ (if bothB p q (k : Int) then [(k : Int)] else [])
def meetI (ps : List Port) (a b : Int) : List Int := if psOk ps ∧ (0 ≤ a ∧ a < ps.length) ∧ (0 ≤ b ∧ b < ps.length) then meetTo (dp ps a.toNat) (dp ps b.toNat) 10 else []
def apartTo (ps : List Port) (a : Nat) : Nat → List Int
  | 0 => []
  | k + 1 => apartTo ps a k ++ (if k ≠ a ∧ meetTo (dp ps a) (dp ps k) 10 = [] then [(k : Int)] else [])
def apartI (ps : List Port) (a : Int) : List Int := if psOk ps ∧ 0 ≤ a ∧ a < ps.length then apartTo ps a.toNat ps.length else []

/- One port. -/
theorem outI_neg (p : Port) (v : Int) (h : outI p v < 0) : outI p v = -1 := by
  unfold outI at h ⊢
  split
  · rename_i hp
    split
    · rename_i h1; simp [hp, h1] at h
    · split
      · rename_i h1 h2
        have := hp.2.2.2.1.1 v h2
        rw [if_pos hp, if_neg h1, if_pos h2] at h
        omega
      · rfl
  · rfl
theorem inI_neg (p : Port) (v : Int) (h : inI p v < 0) : inI p v = -1 := by
  unfold inI at h ⊢
  split
  · rename_i hp
    have := hp.2.1
    split
    · rename_i h1; rw [if_pos hp, if_pos h1] at h; omega
    · split
      · rename_i h1 h2
        have := hp.2.2.2.1.1 v h2
        rw [if_pos hp, if_neg h1, if_pos h2] at h
        omega
      · rfl
  · rfl
theorem out_no {p : Port} (h : ¬ pOk p) (v : Int) : outI p v = -1 := by unfold outI; rw [if_neg h]
theorem in_no {p : Port} (h : ¬ pOk p) (v : Int) : inI p v = -1 := by unfold inI; rw [if_neg h]
theorem out_back {p : Port} {v : Int} (h : 0 ≤ outI p v) : inI p (outI p v) = v ∧ (outI p v = 0 ↔ v = p.2.1) := by
  by_cases hp : pOk p
  · have h9 := hp.2.1
    by_cases h1 : v = p.2.1
    · have e : outI p v = 0 := by unfold outI; rw [if_pos hp, if_pos h1]
      rw [e]
      exact ⟨by unfold inI; rw [if_pos hp, if_pos rfl, h1], by simp [h1]⟩
    · by_cases h2 : v ∈ p.2.2
      · have hv := hp.2.2.2.1.1 v h2
        have e : outI p v = v := by unfold outI; rw [if_pos hp, if_neg h1, if_pos h2]
        rw [e]
        exact ⟨by unfold inI; rw [if_pos hp, if_neg (by omega), if_pos h2], by constructor <;> intro <;> omega⟩
      · have e : outI p v = -1 := by unfold outI; rw [if_pos hp, if_neg h1, if_neg h2]
        omega
  · rw [out_no hp] at h; omega
theorem in_back {p : Port} {t : Int} (h : 0 ≤ inI p t) : outI p (inI p t) = t ∧ 1 ≤ inI p t ∧ inI p t ≤ 9 ∧ 0 ≤ t := by
  by_cases hp : pOk p
  · have h9 := hp.2.1
    by_cases h1 : t = 0
    · have e : inI p t = p.2.1 := by unfold inI; rw [if_pos hp, if_pos h1]
      rw [e]
      exact ⟨by unfold outI; rw [if_pos hp, if_pos rfl, h1], h9.1, h9.2, by omega⟩
    · by_cases h2 : t ∈ p.2.2
      · have hv := hp.2.2.2.1.1 t h2
        have hn := hp.2.2.2.2 t h2
        have e : inI p t = t := by unfold inI; rw [if_pos hp, if_neg h1, if_pos h2]
        rw [e]
        exact ⟨by unfold outI; rw [if_pos hp, if_neg hn, if_pos h2], hv.1, hv.2, by omega⟩
      · have e : inI p t = -1 := by unfold inI; rw [if_pos hp, if_neg h1, if_neg h2]
        omega
  · rw [in_no hp] at h; omega
theorem out_range {p : Port} {v : Int} (h : 0 ≤ outI p v) : 1 ≤ v ∧ v ≤ 9 := by
  have h1 := (out_back h).1
  have h2 := in_back (p := p) (t := outI p v) (by
    rw [h1]
    by_cases hp : pOk p
    · by_cases h3 : v = p.2.1
      · have := hp.2.1; omega
      · by_cases h4 : v ∈ p.2.2
        · have := hp.2.2.2.1.1 v h4; omega
        · exfalso; unfold outI at h; rw [if_pos hp, if_neg h3, if_neg h4] at h; omega
    · rw [out_no hp] at h; omega)
  rw [h1] at h2
  exact ⟨h2.2.1, h2.2.2.1⟩
theorem out_own {p : Port} (h : pOk p) : outI p p.2.1 = 0 := by unfold outI; rw [if_pos h, if_pos rfl]
theorem out_bounds (p : Port) (v : Int) : -1 ≤ outI p v ∧ outI p v ≤ 9 := by
  by_cases h : outI p v < 0
  · have := outI_neg p v h; omega
  · have h : 0 ≤ outI p v := by omega
    have h1 := out_range h
    have h2 := (out_back h).2
    by_cases hp : pOk p
    · unfold outI at h ⊢
      rw [if_pos hp] at h ⊢
      split
      · omega
      · split <;> omega
    · rw [out_no hp] at h; omega
theorem in_bounds (p : Port) (t : Int) : -1 ≤ inI p t ∧ inI p t ≤ 9 := by
  by_cases h : inI p t < 0
  · have := inI_neg p t h; omega
  · have h1 := in_back (p := p) (t := t) (by omega); omega

/- Several ports. -/
theorem outs_mem {ps : List Port} {vlan : Int} {n : Nat} {x : Int × Int} : x ∈ outsTo ps vlan n ↔ ∃ i : Nat, i < n ∧ x = ((i : Int), outI (dp ps i) vlan) ∧ 0 ≤ outI (dp ps i) vlan := by
  induction n with
  | zero => simp [outsTo]
  | succ n ih =>
    unfold outsTo
    rw [List.mem_append, ih]
    constructor
    · rintro (⟨i, hi, r⟩ | h)
      · exact ⟨i, by omega, r⟩
      · split at h
        · rw [List.mem_singleton] at h; exact ⟨n, by omega, h, by assumption⟩
        · cases h
    · rintro ⟨i, hi, hx, h0⟩
      by_cases hin : i = n
      · subst hin; right; rw [if_pos h0]; simp [hx]
      · exact .inl ⟨i, by omega, hx, h0⟩
theorem outs_asc (ps : List Port) (vlan : Int) : ∀ n, (outsTo ps vlan n).Pairwise (fun x y => x.1 < y.1) := by
  intro n
  induction n with
  | zero => exact List.Pairwise.nil
  | succ n ih =>
    unfold outsTo
    rw [List.pairwise_append]
    refine ⟨ih, by split <;> simp, fun x hx y hy => ?_⟩
    obtain ⟨i, hi, rfl, _⟩ := outs_mem.1 hx
    split at hy
    · rw [List.mem_singleton] at hy; subst hy; simp; omega
    · cases hy
theorem outs_len (ps : List Port) (vlan : Int) (n : Nat) : (outsTo ps vlan n).length ≤ n := by
  induction n with
  | zero => simp [outsTo]
  | succ n ih => unfold outsTo; rw [List.length_append]; split <;> simp <;> omega
theorem outs_barred (ps : List Port) (n : Nat) : outsTo ps (-1) n = [] := by
  apply List.eq_nil_iff_forall_not_mem.2
  intro x hx
  obtain ⟨i, _, _, h0⟩ := outs_mem.1 hx
  have := out_range h0
  omega
theorem notAt_len (a : Int) (l : List (Int × Int)) : (notAt a l).length ≤ l.length := List.length_filter_le _ _
theorem flood_mem {ps : List Port} {a tag : Int} {x : Int × Int} : x ∈ floodI ps a tag ↔ (psOk ps ∧ 0 ≤ a ∧ a < ps.length) ∧ x.1 ≠ a ∧ ∃ i : Nat, i < ps.length ∧ x = ((i : Int), outI (dp ps i) (inI (dp ps a.toNat) tag)) ∧ 0 ≤ outI (dp ps i) (inI (dp ps a.toNat) tag) := by
  unfold floodI
  split
  · rename_i h
    unfold notAt
    rw [List.mem_filter, outs_mem]
    simp only [decide_eq_true_eq]
    constructor
    · rintro ⟨r, h1⟩; exact ⟨h, h1, r⟩
    · rintro ⟨_, h1, r⟩; exact ⟨r, h1⟩
  · rename_i h
    constructor
    · intro hx; cases hx
    · rintro ⟨h1, _⟩; exact absurd h1 h
theorem flood_asc (ps : List Port) (a tag : Int) : (floodI ps a tag).Pairwise (fun x y => x.1 < y.1) := by
  unfold floodI
  split
  · exact (outs_asc _ _ _).filter _
  · exact List.Pairwise.nil
theorem flood_len (ps : List Port) (a tag : Int) : (floodI ps a tag).length ≤ 6 := by
  unfold floodI
  split
  · rename_i h
    have h1 := notAt_len a (outsTo ps (inI (dp ps a.toNat) tag) ps.length)
    have h2 := outs_len ps (inI (dp ps a.toNat) tag) ps.length
    have := h.1.2.2
    omega
  · simp
theorem on_len (ps : List Port) (v : Int) : (onI ps v).length ≤ 6 := by
  unfold onI
  split
  · rename_i h
    have h2 := outs_len ps v ps.length
    have := h.2.2
    rw [List.length_map]
    omega
  · simp
theorem meet_mem {p q : Port} {n : Nat} {x : Int} : x ∈ meetTo p q n ↔ ∃ i : Nat, i < n ∧ x = (i : Int) ∧ bothB p q (i : Int) = true := by
  induction n with
  | zero => simp [meetTo]
  | succ n ih =>
    unfold meetTo
    rw [List.mem_append, ih]
    constructor
    · rintro (⟨i, hi, r⟩ | h)
      · exact ⟨i, by omega, r⟩
      · split at h
        · rw [List.mem_singleton] at h; exact ⟨n, by omega, h, by assumption⟩
        · cases h
    · rintro ⟨i, hi, hx, h0⟩
      by_cases hin : i = n
      · subst hin; right; rw [if_pos h0]; simp [hx]
      · exact .inl ⟨i, by omega, hx, h0⟩
theorem meet_mem10 {p q : Port} {x : Int} : x ∈ meetTo p q 10 ↔ 0 ≤ outI p x ∧ 0 ≤ outI q x := by
  rw [meet_mem]
  constructor
  · rintro ⟨i, _, rfl, h⟩; simpa [bothB] using h
  · rintro ⟨h1, h2⟩
    have h3 := out_range h1
    refine ⟨x.toNat, by omega, by omega, ?_⟩
    rw [show ((x.toNat : Nat) : Int) = x by omega]
    simp [bothB, h1, h2]
theorem meet_len (p q : Port) (n : Nat) : (meetTo p q n).length ≤ n := by
  induction n with
  | zero => simp [meetTo]
  | succ n ih => unfold meetTo; rw [List.length_append]; split <;> simp <;> omega
theorem meetI_len (ps : List Port) (a b : Int) : (meetI ps a b).length ≤ 10 := by
  unfold meetI
  split
  · exact meet_len _ _ _
  · simp
theorem meet_comm (p q : Port) (n : Nat) : meetTo p q n = meetTo q p n := by
  induction n with
  | zero => rfl
  | succ n ih => unfold meetTo; rw [ih, show bothB p q (n : Int) = bothB q p (n : Int) by unfold bothB; rw [Bool.and_comm]]
theorem meetI_comm (ps : List Port) (a b : Int) : meetI ps a b = meetI ps b a := by
  unfold meetI
  by_cases h : psOk ps ∧ (0 ≤ a ∧ a < ps.length) ∧ (0 ≤ b ∧ b < ps.length)
  · rw [if_pos h, if_pos ⟨h.1, h.2.2, h.2.1⟩, meet_comm]
  · rw [if_neg h, if_neg (fun hh => h ⟨hh.1, hh.2.2, hh.2.1⟩)]
theorem apart_mem {ps : List Port} {a n : Nat} {x : Int} : x ∈ apartTo ps a n ↔ ∃ i : Nat, i < n ∧ x = (i : Int) ∧ i ≠ a ∧ meetTo (dp ps a) (dp ps i) 10 = [] := by
  induction n with
  | zero => simp [apartTo]
  | succ n ih =>
    unfold apartTo
    rw [List.mem_append, ih]
    constructor
    · rintro (⟨i, hi, r⟩ | h)
      · exact ⟨i, by omega, r⟩
      · split at h
        · rename_i hc; rw [List.mem_singleton] at h; exact ⟨n, by omega, h, hc⟩
        · cases h
    · rintro ⟨i, hi, hx, h0⟩
      by_cases hin : i = n
      · subst hin; right; rw [if_pos h0]; simp [hx]
      · exact .inl ⟨i, by omega, hx, h0⟩
theorem apart_len (ps : List Port) (a n : Nat) : (apartTo ps a n).length ≤ n := by
  induction n with
  | zero => simp [apartTo]
  | succ n ih => unfold apartTo; rw [List.length_append]; split <;> simp <;> omega
theorem apartI_len (ps : List Port) (a : Int) : (apartI ps a).length ≤ 6 := by
  unfold apartI
  split
  · rename_i h
    have := apart_len ps a.toNat ps.length
    have := h.1.2.2
    omega
  · simp
theorem apartI_mem {ps : List Port} {a x : Int} : x ∈ apartI ps a ↔ (psOk ps ∧ 0 ≤ a ∧ a < ps.length) ∧ ∃ i : Nat, i < ps.length ∧ x = (i : Int) ∧ i ≠ a.toNat ∧ meetTo (dp ps a.toNat) (dp ps i) 10 = [] := by
  unfold apartI
  split
  · rename_i h
    rw [apart_mem]
    exact ⟨fun r => ⟨h, r⟩, fun r => r.2⟩
  · rename_i h
    constructor
    · intro hx; cases hx
    · intro r; exact absurd r.1 h

/- The laws. -/
theorem stays {ps : List Port} {a tag : Int} {x : Int × Int} (h : x ∈ floodI ps a tag) : x.1 ≠ a ∧ (0 ≤ x.1 ∧ x.1 < ps.length) ∧ inI (dp ps x.1.toNat) x.2 = inI (dp ps a.toNat) tag := by
  obtain ⟨_, h1, i, hi, rfl, h0⟩ := flood_mem.1 h
  refine ⟨h1, ⟨by simp, by simp; omega⟩, ?_⟩
  simpa using (out_back h0).1
theorem filter_one {n : Nat} {a : Nat} (ps : List Port) (v : Int) (h : 0 ≤ outI (dp ps a) v) : (notAt (a : Int) (outsTo ps v n)).length + (if a < n then 1 else 0) = (outsTo ps v n).length := by
  induction n with
  | zero => simp [outsTo, notAt]
  | succ n ih =>
    unfold outsTo
    have e : notAt (a : Int) (outsTo ps v n ++ (if 0 ≤ outI (dp ps n) v then [((n : Int), outI (dp ps n) v)] else [])) = notAt (a : Int) (outsTo ps v n) ++ notAt (a : Int) (if 0 ≤ outI (dp ps n) v then [((n : Int), outI (dp ps n) v)] else []) := List.filter_append ..
    rw [e, List.length_append, List.length_append]
    by_cases hn : n = a
    · subst hn
      rw [if_pos h, if_pos (by omega)]
      rw [if_neg (by omega)] at ih
      simp [notAt] at ih ⊢
      omega
    · have e2 : notAt (a : Int) (if 0 ≤ outI (dp ps n) v then [((n : Int), outI (dp ps n) v)] else []) = (if 0 ≤ outI (dp ps n) v then [((n : Int), outI (dp ps n) v)] else []) := by
        split
        · unfold notAt; rw [List.filter_cons, if_pos (by simp; omega)]; rfl
        · rfl
      rw [e2]
      by_cases hl : a < n
      · rw [if_pos (show a < n + 1 by omega)]; rw [if_pos hl] at ih; omega
      · rw [if_neg (show ¬ a < n + 1 by omega)]; rw [if_neg hl] at ih; omega
theorem all_len {ps : List Port} {a tag : Int} (h : psOk ps ∧ 0 ≤ a ∧ a < ps.length) (hv : 0 ≤ inI (dp ps a.toNat) tag) : (floodI ps a tag).length + 1 = (onI ps (inI (dp ps a.toNat) tag)).length := by
  obtain ⟨A, rfl⟩ := Int.eq_ofNat_of_zero_le h.2.1
  have hb := in_back hv
  have h1 : floodI ps (A : Int) tag = notAt (A : Int) (outsTo ps (inI (dp ps A) tag) ps.length) := by unfold floodI; rw [if_pos h]; rfl
  have h2 : onI ps (inI (dp ps A) tag) = (outsTo ps (inI (dp ps A) tag) ps.length).map (·.1) := by unfold onI; rw [if_pos h.1]
  have e : ((A : Int)).toNat = A := by simp
  rw [e] at hv hb ⊢
  have h3 := filter_one (n := ps.length) (a := A) ps (inI (dp ps A) tag) (by omega)
  rw [if_pos (by omega)] at h3
  rw [h1, h2, List.length_map]
  exact h3
theorem flood_none {ps : List Port} {a tag : Int} (hv : inI (dp ps a.toNat) tag < 0) : floodI ps a tag = [] := by
  unfold floodI
  split
  · rw [inI_neg _ _ hv, outs_barred]; rfl
  · rfl
theorem returns {ps : List Port} {a tag : Int} {x : Int × Int} (h : x ∈ floodI ps a tag) : (a, tag) ∈ floodI ps x.1 x.2 := by
  obtain ⟨h1, h2, h3⟩ := stays h
  obtain ⟨hok, _, i, hi, rfl, h0⟩ := flood_mem.1 h
  have hr := out_range h0
  have hb := in_back (p := dp ps a.toNat) (t := tag) (by omega)
  rw [flood_mem]
  refine ⟨⟨hok.1, h2.1, h2.2⟩, Ne.symm h1, a.toNat, by omega, ?_, ?_⟩
  · rw [h3, hb.1]; simp; omega
  · rw [h3, hb.1]; exact hb.2.2.2
theorem comes {ps : List Port} {a b v : Int} (hok : psOk ps) (ha : 0 ≤ a ∧ a < ps.length) (hb : 0 ≤ b ∧ b < ps.length) (hne : a ≠ b) :
    v ∈ meetI ps a b ↔ 0 ≤ outI (dp ps a.toNat) v ∧ ∃ x ∈ floodI ps a (outI (dp ps a.toNat) v), x.1 = b := by
  unfold meetI
  rw [if_pos ⟨hok, ha, hb⟩, meet_mem10]
  constructor
  · rintro ⟨h1, h2⟩
    refine ⟨h1, (b, outI (dp ps b.toNat) v), flood_mem.2 ⟨⟨hok, ha⟩, Ne.symm hne, b.toNat, by omega, ?_, ?_⟩, rfl⟩
    · rw [(out_back h1).1]; simp; omega
    · rw [(out_back h1).1]; exact h2
  · rintro ⟨h1, x, hx, rfl⟩
    obtain ⟨_, _, i, hi, rfl, h0⟩ := flood_mem.1 hx
    rw [(out_back h1).1] at h0
    exact ⟨h1, by simpa using h0⟩
theorem apart_far {ps : List Port} {a p tag : Int} (h : p ∈ apartI ps a) : ∀ x ∈ floodI ps p tag, x.1 ≠ a := by
  intro x hx he
  obtain ⟨hok, i, hi, rfl, hia, hm⟩ := apartI_mem.1 h
  obtain ⟨_, _, j, hj, rfl, h0⟩ := flood_mem.1 hx
  have hr := out_range h0
  have hb := in_back (p := dp ps i) (t := tag) (by simpa using (by omega : (0:Int) ≤ inI (dp ps ((i : Int).toNat)) tag))
  have e : (i : Int).toNat = i := by simp
  rw [e] at h0
  have hj2 : j = a.toNat := by simp at he; omega
  subst hj2
  have : inI (dp ps i) tag ∈ meetTo (dp ps a.toNat) (dp ps i) 10 := meet_mem10.2 ⟨h0, by rw [hb.1]; exact hb.2.2.2⟩
  rw [hm] at this
  cases this
theorem apart_back {ps : List Port} {a p : Int} (h : p ∈ apartI ps a) : a ∈ apartI ps p := by
  obtain ⟨hok, i, hi, rfl, hia, hm⟩ := apartI_mem.1 h
  refine apartI_mem.2 ⟨⟨hok.1, by omega, by omega⟩, a.toNat, by omega, by omega, ?_, ?_⟩
  · simp; omega
  · rw [meet_comm]; simpa using hm

/- Networks as bits of a word. -/
def vset : List Int → Nat
  | [] => 0
  | v :: t => 2 ^ v.toNat + vset t
theorem vset_app (a b : List Int) : vset (a ++ b) = vset a + vset b := by
  induction a with
  | nil => simp [vset]
  | cons x t ih => simp [vset, ih]; omega
theorem vset_snoc (a : List Int) (v : Int) : vset (a ++ [v]) = vset a + 2 ^ v.toNat := by rw [vset_app]; simp [vset]
theorem snoc_ind {α : Type} {P : List α → Prop} (h0 : P []) (h1 : ∀ t x, P t → P (t ++ [x])) (l : List α) : P l := by
  have key : ∀ n, ∀ l : List α, l.length = n → P l := by
    intro n
    induction n with
    | zero => intro l hl; rw [List.length_eq_zero_iff.1 hl]; exact h0
    | succ n ih =>
      intro l hl
      have hne : l ≠ [] := by intro e; rw [e] at hl; cases hl
      rw [← List.dropLast_concat_getLast hne]
      exact h1 _ _ (ih _ (by simp [hl]))
  exact key _ l rfl
/-- All are below v. -/
theorem vset_lt : ∀ (l : List Int) (V : Nat), vOk l → (∀ x ∈ l, x < (V : Int)) → vset l < 2 ^ V := by
  refine snoc_ind ?_ ?_
  · intro V _ _; simpa [vset] using Nat.two_pow_pos V
  · intro t x ih V h hb
    rw [vset_snoc]
    have hx := h.1 x (by simp)
    have hp := List.pairwise_append.1 h.2
    have h1 := ih x.toNat ⟨fun v hv => h.1 v (by simp [hv]), hp.1⟩ (fun y hy => by have := hp.2.2 y hy x (by simp); omega)
    have h2 := hb x (by simp)
    have h3 : 2 ^ (x.toNat + 1) ≤ 2 ^ V := Nat.pow_le_pow_right (by omega) (by omega)
    rw [Nat.pow_succ] at h3
    omega
theorem vset_ge {l : List Int} {x : Int} (h : x ∈ l) : 2 ^ x.toNat ≤ vset l := by
  induction l with
  | nil => cases h
  | cons y t ih =>
    rcases List.mem_cons.1 h with rfl | h
    · exact Nat.le_add_right _ _
    · exact Nat.le_trans (ih h) (Nat.le_add_left _ _)
theorem vset_small {l : List Int} (h : vOk l) : vset l < 1024 := vset_lt l 10 h (fun x hx => by have := h.1 x hx; omega)
/-- The bit of a network. -/
theorem vset_bit : ∀ (l : List Int) (V : Nat), vOk l → (vset l / 2 ^ V % 2 = 1 ↔ (V : Int) ∈ l) := by
  refine snoc_ind ?_ ?_
  · intro V _; simp [vset]
  · intro t x ih V h
    have hx := h.1 x (by simp)
    have hp := List.pairwise_append.1 h.2
    have ht : vOk t := ⟨fun v hv => h.1 v (by simp [hv]), hp.1⟩
    have hlt := vset_lt t x.toNat ht (fun y hy => by have := hp.2.2 y hy x (by simp); omega)
    rw [vset_snoc]
    obtain ⟨X, rfl⟩ := Int.eq_ofNat_of_zero_le (show 0 ≤ x by omega)
    simp only [Int.toNat_natCast] at hlt ⊢
    rw [List.mem_append, List.mem_singleton, ← ih V ht]
    rcases Nat.lt_trichotomy V X with h1 | h1 | h1
    · obtain ⟨d, rfl⟩ : ∃ d, X = V + 1 + d := ⟨X - V - 1, by omega⟩
      have e : 2 ^ (V + 1 + d) = 2 ^ V * (2 * 2 ^ d) := by rw [Nat.pow_add, Nat.pow_succ]; rw [Nat.mul_assoc]
      rw [e, Nat.add_mul_div_left _ _ (Nat.two_pow_pos V), Nat.add_mul_mod_self_left]
      constructor
      · exact .inl
      · rintro (h2 | h2)
        · exact h2
        · omega
    · subst h1
      rw [Nat.add_div_right _ (Nat.two_pow_pos V), Nat.div_eq_of_lt hlt]
      simp
    · have h3 : vset t + 2 ^ X < 2 ^ V := by
        have : 2 ^ (X + 1) ≤ 2 ^ V := Nat.pow_le_pow_right (by omega) (by omega)
        rw [Nat.pow_succ] at this; omega
      have h4 : vset t < 2 ^ V := by omega
      rw [Nat.div_eq_of_lt h3, Nat.div_eq_of_lt h4]
      constructor
      · intro h5; omega
      · rintro (h5 | h5)
        · omega
        · omega
def hasS (s : Nat) (v : Int) : Bool := decide (1 ≤ v ∧ v ≤ 9) && decide (s / 2 ^ v.toNat % 2 = 1)
theorem hasS_of {l : List Int} (h : vOk l) (v : Int) : hasS (vset l) v = decide (v ∈ l) := by
  unfold hasS
  by_cases hv : 1 ≤ v ∧ v ≤ 9
  · have hb := vset_bit l v.toNat h
    rw [show ((v.toNat : Nat) : Int) = v by omega] at hb
    rw [decide_eq_true hv, Bool.true_and]
    exact decide_eq_decide.2 hb
  · rw [decide_eq_false hv, Bool.false_and]
    rw [decide_eq_false (fun hm => hv (h.1 v hm))]
theorem hasS_zero (v : Int) : hasS 0 v = false := by simp [hasS]
/-- The word of a port: all its networks. -/
def pset (p : Port) : Nat := if p.1 = 2 then vset p.2.2 + 2 ^ p.2.1.toNat else 2 ^ p.2.1.toNat
end Go.Proofs.YtiokieancjigeaaDoor
