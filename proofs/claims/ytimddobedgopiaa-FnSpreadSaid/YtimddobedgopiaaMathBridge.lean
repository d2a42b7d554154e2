/-
  Chapter 6's plain mathematics: tables of bridges, where a frame goes, and what a bridge knows. No condition.
-/
import Derived.Test.YtimddobedgopiaaBits
namespace Go.Proofs.Ytimddobedgopiaa
open Go.RowKit

def freshL : List Int := List.replicate 15 (-1)
def tOk (t : List Int) (ports : Int) : Prop := t.length = 15 ∧ (1 ≤ ports ∧ ports ≤ 6) ∧ ∀ x ∈ t, -1 ≤ x ∧ x ≤ ports - 1
instance (t : List Int) (ports : Int) : Decidable (tOk t ports) := by unfold tOk; infer_instance
def learnOk (t : List Int) (ports from_ port : Int) : Prop := tOk t ports ∧ (0 ≤ from_ ∧ from_ ≤ 14) ∧ (0 ≤ port ∧ port ≤ ports - 1)
instance (t : List Int) (ports from_ port : Int) : Decidable (learnOk t ports from_ port) := by unfold learnOk; infer_instance
def learnL (t : List Int) (ports from_ port : Int) : List Int := if learnOk t ports from_ port then t.set from_.toNat port else []
def toOk (t : List Int) (ports to port : Int) : Prop := tOk t ports ∧ (0 ≤ to ∧ to ≤ 15) ∧ (0 ≤ port ∧ port ≤ ports - 1)
instance (t : List Int) (ports to port : Int) : Decidable (toOk t ports to port) := by unfold toOk; infer_instance
/-- Where a station is; -1 if that is not known. -/
def knownAt (t : List Int) (to : Int) : Int := if to < 15 then t.getD to.toNat (-1) else -1
def goesTo (known port : Int) (p : Nat) : Prop := (p : Int) ≠ port ∧ (known < 0 ∨ known = (p : Int))
instance (known port : Int) (p : Nat) : Decidable (goesTo known port p) := by unfold goesTo; infer_instance
def portsTo (known port : Int) (n : Nat) : List Int := ((List.range n).filter (fun p => decide (goesTo known port p))).map (fun p : Nat => (p : Int))
def portsL (t : List Int) (ports to port : Int) : List Int := if toOk t ports to port then portsTo (knownAt t to) port ports.toNat else []
def knownTo (t : List Int) (n : Nat) : List Int := ((List.range n).filter (fun i => decide (0 ≤ t.getD i (-1)))).map (fun i : Nat => (i : Int))
def knownL (t : List Int) (ports : Int) : List Int := if tOk t ports then knownTo t 15 else []
theorem fresh_len : freshL.length = 15 := rfl
theorem fresh_ok {ports : Int} (h : 1 ≤ ports ∧ ports ≤ 6) : tOk freshL ports := ⟨rfl, h, fun x hx => by
  have := List.eq_of_mem_replicate hx; omega⟩
theorem tOk_b {t : List Int} {ports : Int} (h : tOk t ports) (i : Nat) : -1 ≤ t.getD i (-1) ∧ t.getD i (-1) ≤ ports - 1 := by
  by_cases hi : i < t.length
  · rw [List.getD_eq_getElem?_getD, List.getElem?_eq_getElem hi]; exact h.2.2 _ (List.getElem_mem hi)
  · rw [List.getD_eq_getElem?_getD, List.getElem?_eq_none (by omega)]; have := h.2.1; simp; omega
theorem learn_ok {t : List Int} {ports from_ port : Int} (h : learnOk t ports from_ port) : tOk (t.set from_.toNat port) ports := by
  obtain ⟨⟨h1, h2, h3⟩, h4, h5⟩ := h
  refine ⟨by simpa using h1, h2, fun x hx => ?_⟩
  rcases List.mem_or_eq_of_mem_set hx with hx | rfl
  · exact h3 x hx
  · omega
theorem learnL_le (t : List Int) (ports from_ port : Int) : (learnL t ports from_ port).length ≤ 15 := by
  unfold learnL; split
  · rename_i h; rw [List.length_set]; have := h.1.1; omega
  · simp
theorem portsTo_snoc (known port : Int) (n : Nat) : portsTo known port (n + 1) = portsTo known port n ++ (if goesTo known port n then [(n : Int)] else []) := by
  unfold portsTo
  rw [List.range_succ, List.filter_append, List.map_append]
  by_cases h : goesTo known port n <;> simp [h]
theorem portsTo_len (known port : Int) (n : Nat) : (portsTo known port n).length ≤ n := by
  induction n with
  | zero => simp [portsTo]
  | succ n ih => rw [portsTo_snoc, List.length_append]; split <;> simp <;> omega
theorem portsL_le (t : List Int) (ports to port : Int) : (portsL t ports to port).length ≤ 6 := by
  unfold portsL; split
  · rename_i h; have := portsTo_len (knownAt t to) port ports.toNat; have := h.1.2.1; omega
  · simp
theorem filter_one {α : Type} (p : α → Bool) (a : α) : [a].filter p = if p a = true then [a] else [] := by
  cases h : p a <;> simp [h]
theorem knownTo_snoc (t : List Int) (n : Nat) : knownTo t (n + 1) = knownTo t n ++ (if 0 ≤ t.getD n (-1) then [(n : Int)] else []) := by
  unfold knownTo
  rw [List.range_succ, List.filter_append, List.map_append, filter_one]
  by_cases h : 0 ≤ t.getD n (-1)
  · rw [if_pos (decide_eq_true h), if_pos h]; rfl
  · rw [if_neg (by rw [decide_eq_false h]; simp), if_neg h]; rfl
theorem knownTo_len (t : List Int) (n : Nat) : (knownTo t n).length ≤ n := by
  induction n with
  | zero => simp [knownTo]
  | succ n ih =>
    have : (if 0 ≤ t.getD n (-1) then [(n : Int)] else []).length ≤ 1 := by split <;> simp
    rw [knownTo_snoc, List.length_append]; omega
theorem knownL_le (t : List Int) (ports : Int) : (knownL t ports).length ≤ 15 := by
  unfold knownL; split
  · exact knownTo_len t 15
  · simp
theorem mem_knownTo {t : List Int} {n : Nat} {x : Int} (h : x ∈ knownTo t n) : ∃ i : Nat, i < n ∧ x = (i : Int) ∧ 0 ≤ t.getD i (-1) := by
  simp only [knownTo, List.mem_map, List.mem_filter, List.mem_range, decide_eq_true_eq] at h
  obtain ⟨i, ⟨h1, h2⟩, rfl⟩ := h
  exact ⟨i, h1, rfl, h2⟩
theorem mem_portsTo {known port : Int} {n : Nat} {x : Int} (h : x ∈ portsTo known port n) : ∃ p : Nat, p < n ∧ x = (p : Int) ∧ goesTo known port p := by
  simp only [portsTo, List.mem_map, List.mem_filter, List.mem_range, decide_eq_true_eq] at h
  obtain ⟨i, ⟨h1, h2⟩, rfl⟩ := h
  exact ⟨i, h1, rfl, h2⟩
theorem portsTo_sorted (known port : Int) (n : Nat) : (portsTo known port n).Pairwise (· < ·) := by
  induction n with
  | zero => simp [portsTo]
  | succ n ih =>
    rw [portsTo_snoc, List.pairwise_append]
    refine ⟨ih, by split <;> simp, fun x hx y hy => ?_⟩
    obtain ⟨p, hp, rfl, _⟩ := mem_portsTo hx
    split at hy
    · simp at hy; subst hy; omega
    · cases hy
/-- If the station is not known, all other ports; if it is, one or none. -/
theorem portsTo_all (known : Int) (hk : known < 0) (port : Nat) (n : Nat) : (portsTo known (port : Int) n).length + (if port < n then 1 else 0) = n := by
  induction n with
  | zero => simp [portsTo]
  | succ n ih =>
    rw [portsTo_snoc, List.length_append]
    by_cases h : n = port
    · subst h
      rw [if_neg (by unfold goesTo; omega), if_pos (by omega)]
      rw [if_neg (by omega)] at ih
      simp; omega
    · rw [if_pos (by unfold goesTo; omega)]
      by_cases h2 : port < n
      · rw [if_pos h2] at ih; rw [if_pos (by omega)]; simp; omega
      · rw [if_neg h2] at ih; rw [if_neg (by omega)]; simp; omega
theorem portsTo_one (known : Int) (hk : 0 ≤ known) (port : Int) (n : Nat) : (portsTo known port n).length ≤ (if known < (n : Int) then 1 else 0) := by
  induction n with
  | zero => simp [portsTo]
  | succ n ih =>
    rw [portsTo_snoc, List.length_append]
    by_cases h : known = (n : Int)
    · have e : (if known < ((n + 1 : Nat) : Int) then 1 else 0) = 1 := if_pos (by omega)
      have e2 : (if known < (n : Int) then 1 else 0) = 0 := if_neg (by omega)
      have e3 : (if goesTo known port n then [(n : Int)] else []).length ≤ 1 := by split <;> simp
      rw [e]; rw [e2] at ih; omega
    · have e3 : (if goesTo known port n then [(n : Int)] else []).length = 0 := by rw [if_neg (by unfold goesTo; omega)]; rfl
      by_cases h2 : known < (n : Int)
      · have e : (if known < ((n + 1 : Nat) : Int) then 1 else 0) = 1 := if_pos (by omega)
        have e2 : (if known < (n : Int) then 1 else 0) = 1 := if_pos h2
        rw [e]; rw [e2] at ih; omega
      · have e : (if known < ((n + 1 : Nat) : Int) then 1 else 0) = 0 := if_neg (by omega)
        have e2 : (if known < (n : Int) then 1 else 0) = 0 := if_neg h2
        rw [e]; rw [e2] at ih; omega

/-- Frames: from, to, port. -/
abbrev Hop3 := Int × Int × Int
def stepOk (t : List Int) (ports : Int) (h : Hop3) : Prop := learnOk t ports h.1 h.2.2 ∧ 0 ≤ h.2.1 ∧ h.2.1 ≤ 15
instance (t : List Int) (ports : Int) (h : Hop3) : Decidable (stepOk t ports h) := by unfold stepOk; infer_instance
def stepT (t : List Int) (h : Hop3) : List Int := t.set h.1.toNat h.2.2
def stepL (t : List Int) (ports : Int) (h : Hop3) : List Int := if stepOk t ports h then stepT t h else []
def outsL (t : List Int) (ports : Int) (h : Hop3) : List Int := if stepOk t ports h then portsL (stepT t h) ports h.2.1 h.2.2 else []
/-- The bridge behind frames, and where each went; none if one is none. -/
def runTo (ports : Int) : List Int → List Hop3 → Option (List Int × List (List Int))
  | t, [] => some (t, [])
  | t, h :: hs => if stepOk t ports h then (runTo ports (stepT t h) hs).map (fun r => (r.1, portsL (stepT t h) ports h.2.1 h.2.2 :: r.2)) else none
def runOk (ports : Int) (hs : List Hop3) : Prop := (1 ≤ ports ∧ ports ≤ 6) ∧ hs.length ≤ 60
instance (ports : Int) (hs : List Hop3) : Decidable (runOk ports hs) := by unfold runOk; infer_instance
def runR (ports : Int) (hs : List Hop3) : Option (List Int × List (List Int)) := if runOk ports hs then runTo ports freshL hs else none
def runT (ports : Int) (hs : List Hop3) : List Int := ((runR ports hs).map (·.1)).getD []
def runO (ports : Int) (hs : List Hop3) : List (List Int) := ((runR ports hs).map (·.2)).getD []
def runB (ports : Int) (hs : List Hop3) : Bool := (runR ports hs).isSome
theorem runTo_snoc (ports : Int) (t : List Int) (hs : List Hop3) (h : Hop3) : runTo ports t (hs ++ [h]) = (runTo ports t hs).bind (fun r => if stepOk r.1 ports h then some (stepT r.1 h, r.2 ++ [portsL (stepT r.1 h) ports h.2.1 h.2.2]) else none) := by
  induction hs generalizing t with
  | nil =>
    simp only [List.nil_append, runTo, Option.bind_some, Option.map_some]
  | cons g gs ih =>
    simp only [List.cons_append, runTo]
    split
    · rw [ih]
      cases runTo ports (stepT t g) gs with
      | none => rfl
      | some r => simp only [Option.bind_some, Option.map_some]; split <;> simp
    · rfl
theorem runTo_ok {ports : Int} {t : List Int} {hs : List Hop3} {r : List Int × List (List Int)} (ht : tOk t ports) (h : runTo ports t hs = some r) : tOk r.1 ports ∧ r.2.length = hs.length ∧ ∀ o ∈ r.2, o.length ≤ 6 := by
  induction hs generalizing t r with
  | nil => simp only [runTo, Option.some.injEq] at h; subst h; exact ⟨ht, rfl, fun o ho => by cases ho⟩
  | cons g gs ih =>
    simp only [runTo] at h
    split at h
    · rename_i hg
      cases hr : runTo ports (stepT t g) gs with
      | none => rw [hr] at h; cases h
      | some q =>
        rw [hr] at h
        simp only [Option.map_some, Option.some.injEq] at h
        subst h
        obtain ⟨h1, h2, h3⟩ := ih (learn_ok hg.1) hr
        refine ⟨h1, by simp [h2], fun o ho => ?_⟩
        rcases List.mem_cons.1 ho with rfl | ho
        · exact portsL_le _ _ _ _
        · exact h3 o ho
    · cases h
/-- Where a station's last frame came from. -/
def lastOf (s : Int) : List Hop3 → Int → Int
  | [], d => d
  | h :: hs, d => lastOf s hs (if h.1 = s then h.2.2 else d)
theorem last_seen {ports : Int} {t : List Int} {hs : List Hop3} {r : List Int × List (List Int)} (ht : tOk t ports) (h : runTo ports t hs = some r) (s : Nat) (hs15 : s < 15) : r.1.getD s (-1) = lastOf (s : Int) hs (t.getD s (-1)) := by
  induction hs generalizing t r with
  | nil => simp only [runTo, Option.some.injEq] at h; subst h; rfl
  | cons g gs ih =>
    simp only [runTo] at h
    split at h
    · rename_i hg
      cases hr : runTo ports (stepT t g) gs with
      | none => rw [hr] at h; cases h
      | some q =>
        rw [hr] at h
        simp only [Option.map_some, Option.some.injEq] at h
        subst h
        rw [ih (learn_ok hg.1) hr]
        show lastOf (s : Int) gs _ = lastOf (s : Int) gs _
        congr 1
        have hl := ht.1
        rw [List.getD_eq_getElem?_getD, List.getD_eq_getElem?_getD]
        have h0 := hg.1.2.1
        by_cases he : g.1 = (s : Int)
        · rw [if_pos he, show g.1.toNat = s by omega, List.getElem?_set_self (by omega)]; rfl
        · rw [if_neg he, List.getElem?_set_ne (by omega)]
    · cases h
/-- It knows no more stations than frames came. -/
theorem knownTo_set (t : List Int) (i : Nat) (v : Int) (n : Nat) (hn : n ≤ t.length) : (knownTo (t.set i v) n).length ≤ (knownTo t n).length + (if i < n then 1 else 0) := by
  induction n with
  | zero => simp [knownTo]
  | succ n ih =>
    have ih := ih (by omega)
    rw [knownTo_snoc, knownTo_snoc, List.length_append, List.length_append]
    have e1 : (if 0 ≤ (t.set i v).getD n (-1) then [(n : Int)] else []).length ≤ 1 := by split <;> simp
    by_cases h : i = n
    · have c1 : (if i < n then 1 else 0) = 0 := if_neg (by omega)
      have c2 : (if i < n + 1 then 1 else 0) = 1 := if_pos (by omega)
      rw [c2]; rw [c1] at ih; omega
    · rw [show (t.set i v).getD n (-1) = t.getD n (-1) by rw [List.getD_eq_getElem?_getD, List.getElem?_set_ne h, List.getD_eq_getElem?_getD]]
      by_cases h2 : i < n
      · have c1 : (if i < n then 1 else 0) = 1 := if_pos h2
        have c2 : (if i < n + 1 then 1 else 0) = 1 := if_pos (by omega)
        rw [c2]; rw [c1] at ih; omega
      · have c1 : (if i < n then 1 else 0) = 0 := if_neg h2
        have c2 : (if i < n + 1 then 1 else 0) = 0 := if_neg (by omega)
        rw [c2]; rw [c1] at ih; omega
theorem known_run {ports : Int} {t : List Int} {hs : List Hop3} {r : List Int × List (List Int)} (ht : tOk t ports) (h : runTo ports t hs = some r) : (knownTo r.1 15).length ≤ (knownTo t 15).length + hs.length := by
  induction hs generalizing t r with
  | nil => simp only [runTo, Option.some.injEq] at h; subst h; simp
  | cons g gs ih =>
    simp only [runTo] at h
    split at h
    · rename_i hg
      cases hr : runTo ports (stepT t g) gs with
      | none => rw [hr] at h; cases h
      | some q =>
        rw [hr] at h
        simp only [Option.map_some, Option.some.injEq] at h
        subst h
        have h1 := ih (learn_ok hg.1) hr
        have h2 := knownTo_set t g.1.toNat g.2.2 15 (by have := ht.1; omega)
        have h3 : (if g.1.toNat < 15 then 1 else 0) ≤ 1 := by split <;> omega
        unfold stepT at h1
        simp only [List.length_cons]
        omega
    · cases h
theorem known_fresh : knownTo freshL 15 = [] := by decide
end Go.Proofs.Ytimddobedgopiaa
