/-
  Chapter 7's answers as plain functions of what comes in: cables as rows of three ints, and what each function says of them. No condition.
-/
import Derived.Test.YtkmdpmhaljieaaaMathTreeI
import Derived.Test.YtkmdpmhaljieaaaRowsK
namespace Go.Proofs.Ytkmdpmhaljieaaa
open Go.RowKit

def kabOk (n : Int) (k : Tri) : Prop := (0 ≤ k.1 ∧ k.1 ≤ n - 1) ∧ (0 ≤ k.2.1 ∧ k.2.1 ≤ n - 1) ∧ k.1 ≠ k.2.1 ∧ (1 ≤ k.2.2 ∧ k.2.2 ≤ 99)
instance (n : Int) (k : Tri) : Decidable (kabOk n k) := by unfold kabOk; infer_instance
def kOk (n : Int) (ks : List Tri) : Prop := (1 ≤ n ∧ n ≤ 8) ∧ ks.length ≤ 20 ∧ ∀ k ∈ ks, kabOk n k
instance (n : Int) (ks : List Tri) : Decidable (kOk n ks) := by unfold kOk; infer_instance
def triOf (c : Cab) : Tri := ((c.1 : Int), (c.2.1 : Int), (c.2.2 : Int))
def cabOf (k : Tri) : Cab := (k.1.toNat, k.2.1.toNat, k.2.2.toNat)
theorem cab_tri (c : Cab) : cabOf (triOf c) = c := rfl
theorem cabs_tris (cs : List Cab) : (cs.map triOf).map cabOf = cs := by
  rw [List.map_map]; exact List.map_id' _
/-- What is drawn or comes in, in numbers of bridges and cables. -/
structure Net7 (n : Int) (ks : List Tri) (m : Nat) (cs : List Cab) : Prop where
  n_eq : n = (m : Int)
  ks_eq : ks = cs.map triOf
  ok : cabsOk m cs
  pos : 1 ≤ m
  le : m ≤ 8
  few : cs.length ≤ 20
theorem kOk_yes {n : Int} {ks : List Tri} (h : kOk n ks) : Net7 n ks n.toNat (ks.map cabOf) := by
  obtain ⟨⟨h1, h2⟩, h3, h4⟩ := h
  have tri : ∀ k ∈ ks, triOf (cabOf k) = k := fun k hk => by
    obtain ⟨⟨a, _⟩, ⟨b, _⟩, _, c, _⟩ := h4 k hk
    unfold triOf cabOf
    obtain ⟨x, y, z⟩ := k
    simp only at a b c ⊢
    rw [Int.toNat_of_nonneg a, Int.toNat_of_nonneg b, Int.toNat_of_nonneg (by omega)]
  refine ⟨by omega, ?_, fun c hc => ?_, by omega, by omega, by rw [List.length_map]; exact h3⟩
  · rw [List.map_map]
    have e : ks.map (triOf ∘ cabOf) = ks.map id := List.map_congr_left (fun k hk => tri k hk)
    rw [e, List.map_id]
  · obtain ⟨k, hk, rfl⟩ := List.mem_map.1 hc
    obtain ⟨⟨a0, a1⟩, ⟨b0, b1⟩, e, c0, c1⟩ := h4 k hk
    unfold cabOk cabOf
    obtain ⟨x, y, z⟩ := k
    simp only at a0 a1 b0 b1 e c0 c1 ⊢
    omega
theorem Net7.valid {n : Int} {ks : List Tri} {m : Nat} {cs : List Cab} (h : Net7 n ks m cs) : kOk n ks := by
  obtain ⟨rfl, rfl, hc, h1, h2, h3⟩ := h
  refine ⟨⟨by omega, by omega⟩, by rw [List.length_map]; exact h3, fun k hk => ?_⟩
  obtain ⟨c, hcm, rfl⟩ := List.mem_map.1 hk
  obtain ⟨a, b, e, d0, d1⟩ := hc c hcm
  unfold kabOk triOf
  simp only
  omega
theorem Net7.nat {n : Int} {ks : List Tri} {m : Nat} {cs : List Cab} (h : Net7 n ks m cs) : n.toNat = m ∧ ks.map cabOf = cs := by
  obtain ⟨rfl, rfl, _⟩ := h
  exact ⟨rfl, cabs_tris cs⟩
def rootI (n : Int) (ks : List Tri) (b : Int) : Int := if kOk n ks ∧ 0 ≤ b ∧ b ≤ n - 1 then (rootN n.toNat (ks.map cabOf) b.toNat : Int) else -1
def costsI (n : Int) (ks : List Tri) : List Int := if kOk n ks then intsOf (costsN n.toNat (ks.map cabOf)) else []
def treeI (n : Int) (ks : List Tri) : List Int := if kOk n ks then intsOf (treeN n.toNat (ks.map cabOf)) else []
def wayI (n : Int) (ks : List Tri) (b : Int) : List Int := if kOk n ks ∧ 0 ≤ b ∧ b ≤ n - 1 then intsOf (wayN n.toNat (ks.map cabOf) b.toNat) else []
def firstI (n : Int) : List (List Int) := if 1 ≤ n ∧ n ≤ 8 then firstL n.toNat else []
def clmOk (x : List Int) : Prop := x.length = 4 ∧ 0 ≤ gi x 1 ∧ gi x 1 ≤ 10000
instance (x : List Int) : Decidable (clmOk x) := by unfold clmOk; infer_instance
def nextOk (n : Int) (ks : List Tri) (cl : List (List Int)) : Prop := kOk n ks ∧ (cl.length : Int) = n ∧ ∀ x ∈ cl, clmOk x
instance (n : Int) (ks : List Tri) (cl : List (List Int)) : Decidable (nextOk n ks cl) := by unfold nextOk; infer_instance
def nextI (n : Int) (ks : List Tri) (cl : List (List Int)) : List (List Int) := if nextOk n ks cl then nextN n.toNat (ks.map cabOf) cl else []
def afterI (n : Int) (ks : List Tri) (r : Int) : List (List Int) := if kOk n ks ∧ 0 ≤ r ∧ r ≤ 100 then afterN n.toNat (ks.map cabOf) r.toNat else []
section
variable {n : Int} {ks : List Tri} {m : Nat} {cs : List Cab}
theorem Net7.root (h : Net7 n ks m cs) {b : Nat} (hb : b < m) : rootI n ks (b : Int) = (rootN m cs b : Int) := by
  have h1 := h.nat
  unfold rootI; rw [if_pos ⟨h.valid, by omega, by have := h.n_eq; omega⟩, h1.1, h1.2]; rfl
theorem Net7.costs (h : Net7 n ks m cs) : costsI n ks = intsOf (costsN m cs) := by
  have h1 := h.nat
  unfold costsI; rw [if_pos h.valid, h1.1, h1.2]
theorem Net7.tree (h : Net7 n ks m cs) : treeI n ks = intsOf (treeN m cs) := by
  have h1 := h.nat
  unfold treeI; rw [if_pos h.valid, h1.1, h1.2]
theorem Net7.way (h : Net7 n ks m cs) {b : Nat} (hb : b < m) : wayI n ks (b : Int) = intsOf (wayN m cs b) := by
  have h1 := h.nat
  unfold wayI; rw [if_pos ⟨h.valid, by omega, by have := h.n_eq; omega⟩, h1.1, h1.2]; rfl
theorem Net7.next (h : Net7 n ks m cs) {cl : List (List Int)} (hl : cl.length = m) (hc : ∀ x ∈ cl, clmOk x) : nextI n ks cl = nextN m cs cl := by
  have h1 := h.nat
  unfold nextI; rw [if_pos ⟨h.valid, by rw [hl]; exact h.n_eq.symm, hc⟩, h1.1, h1.2]
theorem Net7.after (h : Net7 n ks m cs) {r : Nat} (hr : r ≤ 100) : afterI n ks (r : Int) = afterN m cs r := by
  have h1 := h.nat
  unfold afterI; rw [if_pos ⟨h.valid, by omega, by omega⟩, h1.1, h1.2]; rfl
theorem Net7.first (h : Net7 n ks m cs) : firstI n = firstL m := by
  have h1 := h.nat
  have h2 := h.pos; have h3 := h.le; have h4 := h.n_eq
  unfold firstI; rw [if_pos ⟨by omega, by omega⟩, h1.1]
/-- What is claimed after some rounds is a claim. -/
theorem Net7.clms (h : Net7 n ks m cs) {k : Nat} (hk : k ≤ 100) : ∀ x ∈ afterN m cs k, clmOk x := fun x hx => by
  obtain ⟨b, hb, e⟩ := List.getElem_of_mem hx
  have hb' : b < m := by rw [after_len] at hb; exact hb
  obtain ⟨_, _, _, _, h3, h4⟩ := after_low h.ok k b hb'
  have hg : clmAt (afterN m cs k) b = x := by unfold clmAt; rw [List.getD_eq_getElem?_getD, List.getElem?_eq_getElem hb]; exact e
  rw [hg] at h3 h4
  exact ⟨afterN_four k x hx, h3, by omega⟩
end
theorem intsOf_len (l : List Nat) : (intsOf l).length = l.length := by simp [intsOf]
theorem intsOf_at (l : List Nat) (i : Nat) (h : i < l.length) : (intsOf l)[i]? = some ((gn l i : Nat) : Int) := by
  simp [intsOf, gn, List.getD_eq_getElem?_getD, List.getElem?_eq_getElem h]
theorem costsI_le (n : Int) (ks : List Tri) : (costsI n ks).length ≤ 8 := by
  unfold costsI; split
  · rename_i h; rw [intsOf_len, costs_len]; exact (kOk_yes h).le
  · simp
theorem treeI_le (n : Int) (ks : List Tri) : (treeI n ks).length ≤ 8 := by
  unfold treeI; split
  · rename_i h
    have h' := kOk_yes h
    have := treeN_len h'.ok h'.le
    have := h'.le
    rw [intsOf_len]; omega
  · simp
theorem wayI_le (n : Int) (ks : List Tri) (b : Int) : (wayI n ks b).length ≤ 1000 := by
  unfold wayI; split
  · rename_i h
    have h' := kOk_yes h.1
    have h2 := wayF_len (ks.map cabOf) (costsN n.toNat (ks.map cabOf)) (gn (costsN n.toNat (ks.map cabOf)) b.toNat) b.toNat
    have h3 := cost_le h'.ok (v := b.toNat) (by have := h.2; omega)
    have := h'.le
    rw [intsOf_len]; unfold wayN; omega
  · simp
theorem sum4 : ∀ l : List (List Int), (∀ x ∈ l, x.length = 4) → (l.map List.length).sum = 4 * l.length
  | [], _ => rfl
  | x :: xs, h => by
    have := sum4 xs (fun y hy => h y (List.mem_cons_of_mem _ hy))
    have := h x List.mem_cons_self
    simp only [List.map_cons, List.sum_cons, List.length_cons]; omega
/-- Claims as they are told: eight at most, of four numbers each. -/
def Told (l : List (List Int)) : Prop := l.length ≤ 8 ∧ ∀ x ∈ l, x.length = 4
theorem Told.lens {l : List (List Int)} (h : Told l) : ∀ x ∈ l, x.length ≤ 16777216 := fun x hx => by have := h.2 x hx; omega
theorem told_nil : Told [] := ⟨by simp, fun x hx => by cases hx⟩
theorem firstI_told (n : Int) : Told (firstI n) := by
  unfold firstI; split
  · exact ⟨by rw [firstL_len]; omega, firstL_four⟩
  · exact told_nil
theorem nextI_told (n : Int) (ks : List Tri) (cl : List (List Int)) : Told (nextI n ks cl) := by
  unfold nextI; split
  · rename_i h; exact ⟨by rw [nextN_len]; exact (kOk_yes h.1).le, nextN_four⟩
  · exact told_nil
theorem afterI_told (n : Int) (ks : List Tri) (r : Int) : Told (afterI n ks r) := by
  unfold afterI; split
  · rename_i h; exact ⟨by rw [after_len]; exact (kOk_yes h.1).le, afterN_four _⟩
  · exact told_nil
/-- A cable out of a slice. -/
theorem HasK.cab7 {w : World} {A : Option Addr} {n : Nat} {cs : List Cab} (h : HasK w A n (cs.map triOf)) {i : Nat} (hi : i < n) :
    ∃ b o, A = some ⟨b, o, none⟩ ∧ b < w.heap.size ∧ w.cell? ⟨b, o + i * 3, none⟩ = some (.int .i64 ((cab cs i).1 : Int)) ∧ w.cell? ⟨b, o + i * 3 + 1, none⟩ = some (.int .i64 ((cab cs i).2.1 : Int)) ∧ w.cell? ⟨b, o + i * 3 + 2, none⟩ = some (.int .i64 ((cab cs i).2.2 : Int)) := by
  obtain ⟨b, o, f, t, q, hA, hbl, hx, c0, c1, c2⟩ := h.at_ hi
  rw [List.getElem?_map] at hx
  have hl := h.1
  rw [List.length_map] at hl
  rw [List.getElem?_eq_getElem (show i < cs.length by omega)] at hx
  have hcab : cab cs i = cs[i]'(by omega) := by unfold cab; rw [List.getD_eq_getElem?_getD, List.getElem?_eq_getElem (show i < cs.length by omega)]; rfl
  rw [← hcab] at hx
  injection hx with hx
  injection hx with e1 e2
  injection e2 with e2 e3
  subst e1 e2 e3
  exact ⟨b, o, hA, hbl, c0, c1, c2⟩
end Go.Proofs.Ytkmdpmhaljieaaa
