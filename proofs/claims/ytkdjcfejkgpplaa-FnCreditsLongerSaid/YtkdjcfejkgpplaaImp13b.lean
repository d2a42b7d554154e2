/-
  Chapter 13's program, a sender and a receiver: what is proved here is how they lie in memory, what their methods leave there, and that nothing else is written. Condition: numbers up to 10000.
-/
import Derived.Test.YtkdjcfejkgpplaaImp13a
import Derived.BigRegion
import Derived.StillTailTactics
import Derived.Deep.RegionHeld3
namespace Go.Proofs.Ytkdjcfejkgpplaa
open Go.RowKit

/-- The block B holds a sender, a receiver, and what is on its way between them. -/
def DvRow (w : World) (B : Nat) (c l s v m k : Int) (T K : Value) (t : Int) : Prop := w.heap[B]? = some (.cells #[.int .i64 c, .int .i64 l, .int .i64 s, .int .i64 v, .int .i64 m, .int .i64 k, T, K, .int .i64 t] 58 (0, 0))
section
variable {w : World} {B : Nat} {c l s v m k t : Int} {T K : Value}
theorem DvRow.lt (h : DvRow w B c l s v m k T K t) : B < w.heap.size := (Array.getElem?_eq_some_iff.1 h).1
theorem DvRow.sender (h : DvRow w B c l s v m k T K t) : w.cell? ⟨B, 0, none⟩ = some (.int .i64 c) ∧ w.cell? ⟨B, 1, none⟩ = some (.int .i64 l) ∧ w.cell? ⟨B, 2, none⟩ = some (.int .i64 s) :=
  ⟨(cell_of_row w B 0 _ _ (0, 0) h).trans rfl, (cell_of_row w B 1 _ _ (0, 0) h).trans rfl, (cell_of_row w B 2 _ _ (0, 0) h).trans rfl⟩
theorem DvRow.receiver (h : DvRow w B c l s v m k T K t) : w.cell? ⟨B, 3, none⟩ = some (.int .i64 v) ∧ w.cell? ⟨B, 4, none⟩ = some (.int .i64 m) ∧ w.cell? ⟨B, 5, none⟩ = some (.int .i64 k) :=
  ⟨(cell_of_row w B 3 _ _ (0, 0) h).trans rfl, (cell_of_row w B 4 _ _ (0, 0) h).trans rfl, (cell_of_row w B 5 _ _ (0, 0) h).trans rfl⟩
theorem DvRow.rings (h : DvRow w B c l s v m k T K t) : w.cell? ⟨B, 6, none⟩ = some T ∧ w.cell? ⟨B, 7, none⟩ = some K ∧ w.cell? ⟨B, 8, none⟩ = some (.int .i64 t) :=
  ⟨(cell_of_row w B 6 _ _ (0, 0) h).trans rfl, (cell_of_row w B 7 _ _ (0, 0) h).trans rfl, (cell_of_row w B 8 _ _ (0, 0) h).trans rfl⟩
theorem DvRow.open_ (h : DvRow w B c l s v m k T K t) (i : Nat) : w.frozen? ⟨B, i, none⟩ = false := frozen_of_row w B i _ _ h
theorem DvRow.set0 (h : DvRow w B c l s v m k T K t) (x : Int) : DvRow (w.setCell ⟨B, 0, none⟩ (.int .i64 x)) B x l s v m k T K t := (heap_setCell_same w B 0 _ _ _ h).trans rfl
theorem DvRow.set1 (h : DvRow w B c l s v m k T K t) (x : Int) : DvRow (w.setCell ⟨B, 1, none⟩ (.int .i64 x)) B c x s v m k T K t := (heap_setCell_same w B 1 _ _ _ h).trans rfl
theorem DvRow.set2 (h : DvRow w B c l s v m k T K t) (x : Int) : DvRow (w.setCell ⟨B, 2, none⟩ (.int .i64 x)) B c l x v m k T K t := (heap_setCell_same w B 2 _ _ _ h).trans rfl
theorem DvRow.set3 (h : DvRow w B c l s v m k T K t) (x : Int) : DvRow (w.setCell ⟨B, 3, none⟩ (.int .i64 x)) B c l s x m k T K t := (heap_setCell_same w B 3 _ _ _ h).trans rfl
theorem DvRow.set4 (h : DvRow w B c l s v m k T K t) (x : Int) : DvRow (w.setCell ⟨B, 4, none⟩ (.int .i64 x)) B c l s v x k T K t := (heap_setCell_same w B 4 _ _ _ h).trans rfl
theorem DvRow.set5 (h : DvRow w B c l s v m k T K t) (x : Int) : DvRow (w.setCell ⟨B, 5, none⟩ (.int .i64 x)) B c l s v m x T K t := (heap_setCell_same w B 5 _ _ _ h).trans rfl
theorem DvRow.set8 (h : DvRow w B c l s v m k T K t) (x : Int) : DvRow (w.setCell ⟨B, 8, none⟩ (.int .i64 x)) B c l s v m k T K x := (heap_setCell_same w B 8 _ _ _ h).trans rfl
theorem DvRow.drew (h : DvRow w B c l s v m k T K t) : DvRow w.drew B c l s v m k T K t := h
theorem DvRow.bel {w' : World} (h : DvRow w B c l s v m k T K t) (hb : Below w.heap.size w w') : DvRow w' B c l s v m k T K t := (hb.block B h.lt).trans h
theorem DvRow.grown {w' : World} {row : Option Nat} (h : DvRow w B c l s v m k T K t) (hg : w.grownBy w' row) (hne : row ≠ some B) : DvRow w' B c l s v m k T K t := (hg.block B h.lt (fun e => hne e.symm)).trans h
theorem DvRow.of {c' l' s' v' m' k' t' : Int} (h : DvRow w B c l s v m k T K t) (e0 : c = c') (e1 : l = l') (e2 : s = s') (e3 : v = v') (e4 : m = m') (e5 : k = k') (e6 : t = t') : DvRow w B c' l' s' v' m' k' T K t' := by rw [← e0, ← e1, ← e2, ← e3, ← e4, ← e5, ← e6]; exact h
end
theorem grown_drew13 {w w' : World} {r : Option Nat} (h : w.grownBy w' r) : w.grownBy w'.drew r := ⟨h.os, h.tape, h.output, h.size, h.block⟩
theorem drewN_grown13 (w : World) (q : Nat) (r : Option Nat) : w.grownBy (w.drewN q) r := ⟨rfl, rfl, rfl, Nat.le_refl _, fun _ _ _ => rfl⟩

theorem regain_any {w : World} {B c l s v m k t : Nat} {T K : Value} {b : Bool} (h : DvRow w B c l s v m k T K t) (hc : c ≤ 1000) :
    Calls Try.prog 47 #[.pointer (some ⟨B, 0, none⟩), .bool b] w fun e w' => e = .returned (.tuple #[]) ∧ DvRow w' B ((c + b.toNat : Nat) : Int) l s v m k T K t ∧ w.grownBy w' (some B) := by
  obtain ⟨c0, c1, c2⟩ := h.sender
  have f0 := h.open_ 0
  cases b with
  | true =>
    go_enter Try.func47, Try.ntmps47
    go_wp2
    refine bodyPost_end (results_none rfl _ _ _) rfl ?_
    exact ⟨rfl, (h.set0 ((c : Int) + 1)).of rfl rfl rfl rfl rfl rfl rfl, one_grown13 w B 0 _⟩
  | false =>
    go_enter Try.func47, Try.ntmps47
    go_wp2
    refine bodyPost_end (results_none rfl _ _ _) rfl ?_
    exact ⟨rfl, h, World.grownBy.refl _ _⟩
set_option maxHeartbeats 2000000 in
theorem hear_any {w : World} {B c l s v m k t : Nat} {T K : Value} {b : Bool} (h : DvRow w B c l s v m k T K t) (hv : v ≤ 1000) (hvm : v ≤ m) :
    Calls Try.prog 49 #[.pointer (some ⟨B, 3, none⟩), .bool b] w fun e w' => e = .returned (.tuple #[]) ∧ DvRow w' B c l s ((v + b.toNat : Nat) : Int) ((max m (v + b.toNat) : Nat) : Int) k T K t ∧ w.grownBy w' (some B) := by
  obtain ⟨c3, c4, c5⟩ := h.receiver
  have f3 := h.open_ 3
  have f4 := h.open_ 4
  cases b with
  | true =>
    obtain ⟨x, hx⟩ : ∃ x : Int, (v : Int) + 1 = x := ⟨_, rfl⟩
    obtain ⟨y, hy⟩ : ∃ y : Int, max (m : Int) x = y := ⟨_, rfl⟩
    have hx2 : x ≤ 1001 := by omega
    have h1 := h.set3 x
    obtain ⟨d3, d4, d5⟩ := h1.receiver
    have g3 := h1.open_ 3
    have g4 := h1.open_ 4
    have HF := Lib.hid ((h1.set4 y).of (v' := ((v + true.toNat : Nat) : Int)) (m' := ((max m (v + true.toNat) : Nat) : Int)) rfl rfl rfl (by rw [← hx]; rfl) (by rw [← hy, ← hx]; show max (m : Int) ((v : Int) + 1) = ((max m (v + 1) : Nat) : Int); omega) rfl rfl)
    have HG := Lib.hid (grown_set (one_grown13 w B 3 (.int .i64 x)) 4 (.int .i64 y))
    clear h1 h
    go_enter Try.func49, Try.ntmps49
    go_wp2
    go_region
    all_goals
      go_wp2
      refine bodyPost_end (results_none rfl _ _ _) rfl ?_
      exact ⟨rfl, HF.out, grown_drew13 HG.out⟩
  | false =>
    have HF := Lib.hid (h.of (v' := ((v + false.toNat : Nat) : Int)) (m' := ((max m (v + false.toNat) : Nat) : Int)) rfl rfl rfl rfl (by show (m : Int) = ((max m (v + 0) : Nat) : Int); omega) rfl rfl)
    go_enter Try.func49, Try.ntmps49
    go_wp2
    refine bodyPost_end (results_none rfl _ _ _) rfl ?_
    exact ⟨rfl, HF.out, World.grownBy.refl _ _⟩
set_option maxHeartbeats 2000000 in
theorem take_any {w : World} {B c l s v m k t : Nat} {T K : Value} {op : Bool} (h : DvRow w B c l s v m k T K t) (hv : v ≤ 1000) (hk : k ≤ 1000) :
    Calls Try.prog 51 #[.pointer (some ⟨B, 3, none⟩), .bool op] w fun e w' => e = .returned (.bool (op && decide (0 < v))) ∧ DvRow w' B c l s ((v - (op && decide (0 < v)).toNat : Nat) : Int) m ((k + (op && decide (0 < v)).toNat : Nat) : Int) T K t ∧ w.grownBy w' (some B) := by
  obtain ⟨c3, c4, c5⟩ := h.receiver
  have f3 := h.open_ 3
  have f5 := h.open_ 5
  cases op with
  | false =>
    go_enter Try.func51, Try.ntmps51
    go_wp2
    go_ret
    exact ⟨rfl, h, World.grownBy.refl _ _⟩
  | true =>
    by_cases hz : v = 0
    · subst hz
      go_enter Try.func51, Try.ntmps51
      go_wp2
      go_ret
      exact ⟨rfl, h, World.grownBy.refl _ _⟩
    · have z1 : ((v : Int) == 0) = false := by simp; omega
      have z2 : (v == 0) = false := by simp; omega
      obtain ⟨u, rfl⟩ : ∃ u, v = u + 1 := ⟨v - 1, by omega⟩
      have e1 : (((u + 1 : Nat) : Int) - 1) = (u : Int) := by omega
      have HF := Lib.hid (((h.set3 (u : Int)).set5 ((k : Int) + 1)).of (v' := ((u + 1 - (true && decide (0 < u + 1)).toNat : Nat) : Int)) (k' := ((k + (true && decide (0 < u + 1)).toNat : Nat) : Int)) rfl rfl rfl (by rw [decide_eq_true (show 0 < u + 1 by omega)]; rfl) rfl (by rw [decide_eq_true (show 0 < u + 1 by omega)]; rfl) rfl)
      have HG := Lib.hid (grown_set (one_grown13 w B 3 (.int .i64 (u : Int))) 5 (.int .i64 ((k : Int) + 1)))
      have HT := Lib.hid (show true = (true && decide (0 < u + 1)) by rw [decide_eq_true (show 0 < u + 1 by omega)]; rfl)
      clear h hz
      go_enter Try.func51, Try.ntmps51
      go_wp2
      go_ret
      exact ⟨ret_bool HT.out, HF.out, HG.out⟩
set_option maxHeartbeats 2000000 in
theorem send_any {w : World} {B c l s v m k t : Nat} {T K : Value} (h : DvRow w B c l s v m k T K t) (hc : c ≤ 1000) (hl : l ≤ 1000) (hs : s ≤ 1000) :
    Calls Try.prog 52 #[.pointer (some ⟨B, 0, none⟩)] w fun e w' => e = .returned (.bool (decide (0 < c) && decide (0 < l))) ∧ DvRow w' B ((c - (decide (0 < c) && decide (0 < l)).toNat : Nat) : Int) ((l - (decide (0 < c) && decide (0 < l)).toNat : Nat) : Int) ((s + (decide (0 < c) && decide (0 < l)).toNat : Nat) : Int) v m k T K t ∧ w.grownBy w' (some B) := by
  obtain ⟨c0, c1, c2⟩ := h.sender
  have f0 := h.open_ 0
  have f1 := h.open_ 1
  have f2 := h.open_ 2
  by_cases hz : c = 0
  · subst hz
    go_enter Try.func52, Try.ntmps52
    go_wp2
    go_ret
    exact ⟨rfl, h, World.grownBy.refl _ _⟩
  · have z1 : ((c : Int) == 0) = false := by simp; omega
    have z2 : (c == 0) = false := by simp; omega
    obtain ⟨u, rfl⟩ : ∃ u, c = u + 1 := ⟨c - 1, by omega⟩
    have z3 : ((u : Int) + 1 == 0) = false := by simp; omega
    by_cases hy : l = 0
    · subst hy
      have HT := Lib.hid (show false = (decide (0 < u + 1) && decide (0 < 0)) by rw [decide_eq_true (show 0 < u + 1 by omega)]; rfl)
      have HF : Hid (DvRow w B ((u + 1 - (decide (0 < u + 1) && decide (0 < 0)).toNat : Nat) : Int) ((0 - (decide (0 < u + 1) && decide (0 < 0)).toNat : Nat) : Int) ((s + (decide (0 < u + 1) && decide (0 < 0)).toNat : Nat) : Int) v m k T K t) := by
        have : DvRow w B ((u + 1 - (decide (0 < u + 1) && decide (0 < 0)).toNat : Nat) : Int) ((0 - (decide (0 < u + 1) && decide (0 < 0)).toNat : Nat) : Int) ((s + (decide (0 < u + 1) && decide (0 < 0)).toNat : Nat) : Int) v m k T K t := by rw [← HT.out]; exact h
        exact this
      clear hz
      go_enter Try.func52, Try.ntmps52
      go_wp2
      go_ret
      exact ⟨ret_bool HT.out, HF.out, World.grownBy.refl _ _⟩
    · have y1 : ((l : Int) == 0) = false := by simp; omega
      have y2 : (l == 0) = false := by simp; omega
      obtain ⟨q, rfl⟩ : ∃ q, l = q + 1 := ⟨l - 1, by omega⟩
      have y3 : ((q : Int) + 1 == 0) = false := by simp; omega
      have HT := Lib.hid (show true = (decide (0 < u + 1) && decide (0 < q + 1)) by rw [decide_eq_true (show 0 < u + 1 by omega), decide_eq_true (show 0 < q + 1 by omega)]; rfl)
      have e1 : (((u + 1 : Nat) : Int) - 1) = (u : Int) := by omega
      have e2 : (((q + 1 : Nat) : Int) - 1) = (q : Int) := by omega
      have HF := Lib.hid ((((h.set0 (u : Int)).set1 (q : Int)).set2 ((s : Int) + 1)).of (c' := ((u + 1 - (decide (0 < u + 1) && decide (0 < q + 1)).toNat : Nat) : Int)) (l' := ((q + 1 - (decide (0 < u + 1) && decide (0 < q + 1)).toNat : Nat) : Int)) (s' := ((s + (decide (0 < u + 1) && decide (0 < q + 1)).toNat : Nat) : Int)) (by rw [← HT.out]; rfl) (by rw [← HT.out]; rfl) (by rw [← HT.out]; rfl) rfl rfl rfl rfl)
      have HG := Lib.hid (grown_set (grown_set (one_grown13 w B 0 (.int .i64 (u : Int))) 1 (.int .i64 (q : Int))) 2 (.int .i64 ((s : Int) + 1)))
      clear h hz hy
      go_enter Try.func52, Try.ntmps52
      go_wp2
      go_ret
      exact ⟨ret_bool HT.out, HF.out, HG.out⟩
theorem arrives_any {w : World} {A : Option Addr} {n c t : Nat} {us : List Bool} {b : Bool} (h : Has w A n (bools us)) (hn : 1 ≤ n ∧ n ≤ 1000) (ht : t ≤ 1000000) (hb : us.getD (t % n) false = b) :
    Calls Try.prog 48 #[.slice A n c, .int .i64 (t : Int)] w fun e w' => e = .returned (.bool b) ∧ w = w' := by
  obtain ⟨r, hr⟩ : ∃ r, t % n = r := ⟨_, rfl⟩
  have hrq : r < n := by rw [← hr]; exact Nat.mod_lt _ (by omega)
  obtain ⟨bb, o, rfl, hbl, hc⟩ := has_bool h hrq
  rw [← hr, hb, hr] at hc
  have m1 : Int.tmod (t : Int) (n : Int) = (r : Int) := by rw [Int.tmod_eq_emod_of_nonneg (by omega), ← hr]; exact (Int.natCast_emod t n).symm
  have m2 : (t : Int) % (n : Int) = (r : Int) := by rw [← hr]; exact (Int.natCast_emod t n).symm
  have hqB : ((n : Int) == 0) = false := by simp; omega
  clear hr hb h
  go_enter Try.func48, Try.ntmps48
  go_wp2
  go_ret
  exact ⟨rfl, rfl⟩
theorem leave_any {w : World} {g n c t lo : Nat} {us : List Bool} {b : Bool} (h : Own w lo 4 (some ⟨g, 0, none⟩) n c (bools us)) (hn : 1 ≤ n ∧ n ≤ 1000) (ht : t ≤ 1000000) :
    Calls Try.prog 50 #[.slice (some ⟨g, 0, none⟩) n c, .int .i64 (t : Int), .bool b] w fun e w' => e = .returned (.tuple #[]) ∧ Own w' lo 4 (some ⟨g, 0, none⟩) n c (bools (us.set (t % n) b)) ∧ w.grownBy w' (some g) := by
  obtain ⟨r, hr⟩ : ∃ r, t % n = r := ⟨_, rfl⟩
  have hrq : r < n := by rw [← hr]; exact Nat.mod_lt _ (by omega)
  obtain ⟨u, hu, hd, hf⟩ := h.at_ hrq
  have m1 : Int.tmod (t : Int) (n : Int) = (r : Int) := by rw [Int.tmod_eq_emod_of_nonneg (by omega), ← hr]; exact (Int.natCast_emod t n).symm
  have m2 : (t : Int) % (n : Int) = (r : Int) := by rw [← hr]; exact (Int.natCast_emod t n).symm
  have hqB : ((n : Int) == 0) = false := by simp; omega
  have hS := h.set_ r (.bool b)
  rw [bools_set] at hS
  have HS := Lib.hid hS
  have HG := Lib.hid (one_grown13 w g r (.bool b))
  rw [hr]
  clear hr hu h hS
  go_enter Try.func50, Try.ntmps50
  go_wp2
  refine bodyPost_end (results_none rfl _ _ _) rfl ?_
  exact ⟨rfl, HS.out, HG.out⟩
end Go.Proofs.Ytkdjcfejkgpplaa
