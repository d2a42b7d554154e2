/-
  Chapter 14's program, a shaper: what is proved here is how it lies in memory, what its methods return and leave there, and that nothing else is written. Condition: numbers up to 200000.
-/
import Derived.Test.YtnloejcfakcpfaaImp14a
import Derived.Test.YtnloejcfakcpfaaDraw
import Derived.BigRegion
import Derived.StillTailTactics
namespace Go.Proofs.Ytnloejcfakcpfaa
open Go.RowKit

/-- The block B holds a shaper. -/
def ShRow (w : World) (B : Nat) (r b f : Int) : Prop := w.heap[B]? = some (.cells #[.int .i64 r, .int .i64 b, .int .i64 f] 65 (0, 0))
section
variable {w : World} {B : Nat} {r b f : Int}
theorem ShRow.lt (h : ShRow w B r b f) : B < w.heap.size := (Array.getElem?_eq_some_iff.1 h).1
theorem ShRow.cells (h : ShRow w B r b f) : w.cell? ⟨B, 0, none⟩ = some (.int .i64 r) ∧ w.cell? ⟨B, 1, none⟩ = some (.int .i64 b) ∧ w.cell? ⟨B, 2, none⟩ = some (.int .i64 f) :=
  ⟨(cell_of_row w B 0 _ _ (0, 0) h).trans rfl, (cell_of_row w B 1 _ _ (0, 0) h).trans rfl, (cell_of_row w B 2 _ _ (0, 0) h).trans rfl⟩
theorem ShRow.open_ (h : ShRow w B r b f) (i : Nat) : w.frozen? ⟨B, i, none⟩ = false := frozen_of_row w B i _ _ h
theorem ShRow.set2 (h : ShRow w B r b f) (x : Int) : ShRow (w.setCell ⟨B, 2, none⟩ (.int .i64 x)) B r b x := (heap_setCell_same w B 2 _ _ _ h).trans rfl
theorem ShRow.bel {w' : World} (h : ShRow w B r b f) (hb : Below w.heap.size w w') : ShRow w' B r b f := (hb.block B h.lt).trans h
theorem ShRow.grown {w' : World} {row : Option Nat} (h : ShRow w B r b f) (hg : w.grownBy w' row) (hne : row ≠ some B) : ShRow w' B r b f := (hg.block B h.lt (fun e => hne e.symm)).trans h
end
theorem shRow_alloc (w : World) (r b f : Int) : ShRow (w.alloc (.cells #[.int .i64 r, .int .i64 b, .int .i64 f] 65)) w.heap.size r b f := heap_alloc_new w _
theorem one_grown14 (w : World) (B k : Nat) (v : Value) : w.grownBy (w.setCell ⟨B, k, none⟩ v) (some B) := grown_set (World.grownBy.refl w (some B)) k v
theorem grown_drew14 {w w' : World} {r : Option Nat} (h : w.grownBy w' r) : w.grownBy w'.drew r := ⟨h.os, h.tape, h.output, h.size, h.block⟩
theorem drewN_grown14 (w : World) (q : Nat) (r : Option Nat) : w.grownBy (w.drewN q) r := ⟨rfl, rfl, rfl, Nat.le_refl _, fun _ _ _ => rfl⟩
theorem shRow_drewN {w : World} {B : Nat} {r b f : Int} (h : ShRow w B r b f) (m : Nat) : ShRow (w.drewN m) B r b f := h
theorem drew_one (w : World) : w.drew = w.drewN 1 := rfl
theorem mul_bound {r t : Int} (hr : 1 ≤ r ∧ r ≤ 20) (ht : 0 ≤ t ∧ t ≤ 6000) : 0 ≤ r * t ∧ r * t ≤ 120000 :=
  ⟨Int.mul_nonneg (by omega) ht.1, by have := Int.mul_le_mul hr.2 ht.2 ht.1 (by omega); omega⟩

set_option maxHeartbeats 2000000 in
theorem tokens_any {w : World} {B : Nat} {r b f t v : Int} (h : ShRow w B r b f) (hr : 1 ≤ r ∧ r ≤ 20) (hb : 1 ≤ b ∧ b ≤ 100) (hf : 0 ≤ f ∧ f ≤ 200000) (ht : 0 ≤ t ∧ t ≤ 6000) (hv : tok r b f t = v) :
    Calls Try.prog 60 #[.pointer (some ⟨B, 0, none⟩), .int .i64 t] w fun e w' => e = .returned (.int .i64 v) ∧ ∃ m, w' = w.drewN m := by
  obtain ⟨c0, c1, c2⟩ := h.cells
  have q := mul_bound hr ht
  obtain ⟨x, hx⟩ : ∃ x, r * t = x := ⟨_, rfl⟩
  obtain ⟨y, hy⟩ : ∃ y, f - x = y := ⟨_, rfl⟩
  obtain ⟨z, hz⟩ : ∃ z, max 0 y = z := ⟨_, rfl⟩
  rw [hx] at q
  have w1 : IntKind.i64.wrap (r * t) = x := by rw [hx]; exact IntWalk.i64_in _ (by omega)
  have w2 : IntKind.i64.wrap (f - x) = y := by rw [hy]; exact IntWalk.i64_in _ (by omega)
  have w3 : IntKind.i64.wrap (b - z) = b - z := IntWalk.i64_in _ (by omega)
  have n1 : -9223372036854775808 ≤ b - z := by omega
  have n2 : b - z ≤ 9223372036854775807 := by omega
  have HV := Lib.hid (show b - z = v by rw [← hv, ← hz, ← hy, ← hx]; rfl)
  have HZ := Lib.hid hz
  clear hx hy hv q hr hf ht hb
  go_enter Try.func60, Try.ntmps60
  go_wp2
  go_region
  all_goals
    go_wp2
    go_ret
    exact ⟨ret_int HV.out, 1, rfl⟩
set_option maxHeartbeats 2000000 in
theorem shTake_any {w : World} {B : Nat} {r b f t m v : Int} (h : ShRow w B r b f) (hr : 1 ≤ r ∧ r ≤ 20) (hf : 0 ≤ f ∧ f ≤ 200000) (ht : 0 ≤ t ∧ t ≤ 6000) (hm : 0 ≤ m ∧ m ≤ 50) (hv : takeF r f t m = v) :
    Calls Try.prog 68 #[.pointer (some ⟨B, 0, none⟩), .int .i64 t, .int .i64 m] w fun e w' => e = .returned (.tuple #[]) ∧ ShRow w' B r b v ∧ w.grownBy w' (some B) := by
  obtain ⟨c0, c1, c2⟩ := h.cells
  have f2 := h.open_ 2
  have q := mul_bound hr ht
  obtain ⟨x, hx⟩ : ∃ x, r * t = x := ⟨_, rfl⟩
  obtain ⟨y, hy⟩ : ∃ y, max f x = y := ⟨_, rfl⟩
  rw [hx] at q
  have w1 : IntKind.i64.wrap (r * t) = x := by rw [hx]; exact IntWalk.i64_in _ (by omega)
  have w2 : IntKind.i64.wrap (y + m) = y + m := IntWalk.i64_in _ (by omega)
  have n1 : -9223372036854775808 ≤ y + m := by omega
  have n2 : y + m ≤ 9223372036854775807 := by omega
  obtain rfl : y + m = v := by rw [← hv, ← hy, ← hx]; rfl
  have HF := Lib.hid (h.set2 (y + m))
  clear hx hv q hr hf ht hm h
  go_enter Try.func68, Try.ntmps68
  go_wp2
  go_region
  all_goals
    go_wp2
    refine bodyPost_end (results_none rfl _ _ _) rfl ?_
    exact ⟨rfl, HF.out, grown_drew14 (one_grown14 w B 2 _)⟩
set_option maxHeartbeats 2000000 in
theorem enoughAt_any {w : World} {B : Nat} {r b f t m v : Int} (h : ShRow w B r b f) (hr : 1 ≤ r ∧ r ≤ 20) (hb : 1 ≤ b ∧ b ≤ 100) (hf : 0 ≤ f ∧ f ≤ 200000) (ht : 0 ≤ t ∧ t ≤ 6000) (hm : 0 ≤ m ∧ m ≤ 50) (hv : goAt r b f t m = v) :
    Calls Try.prog 69 #[.pointer (some ⟨B, 0, none⟩), .int .i64 t, .int .i64 m] w fun e w' => e = .returned (.int .i64 v) ∧ ∃ m, w' = w.drewN m := by
  obtain ⟨k, hk⟩ : ∃ k, tok r b f t = k := ⟨_, rfl⟩
  have C := Lib.hid (tokens_any h hr hb hf ht hk)
  have q := mul_bound hr ht
  have hkb : -200000 ≤ k ∧ k ≤ 100 := by
    rw [← hk]; unfold tok; generalize r * t = x at *; omega
  obtain ⟨z, hz⟩ : ∃ z, max 0 (m - k) = z := ⟨_, rfl⟩
  have hzb : 0 ≤ z ∧ z ≤ 300000 := by omega
  obtain ⟨d, hd⟩ : ∃ d, (z + r - 1) / r = d := ⟨_, rfl⟩
  have hd2 : (z + r - 1).tdiv r = d := by rw [← hd]; exact Int.tdiv_eq_ediv_of_nonneg (by omega)
  have hdb : 0 ≤ d ∧ d ≤ 300000 := by
    rw [← hd]
    refine ⟨Int.ediv_nonneg (by omega) (by omega), ?_⟩
    have h1 : (z + r - 1) / r < z + 1 := by
      refine Int.ediv_lt_of_lt_mul (by omega) ?_
      have : z * 1 ≤ z * r := Int.mul_le_mul_of_nonneg_left hr.1 hzb.1
      rw [Int.add_mul]; omega
    omega
  obtain rfl : t + d = v := by rw [← hv, ← hd, ← hz, ← hk]; rfl
  have w1 : IntKind.i64.wrap (m - k) = m - k := IntWalk.i64_in _ (by omega)
  have w2 : IntKind.i64.wrap (z + r) = z + r := IntWalk.i64_in _ (by omega)
  have w3 : IntKind.i64.wrap (z + r - 1) = z + r - 1 := IntWalk.i64_in _ (by omega)
  have w4 : IntKind.i64.wrap d = d := IntWalk.i64_in _ (by omega)
  have w5 : IntKind.i64.wrap (t + d) = t + d := IntWalk.i64_in _ (by omega)
  have r0 : ¬ r = 0 := by omega
  obtain ⟨c0, c1, c2⟩ := h.cells
  clear hk q hkb hzb hdb hd hv hr hb hf ht hm h
  go_enter Try.func69, Try.ntmps69
  go_wp2_with (fail)
  refine C.out.mono ?_
  rintro e w' ⟨rfl, m', rfl⟩
  go_wp2
  go_region
  all_goals
    go_wp2
    go_ret
    exact ⟨rfl, m' + 1, rfl⟩
set_option maxHeartbeats 2000000 in
theorem police_any {w : World} {B : Nat} {r b f t m v : Int} {p : Bool} (h : ShRow w B r b f) (hr : 1 ≤ r ∧ r ≤ 20) (hb : 1 ≤ b ∧ b ≤ 100) (hf : 0 ≤ f ∧ f ≤ 200000) (ht : 0 ≤ t ∧ t ≤ 6000) (hm : 0 ≤ m ∧ m ≤ 50) (hp : passB r b f (t, m) = p) (hv : polF r b f (t, m) = v) :
    Calls Try.prog 56 #[.pointer (some ⟨B, 0, none⟩), .agg #[.int .i64 t, .int .i64 m]] w fun e w' => e = .returned (.bool p) ∧ ShRow w' B r b v ∧ w.grownBy w' (some B) := by
  obtain ⟨k, hk⟩ : ∃ k, tok r b f t = k := ⟨_, rfl⟩
  obtain ⟨W1, hW1⟩ : ∃ W1, w.alloc (.cells #[.int .i64 t, .int .i64 m] 29) = W1 := ⟨_, rfl⟩
  have hR : W1.heap[w.heap.size]? = some (.cells #[.int .i64 t, .int .i64 m] 29 (0, 0)) := by rw [← hW1]; exact heap_alloc_new w _
  have B1 : Below w.heap.size w W1 := by rw [← hW1]; exact below_allocJ w _
  have G1 : w.grownBy W1 (some B) := by rw [← hW1]; exact World.grownBy_alloc _ _ _
  have h1 := h.bel B1
  obtain ⟨r0, r1⟩ := cells2D hR
  have C := Lib.hid (fun j : Nat => tokens_any (w := W1.drewN j) (shRow_drewN h1 j) hr hb hf ht hk)
  have hpk : decide (m ≤ k) = p := by rw [← hp, ← hk]; rfl
  cases p with
  | true =>
    have hle : m ≤ k := of_decide_eq_true hpk
    have s1 : decide (k < m) = false := by simp; omega
    have s2 : decide (k ≥ m) = true := by simp; omega
    have hv2 : takeF r f t m = v := by rw [← hv]; unfold polF; rw [if_pos hp]
    have T := Lib.hid (fun (W : World) (hW : ShRow W B r b f) => shTake_any hW hr hf ht hm hv2)
    have HR1 := Lib.hid h1
    have HG1 := Lib.hid G1
    clear hk hpk hp hv hle hv2 hr hb hf ht hm h h1 hR B1 G1
    go_enter Try.func56, Try.ntmps56
    go_wp2
    go_quiet (first | (go_at_call 60; exact Calls.quiet_of (C.out _)))
    generalize hwy : World.drewN W1 _ = W2
    have h2 : ShRow W2 B r b f := hwy ▸ shRow_drewN HR1.out _
    have G2 : w.grownBy W2 (some B) := hwy ▸ gr_trans HG1.out (drewN_grown14 _ _ _)
    have x0 : W2.cell? ⟨w.heap.size, 0, none⟩ = some (.int .i64 t) := hwy ▸ r0
    have x1 : W2.cell? ⟨w.heap.size, 1, none⟩ = some (.int .i64 m) := hwy ▸ r1
    clear hwy
    go_wp2_with (fail)
    refine (T.out _ h2).mono ?_
    rintro e w3 ⟨rfl, h3, G3⟩
    go_wp2
    go_ret
    exact ⟨rfl, h3, gr_trans G2 G3⟩
  | false =>
    have hle : ¬ m ≤ k := of_decide_eq_false hpk
    have s1 : decide (k < m) = true := by simp; omega
    have s2 : decide (k ≥ m) = false := by simp; omega
    obtain rfl : f = v := by rw [← hv]; unfold polF; rw [if_neg (by rw [hp]; simp)]
    have HR1 := Lib.hid h1
    have HG1 := Lib.hid G1
    clear hk hpk hp hv hle hr hb hf ht hm h h1 hR B1 G1
    go_enter Try.func56, Try.ntmps56
    go_wp2
    go_quiet (first | (go_at_call 60; exact Calls.quiet_of (C.out _)))
    go_wp2
    go_ret
    exact ⟨rfl, shRow_drewN HR1.out _, gr_trans HG1.out (drewN_grown14 _ _ _)⟩
set_option maxHeartbeats 2000000 in
theorem shape_any {w : World} {B : Nat} {r b f t m u s v : Int} (h : ShRow w B r b f) (hr : 1 ≤ r ∧ r ≤ 20) (hb : 1 ≤ b ∧ b ≤ 100) (hf : 0 ≤ f ∧ f ≤ 200000) (ht : 0 ≤ t ∧ t ≤ 6000) (hu : 0 ≤ u ∧ u ≤ 6000) (hm : 0 ≤ m ∧ m ≤ 50) (hs : goAt r b f (max t u) m = s) (hsb : 0 ≤ s ∧ s ≤ 6000) (hv : takeF r f s m = v) :
    Calls Try.prog 58 #[.pointer (some ⟨B, 0, none⟩), .agg #[.int .i64 t, .int .i64 m], .int .i64 u] w fun e w' => e = .returned (.int .i64 s) ∧ ShRow w' B r b v ∧ w.grownBy w' (some B) := by
  obtain ⟨x, hx⟩ : ∃ x, max t u = x := ⟨_, rfl⟩
  obtain ⟨W1, hW1⟩ : ∃ W1, w.alloc (.cells #[.int .i64 t, .int .i64 m] 29) = W1 := ⟨_, rfl⟩
  have hR : W1.heap[w.heap.size]? = some (.cells #[.int .i64 t, .int .i64 m] 29 (0, 0)) := by rw [← hW1]; exact heap_alloc_new w _
  have B1 : Below w.heap.size w W1 := by rw [← hW1]; exact below_allocJ w _
  have G1 : w.grownBy W1 (some B) := by rw [← hW1]; exact World.grownBy_alloc _ _ _
  have h1 := h.bel B1
  obtain ⟨r0, r1⟩ := cells2D hR
  rw [hx] at hs
  have C := Lib.hid (enoughAt_any h1 hr hb hf (show 0 ≤ x ∧ x ≤ 6000 by omega) hm hs)
  have T := Lib.hid (fun (W : World) (hW : ShRow W B r b f) => shTake_any hW hr hf hsb hm hv)
  have HR1 := Lib.hid h1
  have HG1 := Lib.hid G1
  clear hs hsb hv hu hr hb hf ht hm h h1 hR B1 G1
  go_enter Try.func58, Try.ntmps58
  go_wp2_with (fail)
  refine C.out.mono ?_
  rintro e w' ⟨rfl, m', rfl⟩
  generalize hwy : World.drewN W1 m' = W2
  have h2 : ShRow W2 B r b f := hwy ▸ shRow_drewN HR1.out _
  have G2 : w.grownBy W2 (some B) := hwy ▸ gr_trans HG1.out (drewN_grown14 _ _ _)
  have x0 : W2.cell? ⟨w.heap.size, 0, none⟩ = some (.int .i64 t) := hwy ▸ r0
  have x1 : W2.cell? ⟨w.heap.size, 1, none⟩ = some (.int .i64 m) := hwy ▸ r1
  clear hwy
  go_wp2_with (fail)
  refine (T.out _ h2).mono ?_
  rintro e w3 ⟨rfl, h3, G3⟩
  go_wp2
  go_ret
  exact ⟨rfl, h3, gr_trans G2 G3⟩
end Go.Proofs.Ytnloejcfakcpfaa
