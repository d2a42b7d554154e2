/-
  Chapter 12's program, the next job of a line and of a class in turn: what is proved here is what isEmpty, take, gain and do return, and what they write. Condition: credits up to 89, sizes from 1 to 9.
-/
import Derived.Test.YtpofkkenbepjpaaImp12c
import Derived.Laws.ResultCell
namespace Go.Proofs.Ytpofkkenbepjpaa
open Go.RowKit

/-- A variable's struct and a value behind it, as results. -/
theorem results_duo_tmp {P : Program} {fn : Func} {p u : Tmp} {ty : TypeId} (h : fn.results = #[.cell p ty, .tmp u]) (tmps : Array Value) (w : World) (g : Nat) (t : TypeId) (cs : Array Value) (fr : Nat × Nat) (d : TypeDesc)
    (hp : tmps.getD p undef = .pointer (some ⟨g, 0, none⟩)) (hg : w.heap[g]? = some (.cells cs t fr))
    (hu : P.underlying ty = some d) (hd : (match d with | .struct _ | .array _ _ => true | _ => false) = true) (hi : (P.info? ty).map (·.size) = some cs.size) :
    (results fn tmps).run P w = .ok (.tuple #[.agg cs, tmps.getD u undef]) w := by
  rw [results_cell_tmp h]
  have hp' : tmps[p]?.getD undef = .pointer (some ⟨g, 0, none⟩) := by simpa using hp
  simp [hp', asAddr, run_loadVar_row w g t ty cs fr d hg hu hd hi, Result.andThen]
theorem HasD.tail {w : World} {b o n : Nat} {j : Duo} {l : List Duo} (h : HasD w (some ⟨b, o, none⟩) (n + 1) (j :: l)) : HasD w (some ⟨b, o + 2, none⟩) n l := by
  refine ⟨by have := h.1; simpa using this, fun i hi => ?_⟩
  obtain ⟨b', o', x, hA, hx, c0, c1⟩ := h.2 (i + 1) (by omega)
  injection hA with hA
  injection hA with e1 e2
  subst e1 e2
  exact ⟨b, o + 2, x, rfl, by simpa using hx, by rw [show o + 2 + i * 2 = o + (i + 1) * 2 by omega]; exact c0, by rw [show o + 2 + i * 2 + 1 = o + (i + 1) * 2 + 1 by omega]; exact c1⟩
theorem HasD.keep {w w' : World} {A : Option Addr} {n : Nat} {hs : List Duo} (h : HasD w A n hs) (hk : ∀ b o, A = some ⟨b, o, none⟩ → 0 < n → w'.heap[b]? = w.heap[b]?) : HasD w' A n hs :=
  ⟨h.1, fun i hi => by
    obtain ⟨b, o, x, hA, hx, c0, c1⟩ := h.2 i hi
    have e := hk b o hA (by omega)
    exact ⟨b, o, x, hA, hx, (World.cell?_of_block (show w'.heap[(⟨b, o + i * 2, none⟩ : Addr).block]? = w.heap[(⟨b, o + i * 2, none⟩ : Addr).block]? from e)).trans c0, (World.cell?_of_block (show w'.heap[(⟨b, o + i * 2 + 1, none⟩ : Addr).block]? = w.heap[(⟨b, o + i * 2 + 1, none⟩ : Addr).block]? from e)).trans c1⟩⟩

theorem isEmpty_any {A : Option Addr} {n c : Nat} (w : World) :
    Calls Try.prog 70 #[.slice A n c] w fun e w' => e = .returned (.bool (decide (n = 0))) ∧ w = w' := by
  by_cases h : n = 0
  · have b1 : ((n : Int) == 0) = true := by simp [h]
    rw [decide_eq_true h]
    clear h
    go_enter Try.func70, Try.ntmps70
    go_wp2
    go_ret
    exact ⟨rfl, rfl⟩
  · have b1 : ((n : Int) == 0) = false := by simp; omega
    rw [decide_eq_false h]
    clear h
    go_enter Try.func70, Try.ntmps70
    go_wp2
    go_ret
    exact ⟨rfl, rfl⟩
theorem isEmpty_yes {A : Option Addr} {c : Nat} (w : World) : Calls Try.prog 70 #[.slice A 0 c] w fun e w' => e = .returned (.bool true) ∧ w = w' := isEmpty_any w
theorem isEmpty_no {A : Option Addr} {n c : Nat} (w : World) : Calls Try.prog 70 #[.slice A (n + 1) c] w fun e w' => e = .returned (.bool false) ∧ w = w' := by
  have := isEmpty_any (A := A) (n := n + 1) (c := c) w
  rwa [decide_eq_false (by omega)] at this
set_option maxHeartbeats 2000000 in
theorem take_none {A : Option Addr} {B o c : Nat} {w : World} (hc : w.cell? ⟨B, o, none⟩ = some (.slice A 0 c)) :
    Calls Try.prog 72 #[.pointer (some ⟨B, o, none⟩)] w fun e w' => e = .returned (.tuple #[.agg #[.int .i64 0, .int .i64 0], .bool false]) ∧ w' = w.alloc (.cells #[.int .i64 0, .int .i64 0] 86) := by
  have hBl : B < w.heap.size := World.block_lt_of_cell? w ⟨B, o, none⟩ hc
  have CE := Lib.hid (fun W => isEmpty_any (A := A) (n := 0) (c := c) W)
  go_enter Try.func72, Try.ntmps72
  go_wp2_with (fail)
  refine (CE.out _).mono ?_
  rintro e w' ⟨rfl, rfl⟩
  go_wp2
  refine bodyPost_ret (results_duo_tmp rfl _ _ _ _ _ _ _ rfl (heap_alloc_new w (.cells #[.int .i64 0, .int .i64 0] 86)) Try.underlying86 rfl (by kernel_rfl)) rfl ?_
  exact ⟨rfl, rfl⟩
set_option maxHeartbeats 2000000 in
theorem take_some {b f B o n c : Nat} {x y : Int} {w : World} (hc : w.cell? ⟨B, o, none⟩ = some (.slice (some ⟨b, f, none⟩) (n + 1) (c + 1))) (hf : w.frozen? ⟨B, o, none⟩ = false) (hn : n ≤ c) (hm : n ≤ 1000000) (c0 : w.cell? ⟨b, f, none⟩ = some (.int .i64 x)) (c1 : w.cell? ⟨b, f + 1, none⟩ = some (.int .i64 y)) :
    Calls Try.prog 72 #[.pointer (some ⟨B, o, none⟩)] w fun e w' => e = .returned (.tuple #[.agg #[.int .i64 x, .int .i64 y], .bool true]) ∧ ∃ f', (0 < n → f' = f + 2) ∧ w' = ((w.setCell ⟨B, o, none⟩ (.slice (some ⟨b, f', none⟩) n c)).alloc (.cells #[.int .i64 x, .int .i64 y] 86)).alloc (.cells #[.int .i64 x, .int .i64 y] 86) := by
  have hBl : B < w.heap.size := World.block_lt_of_cell? w ⟨B, o, none⟩ hc
  have hbl : b < w.heap.size := World.block_lt_of_cell? w ⟨b, f, none⟩ c0
  have CE := Lib.hid (fun W => isEmpty_any (A := some ⟨b, f, none⟩) (n := n + 1) (c := c + 1) W)
  have eB : decide (n + 1 = 0) = false := by simp
  have hF : ∀ f' : Nat, (((w.setCell ⟨B, o, none⟩ (.slice (some ⟨b, f', none⟩) n c)).alloc (.cells #[.int .i64 x, .int .i64 y] 86)).alloc (.cells #[.int .i64 x, .int .i64 y] 86)).heap[w.heap.size]? = some (.cells #[.int .i64 x, .int .i64 y] 86 (0, 0)) := fun f' => by
    have h1 := heap_alloc_new (w.setCell ⟨B, o, none⟩ (.slice (some ⟨b, f', none⟩) n c)) (.cells #[.int .i64 x, .int .i64 y] 86)
    have h2 : (w.setCell ⟨B, o, none⟩ (.slice (some ⟨b, f', none⟩) n c)).heap.size = w.heap.size := by simp
    rw [h2] at h1
    exact (Below.heap_alloc _ _ w.heap.size (by simp)).trans h1
  have HF := Lib.hid hF
  clear hF
  cases c with
  | zero =>
    obtain rfl : n = 0 := by omega
    go_enter Try.func72, Try.ntmps72
    go_wp2_with (fail)
    refine (CE.out _).mono ?_
    rintro e w' ⟨rfl, rfl⟩
    go_wp2
    refine bodyPost_ret (results_duo_tmp rfl _ _ _ _ _ _ _ rfl (HF.out f) Try.underlying86 rfl (by kernel_rfl)) rfl ?_
    exact ⟨rfl, f, fun h => absurd h (by omega), rfl⟩
  | succ c =>
    go_enter Try.func72, Try.ntmps72
    go_wp2_with (fail)
    refine (CE.out _).mono ?_
    rintro e w' ⟨rfl, rfl⟩
    go_wp2
    refine bodyPost_ret (results_duo_tmp rfl _ _ _ _ _ _ _ rfl (HF.out (f + 2)) Try.underlying86 rfl (by kernel_rfl)) rfl ?_
    exact ⟨rfl, f + 2, fun _ => rfl, rfl⟩

/-- A class in turn, as it lies in block B. -/
def TcAt (w : World) (B : Nat) (g k : Int) (X : Option Addr) (q c : Nat) : Prop := w.heap[B]? = some (.cells #[.int .i64 g, .int .i64 k, .slice X q c] 64 (0, 0))
theorem TcAt.lt {w : World} {B : Nat} {g k : Int} {X : Option Addr} {q c : Nat} (h : TcAt w B g k X q c) : B < w.heap.size := (Array.getElem?_eq_some_iff.1 h).1
theorem TcAt.cells {w : World} {B : Nat} {g k : Int} {X : Option Addr} {q c : Nat} (h : TcAt w B g k X q c) :
    w.cell? ⟨B, 0, none⟩ = some (.int .i64 g) ∧ w.cell? ⟨B, 1, none⟩ = some (.int .i64 k) ∧ w.cell? ⟨B, 2, none⟩ = some (.slice X q c) ∧ ∀ j, w.frozen? ⟨B, j, none⟩ = false :=
  ⟨(cell_of_row w B 0 _ _ (0, 0) h).trans rfl, (cell_of_row w B 1 _ _ (0, 0) h).trans rfl, (cell_of_row w B 2 _ _ (0, 0) h).trans rfl, fun j => frozen_of_row w B j _ _ h⟩

theorem TcAt.set1 {w : World} {B : Nat} {g k : Int} {X : Option Addr} {q c : Nat} (h : TcAt w B g k X q c) (k' : Int) : TcAt (w.setCell ⟨B, 1, none⟩ (.int .i64 k')) B g k' X q c := (heap_setCell_same w B 1 _ _ _ h).trans rfl
theorem TcAt.set2 {w : World} {B : Nat} {g k : Int} {X : Option Addr} {q c : Nat} (h : TcAt w B g k X q c) (X' : Option Addr) (q' c' : Nat) : TcAt (w.setCell ⟨B, 2, none⟩ (.slice X' q' c')) B g k X' q' c' := (heap_setCell_same w B 2 _ _ _ h).trans rfl
theorem set_grownJ (w : World) (B i : Nat) (v : Value) : w.grownBy (w.setCell ⟨B, i, none⟩ v) (some B) := grown_set (World.grownBy.refl w (some B)) i v
theorem drew_grownJ {w w' : World} {r : Option Nat} (h : w.grownBy w' r) : w.grownBy w'.drew r := ⟨h.os, h.tape, h.output, h.size, h.block⟩
theorem none_grownJ {w w' w'' : World} {r : Option Nat} (h : w.grownBy w' none) (k : w'.grownBy w'' r) : w.grownBy w'' r :=
  ⟨k.os.trans h.os, k.tape.trans h.tape, k.output.trans h.output, Nat.le_trans h.size k.size, fun i hi hn => (k.block i (Nat.lt_of_lt_of_le hi h.size) hn).trans (h.block i hi (by simp))⟩
set_option maxHeartbeats 2000000 in
theorem gain_any {B q c : Nat} {g k : Int} {X : Option Addr} {w : World} (h : TcAt w B g k X q c) (hg : 0 ≤ g ∧ g ≤ 81) (hk : 0 ≤ k ∧ k ≤ 8) :
    Calls Try.prog 68 #[.pointer (some ⟨B, 0, none⟩)] w fun e w' => e = .returned (.tuple #[]) ∧ TcAt w' B g (k + g) X q c ∧ w.grownBy w' (some B) := by
  obtain ⟨c0, c1, c2, f⟩ := h.cells
  have wS : IntKind.i64.wrap (k + g) = k + g := IntWalk.i64_in _ (by omega)
  have n1 : -9223372036854775808 ≤ k + g := by omega
  have n2 : k + g ≤ 9223372036854775807 := by omega
  go_enter Try.func68, Try.ntmps68
  go_wp2
  go_region
  all_goals
    go_wp2
    refine bodyPost_end (results_none rfl _ _ _) rfl ?_
    exact ⟨rfl, h.set1 _, drew_grownJ (set_grownJ w B 1 _)⟩
theorem new_setJ {w W : World} {r : Option Nat} {R : Nat} (h : w.grownBy W r) (hR : w.heap.size ≤ R) (i : Nat) (v : Value) : w.grownBy (W.setCell ⟨R, i, none⟩ v) r :=
  ⟨h.os, h.tape, h.output, by simpa using h.size, fun k hk hn => (heap_setCell_other W ⟨R, i, none⟩ k v (by show k ≠ R; omega)).trans (h.block k hk hn)⟩
theorem two_cellsJ {W : World} {R : Nat} {t : TypeId} {a b : Value} (h : W.heap[R]? = some (.cells #[a, b] t (0, 0))) (x y : Value) : ((W.setCell ⟨R, 0, none⟩ x).setCell ⟨R, 1, none⟩ y).heap[R]? = some (.cells #[x, y] t (0, 0)) :=
  (heap_setCell_same _ R 1 _ _ _ ((heap_setCell_same W R 0 _ _ _ h).trans rfl)).trans rfl
theorem grownJ_none {w w' w'' : World} {r : Option Nat} (h : w.grownBy w' r) (k : w'.grownBy w'' none) : w.grownBy w'' r :=
  ⟨k.os.trans h.os, k.tape.trans h.tape, k.output.trans h.output, Nat.le_trans h.size k.size, fun i hi hn => (k.block i (Nat.lt_of_lt_of_le hi h.size) (by simp)).trans (h.block i hi hn)⟩
theorem grownJ_some {w w' : World} {r : Option Nat} (h : w.grownBy w' none) : w.grownBy w' r := ⟨h.os, h.tape, h.output, h.size, fun i hi _ => h.block i hi (by simp)⟩
set_option maxHeartbeats 800000 in
theorem do_no {B q c : Nat} {g k : Int} {X : Option Addr} {l : List Duo} {w : World} (h : TcAt w B g k X q c) (hl : HasD w X q l) (hq : q ≤ 1000000) (hno : ∀ j l', l = j :: l' → ¬ j.2 ≤ k) :
    Calls Try.prog 69 #[.pointer (some ⟨B, 0, none⟩)] w fun e w' => e = .returned (.tuple #[.agg #[.int .i64 0, .int .i64 0], .bool false]) ∧ w.grownBy w' none := by
  obtain ⟨W1, hW1⟩ : ∃ W1, w.alloc (.cells #[.int .i64 0, .int .i64 0] 86) = W1 := ⟨_, rfl⟩
  have B1 : Below w.heap.size w W1 := by rw [← hW1]; exact below_allocJ w _
  have hR : W1.heap[w.heap.size]? = some (.cells #[.int .i64 0, .int .i64 0] 86 (0, 0)) := by rw [← hW1]; exact heap_alloc_new w _
  have h1 : TcAt W1 B g k X q c := (B1.block B h.lt).trans h
  have hl1 := hl.bel B1
  obtain ⟨c0, c1, c2, cf⟩ := h1.cells
  obtain ⟨r0, r1⟩ := cells2D hR
  have rf : ∀ j, W1.frozen? ⟨w.heap.size, j, none⟩ = false := fun j => frozen_of_row W1 _ j _ _ hR
  have rl : w.heap.size < W1.heap.size := (Array.getElem?_eq_some_iff.1 hR).1
  have GN : w.grownBy W1 none := by rw [← hW1]; exact World.grownBy_alloc _ _ _
  cases q with
  | zero =>
    have CE := Lib.hid (fun W => isEmpty_yes (A := X) (c := c) W)
    clear hno h hl hl1 hq B1 h1
    go_enter Try.func69, Try.ntmps69
    go_wp2
    go_quiet (first | (go_at_call 70; exact Calls.quiet_of_same ((CE.out _).mono (fun e w' hh => ⟨hh.1, hh.2.symm⟩))))
    generalize hwy : World.drewN W1 _ = W2
    have h2 : W2.heap = W1.heap ∧ W1.grownBy W2 none := hwy ▸ ⟨rfl, rfl, rfl, rfl, Nat.le_refl _, fun _ _ _ => rfl⟩
    have hR2 : W2.heap[w.heap.size]? = some (.cells #[.int .i64 0, .int .i64 0] 86 (0, 0)) := by rw [h2.1]; exact hR
    have G2 := none_grownJ GN h2.2
    obtain ⟨s0, s1⟩ := cells2D hR2
    have sf : ∀ j, W2.frozen? ⟨w.heap.size, j, none⟩ = false := fun j => frozen_of_row W2 _ j _ _ hR2
    clear hwy
    go_wp2
    refine bodyPost_ret (results_duo_tmp rfl _ _ _ _ _ _ _ rfl (two_cellsJ hR2 _ _) Try.underlying86 rfl (by kernel_rfl)) rfl ?_
    exact ⟨rfl, new_setJ (new_setJ G2 (Nat.le_refl _) _ _) (Nat.le_refl _) _ _⟩
  | succ q =>
    have CE0 := Lib.hid (fun W (A : Option Addr) => isEmpty_no (A := A) (n := q) (c := c) W)
    cases l with
    | nil => exact absurd hl.1 (by simp)
    | cons j l =>
      have hj := hno j l rfl
      obtain ⟨b, o, x, y, rfl, hbl, hx, d0, d1⟩ := hl1.at_ (i := 0) (by omega)
      have CE := Lib.hid (fun W => CE0.out W (some ⟨b, o, none⟩))
      clear CE0
      simp only [List.getElem?_cons_zero] at hx
      injection hx with hx
      subst hx
      have b1 : decide (y > k) = true := by simp at hj ⊢; omega
      have b2 : decide (k < y) = true := by simp at hj ⊢; omega
      clear hno h hl hl1 hj B1 h1
      go_enter Try.func69, Try.ntmps69
      go_wp2
      go_quiet (first | (go_at_call 70; exact Calls.quiet_of_same ((CE.out _).mono (fun e w' hh => ⟨hh.1, hh.2.symm⟩))))
      generalize hwy : World.drewN W1 _ = W2
      have h2 : W2.heap = W1.heap ∧ W1.grownBy W2 none := hwy ▸ ⟨rfl, rfl, rfl, rfl, Nat.le_refl _, fun _ _ _ => rfl⟩
      have hR2 : W2.heap[w.heap.size]? = some (.cells #[.int .i64 0, .int .i64 0] 86 (0, 0)) := by rw [h2.1]; exact hR
      have G2 := none_grownJ GN h2.2
      obtain ⟨s0, s1⟩ := cells2D hR2
      have sf : ∀ j, W2.frozen? ⟨w.heap.size, j, none⟩ = false := fun j => frozen_of_row W2 _ j _ _ hR2
      clear hwy
      go_wp2
      refine bodyPost_ret (results_duo_tmp rfl _ _ _ _ _ _ _ rfl (two_cellsJ hR2 _ _) Try.underlying86 rfl (by kernel_rfl)) rfl ?_
      exact ⟨rfl, new_setJ (new_setJ G2 (Nat.le_refl _) _ _) (Nat.le_refl _) _ _⟩
theorem take_grownJ {w : World} {B : Nat} {v : Value} {o1 o2 : Obj} : w.grownBy (((w.setCell ⟨B, 2, none⟩ v).alloc o1).alloc o2) (some B) :=
  grownJ_none (grownJ_none (set_grownJ w B 2 v) (World.grownBy_alloc _ _ _)) (World.grownBy_alloc _ _ _)
set_option maxHeartbeats 2000000 in
theorem do_yes {B q c : Nat} {g k : Int} {X : Option Addr} {j : Duo} {l : List Duo} {w : World} (h : TcAt w B g k X (q + 1) (c + 1)) (hl : HasD w X (q + 1) (j :: l)) (hq : q ≤ 1000000) (hc : q ≤ c) (hj : j.2 ≤ k) (hk : 0 ≤ k ∧ k ≤ 89) (hz : 1 ≤ j.2 ∧ j.2 ≤ 9) (hne : ∀ b o, X = some ⟨b, o, none⟩ → b ≠ B) :
    Calls Try.prog 69 #[.pointer (some ⟨B, 0, none⟩)] w fun e w' => e = .returned (.tuple #[.agg #[.int .i64 j.1, .int .i64 j.2], .bool true]) ∧ ∃ b f, TcAt w' B g (k - j.2) (some ⟨b, f, none⟩) q c ∧ HasD w' (some ⟨b, f, none⟩) q l ∧ w.grownBy w' (some B) ∧ (∃ o, X = some ⟨b, o, none⟩) := by
  obtain ⟨W1, hW1⟩ : ∃ W1, w.alloc (.cells #[.int .i64 0, .int .i64 0] 86) = W1 := ⟨_, rfl⟩
  have B1 : Below w.heap.size w W1 := by rw [← hW1]; exact below_allocJ w _
  have hR : W1.heap[w.heap.size]? = some (.cells #[.int .i64 0, .int .i64 0] 86 (0, 0)) := by rw [← hW1]; exact heap_alloc_new w _
  have h1 : TcAt W1 B g k X (q + 1) (c + 1) := (B1.block B h.lt).trans h
  have hBl := h.lt
  have hl1 := hl.bel B1
  obtain ⟨c0, c1, c2, cf⟩ := h1.cells
  have GN : w.grownBy W1 none := by rw [← hW1]; exact World.grownBy_alloc _ _ _
  obtain ⟨b, o, x, y, rfl, hbl, hx, d0, d1⟩ := hl1.at_ (i := 0) (by omega)
  simp only [List.getElem?_cons_zero] at hx
  injection hx with hx
  subst hx
  have HL0 := Lib.hid hl
  have hbB : b ≠ B := hne b o rfl
  have hbw : b < w.heap.size := by obtain ⟨b', o', _, _, hA, hb', _⟩ := hl.at_ (i := 0) (by omega); injection hA with hA; injection hA with e1 e2; omega
  have CE := Lib.hid (fun W => isEmpty_no (A := some ⟨b, o, none⟩) (n := q) (c := c + 1) W)
  simp only at hj hz
  have b1 : decide (y > k) = false := by simp; omega
  have b2 : decide (k < y) = false := by simp; omega
  have wS : IntKind.i64.wrap (k - y) = k - y := IntWalk.i64_in _ (by omega)
  have n1 : -9223372036854775808 ≤ k - y := by omega
  have n2 : k - y ≤ 9223372036854775807 := by omega
  simp only [Nat.zero_mul, Nat.add_zero] at d0 d1
  clear h hl hl1 hj hne B1
  go_enter Try.func69, Try.ntmps69
  go_wp2
  go_quiet (first | (go_at_call 70; exact Calls.quiet_of_same ((CE.out _).mono (fun e w' hh => ⟨hh.1, hh.2.symm⟩))))
  generalize hwy : World.drewN W1 _ = W2
  have h2 : W2.heap = W1.heap ∧ W1.grownBy W2 none := hwy ▸ ⟨rfl, rfl, rfl, rfl, Nat.le_refl _, fun _ _ _ => rfl⟩
  have hR2 : W2.heap[w.heap.size]? = some (.cells #[.int .i64 0, .int .i64 0] 86 (0, 0)) := by rw [h2.1]; exact hR
  have T2 : TcAt W2 B g k (some ⟨b, o, none⟩) (q + 1) (c + 1) := by unfold TcAt; rw [h2.1]; exact h1
  have G2 := none_grownJ GN h2.2
  obtain ⟨y0, y1, y2, yf⟩ := T2.cells
  have D0 : W2.cell? ⟨b, o, none⟩ = some (.int .i64 x) := (World.cell?_of_block (show W2.heap[(⟨b, o, none⟩ : Addr).block]? = W1.heap[(⟨b, o, none⟩ : Addr).block]? by rw [h2.1])).trans d0
  have D1 : W2.cell? ⟨b, o + 1, none⟩ = some (.int .i64 y) := (World.cell?_of_block (show W2.heap[(⟨b, o + 1, none⟩ : Addr).block]? = W1.heap[(⟨b, o + 1, none⟩ : Addr).block]? by rw [h2.1])).trans d1
  clear hwy c0 c1 c2 cf d0 d1 h1 hR GN hW1
  go_wp2_with (fail)
  refine (take_some y2 (yf 2) hc hq D0 D1).mono ?_
  rintro e w3 ⟨rfl, f', hf', hw3⟩
  have T3 : TcAt w3 B g k (some ⟨b, f', none⟩) q c := by
    rw [hw3]
    have t1 := T2.set2 (some ⟨b, f', none⟩) q c
    have l1 := t1.lt
    exact (Below.heap_alloc _ _ B (by simp at l1 ⊢; omega)).trans ((Below.heap_alloc _ _ B l1).trans t1)
  have G3 : W2.grownBy w3 (some B) := by rw [hw3]; exact take_grownJ
  have hRl : w.heap.size < W2.heap.size := (Array.getElem?_eq_some_iff.1 hR2).1
  have hR3 : w3.heap[w.heap.size]? = some (.cells #[.int .i64 0, .int .i64 0] 86 (0, 0)) := (G3.block w.heap.size hRl (by simp; omega)).trans hR2
  clear hw3 y0 y1 y2 yf D0 D1 T2
  obtain ⟨W4, hW4⟩ : ∃ W4, w3.alloc (.cells #[.int .i64 x, .int .i64 y] 86) = W4 := ⟨_, rfl⟩
  have G4 : w3.grownBy W4 none := by rw [← hW4]; exact World.grownBy_alloc _ _ _
  have hJ4 : W4.heap[w3.heap.size]? = some (.cells #[.int .i64 x, .int .i64 y] 86 (0, 0)) := by rw [← hW4]; exact heap_alloc_new w3 _
  have T4 : TcAt W4 B g k (some ⟨b, f', none⟩) q c := (G4.block B T3.lt (by simp)).trans T3
  have hRl3 : w.heap.size < w3.heap.size := (Array.getElem?_eq_some_iff.1 hR3).1
  have hR4 : W4.heap[w.heap.size]? = some (.cells #[.int .i64 0, .int .i64 0] 86 (0, 0)) := (G4.block w.heap.size hRl3 (by simp)).trans hR3
  obtain ⟨y0, y1, y2, yf⟩ := T4.cells
  obtain ⟨j0, j1⟩ := cells2D hJ4
  go_wp2
  (try rw [hW4])
  clear hW4
  go_region
  generalize hW5 : (W4.setCell ⟨B, 1, none⟩ (.int .i64 (k - y))).drew = W5
  have G5 : W4.grownBy W5 (some B) := hW5 ▸ drew_grownJ (set_grownJ W4 B 1 _)
  have T5 : TcAt W5 B g (k - y) (some ⟨b, f', none⟩) q c := hW5 ▸ T4.set1 _
  have hJ5 : W5.heap[w3.heap.size]? = some (.cells #[.int .i64 x, .int .i64 y] 86 (0, 0)) := (G5.block _ (Array.getElem?_eq_some_iff.1 hJ4).1 (by have := T3.lt; simp; omega)).trans hJ4
  have hR5 : W5.heap[w.heap.size]? = some (.cells #[.int .i64 0, .int .i64 0] 86 (0, 0)) := (G5.block _ (Array.getElem?_eq_some_iff.1 hR4).1 (by simp; omega)).trans hR4
  clear hW5 y0 y1 y2 yf j0 j1
  obtain ⟨j0, j1⟩ := cells2D hJ5
  obtain ⟨r0, r1⟩ := cells2D hR5
  have rf : ∀ j, W5.frozen? ⟨w.heap.size, j, none⟩ = false := fun j => frozen_of_row W5 _ j _ _ hR5
  go_wp2
  refine bodyPost_ret (results_duo_tmp rfl _ _ _ _ _ _ _ rfl (two_cellsJ hR5 _ _) Try.underlying86 rfl (by kernel_rfl)) rfl ?_
  have GA : w.grownBy W5 (some B) := gr_trans (gr_trans (gr_trans (grownJ_some G2) G3) (grownJ_some G4)) G5
  have GB := new_setJ (new_setJ GA (Nat.le_refl _) 0 (.int .i64 x)) (Nat.le_refl _) 1 (.int .i64 y)
  refine ⟨rfl, b, f', ?_, ?_, GB, o, rfl⟩
  · exact (heap_setCell_other _ ⟨w.heap.size, 1, none⟩ B _ (by show B ≠ w.heap.size; omega)).trans ((heap_setCell_other _ ⟨w.heap.size, 0, none⟩ B _ (by show B ≠ w.heap.size; omega)).trans T5)
  · by_cases h0 : 0 < q
    · rw [hf' h0]
      exact HL0.out.tail.keep (fun b' o' e _ => by injection e with e; injection e with e1 e2; subst e1; exact GB.block b hbw (by simp; exact hbB))
    · obtain rfl : q = 0 := by omega
      exact ⟨HL0.out.tail.1, fun i hi => absurd hi (by omega)⟩
end Go.Proofs.Ytpofkkenbepjpaa
