/-
  Chapter 13's model, what may be: what is proved here is how the answer of a run lies in memory, and what the model's smaller functions return, and that they write nothing that was there. Condition: lengths up to 2^24.
-/
import Derived.Test.YtkdjcfejkgpplaaBools
import Derived.Test.YtkdjcfejkgpplaaPar
import Derived.Test.YtkdjcfejkgpplaaMathCred
namespace Go.Proofs.Ytkdjcfejkgpplaa
open Go.RowKit

/-- The block R holds what came of frames. -/
def CrRow (w : World) (R : Nat) (s k m t : Int) (f : Bool) : Prop := w.heap[R]? = some (.cells #[.int .i64 s, .int .i64 k, .int .i64 m, .int .i64 t, .bool f] 27 (0, 0))
section
variable {w : World} {R : Nat} {s k m t : Int} {f : Bool}
theorem CrRow.lt (h : CrRow w R s k m t f) : R < w.heap.size := (Array.getElem?_eq_some_iff.1 h).1
theorem CrRow.cells (h : CrRow w R s k m t f) : w.cell? ⟨R, 0, none⟩ = some (.int .i64 s) ∧ w.cell? ⟨R, 1, none⟩ = some (.int .i64 k) ∧ w.cell? ⟨R, 2, none⟩ = some (.int .i64 m) ∧ w.cell? ⟨R, 3, none⟩ = some (.int .i64 t) ∧ w.cell? ⟨R, 4, none⟩ = some (.bool f) :=
  ⟨(cell_of_row w R 0 _ _ (0, 0) h).trans rfl, (cell_of_row w R 1 _ _ (0, 0) h).trans rfl, (cell_of_row w R 2 _ _ (0, 0) h).trans rfl, (cell_of_row w R 3 _ _ (0, 0) h).trans rfl, (cell_of_row w R 4 _ _ (0, 0) h).trans rfl⟩
theorem CrRow.open_ (h : CrRow w R s k m t f) (i : Nat) : w.frozen? ⟨R, i, none⟩ = false := frozen_of_row w R i _ _ h
theorem CrRow.sent (h : CrRow w R s k m t f) (x : Int) : CrRow (w.setCell ⟨R, 0, none⟩ (.int .i64 x)) R x k m t f := (heap_setCell_same w R 0 _ _ _ h).trans rfl
theorem CrRow.taken (h : CrRow w R s k m t f) (x : Int) : CrRow (w.setCell ⟨R, 1, none⟩ (.int .i64 x)) R s x m t f := (heap_setCell_same w R 1 _ _ _ h).trans rfl
theorem CrRow.most (h : CrRow w R s k m t f) (x : Int) : CrRow (w.setCell ⟨R, 2, none⟩ (.int .i64 x)) R s k x t f := (heap_setCell_same w R 2 _ _ _ h).trans rfl
theorem CrRow.slots (h : CrRow w R s k m t f) (x : Int) : CrRow (w.setCell ⟨R, 3, none⟩ (.int .i64 x)) R s k m x f := (heap_setCell_same w R 3 _ _ _ h).trans rfl
theorem CrRow.done (h : CrRow w R s k m t f) (x : Bool) : CrRow (w.setCell ⟨R, 4, none⟩ (.bool x)) R s k m t x := (heap_setCell_same w R 4 _ _ _ h).trans rfl
theorem CrRow.put (h : CrRow w R s k m t f) (s' k' m' t' : Int) (f' : Bool) : CrRow (((((w.setCell ⟨R, 0, none⟩ (.int .i64 s')).setCell ⟨R, 1, none⟩ (.int .i64 k')).setCell ⟨R, 2, none⟩ (.int .i64 m')).setCell ⟨R, 3, none⟩ (.int .i64 t')).setCell ⟨R, 4, none⟩ (.bool f')) R s' k' m' t' f' := ((((h.sent s').taken k').most m').slots t').done f'
theorem CrRow.bel {w' : World} (h : CrRow w R s k m t f) (hb : Below w.heap.size w w') : CrRow w' R s k m t f := (hb.block R h.lt).trans h
theorem CrRow.grown {w' : World} {row : Option Nat} (h : CrRow w R s k m t f) (hg : w.grownBy w' row) (hne : row ≠ some R) : CrRow w' R s k m t f := (hg.block R h.lt (fun e => hne e.symm)).trans h
theorem CrRow.keep {w' : World} (h : CrRow w R s k m t f) (he : w'.heap[R]? = w.heap[R]?) : CrRow w' R s k m t f := he.trans h
end
theorem crRow_alloc (w : World) (s k m t : Int) (f : Bool) : CrRow (w.alloc (.cells #[.int .i64 s, .int .i64 k, .int .i64 m, .int .i64 t, .bool f] 27)) w.heap.size s k m t f := heap_alloc_new w _
theorem below_alloc13 (w : World) (o : Obj) : Below w.heap.size w (w.alloc o) := (Below.refl _ _).alloc (Nat.le_refl _) _
theorem put_below {w w' : World} {B R : Nat} (h : Below B w w') (hR : B ≤ R) (s k m t : Int) (f : Bool) : Below B w (((((w'.setCell ⟨R, 0, none⟩ (.int .i64 s)).setCell ⟨R, 1, none⟩ (.int .i64 k)).setCell ⟨R, 2, none⟩ (.int .i64 m)).setCell ⟨R, 3, none⟩ (.int .i64 t)).setCell ⟨R, 4, none⟩ (.bool f)) :=
  ((((h.setCell hR _).setCell hR _).setCell hR _).setCell hR _).setCell hR _
theorem one_grown13 (w : World) (B k : Nat) (v : Value) : w.grownBy (w.setCell ⟨B, k, none⟩ v) (some B) :=
  ⟨rfl, rfl, rfl, by simp, fun i _ hi => heap_setCell_other w ⟨B, k, none⟩ i v (fun e => hi (by simp [e]))⟩
/-- A row of ints is no block of another type. -/
theorem own_not13 {W : World} {lo n c B : Nat} {A : Option Addr} {e t : TypeId} {xs : List Value} {fz : Nat × Nat} {cs : Array Value} (h : Own W lo e A n c xs) (hB : W.heap[B]? = some (.cells cs t fz)) (ht : t ≠ e) : A.map (·.block) ≠ some B := by
  intro e
  cases A with
  | none => cases e
  | some a =>
    have e2 : a.block = B := by simpa using e
    rcases h.2 with ⟨hv, _⟩ | ⟨g, cap, cur, hv, _, hgb, _⟩
    · cases hv
    · injection hv with hA _ _
      injection hA with hA
      subst hA
      have : g = B := e2
      subst this
      rw [hB] at hgb
      injection hgb with hgb
      injection hgb with _ ht2
      exact ht ht2
theorem own_set13 {W : World} {lo n c R : Nat} {A : Option Addr} {e t : TypeId} {xs : List Value} {cs : Array Value} {fz : Nat × Nat} (k : Own W lo e A n c xs) (r : W.heap[R]? = some (.cells cs t fz)) (ht : t ≠ e) (i : Nat) (v : Value) : Own (W.setCell ⟨R, i, none⟩ v) lo e A n c xs :=
  k.grown (one_grown13 W R i v) (fun a ha e => own_not13 k r ht (by rw [ha]; exact e))
/-- A run, as a value. -/
def crV (r : CR) : Value := .agg #[.int .i64 (r.s : Int), .int .i64 (r.k : Int), .int .i64 (r.m : Int), .int .i64 (r.t : Int), .bool r.f]
theorem ret_cr {s k m t : Int} {f : Bool} {r : CR} (e1 : s = r.s) (e2 : k = r.k) (e3 : m = r.m) (e4 : t = r.t) (e5 : f = r.f) : Ending.returned (.agg #[.int .i64 s, .int .i64 k, .int .i64 m, .int .i64 t, .bool f]) = .returned (crV r) := by unfold crV; rw [e1, e2, e3, e4, e5]
/-- A variable's struct and a value behind it, as results. -/
theorem results_row_tmp13 {P : Program} {fn : Func} {p u : Tmp} {ty : TypeId} (h : fn.results = #[.cell p ty, .tmp u]) (tmps : Array Value) (w : World) (g : Nat) (t : TypeId) (cs : Array Value) (fr : Nat × Nat) (d : TypeDesc)
    (hp : tmps.getD p undef = .pointer (some ⟨g, 0, none⟩)) (hg : w.heap[g]? = some (.cells cs t fr))
    (hu : P.underlying ty = some d) (hd : (match d with | .struct _ | .array _ _ => true | _ => false) = true) (hi : (P.info? ty).map (·.size) = some cs.size) :
    (results fn tmps).run P w = .ok (.tuple #[.agg cs, tmps.getD u undef]) w := by
  rw [results_cell_tmp h]
  have hp' : tmps[p]?.getD undef = .pointer (some ⟨g, 0, none⟩) := by simpa using hp
  simp [hp', asAddr, run_loadVar_row w g t ty cs fr d hg hu hd hi, Result.andThen]
/-- 'make([]T, n)', in a block of its own. -/
theorem wpList_make13 {P : Program} (w : World) {ops : Array Oper} {rest : List Oper} {o : Oper} {a : Act} {Q : Exit → Act → World → Prop}
    (hg : o.guard = none) (l c : Operand) (t : TypeId) (hop : o.op = Op.makeSlice t l c)
    (base : Nat) (e : TypeId) (i : TypeInfo) (z : Value) (size : Nat) (h1 : P.underlying t = some (.slice e)) (h2 : P.info? e = some i) (h3 : i.zero = some z) (h4 : i.size = size)
    (kl kc : IntKind) (L C : Int) (n : Nat) (hl : a.eval l = .int kl L) (hc : a.eval c = .int kc C) (hL : L = (n : Int)) (hC : C = (n : Int)) (b2 : i.bytes * n ≤ 281474976710656) (b3 : n ≤ maxLen) (b4 : base ≤ w.heap.size)
    (hK : ∀ g w', w.heap.size ≤ g → w'.ownsRow base e size (.slice (some ⟨g, 0, none⟩) n n) n (madeCells z.cells (n * size)).toList → w.grownBy w' none → wpList P ops Q rest (a.put o.dst (.slice (some ⟨g, 0, none⟩) n n)) w') :
    wpList P ops Q (o :: rest) a w :=
  wpList_make_full w hg l c t hop base e i z size h1 h2 h3 h4 kl kc L C n hl hc hL hC b2 b3 b4 (fun w' q1 q2 => hK _ w' (Nat.le_refl _) q1 q2)
theorem ints_get13 {k : IntKind} {zs : List Int} {i : Nat} {z : Int} (h : zs[i]? = some z) : (ints k zs)[i]? = some (.int k z) := by
  unfold ints
  rw [List.getElem?_map, h]; rfl
theorem zeros13 (k : Nat) : (madeCells (Value.cells (.int .i64 0)) (k * 1)).toList = ints .i64 (arrF (fun _ => false) k) := by
  rw [Nat.mul_one, show Value.cells (.int .i64 0) = #[.int .i64 0] from rfl, arrF_none]
  simp only [ints, List.map_replicate]
  exact toList_madeCells_one _ _

theorem all_take13 {ds : List Int} {k : Nat} {z : Int} (h : ∀ x ∈ ds.take k, x = 0 ∨ x = 1) (hx : ds[k]? = some z) (hz : z = 0 ∨ z = 1) : ∀ x ∈ ds.take (k + 1), x = 0 ∨ x = 1 := by
  intro x hm
  rw [List.take_add_one, hx] at hm
  rcases List.mem_append.1 hm with hm | hm
  · exact h x hm
  · simp at hm; subst hm; exact hz
theorem some_take13 {ds : List Int} {k : Nat} {z : Int} (hx : ds[k]? = some z) : decide ((1 : Int) ∈ ds.take (k + 1)) = (decide ((1 : Int) ∈ ds.take k) || (z == 1)) := by
  rw [List.take_add_one, hx]
  by_cases h : (1 : Int) ∈ ds.take k
  · simp [h]
  · by_cases h2 : z = 1
    · simp [h2]
    · have : ¬ (1 : Int) = z := fun e => h2 e.symm
      simp [h, h2, this]
set_option maxHeartbeats 2000000 in
theorem l13Drain_b {A : Option Addr} {n c : Nat} {ds : List Int} {w : World} {b : Bool} (h : Has w A n (ints .i64 ds)) (hn : n ≤ 16777216) (hb : decide (drainOk ds) = b) :
    Calls Try.prog 41 #[.slice A n c] w fun e w' => e = .returned (.bool b) ∧ w = w' := by
  have HL := Lib.hid h.len
  have HB := Lib.hid hb
  clear hb
  go_enter Try.func41, Try.ntmps41
  go_wp2
  go_loop [3, 4] (fun v i => ∃ (k : Nat) (s : Bool), k ≤ n ∧ i = .int .i64 (k : Int) ∧ v = .bool s ∧ Hid (decide ((1 : Int) ∈ ds.take k) = s) ∧ Hid (∀ f ∈ ds.take k, f = 0 ∨ f = 1)) (fun _ i => n - (intOf i).toNat)
  case atStart =>
    have H1 : Hid (decide ((1 : Int) ∈ ds.take 0) = false) := by
      have : decide ((1 : Int) ∈ ds.take 0) = false := by simp
      exact this
    have H2 : Hid (∀ f ∈ ds.take 0, f = 0 ∨ f = 1) := fun f hf => by simp at hf
    exact ⟨0, false, Nat.zero_le _, rfl, rfl, H1, H2⟩
  case round =>
    obtain ⟨k, s, hk, rfl, rfl, HS, HF⟩ := hrel
    by_cases hlt : k < n
    · have hltB : decide ((k : Int) < (n : Int)) = true := by simp; omega
      obtain ⟨bb, o, z, rfl, hbl, hx, hc⟩ := h.at_ hlt
      by_cases hz : z = 0 ∨ z = 1
      · have HF2 := Lib.hid (all_take13 HF.out hx hz)
        have HS2 := Lib.hid (some_take13 hx)
        rw [HS.out] at HS2
        have C := Lib.hid (l1In_yes z 0 1 w (by omega) (by omega))
        clear hx hz
        cases s with
        | true =>
          have HS3 : Hid (decide ((1 : Int) ∈ ds.take (k + 1)) = true) := by have h1 := HS2.out; rw [Bool.true_or] at h1; exact h1
          go_wp2_with (fail)
          refine C.out.mono ?_
          rintro e w' ⟨rfl, rfl⟩
          go_wp2
          go_round
          case rel => exact ⟨k + 1, true, by omega, by go_num, rfl, HS3, HF2⟩
          case measure => simp [intOf]; omega
        | false =>
          obtain ⟨y, hy⟩ : ∃ y, (z == 1) = y := ⟨_, rfl⟩
          have HS3 : Hid (decide ((1 : Int) ∈ ds.take (k + 1)) = y) := by have h1 := HS2.out; rw [Bool.false_or, hy] at h1; exact h1
          go_wp2_with (fail)
          refine C.out.mono ?_
          rintro e w' ⟨rfl, rfl⟩
          go_wp2
          go_round
          case rel => exact ⟨k + 1, y, by omega, by go_num, rfl, HS3, HF2⟩
          case measure => simp [intOf]; omega
      · have HE := Lib.hid (show decide (drainOk ds) = false from decide_eq_false fun hh => hz (hh.1 _ (List.mem_of_getElem? hx)))
        have C := Lib.hid (l1In_no z 0 1 w (by omega))
        clear hx hz
        go_wp2_with (fail)
        refine C.out.mono ?_
        rintro e w' ⟨rfl, rfl⟩
        go_wp2
        go_ret
        exact ⟨ret_bool (HE.out.symm.trans HB.out), rfl⟩
    · have hltB : decide ((k : Int) < (n : Int)) = false := by simp; omega
      obtain rfl : k = n := by omega
      have e1 : ds.take k = ds := List.take_of_length_le (by rw [HL.out]; omega)
      have HS1 := Lib.hid (show decide ((1 : Int) ∈ ds) = s by have h1 := HS.out; rwa [e1] at h1)
      have HF1 := Lib.hid (show ∀ f ∈ ds, f = 0 ∨ f = 1 by have h1 := HF.out; rwa [e1] at h1)
      clear HS HF e1
      cases s with
      | false =>
        have HE := Lib.hid (show decide (drainOk ds) = false from decide_eq_false fun hh => of_decide_eq_false HS1.out hh.2.1)
        go_wp2
        go_ret
        exact ⟨ret_bool (HE.out.symm.trans HB.out), rfl⟩
      | true =>
        by_cases h1 : k ≤ 100
        · have b1 : decide ((k : Int) ≤ 100) = true := by simp; omega
          have HE := Lib.hid (show decide (drainOk ds) = true from decide_eq_true ⟨HF1.out, of_decide_eq_true HS1.out, by have := HL.out; omega⟩)
          go_wp2
          go_ret
          exact ⟨ret_bool (HE.out.symm.trans HB.out), rfl⟩
        · have b1 : decide ((k : Int) ≤ 100) = false := by simp; omega
          have HE := Lib.hid (show decide (drainOk ds) = false from decide_eq_false fun hh => h1 (by have h2 := hh.2.2; have := HL.out; omega))
          go_wp2
          go_ret
          exact ⟨ret_bool (HE.out.symm.trans HB.out), rfl⟩
theorem l13Fits_b {a d m : Int} {w : World} {b : Bool} (hb : decide (fitsOk a d m) = b) :
    Calls Try.prog 40 #[.int .i64 a, .int .i64 d, .int .i64 m] w fun e w' => e = .returned (.bool b) ∧ w = w' := by
  subst hb
  by_cases h1 : 1 ≤ a ∧ a ≤ 40
  · have C1 := Lib.hid (l1In_yes a 1 40 w h1.1 h1.2)
    by_cases h2 : 1 ≤ d ∧ d ≤ 12
    · have C2 := Lib.hid (l1In_yes d 1 12 w h2.1 h2.2)
      by_cases h3 : 0 ≤ m ∧ m ≤ 500
      · have C3 := Lib.hid (l1In_yes m 0 500 w h3.1 h3.2)
        have HE := Lib.hid (show decide (fitsOk a d m) = true from decide_eq_true ⟨h1, h2, h3⟩)
        clear h1 h2 h3
        go_enter Try.func40, Try.ntmps40
        go_wp2_with (fail)
        refine C1.out.mono ?_
        rintro e w' ⟨rfl, rfl⟩
        go_wp2_with (fail)
        refine C2.out.mono ?_
        rintro e w' ⟨rfl, rfl⟩
        go_wp2_with (fail)
        refine C3.out.mono ?_
        rintro e w' ⟨rfl, rfl⟩
        go_wp2
        go_ret
        exact ⟨ret_bool HE.out.symm, rfl⟩
      · have C3 := Lib.hid (l1In_no m 0 500 w h3)
        have HE := Lib.hid (show decide (fitsOk a d m) = false from decide_eq_false fun hh => h3 hh.2.2)
        clear h1 h2 h3
        go_enter Try.func40, Try.ntmps40
        go_wp2_with (fail)
        refine C1.out.mono ?_
        rintro e w' ⟨rfl, rfl⟩
        go_wp2_with (fail)
        refine C2.out.mono ?_
        rintro e w' ⟨rfl, rfl⟩
        go_wp2_with (fail)
        refine C3.out.mono ?_
        rintro e w' ⟨rfl, rfl⟩
        go_wp2
        go_ret
        exact ⟨ret_bool HE.out.symm, rfl⟩
    · have C2 := Lib.hid (l1In_no d 1 12 w h2)
      have HE := Lib.hid (show decide (fitsOk a d m) = false from decide_eq_false fun hh => h2 hh.2.1)
      clear h1 h2
      go_enter Try.func40, Try.ntmps40
      go_wp2_with (fail)
      refine C1.out.mono ?_
      rintro e w' ⟨rfl, rfl⟩
      go_wp2_with (fail)
      refine C2.out.mono ?_
      rintro e w' ⟨rfl, rfl⟩
      go_wp2
      go_ret
      exact ⟨ret_bool HE.out.symm, rfl⟩
  · have C1 := Lib.hid (l1In_no a 1 40 w h1)
    have HE := Lib.hid (show decide (fitsOk a d m) = false from decide_eq_false fun hh => h1 hh.1)
    clear h1
    go_enter Try.func40, Try.ntmps40
    go_wp2_with (fail)
    refine C1.out.mono ?_
    rintro e w' ⟨rfl, rfl⟩
    go_wp2
    go_ret
    exact ⟨ret_bool HE.out.symm, rfl⟩
theorem specRoomFor_any {d : Int} {w : World} :
    Calls Try.prog 21 #[.int .i64 d] w fun e w' => e = .returned (.int .i64 (roomI d)) ∧ w = w' := by
  by_cases h : 1 ≤ d ∧ d ≤ 12
  · have C := Lib.hid (l1In_yes d 1 12 w h.1 h.2)
    have HE := Lib.hid (show roomI d = 2 * d from if_pos h)
    have w1 : IntKind.i64.wrap (2 * d) = 2 * d := IntWalk.i64_in _ (by omega)
    clear h
    go_enter Try.func21, Try.ntmps21
    go_wp2_with (fail)
    refine C.out.mono ?_
    rintro e w' ⟨rfl, rfl⟩
    go_wp2
    go_ret
    exact ⟨ret_int HE.out.symm, rfl⟩
  · have C := Lib.hid (l1In_no d 1 12 w h)
    have HE := Lib.hid (show roomI d = -1 from if_neg h)
    clear h
    go_enter Try.func21, Try.ntmps21
    go_wp2_with (fail)
    refine C.out.mono ?_
    rintro e w' ⟨rfl, rfl⟩
    go_wp2
    go_ret
    exact ⟨ret_int HE.out.symm, rfl⟩
end Go.Proofs.Ytkdjcfejkgpplaa
