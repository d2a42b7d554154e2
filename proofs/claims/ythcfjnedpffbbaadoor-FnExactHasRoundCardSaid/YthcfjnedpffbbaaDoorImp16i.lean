/-
  Chapter 16's program, which wires wait for which: what is proved here is what wireWaitsOf returns, and that it writes nothing that was there. Conditions: at most twelve lists of wires below a hundred.
-/
import Derived.Test.YthcfjnedpffbbaaDoorImp16h
namespace Go.Proofs.YthcfjnedpffbbaaDoor
open Go.RowKit

/- An array of marks, as a function. -/
def tab (N : Nat) (f : Nat → Bool) : Array Value := ((List.range N).map fun i => Value.bool (f i)).toArray
theorem tab_size (N : Nat) (f : Nat → Bool) : (tab N f).size = N := by simp [tab]
theorem tab_at {N : Nat} (f : Nat → Bool) {i : Nat} (h : i < N) : (tab N f)[i]? = some (.bool (f i)) := by simp [tab, h]
theorem tab_set {N k : Nat} (f : Nat → Bool) (b : Bool) : (tab N f).setIfInBounds k (.bool b) = tab N (upd f k b) := by
  apply Array.ext_getElem?
  intro i
  rw [Array.getElem?_setIfInBounds]
  by_cases hi : i < N
  · rw [tab_at _ hi, tab_at _ hi, tab_size]
    by_cases e : k = i
    · subst e; rw [if_pos rfl, if_pos hi, upd_self]
    · rw [if_neg e, upd_ne _ _ (fun h => e h.symm)]
  · rw [Array.getElem?_eq_none (by rw [tab_size]; omega), Array.getElem?_eq_none (by rw [tab_size]; omega), tab_size]
    split
    · rw [if_neg (by omega)]
    · rfl
theorem tab_false (N : Nat) : Array.replicate N (Value.bool false) = tab N (fun _ => false) := by
  apply Array.ext_getElem?
  intro i
  by_cases hi : i < N
  · rw [tab_at _ hi]; simp [hi]
  · rw [Array.getElem?_eq_none (by rw [Array.size_replicate]; omega), Array.getElem?_eq_none (by rw [tab_size]; omega)]
theorem tab_one (N : Nat) (f : Nat → Bool) : (tab N f).all (·.oneCell') = true := by
  rw [Array.all_eq_true_iff_forall_mem]
  intro x hx
  simp [tab] at hx
  obtain ⟨i, _, rfl⟩ := hx
  rfl
def TabAt (w : World) (g : Nat) (f : Nat → Bool) : Prop := w.heap[g]? = some (.cells (tab 10000 f) 77 (0, 0))
theorem TabAt.lt {w : World} {g : Nat} {f : Nat → Bool} (h : TabAt w g f) : g < w.heap.size := (Array.getElem?_eq_some_iff.1 h).1
theorem TabAt.cell {w : World} {g : Nat} {f : Nat → Bool} (h : TabAt w g f) {i : Nat} (hi : i < 10000) : w.cell? ⟨g, i, none⟩ = some (.bool (f i)) := (cell_of_row w g i _ _ _ h).trans (tab_at f hi)
theorem TabAt.open_ {w : World} {g : Nat} {f : Nat → Bool} (h : TabAt w g f) (i : Nat) : w.frozen? ⟨g, i, none⟩ = false := frozen_of_row w g i _ _ h
theorem TabAt.put {w : World} {g : Nat} {f : Nat → Bool} (h : TabAt w g f) (k : Nat) (b : Bool) : TabAt (w.setCell ⟨g, k, none⟩ (.bool b)) g (upd f k b) :=
  (heap_setCell_same w g k _ _ _ h).trans (by rw [tab_set])
theorem TabAt.past {w : World} {g s : Nat} {f : Nat → Bool} (h : TabAt w g f) (hne : s ≠ g) (k : Nat) (v : Value) : TabAt (w.setCell ⟨s, k, none⟩ v) g f :=
  (heap_setCell_other w ⟨s, k, none⟩ g v (fun e => hne e.symm)).trans h
theorem TabAt.bel {w w' : World} {g : Nat} {f : Nat → Bool} (h : TabAt w g f) (hb : Below w.heap.size w w') : TabAt w' g f := (hb.block g h.lt).trans h
theorem TabAt.load {w : World} {g : Nat} {f : Nat → Bool} (h : TabAt w g f) : (loadVar 77 ⟨g, 0, none⟩).run Tryd.prog w = .ok (.agg (tab 10000 f)) w :=
  run_loadVar_row w g _ 77 _ _ _ h Tryd.underlying77 rfl (by rw [(zero_of_info zero77).2, tab_size])
theorem heap_setRow16 {w : World} {g : Nat} {c c' : Array Value} {t : TypeId} {fr : Nat × Nat} (h : w.heap[g]? = some (.cells c t fr)) : (w.setRow g c').heap[g]? = some (.cells c' t fr) := by
  simp only [World.setRow]
  rw [Array.getElem?_modify, if_pos rfl, h]
  rfl
theorem below_setRow16 {B : Nat} {w w' : World} {g : Nat} {c' : Array Value} (h : Below B w w') (hg : B ≤ g) : Below B w (w'.setRow g c') :=
  ⟨h.os, h.tape, h.output, by simpa [World.setRow] using h.size, fun i hi => by
    simp only [World.setRow]
    rw [Array.getElem?_modify, if_neg (by omega)]
    exact h.block i hi⟩
theorem wpList_load16 {P : Program} {ops : Array Oper} {rest : List Oper} {op : Oper} {a : Act} {w : World} {Q : Exit → Act → World → Prop} (hgd : op.guard = none) (ty : TypeId) (x : Operand) (ho : op.op = .load ty x) {ad : Addr} {v : Value}
    (hx : a.eval x = .pointer (some ad)) (hr : (loadVar ty ad).run P w = .ok v w) (h : wpList P ops Q rest (a.put op.dst v) w) : wpList P ops Q (op :: rest) a w :=
  wpList_plain hgd fun _ hK => by
    unfold Oper.wp execOp
    simp only [ho, hx, Instr.loadAt, Instr.sureAddr, Sem.run_bind, Sem.run_pure, Result.andThen_ok, hr]
    exact hK _ _ h
theorem wpList_store16 {P : Program} {ops : Array Oper} {rest : List Oper} {op : Oper} {a : Act} {w w' : World} {Q : Exit → Act → World → Prop} (hgd : op.guard = none) (ty : TypeId) (x y : Operand) (ho : op.op = .store ty x y) {ad : Addr} {v : Value}
    (hx : a.eval x = .pointer (some ad)) (hy : a.eval y = v) (hr : (storeVar ty ad v).run P w = .ok () w') (h : wpList P ops Q rest (a.put op.dst undef) w') : wpList P ops Q (op :: rest) a w :=
  wpList_plain hgd fun _ hK => by
    unfold Oper.wp execOp
    simp only [ho, hx, hy, Instr.storeAt, Instr.sureAddr, Sem.run_bind, Sem.run_pure, Result.andThen_ok, hr]
    exact hK _ _ h
set_option maxRecDepth 100000 in
set_option maxHeartbeats 4000000 in
theorem wireWaitsOf_any {A : Option Addr} {n c : Nat} {uss : List (List Nat)} {W : World} (hA : HasLI W A n (natsAll uss)) (hn : n ≤ 12) (hl : ∀ us ∈ uss, us.length ≤ 30) (hu : ∀ us ∈ uss, ∀ u ∈ us, u < 100) :
    Calls Tryd.prog 65 #[.slice A n c] W fun e W' => ∃ f, e = .returned (.agg (tab 10000 f)) ∧ (∀ p q, p < 100 → q < 100 → (f (p * 100 + q) = true ↔ Waits uss p q)) ∧ Below W.heap.size W W' := by
  have hz := (zero_of_info zero77).1
  rw [tab_false] at hz
  have HL := Lib.hid hA.len
  have HU := Lib.hid hu
  have HLL := Lib.hid hl
  clear hu hl
  obtain ⟨F0, hF0⟩ : ∃ F0 : Nat → Bool, (fun _ => false) = F0 := ⟨_, rfl⟩
  have HF0 := Lib.hid hF0
  rw [hF0] at hz
  clear hF0
  obtain ⟨W1, hW1⟩ : ∃ W1, W.alloc (.cells (tab 10000 F0) 77) = W1 := ⟨_, rfl⟩
  have K1 : TabAt W1 W.heap.size F0 := hW1 ▸ heap_alloc_new W _
  have B1 : Below W.heap.size W W1 := hW1 ▸ below_alloc16 W _
  obtain ⟨W2, hW2⟩ : ∃ W2, W1.alloc (.cells (tab 10000 F0) 77) = W2 := ⟨_, rfl⟩
  have K2 : TabAt W2 W1.heap.size F0 := hW2 ▸ heap_alloc_new W1 _
  have B2 : Below W1.heap.size W1 W2 := hW2 ▸ below_alloc16 W1 _
  have K3 := K1.bel B2
  have T2 := bel_trans B1 B2
  obtain ⟨g, hg⟩ : ∃ g, W1.heap.size = g := ⟨_, rfl⟩
  have hgW : W.heap.size < g := by have := K1.lt; omega
  rw [hg] at K2
  have HR0 : Hid (∀ p q, p < 100 → q < 100 → (F0 (p * 100 + q) = true ↔ WaitsTo uss 0 0 p q)) := fun p q _ _ => by
    rw [← HF0.out]
    exact ⟨(fun h => by cases h), fun h => absurd h (waitsTo_zero uss p q)⟩
  clear K1 B1 B2
  go_enter Tryd.func65, Tryd.ntmps65
  go_wp2
  try rw [hg]
  clear hg hz hW1 hW2
  go_loopw [9] (fun t wr => ∃ (i : Nat) (f : Nat → Bool), i ≤ n ∧ t = .int .i64 (i : Int) ∧ TabAt wr g f ∧ TabAt wr W.heap.size F0 ∧ Hid (∀ p q, p < 100 → q < 100 → (f (p * 100 + q) = true ↔ WaitsTo uss i 0 p q)) ∧ Below W.heap.size W wr) (fun t _ => n - (intOf t).toNat)
  case atStart => exact ⟨0, F0, by omega, rfl, K2, K3, HR0, T2⟩
  case round =>
    obtain ⟨i, f, hi, rfl, K, KR, HR, T⟩ := hrel
    by_cases hlt : i < n
    · have hltB : decide ((i : Int) < (n : Int)) = true := by simp; omega
      obtain ⟨b, o, X, m, d, zs, rfl, hbl, hx, hc0, hmd, hH⟩ := hA.at_ hlt
      have hc := (T.cell (p := ⟨b, o + i, none⟩) hbl).trans hc0
      have hus : ∃ us, uss[i]? = some us ∧ zs = nats us := by
        unfold natsAll at hx
        rw [List.getElem?_map] at hx
        cases hq : uss[i]? with
        | none => rw [hq] at hx; cases hx
        | some us => rw [hq] at hx; injection hx with e; exact ⟨us, rfl, e.symm⟩
      obtain ⟨us, hus, rfl⟩ := hus
      have hmem := List.mem_of_getElem? hus
      have hml : m = us.length := by have := hH.len; rw [nats_len] at this; exact this.symm
      have hm30 : m ≤ 30 := by have := HLL.out us hmem; omega
      have eU : uss.getD i [] = us := by rw [List.getD_eq_getElem?_getD, hus]; rfl
      have HX := Lib.hid (show uss.getD i [] = us ∧ m = us.length ∧ (∀ u ∈ us, u < 100) ∧ i < uss.length from ⟨eU, hml, HU.out us hmem, (List.getElem?_eq_some_iff.1 hus).1⟩)
      have HR1 : Hid (∀ p q, p < 100 → q < 100 → (f (p * 100 + q) = true ↔ WaitsTo uss i 1 p q)) := fun p q hp hq => by rw [HR.out p q hp hq, waitsTo_one]
      have HHH := Lib.hid hH
      have KT0 := Lib.hid T
      clear hus hmem hml eU hH hx
      go_wp2
      go_loopw [6] (fun t wx => ∃ (k : Nat) (f' : Nat → Bool), 1 ≤ k ∧ (k ≤ m ∨ k = 1) ∧ t = .int .i64 (k : Int) ∧ TabAt wx g f' ∧ TabAt wx W.heap.size F0 ∧ Hid (∀ p q, p < 100 → q < 100 → (f' (p * 100 + q) = true ↔ WaitsTo uss i k p q)) ∧ Below W.heap.size W wx) (fun t _ => m - (intOf t).toNat)
      case atStart => exact ⟨1, f, by omega, Or.inr rfl, rfl, K, KR, HR1, T⟩
      case round =>
        obtain ⟨k, f', hk1, hk2, rfl, K', KR', HR', T'⟩ := hrel
        by_cases hkm : k < m
        · have hkB : decide ((k : Int) < (m : Int)) = true := by simp; omega
          have hHx := HHH.out.bel T'
          obtain ⟨b1, o1, z1, rfl, hb1, hz1, c1⟩ := hHx.at_ (show k - 1 < m by omega)
          obtain ⟨b1', o1', z2, hA', hb2, hz2, c2⟩ := hHx.at_ hkm
          injection hA' with hA'; injection hA' with q1 q2; subst q1 q2
          obtain rfl := nats_at hz1
          obtain rfl := nats_at hz2
          have hmemu : ∀ j, j < m → us.getD j 0 ∈ us := fun j hj => by
            rw [List.getD_eq_getElem?_getD, List.getElem?_eq_getElem (by have := HX.out.2.1; omega)]; exact List.getElem_mem _
          have p100 := HX.out.2.2.1 _ (hmemu (k - 1) (by omega))
          have q100 := HX.out.2.2.1 _ (hmemu k hkm)
          have HR2 : Hid (∀ p q, p < 100 → q < 100 → (upd f' (us.getD (k - 1) 0 * 100 + us.getD k 0) true (p * 100 + q) = true ↔ WaitsTo uss i (k + 1) p q)) := by
            intro p q hp hq
            have e1 := HX.out.1
            rw [waitsTo_step (show 0 < k by omega), e1]
            by_cases hpq : us.getD (k - 1) 0 = p ∧ us.getD k 0 = q
            · obtain ⟨rfl, rfl⟩ := hpq
              rw [upd_self]
              exact ⟨fun _ => Or.inr ⟨rfl, rfl⟩, fun _ => rfl⟩
            · rw [upd_ne _ _ (show p * 100 + q ≠ us.getD (k - 1) 0 * 100 + us.getD k 0 by omega), HR'.out p q hp hq]
              exact ⟨Or.inl, fun hh => hh.resolve_right hpq⟩
          generalize us.getD (k - 1) 0 = pp at *
          generalize us.getD k 0 = qq at *
          have t1 : IntKind.i64.wrap ((k : Int) - 1) = (k : Int) - 1 := IntWalk.i64_in _ (by omega)
          have n1 : ((k : Int) - 1).toNat = k - 1 := by omega
          have g0 : (0 : Int) ≤ (k : Int) - 1 := by omega
          have g1 : (k : Int) - 1 < (m : Int) := by omega
          have g2 : (0 : Int) ≤ (k : Int) := by omega
          have g3 : (1 : Int) ≤ (k : Int) := by omega
          have g4 : 1 ≤ k := hk1
          have g5 : (pp : Int) < 100 := by omega
          have g6 : (qq : Int) < 100 := by omega
          have cg := K'.cell (show pp * 100 + qq < 10000 by omega)
          have fg := K'.open_ (pp * 100 + qq)
          have HK := Lib.hid (K'.put (pp * 100 + qq) true)
          have HKR := Lib.hid (KR'.past (show g ≠ W.heap.size by omega) (pp * 100 + qq) (.bool true))
          have HT := Lib.hid (T'.setCell (p := ⟨g, pp * 100 + qq, none⟩) (show W.heap.size ≤ g by omega) (.bool true))
          clear hz1 hz2 hmemu K' KR' T' HR'
          go_wp2
          go_region
          all_goals
            go_wp2
            go_roundw
            case rel => exact ⟨k + 1, _, by omega, Or.inl (by omega), by go_num, HK.out, HKR.out, HR2, HT.out.drew⟩
            case measure => simp [intOf]; omega
        · have hkB : decide ((k : Int) < (m : Int)) = false := by simp; omega
          have HR3 : Hid (∀ p q, p < 100 → q < 100 → (f' (p * 100 + q) = true ↔ WaitsTo uss (i + 1) 0 p q)) := fun p q hp hq => by
            have h1 := HX.out
            rw [HR'.out p q hp hq]
            exact (waitsTo_next h1.2.2.2 (m := k) (by rw [h1.1]; omega) (by rw [h1.1]; omega)).symm
          go_wp2
          go_roundw
          case rel => exact ⟨i + 1, f', by omega, by go_num, K', KR', HR3, T'⟩
          case measure => simp [intOf]; omega
    · have hltB : decide ((i : Int) < (n : Int)) = false := by simp; omega
      obtain rfl : i = n := by omega
      have HE : Hid (∀ p q, p < 100 → q < 100 → (f (p * 100 + q) = true ↔ Waits uss p q)) := fun p q hp hq => by
        have e1 := HL.out
        unfold natsAll at e1
        rw [List.length_map] at e1
        rw [HR.out p q hp hq, ← e1, waitsTo_all]
      have hsz := (zero_of_info zero77).2
      have hld := K.load
      have hst := run_storeVar_row (P := Tryd.prog) wr W.heap.size 77 77 _ (tab 10000 f) KR (by rw [tab_size]; exact hsz) (by rw [tab_size, tab_size]) (tab_one _ _)
      have HF := Lib.hid (heap_setRow16 (c' := tab 10000 f) KR)
      have HB := Lib.hid (below_setRow16 (g := W.heap.size) (c' := tab 10000 f) T (Nat.le_refl _))
      have HSZ := Lib.hid (show (Tryd.prog.info? 77).map (·.size) = some (tab 10000 f).size by rw [tab_size]; exact hsz)
      generalize hCC : tab 10000 f = C at *
      have HCC := Lib.hid hCC
      clear hsz hCC
      go_upto_region 10 with fail
      refine wp_region_lit ?_
      refine wpList_load16 rfl 77 (.tmp 3) rfl rfl hld ?_
      simp only [Act.put, List.setIfInBounds_toArray, List.set_cons_zero, List.set_cons_succ]
      refine wpList_store16 rfl 77 (.tmp 2) (.tmp 31) rfl rfl rfl hst ?_
      refine wpList_nil ?_
      simp only [Act.put]
      clear hld hst
      go_wp2
      refine bodyPost_ret (results_cell_row rfl _ _ _ _ _ _ _ rfl HF.out Tryd.underlying77 rfl HSZ.out) rfl ?_
      exact ⟨f, by rw [HCC.out], HE.out, HB.out⟩
end Go.Proofs.YthcfjnedpffbbaaDoor
