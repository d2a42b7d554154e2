/-
  Chapter 16's program, HasRound: what is proved here is what it returns, and that it writes nothing that was there. The table of steps holds what the program's text lays; lengths up to 2^24.
-/
import Derived.Test.YthcfjnedpffbbaaDoorImp16k
namespace Go.Proofs.YthcfjnedpffbbaaDoor
open Go.RowKit

theorem fold_fill : ∀ (l : List Value) (k : Nat) (cells : Array Value) (i : Nat), ((l.zipIdx k).foldl (fun cs (x : Value × Nat) => cs.setIfInBounds (0 + x.2) x.1) cells)[i]? = if k ≤ i ∧ i < k + l.length ∧ i < cells.size then l[i - k]? else cells[i]?
  | [], k, cells, i => by
    rw [if_neg (by simp; omega)]
    rfl
  | v :: l, k, cells, i => by
    rw [List.zipIdx_cons, List.foldl_cons, fold_fill l (k + 1)]
    simp only [Nat.zero_add, Array.size_setIfInBounds, List.length_cons]
    by_cases h1 : i < cells.size
    · by_cases h2 : i = k
      · subst h2
        rw [if_neg (by omega), if_pos (by omega), Array.getElem?_setIfInBounds, if_pos rfl, if_pos h1, Nat.sub_self]
        rfl
      · by_cases h3 : k + 1 ≤ i ∧ i < k + 1 + l.length
        · rw [if_pos ⟨h3.1, h3.2, h1⟩, if_pos (by omega), show i - k = (i - (k + 1)) + 1 by omega, List.getElem?_cons_succ]
        · rw [if_neg (by omega), if_neg (by omega), Array.getElem?_setIfInBounds, if_neg (by omega)]
    · rw [if_neg (by omega), if_neg (by omega), Array.getElem?_setIfInBounds]
      by_cases h2 : k = i
      · subst h2
        rw [if_pos rfl, if_neg h1, Array.getElem?_eq_none (by omega)]
      · rw [if_neg h2]
theorem fold_all (vs Z rest : Array Value) (h : Z.size = vs.size) : (vs.zipIdx.foldl (fun cs (x : Value × Nat) => cs.setIfInBounds (0 + x.2) x.1) (Z ++ rest)) = vs ++ rest := by
  rw [← Array.foldl_toList, Array.toList_zipIdx]
  apply Array.ext_getElem?
  intro i
  rw [fold_fill]
  simp only [Nat.zero_le, Nat.zero_add, true_and, Array.length_toList, Nat.sub_zero, Array.size_append]
  by_cases h1 : i < vs.size
  · rw [if_pos ⟨h1, by omega⟩, Array.getElem?_append, if_pos h1, Array.getElem?_toList]
  · rw [if_neg (fun hh => h1 hh.1), Array.getElem?_append, Array.getElem?_append, if_neg h1, if_neg (by omega), h]
def searchCells (f : Nat → Bool) : Array Value := tab 10000 f ++ Array.replicate 100 (.int .i64 0)
theorem searchCells_size (f : Nat → Bool) : (searchCells f).size = 10100 := by simp [searchCells, tab_size]
theorem build_two {P : Program} {t : TypeId} {fa fb : Field} {Z C Y : Array Value} {n m : Nat} {w : World} (hu : P.underlying t = some (.struct #[fa, fb])) (h0 : fa.offset = 0) (hz : (zeroValue t).run P w = .ok (.agg (Z ++ Y)) w)
    (h1 : (Go.sizeOf fa.type).run P w = .ok n w) (h2 : (Go.sizeOf fb.type).run P w = .ok m w) (hC : C.size = n) (hZ : Z.size = n) : (Instr.build t #[(0, .agg C)]).run P w = .ok (.agg (C ++ Y)) w := by
  have hF := fold_all C Z Y (by rw [hC, hZ])
  rw [← hF]
  clear hF
  have hlt : ¬ n + Y.size < n := by omega
  simp [Instr.build, hz, run_underlying hu, Instr.fill, h0, h1, h2, hC, hZ, go_sem, Value.cells, hlt]
theorem exec_build {P : Program} {ev : Operand → Value} {op : Oper} {t : TypeId} {parts : Array (Nat × Operand)} {qs : Array (Nat × Value)} {w w' : World} {v : Value} (ho : op.op = .build t parts) (hq : (parts.map fun x => (x.1, ev x.2)) = qs) (hr : (Instr.build t qs).run P w = .ok v w') : (execOp ev op).run P w = .ok (.value v) w' := by
  unfold execOp
  subst hq
  simp only [ho, Sem.run_bind]
  rw [hr]
  rfl
theorem build_search (f : Nat → Bool) (w : World) : (Instr.build 91 #[(0, .agg (tab 10000 f))]).run Tryd.prog w = .ok (.agg (searchCells f)) w := by
  unfold searchCells
  exact build_two Tryd.underlying91 rfl ((zero_of_info zero91).1 w) (size_run16 (zero_of_info zero77).2 w) (size_run16 (show (Tryd.prog.info? 89).map (·.size) = some 100 by kernel_rfl) w) (tab_size 10000 f) Array.size_replicate
theorem searchCells_one (f : Nat → Bool) : (searchCells f).all (·.oneCell') = true := by
  unfold searchCells
  rw [Array.all_append, tab_one, Array.all_replicate]
  rfl
theorem searchCells_mark (f : Nat → Bool) {j : Nat} (h : j < 10000) : (searchCells f)[j]? = some (.bool (f j)) := by
  unfold searchCells
  rw [Array.getElem?_append, if_pos (by rw [tab_size]; exact h), tab_at f h]
theorem searchCells_colour (f : Nat → Bool) {u : Nat} (h : u < 100) : (searchCells f)[10000 + u]? = some (.int .i64 0) := by
  unfold searchCells
  rw [Array.getElem?_append, if_neg (by rw [tab_size]; omega), tab_size, show 10000 + u - 10000 = u by omega, Array.getElem?_replicate, if_pos h]
theorem searchAt_new (w : World) (f : Nat → Bool) : SearchAt (w.alloc (.cells (searchCells f) 91)) w.heap.size f (fun _ => 0) := by
  refine ⟨by simp, fun j hj => ?_, fun u hu => ?_, fun j => frozen_of_row _ _ _ _ _ (heap_alloc_new w _)⟩
  · rw [World.cell?_alloc_new]; exact searchCells_mark f hj
  · rw [World.cell?_alloc_new]; exact searchCells_colour f hu
theorem safeCol_white (R : Nat → Nat → Prop) : SafeCol R (fun _ => 0) := ⟨fun u h => absurd (show (0 : Nat) = 2 from h) (by omega), fun u => Nat.zero_le 2⟩
/-- A list of all numbers below 100 bears what is white. -/
theorem white_list (c : Nat → Nat) : ∃ L : List Nat, L.length ≤ 100 ∧ ∀ x, x < 100 → c x = 0 → x ∈ L := ⟨List.range 100, by simp, fun x hx _ => List.mem_range.2 hx⟩
set_option maxRecDepth 100000 in
set_option maxHeartbeats 2000000 in
theorem implHasRound_any {A : Option Addr} {n c : Nat} {kss : List (List Int)} {w h : Int} {W : World} (hT : StepsIn W) (hA : HasLI W A n kss) (hn : n ≤ 16777216) (hlen : ∀ ks ∈ kss, ks.length ≤ 16777216) :
    Calls Tryd.prog 34 #[.int .i64 w, .int .i64 h, .slice A n c] W fun e W' => ∃ b : Bool, e = .returned (.bool b) ∧ (b = true ↔ WaysOk w h kss ∧ Round (Waits (wiresAll w.toNat kss))) ∧ Below W.heap.size W W' := by
  by_cases hk : WaysOk w h kss
  rotate_left
  · have C := Lib.hid (wiresOfAll_any (c := c) hT hA hn hlen (decide_eq_false hk))
    have E := Lib.hid (show (false = true ↔ WaysOk w h kss ∧ Round (Waits (wiresAll w.toNat kss))) from ⟨(fun e => by cases e), fun e => absurd e.1 hk⟩)
    clear hk hT hA hlen
    go_enter Tryd.func34, Tryd.ntmps34
    go_wp2_with (fail)
    refine C.out.mono ?_
    rintro e w1 ⟨A1, n1, c1, rfl, _, B1⟩
    go_wp2
    go_ret
    exact ⟨false, rfl, E.out, B1⟩
  have C := Lib.hid (wiresOfAll_any (c := c) hT hA hn hlen (decide_eq_true hk))
  have hb := wiresAll_bounds hk
  obtain ⟨uss, hus⟩ : ∃ uss, wiresAll w.toNat kss = uss := ⟨_, rfl⟩
  have hul : uss.length ≤ 12 := by rw [← hus, wiresAll_len]; exact hk.2.1
  rw [hus] at C hb
  obtain ⟨R, hR⟩ : ∃ R, Waits uss = R := ⟨_, rfl⟩
  have HN := Lib.hid (show ∀ p q, R p q → p < 100 ∧ q < 100 from by rw [← hR]; exact fun p q hpq => waits_lt hb.2.1 hpq)
  have E : Hid (∀ b : Bool, (b = true ↔ Round R) → (b = true ↔ WaysOk w h kss ∧ Round (Waits (wiresAll w.toNat kss)))) := fun b e => by rw [hus, hR]; exact ⟨fun x => ⟨hk, e.1 x⟩, fun x => e.2 x.2⟩
  have HR := Lib.hid hR
  clear hk hT hA hlen hus hR
  go_enter Tryd.func34, Tryd.ntmps34
  go_wp2_with (fail)
  refine C.out.mono ?_
  rintro e w1 ⟨A1, n1, c1, rfl, O1, B1⟩
  have O1 := O1 trivial
  have hn1 : n1 ≤ 12 := by have := O1.has.len; unfold natsAll at this; rw [List.length_map] at this; omega
  have C2 := Lib.hid (wireWaitsOf_any (c := c1) O1.has hn1 (fun us hu => by have := hb.1 us hu; omega) hb.2.1)
  clear C hb O1
  go_wp2_with (fail)
  refine C2.out.mono ?_
  rintro e w2 ⟨f, rfl, hf, B2⟩
  have T2 := bel_trans B1 B2
  have HFR : Hid (∀ p q, p < 100 → q < 100 → (f (p * 100 + q) = true ↔ R p q)) := fun p q hp hq => by rw [← HR.out]; exact hf p q hp hq
  clear C2 hf
  have hbd := build_search f w2
  have hst := run_storeVar_new (P := Tryd.prog) w2 91 (Array.replicate 10000 (.bool false) ++ Array.replicate 100 (.int .i64 0)) (searchCells f) (by rw [searchCells_size]; exact (zero_of_info zero91).2) (by rw [searchCells_size, Array.size_append, Array.size_replicate, Array.size_replicate]) (searchCells_one f)
  have hzz := (zero_of_info zero91).1
  have S0 := searchAt_new w2 f
  have B3 := below_alloc16 w2 (.cells (searchCells f) 91)
  generalize tab 10000 f = C0 at *
  generalize searchCells f = C1 at *
  generalize Array.replicate 10000 (Value.bool false) ++ Array.replicate 100 (Value.int .i64 0) = Z0 at *
  have T3 := bel_trans T2 B3
  rename_i K2 hK2
  refine hK2 _ _ ?_
  refine wpList_val16 rfl (v := .agg C1) (w' := w2) (exec_build rfl (by simp [Act.eval]) hbd) ?_
  simp only [Act.put, List.setIfInBounds_toArray, List.set_cons_zero, List.set_cons_succ]
  refine wpList_val16 rfl (v := .pointer (some ⟨w2.heap.size, 0, none⟩)) (w' := w2.alloc (.cells Z0 91)) (by simp [execOp, Instr.alloc, hzz, newVar, newRow, go_sem, Value.cells]) ?_
  simp only [Act.put, List.setIfInBounds_toArray, List.set_cons_zero, List.set_cons_succ]
  refine wpList_store16 rfl 91 (.tmp 9) (.tmp 23) rfl rfl rfl hst ?_
  refine wpList_nil ?_
  simp only [Act.put]
  clear hbd hst hzz
  obtain ⟨Y, hY⟩ : ∃ Y, w2.alloc (.cells C1 91) = Y := ⟨_, rfl⟩
  rw [hY] at S0 B3 T3 ⊢
  obtain ⟨s, hs⟩ : ∃ s, w2.heap.size = s := ⟨_, rfl⟩
  have hsW : W.heap.size ≤ s := by rw [← hs]; exact T2.size
  rw [hs] at S0 ⊢
  clear hY hs B3 hK2
  go_wp2
  go_loopw [24] (fun t wr => ∃ (k : Nat) (c' : Nat → Nat), k ≤ 100 ∧ t = .int .i64 (k : Int) ∧ SearchAt wr s f c' ∧ Hid (SafeCol R c' ∧ ∀ v, (v < k → c' v = 2) ∧ (c' v = 0 ∨ c' v = 2)) ∧ Below W.heap.size W wr) (fun t _ => 100 - (intOf t).toNat)
  case atStart => exact ⟨0, fun _ => 0, by omega, rfl, S0, ⟨safeCol_white R, fun v => ⟨fun hv => absurd hv (by omega), Or.inl rfl⟩⟩, T3⟩
  case round =>
    obtain ⟨k, c', hk, rfl, S, HQ, T⟩ := hrel
    by_cases hlt : k < 100
    · have hltB : decide ((k : Int) < 100) = true := by simp; omega
      have CC := Lib.hid (comesRound_any HN.out HFR.out 100 k c' wr S HQ.out.1 hlt (fun g hg => absurd hg (by have := (HQ.out.2 g).2; omega)) (white_list c'))
      go_wp2_with (fail)
      refine CC.out.mono ?_
      rintro e w5 ⟨bb, c5, rfl, hb1, hb2, G5⟩
      have T5 := T.trans (below_of_grown G5 T.size (fun g hg => by injection hg with hg; omega))
      cases bb
      · obtain ⟨S5, hC5, hL5, h52⟩ := hb2 rfl
        have HQ2 : Hid (SafeCol R c5 ∧ ∀ v, (v < k + 1 → c5 v = 2) ∧ (c5 v = 0 ∨ c5 v = 2)) := ⟨hC5, fun v => by
          have h1 := HQ.out.2 v
          have h2 := hL5 v
          by_cases e : v = k
          · subst e; exact ⟨fun _ => h52, Or.inr h52⟩
          · exact ⟨fun hv => by have := h1.1 (by omega); omega, by omega⟩⟩
        clear hb1 hb2 hC5 hL5 h52 S CC
        go_wp2
        go_roundw
        case rel => exact ⟨k + 1, c5, by omega, by go_num, S5, HQ2, T5⟩
        case measure => simp [intOf]; omega
      · have HE := Lib.hid (E.out true ⟨fun _ => hb1 rfl, fun _ => rfl⟩)
        clear hb1 hb2 CC
        go_wp2
        go_ret
        exact ⟨true, rfl, by simpa using HE.out, T5⟩
    · have hltB : decide ((k : Int) < 100) = false := by simp; omega
      obtain rfl : k = 100 := by omega
      have HE := Lib.hid (E.out false ⟨(fun h => by cases h), fun h => absurd h (no_round HN.out fun u hu => HQ.out.1.1 u ((HQ.out.2 u).1 hu))⟩)
      go_wp2
      go_ret
      exact ⟨false, rfl, HE.out, T⟩
end Go.Proofs.YthcfjnedpffbbaaDoor
