/-
  Chapter 16's program, WaitsOf: what is proved here is what it returns, and that it writes nothing that was there. The table of steps holds what the program's text lays; lengths up to 2^24.
-/
import Derived.Test.YthcfjnedpffbbaaDoorImp16i
namespace Go.Proofs.YthcfjnedpffbbaaDoor
open Go.RowKit

theorem tab_row (f : Nat → Bool) {p : Nat} (hp : p < 100) : (tab 10000 f).extract (p * 100) (p * 100 + 100) = tab 100 (fun q => f (p * 100 + q)) := by
  apply Array.ext_getElem?
  intro i
  by_cases hi : i < 100
  · rw [tab_at _ hi, Array.getElem?_extract, if_pos (by rw [tab_size]; omega), tab_at _ (by omega)]
  · rw [Array.getElem?_eq_none (by rw [Array.size_extract, tab_size]; omega), Array.getElem?_eq_none (by rw [tab_size]; omega)]
theorem size_run16 {P : Program} {t : TypeId} {n : Nat} (h : (P.info? t).map (·.size) = some n) (w : World) : (Go.sizeOf t).run P w = .ok n w := by
  cases hq : P.info? t with
  | none => simp [hq] at h
  | some i =>
    simp [hq] at h
    simp [sizeOf, typeInfo, hq, h]
theorem agg_run16 {P : Program} {t e : TypeId} {n : Nat} (h : P.underlying t = some (.array n e)) (w : World) : (isAgg t).run P w = .ok true w := by
  unfold isAgg
  rw [Sem.run_bind, run_underlying h w]
  rfl
theorem notAgg_run16 {P : Program} {t : TypeId} (h : P.underlying t = some .bool) (w : World) : (isAgg t).run P w = .ok false w := by
  unfold isAgg
  rw [Sem.run_bind, run_underlying h w]
  rfl
theorem index_row (f : Nat → Bool) {p : Nat} (hp : p < 100) (w : World) : (Instr.index 77 (.agg (tab 10000 f)) (.int .i64 (p : Int))).run Tryd.prog w = .ok (.agg (tab 100 (fun q => f (p * 100 + q)))) w := by
  rw [← tab_row f hp]
  generalize tab 10000 f = C
  have h1 := size_run16 (zero_of_info zero75).2 w
  have h3 : (0 : Int) ≤ (p : Int) ∧ (p : Int) < ((100 : Nat) : Int) := ⟨by omega, by omega⟩
  simp [Instr.index, run_underlying Tryd.underlying77, asIntOf, part, go_sem, h1, hp]
theorem index_mark (f : Nat → Bool) {q : Nat} (hq : q < 100) (w : World) : (Instr.index 75 (.agg (tab 100 f)) (.int .i64 (q : Int))).run Tryd.prog w = .ok (.bool (f q)) w := by
  have ht := tab_at f hq
  generalize tab 100 f = C at *
  have h1 := size_run16 (show (Tryd.prog.info? 4).map (·.size) = some 1 by kernel_rfl) w
  simp [Instr.index, run_underlying Tryd.underlying75, asIntOf, part, go_sem, h1, hq, ht]
theorem wpList_val16 {P : Program} {ops : Array Oper} {rest : List Oper} {op : Oper} {a : Act} {w w' : World} {Q : Exit → Act → World → Prop} {v : Value} (hgd : op.guard = none)
    (hr : (execOp a.eval op).run P w = .ok (.value v) w') (h : wpList P ops Q rest (a.put op.dst v) w') : wpList P ops Q (op :: rest) a w :=
  wpList_plain hgd fun _ hK => by
    unfold Oper.wp
    rw [hr]
    exact hK _ _ h
/- The rows of the table, one by one. -/
def rowF (f : Nat → Bool) (p : Nat) : Nat → Bool := fun q => f (p * 100 + q)
set_option maxRecDepth 100000 in
set_option maxHeartbeats 4000000 in
theorem implWaitsOf_any {A : Option Addr} {n c : Nat} {kss : List (List Int)} {w h : Int} {W : World} (hT : StepsIn W) (hA : HasLI W A n kss) (hn : n ≤ 16777216) (hlen : ∀ ks ∈ kss, ks.length ≤ 16777216) :
    Calls Tryd.prog 28 #[.int .i64 w, .int .i64 h, .slice A n c] W fun e W' => ∃ A' n' c', e = .returned (.slice A' n' c') ∧ OwnLI W' W.heap.size A' n' c' (waitsL w h kss) ∧ Below W.heap.size W W' := by
  by_cases hk : WaysOk w h kss
  rotate_left
  · have C := Lib.hid (wiresOfAll_any (c := c) hT hA hn hlen (decide_eq_false hk))
    have e1 : waitsL w h kss = [] := by unfold waitsL; rw [if_neg hk]
    rw [e1]
    clear hk e1 hT hA hlen
    go_enter Tryd.func28, Tryd.ntmps28
    go_wp2_with (fail)
    refine C.out.mono ?_
    rintro e w1 ⟨A1, n1, c1, rfl, _, B1⟩
    go_wp2
    go_ret
    exact ⟨none, 0, 0, rfl, ownLI_nil _ _, B1⟩
  have C := Lib.hid (wiresOfAll_any (c := c) hT hA hn hlen (decide_eq_true hk))
  have hb := wiresAll_bounds hk
  obtain ⟨uss, hus⟩ : ∃ uss, wiresAll w.toNat kss = uss := ⟨_, rfl⟩
  have e1 : waitsL w h kss = rows (pl 100 (Waits uss) (100 * 100)) := by unfold waitsL; rw [if_pos hk, hus]
  have hul : uss.length ≤ 12 := by rw [← hus, wiresAll_len]; exact hk.2.1
  rw [e1]
  rw [hus] at C hb
  obtain ⟨j0, hj, hy0, hy1, hy2⟩ := info_parts Tryd.infoSlI
  have hz := (zero_of_info zero75).1
  rw [tab_false] at hz
  have hsz := (zero_of_info zero75).2
  obtain ⟨R, hR⟩ : ∃ R, Waits uss = R := ⟨_, rfl⟩
  have HR := Lib.hid hR
  rw [hR]
  clear hk e1 hT hA hlen hus hR
  go_enter Tryd.func28, Tryd.ntmps28
  go_wp2_with (fail)
  refine C.out.mono ?_
  rintro e w1 ⟨A1, n1, c1, rfl, O1, B1⟩
  have O1 := O1 trivial
  have hn1 : n1 ≤ 12 := by have := O1.has.len; unfold natsAll at this; rw [List.length_map] at this; omega
  have C2 := Lib.hid (wireWaitsOf_any (c := c1) O1.has hn1 (fun us hu => by have := hb.1 us hu; omega) hb.2.1)
  clear C hb O1
  go_wp2_with (fail)
  refine C2.out.mono ?_
  rintro e w2 ⟨f, rfl, hf, B2⟩
  have T2 := bel_trans B1 B2
  have HFR : Hid (∀ p q, p < 100 → q < 100 → (f (p * 100 + q) = true ↔ R p q)) := fun p q hp hq => by rw [← HR.out]; exact hf p q hp hq
  have HIX : Hid (∀ (p : Nat), p < 100 → ∀ w, (Instr.index 77 (.agg (tab 10000 f)) (.int .i64 (p : Int))).run Tryd.prog w = .ok (.agg (tab 100 (rowF f p))) w) := fun p hp w => index_row f hp w
  generalize tab 10000 f = C0 at *
  clear C2 hf
  go_wp2
  go_loopw [9, 26] (fun v t wr => ∃ (p k : Nat) (A' : Option Addr) (c' : Nat), p ≤ 100 ∧ t = .int .i64 (p : Int) ∧ v = .slice A' k c' ∧ OwnLI wr W.heap.size A' k c' (rows (pl 100 R (p * 100))) ∧ Below W.heap.size W wr) (fun _ t _ => 100 - (intOf t).toNat)
  case atStart => exact ⟨0, 0, none, 0, by omega, rfl, rfl, by rw [Nat.zero_mul, pl_zero]; exact ownLI_nil _ _, T2⟩
  case round =>
    obtain ⟨p, k, A2, c2, hp, rfl, rfl, L, T⟩ := hrel
    by_cases hlt : p < 100
    · have hltB : decide ((p : Int) < 100) = true := by simp; omega
      have hix := HIX.out p hlt
      obtain ⟨Y, hY⟩ : ∃ Y, wr.alloc (.cells (tab 100 (rowF f p)) 75) = Y := ⟨_, rfl⟩
      have hst := run_storeVar_new (P := Tryd.prog) wr 75 (tab 100 (fun _ => false)) (tab 100 (rowF f p)) (by rw [tab_size]; exact hsz) (by rw [tab_size, tab_size]) (tab_one _ _)
      have hld := run_loadVar_new (P := Tryd.prog) wr 75 (tab 100 (rowF f p)) _ _ Tryd.underlying75 (by rw [tab_size]; exact hsz)
      rw [hY] at hst hld
      have BY : Below wr.heap.size wr Y := hY ▸ below_alloc16 wr _
      have TY := bel_trans T BY
      have LY := L.bel BY
      have HIM : Hid (∀ (q : Nat), q < 100 → ∀ w, (Instr.index 75 (.agg (tab 100 (rowF f p))) (.int .i64 (q : Int))).run Tryd.prog w = .ok (.bool (rowF f p q)) w) := fun q hq w => index_mark (rowF f p) hq w
      obtain ⟨Z0, hZ0⟩ : ∃ Z0, tab 100 (fun _ => false) = Z0 := ⟨_, rfl⟩
      rw [hZ0] at hz hst
      obtain ⟨C1, hC1⟩ : ∃ C1, tab 100 (rowF f p) = C1 := ⟨_, rfl⟩
      rw [hC1] at hix hst hld HIM
      have hzz := hz
      clear hC1 hY
      go_upto_region 7 with fail
      refine wp_region_lit ?_
      refine wpList_val16 rfl (w' := wr) rfl ?_
      simp only [Act.put, List.setIfInBounds_toArray, List.set_cons_zero, List.set_cons_succ]
      refine wpList_val16 rfl (v := .agg C1) (w' := wr) (by simp [execOp, Act.eval, hix, go_sem]) ?_
      simp only [Act.put, List.setIfInBounds_toArray, List.set_cons_zero, List.set_cons_succ]
      refine wpList_val16 rfl (v := .pointer (some ⟨wr.heap.size, 0, none⟩)) (w' := wr.alloc (.cells Z0 75)) (by simp [execOp, Instr.alloc, hzz, newVar, newRow, go_sem, Value.cells]) ?_
      simp only [Act.put, List.setIfInBounds_toArray, List.set_cons_zero, List.set_cons_succ]
      refine wpList_val16 rfl (w' := wr.alloc (.cells Z0 75)) rfl ?_
      simp only [Act.put, List.setIfInBounds_toArray, List.set_cons_zero, List.set_cons_succ]
      refine wpList_store16 rfl 75 (.tmp 11) (.tmp 29) rfl rfl rfl hst ?_
      refine wpList_nil ?_
      simp only [Act.put]
      clear hix hst hzz
      go_upto_region 8 with fail
      refine wp_region_lit ?_
      refine wpList_load16 rfl 75 (.tmp 11) rfl rfl hld ?_
      simp only [Act.put, List.setIfInBounds_toArray, List.set_cons_zero, List.set_cons_succ]
      refine wpList_val16 rfl (w' := Y) rfl ?_
      simp only [Act.put, List.setIfInBounds_toArray, List.set_cons_zero, List.set_cons_succ]
      refine wpList_nil ?_
      clear hld
      go_wp2
      go_loopw [9, 31] (fun v t wx => ∃ (q k : Nat) (A' : Option Addr) (c' : Nat), q ≤ 100 ∧ t = .int .i64 (q : Int) ∧ v = .slice A' k c' ∧ OwnLI wx W.heap.size A' k c' (rows (pl 100 R (p * 100 + q))) ∧ Below W.heap.size W wx) (fun _ t _ => 100 - (intOf t).toNat)
      case atStart => exact ⟨0, k, A2, c2, by omega, rfl, rfl, by rw [Nat.add_zero]; exact LY, TY⟩
      case round =>
        obtain ⟨q, kk, A3, c3, hq, rfl, rfl, ⟨vs, L3⟩, T3⟩ := hrel
        have hge := T3.size
        by_cases hqt : q < 100
        · have hqB : decide ((q : Int) < 100) = true := by simp; omega
          have him := HIM.out q hqt
          have hmd : (p * 100 + q) / 100 = p ∧ (p * 100 + q) % 100 = q := by omega
          have hpq := HFR.out p q hlt hqt
          have hkk : kk ≤ 10000 := by
            have h1 := L3.has.len
            rw [rows_len] at h1
            have h2 := pl_len 100 R (p * 100 + q)
            omega
          obtain ⟨bb, hbb⟩ : ∃ bb, rowF f p q = bb := ⟨_, rfl⟩
          have hbR : bb = true ↔ R p q := by rw [← hbb]; exact hpq
          rw [hbb] at him
          clear hpq
          cases bb
          · have HPL : Hid (pl 100 R (p * 100 + (q + 1)) = pl 100 R (p * 100 + q)) := by
              show _ = _
              rw [← Nat.add_assoc]
              exact pl_no (by rw [hmd.1, hmd.2]; exact fun hh => absurd (hbR.2 hh) (by decide))
            clear hbR hmd hbb
            go_wp2
            go_roundw
            case rel => exact ⟨q + 1, kk, A3, c3, by omega, by go_num, rfl, by rw [HPL.out]; exact ⟨vs, L3⟩, T3⟩
            case measure => simp [intOf]; omega
          · have HPL : Hid (rows (pl 100 R (p * 100 + (q + 1))) = rows (pl 100 R (p * 100 + q)) ++ [[(p : Int), (q : Int)]]) := by
              show _ = _
              rw [← Nat.add_assoc, pl_yes (by rw [hmd.1, hmd.2]; exact hbR.1 rfl), rows_snoc, hmd.1, hmd.2]
            clear hbR hmd hbb
            have BX : Below wr.heap.size wr (wr.alloc (.cells #[.int .i64 (p : Int), .int .i64 (q : Int)] 3)) := (Below.refl _ _).alloc (Nat.le_refl _) _
            have OX : Own (wr.alloc (.cells #[.int .i64 (p : Int), .int .i64 (q : Int)] 3)) wr.heap.size 3 (some ⟨wr.heap.size, 0, none⟩) 2 2 (ints .i64 [(p : Int), (q : Int)]) := World.ownsRow_lit wr #[.int .i64 (p : Int), .int .i64 (q : Int)] 2 (Nat.le_refl _) (by unfold maxLen; omega) rfl
            have L4 := L3.bel BX
            have B4 := T3.trans (BX.mono hge)
            have s4 := BX.size
            have SN := L4.snocV L3 s4 hge OX
            generalize hW4 : wr.alloc (.cells #[.int .i64 (p : Int), .int .i64 (q : Int)] 3) = W4 at BX OX L4 B4 s4 SN
            go_wp2_with (at_builtin; refine wpList_apps _ rfl (.tmp 36) (.tmp 40) 33 rfl W.heap.size 25 j0 (.slice none 0 0) 24 Tryd.underlying33 hj hy0 hy1 hy2 rfl A3 kk c3 vs rfl L4.1 1 1 #[.slice (some ⟨wr.heap.size, 0, none⟩) 2 2] rfl rfl (by simp [Value.oneCell']) (by decide) (by omega) (by decide) (by omega) ?_; intro g6 c6 w6 O6 G6 B6 hat6)
            have OVn := SN g6 c6 w6 O6 G6 hat6
            have D6 := B4.trans B6
            clear SN O6 G6 hat6 OX L4
            go_roundw
            case rel => exact ⟨_, _, _, _, ⟨q + 1, by omega, rfl, kk + 1, _, _, rfl, by rw [HPL.out]; exact ⟨_, OVn⟩, D6⟩, rfl, rfl, rfl, by go_num⟩
            case measure => simp [intOf]; omega
        · have hqB : decide ((q : Int) < 100) = false := by simp; omega
          obtain rfl : q = 100 := by omega
          go_wp2
          go_roundw
          case rel => exact ⟨p + 1, kk, A3, c3, by omega, by go_num, rfl, by rw [Nat.add_mul, Nat.one_mul]; exact ⟨vs, L3⟩, T3⟩
          case measure => simp [intOf]; omega
    · have hltB : decide ((p : Int) < 100) = false := by simp; omega
      obtain rfl : p = 100 := by omega
      go_wp2
      go_ret
      exact ⟨_, _, _, rfl, L, T⟩
end Go.Proofs.YthcfjnedpffbbaaDoor
