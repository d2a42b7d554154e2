/-
  Chapter 15's program, stretches: what is proved here is what slices.CompactFunc does to a list of stretches that the call owns, and that it writes nothing else. Condition: lengths up to 2^20.
-/
import Derived.Test.YtmifhkhanjiklaaImp15e
import Derived.Lib.SliceRun
namespace Go.Proofs.Ytmifhkhanjiklaa
open Go.RowKit

/- Rows that differ from the one ahead of them, one more. -/
def lastV (p : Int) : List Duo → Int
  | [] => p
  | y :: r => lastV y.2 r
theorem compF_snoc (p : Int) (r : List Duo) (x : Duo) : compF p (r ++ [x]) = compF p r ++ if x.2 = lastV p r then [] else [x] := by
  induction r generalizing p with
  | nil => rfl
  | cons y r ih =>
    have e1 : compF p (y :: r ++ [x]) = if y.2 = p then compF p (r ++ [x]) else y :: compF y.2 (r ++ [x]) := rfl
    have e2 : compF p (y :: r) = if y.2 = p then compF p r else y :: compF y.2 r := rfl
    have e3 : lastV p (y :: r) = lastV y.2 r := rfl
    rw [e1, e2, e3]
    by_cases h : y.2 = p
    · rw [if_pos h, if_pos h, ih p, h]
    · rw [if_neg h, if_neg h, ih y.2]; rfl
theorem lastV_take (x : Duo) (r : List Duo) : ∀ m, m ≤ r.length → lastV x.2 (r.take m) = (dj (x :: r) m).2 := by
  intro m
  induction m generalizing x r with
  | zero => intro _; rfl
  | succ m ih =>
    intro hm
    cases r with
    | nil => simp at hm
    | cons y r =>
      rw [List.take_succ_cons]
      exact ih y r (by simpa using hm)
theorem compS_take {C : List Duo} {j : Nat} (h0 : 0 < j) (hj : j < C.length) : compS (C.take (j + 1)) = compS (C.take j) ++ if (dj C j).2 = (dj C (j - 1)).2 then [] else [dj C j] := by
  cases C with
  | nil => simp at hj
  | cons x r =>
    obtain ⟨m, rfl⟩ : ∃ m, j = m + 1 := ⟨j - 1, by omega⟩
    have hm : m < r.length := by simpa using hj
    rw [List.take_succ_cons, List.take_succ_cons, compS, compS, List.take_add_one, dj_someT hm]
    show x :: compF x.2 (r.take m ++ [dj r m]) = _
    rw [compF_snoc, lastV_take x r m (by omega)]
    rfl
theorem compS_one {C : List Duo} (h : 0 < C.length) : compS (C.take 1) = C.take 1 := by
  cases C with
  | nil => simp at h
  | cons x r => rfl
theorem compS_go {C : List Duo} {j : Nat} (h : compS (C.take (j + 1)) = C.take (j + 1)) (hj : j + 1 < C.length) (hne : (dj C (j + 1)).2 ≠ (dj C j).2) : compS (C.take (j + 1 + 1)) = C.take (j + 1 + 1) := by
  rw [compS_take (by omega) hj, h, show j + 1 - 1 = j by omega, if_neg hne, List.take_add_one (i := j + 1), dj_someT hj]
  rfl
/-- The second loop: p rows stand at the front, j rows are gone through. -/
def CmpTo (C M : List Duo) (p j : Nat) : Prop := 0 < p ∧ p < j ∧ M.length = C.length ∧ M.take p = compS (C.take j) ∧ ∀ i, j ≤ i + 1 → dj M i = dj C i
theorem cmp_start {C : List Duo} {j : Nat} (h : compS (C.take (j + 1)) = C.take (j + 1)) (hj : j + 1 < C.length) (he : (dj C (j + 1)).2 = (dj C j).2) : CmpTo C C (j + 1) (j + 1 + 1) := by
  refine ⟨by omega, by omega, rfl, ?_, fun i _ => rfl⟩
  rw [compS_take (by omega) hj, h, show j + 1 - 1 = j by omega, if_pos he, List.append_nil]
theorem cmp_skip {C M : List Duo} {p j : Nat} (h : CmpTo C M p j) (hj : j < C.length) (he : (dj C j).2 = (dj C (j - 1)).2) : CmpTo C M p (j + 1) := by
  obtain ⟨h1, h2, h3, h4, h5⟩ := h
  refine ⟨h1, by omega, h3, ?_, fun i hi => h5 i (by omega)⟩
  rw [compS_take (by omega) hj, if_pos he, List.append_nil, h4]
theorem cmp_keep {C M : List Duo} {p j : Nat} (h : CmpTo C M p j) (hj : j < C.length) (hne : (dj C j).2 ≠ (dj C (j - 1)).2) : CmpTo C (M.set p (dj C j)) (p + 1) (j + 1) := by
  obtain ⟨h1, h2, h3, h4, h5⟩ := h
  refine ⟨by omega, by omega, by rw [List.length_set]; exact h3, ?_, fun i hi => ?_⟩
  · rw [compS_take (by omega) hj, if_neg hne, ← h4, List.take_add_one, List.getElem?_set_self (by omega), List.take_set_of_le (Nat.le_refl p)]
    rfl
  · unfold dj
    rw [List.getD_eq_getElem?_getD, List.getElem?_set_ne (by omega), ← List.getD_eq_getElem?_getD]
    exact h5 i (by omega)
theorem flatD_take (hs : List Duo) (k : Nat) : flatD (hs.take k) = (flatD hs).take (k * 2) := by
  induction hs generalizing k with
  | nil => simp [flatD]
  | cons x r ih =>
    cases k with
    | zero => simp [flatD]
    | succ k =>
      rw [List.take_succ_cons, show (k + 1) * 2 = k * 2 + 1 + 1 by omega]
      simp [flatD, ih]
/-- The first rows of a list of the call's own. -/
theorem ownRow_front {w : World} {lo n c k g : Nat} {e : TypeId} {xs : List Value} (h : w.ownsRow lo e 2 (.slice (some ⟨g, 0, none⟩) n c) n xs) (hk : k ≤ n) : w.ownsRow lo e 2 (.slice (some ⟨g, 0, none⟩) k c) k (xs.take (k * 2)) := by
  obtain ⟨h1, h2⟩ := h
  refine ⟨by rw [List.length_take, h1]; omega, ?_⟩
  rcases h2 with ⟨hv, _⟩ | ⟨g', cap, cur, hv, r0, r1, r2, r3, r4, r5⟩
  · cases hv
  · cases hv
    exact .inr ⟨_, _, cur, rfl, r0, r1, by omega, r3, r4, by rw [← r5, List.take_take]; congr 1; omega⟩
theorem own_setCells15 {lo n c g : Nat} {e : TypeId} : ∀ (vs : List Value) (o : Nat) (w : World) (xs : List Value), w.ownsRow lo e 2 (.slice (some ⟨g, 0, none⟩) n c) n xs →
    ∃ ys, (w.setCells g o vs).ownsRow lo e 2 (.slice (some ⟨g, 0, none⟩) n c) n ys ∧ ys.take o = xs.take o ∧ w.grownBy (w.setCells g o vs) (some g)
  | [], o, w, xs, h => ⟨xs, h, rfl, World.grownBy.refl _ _⟩
  | v :: r, o, w, xs, h => by
    obtain ⟨q1, r1⟩ := World.ownsRow.stored h o v
    obtain ⟨ys, h1, h2, h3⟩ := own_setCells15 r (o + 1) _ _ q1
    refine ⟨ys, h1, ?_, gr_trans r1 h3⟩
    have e1 : (ys.take (o + 1)).take o = ys.take o := by rw [List.take_take]; congr 1; omega
    have e2 : ((xs.set o v).take (o + 1)).take o = xs.take o := by rw [List.take_take, show min o (o + 1) = o by omega, List.take_set_of_le (Nat.le_refl o)]
    rw [← e1, h2, e2]
/-- 'clear(s)' of rows of two. -/
theorem run_clearD {P : Program} (w : World) (t e ty : TypeId) (ht : P.underlying t = some (.slice e)) (hv : ∀ w, (zeroValue e).run P w = .ok (.agg #[.int .i64 0, .int .i64 0]) w) (b o n c : Nat) (hn : 0 < n)
    (hc : ∀ j, j < n * 2 → (w.cell? ⟨b, o + j, none⟩).isSome = true) (hf : ∀ j, j < n * 2 → w.frozen? ⟨b, o + j, none⟩ = false) :
    (Builtin.clear_ #[t] ty #[.slice (some ⟨b, o, none⟩) n c]).run P w = .ok (.tuple #[]) (w.setCells b o (List.replicate (n * 2) (.int .i64 0))) := by
  have hzc : (Builtin.zeroCells (Value.cells (.agg #[.int .i64 0, .int .i64 0])) n).toList = List.replicate (n * 2) (.int .i64 0) := by
    apply List.ext_getElem?
    intro j
    by_cases hj : j < n * 2
    · have h3 : j % 2 = 0 ∨ j % 2 = 1 := by omega
      rcases h3 with h3 | h3 <;> simp [Builtin.zeroCells, hj, h3, Value.cells]
    · simp [Builtin.zeroCells, hj, Value.cells]
  have hst := run_storeCells_cells (P := P) b o (List.replicate (n * 2) (.int .i64 0)) 0 w (by simpa using hc) (by simpa using hf) (by intro v hv'; rw [List.eq_of_mem_replicate hv']; rfl)
  simp only [Nat.add_zero] at hst
  obtain ⟨m, rfl⟩ : ∃ m, n = m + 1 := ⟨n - 1, by omega⟩
  simp [Builtin.clear_, run_underlying ht, hv, hzc, hst]
/-- 'list[l:]' of a list of rows of two that begins its block. -/
theorem run_tail15 {P : Program} {t e : TypeId} (ht : P.underlying t = some (.slice e)) (hz : ∀ w, (Go.sizeOf e).run P w = .ok 2 w) {g n c l : Nat} {z : Int} (hnc : n ≤ c) (hl : l < n) (hlz : z = (l : Int)) :
    ∀ W, (Instr.slice t (.slice (some ⟨g, 0, none⟩) n c) (some (.int .i64 z)) none none).run P W = .ok (.slice (some ⟨g, l * 2, none⟩) (n - l) (c - l)) W := fun W => by
  subst hlz
  have ht' : P.underlying t = some (.slice (P.elem t)) := by simp [Program.elem, ht]
  have he : P.elem t = e := by simp [Program.elem, ht]
  have hc : ¬ c = l := by omega
  rw [run_slice_l W t _ _ _ ht' .i64 _ (by omega) (by omega), he, hz]
  by_cases h0 : l = 0
  · subst h0; simp [Result.andThen, sliced, Addr.add, hc]
  · have hl2 : ¬ l * 2 = 0 := by omega
    simp [Result.andThen, sliced, Addr.add, hc, hl2]
theorem run_front15 {P : Program} {t e : TypeId} {sz : Nat} (ht : P.underlying t = some (.slice e)) (hz : ∀ w, (Go.sizeOf e).run P w = .ok sz w) {b o n c k : Nat} {z : Int} (hk : k ≤ c) (hzk : z = (k : Int)) :
    ∀ W, (Instr.slice t (.slice (some ⟨b, o, none⟩) n c) none (some (.int .i64 z)) none).run P W = .ok (.slice (some ⟨b, o, none⟩) k c) W := fun W => by
  subst hzk
  have ht' : P.underlying t = some (.slice (P.elem t)) := by simp [Program.elem, ht]
  have he : P.elem t = e := by simp [Program.elem, ht]
  rw [run_slice_h W t _ _ _ ht' .i64 _ (by omega) (by omega), he, hz]
  simp [Result.andThen, sliced, Addr.add]

theorem sameSpans_any {x y x' y' : Int} {b : Bool} {w : World} (hb : (y == y') = b) :
    Calls Try.prog 78 #[.agg #[.int .i64 x, .int .i64 y], .agg #[.int .i64 x', .int .i64 y']] w fun e w' => e = .returned (.bool b) ∧ Below w.heap.size w w' := by
  obtain ⟨W1, hW1⟩ : ∃ W1, w.alloc (.cells #[.int .i64 x, .int .i64 y] 84) = W1 := ⟨_, rfl⟩
  have B1 : Below w.heap.size w W1 := hW1 ▸ below_allocQ w _
  have K1 : DRow W1 w.heap.size 84 x y := hW1 ▸ dRow_alloc w _ _ _
  obtain ⟨W2, hW2⟩ : ∃ W2, W1.alloc (.cells #[.int .i64 x', .int .i64 y'] 84) = W2 := ⟨_, rfl⟩
  have B2 : Below W1.heap.size W1 W2 := hW2 ▸ below_allocQ W1 _
  have K2 : DRow W2 W1.heap.size 84 x' y' := hW2 ▸ dRow_alloc W1 _ _ _
  have B3 := bel_trans B1 B2
  obtain ⟨c0, c1⟩ := (K1.bel B2).cells
  obtain ⟨d0, d1⟩ := K2.cells
  clear K1 K2 B1 B2
  go_enter Try.func78, Try.ntmps78
  go_wp2
  go_ret
  exact ⟨by rfl, B3⟩
set_option maxRecDepth 100000 in
set_option maxHeartbeats 8000000 in
theorem compact_any {lo g n c : Nat} {C : List Duo} {w : World} (h : OwnD w lo 84 (some ⟨g, 0, none⟩) n c C) (hn : n ≤ 1000) (hp : 0 < n) :
    Calls Try.prog 77 #[.slice (some ⟨g, 0, none⟩) n c, .func (.func 78) #[] #[]] w fun e w' => ∃ n', e = .returned (.slice (some ⟨g, 0, none⟩) n' c) ∧ OwnD w' lo 84 (some ⟨g, 0, none⟩) n' c (compS C) ∧ w.grownBy w' (some g) := by
  have HL := Lib.hid h.len
  have hnc := h.cap
  have hg := World.ownsRow.lt h g rfl
  have H0 := Lib.hid h
  have hC := h.2
  by_cases h2 : n < 2
  · have b1 : decide ((n : Int) < 2) = true := by simp; omega
    have HE : Hid (compS C = C) := by
      have h1 := compS_one (C := C) (by have := HL.out; omega)
      rw [List.take_of_length_le (by have := HL.out; omega)] at h1
      exact h1
    clear h hC h2
    go_enter Try.func77, Try.ntmps77
    go_wp2
    go_ret
    exact ⟨n, rfl, HE.out.symm ▸ H0.out, World.grownBy.refl _ _⟩
  have b1 : decide ((n : Int) < 2) = false := by simp; omega
  have h2n : 2 ≤ n := by omega
  clear h hC h2
  go_enter Try.func77, Try.ntmps77
  go_wp2
  go_loopw [5] (fun t wr => ∃ j : Nat, j + 1 ≤ n ∧ t = .int .i64 ((j : Int) + 1) ∧ Hid (compS (C.take (j + 1)) = C.take (j + 1)) ∧ Below w.heap.size w wr) (fun t _ => n - (intOf t).toNat)
  case atStart =>
    have h1 : Hid (compS (C.take (0 + 1)) = C.take (0 + 1)) := compS_one (by have := HL.out; omega)
    exact ⟨0, by omega, rfl, h1, Below.refl _ _⟩
  case round =>
    obtain ⟨j, hj, rfl, HC, B⟩ := hrel
    have hge := B.size
    by_cases hlt : j + 1 < n
    · have q1 : decide ((j : Int) + 1 < (n : Int)) = true := decide_eq_true (by omega)
      have q2 : (0 : Int) ≤ (j : Int) + 1 := by omega
      have q3 : (j : Int) + 1 < (n : Int) := by omega
      have q4 : (j : Int) < (n : Int) := by omega
      have ej : ((j : Int) + 1).toNat = j + 1 := by omega
      have wj : IntKind.i64.wrap ((j : Int) + 1 - 1) = (j : Int) := by rw [show (j : Int) + 1 - 1 = (j : Int) by omega]; exact IntWalk.i64_in _ (by omega)
      have wj2 : IntKind.i64.wrap (j : Int) = (j : Int) := IntWalk.i64_in _ (by omega)
      have O := H0.out.bel B
      obtain ⟨x, hx, c0, c1⟩ := O.cells (i := j + 1) hlt
      obtain ⟨y, hy, d0, d1⟩ := O.cells (i := j) (by omega)
      obtain ⟨x0, x1⟩ := x
      obtain ⟨y0, y1⟩ := y
      dsimp only at c0 c1 d0 d1
      have r0 := cell_regrown c0
      have r1 := cell_regrown c1
      have s0 := cell_regrown d0
      have s1 := cell_regrown d1
      have HX := Lib.hid (show dj C (j + 1) = (x0, x1) ∧ dj C j = (y0, y1) from ⟨dj_atT hx, dj_atT hy⟩)
      obtain ⟨b, hb⟩ : ∃ b, (x1 == y1) = b := ⟨_, rfl⟩
      have cR := fun d os => Calls.regrown_of (d := d) (os := os) (w := wr) (sameSpans_any (x := x0) (x' := y0) hb)
      have HB := Lib.hid hb
      clear hx hy c0 c1 d0 d1 hb
      go_wp2
      refine wp_region_quiet_below (by kernel_rfl) (by kernel_rfl) ?_
      repeat (quiet_step (exact cR _ _))
      refine wpQuiet_nil ?_
      intro w5 hw'
      obtain ⟨⟨dq, osq⟩, hw''⟩ := hw'
      have B5 : Below w.heap.size w w5 := B.trans (by rw [hw'']; exact (below_regrown wr dq osq).mono hge)
      clear hw'' O r0 r1 s0 s1 cR B
      cases b with
      | false =>
        have HC2 : Hid (compS (C.take (j + 1 + 1)) = C.take (j + 1 + 1)) := compS_go HC.out (by have := HL.out; omega) (by rw [HX.out.1, HX.out.2]; have := HB.out; simpa using this)
        go_wp2
        go_roundw
        case rel => exact ⟨j + 1, by omega, by go_num, HC2, B5⟩
        case measure => simp [intOf]; omega
      | true =>
        have HM := Lib.hid (cmp_start HC.out (by have := HL.out; omega) (by rw [HX.out.1, HX.out.2]; have := HB.out; simpa using this))
        have RT := run_tail15 (P := Try.prog) (t := 81) Try.underlying81 Try.sizeOf84 (g := g) (n := n) (c := c) (l := j + 1) (z := (j : Int) + 1) hnc hlt (by omega)
        have O5 := H0.out.bel B5
        have G5 : w.grownBy w5 (some g) := (gr_bel (World.grownBy.refl w (some g)) B5)
        obtain ⟨m2, hm2⟩ : ∃ m, n - (j + 1) = m := ⟨_, rfl⟩
        obtain ⟨c2, hc2⟩ : ∃ m, c - (j + 1) = m := ⟨_, rfl⟩
        rw [hm2, hc2] at RT
        have HM2 := Lib.hid (show n = j + 1 + m2 by omega)
        have hm3 : 1 ≤ m2 := by omega
        have hm4 : m2 ≤ 1000 := by omega
        clear HX HB HC B5 hm2 hc2
        go_wp2
        go_loopw [5, 7] (fun a b wx => ∃ (p q : Nat) (M : List Duo), q + 1 ≤ m2 ∧ a = .int .i64 (p : Int) ∧ b = .int .i64 ((q : Int) + 1) ∧ Hid (CmpTo C M p (j + 1 + (q + 1))) ∧ OwnD wx lo 84 (some ⟨g, 0, none⟩) n c M ∧ w.grownBy wx (some g)) (fun _ b _ => m2 - (intOf b).toNat)
        case atStart => exact ⟨j + 1, 0, C, hm3, by go_num, rfl, HM, O5, G5⟩
        case round =>
          clear O5 G5 HM hge
          obtain ⟨p, q, M, hq, rfl, rfl, HM, O, G⟩ := hrel
          have hge := G.size
          have hp1 := HM.out.2.1
          have hp0 := HM.out.1
          have hnm := HM2.out
          have hpn : p < n := by omega
          have HPN := Lib.hid hpn
          by_cases hql : q + 1 < m2
          · have t1 : decide ((q : Int) + 1 < (m2 : Int)) = true := decide_eq_true (by omega)
            have t2 : (0 : Int) ≤ (q : Int) + 1 := by omega
            have t3 : (q : Int) + 1 < (m2 : Int) := by omega
            have t4 : (q : Int) < (m2 : Int) := by omega
            have t5 : (p : Int) < (n : Int) := by omega
            have eq : ((q : Int) + 1).toNat = q + 1 := by omega
            have wq : IntKind.i64.wrap ((q : Int) + 1 - 1) = (q : Int) := by rw [show (q : Int) + 1 - 1 = (q : Int) by omega]; exact IntWalk.i64_in _ (by omega)
            have wq2 : IntKind.i64.wrap (q : Int) = (q : Int) := IntWalk.i64_in _ (by omega)
            obtain ⟨x, hx, c0, c1⟩ := O.cells (i := j + 1 + (q + 1)) (by omega)
            obtain ⟨y, hy, d0, d1⟩ := O.cells (i := j + 1 + q) (by omega)
            obtain ⟨x0, x1⟩ := x
            obtain ⟨y0, y1⟩ := y
            dsimp only at c0 c1 d0 d1
            rw [show (j + 1 + (q + 1)) * 2 = (j + 1) * 2 + (q + 1) * 2 by omega] at c0 c1
            rw [show (j + 1 + q) * 2 = (j + 1) * 2 + q * 2 by omega] at d0 d1
            have hbl := (World.ownsRow.lt O g rfl).2
            have r0 := cell_regrown c0
            have r1 := cell_regrown c1
            have s0 := cell_regrown d0
            have s1 := cell_regrown d1
            have HX := Lib.hid (show dj C (j + 1 + (q + 1)) = (x0, x1) ∧ dj C (j + 1 + q) = (y0, y1) from ⟨(HM.out.2.2.2.2 _ (by omega)).symm.trans (dj_atT hx), (HM.out.2.2.2.2 _ (by omega)).symm.trans (dj_atT hy)⟩)
            have HJ := Lib.hid (show j + 1 + (q + 1) < C.length by have := HL.out; omega)
            obtain ⟨b, hb⟩ : ∃ b, (x1 == y1) = b := ⟨_, rfl⟩
            have cR := fun d os => Calls.regrown_of (d := d) (os := os) (w := wr) (sameSpans_any (x := x0) (x' := y0) hb)
            have HB := Lib.hid hb
            clear hx hy hb hnm hp1 hp0 hpn d0 d1
            go_wp2
            refine wp_region_quiet_below (by kernel_rfl) (by kernel_rfl) ?_
            repeat (quiet_step (exact cR _ _))
            refine wpQuiet_nil ?_
            intro w5 hw'
            obtain ⟨⟨dq, osq⟩, hw''⟩ := hw'
            have B5 : Below wr.heap.size wr w5 := by rw [hw'']; exact below_regrown wr dq osq
            have O5 := O.bel B5
            have G5 := gr_bel G B5
            clear hw'' O G r0 r1 s0 s1 cR
            cases b with
            | true =>
              have HM3 : Hid (CmpTo C M p (j + 1 + (q + 1 + 1))) := cmp_skip (j := j + 1 + (q + 1)) HM.out HJ.out (by rw [show j + 1 + (q + 1) - 1 = j + 1 + q by omega, HX.out.1, HX.out.2]; have := HB.out; simpa using this)
              go_wp2
              go_roundw
              case rel => exact ⟨p, q + 1, M, by omega, rfl, by go_num, HM3, O5, G5⟩
              case measure => simp [intOf]; omega
            | false =>
              have HM3 : Hid (CmpTo C (M.set p (x0, x1)) (p + 1) (j + 1 + (q + 1 + 1))) := by
                have := cmp_keep (j := j + 1 + (q + 1)) HM.out HJ.out (by rw [show j + 1 + (q + 1) - 1 = j + 1 + q by omega, HX.out.1, HX.out.2]; have := HB.out; simpa using this)
                rw [HX.out.1] at this
                exact this
              have e0 := (B5.cell (p := ⟨g, (j + 1) * 2 + (q + 1) * 2, none⟩) hbl).trans c0
              have e1 := (B5.cell (p := ⟨g, (j + 1) * 2 + (q + 1) * 2 + 1, none⟩) hbl).trans c1
              obtain ⟨z, _, f0, f1⟩ := O5.cells HPN.out
              have fz : ∀ i, w5.frozen? ⟨g, i, none⟩ = false := World.ownsRow.frozenAt O5
              obtain ⟨O6, G6⟩ := O5.put p (x0, x1)
              have G7 := gr_trans G5 G6
              clear O5 G5 G6 c0 c1 HX HB
              go_wp2
              go_roundw
              case rel => exact ⟨p + 1, q + 1, _, by omega, by go_num, by go_num, HM3, O6, G7⟩
              case measure => simp [intOf]; omega
          · have t1 : decide ((q : Int) + 1 < (m2 : Int)) = false := decide_eq_false (by omega)
            have hjn : j + 1 + (q + 1) = n := by omega
            have HCC := Lib.hid (show M.take p = compS C by
              have h1 := HM.out.2.2.2.1
              rw [hjn, List.take_of_length_le (l := C) (by have := HL.out; omega)] at h1
              exact h1)
            have RT2 := run_tail15 (P := Try.prog) (t := 81) Try.underlying81 Try.sizeOf84 (g := g) (n := n) (c := c) (l := p) (z := (p : Int)) hnc hpn rfl
            have RF := run_front15 (P := Try.prog) (t := 81) Try.underlying81 Try.sizeOf84 (b := g) (o := 0) (n := n) (c := c) (k := p) (z := (p : Int)) (by omega) rfl
            have hcell : ∀ i, i < n * 2 → (wr.cell? ⟨g, i, none⟩).isSome = true := fun i hi => by
              obtain ⟨x, _, c0, c1⟩ := O.cells (i := i / 2) (by omega)
              have h3 : i = i / 2 * 2 ∨ i = i / 2 * 2 + 1 := by omega
              rcases h3 with h3 | h3
              · rw [h3, c0]; rfl
              · rw [h3, c1]; rfl
            have hcl : ∀ ty, (Builtin.clear_ #[81] ty #[.slice (some ⟨g, p * 2, none⟩) (n - p) (c - p)]).run Try.prog wr = .ok (.tuple #[]) (wr.setCells g (p * 2) (List.replicate ((n - p) * 2) (.int .i64 0))) :=
              fun ty => run_clearD wr _ _ ty Try.underlying81 Try.zeroValue84 g (p * 2) (n - p) (c - p) (by omega) (fun i hi => hcell _ (by omega)) (fun i _ => World.ownsRow.frozenAt O _)
            obtain ⟨ys, y1, y2, y3⟩ := own_setCells15 (List.replicate ((n - p) * 2) (.int .i64 0)) (p * 2) wr _ O
            have HO := Lib.hid (show OwnD (wr.setCells g (p * 2) (List.replicate ((n - p) * 2) (.int .i64 0))) lo 84 (some ⟨g, 0, none⟩) p c (compS C) by
              have h1 := ownRow_front y1 (k := p) (by omega)
              rw [y2, ← flatD_take, HCC.out] at h1
              exact h1)
            have HG := Lib.hid (gr_trans G y3)
            clear hcell y1 y2 y3 O G hnm hp1 hp0 hpn hjn
            go_wp2
            go_ret
            exact ⟨p, rfl, HO.out, HG.out⟩
    · have q1 : decide ((j : Int) + 1 < (n : Int)) = false := decide_eq_false (by omega)
      have HE : Hid (compS C = C) := by
        have h1 := HC.out
        rw [List.take_of_length_le (by have := HL.out; omega)] at h1
        exact h1
      go_wp2
      go_ret
      exact ⟨n, rfl, HE.out.symm ▸ H0.out.bel B, gr_bel (World.grownBy.refl w (some g)) B⟩
end Go.Proofs.Ytmifhkhanjiklaa
