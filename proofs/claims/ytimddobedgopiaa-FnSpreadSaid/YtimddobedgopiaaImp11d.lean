/-
  Chapter 11's program, shares and what moves: what is proved here is what SharesOf and MovedFlows return, in memory of their own, and that they write nothing that was there. Condition: lengths up to 2^24.
-/
import Derived.Test.YtimddobedgopiaaImp11c
import Derived.Test.YtimddobedgopiaaFlowB
namespace Go.Proofs.Ytimddobedgopiaa
open Go.RowKit Go.Shelf

attribute [local go_sem] Oper.semAt_some

/-- How many of these flows go over each wire. -/
def sharesX (us : List Bool) (xs : List Nat) : List Int := (List.range us.length).map (fun m : Nat => ((xs.countP (fun f => decide (memP us f = (m : Int))) : Nat) : Int))
theorem countP_range (p : Nat → Bool) : ∀ n, (List.range n).countP p = cnt p n
  | 0 => rfl
  | n + 1 => by
    rw [List.range_succ, List.countP_append, countP_range p n, List.countP_singleton]; rfl
theorem sharesX_range (us : List Bool) (n : Nat) : sharesX us (List.range n) = sharesTo us n := by
  unfold sharesX sharesTo
  apply List.map_congr_left
  intro m _
  unfold shareI
  rw [countP_range]
theorem sharesX_nil (us : List Bool) : sharesX us [] = List.replicate us.length 0 := by
  have := sharesX_range us 0
  rw [sharesTo_zero] at this
  exact this
theorem sharesX_get (us : List Bool) (xs : List Nat) {m : Nat} (h : m < us.length) : ∃ v : Int, (sharesX us xs)[m]? = some v ∧ 0 ≤ v ∧ v ≤ (xs.length : Int) := by
  refine ⟨((xs.countP (fun f => decide (memP us f = (m : Int))) : Nat) : Int), by unfold sharesX; rw [List.getElem?_map, List.getElem?_range h]; rfl, by omega, ?_⟩
  have := List.countP_le_length (p := fun f => decide (memP us f = (m : Int))) (l := xs)
  omega
theorem sharesX_none {us : List Bool} {xs : List Nat} {x : Nat} (h : memP us x = -1) : sharesX us (xs ++ [x]) = sharesX us xs := by
  unfold sharesX
  apply List.map_congr_left
  intro m _
  rw [List.countP_append, List.countP_singleton, h, decide_eq_false (show ¬ ((-1 : Int) = (m : Int)) by omega)]
  simp
theorem sharesX_some {us : List Bool} {xs : List Nat} {x m : Nat} {v : Int} (h : memP us x = (m : Int)) (hv : (sharesX us xs)[m]? = some v) : sharesX us (xs ++ [x]) = (sharesX us xs).set m (v + 1) := by
  apply List.ext_getElem
  · simp [sharesX]
  · intro j h1 h2
    have hj : j < us.length := by simp [sharesX] at h1; exact h1
    rw [List.getElem_set]
    by_cases e : m = j
    · subst e
      rw [if_pos rfl]
      unfold sharesX at hv
      rw [List.getElem?_map, List.getElem?_range hj] at hv
      injection hv with hv
      rw [← hv]
      simp [sharesX, List.countP_append, List.countP_singleton, h]
    · rw [if_neg e]
      simp only [sharesX, List.getElem_map, List.getElem_range]
      rw [List.countP_append, List.countP_singleton, h, decide_eq_false (show ¬ ((m : Int) = (j : Int)) by omega)]
      simp
theorem ownFrom_row {us : List Bool} {B b g lo n c : Nat} {v : Value} (h1 : b < B) (h2 : g < B) : OwnFrom B (fun (pre : List Flow11) W => Boxed W b 33 v ∧ Own W lo 3 (some ⟨g, 0, none⟩) n c (ints .i64 (sharesX us (vals11 pre)))) :=
  fun _ _ _ _ ⟨h, h3⟩ hg hr => ⟨h.kept hg (fun e => by have := (hr _ e.symm).1; omega), World.ownsRow.kept h3 hg (.inr (fun e => by have := (hr g (by simpa [Value.ownBlock] using e.symm)).1; omega))⟩

theorem wpListIn_make_fullF {F : Fence} {nF : Nat} {P : Program} (w : World) {ops : Array Oper} {rest : List Oper} {o : Oper} {a : Act} {Q : Exit → Act → World → Prop}
    (hg : o.guard = none) (l c : Operand) (t : TypeId) (hop : o.op = Op.makeSlice t l c)
    (base : Nat) (e : TypeId) (i : TypeInfo) (z : Value) (size : Nat) (h1 : P.underlying t = some (.slice e)) (h2 : P.info? e = some i) (h3 : i.zero = some z) (h4 : i.size = size)
    (kl kc : IntKind) (L C : Int) (n : Nat) (hl : a.eval l = .int kl L) (hc : a.eval c = .int kc C) (hL : L = (n : Int)) (hC : C = (n : Int)) (b2 : i.bytes * n ≤ 281474976710656) (b3 : n ≤ maxLen) (b4 : base ≤ w.heap.size)
    (hK : ∀ w', w'.ownsRow base e size (.slice (some ⟨w.heap.size, 0, none⟩) n n) n (madeCells z.cells (n * size)).toList → w.grownBy w' none → wpListIn F nF P ops Q rest (a.put o.dst (.slice (some ⟨w.heap.size, 0, none⟩) n n)) w') :
    wpListIn F nF P ops Q (o :: rest) a w := by
  refine wpListIn_plain hg fun K hK' => ?_
  obtain ⟨w', hrun, r1, r2⟩ := run_make_full (P := P) w base t e i z size h1 h2 h3 h4 kl kc n b2 b3 b4
  subst hL
  subst hC
  unfold Oper.wpIn
  refine ⟨by simp [Oper.about, hop], ?_⟩
  rw [Oper.semAt_plain F _ _ (by rw [hop]; intro c hc'; cases hc')]
  simp [execOp, hop, hl, hc, hrun, Result.andThen]
  exact hK' _ _ (hK w' r1 r2)

set_option maxRecDepth 100000 in
set_option maxHeartbeats 8000000 in
theorem implSharesOf_in {A : Option Addr} {n c : Nat} {us : List Bool} {R : List Int} {w : World} (h : Has w A n (bools us)) (hn : n ≤ 16777216) (hR : sharesI us = R) :
    CallsIn Fence.wide 5 Try.prog 25 #[.slice A n c] w fun e w' => ∃ A' n' c', e = .returned (.slice A' n' c') ∧ Own w' w.heap.size 3 A' n' c' (ints .i64 R) ∧ Below w.heap.size w w' := by
  have h1' : 1 ≤ 5 := by decide
  obtain ⟨i0, hi, hz0, hz1, hz2⟩ := info_parts Try.infoInt
  have hl := has_bools_len h
  have e8 : upOk us ↔ 1 ≤ n ∧ n ≤ 8 := by unfold upOk; omega
  unfold sharesI at hR
  by_cases h1 : 1 ≤ n ∧ n ≤ 8
  rotate_left
  · have C1 := Lib.hid (bundleOf_b (A := A) (c := c) (w := w) hn (decide_eq_false h1))
    rw [if_neg (fun hh => h1 (e8.1 hh))] at hR
    subst hR
    clear h1 hl e8
    refine callsIn_wide.2 ?_
    go_enter Try.func25, Try.ntmps25
    go_wp2_with (go_at_call 55; refine C1.out.mono ?_; rintro e w' ⟨rfl, rfl⟩)
    go_ret
    exact ⟨_, _, _, rfl, World.ownsRow_nil _ _ _ _, Below.refl _ _⟩
  have C1 := Lib.hid (bundleOf_b (A := A) (c := c) (w := w) hn (decide_eq_true h1))
  have hn8 := h1.2
  rw [if_pos (e8.2 h1)] at hR
  clear h1 e8
  refine callsIn_of_wp_marks Try.func25 rfl trivial ?_ rfl
  simp only [Try.ntmps25, List.size_toArray, List.length_cons, List.length_nil, Nat.reduceAdd, Nat.reduceSub, Array.replicate_succ, Array.replicate_zero, List.push_toArray, List.append_toArray, List.nil_append, List.cons_append]
  gi_wp2_with (fail)
  refine ⟨trivial, ?_⟩
  refine (callsIn_wide.2 C1.out).mono ?_
  rintro e w' ⟨rfl, rfl⟩
  gi_wp2_with (gi_at_make; refine wpListIn_make_fullF _ rfl _ _ 33 rfl w.heap.size 3 i0 (.int .i64 0) 1 Try.underlying33 hi hz0 hz1 .i64 .i64 _ _ n rfl rfl rfl rfl (by rw [hz2]; omega) (by unfold maxLen; omega) (Nat.le_refl _) ?_; intro w1 hown hgrow)
  refine ⟨trivial, ?_⟩
  refine (callsIn_wide.2 (flows_made _)).mono ?_
  rintro e w' ⟨rfl, rfl⟩
  gi_wp2
  have O1 : Own w1 w.heap.size 3 (some ⟨w.heap.size, 0, none⟩) n n (ints .i64 (sharesX us (vals11 []))) := by rw [show vals11 [] = [] from rfl, sharesX_nil, hl, ← zeros_intsF]; exact hown
  have B1 : Below w.heap.size w w1 := below_of_grown hgrow (Nat.le_refl _) (fun k hk => by cases hk)
  have hg1 : w.heap.size < w1.heap.size := O1.block.2
  clear hown hgrow
  obtain ⟨Wb, hWb⟩ : ∃ Wb, w1.alloc (.cells #[.slice (some ⟨w.heap.size, 0, none⟩) n n] 33) = Wb := ⟨_, rfl⟩
  rw [hWb]
  obtain ⟨W0, hW0⟩ : ∃ W0, Wb.alloc (.cells #[.slice A n c] 67) = W0 := ⟨_, rfl⟩
  rw [hW0]
  have sb : Wb.heap.size = w1.heap.size + 1 := by rw [← hWb]; simp
  have s0 : W0.heap.size = w1.heap.size + 2 := by rw [← hW0]; simp [sb]
  have bS : Boxed W0 w1.heap.size 33 (.slice (some ⟨w.heap.size, 0, none⟩) n n) := by rw [← hW0, ← hWb]; exact (Boxed.new w1 _ _).alloc _
  have bL : W0.heap[Wb.heap.size]? = some (.cells #[.slice A n c] 67 (0, 0)) := by rw [← hW0]; exact heap_alloc_new Wb _
  have D0 : Below w1.heap.size w1 W0 := by rw [← hW0, ← hWb]; exact ((Below.refl _ _).alloc (Nat.le_refl _) _).alloc (by simp) _
  have O0 := O1.bel D0
  have hB0 : Below w.heap.size w W0 := B1.trans (D0.mono (by omega))
  have hw0 := h.bel hB0
  have hL0 : LiesF A n W0.heap.size w.heap.size := lies_of h (by omega) (Nat.le_refl _)
  rw [sb] at bL
  clear hW0 hWb
  refine wpIn_rangeFunc_ownG rfl h1' (gf := 67) (lb := #[.pointer (some ⟨w1.heap.size + 1, 0, none⟩)]) rfl trivial (enters_of Try.func67 (by kernel_rfl) rfl) (flows_stops (5 - 1) (by decide) (Bo := w.heap.size) bL hw0 hn8 ⟨by omega, by omega⟩ hL0 (Nat.le_refl _)) But.trans (but_b (Nat.le_refl _)) (Below.refl _ _) (fun _ => rfl)
    (fun pre W => (Boxed W w1.heap.size 33 (.slice (some ⟨w.heap.size, 0, none⟩) n n) ∧ Own W w.heap.size 3 (some ⟨w.heap.size, 0, none⟩) n n (ints .i64 (sharesX us (vals11 pre)))) ∧ But W0.heap.size w.heap.size W0 W)
    (fun _ _ _ => False)
    (OwnFrom.and (ownFrom_row (by omega) (by omega)) (ownFrom_but (Nat.le_refl _) (Nat.le_refl _)))
    (fun _ _ _ _ _ hs _ _ => hs)
    ⟨⟨bS, O0⟩, But.refl _ _ _⟩
    (fun x => { tmps := #[.slice A n c, undef, .slice none 0 0, .slice A n c, .bool true, .pointer (some ⟨w1.heap.size, 0, none⟩), undef, .int .i64 (memP us x.1), .tuple #[.slice A n c, .bool true], .slice A n c, .tuple #[.slice A n c, .bool true], .slice A n c, .bool true, .bool true, .bool false, .slice A n c, .int .i64 (n : Int), .slice (some ⟨w.heap.size, 0, none⟩) n n, .slice A n c, .func (.func 67) #[] #[.pointer (some ⟨w1.heap.size + 1, 0, none⟩)], .int .i64 (x.1 : Int), .int .i64 (memP us x.1), undef, undef, undef, undef, undef, undef, undef, undef, undef], defers := [] }) ?assign ?body ?done ?stop
  case assign =>
    intro l x W K hK
    dsimp only [enc11]
    gi_wp2
    exact hK
  case body =>
    rintro l pre x W ⟨⟨hv, hO⟩, hB⟩ hlt
    have hc := hv.cell
    have hsz := hB.size
    have hmp := memP_lt us x.1
    obtain ⟨q, hq⟩ : ∃ q, memP us x.1 = q := ⟨_, rfl⟩
    rw [hl, hq] at hmp
    rw [hq]
    by_cases hq1 : q = -1
    · have qB : (q != -1) = false := by simp [hq1]
      have HN := Lib.hid (sharesX_none (xs := vals11 pre) (hq.trans hq1))
      clear hq hq1 hmp hlt
      gi_wp2
      exact ⟨KeepsFrom.refl _ _, But.refl _ _ _, ⟨hv, by rw [vals11_snoc, HN.out]; exact hO⟩, hB⟩
    · have qB : (q != -1) = true := by simp [hq1]
      obtain ⟨m, rfl⟩ := Int.eq_ofNat_of_zero_le (show 0 ≤ q by omega)
      have hm : m < n := by omega
      obtain ⟨v, hv1, hv2, hv3⟩ := sharesX_get us (vals11 pre) (show m < us.length by omega)
      rw [vals11_len] at hv3
      have HS := Lib.hid (sharesX_some hq hv1)
      obtain ⟨u, hu, hd, hf⟩ := hO.at_ hm
      rw [ints_getI hv1] at hu
      injection hu with hu
      subst hu
      have P1 := hO.set_ m (.int .i64 (v + 1))
      rw [ints_set, ← HS.out] at P1
      have hm0 : 0 ≤ (m : Int) := by omega
      have hm1 : (m : Int) < (n : Int) := by omega
      have wS : IntKind.i64.wrap (v + 1) = v + 1 := IntWalk.i64_in _ (by omega)
      have G : W.grownBy (W.setCell ⟨w.heap.size, m, none⟩ (.int .i64 (v + 1))) (some w.heap.size) := ⟨rfl, rfl, rfl, (KeepsWalks.setCell W _ _).size, fun k _ hk => Below.heap_setCell _ _ _ k (fun e => hk (by rw [e]))⟩
      clear hq hq1 hmp hlt hv1
      gi_wp2
      exact ⟨KeepsFrom.of_grownBy G (fun j e => by cases e; omega), (But.refl _ _ _).grown G hsz, ⟨hv.kept G (by simp; omega), by rw [vals11_snoc]; exact P1⟩, hB.grown G hsz⟩
  case done =>
    rintro D ys W hD hS ⟨⟨hv, hO⟩, hB⟩ hK
    have hc := hv.cell
    rw [hS, sharesX_range, hR] at hO
    gi_wp2
    refine ⟨by simp, .inl ⟨_, _, rfl, run_takeDeferred hK, ?_⟩⟩
    refine ⟨_, results_tmp rfl _ _ _, _, _, _, rfl, ownsRow_putObj hO _ hK rfl, ?_⟩
    exact hB0.trans ((hB.below (by omega) (Nat.le_refl _)).trans (belowK_b (w := W0) (by omega) W D _ _ hD hK rfl rfl))
  case stop =>
    rintro D c pre W _ _ h _
    exact h.elim
theorem implSharesOf_r {A : Option Addr} {n c : Nat} {us : List Bool} {R : List Int} {w : World} (h : Has w A n (bools us)) (hn : n ≤ 16777216) (hR : sharesI us = R) :
    Calls Try.prog 25 #[.slice A n c] w fun e w' => ∃ A' n' c', e = .returned (.slice A' n' c') ∧ Own w' w.heap.size 3 A' n' c' (ints .i64 R) ∧ Below w.heap.size w w' := callsIn_wide.1 (implSharesOf_in h hn hR)

/-- How many of these flows have another wire. -/
def movedX (us vs : List Bool) (xs : List Nat) : Int := ((xs.countP (fun f => decide (memP us f ≠ memP vs f)) : Nat) : Int)
theorem movedX_range (us vs : List Bool) (n : Nat) : movedX us vs (List.range n) = movedTo us vs n := by
  unfold movedX movedTo
  rw [countP_range]
theorem movedX_bounds (us vs : List Bool) (xs : List Nat) : 0 ≤ movedX us vs xs ∧ movedX us vs xs ≤ (xs.length : Int) := by
  unfold movedX
  have := List.countP_le_length (p := fun f => decide (memP us f ≠ memP vs f)) (l := xs)
  omega
theorem movedX_yes {us vs : List Bool} {xs : List Nat} {x : Nat} (h : memP us x ≠ memP vs x) : movedX us vs (xs ++ [x]) = movedX us vs xs + 1 := by
  unfold movedX
  rw [List.countP_append, List.countP_singleton, if_pos (decide_eq_true h)]
  omega
theorem movedX_not {us vs : List Bool} {xs : List Nat} {x : Nat} (h : memP us x = memP vs x) : movedX us vs (xs ++ [x]) = movedX us vs xs := by
  unfold movedX
  rw [List.countP_append, List.countP_singleton, if_neg (by simp [h])]
  omega
theorem ownFrom_num {us vs : List Bool} {B b : Nat} (h1 : b < B) : OwnFrom B (fun (pre : List Flow11) W => Boxed W b 3 (.int .i64 (movedX us vs (vals11 pre)))) :=
  fun _ _ _ _ h hg hr => h.kept hg (fun e => by have := (hr _ e.symm).1; omega)

set_option maxRecDepth 100000 in
set_option maxHeartbeats 8000000 in
theorem implMovedFlows_in {A A' : Option Addr} {n c n' c' : Nat} {us vs : List Bool} {r : Int} {w : World} (h : Has w A n (bools us)) (h' : Has w A' n' (bools vs)) (hn : n ≤ 16777216) (hn' : n' ≤ 16777216) (hr : movedI us vs = r) :
    CallsIn Fence.wide 5 Try.prog 29 #[.slice A n c, .slice A' n' c'] w fun e w' => e = .returned (.int .i64 r) ∧ Below w.heap.size w w' := by
  have h1' : 1 ≤ 5 := by decide
  have hl := has_bools_len h
  have hl' := has_bools_len h'
  have e8 : upOk us ↔ 1 ≤ n ∧ n ≤ 8 := by unfold upOk; omega
  unfold movedI at hr
  by_cases h1 : 1 ≤ n ∧ n ≤ 8
  rotate_left
  · have C1 := Lib.hid (bundleOf_b (A := A) (c := c) (w := w) hn (decide_eq_false h1))
    rw [if_neg (fun hh => h1 (e8.1 hh.1))] at hr
    subst hr
    clear h1 hl hl' e8
    refine callsIn_wide.2 ?_
    go_enter Try.func29, Try.ntmps29
    go_wp2_with (go_at_call 55; refine C1.out.mono ?_; rintro e w' ⟨rfl, rfl⟩)
    go_ret
    exact ⟨rfl, Below.refl _ _⟩
  have C1 := Lib.hid (bundleOf_b (A := A) (c := c) (w := w) hn (decide_eq_true h1))
  by_cases h2 : n = n'
  rotate_left
  · have nB : ((n : Int) != (n' : Int)) = true := by simp; omega
    rw [if_neg (fun hh => h2 (by omega))] at hr
    subst hr
    clear h1 h2 hl hl' e8
    refine callsIn_wide.2 ?_
    go_enter Try.func29, Try.ntmps29
    go_wp2_with (go_at_call 55; refine C1.out.mono ?_; rintro e w' ⟨rfl, rfl⟩)
    go_ret
    exact ⟨rfl, Below.refl _ _⟩
  subst h2
  have nB : ((n : Int) != (n : Int)) = false := by simp
  have hn8 := h1.2
  rw [if_pos ⟨e8.2 h1, by omega⟩] at hr
  clear h1 e8
  refine callsIn_of_wp_marks Try.func29 rfl trivial ?_ rfl
  simp only [Try.ntmps29, List.size_toArray, List.length_cons, List.length_nil, Nat.reduceAdd, Nat.reduceSub, Array.replicate_succ, Array.replicate_zero, List.push_toArray, List.append_toArray, List.nil_append, List.cons_append]
  gi_wp2_with (fail)
  refine ⟨trivial, ?_⟩
  refine (callsIn_wide.2 C1.out).mono ?_
  rintro e w' ⟨rfl, rfl⟩
  gi_wp2_with (fail)
  refine ⟨trivial, ?_⟩
  refine (callsIn_wide.2 (flows_made _)).mono ?_
  rintro e w' ⟨rfl, rfl⟩
  obtain ⟨wA, hwA⟩ : ∃ wA, w.alloc (.cells #[.slice A n c] 67) = wA := ⟨_, rfl⟩
  rw [hwA]
  have sA : wA.heap.size = w.heap.size + 1 := by rw [← hwA]; simp
  have bA : wA.heap[w.heap.size]? = some (.cells #[.slice A n c] 67 (0, 0)) := by rw [← hwA]; exact heap_alloc_new w _
  have BA : Below w.heap.size w wA := by rw [← hwA]; exact (Below.refl _ _).alloc (Nat.le_refl _) _
  have CC := Lib.hid (collectF_any bA (h.bel BA) hn8)
  rw [sA] at CC
  clear hwA bA
  gi_wp2_with (fail)
  refine ⟨trivial, ?_⟩
  refine (callsIn_wide.2 CC.out).mono ?_
  rintro e wC ⟨rfl, FM, BC⟩
  have hsC : w.heap.size + 1 < wC.heap.size := FM.lt
  have BwC : Below w.heap.size w wC := BA.trans (BC.mono (by omega))
  gi_wp2_with (fail)
  refine ⟨trivial, ?_⟩
  refine (callsIn_wide.2 (flows_made _)).mono ?_
  rintro e w' ⟨rfl, rfl⟩
  gi_wp2
  obtain ⟨W0, hW0⟩ : ∃ W0, ((wC.alloc (.cells #[.map (some (w.heap.size + 1))] 76)).alloc (.cells #[.int .i64 0] 3)).alloc (.cells #[.slice A' n c'] 67) = W0 := ⟨_, rfl⟩
  rw [hW0]
  have s0 : W0.heap.size = wC.heap.size + 3 := by rw [← hW0]; simp
  have bM : Boxed W0 wC.heap.size 76 (.map (some (w.heap.size + 1))) := by rw [← hW0]; exact ((Boxed.new wC _ _).alloc _).alloc _
  have bI : Boxed W0 (wC.heap.size + 1) 3 (.int .i64 (movedX us vs (vals11 []))) := by
    rw [← hW0]
    have := Boxed.new (wC.alloc (.cells #[.map (some (w.heap.size + 1))] 76)) 3 (.int .i64 0)
    rw [World.size_alloc] at this
    exact this.alloc _
  have bL : W0.heap[wC.heap.size + 1 + 1]? = some (.cells #[.slice A' n c'] 67 (0, 0)) := by
    rw [← hW0]
    have := heap_alloc_new ((wC.alloc (.cells #[.map (some (w.heap.size + 1))] 76)).alloc (.cells #[.int .i64 0] 3)) (.cells #[.slice A' n c'] 67)
    rw [World.size_alloc, World.size_alloc] at this
    exact this
  have D0 : Below wC.heap.size wC W0 := by rw [← hW0]; exact (((Below.refl _ _).alloc (Nat.le_refl _) _).alloc (by simp) _).alloc (by simp; omega) _
  have FM0 : FlowMap W0 (w.heap.size + 1) us := FM.block (D0.block _ hsC)
  have hB0 : Below w.heap.size w W0 := BwC.trans (D0.mono (by omega))
  have hw0 := h'.bel hB0
  have hL0 : LiesF A' n W0.heap.size (wC.heap.size + 1) := lies_of h' (by omega) (by omega)
  clear hW0 FM BC D0
  refine wpIn_rangeFunc_ownG rfl h1' (gf := 67) (lb := #[.pointer (some ⟨wC.heap.size + 1 + 1, 0, none⟩)]) rfl trivial (enters_of Try.func67 (by kernel_rfl) rfl) (flows_stops (5 - 1) (by decide) (Bo := wC.heap.size + 1) bL hw0 hn8 ⟨by omega, by omega⟩ hL0 (Nat.le_refl _)) But.trans (but_b (Nat.le_refl _)) (Below.refl _ _) (fun _ => rfl)
    (fun pre W => Boxed W (wC.heap.size + 1) 3 (.int .i64 (movedX us vs (vals11 pre))) ∧ But W0.heap.size (wC.heap.size + 1) W0 W)
    (fun _ _ _ => False)
    (OwnFrom.and (ownFrom_num (by omega)) (ownFrom_but (Nat.le_refl _) (Nat.le_refl _)))
    (fun _ _ _ _ _ hs _ _ => hs)
    ⟨bI, But.refl _ _ _⟩
    (fun x => { tmps := #[.slice A n c, .slice A' n c', undef, undef, .int .i64 0, .slice A n c, .bool true, .pointer (some ⟨wC.heap.size, 0, none⟩), .pointer (some ⟨wC.heap.size + 1, 0, none⟩), .int .i64 (x.1 : Int), .int .i64 (memP vs x.1), .tuple #[.slice A n c, .bool true], .slice A n c, .tuple #[.slice A n c, .bool true], .slice A n c, .bool true, .bool true, .bool false, .bool false, .slice A n c, .int .i64 (n : Int), .slice A' n c', .int .i64 (n : Int), .bool false, .bool false, .slice A n c, .func (.func 67) #[] #[.pointer (some ⟨w.heap.size, 0, none⟩)], .map (some (w.heap.size + 1)), .slice A' n c', .func (.func 67) #[] #[.pointer (some ⟨wC.heap.size + 1 + 1, 0, none⟩)], .int .i64 (x.1 : Int), .int .i64 (memP vs x.1), undef, undef, undef, undef, undef, undef, undef, undef], defers := [] }) ?assign ?body ?done ?stop
  case assign =>
    intro l x W K hK
    dsimp only [enc11]
    gi_wp2
    exact hK
  case body =>
    rintro l pre x W ⟨hv, hB⟩ hlt
    have hc := hv.cell
    have hf := hv.frozen
    have hsz := hB.size
    have hcM := (hB.boxed bM (by omega) (by omega)).cell
    obtain ⟨D, hown, hP⟩ := FM0.block (hB.block (w.heap.size + 1) (by omega) (by omega))
    have hx := x.2
    have hkey := key_flow (show x.1 < 240 by omega)
    have hat1 := (hP.2 x.1 (List.mem_range.2 hx)).2 (.lit (.int .i64 0))
    have hmb := movedX_bounds us vs (vals11 pre)
    rw [vals11_len] at hmb
    have HY := Lib.hid (movedX_yes (us := us) (vs := vs) (xs := vals11 pre) (x := x.1))
    have HN := Lib.hid (movedX_not (us := us) (vs := vs) (xs := vals11 pre) (x := x.1))
    obtain ⟨p, hp⟩ : ∃ p, memP us x.1 = p := ⟨_, rfl⟩
    obtain ⟨q, hq⟩ : ∃ q, memP vs x.1 = q := ⟨_, rfl⟩
    rw [hp] at hat1 HY HN
    rw [hq] at HY HN ⊢
    generalize hv0 : movedX us vs (vals11 pre) = v at *
    have wS : IntKind.i64.wrap (v + 1) = v + 1 := IntWalk.i64_in _ (by omega)
    have G : W.grownBy (W.setCell ⟨wC.heap.size + 1, 0, none⟩ (.int .i64 (v + 1))) (some (wC.heap.size + 1)) := grownBy_setCell' W _ _
    have hv' := hv.set (.int .i64 (v + 1))
    clear hp hq hP hlt hmb hx
    by_cases he : p = q
    · subst he
      have eB : (p != p) = false := by simp
      have HE := Lib.hid (HN.out rfl)
      gi_wp2_with (gi_at_lookup; refine wpListIn_lookup_own_int _ rfl _ _ 76 rfl 3 3 .i64 keyIntF Try.underlying76 Try.underlying3 (Try.zeroValue3 _) (w.heap.size + 1) 225 D rfl hown _ _ rfl hkey ?_; intro cc hat hwc; obtain rfl : p = cc := by (rw [hat1] at hat; injection hat with hat; injection hat))
      rw [← s0]
      exact ⟨KeepsFrom.refl _ _, But.refl _ _ _, by rw [vals11_snoc, HE.out]; exact hv, hB⟩
    · have eB : (p != q) = true := by simp [he]
      have HE := Lib.hid (HY.out he)
      gi_wp2_with (gi_at_lookup; refine wpListIn_lookup_own_int _ rfl _ _ 76 rfl 3 3 .i64 keyIntF Try.underlying76 Try.underlying3 (Try.zeroValue3 _) (w.heap.size + 1) 225 D rfl hown _ _ rfl hkey ?_; intro cc hat hwc; obtain rfl : p = cc := by (rw [hat1] at hat; injection hat with hat; injection hat))
      exact ⟨KeepsFrom.of_grownBy G (fun j e => by cases e; omega), (But.refl _ _ _).grown G hsz, by rw [vals11_snoc, HE.out]; exact hv', hB.grown G hsz⟩
  case done =>
    rintro D ys W hD hS ⟨hv, hB⟩ hK
    have hc := hv.cell
    rw [hS, movedX_range, hr] at hc
    gi_wp2
    refine ⟨by simp, .inl ⟨_, _, rfl, run_takeDeferred hK, ?_⟩⟩
    refine ⟨_, results_tmp rfl _ _ _, rfl, ?_⟩
    exact hB0.trans ((hB.below (by omega) (by omega)).trans (belowK_b (w := W0) (by omega) W D _ _ hD hK rfl rfl))
  case stop =>
    rintro D c pre W _ _ h _
    exact h.elim
theorem implMovedFlows_r {A A' : Option Addr} {n c n' c' : Nat} {us vs : List Bool} {r : Int} {w : World} (h : Has w A n (bools us)) (h' : Has w A' n' (bools vs)) (hn : n ≤ 16777216) (hn' : n' ≤ 16777216) (hr : movedI us vs = r) :
    Calls Try.prog 29 #[.slice A n c, .slice A' n' c'] w fun e w' => e = .returned (.int .i64 r) ∧ Below w.heap.size w w' := callsIn_wide.1 (implMovedFlows_in h h' hn hn' hr)
end Go.Proofs.Ytimddobedgopiaa
