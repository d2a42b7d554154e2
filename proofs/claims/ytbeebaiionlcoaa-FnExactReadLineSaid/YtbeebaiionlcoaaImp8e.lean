/-
  Chapter 8's program, RunsOf and BitsFrom: what is proved here is what they return, in memory of their own, and that they write nothing that was there. Condition: lengths up to 2^24.
-/
import Derived.Test.YtbeebaiionlcoaaImp8c
namespace Go.Proofs.Ytbeebaiionlcoaa
open Go.RowKit Go.Shelf

attribute [local go_sem] Oper.semAt_some

/-- The program's iterator, as it is made. -/
theorem runsIn_any {A : Option Addr} {n c : Nat} (w : World) :
    Calls Try.prog 43 #[.slice A n c] w fun e w' => e = .returned (.func (.func 54) #[] #[.pointer (some ⟨w.heap.size, 0, none⟩)]) ∧ w' = w.alloc (.cells #[.slice A n c] 23) := by
  go_enter Try.func43, Try.ntmps43
  go_wp2
  go_ret
  exact ⟨rfl, rfl⟩
theorem runs_stops (m : Nat) (hm : 1 ≤ m) {A : Option Addr} {n c B1 n₁ Bo : Nat} {zs : List Int} {w : World} (hbox : w.heap[B1]? = some (.cells #[.slice A n c] 23 (0, 0))) (h : Has w A n (ints .i64 zs)) (hn : n ≤ 16777216) (hB1 : B1 < n₁ ∧ B1 ≠ Bo) (hlist : ∀ b o, A = some ⟨b, o, none⟩ → 0 < n → b < n₁ ∧ b ≠ Bo) (hn₁ : n₁ ≤ w.heap.size) :
    SeqStopsK Fence.wide m Try.prog 54 #[.pointer (some ⟨B1, 0, none⟩)] enc8 (But n₁ Bo) (fun ys => vals8 ys = rle zs) (fun pre => vals8 pre <+: rle zs) n w := fun l J Jx W hW hJ _ hY h0 =>
  runs_any m hm l B1 n c n₁ Bo A zs w hbox h hn hB1 hlist J Jx W (But.of_below (hW.mono hn₁)) hJ hY h0
theorem but_b {n₁ Bo : Nat} {w : World} (hn : n₁ ≤ w.heap.size) (W : World) (l : Nat) (o o' : Obj) (hl : w.heap.size ≤ l) (h : W.heap[l]? = some o) (h1 : o.isCells = false) (h2 : o.isWalk = false) : But n₁ Bo W (W.putObj l o') :=
  But.of_below (belowK_b (w := w) hn W l o o' hl h h1 h2)
theorem row_mono {W : World} {lo lo' : Nat} {e : TypeId} {size : Nat} {v : Value} {k : Nat} {xs : List Value} (h : W.ownsRow lo e size v k xs) (hl : lo' ≤ lo) : W.ownsRow lo' e size v k xs := by
  refine ⟨h.1, ?_⟩
  rcases h.2 with h' | ⟨g, cap, cur, hv, hb, r⟩
  · exact .inl h'
  · exact .inr ⟨g, cap, cur, hv, by omega, r⟩
/-- A variable's box, and a value appended to the row that it holds. -/
theorem box_app {W w1 : World} {n₁ Bo : Nat} {v v' : Value} {k m : Nat} {xs ys : List Value} {tmp : Obj}
    (hv : Boxed W Bo 23 v) (hrow : W.ownsRow n₁ 3 1 v k xs) (hn : n₁ ≤ W.heap.size)
    (hown' : w1.ownsRow n₁ 3 1 v' m ys) (hgrow : (W.alloc tmp).grownBy w1 v.ownBlock) :
    Boxed w1 Bo 23 v ∧ Boxed (w1.setCell ⟨Bo, 0, none⟩ v') Bo 23 v' ∧ (w1.setCell ⟨Bo, 0, none⟩ v').ownsRow n₁ 3 1 v' m ys ∧ KeepsOthers W (w1.setCell ⟨Bo, 0, none⟩ v') ∧ But n₁ Bo W (w1.setCell ⟨Bo, 0, none⟩ v') := by
  have hv1 : Boxed w1 Bo 23 v := (hv.alloc tmp).kept hgrow (hv.not_row (by decide) hrow)
  refine ⟨hv1, hv1.set v', hown'.kept (grownBy_setCell' w1 Bo v') (.inr (hv1.not_row (by decide) hown').symm), ?_, ?_⟩
  · refine ((KeepsOthers.alloc W tmp).trans (KeepsOthers.of_grownBy hgrow fun j o ej hj => ?_)).trans (KeepsOthers.setCell _ _ _)
    rcases (hrow.alloc tmp).2 with ⟨rfl, _⟩ | ⟨g, cap, cur, rfl, _, hgb, _⟩
    · simp [Value.ownBlock] at ej
    · obtain rfl : g = j := by simpa [Value.ownBlock] using ej
      rw [hgb] at hj; cases hj; rfl
  · refine (But.of_below (((Below.refl n₁ W).alloc hn tmp).grown hgrow (by simp; omega) fun j ej => ?_)).setCell 0 v'
    rcases hrow.2 with ⟨rfl, _⟩ | ⟨g, cap, cur, rfl, hb, _, _⟩
    · simp [Value.ownBlock] at ej
    · obtain rfl : g = j := by simpa [Value.ownBlock] using ej
      exact hb

/-- How long the runs are that have come. -/
def lens8 (xs : List Run8) : List Int := xs.map fun x => (x.1.2 : Int)
theorem lens8_snoc (xs : List Run8) (x : Run8) : lens8 (xs ++ [x]) = lens8 xs ++ [(x.1.2 : Int)] := by simp [lens8]
theorem lens8_runs {xs : List Run8} {ts : List Int} (h : vals8 xs = rle ts) : lens8 xs = runsL ts := by
  unfold runsL; rw [← h]; simp [vals8, lens8]
theorem lens8_len (xs : List Run8) : (lens8 xs).length = xs.length := by simp [lens8]

set_option maxRecDepth 100000 in
set_option maxHeartbeats 8000000 in
theorem implRunsOf_in {A : Option Addr} {n c : Nat} {ts : List Int} {w : World} (h : Has w A n (ints .i64 ts)) (hn : n ≤ 16777216) :
    CallsIn Fence.wide 5 Try.prog 24 #[.slice A n c] w fun e w' => ∃ v, e = .returned v ∧ w'.ownsRow w.heap.size 3 1 v (runsL ts).length (ints .i64 (runsL ts)) ∧ Below w.heap.size w w' := by
  have h1 : 1 ≤ 5 := by decide
  obtain ⟨i0, hi, hz0, hz1, hz2⟩ := info_parts Try.infoInt
  refine callsIn_of_wp_marks Try.func24 rfl trivial ?_ rfl
  simp only [Try.ntmps24, List.size_toArray, List.length_cons, List.length_nil, Nat.reduceAdd, Nat.reduceSub, Array.replicate_succ, Array.replicate_zero, List.push_toArray, List.append_toArray, List.nil_append, List.cons_append]
  gi_wp2_with (first | (refine ⟨trivial, ?_⟩; gi_at_call 43; refine (callsIn_wide.2 (runsIn_any _)).mono ?_; rintro e w' ⟨rfl, rfl⟩) | (gi_at_call 43; refine (callsIn_wide.2 (runsIn_any _)).mono ?_; rintro e w' ⟨rfl, rfl⟩))
  obtain ⟨W0, hW0⟩ : ∃ W0, (w.alloc (.cells #[.slice none 0 0] 23)).alloc (.cells #[.slice A n c] 23) = W0 := ⟨_, rfl⟩
  have s0 : W0.heap.size = w.heap.size + 2 := by rw [← hW0]; simp
  have bO : Boxed W0 w.heap.size 23 (.slice none 0 0) := by rw [← hW0]; exact (Boxed.new w _ _).alloc _
  have bL : W0.heap[w.heap.size + 1]? = some (.cells #[.slice A n c] 23 (0, 0)) := by
    rw [← hW0]; have := heap_alloc_new (w.alloc (.cells #[.slice none 0 0] 23)) (.cells #[.slice A n c] 23); rw [World.size_alloc] at this; exact this
  have hB0 : Below w.heap.size w W0 := by rw [← hW0]; exact ((Below.refl _ _).alloc (Nat.le_refl _) _).alloc (by simp) _
  have hw0 := h.bel hB0
  have hlist : ∀ b o, A = some ⟨b, o, none⟩ → 0 < n → b < W0.heap.size ∧ b ≠ w.heap.size := fun b o hA h0 => by
    obtain ⟨b', o', z, e, hbl, _⟩ := h.at_ h0
    rw [hA] at e
    injection e with e
    injection e with e1
    have : b' < w.heap.size := hbl
    omega
  rw [hW0]
  refine wpIn_rangeFunc_ownG rfl h1 (gf := 54) (lb := #[.pointer (some ⟨w.heap.size + 1, 0, none⟩)]) rfl trivial (enters_of Try.func54 (by kernel_rfl) rfl) (runs_stops (5 - 1) (by decide) (Bo := w.heap.size) bL hw0 hn ⟨by omega, by omega⟩ hlist (Nat.le_refl _)) But.trans (but_b (Nat.le_refl _)) (Below.refl _ _) (fun _ => rfl)
    (fun pre W => (∃ v, Boxed W w.heap.size 23 v ∧ W.ownsRow W0.heap.size 3 1 v (lens8 pre).length (ints .i64 (lens8 pre)) ∧ True) ∧ But W0.heap.size w.heap.size W0 W)
    (fun _ _ _ => False)
    (OwnFrom.and (Go.Own.from (holdsRow_own W0.heap.size w.heap.size 23 3 1 (fun pre : List Run8 => (lens8 pre).length) (fun pre => ints .i64 (lens8 pre)) (fun _ _ => True)) _) (ownFrom_but (Nat.le_refl _) (Nat.le_refl _)))
    (fun _ _ _ _ _ hs _ _ => hs)
    ⟨⟨_, bO, World.ownsRow_nil _ _ _ _, trivial⟩, But.refl _ _ _⟩
    (fun x => { tmps := #[.slice A n c, undef, .slice none 0 0, .pointer (some ⟨w.heap.size, 0, none⟩), undef, .int .i64 (x.1.2 : Int), .slice A n c, .func (.func 54) #[] #[.pointer (some ⟨w.heap.size + 1, 0, none⟩)], .int .i64 x.1.1, .int .i64 (x.1.2 : Int), undef, undef, undef, undef, undef], defers := [] }) ?assign ?body ?done ?stop
  case assign =>
    intro l x W K hK
    dsimp only [enc8]
    gi_wp2
    exact hK
  case body =>
    rintro l pre x W ⟨⟨v, hv, hrow, _⟩, hB⟩ hlt
    have hc := hv.cell
    have hsz := hB.size
    have hl8 : (lens8 pre).length ≤ 16777216 := by rw [lens8_len]; omega
    clear hlt
    gi_wp2_with (gi_at_builtin; refine wpListIn_append_own _ rfl _ _ 23 rfl W0.heap.size 3 i0 (.int .i64 0) 1 8 Try.underlying23 hi hz0 hz1 hz2 rfl (by decide) _ _ _ rfl (hrow.alloc _) ⟨W.heap.size, 0, none⟩ 1 1 [.int .i64 (x.1.2 : Int)] rfl rfl (cell_one_new _ _ _) (by simp [Value.oneCell']) (by unfold maxLen; omega) (by omega) (by simp; omega) ?_; intro v' w1 hown' hgrow _; obtain ⟨g', cap', rfl⟩ := ownsRow_succ hown'; obtain ⟨hv1, hv2, hr2, hk2, hb2⟩ := box_app hv hrow hsz hown' hgrow; have hc1 := hv1.cell; have hf1 := hv1.frozen)
    exact ⟨hk2.from _, hb2, ⟨_, hv2, by rw [lens8_snoc, List.length_append, ints_app]; exact hr2, trivial⟩, hB.trans hb2⟩
  case done =>
    rintro D ys W hD hS ⟨⟨v, hv, hrow, _⟩, hB⟩ hK
    have hc := hv.cell
    gi_wp2
    refine ⟨by simp, .inl ⟨_, _, rfl, run_takeDeferred hK, ?_⟩⟩
    refine ⟨_, results_tmp rfl _ _ _, v, rfl, ?_, ?_⟩
    · rw [← lens8_runs hS]
      exact ownsRow_putObj (row_mono hrow (by omega)) _ hK rfl
    · exact hB0.trans ((hB.below (by omega) (Nat.le_refl _)).trans (belowK_b (w := W0) (by omega) W D _ _ hD hK rfl rfl))
  case stop =>
    rintro D c pre W _ _ h _
    exact h.elim
theorem implRunsOf_w {A : Option Addr} {n c : Nat} {ts : List Int} {w : World} (h : Has w A n (ints .i64 ts)) (hn : n ≤ 16777216) :
    Calls Try.prog 24 #[.slice A n c] w fun e w' => ∃ A' n' c', e = .returned (.slice A' n' c') ∧ Own w' w.heap.size 3 A' n' c' (ints .i64 (runsL ts)) ∧ Below w.heap.size w w' :=
  (callsIn_wide.1 (implRunsOf_in h hn)).mono fun e w' ⟨v, he, hrow, hB⟩ => by
    subst he
    rcases hrow.2 with ⟨rfl, h0⟩ | ⟨g, cap, cur, rfl, _⟩
    · exact ⟨none, 0, 0, rfl, by rw [h0] at hrow; exact hrow, hB⟩
    · exact ⟨_, _, _, rfl, hrow, hB⟩

/-- What the machine holds speaks of cells alone. -/
theorem own_rd {β : Type} (lo B : Nat) (f : β → Int × List Int) : Go.Own (fun s W => RD W lo B (f s)) := by
  rintro s X Y row ⟨A, n, c, h1, h2⟩ hg hrow
  refine ⟨A, n, c, (hg.block B (Array.getElem?_eq_some_iff.1 h1).1 (fun e => ?_)).trans h1, h2.grown hg (fun a ha e => ?_)⟩
  · obtain ⟨o, ho, hc⟩ := hrow B e.symm
    rw [h1] at ho; cases ho; cases hc
  · obtain ⟨o, ho, hc⟩ := hrow a.block e.symm
    have := own_cells h2 a.block o (by rw [ha]; rfl) ho
    rw [this] at hc; cases hc
theorem runM_len : ∀ (xs : List Run8) (q : Int × List Int), (runM q (vals8 xs)).2.length ≤ q.2.length + xs.length * 16777216
  | [], q => Nat.le_add_right _ _
  | x :: t, q => by
    have h1 := runM_len t (feedM q x.1.1 x.1.2)
    have h2 := feedM_len q x.1.1 x.1.2
    have h3 := x.2
    show (runM (feedM q x.1.1 x.1.2) (vals8 t)).2.length ≤ _
    rw [List.length_cons]
    omega
theorem bitsFromL_not {zs : List Int} (h : ¬ (okBits zs = true ∧ ∃ o, unpair zs = some o)) : bitsFromL zs = ([], false) := by
  by_cases hb : okBits zs = true
  · cases hu : unpair zs with
    | none => exact bitsFromL_none hu
    | some o => exact absurd ⟨hb, o, hu⟩ h
  · exact bitsFromL_no fun hh => hb hh.1
theorem Try.cells_reader : Try.prog.cellsOf 44 = 2 := by kernel_rfl

set_option maxRecDepth 100000 in
set_option maxHeartbeats 8000000 in
theorem implBitsFrom_in {A : Option Addr} {n c : Nat} {ts : List Int} {r : List Int × Bool} {w : World} (hr : bitsFromL ts = r) (h : Has w A n (ints .i64 ts)) (hn : n ≤ 16777216) :
    CallsIn Fence.wide 5 Try.prog 20 #[.slice A n c] w fun e w' => ∃ A' n' c', e = .returned (.tuple #[.slice A' n' c', .bool r.2]) ∧ Own w' w.heap.size 3 A' n' c' (ints .i64 r.1) ∧ Below w.heap.size w w' := by
  have h1 : 1 ≤ 5 := by decide
  have HL := Lib.hid h.len
  have hlen := h.len
  by_cases h4 : n ≤ 400
  rotate_left
  · have h4B : decide ((n : Int) > 400) = true := by simp; omega
    have h4C : decide (400 < (n : Int)) = true := by simp; omega
    have HE := Lib.hid (bitsFromL_no (zs := ts) (fun hh => h4 (by omega)))
    clear hlen
    obtain rfl := HE.out.symm.trans hr
    refine callsIn_wide.2 ?_
    go_enter Try.func20, Try.ntmps20
    go_wp2
    go_ret2
    exact ⟨_, _, _, rfl, World.ownsRow_nil _ _ _ _, Below.refl _ _⟩
  have h4B : decide ((n : Int) > 400) = false := by simp; omega
  have h4C : decide (400 < (n : Int)) = false := by simp; omega
  have HR := Lib.hid hr
  clear hr hlen
  refine callsIn_of_wp_marks Try.func20 rfl trivial ?_ rfl
  simp only [Try.ntmps20, List.size_toArray, List.length_cons, List.length_nil, Nat.reduceAdd, Nat.reduceSub, Array.replicate_succ, Array.replicate_zero, List.push_toArray, List.append_toArray, List.nil_append, List.cons_append]
  gi_wp2_with (first | (refine ⟨trivial, ?_⟩; gi_at_call 43; refine (callsIn_wide.2 (runsIn_any _)).mono ?_; rintro e w' ⟨rfl, rfl⟩) | (gi_at_call 43; refine (callsIn_wide.2 (runsIn_any _)).mono ?_; rintro e w' ⟨rfl, rfl⟩))
  obtain ⟨W0, hW0⟩ : ∃ W0, (w.alloc (.cells #[.int .i64 0, .slice none 0 0] 44)).alloc (.cells #[.slice A n c] 23) = W0 := ⟨_, rfl⟩
  have s0 : W0.heap.size = w.heap.size + 2 := by rw [← hW0]; simp
  have bR : W0.heap[w.heap.size]? = some (.cells #[.int .i64 0, .slice none 0 0] 44 (0, 0)) := by
    rw [← hW0]; exact (Below.heap_alloc _ _ _ (by simp)).trans (heap_alloc_new w _)
  have bL : W0.heap[w.heap.size + 1]? = some (.cells #[.slice A n c] 23 (0, 0)) := by
    rw [← hW0]; have := heap_alloc_new (w.alloc (.cells #[.int .i64 0, .slice none 0 0] 44)) (.cells #[.slice A n c] 23); rw [World.size_alloc] at this; exact this
  have hB0 : Below w.heap.size w W0 := by rw [← hW0]; exact ((Below.refl _ _).alloc (Nat.le_refl _) _).alloc (by simp) _
  have hw0 := h.bel hB0
  have hlist : ∀ b o, A = some ⟨b, o, none⟩ → 0 < n → b < W0.heap.size ∧ b ≠ w.heap.size := fun b o hA h0 => by
    obtain ⟨b', o', z, e, hbl, _⟩ := h.at_ h0
    rw [hA] at e
    injection e with e
    injection e with e1
    have : b' < w.heap.size := hbl
    omega
  rw [hW0]
  refine wpIn_rangeFunc_ownG rfl h1 (gf := 54) (lb := #[.pointer (some ⟨w.heap.size + 1, 0, none⟩)]) rfl trivial (enters_of Try.func54 (by kernel_rfl) rfl) (runs_stops (5 - 1) (by decide) (Bo := w.heap.size) bL hw0 hn ⟨by omega, by omega⟩ hlist (Nat.le_refl _)) But.trans (but_b (Nat.le_refl _)) (Below.refl _ _) (fun _ => rfl)
    (fun pre W => RD W W0.heap.size w.heap.size (runM (0, []) (vals8 pre)) ∧ But W0.heap.size w.heap.size W0 W)
    (fun _ _ _ => False)
    (OwnFrom.and (Go.Own.from (own_rd _ _ _) _) (ownFrom_but (Nat.le_refl _) (Nat.le_refl _)))
    (fun _ _ _ _ _ hs _ _ => hs)
    ⟨⟨_, _, _, bR, World.ownsRow_nil _ _ _ _⟩, But.refl _ _ _⟩
    (fun x => { tmps := #[.slice A n c, undef, .slice none 0 0, .bool false, .pointer (some ⟨w.heap.size, 0, none⟩), .int .i64 x.1.1, .int .i64 (x.1.2 : Int), .slice A n c, .int .i64 (n : Int), .bool false, .slice A n c, .func (.func 54) #[] #[.pointer (some ⟨w.heap.size + 1, 0, none⟩)], .int .i64 x.1.1, .int .i64 (x.1.2 : Int), undef, undef, undef, undef, undef, undef, undef, undef], defers := [] }) ?assign ?body ?done ?stop
  case assign =>
    intro l x W K hK
    dsimp only [enc8]
    gi_wp2
    exact hK
  case body =>
    rintro l pre x W ⟨hD, hB⟩ hlt
    have hsz := hB.size
    have hx := x.2
    have hl := runM_len pre (0, [])
    have hl2 : (runM (0, []) (vals8 pre)).2.length + x.1.2 ≤ 68719476736 := by simp at hl; omega
    have C := Lib.hid (readerFeed_any (x := x.1.1) (m := x.1.2) hD hsz hl2)
    clear hl hl2 hx hlt
    gi_wp2_with (first | (refine ⟨trivial, ?_⟩; gi_at_call 44; refine (CallsIn.inRound l (callsIn_wide.2 C.out)).mono ?_; rintro e w2 ⟨⟨v, rfl⟩, q1, q2, q3⟩) | (gi_at_call 44; refine (CallsIn.inRound l (callsIn_wide.2 C.out)).mono ?_; rintro e w2 ⟨⟨v, rfl⟩, q1, q2, q3⟩))
    exact ⟨q3.from _, q2, by rw [vals8_snoc, runM_snoc]; exact q1, hB.trans q2⟩
  case done =>
    rintro D ys W hD hS ⟨hRD, hB⟩ hK
    rw [hS, runM_flat, rle_flat] at hRD
    have hfin : Below w.heap.size w (W.putObj D (.deferred none)) := hB0.trans ((hB.below (by omega) (Nat.le_refl _)).trans (belowK_b (w := W0) (by omega) W D _ _ hD hK rfl rfl))
    have HF := Lib.hid hfin
    rcases machine ts [] with ⟨o, ho1, ho2, ho3⟩ | ⟨ho1, ho2⟩
    · rw [ho3, List.nil_append] at hRD
      obtain ⟨A2, n2, c2, b1, b2⟩ := hRD
      obtain ⟨c0, c1, _, _, _⟩ := rd_cells b1
      have HE := Lib.hid (bitsFromL_yes ho1 (by rw [HL.out]; exact h4) ho2)
      obtain rfl := HE.out.symm.trans HR.out
      clear hfin ho1 ho2 ho3
      gi_wp2
      refine ⟨by simp, .inl ⟨_, _, rfl, run_takeDeferred hK, ?_⟩⟩
      exact ⟨_, results_tmp2 rfl _ _ _, _, _, _, rfl, ownsRow_putObj (row_mono b2 (by omega)) _ hK rfl, HF.out⟩
    · obtain ⟨⟨s, bs⟩, hq⟩ : ∃ q, ts.foldl stepM (0, []) = q := ⟨_, rfl⟩
      rw [hq] at hRD ho2
      have sB : (s != 0) = true := by simpa using ho2
      obtain ⟨A2, n2, c2, b1, b2⟩ := hRD
      obtain ⟨c0, c1, _, _, _⟩ := rd_cells b1
      have HE := Lib.hid (bitsFromL_not ho1)
      obtain rfl := HE.out.symm.trans HR.out
      clear hfin ho1 ho2 hq
      gi_wp2
      refine ⟨by simp, .inl ⟨_, _, rfl, run_takeDeferred hK, ?_⟩⟩
      exact ⟨_, results_tmp2 rfl _ _ _, _, _, _, rfl, World.ownsRow_nil _ _ _ _, HF.out⟩
  case stop =>
    rintro D c pre W _ _ h _
    exact h.elim
theorem implBitsFrom_r {A : Option Addr} {n c : Nat} {ts : List Int} {r : List Int × Bool} {w : World} (hr : bitsFromL ts = r) (h : Has w A n (ints .i64 ts)) (hn : n ≤ 16777216) :
    Calls Try.prog 20 #[.slice A n c] w fun e w' => ∃ A' n' c', e = .returned (.tuple #[.slice A' n' c', .bool r.2]) ∧ Own w' w.heap.size 3 A' n' c' (ints .i64 r.1) ∧ Below w.heap.size w w' := callsIn_wide.1 (implBitsFrom_in hr h hn)
theorem implBitsFrom_w {A : Option Addr} {n c : Nat} {ts : List Int} {w : World} (h : Has w A n (ints .i64 ts)) (hn : n ≤ 16777216) :
    Calls Try.prog 20 #[.slice A n c] w fun e w' => ∃ A' n' c', e = .returned (.tuple #[.slice A' n' c', .bool (bitsFromL ts).2]) ∧ Own w' w.heap.size 3 A' n' c' (ints .i64 (bitsFromL ts).1) ∧ Below w.heap.size w w' := implBitsFrom_r rfl h hn
end Go.Proofs.Ytbeebaiionlcoaa
