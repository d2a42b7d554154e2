/-
  Chapter 12's program, what is collected of an iterator that keeps state of its own: what is proved here is what slices.Collect returns of one, in memory of its own. Condition: at most 1000 elements.
-/
import Derived.Test.YtpofkkenbepjpaaSeqMem
import Derived.Maps.OwnIn
namespace Go.Proofs.Ytpofkkenbepjpaa
open Go.RowKit Go.Shelf

attribute [local go_sem] Oper.semAt_some

theorem ownsRow_eqJ {W W' : World} {lo : Nat} {e : TypeId} {sz k : Nat} {v : Value} {xs : List Value} (h : W.ownsRow lo e sz v k xs) (hb : ∀ b, v.ownBlock = some b → W'.heap[b]? = W.heap[b]?) : W'.ownsRow lo e sz v k xs := by
  refine ⟨h.1, ?_⟩
  rcases h.2 with h' | ⟨g, cap, cur, hv, hl, hg, r⟩
  · exact .inl h'
  · exact .inr ⟨g, cap, cur, hv, hl, (hb g (by rw [hv]; rfl)).trans hg, r⟩
theorem ownsRow_cellsJ {W : World} {lo : Nat} {e : TypeId} {sz k b : Nat} {v : Value} {xs : List Value} (h : W.ownsRow lo e sz v k xs) (hb : v.ownBlock = some b) : ∃ cur fz, W.heap[b]? = some (.cells cur e fz) := by
  rcases h.2 with ⟨hv, _⟩ | ⟨g, cap, cur, hv, _, hg, _⟩
  · rw [hv] at hb; cases hb
  · rw [hv] at hb
    have : g = b := by simpa [Value.ownBlock] using hb
    subst this
    exact ⟨cur, _, hg⟩
/-- What the loop holds between two rounds. -/
def CollI (w : World) (pre : List Int) (M : Nat → Prop) (W : World) : Prop :=
  (∃ v, Boxed W w.heap.size 23 v ∧ W.ownsRow w.heap.size 3 1 v pre.length (ints .i64 pre) ∧ ∀ b, v.ownBlock = some b → ¬ M b) ∧ ¬ M w.heap.size ∧ (∀ k, M k → k < W.heap.size) ∧ (∀ k, M k → w.heap.size ≤ k) ∧ Below w.heap.size w W
theorem collI_mine {w : World} {s : List Int} {M : Nat → Prop} {X Y : World} (h : CollI w s M X) (m : Mine M X Y) : CollI w s (moreM M X Y) Y := by
  obtain ⟨⟨v, hv, hr, hM⟩, h1, h2, h3, hb⟩ := h
  have hBl := hv.lt
  have hrl : ∀ b, v.ownBlock = some b → b < X.heap.size := fun b e => (World.ownsRow.lt hr b e).2
  refine ⟨⟨v, (m.block _ hBl h1).trans hv, ownsRow_eqJ hr (fun b e => m.block b (hrl b e) (hM b e)), ?_⟩, ?_, ?_, ?_, ?_⟩
  · rintro b e (h | h)
    · exact hM b e h
    · have := hrl b e; omega
  · rintro (h | h)
    · exact h1 h
    · omega
  · rintro k (h | h)
    · exact Nat.lt_of_lt_of_le (h2 k h) m.size
    · exact h.2
  · rintro k (h | h)
    · exact h3 k h
    · have := hb.size; omega
  · exact hb.trans ⟨m.os, m.tape, m.output, m.size, fun k hk => m.block k (by have := hb.size; omega) (fun e => by have := h3 k e; omega)⟩
theorem collI_put {w : World} {s : List Int} {M : Nat → Prop} {X : World} {l : Nat} {o o' : Obj} (h : CollI w s M X) (hl : w.heap.size < l) (ho : X.heap[l]? = some o) (hc : o.isCells = false) : CollI w s M (X.putObj l o') := by
  obtain ⟨⟨v, hv, hr, hM⟩, h1, h2, h3, hb⟩ := h
  refine ⟨⟨v, (World.putObj_heap_other (by omega)).trans hv, ownsRow_eqJ hr (fun b e => World.putObj_heap_other (fun eq => ?_)), hM⟩, h1, fun k hk => by simpa using h2 k hk, h3, hb.grown (grownBy_putObj' X l o') hb.size (fun k e => by cases e; omega)⟩
  obtain ⟨cur, fz, hcb⟩ := ownsRow_cellsJ hr e
  subst eq
  rw [ho] at hcb
  cases hcb
  cases hc
set_option maxRecDepth 100000 in
set_option maxHeartbeats 2000000 in
/-- What an iterator gives, appended to nothing. -/
theorem appendSeq_mem (m : Nat) (hm : 3 ≤ m) (gf : Nat) (lb : Array Value) (eg : ∀ args w, (callFunc gf args).run Try.prog w = .ok (.enter gf args) w) (S : List Int → Prop) (N : Nat) (hN : N ≤ 1000) (w : World)
    (hseq : SeqMem Fence.wide (m - 1) Try.prog gf lb (fun x : Int => #[Value.int .i64 x]) w.heap.size S N w) :
    CallsIn Fence.wide m Try.prog 65 #[.slice none 0 0, .func (.func gf) #[] lb] w fun e W' => ∃ v xs, e = .returned v ∧ S xs ∧ W'.ownsRow w.heap.size 3 1 v xs.length (ints .i64 xs) ∧ Below w.heap.size w W' := by
  have h1 : 1 ≤ m := by omega
  obtain ⟨i0, hi, hz0, hz1, hz2⟩ := info_parts Try.infoInt
  refine callsIn_of_wp_marks Try.func65 rfl trivial ?_ rfl
  simp only [Try.ntmps65, List.size_toArray, List.length_cons, List.length_nil, Nat.reduceAdd, Nat.reduceSub, Array.replicate_succ, Array.replicate_zero, List.push_toArray, List.append_toArray, List.nil_append, List.cons_append]
  gi_wp2
  have bO := Boxed.new w 23 (.slice none 0 0)
  have hB0 : Below w.heap.size w (w.alloc (.cells #[.slice none 0 0] 23)) := (Below.refl _ w).alloc (Nat.le_refl _) _
  have C0 : CollI w [] (fun _ => False) (w.alloc (.cells #[.slice none 0 0] 23)) := ⟨⟨_, bO, World.ownsRow_nil _ _ _ _, fun _ _ => id⟩, id, fun _ h => h.elim, fun _ h => h.elim, hB0⟩
  refine wpIn_range_mem rfl h1 (gf := gf) (lb := lb) rfl trivial eg hseq (by simp) hB0 (fun _ => rfl)
    (CollI w) (fun s M X Y h m => collI_mine h m) (fun s M X h => h.2.2.1) (fun s M X l o o' h hl _ ho hc => collI_put h (by simp at hl; omega) ho hc)
    (fun o1 o2 => ?start)
    (fun x => { tmps := #[.slice none 0 0, .func (.func gf) #[] lb, .pointer (some ⟨w.heap.size, 0, none⟩), undef, .slice none 0 0, .int .i64 x, .func (.func gf) #[] lb, .int .i64 x, undef, undef, undef, undef, undef], defers := [] }) ?assign ?body ?done
  case start =>
    obtain ⟨⟨v, hv, hr, hM⟩, g1, g2, g3, hb⟩ := C0
    exact ⟨⟨v, (hv.alloc _).alloc _, (hr.alloc _).alloc _, hM⟩, g1, fun _ h => h.elim, g3, (hb.alloc (by simp) _).alloc (by simp; omega) _⟩
  case assign =>
    intro l x W K hK
    gi_wp2
    exact hK
  case body =>
    rintro l pre x M W ⟨⟨v, hv, hrow, hMr⟩, g1, g2, g3, hB⟩ hlt
    have hc := hv.cell
    have HM := Lib.hid (And.intro hMr (And.intro g1 (And.intro g2 g3)))
    clear hMr g1 g2 g3
    gi_wp2_with (gi_at_builtin; refine wpListIn_append_own_at _ rfl _ _ 23 rfl w.heap.size 3 i0 (.int .i64 0) 1 8 Try.underlying23 hi hz0 hz1 hz2 rfl (by decide) _ _ _ rfl (hrow.alloc _) ⟨W.heap.size, 0, none⟩ 1 1 [.int .i64 x] rfl rfl (cell_one_new _ _ _) (by simp [Value.oneCell']) (by unfold maxLen; omega) (by omega) (by have := hB.size; simp; omega) ?_; intro v' w1 hown' hgrow _ hat; obtain ⟨g', cap', rfl⟩ := ownsRow_succ hown'; obtain ⟨hv1, hv2, hr2, hk2, hb2⟩ := hv.appended (by decide) hrow hB.size (Nat.le_refl _) hown' hgrow; have hc1 := hv1.cell; have hf1 := hv1.frozen)
    obtain ⟨hMr, g1, g2, g3⟩ := HM.out
    have hs1 : W.heap.size ≤ w1.heap.size := Nat.le_trans (by simp) hgrow.size
    have hkeep : ∀ k, M k → (w1.setCell ⟨w.heap.size, 0, none⟩ (.slice (some ⟨g', 0, none⟩) (pre.length + 1) cap')).heap[k]? = W.heap[k]? := fun k hk => by
      have hkl := g2 k hk
      refine (heap_setCell_other _ ⟨w.heap.size, 0, none⟩ k _ (fun e => g1 (by have e' : k = w.heap.size := e; rw [← e']; exact hk))).trans ?_
      refine (hgrow.block k (by simp; omega) (fun e => hMr k e.symm hk)).trans ?_
      exact Below.heap_alloc _ _ _ hkl
    have hMn : ∀ b, (Value.slice (some ⟨g', 0, none⟩) (pre.length + 1) cap').ownBlock = some b → ¬ M b := fun b e hb => by
      rcases hat with h | h
      · rw [h] at e; exact hMr b e hb
      · rw [h] at e
        injection e with e
        have := g2 b hb
        simp at e
        omega
    exact ⟨hk2.from _, ⟨hb2, hkeep⟩, ⟨_, hv2, by rw [List.length_append, ints_app]; exact hr2, hMn⟩, g1, fun k hk => by have := g2 k hk; simp; omega, g3, hB.trans hb2⟩
  case done =>
    rintro D ys M W hD hS ⟨⟨v, hv, hrow, _⟩, _, _, _, hB⟩ hK
    have hc := hv.cell
    gi_wp2
    refine ⟨by simp, .inl ⟨_, _, rfl, run_takeDeferred hK, ?_⟩⟩
    exact ⟨_, results_tmp rfl _ _ _, v, ys, rfl, hS, ownsRow_putObj hrow _ hK rfl, hB.trans (belowK_b (w := w) (Nat.le_refl _) W D _ _ (by simp at hD; omega) hK rfl rfl)⟩

theorem collect_mem (gf : Nat) (lb : Array Value) (eg : ∀ args w, (callFunc gf args).run Try.prog w = .ok (.enter gf args) w) (S : List Int → Prop) (N : Nat) (hN : N ≤ 1000) (w : World)
    (hseq : SeqMem Fence.wide 4 Try.prog gf lb (fun x : Int => #[Value.int .i64 x]) w.heap.size S N w) :
    Calls Try.prog 46 #[.func (.func gf) #[] lb] w fun e W' => ∃ A' n' c' xs, e = .returned (.slice A' n' c') ∧ S xs ∧ Own W' w.heap.size 3 A' n' c' (ints .i64 xs) ∧ Below w.heap.size w W' := by
  have C := Lib.hid (callsIn_wide.1 (appendSeq_mem 5 (by decide) gf lb eg S N hN w hseq))
  go_enter Try.func46, Try.ntmps46
  go_wp2_with (go_at_call 65; refine C.out.mono ?_; rintro e w' ⟨v, xs, rfl, hS, hrow, hB⟩)
  go_ret
  rcases hrow.2 with ⟨rfl, h0⟩ | ⟨g, cap, cur, rfl, _⟩
  · exact ⟨none, 0, 0, xs, rfl, hS, by rw [h0] at hrow; exact hrow, hB⟩
  · exact ⟨_, _, _, xs, rfl, hS, hrow, hB⟩
end Go.Proofs.Ytpofkkenbepjpaa
