/-
  Chapter 11's program, the map of flows to wires: what is proved here is what map is collected of the program's iterator, and that nothing that was there is written. Condition: at most 8 wires.
-/
import Derived.Test.YtimddobedgopiaaImp11b
namespace Go.Proofs.Ytimddobedgopiaa
open Go.RowKit Go.Shelf

attribute [local go_sem] Oper.semAt_some

/-- The map has these keys and no others, and says T of each. -/
def MapP (D : DataW Unit) (xs : List Nat) (T : Nat → Int) : Prop :=
  (∀ k, Maps.has D k = true → ∃ i : Nat, i ∈ xs ∧ k = .int .i64 (i : Int)) ∧
  (∀ i : Nat, i ∈ xs → Maps.has D (.int .i64 (i : Int)) = true ∧ ∀ z, D.atKey (.int .i64 (i : Int)) z = .lit (.int .i64 (T i)))
theorem mapP_nil (T : Nat → Int) : MapP (.map []) [] T := ⟨fun k h => by simp [Maps.has] at h, fun i h => by cases h⟩
theorem lit_ne {i j : Nat} (h : i ≠ j) : Lit.int .i64 (i : Int) ≠ Lit.int .i64 (j : Int) := fun e => by injection e with _ e; omega
theorem key_i64 (i : Int) : WideAt.IsKeyLit (.int .i64 i) := by simp [WideAt.IsKeyLit]
theorem MapP.put {D : DataW Unit} {xs : List Nat} {T : Nat → Int} (h : MapP D xs T) (hD : Maps.IsMap D) (s : Nat) : MapP (D.put (.int .i64 (s : Int)) (.lit (.int .i64 (T s)))) (xs ++ [s]) T := by
  refine ⟨fun k hk => ?_, fun i hi => ?_⟩
  · by_cases e : k = .int .i64 (s : Int)
    · exact ⟨s, by simp, e⟩
    · rw [Maps.has_put_other e] at hk
      obtain ⟨i, h1, h2⟩ := h.1 k hk
      exact ⟨i, by simp [h1], h2⟩
  · by_cases e : i = s
    · subst e
      exact ⟨Maps.has_put_same hD (key_i64 _) _, fun z => by rw [Maps.atKey_put_same hD (key_i64 _)]⟩
    · have hi' : i ∈ xs := by simpa [e] using hi
      obtain ⟨h1, h2⟩ := h.2 i hi'
      exact ⟨by rw [Maps.has_put_other (lit_ne e)]; exact h1, fun z => by rw [Maps.atKey_put_other (lit_ne e), h2]⟩
theorem i64_wfF {z : Int} (h : -9223372036854775808 ≤ z ∧ z ≤ 9223372036854775807) : (Lit.int .i64 z).wf = true := by
  have h1 : IntKind.i64.min = -9223372036854775808 := rfl
  have h2 : IntKind.i64.max = 9223372036854775807 := rfl
  simp only [Lit.wf, Bool.and_eq_true, decide_eq_true_eq]
  omega
theorem keyIntF : Maps.Keyed Try.prog 3 := Maps.int_keyed Try.underlying3
theorem key_flow {s : Nat} (h : s < 240) : keyOf Try.prog 3 (.int .i64 (s : Int)) = some (.int .i64 (s : Int)) := Maps.keyOf_int_mk Try.underlying3 (i64_wfF (by omega))
theorem val_wire {p : Int} (h : -1 ≤ p ∧ p ≤ 8) : plainElem (H := Unit) Try.prog 3 (.int .i64 p) = some (.lit (.int .i64 p), []) := plainElem_int Try.underlying3 (i64_wfF (by omega))
theorem ownFrom_map {us : List Bool} {B b Mb : Nat} (h1 : b < B) (h2 : Mb < B) : OwnFrom B (fun (pre : List Flow11) W => Boxed W b 76 (.map (some Mb)) ∧ ∃ D : DataW Unit, W.ownsMap Try.prog 3 (plainElem Try.prog 3) Mb pre.length D ∧ MapP D (vals11 pre) (memP us)) :=
  fun _ _ _ _ ⟨h, D, h3, h4⟩ hg hr => ⟨h.kept hg (fun e => by have := (hr _ e.symm).1; omega), D, h3.kept hg (fun e => by have := (hr _ e.symm).1; omega), h4⟩

/-- A map in memory that says the wire of each flow that a frame can have. -/
def FlowMap (w : World) (b : Nat) (us : List Bool) : Prop := ∃ D : DataW Unit, w.ownsMap Try.prog 3 (plainElem Try.prog 3) b 225 D ∧ MapP D (List.range 225) (memP us)
theorem FlowMap.kept {w w' : World} {b : Nat} {us : List Bool} {row : Option Nat} (h : FlowMap w b us) (hg : w.grownBy w' row) (hne : some b ≠ row) : FlowMap w' b us := by
  obtain ⟨D, h1, h2⟩ := h
  exact ⟨D, h1.kept hg hne, h2⟩
theorem FlowMap.lt {w : World} {b : Nat} {us : List Bool} (h : FlowMap w b us) : b < w.heap.size := by obtain ⟨D, h1, _⟩ := h; exact h1.lt
theorem FlowMap.block {w w' : World} {b : Nat} {us : List Bool} (h : FlowMap w b us) (he : w'.heap[b]? = w.heap[b]?) : FlowMap w' b us := by
  obtain ⟨D, ⟨es, clock, h1, h2, h3, h4⟩, h5⟩ := h
  exact ⟨D, ⟨es, clock, he.trans h1, h2, h3, h4⟩, h5⟩

set_option maxRecDepth 100000 in
set_option maxHeartbeats 4000000 in
theorem insert_any (m : Nat) (hm : 3 ≤ m) {A : Option Addr} {n c B1 Mb : Nat} {us : List Bool} {w : World} (hbox : w.heap[B1]? = some (.cells #[.slice A n c] 67 (0, 0))) (h : Has w A n (bools us)) (hn : n ≤ 8) (hne : B1 ≠ Mb) (hlist : LiesF A n w.heap.size Mb)
    (hM : w.ownsMap Try.prog 3 (plainElem (H := Unit) Try.prog 3) Mb 0 (.map [])) :
    CallsIn Fence.wide m Try.prog 68 #[.map (some Mb), .func (.func 67) #[] #[.pointer (some ⟨B1, 0, none⟩)]] w fun e W' => (∃ v, e = .returned v) ∧ FlowMap W' Mb us ∧ But w.heap.size Mb w W' := by
  have h1 : 1 ≤ m := by omega
  have hl := has_bools_len h
  have hMl := hM.lt
  have hB1l : B1 < w.heap.size := (Array.getElem?_eq_some_iff.1 hbox).1
  refine callsIn_of_wp_marks Try.func68 rfl trivial ?_ rfl
  simp only [Try.ntmps68, List.size_toArray, List.length_cons, List.length_nil, Nat.reduceAdd, Nat.reduceSub, Array.replicate_succ, Array.replicate_zero, List.push_toArray, List.append_toArray, List.nil_append, List.cons_append]
  gi_wp2
  obtain ⟨W0, hW0⟩ : ∃ W0, w.alloc (.cells #[.map (some Mb)] 76) = W0 := ⟨_, rfl⟩
  have s0 : W0.heap.size = w.heap.size + 1 := by rw [← hW0]; simp
  have bO : Boxed W0 w.heap.size 76 (.map (some Mb)) := by rw [← hW0]; exact Boxed.new w _ _
  have hB0 : Below w.heap.size w W0 := by rw [← hW0]; exact (Below.refl _ _).alloc (Nat.le_refl _) _
  have hM0 := hM.kept (grown_of_below hB0) (by simp)
  have hw0 := h.bel hB0
  have hbox0 := (hB0.block B1 hB1l).trans hbox
  have hL0 : LiesF A n W0.heap.size Mb := fun b o hA h0 => by have := hlist b o hA h0; omega
  rw [hW0]
  refine wpIn_rangeFunc_ownG rfl h1 (gf := 67) (lb := #[.pointer (some ⟨B1, 0, none⟩)]) rfl trivial (enters_of Try.func67 (by kernel_rfl) rfl) (flows_stops (m - 1) (by omega) (Bo := Mb) hbox0 hw0 hn ⟨by omega, hne⟩ hL0 (Nat.le_refl _)) But.trans (but_b (Nat.le_refl _)) (Below.refl _ _) (fun _ => rfl)
    (fun pre W => (Boxed W w.heap.size 76 (.map (some Mb)) ∧ ∃ D : DataW Unit, W.ownsMap Try.prog 3 (plainElem Try.prog 3) Mb pre.length D ∧ MapP D (vals11 pre) (memP us)) ∧ But W0.heap.size Mb W0 W)
    (fun _ _ _ => False)
    (OwnFrom.and (ownFrom_map (by omega) (by omega)) (ownFrom_but (Nat.le_refl _) (Nat.le_refl _)))
    (fun _ _ _ _ _ hs _ _ => hs)
    ⟨⟨bO, _, hM0, mapP_nil _⟩, But.refl _ _ _⟩
    (fun x => { tmps := #[.map (some Mb), .func (.func 67) #[] #[.pointer (some ⟨B1, 0, none⟩)], .pointer (some ⟨w.heap.size, 0, none⟩), undef, .int .i64 (x.1 : Int), .int .i64 (memP us x.1), .func (.func 67) #[] #[.pointer (some ⟨B1, 0, none⟩)], .int .i64 (x.1 : Int), .int .i64 (memP us x.1), undef, undef, undef], defers := [] }) ?assign ?body ?done ?stop
  case assign =>
    intro l x W K hK
    dsimp only [enc11]
    gi_wp2
    exact hK
  case body =>
    rintro l pre x W ⟨⟨hv, D, hown, hP⟩, hB⟩ hlt
    have hc := hv.cell
    have hsz := hB.size
    have hmp := memP_lt us x.1
    have hx := x.2
    have hkey := key_flow (show x.1 < 240 by omega)
    have hval := val_wire (p := memP us x.1) (by omega)
    have HP := Lib.hid (hP.put hown.isMap x.1)
    have hml : pre.length < maxLen := by unfold maxLen; omega
    clear hP hmp hx hlt
    gi_wp2_with (gi_at_mapUpdate; refine wpListIn_mapUpdate_own _ rfl _ _ _ 76 rfl 3 3 keyIntF Try.underlying76 _ Mb pre.length D rfl hown hml _ _ _ rfl rfl hkey _ [] hval ?_; intro w1 hown1 hgrow1)
    exact ⟨KeepsFrom.of_grownBy hgrow1 (fun j e => by cases e; omega), (But.refl _ _ _).grown hgrow1 hsz, ⟨hv.kept hgrow1 (by simp; omega), _, by rw [List.length_append]; exact hown1, by rw [vals11_snoc]; exact HP.out⟩, hB.grown hgrow1 hsz⟩
  case done =>
    rintro D ys W hD hS ⟨⟨hv, D2, hown, hP⟩, hB⟩ hK
    have hlen : ys.length = 225 := by have := congrArg List.length hS; rwa [vals11_len, List.length_range] at this
    rw [hlen] at hown
    rw [hS] at hP
    have hF : FlowMap (W.putObj D (.deferred none)) Mb us := ⟨D2, hown.kept (grownBy_putObj' W D _) (by simp; omega), hP⟩
    have hBW := But.trans hB (but_b (Bo := Mb) (Nat.le_refl _) W D _ (.deferred none) hD hK rfl rfl)
    have hBw : But w.heap.size Mb w (W.putObj D (.deferred none)) := ⟨hBW.os.trans hB0.os, hBW.tape.trans hB0.tape, hBW.output.trans hB0.output, Nat.le_trans hB0.size hBW.size, fun k hk hne2 => (hBW.block k (by omega) hne2).trans (hB0.block k hk)⟩
    gi_wp2
    refine ⟨by simp, .inl ⟨_, _, rfl, run_takeDeferred hK, ?_⟩⟩
    exact ⟨_, results_none rfl _ _ _, ⟨_, rfl⟩, hF, hBw⟩
  case stop =>
    rintro D c pre W _ _ h _
    exact h.elim

set_option maxHeartbeats 1000000 in
/-- The map of the flows of a bundle. -/
theorem collectF_any {A : Option Addr} {n c B1 : Nat} {us : List Bool} {w : World} (hbox : w.heap[B1]? = some (.cells #[.slice A n c] 67 (0, 0))) (h : Has w A n (bools us)) (hn : n ≤ 8) :
    Calls Try.prog 63 #[.func (.func 67) #[] #[.pointer (some ⟨B1, 0, none⟩)]] w fun e w' => e = .returned (.map (some w.heap.size)) ∧ FlowMap w' w.heap.size us ∧ Below w.heap.size w w' := by
  have hB1l : B1 < w.heap.size := (Array.getElem?_eq_some_iff.1 hbox).1
  have hmm := fun (t : TypeId) (W : World) => run_makeMap (P := Try.prog) t W
  have BA : Below w.heap.size w (w.alloc (.map #[] 0)) := (Below.refl _ _).alloc (Nat.le_refl _) _
  have hM := World.ownsMap_made (H := Unit) w Try.prog 3 (plainElem Try.prog 3)
  have C := Lib.hid (callsIn_wide.1 (insert_any 5 (by decide) ((BA.block B1 hB1l).trans hbox) (h.bel BA) hn (show B1 ≠ w.heap.size by omega) (lies_of (n₁ := (w.alloc (.map #[] 0)).heap.size) (Bo := w.heap.size) h (by simp) (Nat.le_refl _)) hM))
  clear hM
  go_enter Try.func63, Try.ntmps63
  go_wp2_with (fail)
  refine C.out.mono ?_
  rintro e w1 ⟨⟨v, rfl⟩, hF, hB⟩
  have hfin : Below w.heap.size w w1 := BA.trans (hB.below (by simp) (Nat.le_refl _))
  go_wp2
  go_ret
  exact ⟨rfl, hF, hfin⟩
end Go.Proofs.Ytimddobedgopiaa
