/-
  Chapter 6's program, a bridge's map: what is proved here is that the map holds what the table says, that a store into it is a store into the table, and that the table can be told from it, in whatever order the map's stations come. Condition: lengths up to 2^24.
-/
import Derived.Test.YtmnhgghnaklneaaImp6b
import Derived.Maps.OwnIn
import Derived.Carry
namespace Go.Proofs.Ytmnhgghnaklneaa
open Go.RowKit

/-- The map holds what T says: the stations 0 to 14 of which T is not -1, and nothing else. -/
def MapOf (D : DataW Unit) (T : Nat → Int) : Prop :=
  (∀ k, Maps.has D k = true → ∃ i : Nat, i < 15 ∧ k = .int .i64 (i : Int) ∧ T i ≠ -1) ∧
  (∀ i : Nat, i < 15 → T i ≠ -1 → Maps.has D (.int .i64 (i : Int)) = true ∧ ∀ z, D.atKey (.int .i64 (i : Int)) z = .lit (.int .i64 (T i)))
theorem mapOf_nil : MapOf (.map []) (fun _ => -1) := ⟨fun k h => by simp [Maps.has] at h, fun i _ h => (h rfl).elim⟩
theorem MapOf.congr {D : DataW Unit} {T T' : Nat → Int} (h : MapOf D T) (e : ∀ i : Nat, i < 15 → T i = T' i) : MapOf D T' :=
  ⟨fun k hk => by obtain ⟨i, h1, h2, h3⟩ := h.1 k hk; exact ⟨i, h1, h2, by rw [← e i h1]; exact h3⟩, fun i hi hn => by rw [← e i hi] at hn ⊢; exact h.2 i hi hn⟩
theorem lit_ne {i j : Nat} (h : i ≠ j) : Lit.int .i64 (i : Int) ≠ Lit.int .i64 (j : Int) := fun e => by injection e with _ e; omega
theorem key_i64 (i : Int) : WideAt.IsKeyLit (.int .i64 i) := by simp [WideAt.IsKeyLit]
theorem MapOf.put {D : DataW Unit} {T : Nat → Int} (h : MapOf D T) (hD : Maps.IsMap D) {s : Nat} {p : Int} (hs : s < 15) (hp : p ≠ -1) : MapOf (D.put (.int .i64 (s : Int)) (.lit (.int .i64 p))) (fun i => if i = s then p else T i) := by
  refine ⟨fun k hk => ?_, fun i hi hn => ?_⟩
  · by_cases e : k = .int .i64 (s : Int)
    · exact ⟨s, hs, e, by simpa using hp⟩
    · rw [Maps.has_put_other e] at hk
      obtain ⟨i, h1, h2, h3⟩ := h.1 k hk
      have hne : i ≠ s := fun hh => e (by rw [h2, hh])
      exact ⟨i, h1, h2, by simpa [hne] using h3⟩
  · by_cases e : i = s
    · subst e
      exact ⟨Maps.has_put_same hD (key_i64 _) _, fun z => by rw [Maps.atKey_put_same hD (key_i64 _)]; simp⟩
    · have hn' : T i ≠ -1 := by simpa [e] using hn
      obtain ⟨h1, h2⟩ := h.2 i hi hn'
      exact ⟨by rw [Maps.has_put_other (lit_ne e)]; exact h1, fun z => by rw [Maps.atKey_put_other (lit_ne e), h2]; simp [e]⟩

def tabF (ts : List Int) (i : Nat) : Int := ts.getD i (-1)
/-- Block b is a map of the call's own, that holds what T says. -/
def OwnM (w : World) (lo b n : Nat) (T : Nat → Int) : Prop := lo ≤ b ∧ ∃ D : DataW Unit, w.ownsMap Try.prog 3 (plainElem Try.prog 3) b n D ∧ MapOf D T
theorem OwnM.lt {w : World} {lo b n : Nat} {T : Nat → Int} (h : OwnM w lo b n T) : b < w.heap.size := by obtain ⟨_, D, h1, _⟩ := h; exact h1.lt
theorem OwnM.kept {w w' : World} {lo b n : Nat} {T : Nat → Int} {row : Option Nat} (h : OwnM w lo b n T) (hg : w.grownBy w' row) (hne : some b ≠ row) : OwnM w' lo b n T := by
  obtain ⟨h0, D, h1, h2⟩ := h; exact ⟨h0, D, h1.kept hg hne, h2⟩
theorem OwnM.bel {w w' : World} {lo b n : Nat} {T : Nat → Int} (h : OwnM w lo b n T) (hb : Below w.heap.size w w') : OwnM w' lo b n T := h.kept (grown_of_below hb) (fun h => by cases h)
theorem OwnM.mono {w : World} {lo lo' b n n' : Nat} {T : Nat → Int} (h : OwnM w lo b n T) (hl : lo' ≤ lo) (hn : n ≤ n') : OwnM w lo' b n' T := by
  obtain ⟨h0, D, h1, h2⟩ := h; exact ⟨by omega, D, h1.mono hn, h2⟩
theorem OwnM.congr {w : World} {lo b n : Nat} {T T' : Nat → Int} (h : OwnM w lo b n T) (e : ∀ i : Nat, i < 15 → T i = T' i) : OwnM w lo b n T' := by
  obtain ⟨h0, D, h1, h2⟩ := h; exact ⟨h0, D, h1, h2.congr e⟩
theorem i64_wf {z : Int} (h : -9223372036854775808 ≤ z ∧ z ≤ 9223372036854775807) : (Lit.int .i64 z).wf = true := by
  have h1 : IntKind.i64.min = -9223372036854775808 := rfl
  have h2 : IntKind.i64.max = 9223372036854775807 := rfl
  simp only [Lit.wf, Bool.and_eq_true, decide_eq_true_eq]
  omega
theorem keyInt : Maps.Keyed Try.prog 3 := Maps.int_keyed Try.underlying3
theorem key_of {s : Nat} (h : s < 15) : keyOf Try.prog 3 (.int .i64 (s : Int)) = some (.int .i64 (s : Int)) := Maps.keyOf_int_mk Try.underlying3 (i64_wf (by omega))
theorem val_of {p : Int} (h : -1 ≤ p ∧ p ≤ 6) : plainElem (H := Unit) Try.prog 3 (.int .i64 p) = some (.lit (.int .i64 p), []) := plainElem_int Try.underlying3 (i64_wf (by omega))

/-- A variable's struct and a number behind it, as results. -/
theorem results_row_tmp {P : Program} {fn : Func} {p u : Tmp} {ty : TypeId} (h : fn.results = #[.cell p ty, .tmp u]) (tmps : Array Value) (w : World) (g : Nat) (t : TypeId) (cs : Array Value) (fr : Nat × Nat) (d : TypeDesc)
    (hp : tmps.getD p undef = .pointer (some ⟨g, 0, none⟩)) (hg : w.heap[g]? = some (.cells cs t fr))
    (hu : P.underlying ty = some d) (hd : (match d with | .struct _ | .array _ _ => true | _ => false) = true) (hi : (P.info? ty).map (·.size) = some cs.size) :
    (results fn tmps).run P w = .ok (.tuple #[.agg cs, tmps.getD u undef]) w := by
  rw [results_cell_tmp h]
  have hp' : tmps[p]?.getD undef = .pointer (some ⟨g, 0, none⟩) := by simpa using hp
  simp [hp', asAddr, run_loadVar_row w g t ty cs fr d hg hu hd hi, Result.andThen]

theorem two_cells {w : World} {B : Nat} {x y : Value} {t : TypeId} (h : w.heap[B]? = some (.cells #[x, y] t (0, 0))) :
    w.cell? ⟨B, 0, none⟩ = some x ∧ w.cell? ⟨B, 1, none⟩ = some y ∧ w.frozen? ⟨B, 0, none⟩ = false ∧ w.frozen? ⟨B, 1, none⟩ = false :=
  ⟨(cell_of_row w B 0 _ t (0, 0) h).trans rfl, (cell_of_row w B 1 _ t (0, 0) h).trans rfl, frozen_of_row w B 0 _ t h, frozen_of_row w B 1 _ t h⟩
theorem cell_grown (w : World) (B k : Nat) (v : Value) : w.grownBy (w.setCell ⟨B, k, none⟩ v) (some B) :=
  ⟨rfl, rfl, rfl, by simp, fun i _ hi => heap_setCell_other w ⟨B, k, none⟩ i v (fun e => hi (by simp [e]))⟩
theorem two_grown (w : World) (B : Nat) (x y : Value) : w.grownBy ((w.setCell ⟨B, 0, none⟩ x).setCell ⟨B, 1, none⟩ y) (some B) :=
  World.grownBy.trans (cell_grown w B 0 x) (cell_grown _ B 1 y)
theorem two_set {w : World} {B : Nat} {a b : Value} {t : TypeId} (h : w.heap[B]? = some (.cells #[a, b] t (0, 0))) (x y : Value) :
    ((w.setCell ⟨B, 0, none⟩ x).setCell ⟨B, 1, none⟩ y).heap[B]? = some (.cells #[x, y] t (0, 0)) :=
  (heap_setCell_same _ B 1 _ t y ((heap_setCell_same w B 0 _ t x h).trans rfl)).trans rfl
theorem cellsTwo {w : World} {B : Nat} {x y : Value} {t : TypeId} (h : w.heap[B]? = some (.cells #[x, y] t (0, 0))) :
    w.cell? ⟨B, 0, none⟩ = some x ∧ w.cell? ⟨B, 1, none⟩ = some y :=
  ⟨(cell_of_row w B 0 _ t (0, 0) h).trans rfl, (cell_of_row w B 1 _ t (0, 0) h).trans rfl⟩
/-- A bridge, as a value. -/
def brV (ports : Int) (b : Nat) : Value := .agg #[.int .i64 ports, .map (some b)]

theorem learn_any {lo b n s : Nat} {ports p : Int} {T : Nat → Int} {w : World} (h : OwnM w lo b n T) (hs : s < 15) (hp : 0 ≤ p ∧ p ≤ 6) (hn : n ≤ 1000) :
    Calls Try.prog 55 #[.agg #[.int .i64 ports, .map (some b)], .int .i64 (s : Int), .int .i64 p] w fun e w' => e = .returned (.tuple #[]) ∧ OwnM w' lo b (n + 1) (fun i => if i = s then p else T i) ∧ w.grownBy w' (some b) := by
  have hblt := h.lt
  obtain ⟨h0, D, h1, h2⟩ := h
  have hB0 := heap_alloc_new w (.cells #[.int .i64 ports, .map (some b)] 70)
  obtain ⟨k0, k1⟩ := cellsTwo hB0
  have hown := h1.alloc (.cells #[.int .i64 ports, .map (some b)] 70)
  have G0 := World.grownBy_alloc w (.cells #[.int .i64 ports, .map (some b)] 70) (some b)
  have hM := h2.put h1.isMap hs (show p ≠ -1 by omega)
  have hk := key_of hs
  have hv := val_of (p := p) (by omega)
  clear hB0 h2 h1
  go_enter Try.func55, Try.ntmps55
  go_wp2_with (at_mapUpdate; refine wpList_mapUpdate_own _ rfl _ _ _ 68 rfl 3 3 keyInt Try.underlying68 _ b n D rfl hown (by unfold maxLen; omega) _ _ _ rfl rfl hk _ [] hv ?_; intro w1 hown1 hgrow1)
  refine bodyPost_end (results_none rfl _ _ _) rfl ?_
  exact ⟨rfl, ⟨h0, _, hown1, hM⟩, World.grownBy.trans G0 hgrow1⟩

theorem bridgeOf_no {A : Option Addr} {n c : Nat} {ts : List Int} {ports : Int} {w : World} (h : Has w A n (ints .i64 ts)) (hn : n ≤ 16777216) (ht : ¬ tOk ts ports) :
    Calls Try.prog 52 #[.slice A n c, .int .i64 ports] w fun e w' => e = .returned (.tuple #[.agg #[.int .i64 0, .map none], .bool false]) ∧ Below w.heap.size w w' := by
  have B0 : Below w.heap.size w (w.alloc (.cells #[.int .i64 0, .map none] 70)) := (Below.refl _ _).alloc (Nat.le_refl _) _
  have C := Lib.hid (implTableValid_w (c := c) (b := false) (h.bel B0) hn (decide_eq_false ht))
  have hF := heap_alloc_new w (.cells #[.int .i64 0, .map none] 70)
  clear ht
  go_enter Try.func52, Try.ntmps52
  go_wp2_with (go_at_call 20; refine C.out.mono ?_; rintro e w' ⟨rfl, rfl⟩)
  refine bodyPost_ret (results_row_tmp rfl _ _ _ _ _ _ _ rfl hF Try.underlying70 rfl (by kernel_rfl)) rfl ?_
  exact ⟨rfl, B0⟩

set_option maxHeartbeats 1000000 in
theorem bridgeOf_yes {A : Option Addr} {n c : Nat} {ts : List Int} {ports : Int} {w : World} (h : Has w A n (ints .i64 ts)) (ht : tOk ts ports) :
    Calls Try.prog 52 #[.slice A n c, .int .i64 ports] w fun e w' => ∃ b, e = .returned (.tuple #[.agg #[.int .i64 ports, .map (some b)], .bool true]) ∧ OwnM w' w.heap.size b 15 (tabF ts) ∧ Below w.heap.size w w' := by
  have B0 : Below w.heap.size w (w.alloc (.cells #[.int .i64 0, .map none] 70)) := (Below.refl _ _).alloc (Nat.le_refl _) _
  have hn : n = 15 := by have := h.len; have := ht.1; omega
  subst hn
  have C := Lib.hid (implTableValid_w (c := c) (b := true) (h.bel B0) (by decide) (decide_eq_true ht))
  have hF := heap_alloc_new w (.cells #[.int .i64 0, .map none] 70)
  have HT := Lib.hid ht
  have hmm := fun (t : TypeId) (W : World) => run_makeMap (P := Try.prog) t W
  clear ht
  go_enter Try.func52, Try.ntmps52
  go_wp2_with (go_at_call 20; refine C.out.mono ?_; rintro e w' ⟨rfl, rfl⟩)
  go_loopw [17] (fun i wr => ∃ k : Nat, k ≤ 15 ∧ i = .int .i64 (k : Int) ∧ OwnM wr w.heap.size (w.heap.size + 1) k (fun i => if i < k then tabF ts i else -1) ∧ wr.heap[w.heap.size]? = some (.cells #[.int .i64 0, .map none] 70 (0, 0)) ∧ Below w.heap.size w wr) (fun i _ => 15 - (intOf i).toNat)
  case atStart =>
    have hm := World.ownsMap_made (H := Unit) (w.alloc (.cells #[.int .i64 0, .map none] 70)) Try.prog 3 (plainElem Try.prog 3)
    rw [World.size_alloc] at hm
    exact ⟨0, Nat.zero_le _, rfl, ⟨Nat.le_succ _, _, hm, mapOf_nil.congr (fun i _ => by simp)⟩, (Below.heap_alloc _ _ _ (by simp)).trans hF, B0.alloc (by simp) _⟩
  case round =>
    obtain ⟨k, hk, rfl, hM, hF1, B1⟩ := hrel
    by_cases hlt : k < 15
    · have hltB : decide ((k : Int) < 15) = true := by simp; omega
      obtain ⟨b, o, z, rfl, hbl, hx, hc⟩ := h.at_ hlt
      have hc1 := (B1.cell (p := ⟨b, o + k, none⟩) hbl).trans hc
      have hz : tabF ts k = z := by unfold tabF; rw [List.getD_eq_getElem?_getD, hx]; rfl
      have hzb := HT.out.2.2 z (List.mem_of_getElem? hx)
      have hpb := HT.out.2.1
      by_cases hz0 : z = -1
      · have z0 : (z != -1) = false := by simp [hz0]
        have HM := Lib.hid (hM.congr (T' := fun i => if i < k + 1 then tabF ts i else -1) (fun i hi => by
          by_cases h1 : i < k
          · simp [h1, show i < k + 1 by omega]
          · by_cases h2 : i = k
            · subst h2; simp [hz, hz0]
            · simp [h1, show ¬ i < k + 1 by omega]))
        have HM2 := Lib.hid (HM.out.mono (Nat.le_refl _) (Nat.le_succ k))
        clear hx hz hz0 hzb hpb hM
        go_wp2
        go_roundw
        case rel => exact ⟨k + 1, by omega, by go_num, HM2.out, hF1, B1⟩
        case measure => simp [intOf]; omega
      · have z0 : (z != -1) = true := by simp [hz0]
        obtain ⟨h0, D, h1, h2⟩ := hM
        have HM := Lib.hid ((h2.put h1.isMap hlt hz0).congr (T' := fun i => if i < k + 1 then tabF ts i else -1) (fun i hi => by
          by_cases h3 : i = k
          · subst h3; simp [hz]
          · by_cases h4 : i < k
            · simp [h3, h4, show i < k + 1 by omega]
            · simp [h3, h4, show ¬ i < k + 1 by omega]))
        have hkk := key_of hlt
        have hvv := val_of (p := z) (by omega)
        have hn1 : k < maxLen := by unfold maxLen; omega
        clear hx hz hz0 hzb hpb h2
        go_wp2_with (at_mapUpdate; refine wpList_mapUpdate_own _ rfl _ _ _ 68 rfl 3 3 keyInt Try.underlying68 _ (w.heap.size + 1) k D rfl h1 hn1 _ _ _ rfl rfl hkk _ [] hvv ?_; intro w1 hown1 hgrow1)
        go_roundw
        case rel => exact ⟨k + 1, by omega, by go_num, ⟨Nat.le_succ _, _, hown1, HM.out⟩, (hgrow1.block w.heap.size (by have := B1.size; have := h1.lt; omega) (by simp)).trans hF1, B1.trans (below_of_grown hgrow1 (by have := h1.lt; omega) (fun j hj => by cases hj; omega))⟩
        case measure => simp [intOf]; omega
    · have hltB : decide ((k : Int) < 15) = false := by simp; omega
      obtain rfl : k = 15 := by omega
      have HM := Lib.hid (hM.congr (T' := tabF ts) (fun i hi => by simp [hi]))
      obtain ⟨c0, c1, f0, f1⟩ := two_cells hF1
      have hF2 := two_set hF1 (.int .i64 ports) (.map (some (w.heap.size + 1)))
      have G2 := two_grown wr w.heap.size (.int .i64 ports) (.map (some (w.heap.size + 1)))
      clear hM
      go_wp2
      refine bodyPost_ret (results_row_tmp rfl _ _ _ _ _ _ _ rfl hF2 Try.underlying70 rfl (by kernel_rfl)) rfl ?_
      exact ⟨_, rfl, HM.out.kept G2 (by simp), B1.trans (below_of_grown G2 B1.size (fun j hj => by cases hj; exact Nat.le_refl _))⟩

def tabL (T : Nat → Int) : List Int := (List.range 15).map T
theorem tabL_tabF {ts : List Int} (h : ts.length = 15) : tabL (tabF ts) = ts := by
  apply List.ext_getElem
  · simp [tabL, h]
  · intro i h1 h2
    simp [tabL, tabF, List.getD_eq_getElem?_getD, h2]
theorem tabL_set (T : Nat → Int) (i : Nat) (v : Int) : (tabL T).set i v = tabL (fun j => if j = i then v else T j) := by
  apply List.ext_getElem
  · simp [tabL]
  · intro j h1 h2
    simp only [tabL, List.getElem_set, List.getElem_map, List.getElem_range]
    by_cases e : i = j
    · subst e; simp
    · simp [e, show ¬ j = i from fun h => e h.symm]
theorem tabL_congr {T T' : Nat → Int} (h : ∀ i : Nat, i < 15 → T i = T' i) : tabL T = tabL T' := by
  unfold tabL
  exact List.map_congr_left (fun i hi => h i (List.mem_range.1 hi))
theorem sameKey_int (i j : Nat) : (Lit.int .i64 (i : Int)).sameKey (.int .i64 (j : Int)) = decide (i = j) := by
  by_cases e : i = j
  · subst e; rw [WideAt.sameKey_self (key_i64 _)]; simp
  · rw [Maps.sameKey_ne (lit_ne e)]; simp [e]

set_option maxHeartbeats 1000000 in
theorem table_any {lo b n : Nat} {ports : Int} {T : Nat → Int} {w : World} (h : OwnM w lo b n T) :
    Calls Try.prog 56 #[.agg #[.int .i64 ports, .map (some b)]] w fun e w' => ∃ A' c', e = .returned (.slice A' 15 c') ∧ Own w' w.heap.size 3 A' 15 c' (ints .i64 (tabL T)) ∧ Below w.heap.size w w' := by
  have hblt := h.lt
  obtain ⟨_, D, h1, h2⟩ := h
  have hB0 := heap_alloc_new w (.cells #[.int .i64 ports, .map (some b)] 70)
  have B0 : Below w.heap.size w (w.alloc (.cells #[.int .i64 ports, .map (some b)] 70)) := (Below.refl _ _).alloc (Nat.le_refl _) _
  have C := Lib.hid (implFreshTable_w (w.alloc (.cells #[.int .i64 ports, .map (some b)] 70)))
  go_enter Try.func56, Try.ntmps56
  go_wp2_with (fail)
  refine C.out.mono ?_
  rintro e w1 ⟨A1, c1, rfl, O1, B1⟩
  have s1 := B1.size
  rw [World.size_alloc] at s1
  have hB1 := (B1.block w.heap.size (by simp)).trans hB0
  obtain ⟨k0, k1, _, _⟩ := two_cells hB1
  have BB := B0.trans (B1.mono (by simp))
  have hown := (h1.alloc (.cells #[.int .i64 ports, .map (some b)] 70)).kept (grown_of_below B1) (by simp)
  have O2 : Own w1 w.heap.size 3 A1 15 c1 (ints .i64 freshL) := O1.mono (by simp)
  obtain ⟨g, rfl, hg0, hg1⟩ := O2.head (by decide)
  clear hB0 hB1 B1 O1 h1 B0 C
  go_wp2_with (first
    | (at_range; refine wpList_range_own _ rfl _ 68 rfl 3 3 keyInt Try.underlying68 _ b n _ rfl hown ?_; intro w0 hrg0 hgr0 hs0)
    | go_in)
  go_frame
  go_loopw [4] (fun _ wr => ∃ (left : Lit → Bool) (cnt : Nat), wr.ranges Try.prog 3 (plainElem Try.prog 3) b w1.heap.size n D left cnt ∧ Own wr w.heap.size 3 (some ⟨g, 0, none⟩) 15 c1 (ints .i64 (tabL (fun i => if left (.int .i64 (i : Int)) = true then -1 else T i))) ∧ Below w.heap.size w wr)
    (fun _ wr => wr.rangeLeft b w1.heap.size)
  case atStart =>
    refine ⟨_, _, hrg0, ?_, BB.trans (below_of_grown hgr0 (by omega) (fun j hj => by cases hj))⟩
    have e1 : tabL (fun i => if Maps.has D (.int .i64 (i : Int)) = true then -1 else T i) = freshL := by
      rw [show freshL = tabL (fun _ => -1) by decide]
      refine tabL_congr (fun i hi => ?_)
      by_cases hh : Maps.has D (.int .i64 (i : Int)) = true
      · simp [hh]
      · simp only [hh, if_false, Bool.false_eq_true]
        by_cases ht : T i = -1
        · exact ht
        · exact absurd (h2.2 i hi ht).1 hh
    rw [e1]
    exact O2.grown hgr0 (fun _ _ hh => by cases hh)
  case round =>
    obtain ⟨left, cnt, hrg, O, B⟩ := hrel
    go_wp2_with (first
      | (at_next; refine wpList_next_ranges_ii _ rfl _ rfl 3 3 .i64 .i64 keyInt Try.underlying3 Try.underlying3 b w1.heap.size n _ _ _ rfl hrg ?_ ?_)
      | go_in)
    · intro hc0 hl0
      have O3 := Lib.hid (show Own wr w.heap.size 3 (some ⟨g, 0, none⟩) 15 c1 (ints .i64 (tabL T)) by
        rw [show tabL T = tabL (fun i => if left (.int .i64 (i : Int)) = true then -1 else T i) from tabL_congr (fun i _ => by simp [hl0])]; exact O)
      clear hrg hl0 O
      go_wp2
      go_ret
      exact ⟨_, _, rfl, O3.out, B⟩
    · intro x c w2 cnt2 hwx hwc hlx hat hrg2 hlt hg2 hs2 hen
      obtain ⟨i, hi, hxe, hTi⟩ := h2.1 _ (Maps.has_true_of_atKey hat)
      obtain rfl : x = (i : Int) := by injection hxe
      obtain rfl : c = T i := by
        have e1 := (hat (.lit (.int .i64 0))).symm.trans ((h2.2 i hi hTi).2 _)
        injection e1 with e1
        injection e1
      have hgne : some g ≠ some w1.heap.size := fun hh => by injection hh with hh; omega
      have O4 : Own w2 w.heap.size 3 (some ⟨g, 0, none⟩) 15 c1 (ints .i64 (tabL (fun i => if left (.int .i64 (i : Int)) = true then -1 else T i))) := O.grown hg2 (fun ad had => by injection had with had; subst had; exact hgne)
      obtain ⟨u, hu, hd, hf⟩ := O4.at_ (k := i) hi
      have hi0 : (0 : Int) ≤ (i : Int) := by omega
      have hi1 : (i : Int) < 15 := by omega
      have B2 := B.trans (below_of_grown hg2 B.size (fun j hj => by cases hj; have := BB.size; omega))
      have O5 := O4.set_ i (.int .i64 (T i))
      rw [ints_set, tabL_set] at O5
      have O6 := Lib.hid (show Own (w2.setCell ⟨g, i, none⟩ (.int .i64 (T i))) w.heap.size 3 (some ⟨g, 0, none⟩) 15 c1 (ints .i64 (tabL (fun j => if (left (.int .i64 (j : Int)) && !(Lit.int .i64 (j : Int)).sameKey (.int .i64 (i : Int))) = true then -1 else T j))) by
        rw [show tabL (fun j => if (left (.int .i64 (j : Int)) && !(Lit.int .i64 (j : Int)).sameKey (.int .i64 (i : Int))) = true then -1 else T j) = tabL (fun j => if j = i then T i else if left (.int .i64 (j : Int)) = true then -1 else T j) from tabL_congr (fun j _ => by
          rw [sameKey_int]
          by_cases e : j = i
          · subst e; simp
          · simp [e])]
        exact O5)
      have hb2 : some b ≠ some g := fun hh => by injection hh with hh; omega
      have hrg3 := hrg2.kept (cell_grown w2 g i (.int .i64 (T i))) hb2 (fun hh => hgne hh.symm)
      clear hs2 hat hxe hTi hwx hwc hlx hu O4 O5 O
      go_wp2
      go_roundw
      case rel => exact ⟨_, cnt2, hrg3, O6.out, B2.setCell hg0 _⟩
      case measure => rw [hrg3.left_eq, hrg.left_eq]; exact hlt
end Go.Proofs.Ytmnhgghnaklneaa
