/-
  Chapter 9's model, stations that send when they like, a slot: what is proved here is what the model's slot leaves in memory, and that nothing that was there before the run is written. Condition: at most 6 stations.
-/
import Derived.Test.YtpciaokafokfmaaTalkR
import Derived.StillTailTactics
import Derived.Deep.RegionHeld3
import Derived.BigRegion
import Derived.BigQuiet
namespace Go.Proofs.Ytpciaokafokfmaa
open Go.RowKit

theorem mslot_none {st : TS} {n : Nat} (h : OkT n st) (hs : sendersF 0 st.ts = []) :
    fO (slotS st).ts = fO st.ts ∧ tO (slotS st).ts = tO st.ts ∧ (slotS st).ds = st.ds ∧ (slotS st).o = st.o ∧ (slotS st).h = st.h ∧ decF 0 (wO st.ts) (wO st.ts) = wO (slotS st).ts := by
  have hh : hitS st.ts = false := by unfold hitS; rw [hs]; rfl
  have hw : ∀ x ∈ st.ts, 0 ≤ x.2.2 := fun x hx => (h.w x hx).1
  have e := slot_none false st.ds st.ts 0 hs
  have d := decF_row (wO st.ts) [] (wO st.ts) rfl
  rw [List.length_nil, List.nil_append, List.nil_append, decZ_rest st.ts hw] at d
  have e1 : (slotS st).ts = st.ts.map restT := by simp [slotS, hh, e]
  refine ⟨?_, ?_, by simp [slotS, hh, e], by simp [slotS, hh, e], by simp [slotS, hh], by rw [d, e1]⟩
  · rw [e1]; simp [fO, restT]
  · rw [e1]; simp [tO, restT]
theorem mslot_one {st : TS} {n k : Nat} (h : OkT n st) (hs : sendersF 0 st.ts = [k]) :
    fO (slotS st).ts = (fO st.ts).set k (gq (fO st.ts) k - 1) ∧ tO (slotS st).ts = (tO st.ts).set k 0 ∧ (slotS st).ds = st.ds ∧ (slotS st).o = st.o ++ [(k : Int)] ∧ (slotS st).h = st.h ∧ decF 0 (wO st.ts) (wO st.ts) = wO (slotS st).ts ∧ k < n := by
  have hh : hitS st.ts = false := by unfold hitS; rw [hs]; rfl
  have hw : ∀ x ∈ st.ts, 0 ≤ x.2.2 := fun x hx => (h.w x hx).1
  obtain ⟨a, b, c, d, e, f⟩ := slot_one st.ds st.ts 0 k (by rw [hs, Nat.zero_add]) hw
  have g := decF_row (wO st.ts) [] (wO st.ts) rfl
  rw [List.length_nil, List.nil_append, List.nil_append] at g
  rw [Nat.zero_add] at e
  refine ⟨by simp [slotS, hh, a], by simp [slotS, hh, b], by simp [slotS, hh, d], by simp [slotS, hh, e], by simp [slotS, hh], by rw [g]; simp [slotS, hh, c], by rw [← h.len]; exact f⟩
theorem mslot_hit {st : TS} {n : Nat} (h : OkT n st) (hs : 1 < (sendersF 0 st.ts).length) :
    ∃ hw, hitF (sendersF 0 st.ts) (wO st.ts) (tO st.ts) st.ds = (hw, tO (slotS st).ts, (slotS st).ds) ∧ fO (slotS st).ts = fO st.ts ∧ (slotS st).o = st.o ∧ (slotS st).h = st.h + 1 ∧ decF 0 (wO st.ts) hw = wO (slotS st).ts := by
  have hh : hitS st.ts = true := by unfold hitS; exact decide_eq_true hs
  have hw : ∀ x ∈ st.ts, 0 ≤ x.2.2 := fun x hx => (h.w x hx).1
  obtain ⟨hv, a, b, c, d⟩ := slot_hit st.ts 0 st.ds [] [] rfl rfl hw
  have g := decF_row (wO st.ts) [] hv (by simp [wO, b])
  rw [List.length_nil, List.nil_append, List.nil_append] at g
  rw [List.nil_append, List.nil_append, List.nil_append, List.nil_append] at a
  refine ⟨hv, by rw [a]; simp [slotS, hh], by simp [slotS, hh, d], ?_, by simp [slotS, hh], by rw [g]; simp [slotS, hh, c]⟩
  simp [slotS, hh, slotF_o]

/-- The block r holds the model's stations. -/
def TRow (w : World) (r : Nat) (o : Value) (h s : Int) (d : Bool) (q a t m : Value) : Prop := w.heap[r]? = some (.cells #[o, .int .i64 h, .int .i64 s, .bool d, q, a, t, m] 66 (0, 0))
section
variable {w : World} {r : Nat} {o q a t m : Value} {h s : Int} {d : Bool}
theorem TRow.lt (k : TRow w r o h s d q a t m) : r < w.heap.size := (Array.getElem?_eq_some_iff.1 k).1
theorem TRow.cells (k : TRow w r o h s d q a t m) : w.cell? ⟨r, 0, none⟩ = some o ∧ w.cell? ⟨r, 1, none⟩ = some (.int .i64 h) ∧ w.cell? ⟨r, 2, none⟩ = some (.int .i64 s) ∧ w.cell? ⟨r, 3, none⟩ = some (.bool d) ∧ w.cell? ⟨r, 4, none⟩ = some q ∧ w.cell? ⟨r, 5, none⟩ = some a ∧ w.cell? ⟨r, 6, none⟩ = some t ∧ w.cell? ⟨r, 7, none⟩ = some m :=
  ⟨(cell_of_row w r 0 _ _ (0, 0) k).trans rfl, (cell_of_row w r 1 _ _ (0, 0) k).trans rfl, (cell_of_row w r 2 _ _ (0, 0) k).trans rfl, (cell_of_row w r 3 _ _ (0, 0) k).trans rfl, (cell_of_row w r 4 _ _ (0, 0) k).trans rfl, (cell_of_row w r 5 _ _ (0, 0) k).trans rfl, (cell_of_row w r 6 _ _ (0, 0) k).trans rfl, (cell_of_row w r 7 _ _ (0, 0) k).trans rfl⟩
theorem TRow.open_ (k : TRow w r o h s d q a t m) (i : Nat) : w.frozen? ⟨r, i, none⟩ = false := frozen_of_row w r i _ _ k
theorem TRow.order (k : TRow w r o h s d q a t m) (o' : Value) : TRow (w.setCell ⟨r, 0, none⟩ o') r o' h s d q a t m := (heap_setCell_same w r 0 _ _ _ k).trans rfl
theorem TRow.hits (k : TRow w r o h s d q a t m) (x : Int) : TRow (w.setCell ⟨r, 1, none⟩ (.int .i64 x)) r o x s d q a t m := (heap_setCell_same w r 1 _ _ _ k).trans rfl
theorem TRow.slots (k : TRow w r o h s d q a t m) (x : Int) : TRow (w.setCell ⟨r, 2, none⟩ (.int .i64 x)) r o h x d q a t m := (heap_setCell_same w r 2 _ _ _ k).trans rfl
theorem TRow.done (k : TRow w r o h s d q a t m) (x : Bool) : TRow (w.setCell ⟨r, 3, none⟩ (.bool x)) r o h s x q a t m := (heap_setCell_same w r 3 _ _ _ k).trans rfl
theorem TRow.draws (k : TRow w r o h s d q a t m) (m' : Value) : TRow (w.setCell ⟨r, 7, none⟩ m') r o h s d q a t m' := (heap_setCell_same w r 7 _ _ _ k).trans rfl
theorem TRow.grown {w' : World} {row : Option Nat} (k : TRow w r o h s d q a t m) (hg : w.grownBy w' row) (hne : row ≠ some r) : TRow w' r o h s d q a t m := (hg.block r k.lt (fun e => hne e.symm)).trans k
end
/-- What lies in memory of the model's stations. -/
structure MW (w : World) (lo r gq gw gt n cq : Nat) (O : Option Addr) (co : Nat) (D : Option Addr) (cd : Nat) (qs ws ts ds os : List Int) (h s : Nat) : Prop where
  row : TRow w r (.slice O os.length co) (h : Int) (s : Int) false (.slice (some ⟨gq, 0, none⟩) n cq) (.slice (some ⟨gw, 0, none⟩) n n) (.slice (some ⟨gt, 0, none⟩) n n) (.slice D ds.length cd)
  q : Own w lo 3 (some ⟨gq, 0, none⟩) n cq (ints .i64 qs)
  a : Own w lo 3 (some ⟨gw, 0, none⟩) n n (ints .i64 ws)
  t : Own w lo 3 (some ⟨gt, 0, none⟩) n n (ints .i64 ts)
  o : Own w lo 3 O os.length co (ints .i64 os)
  m : Has w D ds.length (ints .i64 ds)
  mlo : ∀ x, D = some x → x.block < lo
  mc : ds.length ≤ cd
  ge : lo ≤ r
  ne : gq ≠ gw ∧ gq ≠ gt ∧ gw ≠ gt
  no : ∀ x, O = some x → x.block ≠ gq ∧ x.block ≠ gw ∧ x.block ≠ gt
section
variable {w w' : World} {lo r gq gw gt n cq co cd h s : Nat} {O D : Option Addr} {qs ws ts ds os : List Int}
theorem MW.setq (k : MW w lo r gq gw gt n cq O co D cd qs ws ts ds os h s) (i : Nat) (v : Int) : MW (w.setCell ⟨gq, i, none⟩ (.int .i64 v)) lo r gq gw gt n cq O co D cd (qs.set i v) ws ts ds os h s := by
  have G := one_grown9 w gq i (.int .i64 v)
  have hr : gq ≠ r := fun e => own_not9 k.q k.row (by decide) (by rw [e]; rfl)
  have hq := k.q.set_ i (.int .i64 v)
  rw [ints_set] at hq
  have hl : lo ≤ gq := k.q.block.1
  refine ⟨k.row.grown G (by simp; exact hr), hq, k.a.grown G (fun x hx e => ?_), k.t.grown G (fun x hx e => ?_), k.o.grown G (fun x hx e => ?_), k.m.grown G (fun x hx e => ?_), k.mlo, k.mc, k.ge, k.ne, k.no⟩
  · injection hx with hx; subst hx; injection e with e; exact k.ne.1 e.symm
  · injection hx with hx; subst hx; injection e with e; exact k.ne.2.1 e.symm
  · injection e with e; exact (k.no x hx).1 e
  · injection e with e; have := k.mlo x hx; omega
theorem MW.setw (k : MW w lo r gq gw gt n cq O co D cd qs ws ts ds os h s) (i : Nat) (v : Int) : MW (w.setCell ⟨gw, i, none⟩ (.int .i64 v)) lo r gq gw gt n cq O co D cd qs (ws.set i v) ts ds os h s := by
  have G := one_grown9 w gw i (.int .i64 v)
  have hr : gw ≠ r := fun e => own_not9 k.a k.row (by decide) (by rw [e]; rfl)
  have hq := k.a.set_ i (.int .i64 v)
  rw [ints_set] at hq
  have hl : lo ≤ gw := k.a.block.1
  refine ⟨k.row.grown G (by simp; exact hr), k.q.grown G (fun x hx e => ?_), hq, k.t.grown G (fun x hx e => ?_), k.o.grown G (fun x hx e => ?_), k.m.grown G (fun x hx e => ?_), k.mlo, k.mc, k.ge, k.ne, k.no⟩
  · injection hx with hx; subst hx; injection e with e; exact k.ne.1 e
  · injection hx with hx; subst hx; injection e with e; exact k.ne.2.2 e.symm
  · injection e with e; exact (k.no x hx).2.1 e
  · injection e with e; have := k.mlo x hx; omega
theorem MW.sett (k : MW w lo r gq gw gt n cq O co D cd qs ws ts ds os h s) (i : Nat) (v : Int) : MW (w.setCell ⟨gt, i, none⟩ (.int .i64 v)) lo r gq gw gt n cq O co D cd qs ws (ts.set i v) ds os h s := by
  have G := one_grown9 w gt i (.int .i64 v)
  have hr : gt ≠ r := fun e => own_not9 k.t k.row (by decide) (by rw [e]; rfl)
  have hq := k.t.set_ i (.int .i64 v)
  rw [ints_set] at hq
  have hl : lo ≤ gt := k.t.block.1
  refine ⟨k.row.grown G (by simp; exact hr), k.q.grown G (fun x hx e => ?_), k.a.grown G (fun x hx e => ?_), hq, k.o.grown G (fun x hx e => ?_), k.m.grown G (fun x hx e => ?_), k.mlo, k.mc, k.ge, k.ne, k.no⟩
  · injection hx with hx; subst hx; injection e with e; exact k.ne.2.1 e
  · injection hx with hx; subst hx; injection e with e; exact k.ne.2.2 e
  · injection e with e; exact (k.no x hx).2.2 e
  · injection e with e; have := k.mlo x hx; omega
theorem MW.cell (k : MW w lo r gq gw gt n cq O co D cd qs ws ts ds os h s) (i : Nat) (v : Value) {O' : Option Addr} {co' : Nat} {os' : List Int} {h' s' : Nat}
    (hrow : TRow (w.setCell ⟨r, i, none⟩ v) r (.slice O' os'.length co') (h' : Int) (s' : Int) false (.slice (some ⟨gq, 0, none⟩) n cq) (.slice (some ⟨gw, 0, none⟩) n n) (.slice (some ⟨gt, 0, none⟩) n n) (.slice D ds.length cd))
    (ho : Own w lo 3 O' os'.length co' (ints .i64 os')) (hno : ∀ x, O' = some x → x.block ≠ gq ∧ x.block ≠ gw ∧ x.block ≠ gt) : MW (w.setCell ⟨r, i, none⟩ v) lo r gq gw gt n cq O' co' D cd qs ws ts ds os' h' s' :=
  ⟨hrow, own_set k.q k.row (by decide) i v, own_set k.a k.row (by decide) i v, own_set k.t k.row (by decide) i v, own_set ho k.row (by decide) i v, k.m.grown (one_grown9 w r i v) (fun x hx e => by injection e with e; have := k.mlo x hx; have := k.ge; omega), k.mlo, k.mc, k.ge, k.ne, hno⟩
theorem MW.hits (k : MW w lo r gq gw gt n cq O co D cd qs ws ts ds os h s) (x : Nat) : MW (w.setCell ⟨r, 1, none⟩ (.int .i64 (x : Int))) lo r gq gw gt n cq O co D cd qs ws ts ds os x s := k.cell 1 _ (k.row.hits _) k.o k.no
theorem MW.slots (k : MW w lo r gq gw gt n cq O co D cd qs ws ts ds os h s) (x : Nat) : MW (w.setCell ⟨r, 2, none⟩ (.int .i64 (x : Int))) lo r gq gw gt n cq O co D cd qs ws ts ds os h x := k.cell 2 _ (k.row.slots _) k.o k.no
theorem MW.bel (k : MW w lo r gq gw gt n cq O co D cd qs ws ts ds os h s) (hb : Below w.heap.size w w') : MW w' lo r gq gw gt n cq O co D cd qs ws ts ds os h s :=
  ⟨(hb.block r k.row.lt).trans k.row, k.q.bel hb, k.a.bel hb, k.t.bel hb, k.o.bel hb, k.m.bel hb, k.mlo, k.mc, k.ge, k.ne, k.no⟩
/-- The order in another block, as append leaves it. -/
theorem MW.order (k : MW w lo r gq gw gt n cq O co D cd qs ws ts ds os h s) {g c : Nat} {x : Int} (hg : w.grownBy w' (O.map (·.block))) (ho : Own w' lo 3 (some ⟨g, 0, none⟩) (os.length + 1) c (ints .i64 os ++ [.int .i64 x])) (hat : O.map (·.block) = some g ∨ w.heap.size ≤ g) :
    MW (w'.setCell ⟨r, 0, none⟩ (.slice (some ⟨g, 0, none⟩) (os.length + 1) c)) lo r gq gw gt n cq (some ⟨g, 0, none⟩) c D cd qs ws ts ds (os ++ [x]) h s := by
  have hr : O.map (·.block) ≠ some r := own_not9 k.o k.row (by decide)
  have key : ∀ b : Nat, (∀ y, O = some y → y.block ≠ b) → ∀ z : Addr, some z = some ⟨b, 0, none⟩ → some z.block ≠ O.map (·.block) := fun b hb z hz e => by
    injection hz with hz; subst hz
    cases O with
    | none => cases e
    | some y => injection e with e; exact hb y rfl e.symm
  have M1 : MW w' lo r gq gw gt n cq O co D cd qs ws ts ds os h s ∨ True := .inr trivial
  have row' := k.row.grown hg hr
  have hq := k.q.grown hg (fun z hz => key gq (fun y hy => (k.no y hy).1) z hz.symm)
  have ha := k.a.grown hg (fun z hz => key gw (fun y hy => (k.no y hy).2.1) z hz.symm)
  have ht := k.t.grown hg (fun z hz => key gt (fun y hy => (k.no y hy).2.2) z hz.symm)
  have hm := k.m.grown hg (fun z hz e => by
    cases O with
    | none => cases e
    | some y => have e2 : z.block = y.block := (by injection e); have h1 := k.mlo z hz; have h2 := k.o.block.1; omega)
  have ho' : Own w' lo 3 (some ⟨g, 0, none⟩) (os ++ [x]).length c (ints .i64 (os ++ [x])) := by rw [ints_app, List.length_append]; exact ho
  have l1 : gq < w.heap.size := k.q.block.2
  have l2 : gw < w.heap.size := k.a.block.2
  have l3 : gt < w.heap.size := k.t.block.2
  have hne : g ≠ gq ∧ g ≠ gw ∧ g ≠ gt := by
    rcases hat with e | e
    · cases O with
      | none => cases e
      | some y => injection e with e; have := k.no y rfl; rw [← e]; exact this
    · omega
  have e1 : os.length + 1 = (os ++ [x]).length := by simp
  have row2 := row'.order (.slice (some ⟨g, 0, none⟩) (os.length + 1) c)
  rw [e1] at row2 ⊢
  exact ⟨row2, own_set hq row' (by decide) 0 _, own_set ha row' (by decide) 0 _, own_set ht row' (by decide) 0 _, own_set ho' row' (by decide) 0 _, hm.grown (one_grown9 w' r 0 _) (fun z hz e => by injection e with e; have := k.mlo z hz; have := k.ge; omega), k.mlo, k.mc, k.ge, k.ne, fun z hz => by injection hz with hz; subst hz; exact hne⟩
end
theorem run_tail9 {P : Program} {w : World} {t e : TypeId} (ht : P.underlying t = some (.slice e)) (hz : ∀ w, (Go.sizeOf e).run P w = .ok 1 w) {A : Option Addr} {n c : Nat} {xs : List Value} (h : Has w A n xs) (hnc : n ≤ c) (hl : 1 ≤ n) :
    ∃ B, (∀ W, (Instr.slice t (.slice A n c) (some (.int .i64 1)) none none).run P W = .ok (.slice B (n - 1) (c - 1)) W) ∧ Has w B (n - 1) (xs.drop 1) ∧ ∀ x, B = some x → ∃ y, A = some y ∧ x.block = y.block := by
  have ht' : P.underlying t = some (.slice (P.elem t)) := by simp [Program.elem, ht]
  have he : P.elem t = e := by simp [Program.elem, ht]
  have hxl := h.1
  obtain ⟨b, o, hA, _⟩ := h.2 0 (by omega)
  subst hA
  by_cases hc : c = 1
  · have hn : n = 1 := by omega
    subst hn hc
    exact ⟨some ⟨b, o, none⟩, fun W => by rw [run_slice_l W t _ _ _ ht' .i64 _ (by omega) (by omega), he, hz]; simp [Result.andThen, sliced], ⟨by simp [hxl], fun i hi => by omega⟩, fun x hx => ⟨_, rfl, by injection hx with hx; rw [← hx]⟩⟩
  · refine ⟨some ⟨b, o + 1, none⟩, fun W => ?_, ⟨by simp [hxl], fun i hi => ?_⟩, fun x hx => ⟨_, rfl, by injection hx with hx; rw [← hx]⟩⟩
    · rw [run_slice_l W t _ _ _ ht' .i64 _ (by omega) (by omega), he, hz]
      simp [Result.andThen, sliced, Addr.add, hc]
    · obtain ⟨b', o', hA, hcell⟩ := h.2 (1 + i) (by omega)
      injection hA with hA
      injection hA with e1 e2
      subst e1 e2
      refine ⟨b, o + 1, rfl, ?_⟩
      rw [Nat.add_assoc, hcell, List.getElem?_drop]

theorem talkDraw_nil {w : World} {r cd k : Nat} {D : Option Addr} {o q a t : Value} {h s : Int} {d : Bool} (hk : k < 6) (R : TRow w r o h s d q a t (.slice D 0 cd)) :
    Calls Try.prog 65 #[.pointer (some ⟨r, 0, none⟩), .int .i64 (k : Int)] w fun e w' => e = .returned (.int .i64 (33 * (k : Int))) ∧ w = w' := by
  obtain ⟨_, _, _, _, _, _, _, c7⟩ := R.cells
  have W1 : IntKind.i64.wrap (33 * (k : Int)) = 33 * (k : Int) := IntWalk.i64_in _ (by omega)
  go_enter Try.func65, Try.ntmps65
  go_wp2
  go_ret
  exact ⟨rfl, rfl⟩
theorem talkDraw_cons {w : World} {r n cd k : Nat} {D B : Option Addr} {o q a t : Value} {h s x : Int} {d : Bool} {ds : List Int} (R : TRow w r o h s d q a t (.slice D (n + 1) cd)) (hm : Has w D (n + 1) (ints .i64 (x :: ds)))
    (hB : ∀ W, (Instr.slice 23 (.slice D (n + 1) cd) (some (.int .i64 1)) none none).run Try.prog W = .ok (.slice B n (cd - 1)) W) :
    Calls Try.prog 65 #[.pointer (some ⟨r, 0, none⟩), .int .i64 (k : Int)] w fun e w' => e = .returned (.int .i64 x) ∧ w' = w.setCell ⟨r, 7, none⟩ (.slice B n (cd - 1)) := by
  obtain ⟨_, _, _, _, _, _, _, c7⟩ := R.cells
  have f7 := R.open_ 7
  obtain ⟨b, o', z, rfl, hbl, hx, hc⟩ := hm.at_ (show 0 < n + 1 by omega)
  obtain rfl : x = z := by simpa using hx
  have b1 : (0 : Int) < ((n + 1 : Nat) : Int) := by omega
  have b2 : (0 : Int) < (n : Int) + 1 := by omega
  have e1 : (((n + 1 : Nat) : Int) == 0) = false := by simp; omega
  have e2 : ((n : Int) + 1 == 0) = false := by simp; omega
  have e3 : (n + 1 == 0) = false := rfl
  rw [Nat.add_zero] at hc
  clear hx hm
  go_enter Try.func65, Try.ntmps65
  go_wp2
  go_ret
  exact ⟨rfl, rfl⟩
end Go.Proofs.Ytpciaokafokfmaa
