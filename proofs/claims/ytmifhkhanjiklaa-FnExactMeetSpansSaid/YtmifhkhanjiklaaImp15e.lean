/-
  Chapter 15's program, events: what is proved here is how several rows of two are appended, what slices.SortFunc does to a list of rows of two that the call owns, and what spanEvents returns. Condition: lengths up to 2^24.
-/
import Derived.Test.YtmifhkhanjiklaaImp15c
import Derived.Shelf.SlSortCmp.WholeK
namespace Go.Proofs.Ytmifhkhanjiklaa
open Go.RowKit

/-- 'out = append(out, rows..)' onto a slice that the call made: the rows lie in a new block, as the walk leaves it. -/
theorem wpList_appDm {P : Program} {ops : Array Oper} {rest : List Oper} {o : Oper} {a : Act} {Q : Exit → Act → World → Prop} (w : World) (hgd : o.guard = none) (s x : Operand) (t : TypeId)
    (ho : o.op = .call { callee := .builtin .append, args := #[s, x], argTypes := #[t, t] })
    (lo : Nat) (e : TypeId) (i : TypeInfo) (z : Value) (bytes : Nat) (ht : P.underlying t = some (.slice e)) (hi : P.info? e = some i) (hz : i.zero = some z) (hsize : i.size = 2) (hby : i.bytes = bytes) (hzs : z.cells.size = 2)
    (A : Option Addr) (n c : Nat) (js ks : List Duo) (cs : Array Value) (hcs : cs.toList = flatD ks) (m : Nat) (hm : ks.length = m) (hs : a.eval s = .slice A n c) (hown : OwnD w lo e A n c js) (c' : Nat) (hx : a.eval x = .slice (some ⟨w.heap.size, 0, none⟩) m c')
    (h63 : n + m ≤ 1000000) (hbytes : bytes ≤ 64) (hlo : lo ≤ w.heap.size) (hm0 : 0 < m)
    (h : ∀ g cap w', OwnD w' lo e (some ⟨g, 0, none⟩) (n + m) cap (js ++ ks) → w.grownBy w' (A.map (·.block)) → wpList P ops Q rest (a.put o.dst (.slice (some ⟨g, 0, none⟩) (n + m) cap)) w') :
    wpList P ops Q (o :: rest) a (w.alloc (.cells cs e)) := by
  have hownA : (w.alloc (.cells cs e)).ownsRow lo e 2 (.slice A n c) n (flatD js) := World.ownsRow.alloc hown _
  have hb : (A.map (·.block)) = (Value.slice A n c).ownBlock := by cases A <;> rfl
  refine wpList_append_lies (w.alloc (.cells cs e)) hgd s x t ho lo e i z 2 bytes ht hi hz hsize hby hzs (by decide) _ n (flatD js) hs hownA ⟨w.heap.size, 0, none⟩ m c' (flatD ks) hx (by rw [flatD_len, hm]) ?_ ?_ (by omega) (by unfold maxLen; omega) ?_ (Nat.le_trans hlo (by simp)) _ rfl ?_
  · intro j y hy
    have hadd : (⟨w.heap.size, 0, none⟩ : Addr).add j = ⟨w.heap.size, j, none⟩ := by unfold Addr.add; split <;> simp_all
    rw [hadd, cell_of_row (w.alloc (.cells cs e)) w.heap.size j _ e (0, 0) (heap_alloc_new w _), ← Array.getElem?_toList, hcs]
    exact hy
  · intro u hu
    obtain ⟨j, hj⟩ := List.getElem?_of_mem hu
    have hjl := (List.getElem?_eq_some_iff.1 hj).1
    rw [flatD_len] at hjl
    obtain ⟨q, hq⟩ : ∃ q, ks[j / 2]? = some q := ⟨_, List.getElem?_eq_getElem (by omega)⟩
    obtain ⟨f0, f1⟩ := flatD_at ks (j / 2) q hq
    have hj2 : j = j / 2 * 2 ∨ j = j / 2 * 2 + 1 := by omega
    rcases hj2 with hj2 | hj2
    · rw [hj2, f0] at hj; injection hj with hj; rw [← hj]; rfl
    · rw [hj2, f1] at hj; injection hj with hj; rw [← hj]; rfl
  · calc (n + m) * bytes ≤ 1000000 * 64 := Nat.mul_le_mul h63 hbytes
      _ ≤ 140737488355328 := by decide
  · intro g cap w' h2 h3 _ _
    have hg : w.grownBy w' (A.map (·.block)) := by
      rw [hb]
      exact ⟨h3.os, h3.tape, h3.output, Nat.le_trans (by simp) h3.size, fun k hk hne => (h3.block k (by simp; omega) hne).trans (Below.heap_alloc w _ k hk)⟩
    refine h g cap w' ?_ hg
    unfold OwnD; rw [flatD_app]; exact h2

open Go.Sort Go.Shelf
/-- A row's two cells. -/
def encD (x : Duo) : List Value := [.int .i64 x.1, .int .i64 x.2]
theorem flatK_flatD (E : List Duo) : (flatK encD 2 E.toArray).toList = flatD E := by
  apply List.ext_getElem?
  intro t
  by_cases ht : t < E.length * 2
  · have hq : E[t / 2]? = some (E.toArray[t / 2]!) := by
      rw [List.getElem?_eq_getElem (show t / 2 < E.length by omega)]
      simp [show t / 2 < E.length by omega]
    obtain ⟨f0, f1⟩ := flatD_at E (t / 2) _ hq
    have h1 : (flatK encD 2 E.toArray).toList[t]? = some (encD E.toArray[t / 2]!)[t % 2]! := by
      rw [Array.getElem?_toList, Array.getElem?_eq_getElem (by simpa using ht)]
      rw [← get_flatK encD 2 E.toArray t (by simpa using ht)]
      rw [getElem!_pos _ t (by simpa using ht)]
    rw [h1]
    have h3 : t % 2 = 0 ∨ t % 2 = 1 := by omega
    rcases h3 with h3 | h3
    · rw [h3]
      rw [show t / 2 * 2 = t by omega] at f0
      rw [f0]; rfl
    · rw [h3]
      rw [show t / 2 * 2 + 1 = t by omega] at f1
      rw [f1]; rfl
  · rw [List.getElem?_eq_none (by simp; omega), List.getElem?_eq_none (by rw [flatD_len]; omega)]
theorem holdsK_own {w : World} {g : Nat} {cur : Array Value} {e : TypeId} {E : List Duo} (hb : w.heap[g]? = some (.cells cur e (0, 0))) (ht : cur.toList.take (E.length * 2) = flatD E) : HoldsK encD 2 w g 0 E.toArray := by
  intro j hj
  have hj' : j < E.length * 2 := by simpa using hj
  refine ⟨?_, by simp [World.frozen?, hb]⟩
  have h1 : (cur.toList.take (E.length * 2))[j]? = (flatK encD 2 E.toArray).toList[j]? := by rw [ht, flatK_flatD]
  rw [List.getElem?_take_of_lt hj'] at h1
  simp only [World.cell?, hb, Nat.zero_add]
  simp only [Option.isSome_none, Bool.false_eq_true, if_false]
  rw [← Array.getElem?_toList, h1, Array.getElem?_toList, Array.getElem?_eq_getElem hj]
  rw [getElem!_pos _ j hj]; rfl
theorem heap_sortedK {w : World} {g n : Nat} {os : Array Obj} {cur : Array Value} {e : TypeId} {fr : Nat × Nat} (F : Array Value) (hb : w.heap[g]? = some (.cells cur e fr)) :
    (grow (putRow id (Sort.ahead w n) g 0 F) os).heap[g]? = some (.cells (putCells id 0 F cur) e fr) := by
  have hg : g < w.heap.size := (Array.getElem?_eq_some_iff.1 hb).1
  rw [heap_grow_old _ _ (by simpa using hg)]
  simp [putRow, mapBlock, Sort.ahead, Array.getElem?_modify, hb, onCells]
theorem grownBy_sortedK {w : World} {g n : Nat} {os : Array Obj} (F : Array Value) : w.grownBy (grow (putRow id (Sort.ahead w n) g 0 F) os) (some g) := by
  refine ⟨rfl, rfl, rfl, by simp, fun k hk hne => ?_⟩
  rw [heap_grow_old _ _ (by simpa using hk)]
  have : g ≠ k := fun e => hne (by rw [e])
  simp [putRow, mapBlock, Sort.ahead, Array.getElem?_modify, this]
theorem take_putCellsK (cur F : Array Value) (h : F.size ≤ cur.size) : (putCells id 0 F cur).toList.take F.size = F.toList := by
  apply List.ext_getElem?
  intro j
  by_cases hj : j < F.size
  · rw [List.getElem?_take_of_lt hj, Array.getElem?_toList]
    simp [putCells, hj, show j < cur.size by omega]
  · rw [List.getElem?_take_eq_none (by omega), List.getElem?_eq_none (by simp; omega)]
theorem ltE_iff (x y : Duo) : ltOf (fun x y : Duo => cmpZ x.1 y.1) x y = decide (x.1 < y.1) := by
  unfold ltOf cmpZ
  by_cases h1 : x.1 < y.1
  · simp [h1]
  · by_cases h2 : y.1 < x.1 <;> simp [h1, h2]
theorem swoE : SWO (ltOf fun x y : Duo => cmpZ x.1 y.1) where
  irrefl x := by rw [ltE_iff]; simp
  trans x y z h1 h2 := by rw [ltE_iff] at *; simp at *; omega
  ntrans x y z h1 h2 := by rw [ltE_iff] at *; simp at *; omega
set_option maxHeartbeats 1000000 in
theorem byAt_any (x y : Duo) (W : World) : Calls Try.prog 83 #[.agg #[.int .i64 x.1, .int .i64 x.2], .agg #[.int .i64 y.1, .int .i64 y.2]] W fun e w' => e = .returned (.int .i64 (cmpZ x.1 y.1)) ∧ ∃ q os', w' = grow (W.drewN q) os' := by
  have C := fun W' => cmpZ_any (x := x.1) (y := y.1) (w := W') rfl
  generalize cmpZ x.1 y.1 = r at C ⊢
  go_enter Try.func83, Try.ntmps83
  go_wp2_with (fail)
  refine (C _).mono ?_
  rintro e w' ⟨rfl, rfl⟩
  go_wp2
  go_ret
  exact ⟨rfl, 0, _, by rw [alloc_eq_grow, alloc_eq_grow, grow_grow]; rfl⟩
theorem byAt_lays (blk off size : Nat) (w : World) : CmpLays Try.prog 83 #[] encD 2 (fun x y : Duo => cmpZ x.1 y.1) blk off size w :=
  fun _ _ _ _ x y => byAt_any x y _

def evA_ren : Go.Shelf.Ren := ⟨fun | 6 => 82 | 15 => 85 | 14 => 84 | 28 => 94 | 29 => 95 | 20 => 86 | 21 => 87 | 22 => 88 | 23 => 89 | 24 => 90 | 25 => 91 | 26 => 92 | 27 => 93 | 46 => 96 | 47 => 97 | 48 => 98 | 49 => 99 | 50 => 100 | 57 => 101 | n => n, fun | 22 => 94 | 24 => 97 | 25 => 103 | 3 => 3 | 39 => 106 | 0 => 0 | 53 => 116 | 55 => 118 | 4 => 4 | 46 => 109 | 45 => 108 | 50 => 113 | 5 => 5 | 9 => 9 | 66 => 119 | 70 => 123 | 76 => 125 | 77 => 126 | n => n, fun | n => n⟩
theorem evA : SlLaysF0.n6 Try.prog evA_ren where
  mixed := by kernel_rfl
  f6 := ⟨"slices.SortFunc[[]loop.example/wholenet/impl.spanEvent,loop.example/wholenet/impl.spanEvent]", by decide, Try.func82.trans (congrArg some (by kernel_rfl))⟩
  f14 := ⟨"slices.pdqsortCmpFunc[loop.example/wholenet/impl.spanEvent]", by decide, Try.func84.trans (congrArg some (by kernel_rfl))⟩
  f15 := Try.func85.trans (congrArg some (by kernel_rfl))
  f20 := ⟨"slices.insertionSortCmpFunc[loop.example/wholenet/impl.spanEvent]", by decide, Try.func86.trans (congrArg some (by kernel_rfl))⟩
  f21 := ⟨"slices.heapSortCmpFunc[loop.example/wholenet/impl.spanEvent]", by decide, Try.func87.trans (congrArg some (by kernel_rfl))⟩
  f22 := ⟨"slices.breakPatternsCmpFunc[loop.example/wholenet/impl.spanEvent]", by decide, Try.func88.trans (congrArg some (by kernel_rfl))⟩
  f23 := ⟨"slices.choosePivotCmpFunc[loop.example/wholenet/impl.spanEvent]", by decide, Try.func89.trans (congrArg some (by kernel_rfl))⟩
  f24 := ⟨"slices.reverseRangeCmpFunc[loop.example/wholenet/impl.spanEvent]", by decide, Try.func90.trans (congrArg some (by kernel_rfl))⟩
  f25 := ⟨"slices.partialInsertionSortCmpFunc[loop.example/wholenet/impl.spanEvent]", by decide, Try.func91.trans (congrArg some (by kernel_rfl))⟩
  f26 := ⟨"slices.partitionEqualCmpFunc[loop.example/wholenet/impl.spanEvent]", by decide, Try.func92.trans (congrArg some (by kernel_rfl))⟩
  f27 := ⟨"slices.partitionCmpFunc[loop.example/wholenet/impl.spanEvent]", by decide, Try.func93.trans (congrArg some (by kernel_rfl))⟩
  f28 := Try.func94.trans (congrArg some (by kernel_rfl))
  f29 := Try.func95.trans (congrArg some (by kernel_rfl))
  f46 := ⟨"slices.siftDownCmpFunc[loop.example/wholenet/impl.spanEvent]", by decide, Try.func96.trans (congrArg some (by kernel_rfl))⟩
  f47 := Try.func97.trans (congrArg some (by kernel_rfl))
  f48 := Try.func98.trans (congrArg some (by kernel_rfl))
  f49 := ⟨"slices.medianAdjacentCmpFunc[loop.example/wholenet/impl.spanEvent]", by decide, Try.func99.trans (congrArg some (by kernel_rfl))⟩
  f50 := ⟨"slices.medianCmpFunc[loop.example/wholenet/impl.spanEvent]", by decide, Try.func100.trans (congrArg some (by kernel_rfl))⟩
  f57 := ⟨"slices.order2CmpFunc[loop.example/wholenet/impl.spanEvent]", by decide, Try.func101.trans (congrArg some (by kernel_rfl))⟩
  t0 := Try.underlying0
  a0 := Try.isAgg0
  z0 := Try.sizeOf0
  v0 := Try.zeroValue0
  t3 := Try.underlying3
  a3 := Try.isAgg3
  z3 := Try.sizeOf3
  v3 := Try.zeroValue3
  t4 := Try.underlying4
  a4 := Try.isAgg4
  z4 := Try.sizeOf4
  v4 := Try.zeroValue4
  t5 := Try.underlying5
  a5 := Try.isAgg5
  z5 := Try.sizeOf5
  v5 := Try.zeroValue5
  t9 := Try.underlying9
  a9 := Try.isAgg9
  z9 := Try.sizeOf9
  v9 := Try.zeroValue9
  t22 := Try.underlying94
  a22 := Try.isAgg94
  z22 := Try.sizeOf94
  v22 := Try.zeroValue94
  t25 := Try.underlying103
  a25 := Try.isAgg103
  z25 := Try.sizeOf103
  v25 := Try.zeroValue103
  t39 := Try.underlying106
  a39 := Try.isAgg106
  z39 := Try.sizeOf106
  v39 := Try.zeroValue106
  t45 := Try.underlying108
  a45 := Try.isAgg108
  z45 := Try.sizeOf108
  v45 := Try.zeroValue108
  t46 := Try.underlying109
  a46 := Try.isAgg109
  z46 := Try.sizeOf109
  v46 := Try.zeroValue109
  t50 := Try.underlying113
  a50 := Try.isAgg113
  z50 := Try.sizeOf113
  v50 := Try.zeroValue113
  t53 := Try.underlying116
  a53 := Try.isAgg116
  z53 := Try.sizeOf116
  v53 := Try.zeroValue116
  t55 := Try.underlying118
  a55 := Try.isAgg118
  z55 := Try.sizeOf118
  v55 := Try.zeroValue118
  t66 := Try.underlying119
  a66 := Try.isAgg119
  z66 := Try.sizeOf119
  v66 := Try.zeroValue119
  t70 := Try.underlying123
  a70 := Try.isAgg123
  z70 := Try.sizeOf123
  v70 := Try.zeroValue123
  t76 := Try.underlying125
  a76 := Try.isAgg125
  z76 := Try.sizeOf125
  v76 := Try.zeroValue125
  t77 := Try.underlying126
  a77 := Try.isAgg126
  z77 := Try.sizeOf126
  v77 := Try.zeroValue126

set_option maxHeartbeats 2000000 in
/-- A list of events that the call owns, sorted: the same events, ascending. -/
theorem sortEv_any {lo n c : Nat} {A : Option Addr} {E : List Duo} {w : World} (h : OwnD w lo 97 A n c E) (hlo : lo ≤ w.heap.size) (hn : n ≤ 1000) (hp : 0 < n) :
    Calls Try.prog 82 #[.slice A n c, .func (.func 83) #[] #[]] w fun e w' => e = .returned (.tuple #[]) ∧ ∃ E' : List Duo, E'.Perm E ∧ E'.Pairwise (fun a b => a.1 ≤ b.1) ∧ OwnD w' lo 97 A n c E' ∧ Below lo w w' := by
  have hl := h.len
  rcases h.2 with ⟨hv, h0⟩ | ⟨g, cap, cur, hv, hg, hgb, r1, r2, r3, r4⟩
  · omega
  · injection hv with v1 v2 v3
    subst v1 v3
    have eg : ∀ args w, (callFunc 83 args).run Try.prog w = .ok (.enter 83 args) w := enters_of Try.func83 (by kernel_rfl) rfl
    have hK := holdsK_own (E := E) hgb (by rw [hl]; exact r4)
    have hcon := AnyQ.slices_SortFunc evA 2 Try.isAgg97 Try.sizeOf97 encD (fun _ => rfl) (fun x v hv => by simp [encD] at hv; rcases hv with rfl | rfl <;> rfl) (fun x y : Duo => cmpZ x.1 y.1) swoE 83 #[] g 0 c E.toArray w eg (byAt_lays g 0 _ w) hK (Array.getElem?_eq_some_iff.1 hgb).1 (by simp; omega)
    have hsz : E.toArray.size = n := by simp [hl]
    rw [hsz] at hcon
    change Calls Try.prog 82 _ _ _ at hcon
    refine hcon.mono ?_
    rintro e w' ⟨rfl, d', q, os, ⟨p1, _, p3⟩, ps, rfl⟩
    have hd : d'.size = n := by rw [p1, hsz]
    have hperm : d'.toList.Perm E := by
      rw [← hd] at p3
      rw [Array.extract_size, hd, ← hsz, Array.extract_size] at p3
      simpa using p3
    refine ⟨rfl, d'.toList, hperm, ?_, ?_, ?_⟩
    · rw [List.pairwise_iff_getElem]
      intro i j hi hj hij
      have h1 := ps i j (Nat.zero_le _) hij (by rw [← hd]; simpa using hj)
      rw [ltE_iff] at h1
      have h2 := of_decide_eq_false h1
      rw [getElem!_pos d' j (by simpa using hj), getElem!_pos d' i (by simpa using hi)] at h2
      rw [Array.getElem_toList, Array.getElem_toList]
      omega
    · have hF : (flatK encD 2 d').size = n * 2 := by simp [hd]
      have hFl : (flatK encD 2 d').toList = flatD d'.toList := by have := flatK_flatD d'.toList; simpa using this
      refine ⟨by rw [flatD_len]; simp [hd], .inr ⟨g, c, putCells id 0 (flatK encD 2 d') cur, rfl, hg, heap_sortedK _ hgb, r1, r2, by simp [putCells, r3], ?_⟩⟩
      rw [← hF, take_putCellsK cur _ (by rw [hF, r3]; exact Nat.mul_le_mul_right 2 r1), hFl]
    · exact below_of_grown (grownBy_sortedK _) hlo (fun j hj => by injection hj with hj; omega)
theorem Try.infoEv : (Try.prog.info? 97).map (fun i => (i.zero, i.size, i.bytes)) = some (some (.agg #[.int .i64 0, .int .i64 0]), 2, 16) := by kernel_rfl
set_option maxRecDepth 100000 in
set_option maxHeartbeats 4000000 in
theorem spanEvents_any {A : Option Addr} {n c : Nat} {L : List Duo} {w : World} (h : HasD w A n L) (hn : n ≤ 40) (hp : 0 < n) (hok : ∀ s ∈ L, spOk s) :
    Calls Try.prog 76 #[.slice A n c] w fun e w' => ∃ g c' E, e = .returned (.slice (some ⟨g, 0, none⟩) (2 * n) c') ∧ OwnD w' w.heap.size 97 (some ⟨g, 0, none⟩) (2 * n) c' E ∧ E.Perm (evsOf L) ∧ E.Pairwise (fun a b => a.1 ≤ b.1) ∧ Below w.heap.size w w' := by
  obtain ⟨j0, hji, jz0, jz1, jz2⟩ := info_partsD Try.infoEv
  have HL := Lib.hid h.1
  have HOK := Lib.hid hok
  clear hok
  go_enter Try.func76, Try.ntmps76
  go_wp2
  go_loopw [3, 8] (fun v i wr => ∃ (k : Nat) (B : Option Addr) (c' : Nat), k ≤ n ∧ i = .int .i64 (k : Int) ∧ v = .slice B (2 * k) c' ∧ (0 < k → ∃ g, B = some ⟨g, 0, none⟩) ∧ OwnD wr w.heap.size 97 B (2 * k) c' (evsOf (L.take k)) ∧ Below w.heap.size w wr) (fun _ i _ => n - (intOf i).toNat)
  case atStart => exact ⟨0, none, 0, Nat.zero_le _, rfl, rfl, (fun hh => by omega), World.ownsRow_nil _ _ _ _, Below.refl _ _⟩
  case round =>
    obtain ⟨k, B, c2, hk, rfl, rfl, hB, O, BW⟩ := hrel
    have sW := BW.size
    by_cases hlt : k < n
    · have hltB : decide ((k : Int) < (n : Int)) = true := by simp; omega
      obtain ⟨bb, o, f, t, rfl, hbl, he, c0, c1⟩ := (h.bel BW).at_ hlt
      have hs := HOK.out _ (List.mem_of_getElem? he)
      unfold spOk at hs
      dsimp only at hs
      have wt : IntKind.i64.wrap (t + 1) = t + 1 := IntWalk.i64_in _ (by omega)
      have HT := Lib.hid (evs_take (L := L) (k := k) (by have := HL.out; omega))
      rw [dj_atT he] at HT
      obtain ⟨w3, hw3⟩ : ∃ w3, wr.alloc (.cells #[.int .i64 f, .int .i64 t] 30) = w3 := ⟨_, rfl⟩
      have B3 : Below wr.heap.size wr w3 := hw3 ▸ below_allocQ wr _
      have K3 : DRow w3 wr.heap.size 30 f t := hw3 ▸ dRow_alloc wr _ f t
      obtain ⟨x0, x1⟩ := K3.cells
      have O3 := O.bel B3
      have BW3 := BW.trans (B3.mono sW)
      have s3 := BW3.size
      clear hs he O BW B3 K3
      go_wp2_with (at_builtin; refine wpList_appDm _ rfl (.tmp 12) (.tmp 20) 94 rfl w.heap.size 97 j0 (.agg #[.int .i64 0, .int .i64 0]) 16 Try.underlying94 hji jz0 jz1 jz2 rfl B (2 * k) c2 (evsOf (L.take k)) [(f, 1), (t + 1, -1)] _ rfl 2 rfl rfl O3 2 rfl (by omega) (by decide) s3 (by omega) ?_; intro g5 c5 w5 O5 G5)
      have HO : Hid (OwnD w5 w.heap.size 97 (some ⟨g5, 0, none⟩) (2 * (k + 1)) c5 (evsOf (L.take (k + 1)))) := by
        have := O5
        rw [← HT.out] at this
        exact this
      have BW5 : Below w.heap.size w w5 := BW3.trans (below_of_grown G5 s3 (fun j hj => by
        cases B with
        | none => cases hj
        | some ad => have h9 : ad.block = j := by simpa using hj
                     have := (World.ownsRow.lt O3 ad.block rfl).1
                     omega))
      go_roundw
      case rel => exact ⟨k + 1, _, c5, by omega, by go_num, by go_num, (fun _ => ⟨g5, rfl⟩), HO.out, BW5⟩
      case measure => simp [intOf]; omega
    · have hltB : decide ((k : Int) < (n : Int)) = false := by simp; omega
      obtain rfl : k = n := by omega
      obtain ⟨g, rfl⟩ := hB hp
      have O2 : OwnD wr w.heap.size 97 (some ⟨g, 0, none⟩) (2 * k) c2 (evsOf L) := by
        have := O
        rw [List.take_of_length_le (by have := HL.out; omega)] at this
        exact this
      have C := Lib.hid (sortEv_any O2 sW (by omega) (by omega))
      clear O O2
      go_wp2_with (fail)
      refine C.out.mono ?_
      rintro e w5 ⟨rfl, E, hE1, hE2, O5, B5⟩
      have B6 := BW.trans B5
      go_wp2
      go_ret
      exact ⟨g, c2, E, rfl, O5, hE1, hE2, B6⟩
end Go.Proofs.Ytmifhkhanjiklaa
