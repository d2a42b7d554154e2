/-
  Chapter 6's program, the stations that a bridge knows: what is proved here is that they are collected out of the map, in whatever order, and sorted, in memory of their own. Condition: lengths up to 2^24.
-/
import Derived.Test.YtmnhgghnaklneaaImp6e
import Derived.Shelf.SlIterI.Nil
import Derived.Shelf.SortM.Plain
import Derived.Shelf.SortM.SortNone
namespace Go.Proofs.Ytmnhgghnaklneaa
open Go.RowKit Go.Maps Go.Sort Go.Shelf

def keysA_ren : Go.Shelf.Ren := ⟨fun | 7 => 66 | 10 => 73 | n => n, fun | 23 => 68 | 26 => 3 | 3 => 3 | 28 => 80 | 0 => 0 | 27 => 79 | 33 => 73 | 4 => 4 | n => n, fun | n => n⟩
theorem keysA : SlLaysZI.n7 Try.prog keysA_ren where
  mixed := by kernel_rfl
  f7 := ⟨"maps.Keys[map[int]int,int,int]", by decide, Try.func66.trans (congrArg some (by kernel_rfl))⟩
  f10 := ⟨"maps.Keys[map[int]int,int,int]$1", by decide, Try.func73.trans (congrArg some (by kernel_rfl))⟩
  t0 := Try.underlying0
  a0 := Try.isAgg0
  z0 := Try.sizeOf0
  v0 := Try.zeroValue0
  t4 := Try.underlying4
  a4 := Try.isAgg4
  z4 := Try.sizeOf4
  v4 := Try.zeroValue4
  t23 := Try.underlying68
  a23 := Try.isAgg68
  z23 := Try.sizeOf68
  v23 := Try.zeroValue68
  t26 := Try.underlying3
  a26 := Try.isAgg3
  z26 := Try.sizeOf3
  v26 := Try.zeroValue3
  t27 := Try.underlying79
  a27 := Try.isAgg79
  z27 := Try.sizeOf79
  v27 := Try.zeroValue79
  t28 := Try.underlying80
  a28 := Try.isAgg80
  z28 := Try.sizeOf80
  v28 := Try.zeroValue80
  t33 := Try.underlying73
  a33 := Try.isAgg73
  z33 := Try.sizeOf73
  v33 := Try.zeroValue73
def sortedA_ren : Go.Shelf.Ren := ⟨fun | 6 => 65 | 8 => 60 | 9 => 72 | 11 => 70 | 13 => 76 | 12 => 75 | 23 => 88 | 24 => 89 | 14 => 79 | 15 => 80 | 16 => 81 | 17 => 82 | 18 => 83 | 19 => 84 | 20 => 85 | 21 => 86 | 22 => 87 | 25 => 90 | 26 => 91 | 27 => 92 | 28 => 93 | 29 => 94 | 30 => 95 | 31 => 96 | n => n, fun | 26 => 3 | 28 => 80 | 24 => 23 | 0 => 0 | 3 => 3 | 37 => 93 | 48 => 98 | 50 => 101 | 4 => 4 | 40 => 106 | 39 => 105 | 45 => 91 | 5 => 5 | 9 => 9 | 51 => 113 | 55 => 117 | 57 => 119 | 58 => 120 | 33 => 73 | n => n, fun | n => n⟩
theorem sortedA : SlLaysZI.n6 Try.prog sortedA_ren where
  mixed := by kernel_rfl
  f6 := ⟨"slices.Sorted[int]", by decide, Try.func65.trans (congrArg some (by kernel_rfl))⟩
  f8 := ⟨"slices.Collect[int]", by decide, Try.func60.trans (congrArg some (by kernel_rfl))⟩
  f11 := ⟨"slices.AppendSeq[[]int,int]", by decide, Try.func70.trans (congrArg some (by kernel_rfl))⟩
  t0 := Try.underlying0
  a0 := Try.isAgg0
  z0 := Try.sizeOf0
  v0 := Try.zeroValue0
  t24 := Try.underlying23
  a24 := Try.isAgg23
  z24 := Try.sizeOf23
  v24 := Try.zeroValue23
  t26 := Try.underlying3
  a26 := Try.isAgg3
  z26 := Try.sizeOf3
  v26 := Try.zeroValue3
  t28 := Try.underlying80
  a28 := Try.isAgg80
  z28 := Try.sizeOf80
  v28 := Try.zeroValue80
  i26 := by kernel_rfl
def sortA_ren : Go.Shelf.Ren := ⟨fun | 5 => 72 | 8 => 76 | 7 => 75 | 19 => 88 | 20 => 89 | 10 => 79 | 11 => 80 | 12 => 81 | 13 => 82 | 14 => 83 | 15 => 84 | 16 => 85 | 17 => 86 | 18 => 87 | 30 => 90 | 31 => 91 | 32 => 92 | 33 => 93 | 34 => 94 | 35 => 95 | 40 => 96 | n => n, fun | 23 => 23 | 25 => 3 | 3 => 3 | 32 => 93 | 22 => 23 | 0 => 0 | 44 => 98 | 46 => 101 | 4 => 4 | 36 => 106 | 35 => 105 | 41 => 91 | 5 => 5 | 9 => 9 | 53 => 113 | 57 => 117 | 63 => 119 | 64 => 120 | n => n, fun | n => n⟩
theorem sortA : SlLaysM.n5 Try.prog sortA_ren where
  mixed := by kernel_rfl
  f5 := ⟨"slices.Sort[[]int,int]", by decide, Try.func72.trans (congrArg some (by kernel_rfl))⟩
  f7 := ⟨"slices.pdqsortOrdered[int]", by decide, Try.func75.trans (congrArg some (by kernel_rfl))⟩
  f8 := Try.func76.trans (congrArg some (by kernel_rfl))
  f10 := ⟨"slices.insertionSortOrdered[int]", by decide, Try.func79.trans (congrArg some (by kernel_rfl))⟩
  f11 := ⟨"slices.heapSortOrdered[int]", by decide, Try.func80.trans (congrArg some (by kernel_rfl))⟩
  f12 := ⟨"slices.breakPatternsOrdered[int]", by decide, Try.func81.trans (congrArg some (by kernel_rfl))⟩
  f13 := ⟨"slices.choosePivotOrdered[int]", by decide, Try.func82.trans (congrArg some (by kernel_rfl))⟩
  f14 := ⟨"slices.reverseRangeOrdered[int]", by decide, Try.func83.trans (congrArg some (by kernel_rfl))⟩
  f15 := ⟨"slices.partialInsertionSortOrdered[int]", by decide, Try.func84.trans (congrArg some (by kernel_rfl))⟩
  f16 := ⟨"cmp.Less[int]", by decide, Try.func85.trans (congrArg some (by kernel_rfl))⟩
  f17 := ⟨"slices.partitionEqualOrdered[int]", by decide, Try.func86.trans (congrArg some (by kernel_rfl))⟩
  f18 := ⟨"slices.partitionOrdered[int]", by decide, Try.func87.trans (congrArg some (by kernel_rfl))⟩
  f19 := Try.func88.trans (congrArg some (by kernel_rfl))
  f20 := Try.func89.trans (congrArg some (by kernel_rfl))
  f30 := ⟨"slices.siftDownOrdered[int]", by decide, Try.func90.trans (congrArg some (by kernel_rfl))⟩
  f31 := Try.func91.trans (congrArg some (by kernel_rfl))
  f32 := Try.func92.trans (congrArg some (by kernel_rfl))
  f33 := ⟨"slices.medianAdjacentOrdered[int]", by decide, Try.func93.trans (congrArg some (by kernel_rfl))⟩
  f34 := ⟨"slices.medianOrdered[int]", by decide, Try.func94.trans (congrArg some (by kernel_rfl))⟩
  f35 := ⟨"cmp.isNaN[int]", by decide, Try.func95.trans (congrArg some (by kernel_rfl))⟩
  f40 := ⟨"slices.order2Ordered[int]", by decide, Try.func96.trans (congrArg some (by kernel_rfl))⟩
  t0 := Try.underlying0
  a0 := Try.isAgg0
  z0 := Try.sizeOf0
  v0 := Try.zeroValue0
  t3 := Try.underlying3
  a3 := Try.isAgg3
  z3 := Try.sizeOf3
  v3 := Try.zeroValue3
  t4 := Try.underlying4
  a4 := Try.isAgg4
  z4 := Try.sizeOf4
  v4 := Try.zeroValue4
  t5 := Try.underlying5
  a5 := Try.isAgg5
  z5 := Try.sizeOf5
  v5 := Try.zeroValue5
  t9 := Try.underlying9
  a9 := Try.isAgg9
  z9 := Try.sizeOf9
  v9 := Try.zeroValue9
  t22 := Try.underlying23
  a22 := Try.isAgg23
  z22 := Try.sizeOf23
  v22 := Try.zeroValue23
  t23 := Try.underlying23
  a23 := Try.isAgg23
  z23 := Try.sizeOf23
  v23 := Try.zeroValue23
  t25 := Try.underlying3
  a25 := Try.isAgg3
  z25 := Try.sizeOf3
  v25 := Try.zeroValue3
  t32 := Try.underlying93
  a32 := Try.isAgg93
  z32 := Try.sizeOf93
  v32 := Try.zeroValue93
  t35 := Try.underlying105
  a35 := Try.isAgg105
  z35 := Try.sizeOf105
  v35 := Try.zeroValue105
  t36 := Try.underlying106
  a36 := Try.isAgg106
  z36 := Try.sizeOf106
  v36 := Try.zeroValue106
  t41 := Try.underlying91
  a41 := Try.isAgg91
  z41 := Try.sizeOf91
  v41 := Try.zeroValue91
  t44 := Try.underlying98
  a44 := Try.isAgg98
  z44 := Try.sizeOf98
  v44 := Try.zeroValue98
  t46 := Try.underlying101
  a46 := Try.isAgg101
  z46 := Try.sizeOf101
  v46 := Try.zeroValue101
  t53 := Try.underlying113
  a53 := Try.isAgg113
  z53 := Try.sizeOf113
  v53 := Try.zeroValue113
  t57 := Try.underlying117
  a57 := Try.isAgg117
  z57 := Try.sizeOf117
  v57 := Try.zeroValue117
  t63 := Try.underlying119
  a63 := Try.isAgg119
  z63 := Try.sizeOf119
  v63 := Try.zeroValue119
  t64 := Try.underlying120
  a64 := Try.isAgg120
  z64 := Try.sizeOf120
  v64 := Try.zeroValue120

/-- slices.Sort's two contracts here. -/
theorem sortsA (m : Nat) : AnyZI.SortsIn Try.prog sortedA_ren Fence.wide m :=
  ⟨fun blk off cap ss W hH hblk hsz => callsIn_wide.2 (AnyM.slices_Sort_int sortA blk off cap ss W hH hblk hsz),
   fun p cap W => callsIn_wide.2 (AnyM.slices_Sort_int_none sortA p cap W)⟩

theorem knownTo_sorted (t : List Int) (n : Nat) : (knownTo t n).Pairwise (· < ·) := by
  induction n with
  | zero => simp [knownTo]
  | succ n ih =>
    rw [knownTo_snoc, List.pairwise_append]
    refine ⟨ih, by split <;> simp, fun x hx y hy => ?_⟩
    obtain ⟨p, hp, rfl, _⟩ := mem_knownTo hx
    split at hy
    · simp at hy; subst hy; omega
    · cases hy
theorem knownTo_mem {t : List Int} {n i : Nat} (hi : i < n) (h : 0 ≤ t.getD i (-1)) : (i : Int) ∈ knownTo t n := by
  simp only [knownTo, List.mem_map, List.mem_filter, List.mem_range, decide_eq_true_eq]
  exact ⟨i, ⟨hi, h⟩, rfl⟩
/-- The map's keys, sorted, are the stations that the table knows. -/
theorem known_keys {w : World} {b nn : Nat} {R : Value → Option (DataW Unit × List MemPlace)} {D : DataW Unit} {ts : List Int} {ports : Int} (hM : MapOf D (tabF ts)) (ht : tOk ts ports) (hown : w.ownsMap Try.prog 3 R b nn D) {ss : List Int} (hp : ss.Perm (intKeys D)) :
    ss.mergeSort (fun x y => decide (x ≤ y)) = knownTo ts 15 := by
  have hs := knownTo_sorted ts 15
  have hb := tOk_b ht
  have hC : CollectedI D (fun _ => false) (knownTo ts 15) := by
    refine ⟨hs.imp (fun h => by omega), fun x => ⟨fun hx => ⟨?_, rfl⟩, fun hx => ?_⟩⟩
    · obtain ⟨i, hi, rfl, h0⟩ := mem_knownTo hx
      exact (hM.2 i hi (by show ts.getD i (-1) ≠ -1; omega)).1
    · obtain ⟨i, hi, he, hT⟩ := hM.1 _ hx.1
      obtain rfl : x = (i : Int) := by injection he
      have : ts.getD i (-1) ≠ -1 := hT
      have := hb i
      exact knownTo_mem hi (by omega)
  have hq := hC.perm hown keyInt Try.underlying3 (fun _ => rfl)
  rw [mergeSort_of_perm_i (hp.trans hq.symm)]
  exact List.mergeSort_of_pairwise (hs.imp (fun h => decide_eq_true (Int.le_of_lt h)))

/-- The keys of a bridge's map, sorted. -/
theorem keys_sorted {lo b nn : Nat} {ts : List Int} {ports : Int} {w : World} (h : OwnM w lo b nn (tabF ts)) (ht : tOk ts ports) (hn : nn ≤ 1000) :
    Calls Try.prog 65 #[.func (.func 73) #[] #[.pointer (some ⟨w.heap.size, 0, none⟩)]] (w.alloc (.cells #[.map (some b)] 68)) fun e w' => ∃ A' n' c', e = .returned (.slice A' n' c') ∧ Own w' w.heap.size 3 A' n' c' (ints .i64 (knownTo ts 15)) ∧ Below w.heap.size w w' := by
  obtain ⟨_, D, h1, h2⟩ := h
  have hsz := h1.size_le
  have hseq : SeqGives Fence.wide 2 Try.prog 73 #[.pointer (some ⟨w.heap.size, 0, none⟩)] encZ (fun ss => ss.Perm (intKeys D)) (Maps.size D) (w.alloc (.cells #[.map (some b)] 68)) :=
    AnyZI.keys_gives (ρ := keysA_ren) { keysA with } Fence.wide _ trivial rfl (by omega) w.heap.size b nn D _ (by simp) (by simp) (h1.alloc _)
  have cS := AnyZI.sorted_in sortedA Fence.wide 5 trivial trivial trivial trivial rfl (by omega) (sortsA _) (enters_of Try.func72 (by kernel_rfl) rfl) 73 #[.pointer (some ⟨w.heap.size, 0, none⟩)] trivial (enters_of Try.func73 (by kernel_rfl) rfl) _ _ (by unfold maxLen; omega) (by omega) _ hseq
  change CallsIn _ _ Try.prog 65 _ _ _ at cS
  refine (callsIn_wide.1 cS).mono ?_
  rintro e w' ⟨v, ss, rfl, hS, hrow, hnil, hb⟩
  rw [known_keys h2 ht h1 hS] at hrow
  have hB := ((Below.refl _ w).alloc (Nat.le_refl _) (.cells #[.map (some b)] 68)).trans (hb.mono (by simp))
  have hrow2 : w'.ownsRow w.heap.size 3 1 v ss.length (ints .i64 (knownTo ts 15)) := ownsRow_base_a hrow (by simp)
  rcases hrow2.2 with ⟨rfl, h0⟩ | ⟨g, cap, cur, rfl, _⟩
  · exact ⟨none, 0, 0, rfl, by rw [h0] at hrow2; exact hrow2, hB⟩
  · exact ⟨_, _, _, rfl, hrow2, hB⟩

set_option maxHeartbeats 2000000 in
theorem implKnownStations_any {A : Option Addr} {n c : Nat} {ts : List Int} {ports : Int} {w : World} (h : Has w A n (ints .i64 ts)) (_ : I64s ts) (hn : n ≤ 16777216) (_ : (-9223372036854775808 ≤ ports ∧ ports ≤ 9223372036854775807)) :
    Calls Try.prog 32 #[.slice A n c, .int .i64 ports] w fun e w' => ∃ A' n' c', e = .returned (.slice A' n' c') ∧ Own w' w.heap.size 3 A' n' c' (ints .i64 (knownL ts ports)) ∧ Below w.heap.size w w' := by
  have cK : ∀ mb W, Calls Try.prog 66 #[.map mb] W fun e w' => e = .returned (.func (.func 73) #[] #[.pointer (some ⟨W.heap.size, 0, none⟩)]) ∧ w' = W.alloc (.cells #[.map mb] 68) := fun mb W => callsIn_wide.1 (AnyZI.keys_in keysA Fence.wide 5 trivial rfl mb W)
  have CK := Lib.hid cK
  clear cK
  by_cases ht : tOk ts ports
  · have C := Lib.hid (bridgeOf_yes (c := c) h ht)
    have HT := Lib.hid ht
    have HL := Lib.hid (show knownL ts ports = knownTo ts 15 by unfold knownL; rw [if_pos ht])
    clear ht
    go_enter Try.func32, Try.ntmps32
    go_wp2_with (fail)
    refine C.out.mono ?_
    rintro e w1 ⟨b, rfl, M1, B1⟩
    have s1 := B1.size
    have hF := heap_alloc_new w1 (.cells #[.int .i64 0, .map none] 70)
    obtain ⟨k0, k1, f0, f1⟩ := two_cells hF
    clear hF
    have B2 := B1.alloc s1 (.cells #[.int .i64 ports, .map (some b)] 70)
    have M2 := M1.kept (World.grownBy_alloc w1 (.cells #[.int .i64 ports, .map (some b)] 70) none) (by simp)
    have hF2 := heap_alloc_new w1 (.cells #[.int .i64 ports, .map (some b)] 70)
    generalize hWW : w1.alloc (.cells #[.int .i64 ports, .map (some b)] 70) = W at B2 M2 hF2
    obtain ⟨j0, j1, g0, g1⟩ := two_cells hF2
    have s2 := B2.size
    have C2 := Lib.hid (keys_sorted M2 HT.out (by decide))
    go_wp2_with (fail)
    refine (CK.out _ _).mono ?_
    rintro e w2 ⟨rfl, rfl⟩
    go_wp2_with (fail)
    refine C2.out.mono ?_
    rintro e w3 ⟨A3, n3, c3, rfl, O3, B3⟩
    go_wp2
    go_ret
    exact ⟨_, _, _, rfl, by rw [HL.out]; exact O3.mono s2, B2.trans (B3.mono s2)⟩
  · have C := Lib.hid (bridgeOf_no (c := c) h hn ht)
    have HL := Lib.hid (show knownL ts ports = [] by unfold knownL; rw [if_neg ht])
    clear ht
    go_enter Try.func32, Try.ntmps32
    go_wp2_with (fail)
    refine C.out.mono ?_
    rintro e w1 ⟨rfl, B1⟩
    have hF := heap_alloc_new w1 (.cells #[.int .i64 0, .map none] 70)
    obtain ⟨k0, k1, f0, f1⟩ := two_cells hF
    clear hF
    go_wp2
    go_ret
    have s1 := B1.size
    exact ⟨none, 0, 0, rfl, by rw [HL.out]; exact World.ownsRow_nil _ _ _ _, B1.alloc s1 _⟩
end Go.Proofs.Ytmnhgghnaklneaa
