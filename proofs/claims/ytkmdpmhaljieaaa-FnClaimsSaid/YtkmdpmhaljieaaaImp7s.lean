/-
  Chapter 7's program, the tree: what is proved here is what slices.Sort does to a list of ints that the call owns, and what TreeOf returns, in memory of its own, and that it writes nothing that was there. Condition: lengths up to 2^24.
-/
import Derived.Test.YtkmdpmhaljieaaaImp7j
import Derived.Shelf.SortM.Plain
import Derived.Shelf.SortM.SortNone
import Derived.Sort.OwnSortedInts
namespace Go.Proofs.Ytkmdpmhaljieaaa
open Go.RowKit Go.Shelf

def sortA_ren : Go.Shelf.Ren := ⟨fun | 5 => 68 | 8 => 90 | 7 => 89 | 19 => 106 | 20 => 107 | 10 => 97 | 11 => 98 | 12 => 99 | 13 => 100 | 14 => 101 | 15 => 102 | 16 => 103 | 17 => 104 | 18 => 105 | 30 => 112 | 31 => 113 | 32 => 114 | 33 => 115 | 34 => 116 | 35 => 117 | 40 => 118 | n => n, fun | 23 => 33 | 25 => 3 | 3 => 3 | 32 => 103 | 22 => 33 | 0 => 0 | 44 => 124 | 46 => 126 | 4 => 4 | 36 => 117 | 35 => 116 | 41 => 121 | 5 => 5 | 9 => 9 | 53 => 133 | 57 => 137 | 63 => 139 | 64 => 140 | n => n, fun | n => n⟩
theorem sortA : SlLaysM.n5 Try.prog sortA_ren where
  mixed := by kernel_rfl
  f5 := ⟨"slices.Sort[[]int,int]", by decide, Try.func68.trans (congrArg some (by kernel_rfl))⟩
  f7 := ⟨"slices.pdqsortOrdered[int]", by decide, Try.func89.trans (congrArg some (by kernel_rfl))⟩
  f8 := Try.func90.trans (congrArg some (by kernel_rfl))
  f10 := ⟨"slices.insertionSortOrdered[int]", by decide, Try.func97.trans (congrArg some (by kernel_rfl))⟩
  f11 := ⟨"slices.heapSortOrdered[int]", by decide, Try.func98.trans (congrArg some (by kernel_rfl))⟩
  f12 := ⟨"slices.breakPatternsOrdered[int]", by decide, Try.func99.trans (congrArg some (by kernel_rfl))⟩
  f13 := ⟨"slices.choosePivotOrdered[int]", by decide, Try.func100.trans (congrArg some (by kernel_rfl))⟩
  f14 := ⟨"slices.reverseRangeOrdered[int]", by decide, Try.func101.trans (congrArg some (by kernel_rfl))⟩
  f15 := ⟨"slices.partialInsertionSortOrdered[int]", by decide, Try.func102.trans (congrArg some (by kernel_rfl))⟩
  f16 := ⟨"cmp.Less[int]", by decide, Try.func103.trans (congrArg some (by kernel_rfl))⟩
  f17 := ⟨"slices.partitionEqualOrdered[int]", by decide, Try.func104.trans (congrArg some (by kernel_rfl))⟩
  f18 := ⟨"slices.partitionOrdered[int]", by decide, Try.func105.trans (congrArg some (by kernel_rfl))⟩
  f19 := Try.func106.trans (congrArg some (by kernel_rfl))
  f20 := Try.func107.trans (congrArg some (by kernel_rfl))
  f30 := ⟨"slices.siftDownOrdered[int]", by decide, Try.func112.trans (congrArg some (by kernel_rfl))⟩
  f31 := Try.func113.trans (congrArg some (by kernel_rfl))
  f32 := Try.func114.trans (congrArg some (by kernel_rfl))
  f33 := ⟨"slices.medianAdjacentOrdered[int]", by decide, Try.func115.trans (congrArg some (by kernel_rfl))⟩
  f34 := ⟨"slices.medianOrdered[int]", by decide, Try.func116.trans (congrArg some (by kernel_rfl))⟩
  f35 := ⟨"cmp.isNaN[int]", by decide, Try.func117.trans (congrArg some (by kernel_rfl))⟩
  f40 := ⟨"slices.order2Ordered[int]", by decide, Try.func118.trans (congrArg some (by kernel_rfl))⟩
  t0 := Try.underlying0
  a0 := Try.isAgg0
  z0 := Try.sizeOf0
  v0 := Try.zeroValue0
  t3 := Try.underlying3
  a3 := Try.isAgg3
  z3 := Try.sizeOf3
  v3 := Try.zeroValue3
  t4 := Try.underlying4
  a4 := Try.isAgg4
  z4 := Try.sizeOf4
  v4 := Try.zeroValue4
  t5 := Try.underlying5
  a5 := Try.isAgg5
  z5 := Try.sizeOf5
  v5 := Try.zeroValue5
  t9 := Try.underlying9
  a9 := Try.isAgg9
  z9 := Try.sizeOf9
  v9 := Try.zeroValue9
  t22 := Try.underlying33
  a22 := Try.isAgg33
  z22 := Try.sizeOf33
  v22 := Try.zeroValue33
  t23 := Try.underlying33
  a23 := Try.isAgg33
  z23 := Try.sizeOf33
  v23 := Try.zeroValue33
  t25 := Try.underlying3
  a25 := Try.isAgg3
  z25 := Try.sizeOf3
  v25 := Try.zeroValue3
  t32 := Try.underlying103
  a32 := Try.isAgg103
  z32 := Try.sizeOf103
  v32 := Try.zeroValue103
  t35 := Try.underlying116
  a35 := Try.isAgg116
  z35 := Try.sizeOf116
  v35 := Try.zeroValue116
  t36 := Try.underlying117
  a36 := Try.isAgg117
  z36 := Try.sizeOf117
  v36 := Try.zeroValue117
  t41 := Try.underlying121
  a41 := Try.isAgg121
  z41 := Try.sizeOf121
  v41 := Try.zeroValue121
  t44 := Try.underlying124
  a44 := Try.isAgg124
  z44 := Try.sizeOf124
  v44 := Try.zeroValue124
  t46 := Try.underlying126
  a46 := Try.isAgg126
  z46 := Try.sizeOf126
  v46 := Try.zeroValue126
  t53 := Try.underlying133
  a53 := Try.isAgg133
  z53 := Try.sizeOf133
  v53 := Try.zeroValue133
  t57 := Try.underlying137
  a57 := Try.isAgg137
  z57 := Try.sizeOf137
  v57 := Try.zeroValue137
  t63 := Try.underlying139
  a63 := Try.isAgg139
  z63 := Try.sizeOf139
  v63 := Try.zeroValue139
  t64 := Try.underlying140
  a64 := Try.isAgg140
  z64 := Try.sizeOf140
  v64 := Try.zeroValue140

/-- A list of ints that the call owns, sorted. -/
theorem sort_own {lo n c : Nat} {A : Option Addr} {l : List Int} {w : World} (h : Own w lo 3 A n c (ints .i64 l)) (hlo : lo ≤ w.heap.size) (hn : n ≤ 1000) :
    Calls Try.prog 68 #[.slice A n c] w fun e w' => e = .returned (.tuple #[]) ∧ Own w' lo 3 A n c (ints .i64 (l.mergeSort fun x y => decide (x ≤ y))) ∧ Below lo w w' := by
  have hl : l.length = n := by have h1 := h.1; rw [ints_length, Nat.mul_one] at h1; exact h1
  rcases h.2 with ⟨hv, h0⟩ | ⟨g, cap, cur, hv, hg, hgb, r1, r2, r3, r4⟩
  · injection hv with v1 v2 v3
    subst v1 v2 v3
    obtain rfl : l = [] := List.eq_nil_of_length_eq_zero hl
    refine (AnyM.slices_Sort_int_none sortA none 0 w).mono ?_
    rintro e w' ⟨rfl, rfl⟩
    exact ⟨rfl, by simpa using h, Below.refl _ _⟩
  · injection hv with v1 v2 v3
    subst v1 v3
    subst hl
    refine (AnyM.slices_Sort_int sortA g 0 c l w (holds_of_blockI hgb (by rw [Nat.mul_one] at r4; exact r4)) (Array.getElem?_eq_some_iff.1 hgb).1 (by omega)).mono ?_
    rintro e w' ⟨rfl, nn, os, rfl⟩
    exact ⟨rfl, ownsRow_sortedI (by simp) hg hgb r1 r2 r3, below_of_grown (grownBy_sortedI _) hlo (fun j hj => by cases hj; exact hg)⟩
theorem treeU_sorted {m : Nat} {cs : List Cab} (hc : cabsOk m cs) : (intsOf (treeU m cs m)).mergeSort (fun x y => decide (x ≤ y)) = intsOf (treeN m cs) := by
  have h1 : ((intsOf (treeN m cs))).Pairwise (fun x y => decide (x ≤ y) = true) := by
    unfold intsOf
    rw [List.pairwise_map]
    exact (tree_asc hc (costsN m cs) cs.length).imp (fun h => decide_eq_true (by omega))
  have h2 : (intsOf (treeU m cs m)).Perm (intsOf (treeN m cs)) := (treeU_perm hc).map _
  have h3 := (List.mergeSort_perm (intsOf (treeU m cs m)) (fun x y => decide (x ≤ y))).trans h2
  have h4 := List.pairwise_mergeSort (le := fun x y : Int => decide (x ≤ y)) (fun a b c h1 h2 => by simp only [decide_eq_true_eq] at *; omega) (fun a b => by simp only [Bool.or_eq_true, decide_eq_true_eq]; omega) (intsOf (treeU m cs m))
  exact h3.eq_of_pairwise (fun a b _ _ h1 h2 => by simp only [decide_eq_true_eq] at h1 h2; omega) h4 h1
set_option maxRecDepth 100000 in
set_option maxHeartbeats 8000000 in
theorem implTreeOf_w {A : Option Addr} {n c : Nat} {ks : List Tri} {nz : Int} {w : World} (h : HasK w A n ks) (hn : n ≤ 16777216) :
    Calls Try.prog 29 #[.int .i64 nz, .slice A n c] w fun e w' => ∃ A' n' c', e = .returned (.slice A' n' c') ∧ Own w' w.heap.size 3 A' n' c' (ints .i64 (treeI nz ks)) ∧ Below w.heap.size w w' := by
  obtain ⟨i0, hi, hz0, hz1, hz2⟩ := info_parts Try.infoInt
  by_cases hv : kOk nz ks
  · have C1 := Lib.hid (implCablesValid_b (c := c) h hn (decide_eq_true hv))
    have N := kOk_yes hv
    generalize nz.toNat = m at N
    generalize ks.map cabOf = cs at N
    have hm := N.le
    have hp := N.pos
    have HE := Lib.hid N.tree
    have hnn : n ≤ 20 := by have h1 := h.1; rw [N.ks_eq, List.length_map] at h1; have := N.few; omega
    obtain rfl := N.n_eq
    obtain rfl := N.ks_eq
    have HC := Lib.hid N.ok
    have HST := Lib.hid (treeU_sorted N.ok)
    have HEND := Lib.hid (show ∀ y, y < m → (treeU m cs (y + 1) = treeU m cs y ∧ gi (clmAt (afterN m cs m) y) 3 = -1) ∨ ∃ i : Nat, treeU m cs (y + 1) = treeU m cs y ++ [i] ∧ gi (clmAt (afterN m cs m) y) 3 = (i : Int) from fun y hy => by
      rcases after_end HC.out hm (Nat.le_refl m) hy with ⟨z, hcl⟩ | ⟨i, o, hu, ho, _, hcl⟩
      · refine Or.inl ⟨?_, by rw [hcl]; rfl⟩
        rw [treeU_succ, (up_none HC.out hm hy).2 z]; simp
      · refine Or.inr ⟨i, ?_, by rw [hcl]; rfl⟩
        rw [treeU_succ, hu]; rfl)
    have H0 := Lib.hid (show treeU m cs 0 = [] from rfl)
    clear hv N
    go_enter Try.func29, Try.ntmps29
    go_wp2_with (fail)
    refine C1.out.mono ?_
    rintro e w1 ⟨rfl, B1⟩
    go_wp2_with (fail)
    refine (treeClaims_any (h.bel B1) HC.out hp hm hnn).mono ?_
    rintro e w2 ⟨g2, rfl, O2, B2⟩
    have B12 := bel_trans B1 B2
    have hg2 := O2.block.2
    generalize hAF : afterN m cs m = AF at *
    generalize hTU : treeU m cs = TU at *
    clear C1 B1 B2 hAF hTU
    go_wp2
    go_loopw [5, 16] (fun v t wx => ∃ (k : Nat) (A' : Option Addr) (q c' : Nat), k ≤ m ∧ q ≤ k ∧ t = .int .i64 (k : Int) ∧ v = .slice A' q c' ∧ Own wx w2.heap.size 3 A' q c' (cI (TU k)) ∧ Below w2.heap.size w2 wx) (fun _ t _ => m - (intOf t).toNat)
    case atStart => exact ⟨0, none, 0, 0, Nat.zero_le _, Nat.le_refl _, rfl, rfl, by rw [H0.out]; exact World.ownsRow_nil _ _ _ _, Below.refl _ _⟩
    case round =>
      obtain ⟨k, A5, q5, c5, hk, hq, rfl, rfl, O5, B5⟩ := hrel
      have s5 := B5.size
      by_cases hlt : k < m
      · have hltB : decide ((k : Int) < (m : Int)) = true := by simp; omega
        obtain ⟨d0, d1, d2, d3⟩ := (O2.bel B5).at_ hlt
        have HD := HEND.out k hlt
        generalize gi (clmAt AF k) 0 = z0 at *
        generalize gi (clmAt AF k) 1 = z1 at *
        generalize gi (clmAt AF k) 2 = z2 at *
        generalize gi (clmAt AF k) 3 = z3 at *
        have BA := (Below.refl wr.heap.size wr).alloc (Nat.le_refl _) (.cells #[.int .i64 z0, .int .i64 z1, .int .i64 z2, .int .i64 z3] 69)
        obtain ⟨y0, y1, y2, y3⟩ := cells4 (heap_alloc_new wr (.cells #[.int .i64 0, .int .i64 0, .int .i64 0, .int .i64 0] 69))
        obtain ⟨x0, x1, x2, x3⟩ := cells4 (heap_alloc_new wr (.cells #[.int .i64 z0, .int .i64 z1, .int .i64 z2, .int .i64 z3] 69))
        generalize hWA : wr.alloc (.cells #[.int .i64 z0, .int .i64 z1, .int .i64 z2, .int .i64 z3] 69) = wa at BA x0 x1 x2 x3
        have OA := O5.bel BA
        have BW := B5.trans (BA.mono s5)
        rcases HD with ⟨hu, rfl⟩ | ⟨i, hu, rfl⟩
        · have HU := Lib.hid hu
          have hzB : ((-1 : Int) != -1) = false := rfl
          clear hu
          go_wp2
          go_roundw
          case rel => exact ⟨k + 1, _, q5, _, by omega, by omega, by go_num, rfl, by rw [HU.out]; exact OA, BW⟩
          case measure => simp [intOf]; omega
        · have HU := Lib.hid hu
          have hzB : ((i : Int) != -1) = true := by simp
          have sw := BW.size
          clear hu
          go_wp2_with (at_builtin; refine wpList_apps _ rfl (.tmp 23) (.tmp 26) 33 rfl w2.heap.size 3 i0 (.int .i64 0) 8 Try.underlying33 hi hz0 hz1 hz2 rfl A5 q5 c5 _ rfl OA 1 1 #[.int .i64 (i : Int)] rfl rfl (by simp [Value.oneCell']) (by decide) (by omega) (by decide) (by omega) ?_; intro g7 c7 w7 O7 G7 B7 hat7)
          have O8 : Own w7 w2.heap.size 3 (some ⟨g7, 0, none⟩) (q5 + 1) c7 (cI (TU k ++ [i])) := by rw [cI_app]; exact O7
          have B8 := BW.trans B7
          clear O7 G7 B7 hat7
          go_wp2
          go_roundw
          case rel => exact ⟨k + 1, _, q5 + 1, _, by omega, by omega, by go_num, rfl, by rw [HU.out]; exact O8, B8⟩
          case measure => simp [intOf]; omega
      · have hltB : decide ((k : Int) < (m : Int)) = false := by simp; omega
        obtain rfl : k = m := by omega
        have CS := Lib.hid (sort_own (l := intsOf (TU k)) O5 s5 (by omega))
        rw [HST.out] at CS
        go_wp2_with (fail)
        refine CS.out.mono ?_
        rintro e w6 ⟨rfl, O6, B6⟩
        have B7 := B12.trans ((B5.trans B6).mono B12.size)
        go_wp2
        go_ret
        exact ⟨_, _, _, rfl, by rw [HE.out]; exact O6.mono B12.size, B7⟩
  · have HE := Lib.hid (show treeI nz ks = [] by unfold treeI; rw [if_neg hv])
    have C1 := Lib.hid (implCablesValid_b (c := c) h hn (decide_eq_false hv))
    clear hv
    go_enter Try.func29, Try.ntmps29
    go_wp2_with (fail)
    refine C1.out.mono ?_
    rintro e w1 ⟨rfl, B1⟩
    go_wp2
    go_ret
    exact ⟨_, _, _, rfl, by rw [HE.out]; exact World.ownsRow_nil _ _ _ _, B1⟩
end Go.Proofs.Ytkmdpmhaljieaaa
