/-
  Chapter 7's model, roots and costs: what is proved here is what these functions return, and that they write nothing that was there. Condition: lengths up to 2^24.
-/
import Derived.Test.YtkmdpmhaljieaaaCabJ
import Derived.BigRegion
import Derived.BigQuiet
import Derived.StillTailTactics
namespace Go.Proofs.Ytkmdpmhaljieaaa
open Go.RowKit

set_option maxHeartbeats 2000000 in
theorem l7Root_any {A : Option Addr} {n c m b : Nat} {cs : List Cab} {w : World} (h : HasK w A n (cs.map triOf)) (hc : cabsOk m cs) (hm : m ≤ 8) (hn : n ≤ 20) (hb : b < m) :
    Calls Try.prog 62 #[.int .i64 (m : Int), .slice A n c, .int .i64 (b : Int)] w fun e w' => e = .returned (.int .i64 (rootN m cs b : Int)) ∧ Below w.heap.size w w' := by
  have hr := root_lt hc hb
  have HF := Lib.hid (firstT_at (joinedL m cs b) b ((joined_iff hc hb b).2 .refl)).1
  have HN := Lib.hid (fun i (hi : i < firstT (joinedL m cs b)) => firstT_not (joinedL m cs b) i hi)
  have hr0 : rootN m cs b = firstT (joinedL m cs b) := rfl
  rw [hr0] at hr ⊢
  have C1 := Lib.hid (l7Joined_any (c := c) h hc hm hn hb)
  generalize firstT (joinedL m cs b) = rt at *
  clear hr0 hc h
  go_enter Try.func62, Try.ntmps62
  go_wp2_with (fail)
  refine C1.out.mono ?_
  rintro e w1 ⟨g, rfl, O, B⟩
  go_wp2
  go_loop [8] (fun t => ∃ r : Nat, r ≤ rt ∧ t = .int .i64 (r : Int)) (fun t => rt - (intOf t).toNat)
  case atStart => exact ⟨0, Nat.zero_le _, rfl⟩
  case round =>
    obtain ⟨r, hrr, rfl⟩ := hrel
    obtain ⟨x1, f1⟩ := bools_at O (show r < m by omega)
    by_cases hlt : r < rt
    · rw [HN.out r hlt] at x1
      go_wp2
      go_round
      case rel => exact ⟨r + 1, by omega, by go_num⟩
      case measure => simp [intOf]; omega
    · obtain rfl : r = rt := by omega
      rw [HF.out] at x1
      go_wp2
      go_ret
      exact ⟨rfl, B⟩
set_option maxHeartbeats 2000000 in
theorem specRootOf_w {A : Option Addr} {n c : Nat} {ks : List Tri} {nz b : Int} {w : World} (h : HasK w A n ks) (hn : n ≤ 16777216) :
    Calls Try.prog 21 #[.int .i64 nz, .slice A n c, .int .i64 b] w fun e w' => e = .returned (.int .i64 (rootI nz ks b)) ∧ Below w.heap.size w w' := by
  by_cases hv : kOk nz ks
  · have N := kOk_yes hv
    generalize nz.toNat = m at N
    generalize ks.map cabOf = cs at N
    have C1 := Lib.hid (specCablesValid_b (c := c) h hn (decide_eq_true hv))
    have hm := N.le
    have hp := N.pos
    by_cases hb : 0 ≤ b ∧ b ≤ nz - 1
    · obtain ⟨x, rfl⟩ := Int.eq_ofNat_of_zero_le hb.1
      have hx : x < m := by have := N.n_eq; omega
      have HE := Lib.hid (N.root hx)
      have hnn : n ≤ 20 := by have h1 := h.1; rw [N.ks_eq, List.length_map] at h1; have := N.few; omega
      have C2 := Lib.hid (fun W => l1In_yes (x : Int) 0 (nz - 1) W hb.1 hb.2)
      obtain rfl := N.n_eq
      obtain rfl := N.ks_eq
      have HC := Lib.hid N.ok
      clear hv hb N
      go_enter Try.func21, Try.ntmps21
      go_wp2_with (fail)
      refine C1.out.mono ?_
      rintro e w1 ⟨rfl, B1⟩
      go_wp2_with (fail)
      refine (C2.out _).mono ?_
      rintro e w2 ⟨rfl, rfl⟩
      go_wp2_with (fail)
      refine (l7Root_any (h.bel B1) HC.out hm hnn hx).mono ?_
      rintro e w3 ⟨rfl, B3⟩
      go_wp2
      go_ret
      exact ⟨ret_int HE.out.symm, bel_trans B1 B3⟩
    · have HE := Lib.hid (show rootI nz ks b = -1 by unfold rootI; rw [if_neg (fun hh => hb hh.2)])
      have C2 := Lib.hid (fun W => l1In_no b 0 (nz - 1) W hb)
      have hz : 1 ≤ nz ∧ nz ≤ 8 := hv.1
      clear hv hb N
      go_enter Try.func21, Try.ntmps21
      go_wp2_with (fail)
      refine C1.out.mono ?_
      rintro e w1 ⟨rfl, B1⟩
      go_wp2_with (fail)
      refine (C2.out _).mono ?_
      rintro e w2 ⟨rfl, rfl⟩
      go_wp2
      go_ret
      exact ⟨ret_int HE.out.symm, B1⟩
  · have HE := Lib.hid (show rootI nz ks b = -1 by unfold rootI; rw [if_neg (fun hh => hv hh.1)])
    have C1 := Lib.hid (specCablesValid_b (c := c) h hn (decide_eq_false hv))
    clear hv
    go_enter Try.func21, Try.ntmps21
    go_wp2_with (fail)
    refine C1.out.mono ?_
    rintro e w1 ⟨rfl, B1⟩
    go_wp2
    go_ret
    exact ⟨ret_int HE.out.symm, B1⟩

def cI (l : List Nat) : List Value := ints .i64 (intsOf l)
theorem cI_len (l : List Nat) : (cI l).length = l.length := by simp [cI, ints, intsOf]
theorem cI_set (l : List Nat) (i v : Nat) : (cI l).set i (.int .i64 (v : Int)) = cI (l.set i v) := by simp [cI, ints, intsOf, List.map_set]
theorem cI_app (a b : List Nat) : cI (a ++ b) = cI a ++ cI b := by simp [cI, ints, intsOf]
theorem cI_val (l : List Nat) (i : Nat) (h : i < l.length) : (cI l)[i]? = some (.int .i64 (gn l i : Int)) := by
  simp [cI, ints, intsOf, gn, List.getD_eq_getElem?_getD, List.getElem?_eq_getElem h]
theorem has_cI {w : World} {n : Nat} {A : Option Addr} {l : List Nat} (h : Has w A n (cI l)) {i : Nat} (hi : i < n) : ∃ b o, A = some ⟨b, o, none⟩ ∧ b < w.heap.size ∧ w.cell? ⟨b, o + i, none⟩ = some (.int .i64 (gn l i : Int)) := by
  obtain ⟨b, o, hA, hc⟩ := h.2 i hi
  have hl := h.1
  rw [cI_len] at hl
  rw [cI_val l i (by omega)] at hc
  exact ⟨b, o, hA, World.block_lt_of_cell? w _ hc, hc⟩
theorem own_cI {w : World} {lo n c g : Nat} {e : TypeId} {l : List Nat} (h : Own w lo e (some ⟨g, 0, none⟩) n c (cI l)) {i : Nat} (hi : i < n) : w.cell? ⟨g, i, none⟩ = some (.int .i64 (gn l i : Int)) ∧ w.frozen? ⟨g, i, none⟩ = false := by
  obtain ⟨u, hu, hc, hf⟩ := h.at_ hi
  refine ⟨hc.trans ?_, hf⟩
  have hl := h.has.1
  rw [cI_len] at hl
  rw [← hu, cI_val l i (by omega)]
def initTo (m : Nat) (cs : List Cab) (k : Nat) : List Nat := (List.range k).map fun b => if rootN m cs b = b then 0 else 10000
theorem initTo_yes {m : Nat} {cs : List Cab} {k : Nat} (h : rootN m cs k = k) : initTo m cs (k + 1) = initTo m cs k ++ [0] := by simp [initTo, List.range_succ, h]
theorem initTo_no {m : Nat} {cs : List Cab} {k : Nat} (h : rootN m cs k ≠ k) : initTo m cs (k + 1) = initTo m cs k ++ [10000] := by simp [initTo, List.range_succ, h]
theorem costs_succ (cs : List Cab) (l : List Nat) (k : Nat) (hk : k < cs.length) : (cs.take (k + 1)).foldl relC l = relC ((cs.take k).foldl relC l) (cab cs k) := by
  have hx : cs[k]? = some (cab cs k) := by unfold cab; rw [List.getD_eq_getElem?_getD, List.getElem?_eq_getElem hk]; rfl
  rw [List.take_add_one, hx, List.foldl_append]; rfl
def CapC (l : List Nat) : Prop := ∀ x, gn l x ≤ 10000
theorem init_cap (m : Nat) (cs : List Cab) : CapC (initC m cs) := fun x => by
  by_cases hx : x < m
  · rw [initC_at hx]; split <;> omega
  · unfold gn; rw [List.getD_eq_getElem?_getD, List.getElem?_eq_none (by rw [initC_len]; omega)]; simp
theorem CapC.pass {l : List Nat} (h : CapC l) (cs : List Cab) : CapC (cs.foldl relC l) := fun x => Nat.le_trans (passC_le cs l x) (h x)

set_option maxRecDepth 100000 in
set_option maxHeartbeats 8000000 in
theorem l7Costs_any {A : Option Addr} {n c m : Nat} {cs : List Cab} {w : World} (h : HasK w A n (cs.map triOf)) (hc : cabsOk m cs) (hm : m ≤ 8) (hm1 : 1 ≤ m) (hn : n ≤ 20) :
    Calls Try.prog 66 #[.int .i64 (m : Int), .slice A n c] w fun e w' => ∃ A' c', e = .returned (.slice A' m c') ∧ Own w' w.heap.size 3 A' m c' (cI (costsN m cs)) ∧ Below w.heap.size w w' := by
  obtain ⟨i0, hi, hz0, hz1, hz2⟩ := info_parts Try.infoInt
  have HL := Lib.hid (show cs.length = n by have := h.1; rwa [List.length_map] at this)
  have HC := Lib.hid (fun k (hk : k < n) => hc _ (cab_mem (show k < cs.length by rw [HL.out]; exact hk)))
  have HCC := Lib.hid hc
  clear hc
  go_enter Try.func66, Try.ntmps66
  go_wp2
  go_loopw [5, 6] (fun v t wr => ∃ (k : Nat) (A' : Option Addr) (c' : Nat), k ≤ m ∧ t = .int .i64 (k : Int) ∧ v = .slice A' k c' ∧ Own wr w.heap.size 3 A' k c' (cI (initTo m cs k)) ∧ Below w.heap.size w wr) (fun _ t _ => m - (intOf t).toNat)
  case atStart => exact ⟨0, _, _, Nat.zero_le _, rfl, rfl, World.ownsRow_lit w #[] 0 (Nat.le_refl _) (by unfold maxLen; omega) rfl, (Below.refl _ _).alloc (Nat.le_refl _) _⟩
  case round =>
    obtain ⟨k, A1, c1, hk, rfl, rfl, O1, B1⟩ := hrel
    have hge := B1.size
    by_cases hlt : k < m
    · have hltB : decide ((k : Int) < (m : Int)) = true := by simp; omega
      have C1 := Lib.hid (l7Root_any (c := c) (h.bel B1) HCC.out hm hn hlt)
      by_cases hr : rootN m cs k = k
      · have HE := Lib.hid (initTo_yes hr)
        rw [hr] at C1
        clear hr
        have hkB : ((k : Int) == (k : Int)) = true := by simp
        go_wp2_with (fail)
        refine C1.out.mono ?_
        rintro e w2 ⟨rfl, B2⟩
        have O2 := O1.bel B2
        have s2 := B2.size
        go_wp2_with (at_builtin; refine wpList_apps _ rfl (.tmp 21) (.tmp 22) 33 rfl w.heap.size 3 i0 (.int .i64 0) 8 Try.underlying33 hi hz0 hz1 hz2 rfl A1 k c1 _ rfl O2 1 1 #[.int .i64 0] rfl rfl (by simp [Value.oneCell']) (by decide) (by omega) (by decide) (by omega) ?_; intro g3 c3 w3 O3 G3 B3 _)
        go_roundw
        case rel => exact ⟨k + 1, _, _, by omega, by go_num, rfl, by rw [HE.out, cI_app]; exact O3, (B1.trans (B2.mono hge)).trans B3⟩
        case measure => simp [intOf]; omega
      · have HE := Lib.hid (initTo_no hr)
        have hkB : ((rootN m cs k : Int) == (k : Int)) = false := by simp; omega
        generalize rootN m cs k = rr at C1 hkB
        clear hr
        go_wp2_with (fail)
        refine C1.out.mono ?_
        rintro e w2 ⟨rfl, B2⟩
        have O2 := O1.bel B2
        have s2 := B2.size
        go_wp2_with (at_builtin; refine wpList_apps _ rfl (.tmp 24) (.tmp 25) 33 rfl w.heap.size 3 i0 (.int .i64 0) 8 Try.underlying33 hi hz0 hz1 hz2 rfl A1 k c1 _ rfl O2 1 1 #[.int .i64 10000] rfl rfl (by simp [Value.oneCell']) (by decide) (by omega) (by decide) (by omega) ?_; intro g3 c3 w3 O3 G3 B3 _)
        go_roundw
        case rel => exact ⟨k + 1, _, _, by omega, by go_num, rfl, by rw [HE.out, cI_app]; exact O3, (B1.trans (B2.mono hge)).trans B3⟩
        case measure => simp [intOf]; omega
    · have hltB : decide ((k : Int) < (m : Int)) = false := by simp; omega
      obtain rfl : k = m := by omega
      obtain ⟨g, rfl, hg0, hg1⟩ := O1.head (by omega)
      have O2 : Own wr w.heap.size 3 (some ⟨g, 0, none⟩) k c1 (cI (iter (passC cs) 0 (initC k cs))) := O1
      clear O1
      go_wp2
      go_loopw [28] (fun t wx => ∃ j : Nat, j ≤ k ∧ t = .int .i64 (j : Int) ∧ Own wx w.heap.size 3 (some ⟨g, 0, none⟩) k c1 (cI (iter (passC cs) j (initC k cs))) ∧ Below w.heap.size w wx) (fun t _ => k - (intOf t).toNat)
      case atStart => exact ⟨0, Nat.zero_le _, rfl, O2, B1⟩
      case round =>
        obtain ⟨j, hj, rfl, OJ, BJ⟩ := hrel
        by_cases hjm : j < k
        · have hjB : decide ((j : Int) < (k : Int)) = true := by simp; omega
          have HJC := Lib.hid (show CapC (iter (passC cs) j (initC k cs)) from iter_inv (P := CapC) (fun x hx => hx.pass cs) (init_cap k cs) j)
          generalize hl0 : iter (passC cs) j (initC k cs) = l0 at OJ HJC
          have HNX := Lib.hid (show iter (passC cs) (j + 1) (initC k cs) = cs.foldl relC l0 by rw [← hl0]; rfl)
          clear hl0
          go_wp2
          go_loopw [7] (fun t wq => ∃ q : Nat, q ≤ n ∧ t = .int .i64 (q : Int) ∧ Own wq w.heap.size 3 (some ⟨g, 0, none⟩) k c1 (cI ((cs.take q).foldl relC l0)) ∧ Below w.heap.size w wq) (fun t _ => n - (intOf t).toNat)
          case atStart => exact ⟨0, Nat.zero_le _, rfl, OJ, BJ⟩
          case round =>
            obtain ⟨q, hq, rfl, OK, BK⟩ := hrel
            by_cases hlt2 : q < n
            · have hltB : decide ((q : Int) < (n : Int)) = true := by simp; omega
              obtain ⟨bb, o, rfl, hbl, e0, e1, e2⟩ := h.cab7 hlt2
              have d0 := (BK.cell (p := ⟨bb, o + q * 3, none⟩) hbl).trans e0
              have d1 := (BK.cell (p := ⟨bb, o + q * 3 + 1, none⟩) hbl).trans e1
              have d2 := (BK.cell (p := ⟨bb, o + q * 3 + 2, none⟩) hbl).trans e2
              have hok := HC.out q hlt2
              have HS := Lib.hid (costs_succ cs l0 q (by rw [HL.out]; exact hlt2))
              have HCP := Lib.hid (show CapC ((cs.take q).foldl relC l0) from HJC.out.pass _)
              generalize (cs.take q).foldl relC l0 = lk at OK HS HCP
              generalize hcc : cab cs q = cc at *
              obtain ⟨a1, a2, a3⟩ := cc
              obtain ⟨ha1, ha2, hne, ha3, ha4⟩ := hok
              simp only at ha1 ha2 hne ha3 ha4 d0 d1 d2
              clear hcc e0 e1 e2
              have sK := BK.size
              have BA := BK.alloc sK (.cells #[.int .i64 (a1 : Int), .int .i64 (a2 : Int), .int .i64 (a3 : Int)] 29)
              have OA := OK.bel ((Below.refl _ wr).alloc (Nat.le_refl _) (.cells #[.int .i64 (a1 : Int), .int .i64 (a2 : Int), .int .i64 (a3 : Int)] 29))
              have hHn := heap_alloc_new wr (.cells #[.int .i64 (a1 : Int), .int .i64 (a2 : Int), .int .i64 (a3 : Int)] 29)
              have hHz := heap_alloc_new wr (.cells #[.int .i64 0, .int .i64 0, .int .i64 0] 29)
              obtain ⟨y0, y1, y2⟩ := cells3K hHz
              have hgg : g < wr.heap.size := OK.block.2
              have v1 := HCP.out a1
              have v2 := HCP.out a2
              generalize hWA : wr.alloc (.cells #[.int .i64 (a1 : Int), .int .i64 (a2 : Int), .int .i64 (a3 : Int)] 29) = WA at hHn BA OA
              obtain ⟨VA, hVA⟩ : ∃ V, WA.drew = V := ⟨_, rfl⟩
              have OV : Own VA w.heap.size 3 (some ⟨g, 0, none⟩) k c1 (cI lk) := hVA ▸ OA.bel (below_drewN _ 1)
              have hHA : VA.heap[wr.heap.size]? = some (.cells #[.int .i64 (a1 : Int), .int .i64 (a2 : Int), .int .i64 (a3 : Int)] 29 (0, 0)) := hVA ▸ hHn
              obtain ⟨x0, x1, x2⟩ := cells3K hHA
              obtain ⟨z1, f1⟩ := own_cI OV ha1
              obtain ⟨z2, f2⟩ := own_cI OV ha2
              obtain ⟨W2, hW2⟩ : ∃ W2, VA.setCell ⟨g, a1, none⟩ (.int .i64 (min (gn lk a1 : Int) ((gn lk a2 : Int) + (a3 : Int)))) = W2 := ⟨_, rfl⟩
              have O2 : Own W2 w.heap.size 3 (some ⟨g, 0, none⟩) k c1 (cI (rel1 lk a1 a2 a3)) := by
                have P1 := OV.set_ a1 (.int .i64 ((min (gn lk a1) (gn lk a2 + a3) : Nat) : Int))
                rw [cI_set] at P1
                rw [← hW2, show min (gn lk a1 : Int) ((gn lk a2 : Int) + (a3 : Int)) = ((min (gn lk a1) (gn lk a2 + a3) : Nat) : Int) by omega]
                exact P1
              have BV : Below w.heap.size w VA := hVA ▸ (BA.trans (below_drewN _ 1))
              have B2 : Below w.heap.size w W2 := by rw [← hW2]; exact BV.setCell (p := ⟨g, a1, none⟩) hg0 _
              have hH2 : W2.heap[wr.heap.size]? = some (.cells #[.int .i64 (a1 : Int), .int .i64 (a2 : Int), .int .i64 (a3 : Int)] 29 (0, 0)) := by
                rw [← hW2]; exact (Below.heap_setCell VA ⟨g, a1, none⟩ _ wr.heap.size (fun e => by have e' : wr.heap.size = g := e; omega)).trans hHA
              have w1 : gn (rel1 lk a1 a2 a3) a1 ≤ 10000 := Nat.le_trans (rel1_le _ _ _ _ _) v1
              have w2 : gn (rel1 lk a1 a2 a3) a2 ≤ 10000 := Nat.le_trans (rel1_le _ _ _ _ _) v2
              have HS2 := Lib.hid (HS.out.trans (show relC lk (a1, a2, a3) = (rel1 lk a1 a2 a3).set a2 (min (gn (rel1 lk a1 a2 a3) a2) (gn (rel1 lk a1 a2 a3) a1 + a3)) from rfl))
              generalize gn lk a1 = u1 at *
              generalize gn lk a2 = u2 at *
              generalize rel1 lk a1 a2 a3 = l1 at *
              obtain ⟨VB, hVB⟩ : ∃ V, W2.drew = V := ⟨_, rfl⟩
              have OB : Own VB w.heap.size 3 (some ⟨g, 0, none⟩) k c1 (cI l1) := hVB ▸ O2.bel (below_drewN _ 1)
              have hHB : VB.heap[wr.heap.size]? = some (.cells #[.int .i64 (a1 : Int), .int .i64 (a2 : Int), .int .i64 (a3 : Int)] 29 (0, 0)) := hVB ▸ hH2
              obtain ⟨r0, r1, r2⟩ := cells3K hHB
              obtain ⟨s1, t1⟩ := own_cI OB ha1
              obtain ⟨s2, t2⟩ := own_cI OB ha2
              have O3 := OB.set_ a2 (.int .i64 ((min (gn l1 a2) (gn l1 a1 + a3) : Nat) : Int))
              rw [cI_set, ← HS2.out] at O3
              rw [show ((min (gn l1 a2) (gn l1 a1 + a3) : Nat) : Int) = min (gn l1 a2 : Int) ((gn l1 a1 : Int) + (a3 : Int)) by omega] at O3
              have B4 : Below w.heap.size w (VB.setCell ⟨g, a2, none⟩ (.int .i64 (min (gn l1 a2 : Int) ((gn l1 a1 : Int) + (a3 : Int))))) := (show Below w.heap.size w VB from hVB ▸ (B2.trans (below_drewN _ 1))).setCell (p := ⟨g, a2, none⟩) hg0 _
              generalize gn l1 a1 = m1 at *
              generalize gn l1 a2 = m2 at *
              have HO := Lib.hid O3
              have HB := Lib.hid B4
              clear O2 O3 B4 HS HS2 hH2 hHn OA OK OV OB hHA hHB
              go_wp2
              go_still_tail 17, (by kernel_rfl)
              go_wp2
              try rw [hW2]
              clear hW2 x0 x1 x2 z1 z2 f1 f2
              go_still_tail 17, (by kernel_rfl)
              go_wp2
              go_roundw
              case rel => exact ⟨q + 1, by omega, by go_num, HO.out, HB.out⟩
              case measure => simp [intOf]; omega
            · have hltB : decide ((q : Int) < (n : Int)) = false := by simp; omega
              obtain rfl : q = n := by omega
              rw [List.take_of_length_le (by rw [HL.out]; omega), ← HNX.out] at OK
              go_wp2
              go_roundw
              case rel => exact ⟨j + 1, by omega, by go_num, OK, BK⟩
              case measure => simp [intOf]; omega
        · have hjB : decide ((j : Int) < (k : Int)) = false := by simp; omega
          obtain rfl : j = k := by omega
          go_wp2
          go_ret
          exact ⟨_, _, rfl, OJ, BJ⟩
set_option maxHeartbeats 2000000 in
theorem specCostsOf_w {A : Option Addr} {n c : Nat} {ks : List Tri} {nz : Int} {w : World} (h : HasK w A n ks) (hn : n ≤ 16777216) :
    Calls Try.prog 27 #[.int .i64 nz, .slice A n c] w fun e w' => ∃ A' n' c', e = .returned (.slice A' n' c') ∧ Own w' w.heap.size 3 A' n' c' (ints .i64 (costsI nz ks)) ∧ Below w.heap.size w w' := by
  by_cases hv : kOk nz ks
  · have N := kOk_yes hv
    generalize nz.toNat = m at N
    generalize ks.map cabOf = cs at N
    have C1 := Lib.hid (specCablesValid_b (c := c) h hn (decide_eq_true hv))
    have hm := N.le
    have hp := N.pos
    have HE := Lib.hid N.costs
    have hnn : n ≤ 20 := by have h1 := h.1; rw [N.ks_eq, List.length_map] at h1; have := N.few; omega
    obtain rfl := N.n_eq
    obtain rfl := N.ks_eq
    have HC := Lib.hid N.ok
    clear hv N
    go_enter Try.func27, Try.ntmps27
    go_wp2_with (fail)
    refine C1.out.mono ?_
    rintro e w1 ⟨rfl, B1⟩
    go_wp2_with (fail)
    refine (l7Costs_any (h.bel B1) HC.out hm hp hnn).mono ?_
    rintro e w3 ⟨A3, c3, rfl, O3, B3⟩
    go_wp2
    go_ret
    exact ⟨_, _, _, rfl, by rw [HE.out]; exact O3.mono B1.size, bel_trans B1 B3⟩
  · have HE := Lib.hid (show costsI nz ks = [] by unfold costsI; rw [if_neg hv])
    have C1 := Lib.hid (specCablesValid_b (c := c) h hn (decide_eq_false hv))
    clear hv
    go_enter Try.func27, Try.ntmps27
    go_wp2_with (fail)
    refine C1.out.mono ?_
    rintro e w1 ⟨rfl, B1⟩
    have E1 : Own (w1.alloc (.cells #[] 3)) w.heap.size 3 (some ⟨w1.heap.size, 0, none⟩) 0 0 (ints .i64 []) := World.ownsRow_lit w1 #[] 0 B1.size (by unfold maxLen; omega) rfl
    go_wp2
    go_ret
    exact ⟨_, _, _, rfl, by rw [HE.out]; exact E1, B1.alloc B1.size _⟩
end Go.Proofs.Ytkmdpmhaljieaaa
