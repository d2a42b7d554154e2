/-
  Chapter 7's program, unions of sets: what is proved here is what rootsOf and RootOf return, and that they write nothing that was there. Condition: lengths up to 2^24.
-/
import Derived.Test.YtkmdpmhaljieaaaImp7a
namespace Go.Proofs.Ytkmdpmhaljieaaa
open Go.RowKit

def rootsN (m : Nat) (cs : List Cab) : List Nat := (List.range m).map (rootN m cs)
theorem rootsN_len (m : Nat) (cs : List Cab) : (rootsN m cs).length = m := by simp [rootsN]
theorem rootsN_at {m : Nat} {cs : List Cab} {b : Nat} (h : b < m) : gn (rootsN m cs) b = rootN m cs b := by simp [rootsN, gn, List.getD_eq_getElem?_getD, h]
theorem cI_zeros (n : Nat) : cI (List.replicate n 0) = List.replicate n (.int .i64 0) := by simp [cI, ints, intsOf]
/-- The first k numbers, zeros behind them. -/
def upto (f : Nat → Nat) (m k : Nat) : List Nat := (List.range m).map fun i => if i < k then f i else 0
theorem upto_zero (f : Nat → Nat) (m : Nat) : upto f m 0 = List.replicate m 0 := by
  unfold upto
  apply List.ext_getElem?
  intro i
  by_cases hi : i < m <;> simp [hi]
theorem upto_set (f : Nat → Nat) (m k : Nat) : (upto f m k).set k (f k) = upto f m (k + 1) := by
  unfold upto
  apply List.ext_getElem?
  intro i
  by_cases hi : i = k
  · subst hi
    by_cases hm : i < m
    · rw [List.getElem?_set_self (by simp; exact hm)]; simp [hm]
    · rw [List.set_eq_of_length_le (by simp; omega)]; simp [hm]
  · rw [List.getElem?_set_ne (Ne.symm hi)]
    by_cases hm : i < m
    · simp only [List.getElem?_map, List.getElem?_range hm, Option.map_some]
      by_cases h1 : i < k
      · rw [if_pos h1, if_pos (by omega)]
      · rw [if_neg h1, if_neg (by omega)]
    · simp [hm]
theorem upto_done (f : Nat → Nat) (m : Nat) : upto f m m = (List.range m).map f := by
  unfold upto
  refine List.map_congr_left fun i hi => ?_
  rw [if_pos (List.mem_range.1 hi)]

theorem made_ints (m : Nat) : (madeCells (Value.cells (.int .i64 0)) (m * 1)).toList = cI (List.replicate m 0) := by
  rw [Nat.mul_one, cI_zeros]; exact toList_madeCells_one _ _
set_option maxRecDepth 100000 in
set_option maxHeartbeats 8000000 in
theorem rootsOf_any {A : Option Addr} {n c m : Nat} {cs : List Cab} {w : World} (h : HasK w A n (cs.map triOf)) (hc : cabsOk m cs) (hm : m ≤ 8) (hn : n ≤ 20) :
    Calls Try.prog 60 #[.int .i64 (m : Int), .slice A n c] w fun e w' => ∃ g, e = .returned (.slice (some ⟨g, 0, none⟩) m m) ∧ Own w' w.heap.size 3 (some ⟨g, 0, none⟩) m m (cI (rootsN m cs)) ∧ Below w.heap.size w w' := by
  obtain ⟨i0, hi, hz0, hz1, hz2⟩ := info_parts Try.infoInt
  have HL := Lib.hid (show cs.length = n by have := h.1; rwa [List.length_map] at this)
  have HC := Lib.hid hc
  clear hc
  go_enter Try.func60, Try.ntmps60
  go_wp2_with (at_make; refine wpList_make_full _ rfl _ _ 85 rfl w.heap.size 3 i0 (.int .i64 0) 1 Try.underlyingSets hi hz0 hz1 .i64 .i64 _ _ m rfl rfl (by omega) (by omega) (by rw [hz2]; omega) (by unfold maxLen; omega) (Nat.le_refl _) ?_; intro w1 hown hgrow; rw [made_ints] at hown; have O1 : Own w1 w.heap.size 3 (some ⟨w.heap.size, 0, none⟩) m m (cI (List.replicate m 0)) := hown; have B1 : Below w.heap.size w w1 := below_of_grown hgrow (Nat.le_refl _) (fun k hk => by cases hk); clear hown hgrow)
  rw [← upto_zero (fun b => b)] at O1
  go_loopw [15] (fun t wx => ∃ k : Nat, k ≤ m ∧ t = .int .i64 (k : Int) ∧ Own wx w.heap.size 3 (some ⟨w.heap.size, 0, none⟩) m m (cI (upto (fun b => b) m k)) ∧ Below w.heap.size w wx) (fun t _ => m - (intOf t).toNat)
  case atStart => exact ⟨0, Nat.zero_le _, rfl, O1, B1⟩
  case round =>
    obtain ⟨k, hk, rfl, O2, B2⟩ := hrel
    by_cases hlt : k < m
    · have hltB : decide ((k : Int) < (m : Int)) = true := by simp; omega
      obtain ⟨x1, f1⟩ := own_cI O2 hlt
      have O3 := O2.set_ k (.int .i64 ((k : Nat) : Int))
      rw [cI_set] at O3
      have HS := Lib.hid (show (upto (fun b => b) m k).set k k = upto (fun b => b) m (k + 1) from upto_set _ m k)
      rw [HS.out] at O3
      have B3 := B2.setCell (p := ⟨w.heap.size, k, none⟩) (Nat.le_refl _) (.int .i64 (k : Int))
      go_wp2
      go_roundw
      case rel => exact ⟨k + 1, by omega, by go_num, O3, B3⟩
      case measure => simp [intOf]; omega
    · have hltB : decide ((k : Int) < (m : Int)) = false := by simp; omega
      obtain rfl : k = m := by omega
      have O3 : Own wr w.heap.size 3 (some ⟨w.heap.size, 0, none⟩) k k (cI (setsK k cs 0)) := by
        rw [upto_done] at O2; rw [setsK]; simpa using O2
      clear O2 O1 B1
      go_wp2
      go_loopw [25] (fun t wx => ∃ j : Nat, j ≤ n ∧ t = .int .i64 (j : Int) ∧ Own wx w.heap.size 3 (some ⟨w.heap.size, 0, none⟩) k k (cI (setsK k cs j)) ∧ Below w.heap.size w wx) (fun t _ => n - (intOf t).toNat)
      case atStart => exact ⟨0, Nat.zero_le _, rfl, O3, B2⟩
      case round =>
        obtain ⟨j, hj, rfl, O5, B5⟩ := hrel
        have s5 := B5.size
        by_cases hlt2 : j < n
        · have hltB2 : decide ((j : Int) < (n : Int)) = true := by simp; omega
          have hjl : j < cs.length := by rw [HL.out]; exact hlt2
          obtain ⟨bb, o, rfl, hbl, e0, e1, e2⟩ := h.cab7 hlt2
          have d0 := (B5.cell (p := ⟨bb, o + j * 3, none⟩) hbl).trans e0
          have d1 := (B5.cell (p := ⟨bb, o + j * 3 + 1, none⟩) hbl).trans e1
          have d2 := (B5.cell (p := ⟨bb, o + j * 3 + 2, none⟩) hbl).trans e2
          have hok := HC.out _ (cab_mem hjl)
          have HS := Lib.hid (sets_ok k cs j).2
          have HJ := Lib.hid (show joinS (setsK k cs j) (cab cs j) = setsK k cs (j + 1) from rfl)
          generalize setsK k cs j = s at *
          generalize cab cs j = cc at *
          obtain ⟨ha1, ha2, _⟩ := hok
          have hHz := heap_alloc_new wr (.cells #[.int .i64 0, .int .i64 0, .int .i64 0] 29)
          have hHn := heap_alloc_new wr (.cells #[.int .i64 (cc.1 : Int), .int .i64 (cc.2.1 : Int), .int .i64 (cc.2.2 : Int)] 29)
          obtain ⟨y0, y1, y2⟩ := cells3K hHz
          obtain ⟨x0, x1, x2⟩ := cells3K hHn
          have BA := (Below.refl wr.heap.size wr).alloc (Nat.le_refl _) (.cells #[.int .i64 (cc.1 : Int), .int .i64 (cc.2.1 : Int), .int .i64 (cc.2.2 : Int)] 29)
          have O6 := O5.bel BA
          have B6 := B5.trans (BA.mono s5)
          clear hHz hHn e0 e1 e2
          go_wp2_with (fail)
          refine (join_any O6 HS.out ha1 ha2).mono ?_
          rintro e w7 ⟨rfl, O7, G7⟩
          rw [HJ.out] at O7
          have B7 := B6.trans (below_of_grown G7 B6.size (fun x hx => by injection hx with hx; omega))
          go_wp2
          go_roundw
          case rel => exact ⟨j + 1, by omega, by go_num, O7, B7⟩
          case measure => simp [intOf]; omega
        · have hltB2 : decide ((j : Int) < (n : Int)) = false := by simp; omega
          obtain rfl : j = n := by omega
          have HSM := Lib.hid (fun b (hb : b < k) => show sm (setsK k cs j) b = rootN k cs b by rw [← HL.out]; exact sets_root HC.out hb)
          have HS := Lib.hid (sets_ok k cs j).2
          generalize setsK k cs j = s at *
          go_wp2_with (at_make; refine wpList_make_full _ rfl _ _ 33 rfl wr.heap.size 3 i0 (.int .i64 0) 1 Try.underlying33 hi hz0 hz1 .i64 .i64 _ _ k rfl rfl (by omega) (by omega) (by rw [hz2]; omega) (by unfold maxLen; omega) (Nat.le_refl _) ?_; intro w8 hown hgrow; rw [made_ints, ← upto_zero (rootN k cs)] at hown; have O8 : Own w8 wr.heap.size 3 (some ⟨wr.heap.size, 0, none⟩) k k (cI (upto (rootN k cs) k 0)) := hown; have B8 : Below wr.heap.size wr w8 := below_of_grown hgrow (Nat.le_refl _) (fun k hk => by cases hk); clear hown hgrow)
          have O9 := O5.bel B8
          have B9 := B5.trans (B8.mono s5)
          have hwlt : w.heap.size < wr.heap.size := O5.block.2
          obtain ⟨wo, rfl⟩ : ∃ wo : World, wo = wr := ⟨_, rfl⟩
          clear B8 O5
          go_loopw [40] (fun t wx => ∃ i : Nat, i ≤ k ∧ t = .int .i64 (i : Int) ∧ Own wx wo.heap.size 3 (some ⟨wo.heap.size, 0, none⟩) k k (cI (upto (rootN k cs) k i)) ∧ Own wx w.heap.size 3 (some ⟨w.heap.size, 0, none⟩) k k (cI s) ∧ Below w.heap.size w wx) (fun t _ => k - (intOf t).toNat)
          case atStart => exact ⟨0, Nat.zero_le _, rfl, O8, O9, B9⟩
          case round =>
            obtain ⟨i, hik, rfl, P1, P2, B10⟩ := hrel
            by_cases hlt3 : i < k
            · have hltB3 : decide ((i : Int) < (k : Int)) = true := by simp; omega
              obtain ⟨x1, f1⟩ := own_cI P1 hlt3
              have CS := Lib.hid (smallest_any (c := k) P2.has HS.out hlt3)
              rw [HSM.out i hlt3] at CS
              have P3 := P1.set_ i (.int .i64 ((rootN k cs i : Nat) : Int))
              rw [cI_set] at P3
              have HU := Lib.hid (upto_set (rootN k cs) k i)
              rw [HU.out] at P3
              have P5 := P2.grown (one_grownK wr wo.heap.size i (.int .i64 ((rootN k cs i : Nat) : Int))) (fun a ha e => by cases ha; injection e with e; exact absurd e (Nat.ne_of_lt hwlt))
              have B11 := B10.setCell (p := ⟨wo.heap.size, i, none⟩) (Nat.le_of_lt hwlt) (.int .i64 ((rootN k cs i : Nat) : Int))
              generalize rootN k cs i = rt at *
              go_wp2_with (fail)
              refine CS.out.mono ?_
              rintro e w11 ⟨rfl, rfl⟩
              go_wp2
              go_roundw
              case rel => exact ⟨i + 1, by omega, by go_num, P3, P5, B11⟩
              case measure => simp [intOf]; omega
            · have hltB3 : decide ((i : Int) < (k : Int)) = false := by simp; omega
              obtain rfl : i = k := by omega
              rw [upto_done] at P1
              go_wp2
              go_ret
              exact ⟨_, rfl, P1.mono s5, B10⟩
set_option maxHeartbeats 2000000 in
theorem implRootOf_w {A : Option Addr} {n c : Nat} {ks : List Tri} {nz b : Int} {w : World} (h : HasK w A n ks) (hn : n ≤ 16777216) :
    Calls Try.prog 20 #[.int .i64 nz, .slice A n c, .int .i64 b] w fun e w' => e = .returned (.int .i64 (rootI nz ks b)) ∧ Below w.heap.size w w' := by
  by_cases hv : kOk nz ks
  · have N := kOk_yes hv
    generalize nz.toNat = m at N
    generalize ks.map cabOf = cs at N
    have C1 := Lib.hid (implCablesValid_b (c := c) h hn (decide_eq_true hv))
    have hm := N.le
    by_cases hb : 0 ≤ b ∧ b ≤ nz - 1
    · obtain ⟨x, rfl⟩ := Int.eq_ofNat_of_zero_le hb.1
      have hx : x < m := by have := N.n_eq; omega
      have HE := Lib.hid (N.root hx)
      have hnn : n ≤ 20 := by have h1 := h.1; rw [N.ks_eq, List.length_map] at h1; have := N.few; omega
      have C2 := Lib.hid (fun W => isBridge_yes W hb)
      obtain rfl := N.n_eq
      obtain rfl := N.ks_eq
      have HC := Lib.hid N.ok
      have HR := Lib.hid (rootsN_at (cs := cs) hx)
      clear hv hb N
      go_enter Try.func20, Try.ntmps20
      go_wp2_with (fail)
      refine C1.out.mono ?_
      rintro e w1 ⟨rfl, B1⟩
      go_wp2_with (fail)
      refine (C2.out _).mono ?_
      rintro e w2 ⟨rfl, rfl⟩
      go_wp2_with (fail)
      refine (rootsOf_any (h.bel B1) HC.out hm hnn).mono ?_
      rintro e w3 ⟨g, rfl, O3, B3⟩
      obtain ⟨x1, f1⟩ := own_cI O3 hx
      rw [HR.out] at x1
      have B4 := bel_trans B1 B3
      go_wp2
      go_ret
      exact ⟨ret_int HE.out.symm, B4⟩
    · have HE := Lib.hid (show rootI nz ks b = -1 by unfold rootI; rw [if_neg (fun hh => hb hh.2)])
      have C2 := Lib.hid (fun W => isBridge_no W hb)
      clear hv hb N
      go_enter Try.func20, Try.ntmps20
      go_wp2_with (fail)
      refine C1.out.mono ?_
      rintro e w1 ⟨rfl, B1⟩
      go_wp2_with (fail)
      refine (C2.out _).mono ?_
      rintro e w2 ⟨rfl, rfl⟩
      go_wp2
      go_ret
      exact ⟨ret_int HE.out.symm, B1⟩
  · have HE := Lib.hid (show rootI nz ks b = -1 by unfold rootI; rw [if_neg (fun hh => hv hh.1)])
    have C1 := Lib.hid (implCablesValid_b (c := c) h hn (decide_eq_false hv))
    clear hv
    go_enter Try.func20, Try.ntmps20
    go_wp2_with (fail)
    refine C1.out.mono ?_
    rintro e w1 ⟨rfl, B1⟩
    go_wp2
    go_ret
    exact ⟨ret_int HE.out.symm, B1⟩
end Go.Proofs.Ytkmdpmhaljieaaa
