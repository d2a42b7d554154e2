/-
  Chapter 7's model, who is joined and to what root: what is proved here is what these functions return, and that they write nothing that was there. Condition: cables as they may be.
-/
import Derived.Test.YtkmdpmhaljieaaaCab
namespace Go.Proofs.Ytkmdpmhaljieaaa
open Go.RowKit

theorem made_bools (m : Nat) : (madeCells (Value.cells (.bool false)) (m * 1)).toList = bools (List.replicate m false) := by
  rw [Nat.mul_one, show bools (List.replicate m false) = List.replicate m (.bool false) by simp [bools]]; exact toList_madeCells_one _ _
set_option maxRecDepth 100000 in
set_option maxHeartbeats 4000000 in
theorem l7Joined_any {A : Option Addr} {n c m b : Nat} {cs : List Cab} {w : World} (h : HasK w A n (cs.map triOf)) (hc : cabsOk m cs) (hm : m ≤ 8) (hn : n ≤ 20) (hb : b < m) :
    Calls Try.prog 84 #[.int .i64 (m : Int), .slice A n c, .int .i64 (b : Int)] w fun e w' => ∃ g, e = .returned (.slice (some ⟨g, 0, none⟩) m m) ∧ Own w' w.heap.size 4 (some ⟨g, 0, none⟩) m m (bools (joinedL m cs b)) ∧ Below w.heap.size w w' := by
  obtain ⟨i0, hi, hz0, hz1, hz2⟩ := info_parts Try.infoBool
  have HL := Lib.hid (show cs.length = n by have := h.1; rwa [List.length_map] at this)
  have HC := Lib.hid (fun k (hk : k < n) => hc _ (cab_mem (show k < cs.length by rw [HL.out]; exact hk)))
  go_enter Try.func84, Try.ntmps84
  go_wp2_with (at_make; refine wpList_make_full _ rfl _ _ 87 rfl w.heap.size 4 i0 (.bool false) 1 Try.underlying87 hi hz0 hz1 .i64 .i64 _ _ m rfl rfl (by omega) (by omega) (by rw [hz2]; omega) (by unfold maxLen; omega) (Nat.le_refl _) ?_; intro w1 hown hgrow; rw [made_bools m] at hown; have O1 : Own w1 w.heap.size 4 (some ⟨w.heap.size, 0, none⟩) m m (bools (List.replicate m false)) := hown; have B1 : Below w.heap.size w w1 := below_of_grown hgrow (Nat.le_refl _) (fun k hk => by cases hk); clear hown hgrow; obtain ⟨y1, y2⟩ := bools_at O1 hb; have O2 := O1.set_ b (.bool true); rw [bools_set] at O2; have B2 := B1.setCell (p := ⟨w.heap.size, b, none⟩) (Nat.le_refl _) (.bool true))
  have O3 : Own _ w.heap.size 4 (some ⟨w.heap.size, 0, none⟩) m m (bools (startJ m b)) := O2
  clear O2 O1 B1
  go_loopw [15] (fun t wr => ∃ j : Nat, j ≤ m ∧ t = .int .i64 (j : Int) ∧ Own wr w.heap.size 4 (some ⟨w.heap.size, 0, none⟩) m m (bools (iter (passJ cs) j (startJ m b))) ∧ Below w.heap.size w wr) (fun t _ => m - (intOf t).toNat)
  case atStart => exact ⟨0, Nat.zero_le _, rfl, O3, B2⟩
  case round =>
    obtain ⟨j, hj, rfl, OJ, BJ⟩ := hrel
    by_cases hjm : j < m
    · have hjB : decide ((j : Int) < (m : Int)) = true := by simp; omega
      have HJL := Lib.hid (joined_len m cs b j)
      generalize hl0 : iter (passJ cs) j (startJ m b) = l0 at OJ HJL
      have HNX := Lib.hid (show iter (passJ cs) (j + 1) (startJ m b) = cs.foldl relJ l0 by rw [← hl0]; rfl)
      clear hl0
      go_wp2
      go_loopw [8] (fun t wx => ∃ k : Nat, k ≤ n ∧ t = .int .i64 (k : Int) ∧ Own wx w.heap.size 4 (some ⟨w.heap.size, 0, none⟩) m m (bools ((cs.take k).foldl relJ l0)) ∧ Below w.heap.size w wx) (fun t _ => n - (intOf t).toNat)
      case atStart => exact ⟨0, Nat.zero_le _, rfl, OJ, BJ⟩
      case round =>
        obtain ⟨k, hk, rfl, OK, BK⟩ := hrel
        by_cases hlt : k < n
        · have hltB : decide ((k : Int) < (n : Int)) = true := by simp; omega
          obtain ⟨bb, o, rfl, hbl, e0, e1, e2⟩ := h.cab7 hlt
          have d0 := (BK.cell (p := ⟨bb, o + k * 3, none⟩) hbl).trans e0
          have d1 := (BK.cell (p := ⟨bb, o + k * 3 + 1, none⟩) hbl).trans e1
          have hok := HC.out k hlt
          have HS := Lib.hid (joins_succ cs l0 k (by rw [HL.out]; exact hlt))
          generalize (cs.take k).foldl relJ l0 = lk at OK HS
          generalize hcc : cab cs k = cc at *
          obtain ⟨a1, a2, a3⟩ := cc
          obtain ⟨ha1, ha2, _⟩ := hok
          simp only at ha1 ha2 d0 d1 e0 e1
          obtain ⟨x1, f1⟩ := bools_at OK ha1
          obtain ⟨x2, f2⟩ := bools_at OK ha2
          have P1 := OK.set_ a1 (.bool true)
          rw [bools_set] at P1
          have Q1 := BK.setCell (p := ⟨w.heap.size, a1, none⟩) (Nat.le_refl _) (.bool true)
          obtain ⟨z2, g2⟩ := bools_at P1 ha2
          have d3 := (Q1.cell (p := ⟨bb, o + k * 3, none⟩) hbl).trans e0
          have d4 := (Q1.cell (p := ⟨bb, o + k * 3 + 1, none⟩) hbl).trans e1
          have P2 := P1.set_ a2 (.bool true)
          rw [bools_set] at P2
          have Q2 := Q1.setCell (p := ⟨w.heap.size, a2, none⟩) (Nat.le_refl _) (.bool true)
          clear hcc e0 e1 e2
          by_cases v1 : hasB lk a1 = true
          · rw [v1] at x1
            have HE := Lib.hid (HS.out.trans (show relJ lk (a1, a2, a3) = (lk.set a1 true).set a2 true by unfold relJ; rw [if_pos (by simp only [v1, Bool.true_or])]))
            clear v1
            go_wp2
            go_roundw
            case rel => exact ⟨k + 1, by omega, by go_num, by rw [HE.out]; exact P2, Q2⟩
            case measure => simp [intOf]; omega
          · have v1f : hasB lk a1 = false := by simpa using v1
            rw [v1f] at x1
            by_cases v2 : hasB lk a2 = true
            · rw [v2] at x2
              have HE := Lib.hid (HS.out.trans (show relJ lk (a1, a2, a3) = (lk.set a1 true).set a2 true by unfold relJ; rw [if_pos (by simp only [v2, Bool.or_true])]))
              clear v1 v1f v2
              go_wp2
              go_roundw
              case rel => exact ⟨k + 1, by omega, by go_num, by rw [HE.out]; exact P2, Q2⟩
              case measure => simp [intOf]; omega
            · have v2f : hasB lk a2 = false := by simpa using v2
              rw [v2f] at x2
              have HE := Lib.hid (HS.out.trans (show relJ lk (a1, a2, a3) = lk by unfold relJ; rw [if_neg (by simp [v1f, v2f])]))
              clear v1 v1f v2 v2f
              go_wp2
              go_roundw
              case rel => exact ⟨k + 1, by omega, by go_num, by rw [HE.out]; exact OK, BK⟩
              case measure => simp [intOf]; omega
        · have hltB : decide ((k : Int) < (n : Int)) = false := by simp; omega
          obtain rfl : k = n := by omega
          rw [List.take_of_length_le (by rw [HL.out]; omega), ← HNX.out] at OK
          go_wp2
          go_roundw
          case rel => exact ⟨j + 1, by omega, by go_num, OK, BK⟩
          case measure => simp [intOf]; omega
    · have hjB : decide ((j : Int) < (m : Int)) = false := by simp; omega
      obtain rfl : j = m := by omega
      go_wp2
      go_ret
      exact ⟨_, rfl, OJ, BJ⟩
end Go.Proofs.Ytkmdpmhaljieaaa
