/-
  Chapter 11's model, shares and what moves: what is proved here is what SharesOf and MovedFlows return, in memory of their own, and that they write nothing that was there. Condition: lengths up to 2^24.
-/
import Derived.Test.YtimddobedgopiaaFlowA
import Derived.Test.YtimddobedgopiaaWnInts
namespace Go.Proofs.Ytimddobedgopiaa
open Go.RowKit

theorem memI_nat {us : List Bool} {f : Nat} (h : upOk us) (hf : f ≤ 239) : memI us (f : Int) = memP us f := by
  unfold memI
  rw [if_pos ⟨h, by omega, by omega⟩]
  simp
theorem zeros_intsF (k : Nat) : (madeCells (Value.cells (.int .i64 0)) (k * 1)).toList = ints .i64 (List.replicate k 0) := by
  rw [Nat.mul_one, show Value.cells (.int .i64 0) = #[.int .i64 0] from rfl]
  simp only [ints, List.map_replicate]
  exact toList_madeCells_one _ _
theorem ints_getI {zs : List Int} {i : Nat} {z : Int} (h : zs[i]? = some z) : (ints .i64 zs)[i]? = some (.int .i64 z) := by simp [ints, h]
theorem movedTo_yes {us vs : List Bool} {n : Nat} (h : memP us n ≠ memP vs n) : movedTo us vs (n + 1) = movedTo us vs n + 1 := by
  unfold movedTo
  rw [cnt, if_pos (decide_eq_true h)]; rfl
theorem movedTo_not {us vs : List Bool} {n : Nat} (h : memP us n = memP vs n) : movedTo us vs (n + 1) = movedTo us vs n := by
  unfold movedTo
  rw [cnt, if_neg (by simp [h])]; rfl

set_option maxHeartbeats 2000000 in
theorem specSharesOf_r {A : Option Addr} {n c : Nat} {us : List Bool} {R : List Int} {w : World} (h : Has w A n (bools us)) (hn : n ≤ 16777216) (hR : sharesI us = R) :
    Calls Try.prog 27 #[.slice A n c] w fun e w' => ∃ A' n' c', e = .returned (.slice A' n' c') ∧ Own w' w.heap.size 3 A' n' c' (ints .i64 R) ∧ Below w.heap.size w w' := by
  obtain ⟨i0, hi, hz0, hz1, hz2⟩ := info_parts Try.infoInt
  have hl := has_bools_len h
  have e8 : upOk us ↔ 1 ≤ n ∧ n ≤ 8 := by unfold upOk; omega
  unfold sharesI at hR
  by_cases h1 : 1 ≤ n ∧ n ≤ 8
  · have C1 := Lib.hid (fun W : World => l11Bundle_b (A := A) (c := c) (w := W) hn (decide_eq_true h1))
    have HU := Lib.hid (e8.2 h1)
    rw [if_pos (e8.2 h1)] at hR
    have HR := Lib.hid hR
    have HL := Lib.hid hl
    have hn8 : n ≤ 8 := h1.2
    clear hR hl e8 h1
    go_enter Try.func27, Try.ntmps27
    go_wp2_with (first | (go_at_call 58; refine (C1.out _).mono ?_; rintro e w' ⟨rfl, rfl⟩) | (refine wpList_make_full _ rfl _ _ 33 rfl w.heap.size 3 i0 (.int .i64 0) 1 Try.underlying33 hi hz0 hz1 .i64 .i64 _ _ n rfl rfl rfl rfl (by rw [hz2]; omega) (by unfold maxLen; omega) (Nat.le_refl _) ?_; intro w1 hown hgrow))
    have O1 : Own w1 w.heap.size 3 (some ⟨w.heap.size, 0, none⟩) n n (ints .i64 (sharesTo us 0)) := by rw [sharesTo_zero, HL.out, ← zeros_intsF]; exact hown
    have B1 : Below w.heap.size w w1 := below_of_grown hgrow (Nat.le_refl _) (fun k hk => by cases hk)
    clear hown hgrow
    go_loopw [4] (fun i wr => ∃ k : Nat, k ≤ 225 ∧ i = .int .i64 (k : Int) ∧ Own wr w.heap.size 3 (some ⟨w.heap.size, 0, none⟩) n n (ints .i64 (sharesTo us k)) ∧ Below w.heap.size w wr) (fun i _ => 225 - (intOf i).toNat)
    case atStart => exact ⟨0, Nat.zero_le _, rfl, O1, B1⟩
    case round =>
      obtain ⟨k, hk, rfl, OK, BK⟩ := hrel
      by_cases hlt : k < 225
      · have hltB : decide ((k : Int) < 225) = true := by simp; omega
        obtain ⟨q, hq⟩ : ∃ q, memI us (k : Int) = q := ⟨_, rfl⟩
        have hq2 := hq
        rw [memI_nat HU.out (by omega)] at hq2
        have hb := memP_lt us k
        rw [HL.out] at hb
        go_wp2_with (fail)
        refine (specMemberFor_r (h.bel BK) hn hq).mono ?_
        rintro e w' ⟨rfl, rfl⟩
        clear hq
        by_cases h0 : q < 0
        · have hB : decide (q ≥ 0) = false := by simp; omega
          have hC : decide (0 ≤ q) = false := by simp; omega
          have HN := Lib.hid (sharesTo_none (us := us) (n := k) (by omega))
          clear hq2 hb h0
          go_wp2
          go_roundw
          case rel => exact ⟨k + 1, by omega, by go_num, by rw [HN.out]; exact OK, BK⟩
          case measure => simp [intOf]; omega
        · obtain ⟨m, rfl⟩ := Int.eq_ofNat_of_zero_le (show 0 ≤ q by omega)
          have hm : m < n := by omega
          have hB : decide ((m : Int) ≥ 0) = true := by simp
          have hC : decide (0 ≤ (m : Int)) = true := by simp
          have hb0 : 0 ≤ (m : Int) := by omega
          have hb1 : (m : Int) < (n : Int) := by omega
          have HS := Lib.hid (sharesTo_some hq2)
          have hsb := shareI_bounds us k (m : Int)
          obtain ⟨u, hu, hd, hf⟩ := OK.at_ hm
          rw [ints_getI (sharesTo_get us k (by rw [HL.out]; exact hm))] at hu
          injection hu with hu
          subst hu
          generalize shareI us k (m : Int) = s at *
          have P1 := OK.set_ m (.int .i64 (s + 1))
          rw [ints_set, ← HS.out] at P1
          have Q1 := BK.setCell (p := ⟨w.heap.size, m, none⟩) (Nat.le_refl _) (.int .i64 (s + 1))
          have wS : IntKind.i64.wrap (s + 1) = s + 1 := IntWalk.i64_in _ (by omega)
          clear hq2 hb h0 hsb
          go_wp2
          go_roundw
          case rel => exact ⟨k + 1, by omega, by go_num, P1, Q1⟩
          case measure => simp [intOf]; omega
      · have hltB : decide ((k : Int) < 225) = false := by simp; omega
        obtain rfl : k = 225 := by omega
        rw [HR.out] at OK
        go_wp2
        go_ret
        exact ⟨_, _, _, rfl, OK, BK⟩
  · have C1 := Lib.hid (fun W : World => l11Bundle_b (A := A) (c := c) (w := W) hn (decide_eq_false h1))
    rw [if_neg (fun hh => h1 (e8.1 hh))] at hR
    subst hR
    have E1 : Own (w.alloc (.cells #[] 3)) w.heap.size 3 (some ⟨w.heap.size, 0, none⟩) 0 0 (ints .i64 []) := World.ownsRow_lit w #[] 0 (Nat.le_refl _) (by unfold maxLen; omega) rfl
    clear h1 hl e8
    go_enter Try.func27, Try.ntmps27
    go_wp2_with (go_at_call 58; refine (C1.out _).mono ?_; rintro e w' ⟨rfl, rfl⟩)
    go_ret
    exact ⟨_, _, _, rfl, E1, (Below.refl _ _).alloc (Nat.le_refl _) _⟩

set_option maxHeartbeats 2000000 in
theorem specMovedFlows_r {A A' : Option Addr} {n c n' c' : Nat} {us vs : List Bool} {r : Int} {w : World} (h : Has w A n (bools us)) (h' : Has w A' n' (bools vs)) (hn : n ≤ 16777216) (hn' : n' ≤ 16777216) (hr : movedI us vs = r) :
    Calls Try.prog 30 #[.slice A n c, .slice A' n' c'] w fun e w' => e = .returned (.int .i64 r) ∧ w = w' := by
  have hl := has_bools_len h
  have hl' := has_bools_len h'
  have e8 : upOk us ↔ 1 ≤ n ∧ n ≤ 8 := by unfold upOk; omega
  unfold movedI at hr
  by_cases h1 : 1 ≤ n ∧ n ≤ 8
  · have C1 := Lib.hid (fun W : World => l11Bundle_b (A := A) (c := c) (w := W) hn (decide_eq_true h1))
    by_cases h2 : n = n'
    · subst h2
      have nB : ((n : Int) != (n : Int)) = false := by simp
      rw [if_pos ⟨e8.2 h1, by omega⟩] at hr
      have HU := Lib.hid (e8.2 h1)
      have HU' := Lib.hid (show upOk vs by unfold upOk; omega)
      have HR := Lib.hid hr
      clear hr hl hl' e8 h1
      go_enter Try.func30, Try.ntmps30
      go_wp2_with (go_at_call 58; refine (C1.out _).mono ?_; rintro e w' ⟨rfl, rfl⟩)
      go_loop [5, 6] (fun v i => ∃ k : Nat, k ≤ 225 ∧ i = .int .i64 (k : Int) ∧ v = .int .i64 (movedTo us vs k)) (fun _ i => 225 - (intOf i).toNat)
      case atStart => exact ⟨0, Nat.zero_le _, rfl, rfl⟩
      case round =>
        obtain ⟨k, hk, rfl, rfl⟩ := hrel
        by_cases hlt : k < 225
        · have hltB : decide ((k : Int) < 225) = true := by simp; omega
          have hmb := movedTo_bounds us vs k
          obtain ⟨hmb0, hmb1⟩ := hmb
          obtain ⟨p, hp⟩ : ∃ p, memI us (k : Int) = p := ⟨_, rfl⟩
          obtain ⟨q, hq⟩ : ∃ q, memI vs (k : Int) = q := ⟨_, rfl⟩
          have HY := Lib.hid (movedTo_yes (us := us) (vs := vs) (n := k))
          have HN := Lib.hid (movedTo_not (us := us) (vs := vs) (n := k))
          rw [← memI_nat HU.out (by omega), ← memI_nat HU'.out (by omega), hp, hq] at HY HN
          have C2 := Lib.hid (fun W (g : Has W A n (bools us)) => specMemberFor_r (c := c) (w := W) g hn hp)
          have C3 := Lib.hid (fun W (g : Has W A' n (bools vs)) => specMemberFor_r (c := c') (w := W) g hn hq)
          generalize movedTo us vs k = v at *
          have wS : IntKind.i64.wrap (v + 1) = v + 1 := IntWalk.i64_in _ (by omega)
          by_cases he : p = q
          · subst he
            have eB : (p != p) = false := by simp
            have HE := Lib.hid (HN.out rfl)
            clear hp hq
            go_wp2_with (fail)
            refine (C2.out _ h).mono ?_
            rintro e w' ⟨rfl, rfl⟩
            go_wp2_with (fail)
            refine (C3.out _ h').mono ?_
            rintro e w' ⟨rfl, rfl⟩
            go_wp2
            go_round
            case rel => exact ⟨k + 1, by omega, by go_num, by rw [HE.out]⟩
            case measure => simp [intOf]; omega
          · have eB : (p != q) = true := by simp [he]
            have HE := Lib.hid (HY.out he)
            clear hp hq he
            go_wp2_with (fail)
            refine (C2.out _ h).mono ?_
            rintro e w' ⟨rfl, rfl⟩
            go_wp2_with (fail)
            refine (C3.out _ h').mono ?_
            rintro e w' ⟨rfl, rfl⟩
            go_wp2
            go_round
            case rel => exact ⟨k + 1, by omega, by go_num, by rw [HE.out]⟩
            case measure => simp [intOf]; omega
        · have hltB : decide ((k : Int) < 225) = false := by simp; omega
          obtain rfl : k = 225 := by omega
          rw [HR.out]
          go_wp2
          go_ret
          exact ⟨rfl, rfl⟩
    · have nB : ((n : Int) != (n' : Int)) = true := by simp; omega
      rw [if_neg (fun hh => h2 (by omega))] at hr
      subst hr
      clear h1 h2 hl hl' e8
      go_enter Try.func30, Try.ntmps30
      go_wp2_with (go_at_call 58; refine (C1.out _).mono ?_; rintro e w' ⟨rfl, rfl⟩)
      go_ret
      exact ⟨rfl, rfl⟩
  · have C1 := Lib.hid (fun W : World => l11Bundle_b (A := A) (c := c) (w := W) hn (decide_eq_false h1))
    rw [if_neg (fun hh => h1 (e8.1 hh.1))] at hr
    subst hr
    clear h1 hl hl' e8
    go_enter Try.func30, Try.ntmps30
    go_wp2_with (go_at_call 58; refine (C1.out _).mono ?_; rintro e w' ⟨rfl, rfl⟩)
    go_ret
    exact ⟨rfl, rfl⟩
end Go.Proofs.Ytimddobedgopiaa
