/-
  Chapter 10's program, ApartFrom: what is proved here is what it returns, in memory of its own, and that it writes nothing that was there. Condition: lengths up to 2^24.
-/
import Derived.Test.YtiokieancjigeaaImp10f
namespace Go.Proofs.Ytiokieancjigeaa
open Go.RowKit

theorem apart_in' {ps : List Port} {a k : Nat} (hne : k ≠ a) (he : meetTo (dp ps a) (dp ps k) 10 = []) : apartTo ps a (k + 1) = apartTo ps a k ++ [(k : Int)] := by
  rw [apart_succ, if_pos ⟨hne, he⟩]
theorem apart_out' {ps : List Port} {a k : Nat} (he : meetTo (dp ps a) (dp ps k) 10 ≠ []) : apartTo ps a (k + 1) = apartTo ps a k := by
  rw [apart_succ, if_neg (fun hh => he hh.2), List.append_nil]
set_option maxRecDepth 100000 in
set_option maxHeartbeats 8000000 in
theorem implApartFrom_r {A : Option Addr} {n c : Nat} {ps : List Port} {a : Int} {w : World} {r : List Int} (h : HasP w A n ps) (hn : n ≤ 16777216) (hl : LenP ps) (hr : apartI ps a = r) :
    Calls Try.prog 28 #[.slice A n c, .int .i64 a] w fun e w' => ∃ A' n' c', e = .returned (.slice A' n' c') ∧ Own w' w.heap.size 3 A' n' c' (ints .i64 r) ∧ Below w.heap.size w w' := by
  obtain ⟨i0, hi, hz0, hz1, hz2⟩ := info_parts Try.infoInt
  have HL := Lib.hid h.1
  have HR := Lib.hid hr
  clear hr
  by_cases hok : psOk ps
  rotate_left
  · have HE := Lib.hid (apartI_no (ps := ps) (a := a) (fun hh => hok hh.1))
    have C := Lib.hid (vlanBridgeOf_no (c := c) h hn hl hok)
    clear hok
    go_enter Try.func28, Try.ntmps28
    go_wp2_with (fail)
    refine C.out.mono ?_
    rintro e w1 ⟨rfl, B1⟩
    go_wp2
    go_ret
    exact ⟨_, _, _, rfl, by rw [← HR.out, HE.out]; exact World.ownsRow_nil _ _ _ _, B1⟩
  have C := Lib.hid (vlanBridgeOf_yes (c := c) h hl hok)
  by_cases ha : 0 ≤ a ∧ a < (n : Int)
  rotate_left
  · have HE := Lib.hid (apartI_no (ps := ps) (a := a) (fun hh => ha (by have h1 := hh.2; have h2 := HL.out; omega)))
    have C1 := Lib.hid (fun W => isPort_no (a := a) (b := (n : Int)) W ha)
    clear hok ha
    go_enter Try.func28, Try.ntmps28
    go_wp2_with (fail)
    refine C.out.mono ?_
    rintro e w1 ⟨rfl, _, B1⟩
    go_wp2_with (fail)
    refine (C1.out _).mono ?_
    rintro e w' ⟨rfl, rfl⟩
    go_wp2
    go_ret
    exact ⟨_, _, _, rfl, by rw [← HR.out, HE.out]; exact World.ownsRow_nil _ _ _ _, B1⟩
  have C1 := Lib.hid (fun W => isPort_yes (a := a) (b := (n : Int)) W ha)
  have hn6 : n ≤ 6 := by have h1 := hok.2.2; have h2 := HL.out; omega
  have HOK := Lib.hid hok
  obtain ⟨a', rfl⟩ := Int.eq_ofNat_of_zero_le ha.1
  have hla : a' < n := by omega
  have HLA := Lib.hid (show a' < ps.length by have := HL.out; omega)
  clear ha hok
  go_enter Try.func28, Try.ntmps28
  go_wp2_with (fail)
  refine C.out.mono ?_
  rintro e w1 ⟨rfl, OB, B1⟩
  go_wp2_with (fail)
  refine (C1.out _).mono ?_
  rintro e w' ⟨rfl, rfl⟩
  have s1 := B1.size
  have hOB := OB.has
  go_wp2
  go_loopw [7, 25] (fun o i wr => ∃ (k q : Nat) (A' : Option Addr) (c' : Nat), k ≤ n ∧ i = .int .i64 (k : Int) ∧ o = .slice A' q c' ∧ q ≤ k ∧ Own wr w1.heap.size 3 A' q c' (ints .i64 (apartTo ps a' k)) ∧ Below w1.heap.size w1 wr) (fun _ i _ => n - (intOf i).toNat)
  case atStart => exact ⟨0, 0, _, _, Nat.zero_le _, rfl, rfl, Nat.le_refl _, World.ownsRow_nil _ _ _ _, Below.refl _ _⟩
  case round =>
    obtain ⟨k, j, A1, c1, hk, rfl, rfl, hj, O1, BW⟩ := hrel
    have hge := BW.size
    by_cases hlt : k < n
    · have hltB : decide ((k : Int) < (n : Int)) = true := by simp; omega
      have HLK := Lib.hid (show k < ps.length by have := HL.out; omega)
      have CS := Lib.hid (shared_r (c := n) (b := k) (hOB.bel BW) HOK.out hla hlt)
      have HZ := Lib.hid (shared_zero (dp_ok HOK.out HLA.out) (dp_ok HOK.out HLK.out))
      obtain ⟨R, hR⟩ : ∃ R, pset (dp ps a') &&& pset (dp ps k) = R := ⟨_, rfl⟩
      rw [hR] at CS HZ
      have HSELF := Lib.hid (self_meet (dp_ok HOK.out HLA.out))
      go_wp2_with (fail)
      refine CS.out.mono ?_
      rintro e w2 ⟨rfl, B2⟩
      have BW2 := BW.trans (B2.mono hge)
      have O2 := O1.bel B2
      have s2 := BW2.size
      by_cases hz : R = 0
      · have zB : ((R : Int) == 0) = true := by simp [hz]
        have zC : (R == 0) = true := by simp [hz]
        have HM := Lib.hid (HZ.out.1 hz)
        have HS := Lib.hid (apart_in' (ps := ps) (a := a') (k := k) (fun he => by subst he; exact HSELF.out HM.out) HM.out)
        clear hz hR
        go_wp2_with (at_builtin; refine wpList_apps _ rfl (.tmp 33) (.tmp 35) 23 rfl w1.heap.size 3 i0 (.int .i64 0) 8 Try.underlying23 hi hz0 hz1 hz2 rfl A1 j c1 _ rfl O2 1 1 #[.int .i64 (k : Int)] rfl rfl (by simp [Value.oneCell']) (by decide) (by omega) (by decide) s2 ?_; intro g4 c4 w4 O4 G4 B4 _)
        go_roundw
        case rel => exact ⟨k + 1, j + 1, _, _, by omega, by go_num, rfl, by omega, by rw [HS.out, ints_app]; exact O4, BW2.trans B4⟩
        case measure => simp [intOf]; omega
      · have zB : ((R : Int) == 0) = false := by simp [hz]
        have zC : (R == 0) = false := by simp [hz]
        have HS := Lib.hid (apart_out' (ps := ps) (a := a') (k := k) (fun he => hz (HZ.out.2 he)))
        clear hz hR
        go_wp2
        go_roundw
        case rel => exact ⟨k + 1, j, _, _, by omega, by go_num, rfl, by omega, by rw [HS.out]; exact O2, BW2⟩
        case measure => simp [intOf]; omega
    · have hltB : decide ((k : Int) < (n : Int)) = false := by simp; omega
      obtain rfl : k = n := by omega
      go_wp2
      go_ret
      refine ⟨_, _, _, rfl, ?_, bel_trans B1 BW⟩
      rw [← HR.out, apartI_yes HOK.out HLA.out, HL.out]
      exact O1.mono s1
end Go.Proofs.Ytiokieancjigeaa
