/-
  Chapter 9's program, the small functions: what is proved here is what TalkValid, WaitOf, SentBy, TurnsOf and what they call return, and that they write nothing that was there. Condition: lengths up to 2^24.
-/
import Derived.Test.YtpciaokafokfmaaTalkR
namespace Go.Proofs.Ytpciaokafokfmaa
open Go.RowKit

theorem isDraw_any (n : Int) (w : World) : Calls Try.prog 53 #[.int .i64 n] w fun e w' => e = .returned (.bool (decide (0 ≤ n ∧ n ≤ 1000))) ∧ w = w' := by
  by_cases h1 : 0 ≤ n
  · have g1 : decide (n ≥ 0) = true := by simp; omega
    have g1' : decide (0 ≤ n) = true := by simp; omega
    by_cases h2 : n ≤ 1000
    · have g2 : decide (n ≤ 1000) = true := by simp; omega
      rw [show decide (0 ≤ n ∧ n ≤ 1000) = true by simp; omega]
      clear h1 h2
      go_enter Try.func53, Try.ntmps53
      go_wp2
      go_ret
      exact ⟨rfl, rfl⟩
    · have g2 : decide (n ≤ 1000) = false := by simp; omega
      rw [show decide (0 ≤ n ∧ n ≤ 1000) = false by simp; omega]
      clear h1 h2
      go_enter Try.func53, Try.ntmps53
      go_wp2
      go_ret
      exact ⟨rfl, rfl⟩
  · have g1 : decide (n ≥ 0) = false := by simp; omega
    have g1' : decide (0 ≤ n) = false := by simp; omega
    rw [show decide (0 ≤ n ∧ n ≤ 1000) = false by simp; omega]
    clear h1
    go_enter Try.func53, Try.ntmps53
    go_wp2
    go_ret
    exact ⟨rfl, rfl⟩
theorem isHold_any (n : Int) (w : World) : Calls Try.prog 55 #[.int .i64 n] w fun e w' => e = .returned (.bool (decide (1 ≤ n ∧ n ≤ 9))) ∧ w = w' := by
  by_cases h1 : 1 ≤ n
  · have g1 : decide (n ≥ 1) = true := by simp; omega
    have g1' : decide (1 ≤ n) = true := by simp; omega
    by_cases h2 : n ≤ 9
    · have g2 : decide (n ≤ 9) = true := by simp; omega
      rw [show decide (1 ≤ n ∧ n ≤ 9) = true by simp; omega]
      clear h1 h2
      go_enter Try.func55, Try.ntmps55
      go_wp2
      go_ret
      exact ⟨rfl, rfl⟩
    · have g2 : decide (n ≤ 9) = false := by simp; omega
      rw [show decide (1 ≤ n ∧ n ≤ 9) = false by simp; omega]
      clear h1 h2
      go_enter Try.func55, Try.ntmps55
      go_wp2
      go_ret
      exact ⟨rfl, rfl⟩
  · have g1 : decide (n ≥ 1) = false := by simp; omega
    have g1' : decide (1 ≤ n) = false := by simp; omega
    rw [show decide (1 ≤ n ∧ n ≤ 9) = false by simp; omega]
    clear h1
    go_enter Try.func55, Try.ntmps55
    go_wp2
    go_ret
    exact ⟨rfl, rfl⟩
theorem areSlots_any (n : Int) (w : World) : Calls Try.prog 46 #[.int .i64 n] w fun e w' => e = .returned (.bool (decide (0 ≤ n ∧ n ≤ 2000))) ∧ w = w' := by
  by_cases h1 : 0 ≤ n
  · have g1 : decide (n ≥ 0) = true := by simp; omega
    have g1' : decide (0 ≤ n) = true := by simp; omega
    by_cases h2 : n ≤ 2000
    · have g2 : decide (n ≤ 2000) = true := by simp; omega
      rw [show decide (0 ≤ n ∧ n ≤ 2000) = true by simp; omega]
      clear h1 h2
      go_enter Try.func46, Try.ntmps46
      go_wp2
      go_ret
      exact ⟨rfl, rfl⟩
    · have g2 : decide (n ≤ 2000) = false := by simp; omega
      rw [show decide (0 ≤ n ∧ n ≤ 2000) = false by simp; omega]
      clear h1 h2
      go_enter Try.func46, Try.ntmps46
      go_wp2
      go_ret
      exact ⟨rfl, rfl⟩
  · have g1 : decide (n ≥ 0) = false := by simp; omega
    have g1' : decide (0 ≤ n) = false := by simp; omega
    rw [show decide (0 ≤ n ∧ n ≤ 2000) = false by simp; omega]
    clear h1
    go_enter Try.func46, Try.ntmps46
    go_wp2
    go_ret
    exact ⟨rfl, rfl⟩
theorem isDraw_yes {n : Int} (w : World) (h : 0 ≤ n ∧ n ≤ 1000) : Calls Try.prog 53 #[.int .i64 n] w fun e w' => e = .returned (.bool true) ∧ w = w' := by have := isDraw_any n w; rwa [decide_eq_true h] at this
theorem isDraw_no {n : Int} (w : World) (h : ¬ (0 ≤ n ∧ n ≤ 1000)) : Calls Try.prog 53 #[.int .i64 n] w fun e w' => e = .returned (.bool false) ∧ w = w' := by have := isDraw_any n w; rwa [decide_eq_false h] at this
theorem isHold_yes {n : Int} (w : World) (h : 1 ≤ n ∧ n ≤ 9) : Calls Try.prog 55 #[.int .i64 n] w fun e w' => e = .returned (.bool true) ∧ w = w' := by have := isHold_any n w; rwa [decide_eq_true h] at this
theorem isHold_no {n : Int} (w : World) (h : ¬ (1 ≤ n ∧ n ≤ 9)) : Calls Try.prog 55 #[.int .i64 n] w fun e w' => e = .returned (.bool false) ∧ w = w' := by have := isHold_any n w; rwa [decide_eq_false h] at this
theorem areSlots_yes {n : Int} (w : World) (h : 0 ≤ n ∧ n ≤ 2000) : Calls Try.prog 46 #[.int .i64 n] w fun e w' => e = .returned (.bool true) ∧ w = w' := by have := areSlots_any n w; rwa [decide_eq_true h] at this
theorem areSlots_no {n : Int} (w : World) (h : ¬ (0 ≤ n ∧ n ≤ 2000)) : Calls Try.prog 46 #[.int .i64 n] w fun e w' => e = .returned (.bool false) ∧ w = w' := by have := areSlots_any n w; rwa [decide_eq_false h] at this

set_option maxHeartbeats 1000000 in
theorem implTalkValid_b {A : Option Addr} {n c : Nat} {zs : List Int} {w : World} {b : Bool} (h : Has w A n (ints .i64 zs)) (hn : n ≤ 16777216) (hb : talkOk zs = b) :
    Calls Try.prog 21 #[.slice A n c] w fun e w' => e = .returned (.bool b) ∧ w = w' := by
  have HL := Lib.hid h.len
  have HB := Lib.hid hb
  clear hb
  go_enter Try.func21, Try.ntmps21
  go_wp2
  go_loop [7] (fun i => ∃ k : Nat, k ≤ n ∧ i = .int .i64 k ∧ Hid (∀ f ∈ zs.take k, 0 ≤ f ∧ f ≤ 9)) (fun i => n - (intOf i).toNat)
  case atStart =>
    have : Hid (∀ f ∈ zs.take 0, 0 ≤ f ∧ f ≤ 9) := fun f hf => by simp at hf
    exact ⟨0, Nat.zero_le _, rfl, this⟩
  case round =>
    obtain ⟨k, hk, rfl, HF⟩ := hrel
    by_cases hlt : k < n
    · have hltB : decide ((k : Int) < (n : Int)) = true := by simp; omega
      obtain ⟨b, o, z, rfl, hbl, hx, hc⟩ := h.at_ hlt
      by_cases h0 : 0 ≤ z
      · have z0 : decide (z < 0) = false := by simp; omega
        by_cases h9 : z ≤ 9
        · have z9 : decide (z > 9) = false := by simp; omega
          have z9' : decide (9 < z) = false := by simp; omega
          have HF2 := Lib.hid (okQ_take HF.out hx ⟨h0, h9⟩)
          clear hx h0 h9
          go_wp2
          go_round
          case rel => exact ⟨k + 1, by omega, by go_num, HF2⟩
          case measure => simp [intOf]; omega
        · have z9 : decide (z > 9) = true := by simp; omega
          have z9' : decide (9 < z) = true := by simp; omega
          have HE := Lib.hid (talkOk_q (okQ_no (List.mem_of_getElem? hx) (by omega)))
          clear hx h0 h9
          go_wp2
          go_ret
          exact ⟨ret_bool (HE.out.symm.trans HB.out), rfl⟩
      · have z0 : decide (z < 0) = true := by simp; omega
        have HE := Lib.hid (talkOk_q (okQ_no (List.mem_of_getElem? hx) (by omega)))
        clear hx h0
        go_wp2
        go_ret
        exact ⟨ret_bool (HE.out.symm.trans HB.out), rfl⟩
    · have hltB : decide ((k : Int) < (n : Int)) = false := by simp; omega
      obtain rfl : k = n := by omega
      have HE : Hid (talkOk zs = decide ((k : Int) ≤ 6)) := by
        have h1 := HF.out
        have h2 := HL.out
        rw [List.take_of_length_le (by omega)] at h1
        exact talkOk_b (okQ_iff.2 h1) h2
      by_cases h6 : k ≤ 6
      · have h6B : decide ((k : Int) ≤ 6) = true := by simp; omega
        rw [h6B] at HE
        go_wp2
        go_ret
        exact ⟨ret_bool (HE.out.symm.trans HB.out), rfl⟩
      · have h6B : decide ((k : Int) ≤ 6) = false := by simp; omega
        rw [h6B] at HE
        go_wp2
        go_ret
        exact ⟨ret_bool (HE.out.symm.trans HB.out), rfl⟩

theorem drawsOk_b {zs : List Int} {n : Nat} (h1 : okDs zs = true) (h2 : zs.length = n) : (okDs zs && decide (zs.length ≤ 200)) = decide ((n : Int) ≤ 200) := by
  rw [h1, h2, Bool.true_and]; apply decide_eq_decide.2; omega
set_option maxHeartbeats 1000000 in
theorem areDraws_b {A : Option Addr} {n c : Nat} {zs : List Int} {w : World} {b : Bool} (h : Has w A n (ints .i64 zs)) (hn : n ≤ 16777216) (hb : (okDs zs && decide (zs.length ≤ 200)) = b) :
    Calls Try.prog 45 #[.slice A n c] w fun e w' => e = .returned (.bool b) ∧ w = w' := by
  have HL := Lib.hid h.len
  have HB := Lib.hid hb
  clear hb
  go_enter Try.func45, Try.ntmps45
  go_wp2
  go_loop [7] (fun i => ∃ k : Nat, k ≤ n ∧ i = .int .i64 k ∧ Hid (∀ f ∈ zs.take k, 0 ≤ f ∧ f ≤ 1000)) (fun i => n - (intOf i).toNat)
  case atStart =>
    have : Hid (∀ f ∈ zs.take 0, 0 ≤ f ∧ f ≤ 1000) := fun f hf => by simp at hf
    exact ⟨0, Nat.zero_le _, rfl, this⟩
  case round =>
    obtain ⟨k, hk, rfl, HF⟩ := hrel
    by_cases hlt : k < n
    · have hltB : decide ((k : Int) < (n : Int)) = true := by simp; omega
      obtain ⟨b, o, z, rfl, hbl, hx, hc⟩ := h.at_ hlt
      by_cases hz : 0 ≤ z ∧ z ≤ 1000
      · have HF2 := Lib.hid (okDs_take HF.out hx hz)
        have C := Lib.hid (isDraw_yes w hz)
        clear hx hz
        go_wp2_with (go_at_call 53; refine C.out.mono ?_; rintro e w' ⟨rfl, rfl⟩)
        go_round
        case rel => exact ⟨k + 1, by omega, by go_num, HF2⟩
        case measure => simp [intOf]; omega
      · have HE := Lib.hid (show (okDs zs && decide (zs.length ≤ 200)) = false by rw [okDs_no (List.mem_of_getElem? hx) hz]; rfl)
        have C := Lib.hid (isDraw_no w hz)
        clear hx hz
        go_wp2_with (go_at_call 53; refine C.out.mono ?_; rintro e w' ⟨rfl, rfl⟩)
        go_ret
        exact ⟨ret_bool (HE.out.symm.trans HB.out), rfl⟩
    · have hltB : decide ((k : Int) < (n : Int)) = false := by simp; omega
      obtain rfl : k = n := by omega
      have HE : Hid ((okDs zs && decide (zs.length ≤ 200)) = decide ((k : Int) ≤ 200)) := by
        have h1 := HF.out
        have h2 := HL.out
        rw [List.take_of_length_le (by omega)] at h1
        exact drawsOk_b (okDs_iff.2 h1) h2
      by_cases h6 : k ≤ 200
      · have h6B : decide ((k : Int) ≤ 200) = true := by simp; omega
        rw [h6B] at HE
        go_wp2
        go_ret
        exact ⟨ret_bool (HE.out.symm.trans HB.out), rfl⟩
      · have h6B : decide ((k : Int) ≤ 200) = false := by simp; omega
        rw [h6B] at HE
        go_wp2
        go_ret
        exact ⟨ret_bool (HE.out.symm.trans HB.out), rfl⟩

set_option maxHeartbeats 2000000 in
theorem implWaitOf_any (t d : Int) (w : World) (ht : t ≤ 9223372036854775807) :
    Calls Try.prog 24 #[.int .i64 t, .int .i64 d] w fun e w' => e = .returned (.int .i64 (waitI t d)) ∧ w = w' := by
  by_cases h1 : t < 1
  · have g1 : decide (t < 1) = true := by simp; omega
    rw [waitI_no (.inl h1)]
    go_enter Try.func24, Try.ntmps24
    go_wp2
    go_ret
    exact ⟨rfl, rfl⟩
  · have g1 : decide (t < 1) = false := by simp; omega
    by_cases h2 : 0 ≤ d ∧ d ≤ 1000
    · rw [waitI_yes (by omega) h2]
      have C := Lib.hid (isDraw_yes w h2)
      obtain ⟨m, hm⟩ : ∃ m, min t 5 = m := ⟨_, rfl⟩
      obtain ⟨r, hr⟩ : ∃ r, waitP t d = r := ⟨_, rfl⟩
      have h5 := min5 (t := t) (by omega)
      have hb := waitP_b (t := t) (d := d) (by omega)
      rw [hr] at hb
      have hr2 := hr
      unfold waitP at hr2
      rw [hm] at h5 hr2
      rw [hr]
      have hrW : IntKind.i64.wrap r = r := IntWalk.i64_in _ (by omega)
      have HH := Lib.hid hr
      have hd0 := h2.1
      clear hr h1 h2
      rcases h5 with rfl | rfl | rfl | rfl | rfl <;>
      · simp at hr2
        have ht5 := tmod_small (m := 2) hd0
        have ht6 := tmod_small (m := 4) hd0
        have ht7 := tmod_small (m := 8) hd0
        have ht8 := tmod_small (m := 16) hd0
        have ht9 := tmod_small (m := 32) hd0
        clear hd0
        go_enter Try.func24, Try.ntmps24
        go_wp2_with (fail)
        refine C.out.mono ?_
        rintro e w' ⟨rfl, rfl⟩
        go_wp2
        go_ret
        exact ⟨rfl, rfl⟩
    · rw [waitI_no (.inr h2)]
      have C := Lib.hid (isDraw_no w h2)
      clear h1 h2
      go_enter Try.func24, Try.ntmps24
      go_wp2_with (fail)
      refine C.out.mono ?_
      rintro e w' ⟨rfl, rfl⟩
      go_wp2
      go_ret
      exact ⟨rfl, rfl⟩

set_option maxHeartbeats 2000000 in
theorem implTurnsOf_any {A : Option Addr} {n c : Nat} {zs : List Int} {hold : Int} {w : World} (h : Has w A n (ints .i64 zs)) (hn : n ≤ 16777216) :
    Calls Try.prog 30 #[.slice A n c, .int .i64 hold] w fun e w' => e = .returned (.int .i64 (turnsI zs hold)) ∧ w = w' := by
  have HL := Lib.hid h.len
  by_cases hb : talkOk zs = true
  rotate_left
  · have C := Lib.hid (implTalkValid_b (c := c) (b := false) h hn (by simpa using hb))
    have HT := Lib.hid (turnsI_no (qs := zs) (hold := hold) (by unfold turnsOk; rw [show talkOk zs = false by simpa using hb]; rfl))
    rw [HT.out]
    clear hb
    go_enter Try.func30, Try.ntmps30
    go_wp2_with (fail)
    refine C.out.mono ?_
    rintro e w' ⟨rfl, rfl⟩
    go_wp2
    go_ret
    exact ⟨rfl, rfl⟩
  have C := Lib.hid (implTalkValid_b (c := c) h hn hb)
  by_cases hh : 1 ≤ hold ∧ hold ≤ 9
  rotate_left
  · have C2 := Lib.hid (isHold_no w hh)
    have HT := Lib.hid (turnsI_no (qs := zs) (hold := hold) (by
      cases ht : turnsOk zs hold with
      | false => rfl
      | true => exact absurd (turnsOk_iff.1 ht).2 hh))
    rw [HT.out]
    clear hb hh
    go_enter Try.func30, Try.ntmps30
    go_wp2_with (fail)
    refine C.out.mono ?_
    rintro e w' ⟨rfl, rfl⟩
    go_wp2_with (fail)
    refine C2.out.mono ?_
    rintro e w' ⟨rfl, rfl⟩
    go_wp2
    go_ret
    exact ⟨rfl, rfl⟩
  have C2 := Lib.hid (isHold_yes w hh)
  have HT := Lib.hid (turnsI_yes (qs := zs) (hold := hold) (turnsOk_iff.2 ⟨hb, hh⟩))
  have HQ := Lib.hid (okQ_iff.1 (talkOk_iff.1 hb).1)
  have hz0 : (hold == 0) = false := by simp; omega
  rw [HT.out]
  have HH := Lib.hid hh
  clear hb
  go_enter Try.func30, Try.ntmps30
  go_wp2_with (fail)
  refine C.out.mono ?_
  rintro e w' ⟨rfl, rfl⟩
  go_wp2_with (fail)
  refine C2.out.mono ?_
  rintro e w' ⟨rfl, rfl⟩
  go_wp2
  go_loop [5, 18] (fun s i => ∃ k : Nat, k ≤ n ∧ i = .int .i64 k ∧ s = .int .i64 (ceilI (maxL (zs.take k)) hold)) (fun _ i => n - (intOf i).toNat)
  case atStart => exact ⟨0, Nat.zero_le _, rfl, by rw [List.take_zero, maxL_nil, ceilI_zero HH.out]⟩
  case round =>
    obtain ⟨k, hk, rfl, rfl⟩ := hrel
    by_cases hlt : k < n
    · have hltB : decide ((k : Int) < (n : Int)) = true := by simp; omega
      obtain ⟨b, o, z, rfl, hbl, hx, hc⟩ := h.at_ hlt
      have hz9 := HQ.out z (List.mem_of_getElem? hx)
      have E1 := Lib.hid (show max (ceilI (maxL (zs.take k)) hold) (ceilI z hold) = ceilI (maxL (zs.take (k + 1))) hold by rw [← ceilI_max HH.out, List.take_add_one, hx]; exact congrArg (fun x => ceilI x hold) (maxL_snoc _ _).symm)
      have W1 : IntKind.i64.wrap (z + hold) = z + hold := IntWalk.i64_in _ (by omega)
      have W2 : IntKind.i64.wrap (z + hold - 1) = z + hold - 1 := IntWalk.i64_in _ (by omega)
      obtain ⟨cz, hcz⟩ : ∃ cz, ceilI z hold = cz := ⟨_, rfl⟩
      have hT : Int.tdiv (z + hold - 1) hold = cz := by rw [Int.tdiv_eq_ediv_of_nonneg (by omega)]; exact hcz
      have hcb := ceilI_b hz9 HH.out
      rw [hcz] at hcb E1
      have W3 : IntKind.i64.wrap cz = cz := IntWalk.i64_in _ (by omega)
      clear hx hcz hcb hz9
      generalize ceilI (maxL (zs.take k)) hold = u at *
      go_wp2
      go_round
      case rel => exact ⟨k + 1, by omega, by go_num, by rw [← E1.out]⟩
      case measure => simp [intOf]; omega
    · have hltB : decide ((k : Int) < (n : Int)) = false := by simp; omega
      obtain rfl : k = n := by omega
      have e1 : zs.take k = zs := List.take_of_length_le (by rw [HL.out]; omega)
      rw [e1]
      go_wp2
      go_ret
      exact ⟨rfl, rfl⟩

theorem zeros_ints9 (k : Nat) : (madeCells (Value.cells (.int .i64 0)) (k * 1)).toList = ints .i64 (List.replicate k 0) := by
  rw [Nat.mul_one, show Value.cells (.int .i64 0) = #[.int .i64 0] from rfl]
  simp only [ints, List.map_replicate]
  exact toList_madeCells_one _ _
set_option maxHeartbeats 4000000 in
theorem implSentBy_w {A : Option Addr} {n c : Nat} {zs : List Int} {m : Int} {w : World} (h : Has w A n (ints .i64 zs)) (hn : n ≤ 16777216) :
    Calls Try.prog 20 #[.slice A n c, .int .i64 m] w fun e w' => ∃ A' n' c', e = .returned (.slice A' n' c') ∧ Own w' w.heap.size 3 A' n' c' (ints .i64 (sentL zs m)) ∧ Below w.heap.size w w' := by
  obtain ⟨i0, hi, hz0, hz1, hz2⟩ := info_parts Try.infoInt
  have HL := Lib.hid h.len
  by_cases hm0 : 0 ≤ m
  rotate_left
  · have g1 : decide (m < 0) = true := by simp; omega
    have HE := Lib.hid (sentL_no (o := zs) (n := m) (by omega))
    rw [HE.out]
    clear hm0
    go_enter Try.func20, Try.ntmps20
    go_wp2
    go_ret
    exact ⟨_, _, _, rfl, World.ownsRow_nil _ _ _ _, Below.refl _ _⟩
  by_cases hm6 : m ≤ 6
  rotate_left
  · have g1 : decide (m < 0) = false := by simp; omega
    have g2 : decide (m > 6) = true := by simp; omega
    have g3 : decide (6 < m) = true := by simp; omega
    have HE := Lib.hid (sentL_no (o := zs) (n := m) (by omega))
    rw [HE.out]
    clear hm0 hm6
    go_enter Try.func20, Try.ntmps20
    go_wp2
    go_ret
    exact ⟨_, _, _, rfl, World.ownsRow_nil _ _ _ _, Below.refl _ _⟩
  obtain ⟨M, rfl⟩ := Int.eq_ofNat_of_zero_le hm0
  have hM : M ≤ 6 := by omega
  have g1 : decide ((M : Int) < 0) = false := by simp
  have g2 : decide ((M : Int) > 6) = false := by simp; omega
  have g3 : decide (6 < (M : Int)) = false := by simp; omega
  have g4 : decide (6 < M) = false := by simp; omega
  have HE := Lib.hid (sentL_yes (o := zs) hM)
  rw [HE.out]
  clear hm0 hm6
  go_enter Try.func20, Try.ntmps20
  go_wp2_with (at_make; refine wpList_make_full _ rfl _ _ 23 rfl w.heap.size 3 i0 (.int .i64 0) 1 Try.underlying23 hi hz0 hz1 .i64 .i64 _ _ M rfl rfl (by omega) (by omega) (by rw [hz2]; omega) (by unfold maxLen; omega) (Nat.le_refl _) ?_; intro w1 hown hgrow; rw [zeros_ints9] at hown; have O1 : Own w1 w.heap.size 3 (some ⟨w.heap.size, 0, none⟩) M M (ints .i64 (List.replicate M 0)) := hown; have B1 : Below w.heap.size w w1 := below_of_grown hgrow (Nat.le_refl _) (fun k hk => by cases hk); clear hown hgrow)
  rw [← sentP_nil] at O1
  go_loopw [18] (fun i wr => ∃ j : Nat, j ≤ n ∧ i = .int .i64 (j : Int) ∧ Own wr w.heap.size 3 (some ⟨w.heap.size, 0, none⟩) M M (ints .i64 (sentP (zs.take j) M)) ∧ Below w.heap.size w wr) (fun i _ => n - (intOf i).toNat)
  case atStart => exact ⟨0, Nat.zero_le _, rfl, O1, B1⟩
  case round =>
    obtain ⟨j, hj, rfl, O2, B2⟩ := hrel
    by_cases hjn : j < n
    rotate_left
    · have hjB : decide ((j : Int) < (n : Int)) = false := by simp; omega
      obtain rfl : j = n := by omega
      have e1 : zs.take j = zs := List.take_of_length_le (by rw [HL.out]; omega)
      rw [e1] at O2
      go_wp2
      go_ret
      exact ⟨_, _, _, rfl, O2, B2⟩
    have hjB : decide ((j : Int) < (n : Int)) = true := by simp; omega
    have hjN : decide (j < n) = true := by simp; omega
    have h1 := h.bel B2
    obtain ⟨b, o, z, rfl, hbl, hx, hc⟩ := h1.at_ hjn
    have HT := Lib.hid (show zs.take (j + 1) = zs.take j ++ [z] by rw [List.take_add_one, hx]; rfl)
    have jW : IntKind.i64.wrap ((j : Int) + 1) = ((j + 1 : Nat) : Int) := by rw [IntWalk.i64_in _ (by omega)]; omega
    by_cases hz : 0 ≤ z ∧ z < (M : Int)
    · obtain ⟨s, rfl⟩ := Int.eq_ofNat_of_zero_le hz.1
      have hsM : s < M := by omega
      have p1 : decide ((s : Int) ≥ 0) = true := by simp
      have p2 : decide ((s : Int) < (M : Int)) = true := by simp; omega
      have p3 : decide (s < M) = true := by simp; omega
      have b1 : (s : Int) < (M : Int) := by omega
      obtain ⟨u, hu, hd, hf⟩ := O2.at_ hsM
      rw [ints_at _ _ _ (by rw [sentP_len]; exact hsM)] at hu
      injection hu with hu
      subst hu
      have hcl : (zs.take j).count (s : Int) ≤ n := Nat.le_trans (List.count_le_length) (by rw [List.length_take]; omega)
      have hv : (sentP (zs.take j) M).getD s 0 = (((zs.take j).count (s : Int) : Nat) : Int) := by rw [List.getD_eq_getElem?_getD, sentP_at hsM]; rfl
      rw [hv] at hd
      obtain ⟨v, hvv⟩ : ∃ v, (zs.take j).count (s : Int) = v := ⟨_, rfl⟩
      rw [hvv] at hd hv hcl
      have vW : IntKind.i64.wrap ((v : Int) + 1) = ((v + 1 : Nat) : Int) := by rw [IntWalk.i64_in _ (by omega)]; omega
      have O3 := O2.set_ s (.int .i64 ((v + 1 : Nat) : Int))
      rw [ints_set] at O3
      have HS := Lib.hid (show sentP (zs.take (j + 1)) M = (sentP (zs.take j) M).set s ((v + 1 : Nat) : Int) by
        rw [HT.out, sentP_in rfl hsM]
        congr 1
        show gq _ _ + 1 = _
        have : gq (sentP (zs.take j) M) s = (v : Int) := hv
        rw [this]; omega)
      clear hx hz hvv hv
      go_wp2
      go_roundw
      case rel => exact ⟨j + 1, by omega, by simp, by rw [HS.out]; simpa using O3, B2.setCell (p := ⟨w.heap.size, s, none⟩) (Nat.le_refl _) _⟩
      case measure => have := of_decide_eq_true hjN; simp [intOf]; omega
    · have HS := Lib.hid (show sentP (zs.take (j + 1)) M = sentP (zs.take j) M by rw [HT.out, sentP_out hz])
      by_cases hz0' : 0 ≤ z
      · have p1 : decide (z ≥ 0) = true := by simp; omega
        have p1' : decide (0 ≤ z) = true := by simp; omega
        have p2 : decide (z < (M : Int)) = false := by simp; omega
        clear hx hz hz0'
        go_wp2
        go_roundw
        case rel => exact ⟨j + 1, by omega, by simp, by rw [HS.out]; exact O2, B2⟩
        case measure => have := of_decide_eq_true hjN; simp [intOf]; omega
      · have p1 : decide (z ≥ 0) = false := by simp; omega
        have p1' : decide (0 ≤ z) = false := by simp; omega
        clear hx hz hz0'
        go_wp2
        go_roundw
        case rel => exact ⟨j + 1, by omega, by simp, by rw [HS.out]; exact O2, B2⟩
        case measure => have := of_decide_eq_true hjN; simp [intOf]; omega
end Go.Proofs.Ytpciaokafokfmaa
