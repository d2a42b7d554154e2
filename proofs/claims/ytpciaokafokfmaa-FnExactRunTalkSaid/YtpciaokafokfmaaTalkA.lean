/-
  Chapter 9's functions of the model, the small ones: what is proved here is what TalkValid, WaitOf, SentBy and TurnsOf return, and that they write nothing that was there. Condition: lengths up to 2^24.
-/
import Derived.Test.YtpciaokafokfmaaMathTalk
import Derived.Test.YtpciaokafokfmaaPar
namespace Go.Proofs.Ytpciaokafokfmaa
open Go.RowKit

theorem lit_own (w : World) : Own (w.alloc (.cells #[] 3)) w.heap.size 3 (some ⟨w.heap.size, 0, none⟩) 0 0 (ints .i64 []) := World.ownsRow_lit w #[] 0 (Nat.le_refl _) (by unfold maxLen; omega) rfl
theorem lit_own' {w wr : World} (h : w.heap.size ≤ wr.heap.size) : Own (wr.alloc (.cells #[] 3)) w.heap.size 3 (some ⟨wr.heap.size, 0, none⟩) 0 0 (ints .i64 []) := (lit_own wr).mono h
theorem lit_below (w : World) : Below w.heap.size w (w.alloc (.cells #[] 3)) := (Below.refl _ _).alloc (Nat.le_refl _) _
theorem okQ_take {zs : List Int} {k : Nat} {z : Int} (h : ∀ f ∈ zs.take k, 0 ≤ f ∧ f ≤ 9) (hx : zs[k]? = some z) (hz : 0 ≤ z ∧ z ≤ 9) : ∀ f ∈ zs.take (k + 1), 0 ≤ f ∧ f ≤ 9 := by
  intro f hf
  rw [List.take_add_one, hx] at hf
  rcases List.mem_append.1 hf with hf | hf
  · exact h f hf
  · simp at hf; subst hf; exact hz
theorem okDs_take {zs : List Int} {k : Nat} {z : Int} (h : ∀ f ∈ zs.take k, 0 ≤ f ∧ f ≤ 1000) (hx : zs[k]? = some z) (hz : 0 ≤ z ∧ z ≤ 1000) : ∀ f ∈ zs.take (k + 1), 0 ≤ f ∧ f ≤ 1000 := by
  intro f hf
  rw [List.take_add_one, hx] at hf
  rcases List.mem_append.1 hf with hf | hf
  · exact h f hf
  · simp at hf; subst hf; exact hz
theorem talkOk_b {zs : List Int} {n : Nat} (h1 : okQ zs = true) (h2 : zs.length = n) : talkOk zs = decide ((n : Int) ≤ 6) := by
  unfold talkOk; rw [h1, h2, Bool.true_and]; apply decide_eq_decide.2; omega
theorem talkOk_q {zs : List Int} (h1 : okQ zs = false) : talkOk zs = false := by unfold talkOk; rw [h1]; rfl

set_option maxHeartbeats 1000000 in
theorem specTalkValid_b {A : Option Addr} {n c : Nat} {zs : List Int} {w : World} {b : Bool} (h : Has w A n (ints .i64 zs)) (hn : n ≤ 16777216) (hb : talkOk zs = b) :
    Calls Try.prog 22 #[.slice A n c] w fun e w' => e = .returned (.bool b) ∧ w = w' := by
  have HL := Lib.hid h.len
  have HB := Lib.hid hb
  clear hb
  go_enter Try.func22, Try.ntmps22
  go_wp2
  go_loop [3] (fun i => ∃ k : Nat, k ≤ n ∧ i = .int .i64 k ∧ Hid (∀ f ∈ zs.take k, 0 ≤ f ∧ f ≤ 9)) (fun i => n - (intOf i).toNat)
  case atStart =>
    have : Hid (∀ f ∈ zs.take 0, 0 ≤ f ∧ f ≤ 9) := fun f hf => by simp at hf
    exact ⟨0, Nat.zero_le _, rfl, this⟩
  case round =>
    obtain ⟨k, hk, rfl, HF⟩ := hrel
    by_cases hlt : k < n
    · have hltB : decide ((k : Int) < (n : Int)) = true := by simp; omega
      obtain ⟨b, o, z, rfl, hbl, hx, hc⟩ := h.at_ hlt
      by_cases hz : 0 ≤ z ∧ z ≤ 9
      · have HF2 := Lib.hid (okQ_take HF.out hx hz)
        have C := Lib.hid (l1In_yes z 0 9 w (by omega) (by omega))
        clear hx hz
        go_wp2_with (go_at_call 50; refine C.out.mono ?_; rintro e w' ⟨rfl, rfl⟩)
        go_round
        case rel => exact ⟨k + 1, by omega, by go_num, HF2⟩
        case measure => simp [intOf]; omega
      · have HE := Lib.hid (talkOk_q (okQ_no (List.mem_of_getElem? hx) hz))
        have C := Lib.hid (l1In_no z 0 9 w (by omega))
        clear hx hz
        go_wp2_with (go_at_call 50; refine C.out.mono ?_; rintro e w' ⟨rfl, rfl⟩)
        go_ret
        exact ⟨ret_bool (HE.out.symm.trans HB.out), rfl⟩
    · have hltB : decide ((k : Int) < (n : Int)) = false := by simp; omega
      obtain rfl : k = n := by omega
      have HE : Hid (talkOk zs = decide ((k : Int) ≤ 6)) := by
        have h1 := HF.out
        have h2 := HL.out
        rw [List.take_of_length_le (by omega)] at h1
        exact talkOk_b (okQ_iff.2 h1) h2
      by_cases h6 : k ≤ 6
      · have h6B : decide ((k : Int) ≤ 6) = true := by simp; omega
        rw [h6B] at HE
        go_wp2
        go_ret
        exact ⟨ret_bool (HE.out.symm.trans HB.out), rfl⟩
      · have h6B : decide ((k : Int) ≤ 6) = false := by simp; omega
        rw [h6B] at HE
        go_wp2
        go_ret
        exact ⟨ret_bool (HE.out.symm.trans HB.out), rfl⟩

theorem tmod_small {d m : Int} (hd : 0 ≤ d) : Int.tmod d m = d % m := Int.tmod_eq_emod_of_nonneg hd
set_option maxHeartbeats 2000000 in
theorem l9Wait_any (t d : Int) (w : World) (ht : 1 ≤ t ∧ t ≤ 9223372036854775807) (hd : 0 ≤ d ∧ d ≤ 9223372036854775807) :
    Calls Try.prog 54 #[.int .i64 t, .int .i64 d] w fun e w' => e = .returned (.int .i64 (waitP t d)) ∧ w = w' := by
  obtain ⟨m, hm⟩ : ∃ m, min t 5 = m := ⟨_, rfl⟩
  obtain ⟨r, hr⟩ : ∃ r, waitP t d = r := ⟨_, rfl⟩
  have h5 := min5 ht.1
  have hb := waitP_b (d := d) ht.1
  rw [hr] at hb
  have hr2 := hr
  unfold waitP at hr2
  rw [hm] at h5 hr2
  rw [hr]
  have hrW : IntKind.i64.wrap r = r := IntWalk.i64_in _ (by omega)
  have HH := Lib.hid hr
  clear hr
  rcases h5 with rfl | rfl | rfl | rfl | rfl <;>
  · simp at hr2
    have ht5 := tmod_small (m := 2) hd.1
    have ht6 := tmod_small (m := 4) hd.1
    have ht7 := tmod_small (m := 8) hd.1
    have ht8 := tmod_small (m := 16) hd.1
    have ht9 := tmod_small (m := 32) hd.1
    go_enter Try.func54, Try.ntmps54
    go_wp2
    go_ret
    exact ⟨rfl, rfl⟩
theorem specWaitOf_any (t d : Int) (w : World) (ht : t ≤ 9223372036854775807) (hd : d ≤ 9223372036854775807) :
    Calls Try.prog 25 #[.int .i64 t, .int .i64 d] w fun e w' => e = .returned (.int .i64 (waitI t d)) ∧ w = w' := by
  by_cases h1 : t < 1
  · have g1 : decide (t < 1) = true := by simp; omega
    rw [waitI_no (.inl h1)]
    go_enter Try.func25, Try.ntmps25
    go_wp2
    go_ret
    exact ⟨rfl, rfl⟩
  · have g1 : decide (t < 1) = false := by simp; omega
    by_cases h2 : 0 ≤ d ∧ d ≤ 1000
    · rw [waitI_yes (by omega) h2]
      have C := Lib.hid (l1In_yes d 0 1000 w h2.1 h2.2)
      have C2 := Lib.hid (l9Wait_any t d w (by omega) (by omega))
      clear h1 h2
      go_enter Try.func25, Try.ntmps25
      go_wp2_with (fail)
      refine C.out.mono ?_
      rintro e w' ⟨rfl, rfl⟩
      go_wp2_with (fail)
      refine C2.out.mono ?_
      rintro e w' ⟨rfl, rfl⟩
      go_wp2
      go_ret
      exact ⟨rfl, rfl⟩
    · rw [waitI_no (.inr h2)]
      have C := Lib.hid (l1In_no d 0 1000 w h2)
      clear h1 h2
      go_enter Try.func25, Try.ntmps25
      go_wp2_with (fail)
      refine C.out.mono ?_
      rintro e w' ⟨rfl, rfl⟩
      go_wp2
      go_ret
      exact ⟨rfl, rfl⟩

theorem sum_snoc (a : List Int) (x : Int) : (a ++ [x]).sum = a.sum + x := by simp
theorem sum_take_b {zs : List Int} {k : Nat} {B : Int} (h : ∀ x ∈ zs, 0 ≤ x ∧ x ≤ B) (hl : zs.length ≤ 6) (hB : 0 ≤ B) : 0 ≤ (zs.take k).sum ∧ (zs.take k).sum ≤ 6 * B := by
  have key : ∀ (l : List Int), (∀ x ∈ l, 0 ≤ x ∧ x ≤ B) → 0 ≤ l.sum ∧ l.sum ≤ l.length * B := by
    intro l
    induction l with
    | nil => intro _; simp
    | cons a r ih =>
      intro h
      have h1 := h a (by simp)
      have h2 := ih (fun x hx => h x (by simp [hx]))
      rw [List.sum_cons, List.length_cons]
      refine ⟨by omega, ?_⟩
      push_cast
      rw [Int.add_mul]; omega
  have h1 := key (zs.take k) (fun x hx => h x (List.mem_of_mem_take hx))
  refine ⟨h1.1, Int.le_trans h1.2 (Int.mul_le_mul_of_nonneg_right ?_ hB)⟩
  rw [List.length_take]; omega
set_option maxHeartbeats 1000000 in
theorem l9Sum_any {A : Option Addr} {n c : Nat} {zs : List Int} {w : World} (h : Has w A n (ints .i64 zs)) (hn : n ≤ 6) (hz : ∀ x ∈ zs, 0 ≤ x ∧ x ≤ 9) :
    Calls Try.prog 51 #[.slice A n c] w fun e w' => e = .returned (.int .i64 zs.sum) ∧ w = w' := by
  have hlen := h.len
  have HL := Lib.hid h.len
  have HS : Hid (∀ k, 0 ≤ (zs.take k).sum ∧ (zs.take k).sum ≤ 54) := fun k => by have := sum_take_b (k := k) hz (by omega) (by omega); omega
  clear hz hlen
  go_enter Try.func51, Try.ntmps51
  go_wp2
  go_loop [3, 4] (fun s i => ∃ k : Nat, k ≤ n ∧ i = .int .i64 k ∧ s = .int .i64 (zs.take k).sum) (fun _ i => n - (intOf i).toNat)
  case atStart => exact ⟨0, Nat.zero_le _, rfl, by simp⟩
  case round =>
    obtain ⟨k, hk, rfl, rfl⟩ := hrel
    by_cases hlt : k < n
    · have hltB : decide ((k : Int) < (n : Int)) = true := by simp; omega
      obtain ⟨b, o, z, rfl, hbl, hx, hc⟩ := h.at_ hlt
      have E1 := Lib.hid (show (zs.take k).sum + z = (zs.take (k + 1)).sum by rw [List.take_add_one, hx]; simp)
      have b1 := HS.out (k + 1)
      rw [← E1.out] at b1
      have W1 : IntKind.i64.wrap ((zs.take k).sum + z) = (zs.take k).sum + z := IntWalk.i64_in _ (by omega)
      clear hx b1
      generalize (zs.take k).sum = u at *
      go_wp2
      go_round
      case rel => exact ⟨k + 1, by omega, by go_num, by rw [← E1.out]⟩
      case measure => simp [intOf]; omega
    · have hltB : decide ((k : Int) < (n : Int)) = false := by simp; omega
      obtain rfl : k = n := by omega
      have e1 : zs.take k = zs := List.take_of_length_le (by rw [HL.out]; omega)
      rw [e1]
      go_wp2
      go_ret
      exact ⟨rfl, rfl⟩

set_option maxHeartbeats 2000000 in
theorem specTurnsOf_any {A : Option Addr} {n c : Nat} {zs : List Int} {hold : Int} {w : World} (h : Has w A n (ints .i64 zs)) (hn : n ≤ 16777216) :
    Calls Try.prog 32 #[.slice A n c, .int .i64 hold] w fun e w' => e = .returned (.int .i64 (turnsI zs hold)) ∧ w = w' := by
  have HL := Lib.hid h.len
  by_cases hb : talkOk zs = true
  rotate_left
  · have C := Lib.hid (specTalkValid_b (c := c) (b := false) h hn (by simpa using hb))
    have HT := Lib.hid (turnsI_no (qs := zs) (hold := hold) (by unfold turnsOk; rw [show talkOk zs = false by simpa using hb]; rfl))
    rw [HT.out]
    clear hb
    go_enter Try.func32, Try.ntmps32
    go_wp2_with (fail)
    refine C.out.mono ?_
    rintro e w' ⟨rfl, rfl⟩
    go_wp2
    go_ret
    exact ⟨rfl, rfl⟩
  have C := Lib.hid (specTalkValid_b (c := c) h hn hb)
  by_cases hh : 1 ≤ hold ∧ hold ≤ 9
  rotate_left
  · have C2 := Lib.hid (l1In_no hold 1 9 w hh)
    have HT := Lib.hid (turnsI_no (qs := zs) (hold := hold) (by
      cases ht : turnsOk zs hold with
      | false => rfl
      | true => exact absurd (turnsOk_iff.1 ht).2 hh))
    rw [HT.out]
    clear hb hh
    go_enter Try.func32, Try.ntmps32
    go_wp2_with (fail)
    refine C.out.mono ?_
    rintro e w' ⟨rfl, rfl⟩
    go_wp2_with (fail)
    refine C2.out.mono ?_
    rintro e w' ⟨rfl, rfl⟩
    go_wp2
    go_ret
    exact ⟨rfl, rfl⟩
  have C2 := Lib.hid (l1In_yes hold 1 9 w hh.1 hh.2)
  have HT := Lib.hid (turnsI_yes (qs := zs) (hold := hold) (turnsOk_iff.2 ⟨hb, hh⟩))
  have HQ := Lib.hid (talkOk_iff.1 hb).1
  rw [HT.out]
  obtain ⟨res, hres⟩ : ∃ res, ceilI (maxL zs) hold = res := ⟨_, rfl⟩
  have hm9 := maxL_le HQ.out
  have hm0 := maxL_nn zs
  have HR := Lib.hid hres
  have hrb := ceilI_b ⟨hm0, hm9⟩ hh
  rw [hres] at hrb ⊢
  have hrb2 : 0 ≤ res ∧ res ≤ 9 := ⟨hrb.1, hrb.2.1⟩
  clear hb hres hm9 hm0 hrb
  go_enter Try.func32, Try.ntmps32
  go_wp2_with (fail)
  refine C.out.mono ?_
  rintro e w' ⟨rfl, rfl⟩
  go_wp2_with (fail)
  refine C2.out.mono ?_
  rintro e w' ⟨rfl, rfl⟩
  go_wp2
  go_loop [5, 6] (fun s i => ∃ k : Nat, k ≤ n ∧ i = .int .i64 k ∧ s = .int .i64 (maxL (zs.take k))) (fun _ i => n - (intOf i).toNat)
  case atStart => exact ⟨0, Nat.zero_le _, rfl, rfl⟩
  case round =>
    obtain ⟨k, hk, rfl, rfl⟩ := hrel
    by_cases hlt : k < n
    · have hltB : decide ((k : Int) < (n : Int)) = true := by simp; omega
      obtain ⟨b, o, z, rfl, hbl, hx, hc⟩ := h.at_ hlt
      have E1 := Lib.hid (show max (maxL (zs.take k)) z = maxL (zs.take (k + 1)) by rw [List.take_add_one, hx]; exact (maxL_snoc _ _).symm)
      clear hx
      generalize maxL (zs.take k) = u at *
      go_wp2
      go_round
      case rel => exact ⟨k + 1, by omega, by go_num, by rw [← E1.out]⟩
      case measure => simp [intOf]; omega
    · have hltB : decide ((k : Int) < (n : Int)) = false := by simp; omega
      obtain rfl : k = n := by omega
      have e1 : zs.take k = zs := List.take_of_length_le (by rw [HL.out]; omega)
      rw [e1]
      have hm9 := maxL_le HQ.out
      have hm0 := maxL_nn zs
      have hr := HR.out
      unfold ceilI at hr
      generalize maxL zs = u at *
      have W1 : IntKind.i64.wrap (u + hold) = u + hold := IntWalk.i64_in _ (by omega)
      have W2 : IntKind.i64.wrap (u + hold - 1) = u + hold - 1 := IntWalk.i64_in _ (by omega)
      have hz0 : (hold == 0) = false := by simp; omega
      have hT : Int.tdiv (u + hold - 1) hold = res := by rw [Int.tdiv_eq_ediv_of_nonneg (by omega)]; exact hr
      have W3 : IntKind.i64.wrap res = res := IntWalk.i64_in _ (by omega)
      clear hr hm9 hm0
      go_wp2
      go_ret
      exact ⟨rfl, rfl⟩

theorem sent_step {zs : List Int} {k : Nat} {x y : Int} (hx : zs[k]? = some x) : (((zs.take (k + 1)).count y : Nat) : Int) = (((zs.take k).count y : Nat) : Int) + (if x = y then 1 else 0) := by
  rw [List.take_add_one, hx, List.count_append]
  by_cases h : x = y <;> simp [h]
set_option maxHeartbeats 4000000 in
theorem specSentBy_w {A : Option Addr} {n c : Nat} {zs : List Int} {m : Int} {w : World} (h : Has w A n (ints .i64 zs)) (hn : n ≤ 16777216) :
    Calls Try.prog 33 #[.slice A n c, .int .i64 m] w fun e w' => ∃ A' n' c', e = .returned (.slice A' n' c') ∧ Own w' w.heap.size 3 A' n' c' (ints .i64 (sentL zs m)) ∧ Below w.heap.size w w' := by
  obtain ⟨i0, hi, hz0, hz1, hz2⟩ := info_parts Try.infoInt
  have HL := Lib.hid h.len
  have B0 := lit_below w
  have O0 := lit_own w
  by_cases hm : 0 ≤ m ∧ m ≤ 6
  rotate_left
  · have C := Lib.hid (l1In_no m 0 6 (w.alloc (.cells #[] 3)) hm)
    have HE := Lib.hid (sentL_no (o := zs) hm)
    rw [HE.out]
    clear hm
    go_enter Try.func33, Try.ntmps33
    go_wp2_with (fail)
    refine C.out.mono ?_
    rintro e w' ⟨rfl, rfl⟩
    go_wp2
    go_ret
    exact ⟨_, _, _, rfl, O0, B0⟩
  have C := Lib.hid (l1In_yes m 0 6 (w.alloc (.cells #[] 3)) hm.1 hm.2)
  obtain ⟨M, rfl⟩ := Int.eq_ofNat_of_zero_le hm.1
  have hM : M ≤ 6 := by omega
  have HE := Lib.hid (sentL_yes (o := zs) hM)
  rw [HE.out]
  clear hm
  go_enter Try.func33, Try.ntmps33
  go_wp2_with (fail)
  refine C.out.mono ?_
  rintro e w' ⟨rfl, rfl⟩
  go_wp2
  go_loopw [5, 6] (fun v i wr => ∃ (k : Nat) (A' : Option Addr) (c' : Nat), k ≤ M ∧ i = .int .i64 (k : Int) ∧ v = .slice A' k c' ∧ Own wr w.heap.size 3 A' k c' (ints .i64 (sentP zs k)) ∧ Below w.heap.size w wr) (fun _ i _ => M - (intOf i).toNat)
  case atStart => exact ⟨0, _, _, Nat.zero_le _, rfl, rfl, O0, B0⟩
  case round =>
    obtain ⟨k, A1, c1, hk, rfl, rfl, O1, B1⟩ := hrel
    have hge := B1.size
    by_cases hlt : k < M
    · have hltB : decide ((k : Int) < (M : Int)) = true := by simp; omega
      have h1 := h.bel B1
      go_wp2
      go_loop [7, 8] (fun u i => ∃ j : Nat, j ≤ n ∧ i = .int .i64 j ∧ u = .int .i64 (((zs.take j).count (k : Int) : Nat) : Int)) (fun _ i => n - (intOf i).toNat)
      case atStart => exact ⟨0, Nat.zero_le _, rfl, by simp⟩
      case round =>
        obtain ⟨j, hj, rfl, rfl⟩ := hrel
        by_cases hjn : j < n
        · have hjB : decide ((j : Int) < (n : Int)) = true := by simp; omega
          obtain ⟨b, o, z, rfl, hbl, hx, hc⟩ := h1.at_ hjn
          have hs := sent_step (y := (k : Int)) hx
          have hcl : (zs.take j).count (k : Int) ≤ n := Nat.le_trans (List.count_le_length) (by rw [List.length_take]; omega)
          have HS := Lib.hid hs
          clear hx hs
          generalize (zs.take j).count (k : Int) = u at *
          by_cases hzk : z = (k : Int)
          · subst hzk
            go_wp2
            go_round
            case rel => exact ⟨j + 1, by omega, by go_num, by rw [HS.out]; simp⟩
            case measure => simp [intOf]; omega
          · have hzB : (z == (k : Int)) = false := by simp [hzk]
            have HZ := Lib.hid hzk
            clear hzk
            go_wp2
            go_round
            case rel => exact ⟨j + 1, by omega, by go_num, by rw [HS.out, if_neg HZ.out]; simp⟩
            case measure => simp [intOf]; omega
        · have hjB : decide ((j : Int) < (n : Int)) = false := by simp; omega
          obtain rfl : j = n := by omega
          have e1 : zs.take j = zs := List.take_of_length_le (by rw [HL.out]; omega)
          rw [e1]
          go_wp2_with (at_builtin; refine wpList_apps _ rfl (.tmp 33) (.tmp 35) 23 rfl w.heap.size 3 i0 (.int .i64 0) 8 Try.underlying23 hi hz0 hz1 hz2 rfl A1 k c1 _ rfl O1 1 1 #[.int .i64 ((zs.count (k : Int) : Nat) : Int)] rfl rfl (by simp [Value.oneCell']) (by decide) (by omega) (by decide) (by omega) ?_; intro g cap w4 O4 G4 B4 _)
          go_roundw
          case rel => exact ⟨k + 1, _, _, by omega, by go_num, rfl, by rw [sentP_succ, ints_app]; exact O4, B1.trans B4⟩
          case measure => simp [intOf]; omega
    · have hltB : decide ((k : Int) < (M : Int)) = false := by simp; omega
      obtain rfl : k = M := by omega
      go_wp2
      go_ret
      exact ⟨_, _, _, rfl, O1, B1⟩
end Go.Proofs.Ytpciaokafokfmaa
