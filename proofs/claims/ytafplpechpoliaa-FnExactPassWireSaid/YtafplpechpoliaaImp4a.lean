/-
  Chapter 4's plain functions of the program: what is proved here is what they return, and that they write nothing that was there. Condition: lengths up to 2^24.
-/
import Derived.Test.YtafplpechpoliaaFatesB
import Derived.Lib.SliceRun
namespace Go.Proofs.Ytafplpechpoliaa
open Go.RowKit

set_option maxHeartbeats 1000000 in
theorem implFatesValid_w {A : Option Addr} {n c : Nat} {fs : List Int} {w : World} (h : Has w A n (ints .i64 fs)) (hn : n ≤ 16777216) :
    Calls Try.prog 20 #[.slice A n c] w fun e w' => e = .returned (.bool (decide (fOk fs))) ∧ w = w' := by
  have HL := Lib.hid h.len
  by_cases h2 : n ≤ 200
  · have h2B : decide ((n : Int) > 200) = false := by simp; omega
    go_enter Try.func20, Try.ntmps20
    go_wp2
    go_loop [10] (fun i => ∃ k : Nat, k ≤ n ∧ i = .int .i64 k ∧ Hid (∀ f ∈ fs.take k, 0 ≤ f ∧ f ≤ 4)) (fun i => n - (intOf i).toNat)
    case atStart =>
      have : Hid (∀ f ∈ fs.take 0, 0 ≤ f ∧ f ≤ 4) := fun f hf => by simp at hf
      exact ⟨0, Nat.zero_le _, rfl, this⟩
    case round =>
      obtain ⟨k, hk, rfl, HF⟩ := hrel
      by_cases hlt : k < n
      · have hltB : decide ((k : Int) < (n : Int)) = true := by simp; omega
        obtain ⟨b, o, z, rfl, hbl, hx, hc⟩ := h.at_ hlt
        by_cases h0 : z < 0
        · have h0B : decide (z < 0) = true := by simp; omega
          have HB := Lib.hid (fOk_bad hx (by omega))
          clear hx h0
          go_wp2
          go_ret
          exact ⟨ret_bool (by rw [decide_eq_false HB.out]), rfl⟩
        · have h0B : decide (z < 0) = false := by simp; omega
          by_cases h4 : z > 4
          · have h4B : decide (z > 4) = true := by simp; omega
            have h4C : decide (4 < z) = true := by simp; omega
            have HB := Lib.hid (fOk_bad hx (by omega))
            clear hx h0 h4
            go_wp2
            go_ret
            exact ⟨ret_bool (by rw [decide_eq_false HB.out]), rfl⟩
          · have h4B : decide (z > 4) = false := by simp; omega
            have h4C : decide (4 < z) = false := by simp; omega
            have HF2 : Hid (∀ f ∈ fs.take (k + 1), 0 ≤ f ∧ f ≤ 4) := take_all (p := fun f => 0 ≤ f ∧ f ≤ 4) HF.out hx (by omega)
            clear hx h0 h4
            go_wp2
            go_round
            case rel => exact ⟨k + 1, by omega, by go_num, HF2⟩
            case measure => simp [intOf]; omega
      · have hltB : decide ((k : Int) < (n : Int)) = false := by simp; omega
        obtain rfl : k = n := by omega
        have HE : Hid (fOk fs) := by
          have h1 := HF.out
          have h2 := HL.out
          rw [List.take_of_length_le (by omega)] at h1
          exact (⟨h1, by omega⟩ : fOk fs)
        go_wp2
        go_ret
        exact ⟨ret_bool (by rw [decide_eq_true HE.out]), rfl⟩
  · have h2B : decide ((n : Int) > 200) = true := by simp; omega
    have HE : Hid (¬ fOk fs) := fun hg => by have h3 := HL.out; have := hg.2; omega
    go_enter Try.func20, Try.ntmps20
    go_wp2
    go_ret
    exact ⟨ret_bool (by rw [decide_eq_false HE.out]), rfl⟩
theorem implFatesValid_any {A : Option Addr} {n c : Nat} {fs : List Int} {w : World} (h : Has w A n (ints .i64 fs)) (_ : I64s fs) (hn : n ≤ 16777216) (_ : n ≤ c) :
    Calls Try.prog 20 #[.slice A n c] w fun e w' => e = .returned (.bool (decide (fOk fs))) ∧ Below w.heap.size w w' :=
  (implFatesValid_w h hn).mono fun _ _ hh => ⟨hh.1, by rw [← hh.2]; exact Below.refl _ _⟩

theorem fateAt_any {A : Option Addr} {n c : Nat} {fs : List Int} {w : World} (k : Nat) (h : Has w A n (ints .i64 fs)) (_ : n ≤ 16777216) :
    Calls Try.prog 51 #[.slice A n c, .int .i64 (k : Int)] w fun e w' => e = .returned (.int .i64 (fateN fs k)) ∧ w = w' := by
  have hl := h.len
  by_cases hlt : k < n
  · have hltB : decide ((n : Int) ≤ (k : Int)) = false := by simp; omega
    have hltC : decide ((k : Int) ≥ (n : Int)) = false := by simp; omega
    obtain ⟨b, o, z, rfl, hbl, hx, hc⟩ := h.at_ hlt
    have HZ := Lib.hid (fateN_in fs k z hx)
    clear hx
    go_enter Try.func51, Try.ntmps51
    go_wp2
    go_ret
    exact ⟨ret_int HZ.out.symm, rfl⟩
  · have hltB : decide ((n : Int) ≤ (k : Int)) = true := by simp; omega
    have hltC : decide ((k : Int) ≥ (n : Int)) = true := by simp; omega
    have HZ := Lib.hid (fateN_past hl hlt)
    go_enter Try.func51, Try.ntmps51
    go_wp2
    go_ret
    exact ⟨ret_int HZ.out.symm, rfl⟩

set_option maxHeartbeats 1000000 in
theorem implFateOf_w {A : Option Addr} {n c : Nat} {fs : List Int} {i : Int} {w : World} (h : Has w A n (ints .i64 fs)) (hn : n ≤ 16777216) (hi : -9223372036854775808 ≤ i ∧ i ≤ 9223372036854775807) :
    Calls Try.prog 22 #[.slice A n c, .int .i64 i] w fun e w' => e = .returned (.int .i64 (fateI fs i)) ∧ w = w' := by
  by_cases hg : fOk fs
  · have C := Lib.hid ((implFatesValid_w (c := c) h hn).mono fun e w' (hh : e = .returned (.bool (decide (fOk fs))) ∧ w = w') => (⟨by rw [hh.1, decide_eq_true hg], hh.2⟩ : e = .returned (.bool true) ∧ w = w'))
    by_cases h0 : 0 ≤ i
    · obtain ⟨k, rfl⟩ := Int.eq_ofNat_of_zero_le h0
      have h0B : decide ((k : Int) < 0) = false := by simp
      have HE := Lib.hid (fateI_yes hg k)
      have C2 := Lib.hid (fateAt_any (c := c) k h hn)
      clear h0 hg
      go_enter Try.func22, Try.ntmps22
      go_wp2_with (first | (go_at_call 20; refine C.out.mono ?_; rintro e w' ⟨rfl, rfl⟩) | (go_at_call 51; refine C2.out.mono ?_; rintro e w' ⟨rfl, rfl⟩))
      go_ret
      exact ⟨ret_int HE.out.symm, rfl⟩
    · have h0B : decide (i < 0) = true := by simp; omega
      have HE := Lib.hid (show fateI fs i = -1 by unfold fateI; rw [if_neg (fun hh => h0 hh.2)])
      clear h0 hg
      go_enter Try.func22, Try.ntmps22
      go_wp2_with (go_at_call 20; refine C.out.mono ?_; rintro e w' ⟨rfl, rfl⟩)
      go_ret
      exact ⟨ret_int HE.out.symm, rfl⟩
  · have C := Lib.hid ((implFatesValid_w (c := c) h hn).mono fun e w' (hh : e = .returned (.bool (decide (fOk fs))) ∧ w = w') => (⟨by rw [hh.1, decide_eq_false hg], hh.2⟩ : e = .returned (.bool false) ∧ w = w'))
    have HE := Lib.hid (show fateI fs i = -1 by unfold fateI; rw [if_neg (fun hh => hg hh.1)])
    clear hg
    go_enter Try.func22, Try.ntmps22
    go_wp2_with (go_at_call 20; refine C.out.mono ?_; rintro e w' ⟨rfl, rfl⟩)
    go_ret
    exact ⟨ret_int HE.out.symm, rfl⟩
theorem implFateOf_any {A : Option Addr} {n c : Nat} {fs : List Int} {i : Int} {w : World} (h : Has w A n (ints .i64 fs)) (_ : I64s fs) (hn : n ≤ 16777216) (_ : n ≤ c) (hi : -9223372036854775808 ≤ i ∧ i ≤ 9223372036854775807) :
    Calls Try.prog 22 #[.slice A n c, .int .i64 i] w fun e w' => e = .returned (.int .i64 (fateI fs i)) ∧ Below w.heap.size w w' :=
  (implFateOf_w h hn hi).mono fun _ _ hh => ⟨hh.1, by rw [← hh.2]; exact Below.refl _ _⟩

set_option maxHeartbeats 1000000 in
theorem canSend_any {A : Option Addr} {n c : Nat} {fs : List Int} {i : Int} {w : World} (h : Has w A n (ints .i64 fs)) (hn : n ≤ 16777216) (hi : -9223372036854775808 ≤ i ∧ i ≤ 9223372036854775807) :
    Calls Try.prog 50 #[.slice A n c, .int .i64 i] w fun e w' => e = .returned (.bool (decide (fOk fs ∧ 0 ≤ i ∧ i ≤ 60))) ∧ w = w' := by
  have C := Lib.hid (implFatesValid_w (c := c) h hn)
  by_cases hg : fOk fs
  · rw [decide_eq_true hg] at C
    by_cases h0 : 0 ≤ i
    · have h0B : decide (i ≥ 0) = true := by simp; omega
      have h0C : decide (0 ≤ i) = true := by simp; omega
      by_cases h6 : i ≤ 60
      · have h6B : decide (i ≤ 60) = true := by simp; omega
        have HE := Lib.hid (show fOk fs ∧ 0 ≤ i ∧ i ≤ 60 from ⟨hg, h0, h6⟩)
        clear hg h0 h6
        go_enter Try.func50, Try.ntmps50
        go_wp2_with (go_at_call 20; refine C.out.mono ?_; rintro e w' ⟨rfl, rfl⟩)
        go_ret
        exact ⟨ret_bool (by rw [decide_eq_true HE.out]), rfl⟩
      · have h6B : decide (i ≤ 60) = false := by simp; omega
        have HE := Lib.hid (show ¬ (fOk fs ∧ 0 ≤ i ∧ i ≤ 60) from fun hh => h6 hh.2.2)
        clear hg h0 h6
        go_enter Try.func50, Try.ntmps50
        go_wp2_with (go_at_call 20; refine C.out.mono ?_; rintro e w' ⟨rfl, rfl⟩)
        go_ret
        exact ⟨ret_bool (by rw [decide_eq_false HE.out]), rfl⟩
    · have h0B : decide (i ≥ 0) = false := by simp; omega
      have h0C : decide (0 ≤ i) = false := by simp; omega
      have HE := Lib.hid (show ¬ (fOk fs ∧ 0 ≤ i ∧ i ≤ 60) from fun hh => h0 hh.2.1)
      clear hg h0
      go_enter Try.func50, Try.ntmps50
      go_wp2_with (go_at_call 20; refine C.out.mono ?_; rintro e w' ⟨rfl, rfl⟩)
      go_ret
      exact ⟨ret_bool (by rw [decide_eq_false HE.out]), rfl⟩
  · rw [decide_eq_false hg] at C
    have HE := Lib.hid (show ¬ (fOk fs ∧ 0 ≤ i ∧ i ≤ 60) from fun hh => hg hh.1)
    clear hg
    go_enter Try.func50, Try.ntmps50
    go_wp2_with (go_at_call 20; refine C.out.mono ?_; rintro e w' ⟨rfl, rfl⟩)
    go_ret
    exact ⟨ret_bool (by rw [decide_eq_false HE.out]), rfl⟩

set_option maxHeartbeats 1000000 in
theorem implLostIn_w {A : Option Addr} {n c : Nat} {fs : List Int} {i : Int} {w : World} (h : Has w A n (ints .i64 fs)) (hn : n ≤ 16777216) (hi : -9223372036854775808 ≤ i ∧ i ≤ 9223372036854775807) :
    Calls Try.prog 32 #[.slice A n c, .int .i64 i] w fun e w' => e = .returned (.int .i64 (lostI fs i)) ∧ w = w' := by
  have C := Lib.hid (canSend_any (c := c) h hn hi)
  by_cases hg : fOk fs ∧ 0 ≤ i ∧ i ≤ 60
  · rw [decide_eq_true hg] at C
    obtain ⟨m, rfl⟩ := Int.eq_ofNat_of_zero_le hg.2.1
    have hm : m ≤ 60 := by omega
    have HE := Lib.hid (show lostI fs (m : Int) = (manyN fs 1 m : Int) by unfold lostI; rw [if_pos hg]; rfl)
    clear hg hi
    go_enter Try.func32, Try.ntmps32
    go_wp2_with (go_at_call 50; refine C.out.mono ?_; rintro e w' ⟨rfl, rfl⟩)
    go_loop [5, 12] (fun v t => ∃ k : Nat, k ≤ m ∧ t = .int .i64 k ∧ v = .int .i64 ((manyN fs 1 k : Nat) : Int)) (fun _ t => m - (intOf t).toNat)
    case atStart => exact ⟨0, Nat.zero_le _, rfl, rfl⟩
    case round =>
      obtain ⟨k, hk, rfl, rfl⟩ := hrel
      by_cases hlt : k < m
      · have hltB : decide ((k : Int) < (m : Int)) = true := by simp; omega
        have C2 := Lib.hid (fateAt_any (c := c) k h hn)
        have HS := Lib.hid (manyN_snoc fs 1 k)
        have hy := manyN_le fs 1 k
        generalize manyN fs 1 k = y at *
        generalize fateN fs k = f at *
        by_cases h1 : f = 1
        · have h1B : (f == 1) = true := by simp [h1]
          have HS2 : Hid (manyN fs 1 (k + 1) = y + 1) := by have := HS.out; rw [if_pos h1] at this; exact this
          clear h1
          go_wp2_with (go_at_call 51; refine C2.out.mono ?_; rintro e w' ⟨rfl, rfl⟩)
          go_round
          case rel => exact ⟨k + 1, by omega, by go_num, by rw [HS2.out]; go_num⟩
          case measure => simp [intOf]; omega
        · have h1B : (f == 1) = false := by simp [h1]
          have HS2 : Hid (manyN fs 1 (k + 1) = y) := by have := HS.out; rw [if_neg h1] at this; exact this
          clear h1
          go_wp2_with (go_at_call 51; refine C2.out.mono ?_; rintro e w' ⟨rfl, rfl⟩)
          go_round
          case rel => exact ⟨k + 1, by omega, by go_num, by rw [HS2.out]⟩
          case measure => simp [intOf]; omega
      · have hltB : decide ((k : Int) < (m : Int)) = false := by simp; omega
        obtain rfl : k = m := by omega
        go_wp2
        go_ret
        exact ⟨ret_int HE.out.symm, rfl⟩
  · rw [decide_eq_false hg] at C
    have HE := Lib.hid (show lostI fs i = -1 by unfold lostI; rw [if_neg hg])
    clear hg
    go_enter Try.func32, Try.ntmps32
    go_wp2_with (go_at_call 50; refine C.out.mono ?_; rintro e w' ⟨rfl, rfl⟩)
    go_ret
    exact ⟨ret_int HE.out.symm, rfl⟩
theorem implLostIn_any {A : Option Addr} {n c : Nat} {fs : List Int} {i : Int} {w : World} (h : Has w A n (ints .i64 fs)) (_ : I64s fs) (hn : n ≤ 16777216) (_ : n ≤ c) (hi : -9223372036854775808 ≤ i ∧ i ≤ 9223372036854775807) :
    Calls Try.prog 32 #[.slice A n c, .int .i64 i] w fun e w' => e = .returned (.int .i64 (lostI fs i)) ∧ Below w.heap.size w w' :=
  (implLostIn_w h hn hi).mono fun _ _ hh => ⟨hh.1, by rw [← hh.2]; exact Below.refl _ _⟩

/-- A copy of a slice of ints: new memory, or nil if the slice was. -/
theorem cloneInts_any {A : Option Addr} {n c : Nat} {zs : List Int} {w : World} (h : Has w A n (ints .i64 zs)) (hn : n ≤ 16777216) :
    Calls Try.prog 68 #[.slice A n c] w fun e w' => ∃ A' n' c', e = .returned (.slice A' n' c') ∧ Own w' w.heap.size 3 A' n' c' (ints .i64 zs) ∧ Below w.heap.size w w' := by
  obtain ⟨i0, hi, hz0, hz1, hz2⟩ := info_parts Try.infoInt
  have B0 : Below w.heap.size w (w.alloc (.cells #[] 3)) := (Below.refl _ _).alloc (Nat.le_refl _) _
  have qT : ∀ (w : World) (a : Option Addr) (n c n' c' : Nat), (binOp .eql 23 (.slice a n c) (.slice none n' c')).run Try.prog w = .ok (.bool a.isNone) w := fun w a n c n' c' => Lib.run_eql_slice_nil w _ _ a n c n' c' Try.underlying23
  cases A with
  | none =>
    have hz : zs = [] := by
      have h1 := h.len
      cases n with
      | zero => exact List.length_eq_zero_iff.1 h1
      | succ n => obtain ⟨b, o, hh, _⟩ := h.2 0 (by omega); cases hh
    subst hz
    have h1 := h.len
    obtain rfl : 0 = n := h1
    go_enter Try.func68, Try.ntmps68
    go_wp2
    go_ret
    exact ⟨_, _, _, rfl, ⟨rfl, .inl ⟨rfl, rfl⟩⟩, Below.refl _ _⟩
  | some a =>
    go_enter Try.func68, Try.ntmps68
    go_wp2_with (at_builtin; refine wpList_app_has _ rfl (.tmp 5) (.tmp 6) 23 rfl w.heap.size 3 i0 (.int .i64 0) 8 Try.underlying23 hi hz0 hz1 hz2 rfl (some ⟨w.heap.size, 0, none⟩) 0 0 [] rfl (World.ownsRow_lit w #[] 0 (Nat.le_refl _) (by unfold maxLen; omega) rfl) (some a) n c (ints .i64 zs) rfl (h.bel B0) (ints_oneCell _ _) (by omega) (by decide) (by simp) ?_; intro A3 c3 w3 O3 G3 B3; rw [Nat.zero_add, List.nil_append] at O3)
    go_ret
    exact ⟨_, _, _, rfl, O3, B0.trans B3⟩

set_option maxHeartbeats 1000000 in
theorem implFatesBehind_any {A : Option Addr} {n c : Nat} {fs : List Int} {i : Int} {w : World} (h : Has w A n (ints .i64 fs)) (_ : I64s fs) (hn : n ≤ 16777216) (hnc : n ≤ c) (hi : -9223372036854775808 ≤ i ∧ i ≤ 9223372036854775807) :
    Calls Try.prog 35 #[.slice A n c, .int .i64 i] w fun e w' => ∃ A' n' c', e = .returned (.slice A' n' c') ∧ Own w' w.heap.size 3 A' n' c' (ints .i64 (behI fs i)) ∧ Below w.heap.size w w' := by
  have C := Lib.hid (implFatesValid_w (c := c) h hn)
  have hnil : Own w w.heap.size 3 none 0 0 (ints .i64 []) := ⟨rfl, .inl ⟨rfl, rfl⟩⟩
  by_cases hg : fOk fs
  · rw [decide_eq_true hg] at C
    by_cases h0 : 0 ≤ i
    · obtain ⟨k, rfl⟩ := Int.eq_ofNat_of_zero_le h0
      have h0B : decide ((k : Int) < 0) = false := by simp
      have hl := h.len
      obtain ⟨j, hj, hmin, hdr⟩ : ∃ j, j ≤ n ∧ min (k : Int) (n : Int) = (j : Int) ∧ fs.drop k = fs.drop j := by
        by_cases hk : k ≤ n
        · exact ⟨k, hk, by omega, rfl⟩
        · exact ⟨n, Nat.le_refl _, by omega, by rw [List.drop_of_length_le (by omega), List.drop_of_length_le (by omega)]⟩
      obtain ⟨B, cB, HT, HB⟩ := run_tail (P := Try.prog) (t := 23) (e := 3) (c := c) (l := j) (z := (j : Int)) Try.underlying23 (fun _ => by kernel_rfl) h hnc hj rfl
      rw [show (ints .i64 fs).drop j = ints .i64 (fs.drop j) by simp [ints, List.map_drop]] at HB
      have HD := Lib.hid (show behI fs (k : Int) = fs.drop j by unfold behI; rw [if_pos ⟨hg, h0⟩, ← hdr]; rfl)
      have C2 := Lib.hid (cloneInts_any (c := cB) HB (by omega))
      clear hdr h0 hg HB
      go_enter Try.func35, Try.ntmps35
      go_wp2_with (go_at_call 20; refine C.out.mono ?_; rintro e w' ⟨rfl, rfl⟩)
      refine C2.out.mono ?_
      rintro e w1 ⟨A1, n1, c1, rfl, O1, B1⟩
      go_wp2
      go_ret
      exact ⟨_, _, _, rfl, by rw [HD.out]; exact O1, B1⟩
    · have h0B : decide (i < 0) = true := by simp; omega
      have HE := Lib.hid (show behI fs i = [] by unfold behI; rw [if_neg (fun hh => h0 hh.2)])
      clear h0 hg
      go_enter Try.func35, Try.ntmps35
      go_wp2_with (go_at_call 20; refine C.out.mono ?_; rintro e w' ⟨rfl, rfl⟩)
      go_ret
      exact ⟨_, _, _, rfl, by rw [HE.out]; exact hnil, Below.refl _ _⟩
  · rw [decide_eq_false hg] at C
    have HE := Lib.hid (show behI fs i = [] by unfold behI; rw [if_neg (fun hh => hg hh.1)])
    clear hg
    go_enter Try.func35, Try.ntmps35
    go_wp2_with (go_at_call 20; refine C.out.mono ?_; rintro e w' ⟨rfl, rfl⟩)
    go_ret
    exact ⟨_, _, _, rfl, by rw [HE.out]; exact hnil, Below.refl _ _⟩

set_option maxHeartbeats 1000000 in
theorem implIsClear_w {A : Option Addr} {n c : Nat} {fs : List Int} {w : World} (h : Has w A n (ints .i64 fs)) (hn : n ≤ 16777216) :
    Calls Try.prog 29 #[.slice A n c] w fun e w' => e = .returned (.bool (clearB fs)) ∧ w = w' := by
  have HL := Lib.hid h.len
  have C := Lib.hid (implFatesValid_w (c := c) h hn)
  by_cases hg : fOk fs
  · rw [decide_eq_true hg] at C
    have HG := Lib.hid hg
    clear hg
    go_enter Try.func29, Try.ntmps29
    go_wp2_with (go_at_call 20; refine C.out.mono ?_; rintro e w' ⟨rfl, rfl⟩)
    go_loop [10] (fun i => ∃ k : Nat, k ≤ n ∧ i = .int .i64 k ∧ Hid (∀ f ∈ fs.take k, f = 0)) (fun i => n - (intOf i).toNat)
    case atStart =>
      have : Hid (∀ f ∈ fs.take 0, f = 0) := fun f hf => by simp at hf
      exact ⟨0, Nat.zero_le _, rfl, this⟩
    case round =>
      obtain ⟨k, hk, rfl, HF⟩ := hrel
      by_cases hlt : k < n
      · have hltB : decide ((k : Int) < (n : Int)) = true := by simp; omega
        obtain ⟨b, o, z, rfl, hbl, hx, hc⟩ := h.at_ hlt
        by_cases hz : z = 0
        · have HF2 : Hid (∀ f ∈ fs.take (k + 1), f = 0) := take_all (p := fun f => f = 0) HF.out hx hz
          have hzB : (z != 0) = false := by simp [hz]
          clear hx hz
          go_wp2
          go_round
          case rel => exact ⟨k + 1, by omega, by go_num, HF2⟩
          case measure => simp [intOf]; omega
        · have HB : Hid (clearB fs = false) := by
            have : clearB fs = false := by
              simp only [clearB, decide_eq_false_iff_not]
              exact fun hg => hz (hg.1 z (List.mem_of_getElem? hx))
            exact this
          have hzB : (z != 0) = true := by simp [hz]
          clear hx hz
          go_wp2
          go_ret
          exact ⟨ret_bool HB.out.symm, rfl⟩
      · have hltB : decide ((k : Int) < (n : Int)) = false := by simp; omega
        obtain rfl : k = n := by omega
        have HE : Hid (true = clearB fs) := by
          have h1 := HF.out
          rw [List.take_of_length_le (by have := HL.out; omega)] at h1
          have : clearB fs = true := by
            simp only [clearB, decide_eq_true_eq]
            exact ⟨h1, HG.out.2⟩
          exact this.symm
        go_wp2
        go_ret
        exact ⟨ret_bool HE.out, rfl⟩
  · rw [decide_eq_false hg] at C
    have HE : Hid (clearB fs = false) := by
      have : clearB fs = false := by
        cases hcl : clearB fs with
        | false => rfl
        | true => exact absurd (clear_ok hcl) hg
      exact this
    clear hg
    go_enter Try.func29, Try.ntmps29
    go_wp2_with (go_at_call 20; refine C.out.mono ?_; rintro e w' ⟨rfl, rfl⟩)
    go_ret
    exact ⟨ret_bool HE.out.symm, rfl⟩
theorem implIsClear_any {A : Option Addr} {n c : Nat} {fs : List Int} {w : World} (h : Has w A n (ints .i64 fs)) (_ : I64s fs) (hn : n ≤ 16777216) (_ : n ≤ c) :
    Calls Try.prog 29 #[.slice A n c] w fun e w' => e = .returned (.bool (clearB fs)) ∧ Below w.heap.size w w' :=
  (implIsClear_w h hn).mono fun _ _ hh => ⟨hh.1, by rw [← hh.2]; exact Below.refl _ _⟩
end Go.Proofs.Ytafplpechpoliaa
