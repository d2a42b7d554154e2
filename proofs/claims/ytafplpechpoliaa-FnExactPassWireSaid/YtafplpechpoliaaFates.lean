/-
  Chapter 4's functions of the model, but for the wire itself: what is proved here is what they return, and that they write nothing that was there. Condition: lengths up to 2^24.
-/
import Derived.Test.YtafplpechpoliaaMathFates
import Derived.Test.YtafplpechpoliaaPar
namespace Go.Proofs.Ytafplpechpoliaa
open Go.RowKit

theorem fOk_bad {fs : List Int} {k : Nat} {z : Int} (h : fs[k]? = some z) (hz : ¬ (0 ≤ z ∧ z ≤ 4)) : ¬ fOk fs := fun hg => hz (hg.1 z (List.mem_of_getElem? h))
theorem take_all {fs : List Int} {p : Int → Prop} {k : Nat} {z : Int} (h : ∀ f ∈ fs.take k, p f) (hx : fs[k]? = some z) (hz : p z) : ∀ f ∈ fs.take (k + 1), p f := by
  intro f hf
  rw [List.take_add_one, hx] at hf
  rcases List.mem_append.1 hf with hf | hf
  · exact h f hf
  · simp at hf; subst hf; exact hz
theorem fateN_past {fs : List Int} {n k : Nat} (hl : fs.length = n) (h : ¬ k < n) : fateN fs k = 0 := fateN_out fs k (by omega)

set_option maxHeartbeats 1000000 in
theorem specFatesValid_w {A : Option Addr} {n c : Nat} {fs : List Int} {w : World} (h : Has w A n (ints .i64 fs)) (hn : n ≤ 16777216) :
    Calls Try.prog 21 #[.slice A n c] w fun e w' => e = .returned (.bool (decide (fOk fs))) ∧ w = w' := by
  have HL := Lib.hid h.len
  go_enter Try.func21, Try.ntmps21
  go_wp2
  go_loop [3] (fun i => ∃ k : Nat, k ≤ n ∧ i = .int .i64 k ∧ Hid (∀ f ∈ fs.take k, 0 ≤ f ∧ f ≤ 4)) (fun i => n - (intOf i).toNat)
  case atStart =>
    have : Hid (∀ f ∈ fs.take 0, 0 ≤ f ∧ f ≤ 4) := fun f hf => by simp at hf
    exact ⟨0, Nat.zero_le _, rfl, this⟩
  case round =>
    obtain ⟨k, hk, rfl, HF⟩ := hrel
    by_cases hlt : k < n
    · have hltB : decide ((k : Int) < (n : Int)) = true := by simp; omega
      obtain ⟨b, o, z, rfl, hbl, hx, hc⟩ := h.at_ hlt
      by_cases hz : 0 ≤ z ∧ z ≤ 4
      · have HF2 : Hid (∀ f ∈ fs.take (k + 1), 0 ≤ f ∧ f ≤ 4) := take_all (p := fun f => 0 ≤ f ∧ f ≤ 4) HF.out hx hz
        have C := Lib.hid (l1In_yes z 0 4 w hz.1 hz.2)
        clear hx hz
        go_wp2_with (go_at_call 57; refine C.out.mono ?_; rintro e w' ⟨rfl, rfl⟩)
        go_round
        case rel => exact ⟨k + 1, by omega, by go_num, HF2⟩
        case measure => simp [intOf]; omega
      · have HB := Lib.hid (fOk_bad hx hz)
        have C := Lib.hid (l1In_no z 0 4 w hz)
        clear hx hz
        go_wp2_with (go_at_call 57; refine C.out.mono ?_; rintro e w' ⟨rfl, rfl⟩)
        go_ret
        exact ⟨ret_bool (by rw [decide_eq_false HB.out]), rfl⟩
    · have hltB : decide ((k : Int) < (n : Int)) = false := by simp; omega
      obtain rfl : k = n := by omega
      have HE : Hid (fOk fs ↔ k ≤ 200) := by
        have h1 := HF.out
        have h2 := HL.out
        rw [List.take_of_length_le (by omega)] at h1
        exact (⟨fun hg => by have := hg.2; omega, fun hg => ⟨h1, by omega⟩⟩ : fOk fs ↔ k ≤ 200)
      go_wp2
      go_ret
      exact ⟨ret_bool (by rw [decide_eq_decide, HE.out]; omega), rfl⟩

theorem l4Fate_any {A : Option Addr} {n c : Nat} {fs : List Int} {w : World} (k : Nat) (h : Has w A n (ints .i64 fs)) (_ : n ≤ 16777216) :
    Calls Try.prog 59 #[.slice A n c, .int .i64 (k : Int)] w fun e w' => e = .returned (.int .i64 (fateN fs k)) ∧ w = w' := by
  have hl := h.len
  by_cases hlt : k < n
  · have hltB : decide ((k : Int) < (n : Int)) = true := by simp; omega
    obtain ⟨b, o, z, rfl, hbl, hx, hc⟩ := h.at_ hlt
    have HZ := Lib.hid (fateN_in fs k z hx)
    clear hx
    go_enter Try.func59, Try.ntmps59
    go_wp2
    go_ret
    exact ⟨ret_int HZ.out.symm, rfl⟩
  · have hltB : decide ((k : Int) < (n : Int)) = false := by simp; omega
    have HZ := Lib.hid (fateN_past hl hlt)
    go_enter Try.func59, Try.ntmps59
    go_wp2
    go_ret
    exact ⟨ret_int HZ.out.symm, rfl⟩

set_option maxHeartbeats 1000000 in
theorem specFateOf_w {A : Option Addr} {n c : Nat} {fs : List Int} {i : Int} {w : World} (h : Has w A n (ints .i64 fs)) (hn : n ≤ 16777216) (hi : -9223372036854775808 ≤ i ∧ i ≤ 9223372036854775807) :
    Calls Try.prog 37 #[.slice A n c, .int .i64 i] w fun e w' => e = .returned (.int .i64 (fateI fs i)) ∧ w = w' := by
  by_cases hg : fOk fs
  · have C := Lib.hid ((specFatesValid_w (c := c) h hn).mono fun e w' (hh : e = .returned (.bool (decide (fOk fs))) ∧ w = w') => (⟨by rw [hh.1, decide_eq_true hg], hh.2⟩ : e = .returned (.bool true) ∧ w = w'))
    by_cases h0 : 0 ≤ i
    · obtain ⟨k, rfl⟩ := Int.eq_ofNat_of_zero_le h0
      have h0B : decide ((k : Int) < 0) = false := by simp
      have HE := Lib.hid (fateI_yes hg k)
      have C2 := Lib.hid (l4Fate_any (c := c) k h hn)
      clear h0 hg
      go_enter Try.func37, Try.ntmps37
      go_wp2_with (first | (go_at_call 21; refine C.out.mono ?_; rintro e w' ⟨rfl, rfl⟩) | (go_at_call 59; refine C2.out.mono ?_; rintro e w' ⟨rfl, rfl⟩))
      go_ret
      exact ⟨ret_int HE.out.symm, rfl⟩
    · have h0B : decide (i < 0) = true := by simp; omega
      have HE := Lib.hid (show fateI fs i = -1 by unfold fateI; rw [if_neg (fun hh => h0 hh.2)])
      clear h0 hg
      go_enter Try.func37, Try.ntmps37
      go_wp2_with (go_at_call 21; refine C.out.mono ?_; rintro e w' ⟨rfl, rfl⟩)
      go_ret
      exact ⟨ret_int HE.out.symm, rfl⟩
  · have C := Lib.hid ((specFatesValid_w (c := c) h hn).mono fun e w' (hh : e = .returned (.bool (decide (fOk fs))) ∧ w = w') => (⟨by rw [hh.1, decide_eq_false hg], hh.2⟩ : e = .returned (.bool false) ∧ w = w'))
    have HE := Lib.hid (show fateI fs i = -1 by unfold fateI; rw [if_neg (fun hh => hg hh.1)])
    clear hg
    go_enter Try.func37, Try.ntmps37
    go_wp2_with (go_at_call 21; refine C.out.mono ?_; rintro e w' ⟨rfl, rfl⟩)
    go_ret
    exact ⟨ret_int HE.out.symm, rfl⟩

theorem l4At_any {A : Option Addr} {n c : Nat} {fs : List Int} {w : World} (k : Nat) (h : Has w A n (ints .i64 fs)) (hn : n ≤ 16777216) (hk : k ≤ 1000000) :
    Calls Try.prog 58 #[.slice A n c, .int .i64 (k : Int)] w fun e w' => e = .returned (.int .i64 (atN fs k)) ∧ w = w' := by
  have C := Lib.hid (l4Fate_any (c := c) k h hn)
  have HA : Hid (atN fs k = if fateN fs k = 1 then -1 else if fateN fs k = 3 then 2 * (k : Int) + 3 else 2 * (k : Int)) := rfl
  generalize fateN fs k = f at *
  by_cases h1 : f = 1
  · have h1B : (f == 1) = true := by simp [h1]
    have HE := Lib.hid (HA.out.trans (if_pos h1))
    clear h1
    go_enter Try.func58, Try.ntmps58
    go_wp2_with (go_at_call 59; refine C.out.mono ?_; rintro e w' ⟨rfl, rfl⟩)
    go_ret
    exact ⟨ret_int HE.out.symm, rfl⟩
  · have h1B : (f == 1) = false := by simp [h1]
    have HA2 := Lib.hid (HA.out.trans (if_neg h1))
    by_cases h3 : f = 3
    · have h3B : (f == 3) = true := by simp [h3]
      have HE := Lib.hid (HA2.out.trans (if_pos h3))
      clear h1 h3
      go_enter Try.func58, Try.ntmps58
      go_wp2_with (go_at_call 59; refine C.out.mono ?_; rintro e w' ⟨rfl, rfl⟩)
      go_ret
      exact ⟨ret_int HE.out.symm, rfl⟩
    · have h3B : (f == 3) = false := by simp [h3]
      have HE := Lib.hid (HA2.out.trans (if_neg h3))
      clear h1 h3
      go_enter Try.func58, Try.ntmps58
      go_wp2_with (go_at_call 59; refine C.out.mono ?_; rintro e w' ⟨rfl, rfl⟩)
      go_ret
      exact ⟨ret_int HE.out.symm, rfl⟩

theorem arr_no {fs : List Int} {i : Int} {lo c : Nat} {A : Option Addr} {w w' : World} (hbad : ¬ (fOk fs ∧ 0 ≤ i ∧ i ≤ 60)) (hb : Below lo w w') (ho : Own w' lo 3 A 0 c []) :
    ∃ A' n' c', Ending.returned (.slice A 0 c) = .returned (.slice A' n' c') ∧ Own w' lo 3 A' n' c' (ints .i64 (arrI fs i)) ∧ Below lo w w' :=
  ⟨A, 0, c, rfl, by rw [show arrI fs i = [] by unfold arrI; rw [if_neg hbad]]; exact ho, hb⟩
theorem arr_len (fs : List Int) (n t i : Nat) (hn : n ≤ 60) (ht : t ≤ 2 * n + 3) (hi : i ≤ n) : (arrTo fs n t ++ rowArr fs t i).length ≤ 15000 := by
  have h1 := arrTo_len fs n t
  have h2 := rowArr_len fs t i
  have h3 : t * (2 * n) ≤ 123 * 120 := Nat.mul_le_mul (by omega) (by omega)
  rw [List.length_append]; omega

set_option maxHeartbeats 4000000 in
theorem specArrivalsOf_w {A : Option Addr} {n c : Nat} {fs : List Int} {i : Int} {w : World} (h : Has w A n (ints .i64 fs)) (hn : n ≤ 16777216) (hi : -9223372036854775808 ≤ i ∧ i ≤ 9223372036854775807) :
    Calls Try.prog 19 #[.slice A n c, .int .i64 i] w fun e w' => ∃ A' n' c', e = .returned (.slice A' n' c') ∧ Own w' w.heap.size 3 A' n' c' (ints .i64 (arrI fs i)) ∧ Below w.heap.size w w' := by
  obtain ⟨i0, hj, hz0, hz1, hz2⟩ := info_parts Try.infoInt
  by_cases hg : fOk fs
  · have C : ∀ W : World, Below w.heap.size w W → Calls Try.prog 21 #[.slice A n c] W fun e w' => e = .returned (.bool true) ∧ W = w' := fun W hW => (specFatesValid_w (c := c) (h.bel hW) hn).mono fun e w' hh => ⟨by rw [hh.1, decide_eq_true hg], hh.2⟩
    have HC := Lib.hid C
    clear C
    by_cases h6 : 0 ≤ i ∧ i ≤ 60
    · obtain ⟨m, rfl⟩ := Int.eq_ofNat_of_zero_le h6.1
      have hm : m ≤ 60 := by omega
      have HE := Lib.hid (show arrI fs (m : Int) = arrTo fs m (2 * m + 3) by unfold arrI; rw [if_pos ⟨hg, h6⟩]; rfl)
      clear h6 hg hi
      go_enter Try.func19, Try.ntmps19
      go_wp2_with (first | (go_at_call 21; refine (HC.out _ ((Below.refl _ _).alloc (Nat.le_refl _) _)).mono ?_; rintro e w' ⟨rfl, rfl⟩) | (go_at_call 57; refine (l1In_yes _ _ _ _ (by omega) (by omega)).mono ?_; rintro e w' ⟨rfl, rfl⟩))
      go_loopw [5, 6] (fun v t wr => ∃ T A' q c', T ≤ 2 * m + 3 ∧ t = .int .i64 ((T : Nat) : Int) ∧ v = .slice A' q c' ∧ Own wr w.heap.size 3 A' q c' (ints .i64 (arrTo fs m T)) ∧ Below w.heap.size w wr) (fun _ t _ => 2 * m + 3 - (intOf t).toNat)
      case atStart => exact ⟨0, _, _, _, by omega, rfl, rfl, World.ownsRow_lit w #[] 0 (Nat.le_refl _) (by unfold maxLen; omega) rfl, (Below.refl _ _).alloc (Nat.le_refl _) _⟩
      case round =>
        obtain ⟨T, A1, q1, c1, hT, rfl, rfl, O1, B1⟩ := hrel
        by_cases hlT : T < 2 * m + 3
        · have hTB : decide ((T : Int) < 2 * (m : Int) + 3) = true := by simp; omega
          go_wp2
          obtain ⟨wo, rfl⟩ : ∃ wo : World, wo = wr := ⟨_, rfl⟩
          go_loopw [5, 7] (fun v t wr => ∃ k A' q c', k ≤ m ∧ t = .int .i64 ((k : Nat) : Int) ∧ v = .slice A' q c' ∧ Own wr w.heap.size 3 A' q c' (ints .i64 (arrTo fs m T ++ rowArr fs T k)) ∧ Below w.heap.size w wr) (fun _ t _ => m - (intOf t).toNat)
          case atStart => exact ⟨0, _, _, _, by omega, rfl, rfl, by simpa [rowArr] using O1, B1⟩
          case round =>
            obtain ⟨k, A2, q2, c2, hk, rfl, rfl, O2, B2⟩ := hrel
            have hge := B2.size
            by_cases hlk : k < m
            · have hkB : decide ((k : Int) < (m : Int)) = true := by simp; omega
              have hq2 : q2 ≤ 15000 := by have e1 := O2.has.len; have e2 := arr_len fs m T k hm hT (by omega); omega
              have C1 := Lib.hid (l4At_any (c := c) k (h.bel B2) hn (by omega))
              have HR := Lib.hid (rowArr_snoc fs T k)
              have HO : Hid (oneArr fs T k = if atN fs k = (T : Int) then (if fateN fs k = 2 then [(k : Int), (k : Int)] else [(k : Int)]) else []) := rfl
              have hFB : ∀ W : World, Below w.heap.size w W → Calls Try.prog 59 #[.slice A n c, .int .i64 (k : Int)] W fun e w' => e = .returned (.int .i64 (fateN fs k)) ∧ W = w' := fun W hW => l4Fate_any (c := c) k (h.bel hW) hn
              have HF := Lib.hid hFB
              clear hFB
              generalize hat : atN fs k = t at *
              generalize hfa : fateN fs k = f at *
              clear hat hfa
              by_cases hat : t = (T : Int)
              · have hatB : (t != (T : Int)) = false := by simp [hat]
                have HO2 := Lib.hid (HO.out.trans (if_pos hat))
                clear hat
                by_cases h2 : f = 2
                · have h2B : (f == 2) = true := by simp [h2]
                  have HO3 := Lib.hid (HO2.out.trans (if_pos h2))
                  clear h2
                  go_wp2_with (first | (go_at_call 58; refine C1.out.mono ?_; rintro e w' ⟨rfl, rfl⟩) | (at_builtin; refine wpList_apps _ rfl (.tmp 35) (.tmp 37) 23 rfl w.heap.size 3 i0 (.int .i64 0) 8 Try.underlying23 hj hz0 hz1 hz2 rfl A2 q2 c2 _ rfl O2 1 1 #[.int .i64 (k : Int)] rfl rfl (by simp [Value.oneCell']) (by decide) (by omega) (by decide) (by omega) ?_; intro g3 c3 w3 O3 G3 B3 _) | (go_at_call 59; refine (HF.out _ (B2.trans B3)).mono ?_; rintro e w' ⟨rfl, rfl⟩) | (at_builtin; refine wpList_apps _ rfl (.tmp 43) (.tmp 45) 23 rfl w.heap.size 3 i0 (.int .i64 0) 8 Try.underlying23 hj hz0 hz1 hz2 rfl (some ⟨g3, 0, none⟩) (q2 + 1) c3 _ rfl O3 1 1 #[.int .i64 (k : Int)] rfl rfl (by simp [Value.oneCell']) (by decide) (by omega) (by decide) (by have := B3.size; omega) ?_; intro g4 c4 w4 O4 G4 B4 _))
                  go_roundw
                  case rel => exact ⟨k + 1, _, _, _, by omega, by go_num, rfl, by rw [HR.out, HO3.out, ← List.append_assoc, ints_app]; simpa [ints] using O4, B2.trans (B3.trans B4)⟩
                  case measure => simp [intOf]; omega
                · have h2B : (f == 2) = false := by simp [h2]
                  have HO3 := Lib.hid (HO2.out.trans (if_neg h2))
                  clear h2
                  go_wp2_with (first | (go_at_call 58; refine C1.out.mono ?_; rintro e w' ⟨rfl, rfl⟩) | (at_builtin; refine wpList_apps _ rfl (.tmp 35) (.tmp 37) 23 rfl w.heap.size 3 i0 (.int .i64 0) 8 Try.underlying23 hj hz0 hz1 hz2 rfl A2 q2 c2 _ rfl O2 1 1 #[.int .i64 (k : Int)] rfl rfl (by simp [Value.oneCell']) (by decide) (by omega) (by decide) (by omega) ?_; intro g3 c3 w3 O3 G3 B3 _) | (go_at_call 59; refine (HF.out _ (B2.trans B3)).mono ?_; rintro e w' ⟨rfl, rfl⟩))
                  go_roundw
                  case rel => exact ⟨k + 1, _, _, _, by omega, by go_num, rfl, by rw [HR.out, HO3.out, ← List.append_assoc, ints_app]; exact O3, B2.trans B3⟩
                  case measure => simp [intOf]; omega
              · have hatB : (t != (T : Int)) = true := by simp [hat]
                have HO2 := Lib.hid (HO.out.trans (if_neg hat))
                clear hat
                go_wp2_with (go_at_call 58; refine C1.out.mono ?_; rintro e w' ⟨rfl, rfl⟩)
                go_roundw
                case rel => exact ⟨k + 1, _, _, _, by omega, by go_num, rfl, by rw [HR.out, HO2.out, List.append_nil]; exact O2, B2⟩
                case measure => simp [intOf]; omega
            · have hkB : decide ((k : Int) < (m : Int)) = false := by simp; omega
              obtain rfl : k = m := by omega
              have HS := Lib.hid (arrTo_snoc fs k T)
              go_wp2
              go_roundw
              case rel => exact ⟨T + 1, _, _, _, by omega, by go_num, rfl, by rw [HS.out]; exact O2, B2⟩
              case measure => simp [intOf]; omega
        · have hTB : decide ((T : Int) < 2 * (m : Int) + 3) = false := by simp; omega
          obtain rfl : T = 2 * m + 3 := by omega
          go_wp2
          go_ret
          exact ⟨_, _, _, rfl, by rw [HE.out]; exact O1, B1⟩
    · have HB : Hid (¬ (fOk fs ∧ 0 ≤ i ∧ i ≤ 60)) := fun hh => h6 hh.2
      have C2 : ∀ W : World, Calls Try.prog 57 #[.int .i64 i, .int .i64 0, .int .i64 60] W fun e w' => e = .returned (.bool false) ∧ W = w' := fun W => l1In_no i 0 60 W h6
      have HC2 := Lib.hid C2
      clear C2 h6 hg
      go_enter Try.func19, Try.ntmps19
      go_wp2_with (first | (go_at_call 21; refine (HC.out _ ((Below.refl _ _).alloc (Nat.le_refl _) _)).mono ?_; rintro e w' ⟨rfl, rfl⟩) | (go_at_call 57; refine (HC2.out _).mono ?_; rintro e w' ⟨rfl, rfl⟩))
      go_ret
      exact arr_no HB.out ((Below.refl _ _).alloc (Nat.le_refl _) _) (World.ownsRow_lit w #[] 0 (Nat.le_refl _) (by unfold maxLen; omega) rfl)
  · have C : ∀ W : World, Below w.heap.size w W → Calls Try.prog 21 #[.slice A n c] W fun e w' => e = .returned (.bool false) ∧ W = w' := fun W hW => (specFatesValid_w (c := c) (h.bel hW) hn).mono fun e w' hh => ⟨by rw [hh.1, decide_eq_false hg], hh.2⟩
    have HC := Lib.hid C
    have HB : Hid (¬ (fOk fs ∧ 0 ≤ i ∧ i ≤ 60)) := fun hh => hg hh.1
    clear C hg
    go_enter Try.func19, Try.ntmps19
    go_wp2_with (go_at_call 21; refine (HC.out _ ((Below.refl _ _).alloc (Nat.le_refl _) _)).mono ?_; rintro e w' ⟨rfl, rfl⟩)
    go_ret
    exact arr_no HB.out ((Below.refl _ _).alloc (Nat.le_refl _) _) (World.ownsRow_lit w #[] 0 (Nat.le_refl _) (by unfold maxLen; omega) rfl)

set_option maxHeartbeats 1000000 in
theorem specLostIn_w {A : Option Addr} {n c : Nat} {fs : List Int} {i : Int} {w : World} (h : Has w A n (ints .i64 fs)) (hn : n ≤ 16777216) (hi : -9223372036854775808 ≤ i ∧ i ≤ 9223372036854775807) :
    Calls Try.prog 33 #[.slice A n c, .int .i64 i] w fun e w' => e = .returned (.int .i64 (lostI fs i)) ∧ w = w' := by
  by_cases hg : fOk fs
  · have C := Lib.hid ((specFatesValid_w (c := c) h hn).mono fun e w' (hh : e = .returned (.bool (decide (fOk fs))) ∧ w = w') => (⟨by rw [hh.1, decide_eq_true hg], hh.2⟩ : e = .returned (.bool true) ∧ w = w'))
    by_cases h6 : 0 ≤ i ∧ i ≤ 60
    · obtain ⟨m, rfl⟩ := Int.eq_ofNat_of_zero_le h6.1
      have hm : m ≤ 60 := by omega
      have HE := Lib.hid (show lostI fs (m : Int) = (manyN fs 1 m : Int) by unfold lostI; rw [if_pos ⟨hg, h6⟩]; rfl)
      clear h6 hg hi
      go_enter Try.func33, Try.ntmps33
      go_wp2_with (first | (go_at_call 21; refine C.out.mono ?_; rintro e w' ⟨rfl, rfl⟩) | (go_at_call 57; refine (l1In_yes _ _ _ _ (by omega) (by omega)).mono ?_; rintro e w' ⟨rfl, rfl⟩))
      go_loop [5, 6] (fun v t => ∃ k : Nat, k ≤ m ∧ t = .int .i64 k ∧ v = .int .i64 ((manyN fs 1 k : Nat) : Int)) (fun _ t => m - (intOf t).toNat)
      case atStart => exact ⟨0, Nat.zero_le _, rfl, rfl⟩
      case round =>
        obtain ⟨k, hk, rfl, rfl⟩ := hrel
        by_cases hlt : k < m
        · have hltB : decide ((k : Int) < (m : Int)) = true := by simp; omega
          have C2 := Lib.hid (l4Fate_any (c := c) k h hn)
          have HS := Lib.hid (manyN_snoc fs 1 k)
          have hy := manyN_le fs 1 k
          generalize manyN fs 1 k = y at *
          generalize fateN fs k = f at *
          by_cases h1 : f = 1
          · have h1B : (f == 1) = true := by simp [h1]
            have HS2 : Hid (manyN fs 1 (k + 1) = y + 1) := by have := HS.out; rw [if_pos h1] at this; exact this
            clear h1
            go_wp2_with (go_at_call 59; refine C2.out.mono ?_; rintro e w' ⟨rfl, rfl⟩)
            go_round
            case rel => exact ⟨k + 1, by omega, by go_num, by rw [HS2.out]; go_num⟩
            case measure => simp [intOf]; omega
          · have h1B : (f == 1) = false := by simp [h1]
            have HS2 : Hid (manyN fs 1 (k + 1) = y) := by have := HS.out; rw [if_neg h1] at this; exact this
            clear h1
            go_wp2_with (go_at_call 59; refine C2.out.mono ?_; rintro e w' ⟨rfl, rfl⟩)
            go_round
            case rel => exact ⟨k + 1, by omega, by go_num, by rw [HS2.out]⟩
            case measure => simp [intOf]; omega
        · have hltB : decide ((k : Int) < (m : Int)) = false := by simp; omega
          obtain rfl : k = m := by omega
          go_wp2
          go_ret
          exact ⟨ret_int HE.out.symm, rfl⟩
    · have HE := Lib.hid (show lostI fs i = -1 by unfold lostI; rw [if_neg (fun hh => h6 hh.2)])
      have C2 := Lib.hid (l1In_no i 0 60 w h6)
      clear h6 hg
      go_enter Try.func33, Try.ntmps33
      go_wp2_with (first | (go_at_call 21; refine C.out.mono ?_; rintro e w' ⟨rfl, rfl⟩) | (go_at_call 57; refine C2.out.mono ?_; rintro e w' ⟨rfl, rfl⟩))
      go_ret
      exact ⟨ret_int HE.out.symm, rfl⟩
  · have C := Lib.hid ((specFatesValid_w (c := c) h hn).mono fun e w' (hh : e = .returned (.bool (decide (fOk fs))) ∧ w = w') => (⟨by rw [hh.1, decide_eq_false hg], hh.2⟩ : e = .returned (.bool false) ∧ w = w'))
    have HE := Lib.hid (show lostI fs i = -1 by unfold lostI; rw [if_neg (fun hh => hg hh.1)])
    clear hg
    go_enter Try.func33, Try.ntmps33
    go_wp2_with (go_at_call 21; refine C.out.mono ?_; rintro e w' ⟨rfl, rfl⟩)
    go_ret
    exact ⟨ret_int HE.out.symm, rfl⟩

set_option maxHeartbeats 1000000 in
theorem specIsClear_w {A : Option Addr} {n c : Nat} {fs : List Int} {w : World} (h : Has w A n (ints .i64 fs)) (hn : n ≤ 16777216) :
    Calls Try.prog 30 #[.slice A n c] w fun e w' => e = .returned (.bool (clearB fs)) ∧ w = w' := by
  have HL := Lib.hid h.len
  go_enter Try.func30, Try.ntmps30
  go_wp2
  go_loop [3] (fun i => ∃ k : Nat, k ≤ n ∧ i = .int .i64 k ∧ Hid (∀ f ∈ fs.take k, f = 0)) (fun i => n - (intOf i).toNat)
  case atStart =>
    have : Hid (∀ f ∈ fs.take 0, f = 0) := fun f hf => by simp at hf
    exact ⟨0, Nat.zero_le _, rfl, this⟩
  case round =>
    obtain ⟨k, hk, rfl, HF⟩ := hrel
    by_cases hlt : k < n
    · have hltB : decide ((k : Int) < (n : Int)) = true := by simp; omega
      obtain ⟨b, o, z, rfl, hbl, hx, hc⟩ := h.at_ hlt
      by_cases hz : z = 0
      · have HF2 : Hid (∀ f ∈ fs.take (k + 1), f = 0) := take_all (p := fun f => f = 0) HF.out hx hz
        have hzB : (z != 0) = false := by simp [hz]
        clear hx hz
        go_wp2
        go_round
        case rel => exact ⟨k + 1, by omega, by go_num, HF2⟩
        case measure => simp [intOf]; omega
      · have HB : Hid (clearB fs = false) := by
          have : clearB fs = false := by
            simp only [clearB, decide_eq_false_iff_not]
            exact fun hg => hz (hg.1 z (List.mem_of_getElem? hx))
          exact this
        have hzB : (z != 0) = true := by simp [hz]
        clear hx hz
        go_wp2
        go_ret
        exact ⟨ret_bool HB.out.symm, rfl⟩
    · have hltB : decide ((k : Int) < (n : Int)) = false := by simp; omega
      obtain rfl : k = n := by omega
      have HE : Hid (decide (fOk fs) = clearB fs) := by
        have h1 := HF.out
        rw [List.take_of_length_le (by have := HL.out; omega)] at h1
        have : decide (fOk fs) = clearB fs := by
          unfold clearB
          rw [decide_eq_decide]
          exact ⟨fun hg => ⟨h1, hg.2⟩, fun hg => ⟨fun f hf => by have := h1 f hf; omega, hg.2⟩⟩
        exact this
      have C := Lib.hid (specFatesValid_w (c := c) h hn)
      rw [HE.out] at C
      go_wp2_with (go_at_call 21; refine C.out.mono ?_; rintro e w' ⟨rfl, rfl⟩)
      go_ret
      exact ⟨rfl, rfl⟩
end Go.Proofs.Ytafplpechpoliaa
