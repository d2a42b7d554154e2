/-
  Chapter 14's model: what is proved here is what Conforms and LeastBurst return, and that they write nothing that was there. Condition: lengths up to 2^24.
-/
import Derived.Test.YtnloejcfakcpfaaShpA
namespace Go.Proofs.Ytnloejcfakcpfaa
open Go.RowKit

theorem conf_no {r b : Int} {hs : List Duo} {k : Nat} (hk : k < hs.length) (h : thr r b hs k = false) : decide (confP r b hs) = false :=
  decide_eq_false fun hh => by have := hh.2 k hk; rw [h] at this; cases this
theorem conf_ok {r b : Int} {hs : List Duo} (h : ∀ k, k < (polI r b hs).length → thr r b hs k = true) : decide (shOk r b hs) = decide (confP r b hs) := by
  rw [decide_eq_decide]
  refine ⟨fun hh => ⟨hh, fun k hk => h k ?_⟩, fun hh => hh.1⟩
  unfold polI
  rw [if_pos hh, polTo_len]
  exact hk
theorem pol_at {r b : Int} {hs : List Duo} {k : Nat} (h : k < (polI r b hs).length) : (polI r b hs).getD k false = thr r b hs k ∧ k < hs.length := by
  unfold polI at h ⊢
  by_cases hok : shOk r b hs
  · rw [if_pos hok] at h ⊢
    rw [polTo_len] at h
    exact ⟨by rw [List.getD_eq_getElem?_getD, polTo_at _ _ _ h]; rfl, h⟩
  · rw [if_neg hok] at h; simp at h
theorem pol_len (r b : Int) (hs : List Duo) : (polI r b hs).length ≤ 60 := by
  unfold polI
  split
  · rename_i h; rw [polTo_len]; exact h.2.2.2.2
  · simp
set_option maxHeartbeats 4000000 in
theorem specConforms_b {A : Option Addr} {n c : Nat} {r b : Int} {hs : List Duo} {w : World} {v : Bool} (h : HasD w A n hs) (hn : n ≤ 16777216) (hv : decide (confP r b hs) = v) :
    Calls Try.prog 18 #[.int .i64 r, .int .i64 b, .slice A n c] w fun e w' => e = .returned (.bool v) ∧ Below w.heap.size w w' := by
  have HV := Lib.hid hv
  clear hv
  obtain ⟨L, hL⟩ : ∃ L, polI r b hs = L := ⟨_, rfl⟩
  have HL := Lib.hid hL
  have C := Lib.hid (specPolicePulses_r (c := c) h hn hL)
  clear hL
  go_enter Try.func18, Try.ntmps18
  go_wp2_with (fail)
  refine C.out.mono ?_
  rintro e w2 ⟨A', n', c', rfl, O2, B2⟩
  have h2 := h.bel B2
  have hl2 := has_bools_len O2.has
  have H2 := O2.has
  have HN := Lib.hid (show L.length = n' from hl2)
  have hn2 : n' ≤ 60 := by rw [← hl2, ← HL.out]; exact pol_len _ _ _
  clear hl2 O2
  go_wp2
  go_loop [8] (fun i => ∃ k : Nat, k ≤ n' ∧ i = .int .i64 (k : Int) ∧ Hid (∀ j, j < k → thr r b hs j = true)) (fun i => n' - (intOf i).toNat)
  case atStart =>
    have h1 : Hid (∀ j, j < 0 → thr r b hs j = true) := fun j hj => by omega
    exact ⟨0, Nat.zero_le _, rfl, h1⟩
  case round =>
    obtain ⟨k, hk, rfl, HA⟩ := hrel
    by_cases hlt : k < n'
    · have hltB : decide ((k : Int) < (n' : Int)) = true := by simp; omega
      obtain ⟨bb, o, rfl, hbl, c0⟩ := has_bool H2 hlt
      have HP := Lib.hid (show L.getD k false = thr r b hs k ∧ k < hs.length by rw [← HL.out]; exact pol_at (by rw [HL.out, HN.out]; exact hlt))
      obtain ⟨p, hp⟩ : ∃ p, L.getD k false = p := ⟨_, rfl⟩
      rw [hp] at c0 HP
      clear hp
      cases p with
      | true =>
        have HA2 : Hid (∀ j, j < k + 1 → thr r b hs j = true) := fun j hj => by
          by_cases he : j = k
          · subst he; exact HP.out.1.symm
          · exact HA.out j (by omega)
        go_wp2
        go_round
        case rel => exact ⟨k + 1, by omega, by go_num, HA2⟩
        case measure => simp [intOf]; omega
      | false =>
        have HE := Lib.hid (conf_no HP.out.2 HP.out.1.symm)
        go_wp2
        go_ret
        exact ⟨ret_bool (HE.out.symm.trans HV.out), B2⟩
    · have hltB : decide ((k : Int) < (n' : Int)) = false := by simp; omega
      obtain rfl : k = n' := by omega
      have C2 := Lib.hid (l14Fits_b (c := c) h2 hn ((conf_ok (fun j hj => HA.out j (by rw [HL.out, HN.out] at hj; exact hj))).trans HV.out))
      go_wp2_with (fail)
      refine C2.out.mono ?_
      rintro e w3 ⟨rfl, B3⟩
      go_wp2
      go_ret
      exact ⟨rfl, bel_trans B2 B3⟩
theorem least_step {r : Int} {hs : List Duo} {k : Nat} (h : k ≤ leastN r hs) (hk : k < 100) : (decide (confP r ((k : Int) + 1) hs) = true → leastI r hs = (k : Int) + 1) ∧ (decide (confP r ((k : Int) + 1) hs) = false → k + 1 ≤ leastN r hs) := by
  have e : decide (confP r ((k : Int) + 1) hs) = leastP r hs k := rfl
  rw [e, least_iff hk]
  constructor
  · intro hh
    have := of_decide_eq_true hh
    unfold leastI
    rw [if_pos (by omega)]
    omega
  · intro hh
    have := of_decide_eq_false hh
    omega
set_option maxHeartbeats 4000000 in
theorem specLeastBurst_r {A : Option Addr} {n c : Nat} {r v : Int} {hs : List Duo} {w : World} (h : HasD w A n hs) (hn : n ≤ 16777216) (hv : leastI r hs = v) :
    Calls Try.prog 34 #[.int .i64 r, .slice A n c] w fun e w' => e = .returned (.int .i64 v) ∧ Below w.heap.size w w' := by
  have HV := Lib.hid hv
  clear hv
  go_enter Try.func34, Try.ntmps34
  go_wp2
  go_loopw [5] (fun i wr => ∃ k : Nat, k ≤ 100 ∧ i = .int .i64 ((k : Int) + 1) ∧ Hid (k ≤ leastN r hs) ∧ Below w.heap.size w wr) (fun i _ => 101 - (intOf i).toNat)
  case atStart =>
    have h1 : Hid (0 ≤ leastN r hs) := Nat.zero_le _
    exact ⟨0, Nat.zero_le _, rfl, h1, Below.refl _ _⟩
  case round =>
    obtain ⟨k, hk, rfl, HA, B⟩ := hrel
    by_cases hlt : k < 100
    · have b1 : decide ((k : Int) + 1 ≤ 100) = true := decide_eq_true (by omega)
      obtain ⟨p, hp⟩ : ∃ p, decide (confP r ((k : Int) + 1) hs) = p := ⟨_, rfl⟩
      have C := Lib.hid (specConforms_b (c := c) (h.bel B) hn hp)
      have HS := Lib.hid (least_step HA.out hlt)
      rw [hp] at HS
      clear hp
      go_wp2_with (fail)
      refine C.out.mono ?_
      rintro e w3 ⟨rfl, B3⟩
      have B4 := bel_trans B B3
      cases p with
      | true =>
        have HE := HS.out.1 rfl
        have HE2 := Lib.hid HE
        clear HE
        go_wp2
        go_ret
        exact ⟨ret_int (HE2.out.symm.trans HV.out), B4⟩
      | false =>
        have HA2 : Hid (k + 1 ≤ leastN r hs) := HS.out.2 rfl
        go_wp2
        go_roundw
        case rel => exact ⟨k + 1, by omega, by go_num, HA2, B4⟩
        case measure => simp [intOf]; omega
    · have b1 : decide ((k : Int) + 1 ≤ 100) = false := decide_eq_false (by omega)
      have HE := Lib.hid (show (-1 : Int) = v by rw [← HV.out]; unfold leastI; have := HA.out; rw [if_neg (by omega)])
      go_wp2
      go_ret
      exact ⟨ret_int HE.out, B⟩
end Go.Proofs.Ytnloejcfakcpfaa
