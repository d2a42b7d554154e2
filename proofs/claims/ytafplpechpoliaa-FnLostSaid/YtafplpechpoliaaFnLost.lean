/-
  FnLost: for every slice of bytes the law returns true and writes nothing that was there. No condition.
-/
import Derived.Test.YtafplpechpoliaaImp4
import Derived.Test.YtafplpechpoliaaDrawFates
namespace Go.Proofs.Ytafplpechpoliaa
open Go.RowKit Go.ChangeShapes Go.WideShapes Go.ChangeAt

set_option maxHeartbeats 8000000 in
set_option maxRecDepth 100000 in
theorem walk_FnLost {A0 : Option Addr} {n0 c0 : Nat} {zs0 : List Int} {w : World} (h0 : Has w A0 n0 (ints .u8 zs0)) (hwf0 : ∀ z ∈ zs0, (Lit.int .u8 z).wf = true) (hc0 : n0 ≤ c0 ∧ c0 ≤ maxLen) :
    Calls Try.prog 7 #[.slice A0 n0 c0] w fun e w' => e = .returned (.bool true) ∧ Below w.heap.size w w' := by
  have hu0 : U8s zs0 := fun z hz => u8_of_wf (hwf0 z hz)
  clear hwf0
  by_cases hn0 : n0 ≤ 1048576
  · go_enter Try.func7, Try.ntmps7
    go_wp2_with (fail)
    refine (drawLostIn_any h0 hu0 hc0).mono ?_
    rintro e w1 h
    unfold FatN at h
    obtain ⟨A1, n1, c1, fs, v, rfl, O1, hf, hn1, v0, v1, B1⟩ := h
    have HC := Lib.hid O1.cap
    go_wp2_with (fail)
    refine (implLostIn_any O1.has hf.i64s (by omega) HC.out (by omega)).mono ?_
    rintro e w2 ⟨rfl, B2⟩
    have C2 := bel_trans B1 B2
    have P2 := O1.bel B2
    go_wp2_with (fail)
    refine (specLostIn_any P2.has hf.i64s (by omega) HC.out (by omega)).mono ?_
    rintro e w3 ⟨rfl, B3⟩
    have C3 := bel_trans C2 B3
    have P3 := P2.bel B3
    by_cases hg : fOk fs ∧ 0 ≤ v ∧ v ≤ 60
    · obtain ⟨m, rfl⟩ := Int.eq_ofNat_of_zero_le hg.2.1
      have hm : m ≤ 60 := by omega
      have HE : lostI fs (m : Int) = (manyN fs 1 m : Int) := by unfold lostI; rw [if_pos hg]; rfl
      have HA := Lib.hid (show (arrI fs (m : Int)).length + manyN fs 1 m = m + manyN fs 2 m by unfold arrI; rw [if_pos hg]; exact len_lost fs m)
      have hy := manyN_le fs 1 m
      have HF : ∀ (k : Nat) (W : World), k ≤ 100000 → Below w3.heap.size w3 W → Calls Try.prog 22 #[.slice A1 n1 c1, .int .i64 (k : Int)] W fun e w' => e = .returned (.int .i64 (fateN fs k)) ∧ Below W.heap.size W w' := fun k W hk hW => by
        have := implFateOf_any (i := (k : Int)) (P3.bel hW).has hf.i64s (by omega) HC.out (by omega)
        rwa [fateI_yes hg.1 k] at this
      have HFH := Lib.hid HF
      rw [HE]
      clear HE HF hg
      generalize manyN fs 1 m = y at *
      go_wp2
      obtain ⟨wo, rfl⟩ : ∃ wo : World, wo = w3 := ⟨_, rfl⟩
      go_loopw [6, 38] (fun t i wr => ∃ k : Nat, k ≤ m ∧ i = .int .i64 ((k : Nat) : Int) ∧ t = .int .i64 ((manyN fs 2 k : Nat) : Int) ∧ Below wo.heap.size wo wr) (fun _ i _ => m - (intOf i).toNat)
      case atStart => exact ⟨0, Nat.zero_le _, rfl, rfl, Below.refl _ _⟩
      case round =>
        obtain ⟨k, hk, rfl, rfl, B4⟩ := hrel
        by_cases hlt : k < m
        · have hltB : decide ((k : Int) < (m : Int)) = true := by simp; omega
          have CF := Lib.hid (HFH.out k wr (by omega) B4)
          have HS := Lib.hid (manyN_snoc fs 2 k)
          have hz := manyN_le fs 2 k
          generalize manyN fs 2 k = z at *
          generalize fateN fs k = f at *
          by_cases h1 : f = 2
          · have h1B : (f == 2) = true := by simp [h1]
            have HS2 : Hid (manyN fs 2 (k + 1) = z + 1) := by have := HS.out; rw [if_pos h1] at this; exact this
            clear h1
            go_wp2_with (fail)
            refine CF.out.mono ?_
            rintro e w5 ⟨rfl, B5⟩
            go_wp2
            go_roundw
            case rel => exact ⟨k + 1, by omega, by go_num, by rw [HS2.out]; go_num, bel_trans B4 B5⟩
            case measure => simp [intOf]; omega
          · have h1B : (f == 2) = false := by simp [h1]
            have HS2 : Hid (manyN fs 2 (k + 1) = z) := by have := HS.out; rw [if_neg h1] at this; exact this
            clear h1
            go_wp2_with (fail)
            refine CF.out.mono ?_
            rintro e w5 ⟨rfl, B5⟩
            go_wp2
            go_roundw
            case rel => exact ⟨k + 1, by omega, by go_num, by rw [HS2.out], bel_trans B4 B5⟩
            case measure => simp [intOf]; omega
        · have hltB : decide ((k : Int) < (m : Int)) = false := by simp; omega
          obtain rfl : k = m := by omega
          have hz := manyN_le fs 2 k
          generalize manyN fs 2 k = z at *
          go_wp2_with (fail)
          refine (implArrivalsOf_any (P3.bel B4).has hf.i64s (by omega) HC.out (by omega)).mono ?_
          rintro e w5 ⟨A5, n5, c5, rfl, O5, B5⟩
          have h5 := O5.has.len
          have hq : n5 + y = k + z := by rw [← h5]; exact HA.out
          have hqB : ((n5 : Int) == (k : Int) - (y : Int) + (z : Int)) = true := by simp; omega
          clear h5 hq
          go_wp2
          go_ret
          exact ⟨rfl, bel_trans (bel_trans C3 B4) B5⟩
    · have HE : lostI fs v = -1 := by unfold lostI; rw [if_neg hg]
      have CS := specLostIn_any (c := c1) (i := v) P3.has hf.i64s (by omega) HC.out (by omega)
      rw [HE] at CS
      have CSH := Lib.hid CS
      rw [HE]
      clear HE hg CS
      go_wp2_with (fail)
      refine CSH.out.mono ?_
      rintro e w4 ⟨rfl, B4⟩
      go_wp2
      go_ret
      exact ⟨rfl, bel_trans C3 B4⟩
  · go_enter Try.func7, Try.ntmps7
    go_wp2
    go_ret
    exact ⟨rfl, Below.refl _ _⟩
set_option maxRecDepth 100000 in
theorem lifted_FnLost (os : Os) (started : os.Started) (H : Type) (enc : TypeId × Value → H) :
    ReturnsInHanded {} Try.checked os 7 .any (Rows.fnLostSpec.pre6 enc Try.prog Try.f7 Rows.fnLostRow.domain false) (Rows.fnLostSpec.post enc Try.prog Try.f7 false true false false) := by
  refine returnsInHanded_of_change (C := Try.checked) (by kernel_rfl) started (by kernel_rfl) Try.func7
    (ChangeSpec.witness6 (enc := enc) (C := Try.checked) false ⟨#[], #[.slice none 0 0], []⟩ 8 (by kernel_rfl) (by kernel_rfl) (by kernel_rfl) (by kernel_rfl)) ?_
  intro W base args ds gs before hval0 hW hcnd _
  have hval : ∀ (j : Nat) t v, Try.f7.params[j]? = some t → args[j]? = some v → Value.okWide Try.prog W .any base t v := hval0
  have hW' := hW
  obtain ⟨p, q, hA0, hV, rfl, hfz, hnd⟩ := hW
  have hA : DataW.TrodAll enc Try.prog W 0 (fun _ => true) true Try.f7.params.toList args.toList ds p := hA0
  rw [Try.params7] at hA hval
  obtain ⟨v0, vs0, d0, ds0, p0, q0, hargs, rfl, rfl, h0, r0⟩ := trodAll_cons hA
  obtain ⟨rfl, rfl, rfl⟩ := trodAll_nil r0
  obtain rfl : args = #[v0] := by cases args; simp_all
  obtain ⟨rfl, rfl⟩ := trodVars_none hV
  obtain ⟨a0, len0, cap0, rfl⟩ := okWide_slice Try.underlying22 (hval 0 22 v0 rfl rfl)
  have k0 := h0
  have lt0 : ∀ x ∈ p0, x.block < W.heap.size := by obtain ⟨m, hm⟩ := k0; exact DataW.trod_lt m _ _ _ hm
  obtain ⟨z0, H0, U0, M0⟩ := has_of_trod (k := .u8) Try.underlying22 Try.underlying5 (by kernel_rfl) h0
  clear hA0 hval0
  refine (walk_FnLost H0 U0 M0).mono fun e W' ⟨he, bel⟩ => ?_
  subst he
  exact ⟨_, rfl, _, _, _, [], _, [], hW', trodAll_mk1 (shut_bool Try.underlying4 _), (trodAll_cons_mk (Below.trod (by kernel_rfl) (by kernel_rfl) (of_decide_eq_true (by kernel_rfl)) k0 bel lt0) trodAll_mk0), rfl, bel.frame _, fun h => by cases h⟩

theorem fnLost_holds : Rows.FnLostSaid :=
  OpenClaim.holds_of_wide 7 Try.f7 rfl rfl rfl rfl rfl rfl rfl ⟨rfl, rfl, rfl, rfl, rfl⟩ rfl rfl rfl rfl rfl (by kernel_rfl) Try.func7 (by kernel_rfl)
    (of_decide_eq_true (by kernel_rfl)) (by unfold Func.isWrapper; first | (rw [if_pos (by decide +kernel)]; kernel_rfl) | (rw [if_neg (by decide +kernel)]; exact ⟨rfl, rfl⟩))
    (fun os started H enc _ => lifted_FnLost os started H enc)
end Go.Proofs.Ytafplpechpoliaa
