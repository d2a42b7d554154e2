/-
  FnLevelsBack: for every slice of bytes the law returns true and writes nothing that was there. No condition.
-/
import Derived.Test.YtbeebaiionlcoaaImp8
import Derived.Test.YtbeebaiionlcoaaDrawLev
import Derived.Test.YtbeebaiionlcoaaWnInts
import Derived.Test.YtbeebaiionlcoaaShut
namespace Go.Proofs.Ytbeebaiionlcoaa
open Go.RowKit Go.ChangeShapes Go.WideShapes Go.ChangeAt

set_option maxHeartbeats 8000000 in
set_option maxRecDepth 100000 in
theorem walk_FnLevelsBack {A0 : Option Addr} {n0 c0 : Nat} {zs0 : List Int} {w : World} (h0 : Has w A0 n0 (ints .u8 zs0)) (hwf0 : ∀ z ∈ zs0, (Lit.int .u8 z).wf = true) (hc0 : n0 ≤ c0 ∧ c0 ≤ maxLen) :
    Calls Try.prog 3 #[.slice A0 n0 c0] w fun e w' => e = .returned (.bool true) ∧ Below w.heap.size w w' := by
  have hu0 : U8s zs0 := fun z hz => u8_of_wf (hwf0 z hz)
  clear hwf0
  by_cases hn0 : n0 ≤ 1048576
  rotate_left
  · go_enter Try.func3, Try.ntmps3
    go_wp2
    go_ret
    exact ⟨rfl, Below.refl _ _⟩
  go_enter Try.func3, Try.ntmps3
  go_wp2_with (fail)
  refine (drawLevelsOf_any h0 hu0 hc0).mono ?_
  rintro e w1 hX
  unfold IntsO at hX
  obtain ⟨A1, n1, c1, zs, rfl, O1, hn1, B1⟩ := hX
  have H1 := O1.has
  clear O1
  go_wp2_with (fail)
  refine (implLevelsOf_w H1 (by omega)).mono ?_
  rintro e w2 ⟨A2, n2, c2, rfl, P2, B2⟩
  have C2 := bel_trans B1 B2
  have H2 := H1.bel B2
  have L2 := P2.has.len
  have hle := levelsL_len zs
  have hn2 : n2 ≤ 400 := by omega
  go_wp2_with (fail)
  refine (specLevelsOf_w H2 (by omega)).mono ?_
  rintro e w3 ⟨A3, n3, c3, rfl, P3, B3⟩
  have C3 := bel_trans C2 B3
  have H3 := H2.bel B3
  have Q3 := P2.has.bel B3
  go_wp2_with (fail)
  refine (wnInts_same Q3 P3.has (by omega)).mono ?_
  rintro e w4 ⟨rfl, B4⟩
  have C4 := bel_trans C3 B4
  have H4 := H3.bel B4
  have Q4 := Q3.bel B4
  clear P2 P3 B1 B2 B3 B4 H1 H2 H3 C2 C3 Q3 hle
  by_cases hz : n2 = 0
  · subst hz
    have hzB : (((0 : Nat) : Int) == 0) = true := rfl
    go_wp2_with (fail)
    refine (specLevelsOf_w H4 (by omega)).mono ?_
    rintro e w5 ⟨A5, n5, c5, rfl, P5, B5⟩
    have C5 := bel_trans C4 B5
    have Q5 := Q4.bel B5
    go_wp2_with (fail)
    refine (wnInts_same Q5 P5.has (by omega)).mono ?_
    rintro e w6 ⟨rfl, B6⟩
    have C6 := bel_trans C5 B6
    go_wp2
    go_ret
    exact ⟨rfl, C6⟩
  have hzB : ((n2 : Int) == 0) = false := by simp; omega
  have hok : okBits zs = true ∧ zs.length ≤ 200 := Classical.byContradiction fun hh => by
    rw [levelsL_no hh] at L2; simp at L2; omega
  have HOK := Lib.hid hok
  rw [levelsL_yes hok.1 hok.2] at L2 Q4
  have hlp := levelsP_len zs
  have HBK := Lib.hid (bitsFrom_levels hok.1 hok.2)
  have HBB := Lib.hid (levelsP_bits hok.1)
  have HL2 := Lib.hid L2
  have HSUM := Lib.hid (sumZ_levels zs)
  have HN := Lib.hid (show (n2 : Int) = 2 * (zs.length : Int) by omega)
  have hn1' : n1 ≤ 16777216 := by omega
  clear hok L2 hlp hz
  go_wp2
  go_loopw [5, 33] (fun v t wr => ∃ k : Nat, k ≤ n2 ∧ t = .int .i64 (k : Int) ∧ v = .int .i64 (sumZ ((levelsP zs).take k)) ∧ Below w4.heap.size w4 wr) (fun _ t _ => n2 - (intOf t).toNat)
  case atStart => exact ⟨0, Nat.zero_le _, rfl, rfl, Below.refl _ _⟩
  case round =>
    obtain ⟨k, hk, rfl, rfl, B5⟩ := hrel
    by_cases hlt : k < n2
    · have hltB : decide ((k : Int) < (n2 : Int)) = true := by simp; omega
      obtain ⟨b, o, z, rfl, hbl, hx, hc⟩ := Q4.at_ hlt
      have k0 := (B5.cell (p := ⟨b, o + k, none⟩) hbl).trans hc
      have HT := Lib.hid (show sumZ ((levelsP zs).take (k + 1)) = sumZ ((levelsP zs).take k) + z by rw [List.take_add_one, hx]; exact sumZ_snoc _ _)
      have hs := sumZ_bits (okBits_take HBB.out k)
      have hs2 := sumZ_bits (okBits_take HBB.out (k + 1))
      rw [HT.out] at hs2
      have hlen : ((levelsP zs).take k).length ≤ 400 := by rw [List.length_take]; omega
      have hlen2 : ((levelsP zs).take (k + 1)).length ≤ 400 := by rw [List.length_take]; have := HL2.out; omega
      obtain ⟨sm, hsm⟩ : ∃ sm, sumZ ((levelsP zs).take k) = sm := ⟨_, rfl⟩
      rw [hsm] at hs hs2 HT
      have hW : IntKind.i64.wrap (sm + z) = sm + z := IntWalk.i64_in _ (by omega)
      rw [hsm]
      clear hx hc hs hs2 hlen hlen2 hsm
      go_wp2
      go_roundw
      case rel => exact ⟨k + 1, by omega, by go_num, by rw [HT.out], B5⟩
      case measure => simp [intOf]; omega
    · have hltB : decide ((k : Int) < (n2 : Int)) = false := by simp; omega
      obtain rfl : k = n2 := by omega
      have hsum : sumZ ((levelsP zs).take k) = (zs.length : Int) := by rw [List.take_of_length_le (by have := HL2.out; omega)]; exact HSUM.out
      rw [hsum]
      have Q5 := Q4.bel B5
      have H5 := H4.bel B5
      have C5 := bel_trans C4 B5
      have hN := HN.out
      have hzl : zs.length = n1 := H5.len
      rw [hzl] at hN ⊢
      have hW : IntKind.i64.wrap (2 * (n1 : Int)) = 2 * (n1 : Int) := IntWalk.i64_in _ (by omega)
      have hB : (2 * (n1 : Int) == (k : Int)) = true := by simp; omega
      have HZ := Lib.hid hzl
      clear hN hsum hzl
      go_wp2_with (fail)
      refine (implBitsFrom_r HBK.out Q5 (by omega)).mono ?_
      rintro e w6 ⟨A6, n6, c6, rfl, P6, B6⟩
      have C6 := bel_trans C5 B6
      have H6 := H5.bel B6
      have hn6 : n6 ≤ 16777216 := by have q1 := P6.has.len; have q2 := HZ.out; dsimp only at q1; omega
      go_wp2_with (fail)
      refine (wnInts_same P6.has H6 hn6).mono ?_
      rintro e w7 ⟨rfl, B7⟩
      have C7 := bel_trans C6 B7
      go_wp2
      go_ret
      exact ⟨rfl, C7⟩
set_option maxRecDepth 100000 in
theorem lifted_FnLevelsBack (os : Os) (started : os.Started) (H : Type) (enc : TypeId × Value → H) :
    ReturnsInHanded {} Try.checked os 3 .any (Rows.fnLevelsBackSpec.pre6 enc Try.prog Try.f3 Rows.fnLevelsBackRow.domain false) (Rows.fnLevelsBackSpec.post enc Try.prog Try.f3 false true false false) := by
  refine returnsInHanded_of_change (C := Try.checked) (by kernel_rfl) started (by kernel_rfl) Try.func3
    (ChangeSpec.witness6 (enc := enc) (C := Try.checked) false ⟨#[], #[.slice none 0 0], []⟩ 8 (by kernel_rfl) (by kernel_rfl) (by kernel_rfl) (by kernel_rfl)) ?_
  intro W base args ds gs before hval0 hW hcnd _
  have hval : ∀ (j : Nat) t v, Try.f3.params[j]? = some t → args[j]? = some v → Value.okWide Try.prog W .any base t v := hval0
  have hW' := hW
  obtain ⟨p, q, hA0, hV, rfl, hfz, hnd⟩ := hW
  have hA : DataW.TrodAll enc Try.prog W 0 (fun _ => true) true Try.f3.params.toList args.toList ds p := hA0
  rw [Try.params3] at hA hval
  obtain ⟨v0, vs0, d0, ds0, p0, q0, hargs, rfl, rfl, h0, r0⟩ := trodAll_cons hA
  obtain ⟨rfl, rfl, rfl⟩ := trodAll_nil r0
  obtain rfl : args = #[v0] := by cases args; simp_all
  obtain ⟨rfl, rfl⟩ := trodVars_none hV
  obtain ⟨a0, len0, cap0, rfl⟩ := okWide_slice Try.underlying22 (hval 0 22 v0 rfl rfl)
  have k0 := h0
  have lt0 : ∀ x ∈ p0, x.block < W.heap.size := by obtain ⟨m, hm⟩ := k0; exact DataW.trod_lt m _ _ _ hm
  obtain ⟨z0, H0, U0, M0⟩ := has_of_trod (k := .u8) Try.underlying22 Try.underlying5 (by kernel_rfl) h0
  clear hA0 hval0
  refine (walk_FnLevelsBack H0 U0 M0).mono fun e W' ⟨he, bel⟩ => ?_
  subst he
  exact ⟨_, rfl, _, _, _, [], _, [], hW', trodAll_mk1 (shut_bool Try.underlying4 _), (trodAll_cons_mk (Below.trod (by kernel_rfl) (by kernel_rfl) (of_decide_eq_true (by kernel_rfl)) k0 bel lt0) trodAll_mk0), rfl, bel.frame _, fun h => by cases h⟩

theorem fnLevelsBack_holds : Rows.FnLevelsBackSaid :=
  OpenClaim.holds_of_wide 3 Try.f3 rfl rfl rfl rfl rfl rfl rfl ⟨rfl, rfl, rfl, rfl, rfl⟩ rfl rfl rfl rfl rfl (by kernel_rfl) Try.func3
    (by unfold joinedFacts; with_reducible refine Bool.and_eq_true_iff.2 ⟨?_, (by as_aux_lemma => kernel_rfl)⟩; with_reducible refine Bool.and_eq_true_iff.2 ⟨?_, (by as_aux_lemma => kernel_rfl)⟩; with_reducible refine Bool.and_eq_true_iff.2 ⟨?_, (by as_aux_lemma => kernel_rfl)⟩; with_reducible refine Bool.and_eq_true_iff.2 ⟨?_, (by as_aux_lemma => kernel_rfl)⟩; with_reducible refine Bool.and_eq_true_iff.2 ⟨?_, (by with_unfolding_all exact shutMake)⟩; with_reducible refine Bool.and_eq_true_iff.2 ⟨?_, (by with_unfolding_all exact shutLifts)⟩; with_reducible refine Bool.and_eq_true_iff.2 ⟨?_, shutEnter⟩; (repeat (with_reducible refine Bool.and_eq_true_iff.2 ⟨?_, (by as_aux_lemma => kernel_rfl)⟩)); as_aux_lemma => kernel_rfl)
    (of_decide_eq_true (by kernel_rfl)) (by unfold Func.isWrapper; first | (rw [if_pos (by decide +kernel)]; kernel_rfl) | (rw [if_neg (by decide +kernel)]; exact ⟨rfl, rfl⟩))
    (fun os started H enc _ => lifted_FnLevelsBack os started H enc)
end Go.Proofs.Ytbeebaiionlcoaa
