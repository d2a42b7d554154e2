/-
  FnTokens: for every argument the law of tokens returns true and writes nothing that was there. No condition.
-/
import Derived.Test.YtnloejcfakcpfaaDrawShp
import Derived.Test.YtnloejcfakcpfaaImp14e
import Derived.Test.YtnloejcfakcpfaaShpD
import Derived.Test.YtnloejcfakcpfaaShut
namespace Go.Proofs.Ytnloejcfakcpfaa
open Go.RowKit Go.ChangeShapes Go.WideShapes Go.ChangeAt

set_option maxRecDepth 100000 in
set_option maxHeartbeats 8000000 in
theorem walk_FnTokens {A : Option Addr} {n c : Nat} {zs : List Int} {w : World} (h : Has w A n (ints .u8 zs)) (hwf : ∀ z ∈ zs, (Lit.int .u8 z).wf = true) (hc : n ≤ c ∧ c ≤ maxLen) :
    Calls Try.prog 8 #[.slice A n c] w fun e w' => e = .returned (.bool true) ∧ Below w.heap.size w w' := by
  have hu : U8s zs := fun z hz => u8_of_wf (hwf z hz)
  clear hwf
  by_cases hn : n ≤ 1048576
  rotate_left
  · go_enter Try.func8, Try.ntmps8
    go_wp2
    go_ret
    exact ⟨rfl, Below.refl _ _⟩
  go_enter Try.func8, Try.ntmps8
  go_wp2_with (fail)
  refine (drawTokensAt_any h hu hc).mono ?_
  rintro e w1 ⟨a, b, B, m, d, js, t, rfl, H1, h21, htb, B1⟩
  obtain ⟨R, hR⟩ : ∃ R, tokI a b js t = R := ⟨_, rfl⟩
  have bB : (R != R) = false := by simp
  have bE : (R == R) = true := by simp
  go_wp2_with (fail)
  refine (implTokensAt_r H1 (by omega) hR).mono ?_
  rintro e w2 ⟨rfl, B2⟩
  have C2 := bel_trans B1 B2
  have H2 := H1.bel B2
  go_wp2_with (fail)
  refine (specTokensAt_r H2 (by omega) hR).mono ?_
  rintro e w3 ⟨rfl, B3⟩
  have C3 := bel_trans C2 B3
  have H3 := H2.bel B3
  clear H1 H2 B1 B2 B3 C2
  by_cases hok : shOk a b js ∧ 0 ≤ t ∧ t ≤ 2000
  rotate_left
  · obtain rfl : R = -1 := by rw [← hR]; exact if_neg hok
    clear hok
    go_wp2_with (fail)
    refine (specTokensAt_r H3 (by omega) hR).mono ?_
    rintro e w4 ⟨rfl, B4⟩
    go_wp2
    go_ret
    exact ⟨rfl, bel_trans C3 B4⟩
  have hR2 : tokAt a b js t = R := by rw [← hR]; unfold tokI; rw [if_pos hok]
  obtain ⟨hok, ht0, ht1⟩ := hok
  have hrb := tokAt_bound hok ht0
  rw [hR2] at hrb
  have r0 : decide (R < 0) = false := decide_eq_false (by omega)
  have r1 : decide (R > b) = false := decide_eq_false (by omega)
  have r2 : decide (b < R) = false := decide_eq_false (by omega)
  by_cases hz : t = 0
  · subst hz
    clear hrb hok
    go_wp2
    go_ret
    exact ⟨rfl, C3⟩
  have z1 : (t == 0) = false := by simp [hz]
  obtain ⟨L, hL⟩ : ∃ L, polI a b js = L := ⟨_, rfl⟩
  have HL := Lib.hid (show polTo a b js js.length = L by rw [← hL]; unfold polI; rw [if_pos hok])
  have HLN := Lib.hid H3.1
  have HOK := Lib.hid hok
  have HLaw := Lib.hid (show R = min b (tokAt a b js (t - 1) + a) - takenTo a b js t js.length by rw [← hR2]; exact tok_law hok)
  have K := Lib.hid (implPolicePulses_r (c := d) H3 (by omega) hL)
  have htb0 := tokAt_bound hok (t := t - 1) (by omega)
  obtain ⟨Q, hQ⟩ : ∃ Q, tokAt a b js (t - 1) = Q := ⟨_, rfl⟩
  have hQ2 : tokI a b js (t - 1) = Q := by rw [← hQ]; unfold tokI; rw [if_pos ⟨hok, by omega, by omega⟩]
  rw [hQ] at HLaw htb0
  have HQ := Lib.hid hQ2
  have hab := hok.1
  have hbb := hok.2.1
  clear hR hR2 hL hok hQ hQ2 hrb
  go_wp2_with (fail)
  refine K.out.mono ?_
  rintro e w4 ⟨A4, n4, c4, rfl, O4, B4⟩
  have H4 := H3.bel B4
  have C4 := bel_trans C3 B4
  have P4 := O4.has
  have hn4 : n4 = m := by have h1 := has_bools_len P4; rw [← HL.out, polTo_len, HLN.out] at h1; omega
  have hlm := HLN.out
  subst hn4
  clear H3 C3 B4 O4 hn
  go_wp2
  go_loop [8, 58] (fun s i => ∃ (k : Nat) (S : Int), k ≤ n4 ∧ i = .int .i64 (k : Int) ∧ s = .int .i64 S ∧ Hid (S = takenTo a b js t k)) (fun _ i => n4 - (intOf i).toNat)
  case atStart =>
    have h0 : Hid (0 = takenTo a b js t 0) := rfl
    exact ⟨0, 0, Nat.zero_le _, rfl, rfl, h0⟩
  case round =>
    obtain ⟨k, S, hk, rfl, rfl, HS⟩ := hrel
    by_cases hlt : k < n4
    · have l1 : decide ((k : Int) < (n4 : Int)) = true := decide_eq_true (by omega)
      obtain ⟨b0, o0, f, s, rfl, hbl, hx, c0, c1⟩ := H4.at_ hlt
      obtain ⟨b1, o1, rfl, _, c2⟩ := has_bool P4 hlt
      have hdj := dj_atS hx
      obtain ⟨p, hp⟩ : ∃ p, thr a b js k = p := ⟨_, rfl⟩
      have hLp : L.getD k false = p := by rw [← HL.out, List.getD_eq_getElem?_getD, polTo_at _ _ _ (by omega), ← hp]; rfl
      rw [hLp] at c2
      have hsz := (pu_at HOK.out.2.2 (i := k) (by omega)).2
      have htk := taken_bound (r := a) (b := b) HOK.out.2.2 (t := t) k (by omega)
      rw [← HS.out] at htk
      have hn60 := HOK.out.2.2.2.2
      rw [hdj] at hsz
      dsimp only at hsz
      have w1 : IntKind.i64.wrap (S + s) = S + s := IntWalk.i64_in _ (by omega)
      have hsucc := taken_succ a b js t k
      rw [hdj, hp, ← HS.out] at hsucc
      cases p with
      | true =>
        by_cases hf : f = t
        · have f1 : (f == t) = true := by simp [hf]
          have HN : Hid (S + s = takenTo a b js t (k + 1)) := by
            have : S + s = takenTo a b js t (k + 1) := by rw [hsucc, if_pos ⟨hf, rfl⟩]
            exact this
          clear hx hdj hp hLp hsz htk hn60 hsucc hf
          go_wp2
          go_round
          case rel => exact ⟨k + 1, _, by omega, by go_num, rfl, HN⟩
          case measure => simp [intOf]; omega
        · have f1 : (f == t) = false := by simp [hf]
          have HN : Hid (S = takenTo a b js t (k + 1)) := by
            have : S = takenTo a b js t (k + 1) := by rw [hsucc, if_neg (fun hh => hf hh.1)]; omega
            exact this
          clear hx hdj hp hLp hsz htk hn60 hsucc hf
          go_wp2
          go_round
          case rel => exact ⟨k + 1, _, by omega, by go_num, rfl, HN⟩
          case measure => simp [intOf]; omega
      | false =>
        have HN : Hid (S = takenTo a b js t (k + 1)) := by
          have : S = takenTo a b js t (k + 1) := by rw [hsucc, if_neg (by simp)]; omega
          exact this
        clear hx hdj hp hLp hsz htk hn60 hsucc
        go_wp2
        go_round
        case rel => exact ⟨k + 1, _, by omega, by go_num, rfl, HN⟩
        case measure => simp [intOf]; omega
    · have l1 : decide ((k : Int) < (n4 : Int)) = false := decide_eq_false (by omega)
      obtain rfl : k = n4 := by omega
      have K2 := Lib.hid (implTokensAt_r (c := d) H4 (by omega) HQ.out)
      have v1 : IntKind.i64.wrap (t - 1) = t - 1 := IntWalk.i64_in _ (by omega)
      have v2 : IntKind.i64.wrap (Q + a) = Q + a := IntWalk.i64_in _ (by omega)
      obtain ⟨N, hN⟩ : ∃ N, min b (Q + a) = N := ⟨_, rfl⟩
      have hlaw := HLaw.out
      rw [hN, hlm, ← HS.out] at hlaw
      have htk := taken_bound (r := a) (b := b) HOK.out.2.2 (t := t) k (by omega)
      rw [← HS.out] at htk
      have v3 : IntKind.i64.wrap (N - S) = R := by rw [hlaw]; exact IntWalk.i64_in _ (by omega)
      clear hlaw htk
      go_wp2_with (fail)
      refine K2.out.mono ?_
      rintro e w5 ⟨rfl, B5⟩
      go_wp2
      go_ret
      exact ⟨rfl, bel_trans C4 B5⟩
set_option maxRecDepth 100000 in
theorem lifted_FnTokens (os : Os) (started : os.Started) (H : Type) (enc : TypeId × Value → H) :
    ReturnsInHanded {} Try.checked os 8 .any (Rows.fnTokensSpec.pre6 enc Try.prog Try.f8 Rows.fnTokensRow.domain false) (Rows.fnTokensSpec.post enc Try.prog Try.f8 false true false false) := by
  refine returnsInHanded_of_change (C := Try.checked) (by kernel_rfl) started (by kernel_rfl) Try.func8
    (ChangeSpec.witness6 (enc := enc) (C := Try.checked) false ⟨#[], #[.slice none 0 0], []⟩ 8 (by kernel_rfl) (by kernel_rfl) (by kernel_rfl) (by kernel_rfl)) ?_
  intro W base args ds gs before hval0 hW hcnd _
  have hval : ∀ (j : Nat) t v, Try.f8.params[j]? = some t → args[j]? = some v → Value.okWide Try.prog W .any base t v := hval0
  have hW' := hW
  obtain ⟨p, q, hA0, hV, rfl, hfz, hnd⟩ := hW
  have hA : DataW.TrodAll enc Try.prog W 0 (fun _ => true) true Try.f8.params.toList args.toList ds p := hA0
  rw [Try.params8] at hA hval
  obtain ⟨v0, vs0, d0, ds0, p0, q0, hargs, rfl, rfl, h0, r0⟩ := trodAll_cons hA
  obtain ⟨rfl, rfl, rfl⟩ := trodAll_nil r0
  obtain rfl : args = #[v0] := by cases args; simp_all
  obtain ⟨rfl, rfl⟩ := trodVars_none hV
  obtain ⟨a0, len0, cap0, rfl⟩ := okWide_slice Try.underlying22 (hval 0 22 v0 rfl rfl)
  have k0 := h0
  have lt0 : ∀ x ∈ p0, x.block < W.heap.size := by obtain ⟨m, hm⟩ := k0; exact DataW.trod_lt m _ _ _ hm
  obtain ⟨z0, H0, U0, M0⟩ := has_of_trod (k := .u8) Try.underlying22 Try.underlying5 (by kernel_rfl) h0
  clear hA0 hval0
  refine (walk_FnTokens H0 U0 M0).mono fun e W' ⟨he, bel⟩ => ?_
  subst he
  exact ⟨_, rfl, _, _, _, [], _, [], hW', trodAll_mk1 (shut_bool Try.underlying4 _), (trodAll_cons_mk (Below.trod (by kernel_rfl) (by kernel_rfl) (of_decide_eq_true (by kernel_rfl)) k0 bel lt0) trodAll_mk0), rfl, bel.frame _, fun h => by cases h⟩

theorem fnTokens_holds : Rows.FnTokensSaid :=
  OpenClaim.holds_of_wide 8 Try.f8 rfl rfl rfl rfl rfl rfl rfl ⟨rfl, rfl, rfl, rfl, rfl⟩ rfl rfl rfl rfl rfl (by kernel_rfl) Try.func8
    (by unfold joinedFacts; with_reducible refine Bool.and_eq_true_iff.2 ⟨?_, (by as_aux_lemma => kernel_rfl)⟩; with_reducible refine Bool.and_eq_true_iff.2 ⟨?_, (by as_aux_lemma => kernel_rfl)⟩; with_reducible refine Bool.and_eq_true_iff.2 ⟨?_, (by as_aux_lemma => kernel_rfl)⟩; with_reducible refine Bool.and_eq_true_iff.2 ⟨?_, (by as_aux_lemma => kernel_rfl)⟩; with_reducible refine Bool.and_eq_true_iff.2 ⟨?_, (by with_unfolding_all exact shutMake)⟩; with_reducible refine Bool.and_eq_true_iff.2 ⟨?_, (by with_unfolding_all exact shutLifts)⟩; with_reducible refine Bool.and_eq_true_iff.2 ⟨?_, shutEnter⟩; (repeat (with_reducible refine Bool.and_eq_true_iff.2 ⟨?_, (by as_aux_lemma => kernel_rfl)⟩)); as_aux_lemma => kernel_rfl)
    (of_decide_eq_true (by kernel_rfl)) (by unfold Func.isWrapper; first | (rw [if_pos (by decide +kernel)]; kernel_rfl) | (rw [if_neg (by decide +kernel)]; exact ⟨rfl, rfl⟩))
    (fun os started H enc _ => lifted_FnTokens os started H enc)
end Go.Proofs.Ytnloejcfakcpfaa
