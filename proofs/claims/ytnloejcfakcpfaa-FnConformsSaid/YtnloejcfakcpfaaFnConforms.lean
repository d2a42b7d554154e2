/-
  FnConforms: for every argument the law of conforming from any frame to any later one returns true and writes nothing that was there. No condition.
-/
import Derived.Test.YtnloejcfakcpfaaDrawShp
import Derived.Test.YtnloejcfakcpfaaImp14d
import Derived.Test.YtnloejcfakcpfaaShpB
import Derived.Test.YtnloejcfakcpfaaShpY
import Derived.Test.YtnloejcfakcpfaaShut
namespace Go.Proofs.Ytnloejcfakcpfaa
open Go.RowKit Go.ChangeShapes Go.WideShapes Go.ChangeAt

/-- What is kept, behind i whole rounds and j steps of the next one. -/
def keepB (r b : Int) (hs : List Duo) (i j : Nat) : Bool := decide ((∀ p, p < i → ∀ q, q < hs.length - p → goodP r b hs p q) ∧ ∀ q, q < j → goodP r b hs i q)
theorem keepB_zero (r b : Int) (hs : List Duo) : keepB r b hs 0 0 = true := decide_eq_true ⟨fun p hp => by omega, fun q hq => by omega⟩
theorem keepB_step (r b : Int) (hs : List Duo) (i j : Nat) : keepB r b hs i (j + 1) = (keepB r b hs i j && decide (goodP r b hs i j)) := by
  unfold keepB
  rw [← Bool.decide_and, decide_eq_decide]
  constructor
  · rintro ⟨h1, h2⟩; exact ⟨⟨h1, fun q hq => h2 q (by omega)⟩, h2 j (by omega)⟩
  · rintro ⟨⟨h1, h2⟩, h3⟩
    refine ⟨h1, fun q hq => ?_⟩
    by_cases he : q = j
    · subst he; exact h3
    · exact h2 q (by omega)
theorem keepB_next {r b : Int} {hs : List Duo} {i : Nat} : keepB r b hs i (hs.length - i) = keepB r b hs (i + 1) 0 := by
  unfold keepB
  rw [decide_eq_decide]
  constructor
  · rintro ⟨h1, h2⟩
    refine ⟨fun p hp q hq => ?_, fun q hq => by omega⟩
    by_cases he : p = i
    · subst he; exact h2 q hq
    · exact h1 p (by omega) q hq
  · rintro ⟨h1, _⟩
    exact ⟨fun p hp q hq => h1 p (by omega) q hq, fun q hq => h1 i (by omega) q hq⟩
theorem keepB_all {r b : Int} {hs : List Duo} (h : shOk r b hs) : decide (confP r b hs) = keepB r b hs hs.length 0 := by
  unfold keepB
  rw [decide_eq_decide, conf_iff h]
  exact ⟨fun hh => ⟨hh, fun q hq => by omega⟩, fun hh => hh.1⟩
theorem sumS_bound {hs : List Duo} (h : pulOk hs) (i : Nat) : ∀ n, i + n ≤ hs.length → 0 ≤ sumS hs i n ∧ sumS hs i n ≤ 50 * (n : Int)
  | 0, _ => ⟨Int.le_refl _, by unfold sumS; omega⟩
  | n + 1, hn => by
    have := sumS_bound h i n (by omega)
    have := (pu_at h (i := i + n) (by omega)).2
    unfold sumS
    omega
set_option maxRecDepth 100000 in
set_option maxHeartbeats 8000000 in
theorem walk_FnConforms {A : Option Addr} {n c : Nat} {zs : List Int} {w : World} (h : Has w A n (ints .u8 zs)) (hwf : ∀ z ∈ zs, (Lit.int .u8 z).wf = true) (hc : n ≤ c ∧ c ≤ maxLen) :
    Calls Try.prog 3 #[.slice A n c] w fun e w' => e = .returned (.bool true) ∧ Below w.heap.size w w' := by
  have hu : U8s zs := fun z hz => u8_of_wf (hwf z hz)
  clear hwf
  by_cases hn : n ≤ 1048576
  rotate_left
  · go_enter Try.func3, Try.ntmps3
    go_wp2
    go_ret
    exact ⟨rfl, Below.refl _ _⟩
  go_enter Try.func3, Try.ntmps3
  go_wp2_with (fail)
  refine (drawConforms_any h hu hc).mono ?_
  rintro e w1 ⟨a, b, B, m, d, js, rfl, H1, hmd, h21, B1⟩
  obtain ⟨R, hR⟩ : ∃ R, decide (confP a b js) = R := ⟨_, rfl⟩
  obtain ⟨V, hV⟩ : ∃ V, decide (pulOk js) = V := ⟨_, rfl⟩
  have bB : (R != R) = false := by simp
  have bE : (R == R) = true := by simp
  have vB : (V != V) = false := by simp
  have HR := Lib.hid hR
  have HV := Lib.hid hV
  have HLN := Lib.hid H1.1
  clear hR hV hn
  go_wp2_with (fail)
  refine (implConforms_b H1 (by omega) HR.out).mono ?_
  rintro e w2 ⟨rfl, B2⟩
  have C2 := bel_trans B1 B2
  have H2 := H1.bel B2
  go_wp2_with (fail)
  refine (specConforms_b H2 (by omega) HR.out).mono ?_
  rintro e w3 ⟨rfl, B3⟩
  have C3 := bel_trans C2 B3
  have H3 := H2.bel B3
  clear H1 H2 B1 B2 B3 C2
  go_wp2_with (fail)
  refine (implPulsesValid_b H3 (by omega) HV.out).mono ?_
  rintro e w4 ⟨rfl, B4⟩
  have C4 := bel_trans C3 B4
  have H4 := H3.bel B4
  go_wp2_with (fail)
  refine (specPulsesValid_b H4 (by omega) HV.out).mono ?_
  rintro e w5 ⟨rfl, B5⟩
  have C5 := bel_trans C4 B5
  have H5 := H4.bel B5
  clear H3 H4 B4 B5 C3 C4
  go_wp2_with (fail)
  refine (implPulsesValid_b H5 (by omega) HV.out).mono ?_
  rintro e w6 ⟨rfl, B6⟩
  have C6 := bel_trans C5 B6
  have H6 := H5.bel B6
  clear H5 B6 C5
  cases V with
  | false =>
    obtain rfl : R = false := by rw [← HR.out]; exact decide_eq_false fun hh => absurd hh.1.2.2 (of_decide_eq_false HV.out)
    go_wp2
    go_ret
    exact ⟨rfl, C6⟩
  | true =>
  have hpv := of_decide_eq_true HV.out
  by_cases ha1 : a < 1
  · have a1 : decide (a < 1) = true := decide_eq_true ha1
    obtain rfl : R = false := by rw [← HR.out]; exact decide_eq_false fun hh => by have := hh.1.1; omega
    clear ha1 hpv
    go_wp2
    go_ret
    exact ⟨rfl, C6⟩
  have a1 : decide (a < 1) = false := decide_eq_false ha1
  by_cases ha2 : a > 20
  · have a2 : decide (a > 20) = true := decide_eq_true ha2
    have a3 : decide (20 < a) = true := decide_eq_true ha2
    obtain rfl : R = false := by rw [← HR.out]; exact decide_eq_false fun hh => by have := hh.1.1; omega
    clear ha1 ha2 hpv
    go_wp2
    go_ret
    exact ⟨rfl, C6⟩
  have a2 : decide (a > 20) = false := decide_eq_false ha2
  have a3 : decide (20 < a) = false := decide_eq_false ha2
  by_cases hb1 : b < 1
  · have b1 : decide (b < 1) = true := decide_eq_true hb1
    obtain rfl : R = false := by rw [← HR.out]; exact decide_eq_false fun hh => by have := hh.1.2.1; omega
    clear ha1 ha2 hb1 hpv
    go_wp2
    go_ret
    exact ⟨rfl, C6⟩
  have b1 : decide (b < 1) = false := decide_eq_false hb1
  by_cases hb2 : b > 100
  · have b2 : decide (b > 100) = true := decide_eq_true hb2
    have b3 : decide (100 < b) = true := decide_eq_true hb2
    obtain rfl : R = false := by rw [← HR.out]; exact decide_eq_false fun hh => by have := hh.1.2.1; omega
    clear ha1 ha2 hb1 hb2 hpv
    go_wp2
    go_ret
    exact ⟨rfl, C6⟩
  have b2 : decide (b > 100) = false := decide_eq_false hb2
  have b3 : decide (100 < b) = false := decide_eq_false hb2
  have HOK := Lib.hid (show shOk a b js from ⟨by omega, by omega, hpv⟩)
  have hab : 1 ≤ a ∧ a ≤ 20 := by omega
  have hbb : 1 ≤ b ∧ b ≤ 100 := by omega
  have HALL := Lib.hid (show R = keepB a b js js.length 0 by rw [← HR.out]; exact keepB_all HOK.out)
  have K0 : Hid (true = keepB a b js 0 0) := (keepB_zero a b js).symm
  have hlm := HLN.out
  clear ha1 ha2 hb1 hb2 hpv
  go_wp2
  go_loopw [7, 61] (fun kp i wr => ∃ (k : Nat) (q : Bool), k ≤ m ∧ i = .int .i64 (k : Int) ∧ kp = .bool q ∧ Hid (q = keepB a b js k 0) ∧ HasD wr B m js ∧ Below w.heap.size w wr) (fun _ i _ => m - (intOf i).toNat)
  case atStart => exact ⟨0, true, Nat.zero_le _, rfl, rfl, K0, H6, C6⟩
  case round =>
    clear H6 C6 K0
    obtain ⟨k, q, hk, rfl, rfl, HK, H, C⟩ := hrel
    by_cases hlt : k < m
    · have l1 : decide ((k : Int) < (m : Int)) = true := decide_eq_true (by omega)
      obtain ⟨X, HT, HX⟩ := run_tailD (P := Try.prog) (t := 23) (e := 29) (c := d) (l := k) (z := (k : Int)) Try.underlying23 (fun _ => by kernel_rfl) H hmd hlt rfl
      obtain ⟨b0, o0, fk, tk, hA, hbl0, hxk, ck, _⟩ := H.at_ hlt
      have hfk := pu_at HOK.out.2.2 (i := k) (by omega)
      rw [dj_atS hxk] at hfk
      have hfk1 := hfk.1
      dsimp only at hfk1
      have HXK := Lib.hid (dj_atS hxk)
      obtain ⟨l, hl⟩ : ∃ l, m - k = l := ⟨_, rfl⟩
      rw [hl] at HT HX
      have HLL := Lib.hid hl
      have S0 : Hid (0 = sumS js k 0) := rfl
      have ik : (k : Int) < (m : Int) := by omega
      have HCK := Lib.hid ck
      have hcap : ¬ d = k := by omega
      have hcap2 : ((d : Int) - (k : Int)) = ((d - k : Nat) : Int) := by omega
      subst hA
      clear hxk hfk ck
      go_wp2
      generalize hwb : wr = wb at *
      have H0 := Lib.hid H
      have HX0 := Lib.hid HX
      have C0 := Lib.hid C
      have DB0 := Below.refl wb.heap.size wb
      clear hwb H HX C
      go_loopw [9, 7, 68] (fun s kp i wr => ∃ (j : Nat) (S : Int) (q' : Bool), j ≤ l ∧ i = .int .i64 (j : Int) ∧ s = .int .i64 S ∧ kp = .bool q' ∧ Hid (S = sumS js k j) ∧ Hid (q' = keepB a b js k j) ∧ Below wb.heap.size wb wr) (fun _ _ i _ => l - (intOf i).toNat)
      case atStart => exact ⟨0, 0, q, Nat.zero_le _, rfl, rfl, rfl, S0, HK, DB0⟩
      case round =>
        clear S0 DB0
        obtain ⟨j, S, q', hj, rfl, rfl, rfl, HS, HQ, DB⟩ := hrel
        by_cases hjl : j < l
        · have l2 : decide ((j : Int) < (l : Int)) = true := decide_eq_true (by omega)
          obtain ⟨b1, o1, f, t, rfl, hbl1, hx, c0, c1⟩ := (HX0.out.bel DB).at_ hjl
          have hx2 : js[k + j]? = some (f, t) := by rw [← hx, List.getElem?_drop]
          have hkj : k + j < js.length := (List.getElem?_eq_some_iff.1 hx2).1
          have hpu := pu_at HOK.out.2.2 (i := k + j) hkj
          have hge := asc_le HOK.out.2.2.2.1 (i := k) (j := k + j) (by omega) hkj
          rw [dj_atS hx2] at hpu hge
          rw [HXK.out] at hge
          obtain ⟨hf, ht⟩ := hpu
          dsimp only at hf ht hge
          have hsb := sumS_bound HOK.out.2.2 k j (by omega)
          rw [← HS.out] at hsb
          have hn60 := HOK.out.2.2.2.2
          obtain ⟨S2, hS2⟩ : ∃ S2, S + t = S2 := ⟨_, rfl⟩
          have HS2 : Hid (S2 = sumS js k (j + 1)) := by
            have : S2 = sumS js k (j + 1) := by unfold sumS; rw [dj_atS hx2, ← HS.out]; exact hS2.symm
            exact this
          obtain ⟨x, hxx⟩ : ∃ x, f - fk = x := ⟨_, rfl⟩
          obtain ⟨y, hy⟩ : ∃ y, a * x = y := ⟨_, rfl⟩
          have hyb : 0 ≤ y ∧ y ≤ 40000 := by
            rw [← hy]
            exact ⟨Int.mul_nonneg (by omega) (by omega), by have := Int.mul_le_mul hab.2 (show x ≤ 2000 by omega) (show 0 ≤ x by omega) (by omega); omega⟩
          obtain ⟨z, hz⟩ : ∃ z, b + y = z := ⟨_, rfl⟩
          have v1 : IntKind.i64.wrap (S + t) = S2 := by rw [hS2]; exact IntWalk.i64_in _ (by omega)
          have v2 : IntKind.i64.wrap (f - fk) = x := by rw [hxx]; exact IntWalk.i64_in _ (by omega)
          have v3 : IntKind.i64.wrap (a * x) = y := by rw [hy]; exact IntWalk.i64_in _ (by omega)
          have v4 : IntKind.i64.wrap (b + y) = z := by rw [hz]; exact IntWalk.i64_in _ (by omega)
          obtain ⟨g, hg⟩ : ∃ g, decide (S2 ≤ z) = g := ⟨_, rfl⟩
          have HQ2 : Hid ((q' && g) = keepB a b js k (j + 1)) := by
            have : (q' && g) = keepB a b js k (j + 1) := by
              rw [keepB_step, ← HQ.out, ← hg]
              congr 1
              rw [decide_eq_decide]
              unfold goodP
              rw [← HS2.out, dj_atS hx2, HXK.out]
              dsimp only
              rw [hxx, hy, hz]
            exact this
          have dk := (DB.cell (p := ⟨b0, o0 + k * 2, none⟩) hbl0).trans HCK.out
          have hge2 := DB.size
          have hbl2 : b0 < wr.heap.size := by omega
          have BE := Lib.hid (fun n : Nat => (DB.trans ((below_allocJ wr (.cells #[.int .i64 f, .int .i64 t] 29)).mono hge2)).trans (below_drewN (B := wb.heap.size) _ n))
          clear hx hx2 hf ht hge hsb hn60 hS2 hxx hy hz hyb DB
          cases q' with
          | true =>
            cases g with
            | true =>
              go_wp2
              go_quiet (fail)
              go_wp2
              go_roundw
              case rel => exact ⟨j + 1, S2, _, by omega, by go_num, rfl, rfl, HS2, HQ2, BE.out _⟩
              case measure => simp [intOf]; omega
            | false =>
              go_wp2
              go_quiet (fail)
              go_wp2
              go_roundw
              case rel => exact ⟨j + 1, S2, _, by omega, by go_num, rfl, rfl, HS2, HQ2, BE.out _⟩
              case measure => simp [intOf]; omega
          | false =>
            go_wp2
            go_quiet (fail)
            go_wp2
            go_roundw
            case rel => exact ⟨j + 1, S2, _, by omega, by go_num, rfl, rfl, HS2, HQ2, BE.out _⟩
            case measure => simp [intOf]; omega
        · have l2 : decide ((j : Int) < (l : Int)) = false := decide_eq_false (by omega)
          obtain rfl : j = l := by omega
          have HQ2 : Hid (q' = keepB a b js (k + 1) 0) := by
            have : q' = keepB a b js (k + 1) 0 := by rw [← keepB_next, HLN.out, HLL.out]; exact HQ.out
            exact this
          have H7 := H0.out.bel DB
          have C7 := bel_trans C0.out DB
          go_wp2
          go_roundw
          case rel => exact ⟨k + 1, _, by omega, by go_num, rfl, HQ2, H7, C7⟩
          case measure => simp [intOf]; omega
    · have l1 : decide ((k : Int) < (m : Int)) = false := decide_eq_false (by omega)
      obtain rfl : k = m := by omega
      obtain rfl : q = R := by rw [HK.out, HALL.out, HLN.out]
      go_wp2
      go_ret
      exact ⟨rfl, C⟩
set_option maxRecDepth 100000 in
theorem lifted_FnConforms (os : Os) (started : os.Started) (H : Type) (enc : TypeId × Value → H) :
    ReturnsInHanded {} Try.checked os 3 .any (Rows.fnConformsSpec.pre6 enc Try.prog Try.f3 Rows.fnConformsRow.domain false) (Rows.fnConformsSpec.post enc Try.prog Try.f3 false true false false) := by
  refine returnsInHanded_of_change (C := Try.checked) (by kernel_rfl) started (by kernel_rfl) Try.func3
    (ChangeSpec.witness6 (enc := enc) (C := Try.checked) false ⟨#[], #[.slice none 0 0], []⟩ 8 (by kernel_rfl) (by kernel_rfl) (by kernel_rfl) (by kernel_rfl)) ?_
  intro W base args ds gs before hval0 hW hcnd _
  have hval : ∀ (j : Nat) t v, Try.f3.params[j]? = some t → args[j]? = some v → Value.okWide Try.prog W .any base t v := hval0
  have hW' := hW
  obtain ⟨p, q, hA0, hV, rfl, hfz, hnd⟩ := hW
  have hA : DataW.TrodAll enc Try.prog W 0 (fun _ => true) true Try.f3.params.toList args.toList ds p := hA0
  rw [Try.params3] at hA hval
  obtain ⟨v0, vs0, d0, ds0, p0, q0, hargs, rfl, rfl, h0, r0⟩ := trodAll_cons hA
  obtain ⟨rfl, rfl, rfl⟩ := trodAll_nil r0
  obtain rfl : args = #[v0] := by cases args; simp_all
  obtain ⟨rfl, rfl⟩ := trodVars_none hV
  obtain ⟨a0, len0, cap0, rfl⟩ := okWide_slice Try.underlying22 (hval 0 22 v0 rfl rfl)
  have k0 := h0
  have lt0 : ∀ x ∈ p0, x.block < W.heap.size := by obtain ⟨m, hm⟩ := k0; exact DataW.trod_lt m _ _ _ hm
  obtain ⟨z0, H0, U0, M0⟩ := has_of_trod (k := .u8) Try.underlying22 Try.underlying5 (by kernel_rfl) h0
  clear hA0 hval0
  refine (walk_FnConforms H0 U0 M0).mono fun e W' ⟨he, bel⟩ => ?_
  subst he
  exact ⟨_, rfl, _, _, _, [], _, [], hW', trodAll_mk1 (shut_bool Try.underlying4 _), (trodAll_cons_mk (Below.trod (by kernel_rfl) (by kernel_rfl) (of_decide_eq_true (by kernel_rfl)) k0 bel lt0) trodAll_mk0), rfl, bel.frame _, fun h => by cases h⟩

theorem fnConforms_holds : Rows.FnConformsSaid :=
  OpenClaim.holds_of_wide 3 Try.f3 rfl rfl rfl rfl rfl rfl rfl ⟨rfl, rfl, rfl, rfl, rfl⟩ rfl rfl rfl rfl rfl (by kernel_rfl) Try.func3
    (by unfold joinedFacts; with_reducible refine Bool.and_eq_true_iff.2 ⟨?_, (by as_aux_lemma => kernel_rfl)⟩; with_reducible refine Bool.and_eq_true_iff.2 ⟨?_, (by as_aux_lemma => kernel_rfl)⟩; with_reducible refine Bool.and_eq_true_iff.2 ⟨?_, (by as_aux_lemma => kernel_rfl)⟩; with_reducible refine Bool.and_eq_true_iff.2 ⟨?_, (by as_aux_lemma => kernel_rfl)⟩; with_reducible refine Bool.and_eq_true_iff.2 ⟨?_, (by with_unfolding_all exact shutMake)⟩; with_reducible refine Bool.and_eq_true_iff.2 ⟨?_, (by with_unfolding_all exact shutLifts)⟩; with_reducible refine Bool.and_eq_true_iff.2 ⟨?_, shutEnter⟩; (repeat (with_reducible refine Bool.and_eq_true_iff.2 ⟨?_, (by as_aux_lemma => kernel_rfl)⟩)); as_aux_lemma => kernel_rfl)
    (of_decide_eq_true (by kernel_rfl)) (by unfold Func.isWrapper; first | (rw [if_pos (by decide +kernel)]; kernel_rfl) | (rw [if_neg (by decide +kernel)]; exact ⟨rfl, rfl⟩))
    (fun os started H enc _ => lifted_FnConforms os started H enc)
end Go.Proofs.Ytnloejcfakcpfaa
