/-
  FnWaitOf: for every slice of bytes the law returns true and writes nothing that was there. No condition.
-/
import Derived.Test.YtpciaokafokfmaaImp9a
import Derived.Test.YtpciaokafokfmaaDrawTalk
import Derived.Test.YtpciaokafokfmaaShut
namespace Go.Proofs.Ytpciaokafokfmaa
open Go.RowKit Go.ChangeShapes Go.WideShapes Go.ChangeAt

theorem emod_le9 {a b : Int} (h : 0 ≤ a) (hb : 0 < b) : a % b ≤ a := by
  have h1 := Int.emod_add_mul_ediv a b
  have h2 := Int.mul_nonneg (Int.le_of_lt hb) (Int.ediv_nonneg h (Int.le_of_lt hb))
  omega
set_option maxHeartbeats 8000000 in
set_option maxRecDepth 100000 in
theorem walk_FnWaitOf {A0 : Option Addr} {n0 c0 : Nat} {zs0 : List Int} {w : World} (h0 : Has w A0 n0 (ints .u8 zs0)) (hwf0 : ∀ z ∈ zs0, (Lit.int .u8 z).wf = true) (hc0 : n0 ≤ c0 ∧ c0 ≤ maxLen) :
    Calls Try.prog 6 #[.slice A0 n0 c0] w fun e w' => e = .returned (.bool true) ∧ Below w.heap.size w w' := by
  have hu0 : U8s zs0 := fun z hz => u8_of_wf (hwf0 z hz)
  clear hwf0
  by_cases hn0 : n0 ≤ 1048576
  rotate_left
  · go_enter Try.func6, Try.ntmps6
    go_wp2
    go_ret
    exact ⟨rfl, Below.refl _ _⟩
  go_enter Try.func6, Try.ntmps6
  go_wp2_with (fail)
  refine (drawWaitOf_any h0 hu0 hc0).mono ?_
  rintro e w1 ⟨t, d, rfl, ht, hd, B1⟩
  by_cases hok : 1 ≤ t ∧ 0 ≤ d ∧ d ≤ 1000
  rotate_left
  · have CI := Lib.hid (implWaitOf_any t d w1 (by omega))
    have CS := Lib.hid (specWaitOf_any t d w1 (by omega) (by omega))
    rw [waitI_no (by omega)] at CI CS
    clear hok
    go_wp2_with (fail)
    refine CI.out.mono ?_
    rintro e w2 ⟨rfl, rfl⟩
    go_wp2_with (fail)
    refine CS.out.mono ?_
    rintro e w2 ⟨rfl, rfl⟩
    go_wp2_with (fail)
    refine CS.out.mono ?_
    rintro e w2 ⟨rfl, rfl⟩
    go_wp2
    go_ret
    exact ⟨rfl, B1⟩
  obtain ⟨t1, d0, d1⟩ := hok
  have CI := Lib.hid (implWaitOf_any t d w1 (by omega))
  have CS := Lib.hid (specWaitOf_any t d w1 (by omega) (by omega))
  have CM := Lib.hid (implWaitOf_any (t + 1) d w1 (by omega))
  rw [waitI_yes t1 ⟨d0, d1⟩] at CI CS
  rw [waitI_yes (by omega) ⟨d0, d1⟩] at CM
  have tW : IntKind.i64.wrap (t + 1) = t + 1 := IntWalk.i64_in _ (by omega)
  have hx := waitP_b (t := t) (d := d) t1
  have hy := waitP_b (t := t + 1) (d := d) (by omega)
  have ex : waitP t d = d % (2 ^ (min t 5).toNat) := rfl
  have ey : waitP (t + 1) d = d % (2 ^ (min (t + 1) 5).toNat) := rfl
  obtain ⟨x, hxe⟩ : ∃ x, waitP t d = x := ⟨_, rfl⟩
  obtain ⟨y, hye⟩ : ∃ y, waitP (t + 1) d = y := ⟨_, rfl⟩
  rw [hxe] at CI CS hx ex
  rw [hye] at CM hy ey
  clear hxe hye
  have hcase : t = 1 ∨ t = 2 ∨ t = 3 ∨ t = 4 ∨ 5 ≤ t := by omega
  have hxd : x ≤ d := by rw [ex]; exact emod_le9 d0 (Int.pow_pos (by omega))
  have x0 : decide (x < 0) = false := by simp; omega
  have xe : (x != x) = false := by simp
  have xd : decide (x > d) = false := by simp; omega
  have xd2 : decide (d < x) = false := by simp; omega
  rcases hcase with rfl | rfl | rfl | rfl | h5
  · have m1 : min (1 : Int) 5 = 1 := rfl
    have m2 : min ((1 : Int) + 1) 5 = 2 := rfl
    rw [m1] at ex
    rw [m2] at ey
    have s1 : wrap64 (2 ^ ((1 : Int)).toNat) = 2 := by decide +kernel
    have p1 : (1 : Int).toNat = 1 := rfl
    have p2 : (2 : Int).toNat = 2 := rfl
    rw [p1] at ex
    rw [p2] at ey
    have q1 : (2 : Int) ^ 1 = 2 := rfl
    have q2 : (2 : Int) ^ 2 = 4 := rfl
    rw [q1] at ex
    rw [q2] at ey
    clear m2 p1 p2 q1 q2
    have xm : decide (x ≥ 2) = false := by simp; omega
    have xm2 : decide (2 ≤ x) = false := by simp; omega
    have hm : Int.tmod y 2 = x := by rw [Int.tmod_eq_emod_of_nonneg hy.1]; omega
    have xW : IntKind.i64.wrap x = x := IntWalk.i64_in _ (by omega)
    have xeq : (x == x) = true := by simp
    clear ex ey
    go_wp2_with (fail)
    refine CI.out.mono ?_
    rintro e w2 ⟨rfl, rfl⟩
    go_wp2_with (fail)
    refine CS.out.mono ?_
    rintro e w2 ⟨rfl, rfl⟩
    go_wp2_with (fail)
    refine CM.out.mono ?_
    rintro e w2 ⟨rfl, rfl⟩
    go_wp2
    go_ret
    exact ⟨rfl, B1⟩
  · have m1 : min (2 : Int) 5 = 2 := rfl
    have m2 : min ((2 : Int) + 1) 5 = 3 := rfl
    rw [m1] at ex
    rw [m2] at ey
    have s1 : wrap64 (2 ^ ((2 : Int)).toNat) = 4 := by decide +kernel
    have p1 : (2 : Int).toNat = 2 := rfl
    have p2 : (3 : Int).toNat = 3 := rfl
    rw [p1] at ex
    rw [p2] at ey
    have q1 : (2 : Int) ^ 2 = 4 := rfl
    have q2 : (2 : Int) ^ 3 = 8 := rfl
    rw [q1] at ex
    rw [q2] at ey
    clear m2 p1 p2 q1 q2
    have xm : decide (x ≥ 4) = false := by simp; omega
    have xm2 : decide (4 ≤ x) = false := by simp; omega
    have hm : Int.tmod y 4 = x := by rw [Int.tmod_eq_emod_of_nonneg hy.1]; omega
    have xW : IntKind.i64.wrap x = x := IntWalk.i64_in _ (by omega)
    have xeq : (x == x) = true := by simp
    clear ex ey
    go_wp2_with (fail)
    refine CI.out.mono ?_
    rintro e w2 ⟨rfl, rfl⟩
    go_wp2_with (fail)
    refine CS.out.mono ?_
    rintro e w2 ⟨rfl, rfl⟩
    go_wp2_with (fail)
    refine CM.out.mono ?_
    rintro e w2 ⟨rfl, rfl⟩
    go_wp2
    go_ret
    exact ⟨rfl, B1⟩
  · have m1 : min (3 : Int) 5 = 3 := rfl
    have m2 : min ((3 : Int) + 1) 5 = 4 := rfl
    rw [m1] at ex
    rw [m2] at ey
    have s1 : wrap64 (2 ^ ((3 : Int)).toNat) = 8 := by decide +kernel
    have p1 : (3 : Int).toNat = 3 := rfl
    have p2 : (4 : Int).toNat = 4 := rfl
    rw [p1] at ex
    rw [p2] at ey
    have q1 : (2 : Int) ^ 3 = 8 := rfl
    have q2 : (2 : Int) ^ 4 = 16 := rfl
    rw [q1] at ex
    rw [q2] at ey
    clear m2 p1 p2 q1 q2
    have xm : decide (x ≥ 8) = false := by simp; omega
    have xm2 : decide (8 ≤ x) = false := by simp; omega
    have hm : Int.tmod y 8 = x := by rw [Int.tmod_eq_emod_of_nonneg hy.1]; omega
    have xW : IntKind.i64.wrap x = x := IntWalk.i64_in _ (by omega)
    have xeq : (x == x) = true := by simp
    clear ex ey
    go_wp2_with (fail)
    refine CI.out.mono ?_
    rintro e w2 ⟨rfl, rfl⟩
    go_wp2_with (fail)
    refine CS.out.mono ?_
    rintro e w2 ⟨rfl, rfl⟩
    go_wp2_with (fail)
    refine CM.out.mono ?_
    rintro e w2 ⟨rfl, rfl⟩
    go_wp2
    go_ret
    exact ⟨rfl, B1⟩
  · have m1 : min (4 : Int) 5 = 4 := rfl
    have m2 : min ((4 : Int) + 1) 5 = 5 := rfl
    rw [m1] at ex
    rw [m2] at ey
    have s1 : wrap64 (2 ^ ((4 : Int)).toNat) = 16 := by decide +kernel
    have p1 : (4 : Int).toNat = 4 := rfl
    have p2 : (5 : Int).toNat = 5 := rfl
    rw [p1] at ex
    rw [p2] at ey
    have q1 : (2 : Int) ^ 4 = 16 := rfl
    have q2 : (2 : Int) ^ 5 = 32 := rfl
    rw [q1] at ex
    rw [q2] at ey
    clear m2 p1 p2 q1 q2
    have xm : decide (x ≥ 16) = false := by simp; omega
    have xm2 : decide (16 ≤ x) = false := by simp; omega
    have hm : Int.tmod y 16 = x := by rw [Int.tmod_eq_emod_of_nonneg hy.1]; omega
    have xW : IntKind.i64.wrap x = x := IntWalk.i64_in _ (by omega)
    have xeq : (x == x) = true := by simp
    clear ex ey
    go_wp2_with (fail)
    refine CI.out.mono ?_
    rintro e w2 ⟨rfl, rfl⟩
    go_wp2_with (fail)
    refine CS.out.mono ?_
    rintro e w2 ⟨rfl, rfl⟩
    go_wp2_with (fail)
    refine CM.out.mono ?_
    rintro e w2 ⟨rfl, rfl⟩
    go_wp2
    go_ret
    exact ⟨rfl, B1⟩
  · have m1 : min t 5 = 5 := by omega
    have m2 : min (t + 1) 5 = 5 := by omega
    rw [m1] at ex
    rw [m2] at ey
    obtain rfl : x = y := ex.trans ey.symm
    have t5 : decide (t ≥ 5) = true := by simp; omega
    have t5' : decide (5 ≤ t) = true := by simp; omega
    have xm : decide (x ≥ 32) = false := by simp; omega
    have xm2 : decide (32 ≤ x) = false := by simp; omega
    have xeq : (x == x) = true := by simp
    clear ex ey m2
    go_wp2_with (fail)
    refine CI.out.mono ?_
    rintro e w2 ⟨rfl, rfl⟩
    go_wp2_with (fail)
    refine CS.out.mono ?_
    rintro e w2 ⟨rfl, rfl⟩
    go_wp2_with (fail)
    refine CM.out.mono ?_
    rintro e w2 ⟨rfl, rfl⟩
    go_wp2
    go_ret
    exact ⟨rfl, B1⟩
set_option maxRecDepth 100000 in
theorem lifted_FnWaitOf (os : Os) (started : os.Started) (H : Type) (enc : TypeId × Value → H) :
    ReturnsInHanded {} Try.checked os 6 .any (Rows.fnWaitOfSpec.pre6 enc Try.prog Try.f6 Rows.fnWaitOfRow.domain false) (Rows.fnWaitOfSpec.post enc Try.prog Try.f6 false true false false) := by
  refine returnsInHanded_of_change (C := Try.checked) (by kernel_rfl) started (by kernel_rfl) Try.func6
    (ChangeSpec.witness6 (enc := enc) (C := Try.checked) false ⟨#[], #[.slice none 0 0], []⟩ 8 (by kernel_rfl) (by kernel_rfl) (by kernel_rfl) (by kernel_rfl)) ?_
  intro W base args ds gs before hval0 hW hcnd _
  have hval : ∀ (j : Nat) t v, Try.f6.params[j]? = some t → args[j]? = some v → Value.okWide Try.prog W .any base t v := hval0
  have hW' := hW
  obtain ⟨p, q, hA0, hV, rfl, hfz, hnd⟩ := hW
  have hA : DataW.TrodAll enc Try.prog W 0 (fun _ => true) true Try.f6.params.toList args.toList ds p := hA0
  rw [Try.params6] at hA hval
  obtain ⟨v0, vs0, d0, ds0, p0, q0, hargs, rfl, rfl, h0, r0⟩ := trodAll_cons hA
  obtain ⟨rfl, rfl, rfl⟩ := trodAll_nil r0
  obtain rfl : args = #[v0] := by cases args; simp_all
  obtain ⟨rfl, rfl⟩ := trodVars_none hV
  obtain ⟨a0, len0, cap0, rfl⟩ := okWide_slice Try.underlying22 (hval 0 22 v0 rfl rfl)
  have k0 := h0
  have lt0 : ∀ x ∈ p0, x.block < W.heap.size := by obtain ⟨m, hm⟩ := k0; exact DataW.trod_lt m _ _ _ hm
  obtain ⟨z0, H0, U0, M0⟩ := has_of_trod (k := .u8) Try.underlying22 Try.underlying5 (by kernel_rfl) h0
  clear hA0 hval0
  refine (walk_FnWaitOf H0 U0 M0).mono fun e W' ⟨he, bel⟩ => ?_
  subst he
  exact ⟨_, rfl, _, _, _, [], _, [], hW', trodAll_mk1 (shut_bool Try.underlying4 _), (trodAll_cons_mk (Below.trod (by kernel_rfl) (by kernel_rfl) (of_decide_eq_true (by kernel_rfl)) k0 bel lt0) trodAll_mk0), rfl, bel.frame _, fun h => by cases h⟩

theorem fnWaitOf_holds : Rows.FnWaitOfSaid :=
  OpenClaim.holds_of_wide 6 Try.f6 rfl rfl rfl rfl rfl rfl rfl ⟨rfl, rfl, rfl, rfl, rfl⟩ rfl rfl rfl rfl rfl (by kernel_rfl) Try.func6
    (by unfold joinedFacts; with_reducible refine Bool.and_eq_true_iff.2 ⟨?_, (by as_aux_lemma => kernel_rfl)⟩; with_reducible refine Bool.and_eq_true_iff.2 ⟨?_, (by as_aux_lemma => kernel_rfl)⟩; with_reducible refine Bool.and_eq_true_iff.2 ⟨?_, (by as_aux_lemma => kernel_rfl)⟩; with_reducible refine Bool.and_eq_true_iff.2 ⟨?_, (by as_aux_lemma => kernel_rfl)⟩; with_reducible refine Bool.and_eq_true_iff.2 ⟨?_, (by with_unfolding_all exact shutMake)⟩; with_reducible refine Bool.and_eq_true_iff.2 ⟨?_, (by with_unfolding_all exact shutLifts)⟩; with_reducible refine Bool.and_eq_true_iff.2 ⟨?_, shutEnter⟩; (repeat (with_reducible refine Bool.and_eq_true_iff.2 ⟨?_, (by as_aux_lemma => kernel_rfl)⟩)); as_aux_lemma => kernel_rfl)
    (of_decide_eq_true (by kernel_rfl)) (by unfold Func.isWrapper; first | (rw [if_pos (by decide +kernel)]; kernel_rfl) | (rw [if_neg (by decide +kernel)]; exact ⟨rfl, rfl⟩))
    (fun os started H enc _ => lifted_FnWaitOf os started H enc)
end Go.Proofs.Ytpciaokafokfmaa
