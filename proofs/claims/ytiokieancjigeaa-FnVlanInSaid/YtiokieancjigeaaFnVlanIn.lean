/-
  FnVlanIn: a frame that comes in at a port can go out there with its tag. No condition.
-/
import Derived.Test.YtiokieancjigeaaDrawVlan
import Derived.Test.YtiokieancjigeaaImp10b
import Derived.Test.YtiokieancjigeaaShut
namespace Go.Proofs.Ytiokieancjigeaa
open Go.RowKit Go.ChangeShapes Go.WideShapes Go.ChangeAt

set_option maxRecDepth 100000 in
set_option maxHeartbeats 8000000 in
theorem walk_FnVlanIn {A : Option Addr} {n c : Nat} {zs : List Int} {w : World} (h : Has w A n (ints .u8 zs)) (hwf : ∀ z ∈ zs, (Lit.int .u8 z).wf = true) (hc : n ≤ c ∧ c ≤ maxLen) :
    Calls Try.prog 4 #[.slice A n c] w fun e w' => e = .returned (.bool true) ∧ Below w.heap.size w w' := by
  have hu : U8s zs := fun z hz => u8_of_wf (hwf z hz)
  clear hwf
  by_cases hn : n ≤ 1048576
  rotate_left
  · go_enter Try.func4, Try.ntmps4
    go_wp2
    go_ret
    exact ⟨rfl, Below.refl _ _⟩
  go_enter Try.func4, Try.ntmps4
  go_wp2_with (fail)
  refine (drawVlanIn_any h hu hc).mono ?_
  rintro e w1 hX
  unfold PortN at hX
  obtain ⟨X, m, d, x, q, l, t, rfl, hO, hm, B1⟩ := hX
  have hX := hO.has
  clear hO
  obtain ⟨V, hV⟩ : ∃ V, w1.alloc (.cells #[.int .i64 x, .int .i64 q, .slice X m d] 25) = V := ⟨_, rfl⟩
  have BV : Below w1.heap.size w1 V := by rw [← hV]; exact below_allocP w1 _
  have hVn : V.heap[w1.heap.size]? = some (.cells #[.int .i64 x, .int .i64 q, .slice X m d] 25 (0, 0)) := by rw [← hV]; exact heap_alloc_new w1 _
  have C1 := bel_trans B1 BV
  have X1 := hX.bel BV
  obtain ⟨c0, c1, c2⟩ := cells3K hVn
  obtain ⟨T, hT⟩ : ∃ T, inI (x, q, l) t = T := ⟨_, rfl⟩
  go_wp2_with (fail)
  refine (implVlanIn_r (d := d) X1 (by omega) hT).mono ?_
  rintro e w2 ⟨rfl, B2⟩
  have C2 := bel_trans C1 B2
  have X2 := X1.bel B2
  have V2 := heap_belP B2 hVn
  obtain ⟨d0, d1, d2⟩ := cells3K V2
  clear c0 c1 c2
  have TB : (T != T) = false := by simp
  go_wp2_with (fail)
  refine (specVlanIn_r (d := d) X2 (by omega) hT).mono ?_
  rintro e w3 ⟨rfl, B3⟩
  have C3 := bel_trans C2 B3
  have X3 := X2.bel B3
  have V3 := heap_belP B3 V2
  obtain ⟨f0, f1, f2⟩ := cells3K V3
  clear d0 d1 d2
  by_cases h0 : T < 0
  · have hB : decide (T < 0) = true := by simp; omega
    obtain rfl : T = -1 := by rw [← hT]; exact inI_neg _ _ (by rw [hT]; exact h0)
    have e1 : ((-1 : Int) == -1) = true := rfl
    have HT := Lib.hid hT
    clear h0 hT
    go_wp2_with (fail)
    refine (specVlanIn_r (d := d) X3 (by omega) HT.out).mono ?_
    rintro e w4 ⟨rfl, B4⟩
    go_wp2
    go_ret
    exact ⟨rfl, bel_trans C3 B4⟩
  have hB : decide (T < 0) = false := by simp; omega
  have hb := in_back (p := (x, q, l)) (t := t) (by rw [hT]; omega)
  rw [hT] at hb
  obtain ⟨hin, h1, h9, _⟩ := hb
  have tB : (t == t) = true := by simp
  have k1 : decide (T ≥ 1) = true := by simp; omega
  have k2 : decide (1 ≤ T) = true := by simp; omega
  have k3 : decide (T ≤ 9) = true := by simp; omega
  have HIN := Lib.hid hin
  clear h0 hT hin
  go_wp2_with (fail)
  refine (implTagOut_r (d := d) X3 (by omega) HIN.out).mono ?_
  rintro e w4 ⟨rfl, B4⟩
  go_wp2
  go_ret
  exact ⟨rfl, bel_trans C3 B4⟩
set_option maxRecDepth 100000 in
theorem lifted_FnVlanIn (os : Os) (started : os.Started) (H : Type) (enc : TypeId × Value → H) :
    ReturnsInHanded {} Try.checked os 4 .any (Rows.fnVlanInSpec.pre6 enc Try.prog Try.f4 Rows.fnVlanInRow.domain false) (Rows.fnVlanInSpec.post enc Try.prog Try.f4 false true false false) := by
  refine returnsInHanded_of_change (C := Try.checked) (by kernel_rfl) started (by kernel_rfl) Try.func4
    (ChangeSpec.witness6 (enc := enc) (C := Try.checked) false ⟨#[], #[.slice none 0 0], []⟩ 8 (by kernel_rfl) (by kernel_rfl) (by kernel_rfl) (by kernel_rfl)) ?_
  intro W base args ds gs before hval0 hW hcnd _
  have hval : ∀ (j : Nat) t v, Try.f4.params[j]? = some t → args[j]? = some v → Value.okWide Try.prog W .any base t v := hval0
  have hW' := hW
  obtain ⟨p, q, hA0, hV, rfl, hfz, hnd⟩ := hW
  have hA : DataW.TrodAll enc Try.prog W 0 (fun _ => true) true Try.f4.params.toList args.toList ds p := hA0
  rw [Try.params4] at hA hval
  obtain ⟨v0, vs0, d0, ds0, p0, q0, hargs, rfl, rfl, h0, r0⟩ := trodAll_cons hA
  obtain ⟨rfl, rfl, rfl⟩ := trodAll_nil r0
  obtain rfl : args = #[v0] := by cases args; simp_all
  obtain ⟨rfl, rfl⟩ := trodVars_none hV
  obtain ⟨a0, len0, cap0, rfl⟩ := okWide_slice Try.underlying22 (hval 0 22 v0 rfl rfl)
  have k0 := h0
  have lt0 : ∀ x ∈ p0, x.block < W.heap.size := by obtain ⟨m, hm⟩ := k0; exact DataW.trod_lt m _ _ _ hm
  obtain ⟨z0, H0, U0, M0⟩ := has_of_trod (k := .u8) Try.underlying22 Try.underlying5 (by kernel_rfl) h0
  clear hA0 hval0
  refine (walk_FnVlanIn H0 U0 M0).mono fun e W' ⟨he, bel⟩ => ?_
  subst he
  exact ⟨_, rfl, _, _, _, [], _, [], hW', trodAll_mk1 (shut_bool Try.underlying4 _), (trodAll_cons_mk (Below.trod (by kernel_rfl) (by kernel_rfl) (of_decide_eq_true (by kernel_rfl)) k0 bel lt0) trodAll_mk0), rfl, bel.frame _, fun h => by cases h⟩

theorem fnVlanIn_holds : Rows.FnVlanInSaid :=
  OpenClaim.holds_of_wide 4 Try.f4 rfl rfl rfl rfl rfl rfl rfl ⟨rfl, rfl, rfl, rfl, rfl⟩ rfl rfl rfl rfl rfl (by kernel_rfl) Try.func4
    (by unfold joinedFacts; with_reducible refine Bool.and_eq_true_iff.2 ⟨?_, (by as_aux_lemma => kernel_rfl)⟩; with_reducible refine Bool.and_eq_true_iff.2 ⟨?_, (by as_aux_lemma => kernel_rfl)⟩; with_reducible refine Bool.and_eq_true_iff.2 ⟨?_, (by as_aux_lemma => kernel_rfl)⟩; with_reducible refine Bool.and_eq_true_iff.2 ⟨?_, (by as_aux_lemma => kernel_rfl)⟩; with_reducible refine Bool.and_eq_true_iff.2 ⟨?_, (by with_unfolding_all exact shutMake)⟩; with_reducible refine Bool.and_eq_true_iff.2 ⟨?_, (by with_unfolding_all exact shutLifts)⟩; with_reducible refine Bool.and_eq_true_iff.2 ⟨?_, shutEnter⟩; (repeat (with_reducible refine Bool.and_eq_true_iff.2 ⟨?_, (by as_aux_lemma => kernel_rfl)⟩)); as_aux_lemma => kernel_rfl)
    (of_decide_eq_true (by kernel_rfl)) (by unfold Func.isWrapper; first | (rw [if_pos (by decide +kernel)]; kernel_rfl) | (rw [if_neg (by decide +kernel)]; exact ⟨rfl, rfl⟩))
    (fun os started H enc _ => lifted_FnVlanIn os started H enc)
end Go.Proofs.Ytiokieancjigeaa
