/-
  FnUnstuff: for every slice of bytes the law returns true and writes nothing that was there. No condition.
-/
import Derived.Test.YtlgoadniaiapkaaImp3a
import Derived.Deep.RegionWith
namespace Go.Proofs.Ytlgoadniaiapkaa
open Go.RowKit Go.ChangeShapes Go.WideShapes Go.ChangeAt

set_option maxHeartbeats 8000000 in
set_option maxRecDepth 100000 in
theorem walk_FnUnstuff {A0 : Option Addr} {n0 c0 : Nat} {zs0 : List Int} {w : World} (h0 : Has w A0 n0 (ints .u8 zs0)) (hwf0 : ∀ z ∈ zs0, (Lit.int .u8 z).wf = true) (hc0 : n0 ≤ c0 ∧ c0 ≤ maxLen) :
    Calls Try.prog 4 #[.slice A0 n0 c0] w fun e w' => e = .returned (.bool true) ∧ Below w.heap.size w w' := by
  have hu0 : U8s zs0 := fun z hz => u8_of_wf (hwf0 z hz)
  clear hwf0
  by_cases hn0 : n0 ≤ 1048576
  · go_enter Try.func4, Try.ntmps4
    go_wp2_with (fail)
    refine (drawUnstuffBytes_any h0 hu0 hc0).mono ?_
    rintro e w1 h
    unfold OneD at h
    obtain ⟨A1, n, c, zs, rfl, O1, hu, hn, B1⟩ := h
    go_wp2_with (fail)
    refine (implUnstuffBytes_any O1.has hu (by omega)).mono ?_
    rintro e w2 ⟨A2, n2, c2, rfl, O2, B2⟩
    have C2 := bel_trans B1 B2
    have P2 := O1.bel B2
    go_wp2_with (fail)
    refine (specUnstuffBytes_any P2.has hu (by omega)).mono ?_
    rintro e w3 ⟨A3, n3, c3, rfl, O3, B3⟩
    have C3 := bel_trans C2 B3
    have P3 := P2.bel B3
    have Q3 := O2.bel B3
    have t1 := run_str (dst := 9) (c := c2) (w := w3) Try.underlying22 Try.underlying5 Try.underlying9 Q3.has
    have t2 := run_str (dst := 9) (c := c3) (w := w3) Try.underlying22 Try.underlying5 Try.underlying9 O3.has
    have hn2 : n2 ≤ 600 := by have q1 := Q3.has.len; have q2 := unst_le zs; omega
    have hux := unstB_u8s hu
    by_cases hg : unstOk zs = true
    · obtain ⟨k1, k2⟩ := unst_back hg
      rw [hg]
      have k3 : stuffB (unstB zs) = zs := by unfold stuffB; rw [if_pos k2, k1]
      have P4 : Own w3.drew w.heap.size 5 A1 n c (ints .u8 zs) := P3.bel (below_drewN w3 1)
      have Q4 : Own w3.drew w1.heap.size 5 A2 n2 c2 (ints .u8 (unstB zs)) := Q3.bel (below_drewN w3 1)
      have t3 := run_str (dst := 9) (c := c) (w := w3.drew) Try.underlying22 Try.underlying5 Try.underlying9 P4.has
      have CC := implStuffBytes_any (c := c2) Q4.has hux (by omega)
      rw [k3] at CC
      have C5 := Lib.hid CC
      clear CC k1 k2 k3 hg
      generalize unstB zs = es at *
      go_wp2_with (fail)
      go_region_with (go_at_call 8; refine C5.out.mono ?_; rintro e w5 ⟨A5, n5, c5, rfl, O5, B5⟩; have s2 := run_str (dst := 9) (c := c5) Try.underlying22 Try.underlying5 Try.underlying9 O5.has; have s3 := run_str (dst := 9) (c := c) (w := w5) Try.underlying22 Try.underlying5 Try.underlying9 (P4.bel B5).has)
      all_goals
        have B5' : Below w3.heap.size w3 w5 := ⟨B5.os, B5.tape, B5.output, B5.size, B5.block⟩
        go_wp2
        go_ret
        exact ⟨rfl, bel_trans C3 B5'⟩
    · have hgf : unstOk zs = false := by simpa using hg
      have hz : unstB zs = [] := by
        unfold unstOk at hgf
        unfold unstB
        rcases hs : unstG zs with _ | o
        · rfl
        · rw [hs] at hgf; simp at hgf
      have hl2 := Q3.has.len
      rw [hz] at hl2
      obtain rfl : n2 = 0 := by simpa using hl2.symm
      rw [hgf]
      clear hgf hz hl2 hg
      go_wp2
      go_ret
      exact ⟨rfl, C3⟩
  · go_enter Try.func4, Try.ntmps4
    go_wp2
    go_ret
    exact ⟨rfl, Below.refl _ _⟩
set_option maxRecDepth 100000 in
theorem lifted_FnUnstuff (os : Os) (started : os.Started) (H : Type) (enc : TypeId × Value → H) :
    ReturnsInHanded {} Try.checked os 4 .any (Rows.fnUnstuffSpec.pre6 enc Try.prog Try.f4 Rows.fnUnstuffRow.domain false) (Rows.fnUnstuffSpec.post enc Try.prog Try.f4 false true false false) := by
  refine returnsInHanded_of_change (C := Try.checked) (by kernel_rfl) started (by kernel_rfl) Try.func4
    (ChangeSpec.witness6 (enc := enc) (C := Try.checked) false ⟨#[], #[.slice none 0 0], []⟩ 8 (by kernel_rfl) (by kernel_rfl) (by kernel_rfl) (by kernel_rfl)) ?_
  intro W base args ds gs before hval0 hW hcnd _
  have hval : ∀ (j : Nat) t v, Try.f4.params[j]? = some t → args[j]? = some v → Value.okWide Try.prog W .any base t v := hval0
  have hW' := hW
  obtain ⟨p, q, hA0, hV, rfl, hfz, hnd⟩ := hW
  have hA : DataW.TrodAll enc Try.prog W 0 (fun _ => true) true Try.f4.params.toList args.toList ds p := hA0
  rw [Try.params4] at hA hval
  obtain ⟨v0, vs0, d0, ds0, p0, q0, hargs, rfl, rfl, h0, r0⟩ := trodAll_cons hA
  obtain ⟨rfl, rfl, rfl⟩ := trodAll_nil r0
  obtain rfl : args = #[v0] := by cases args; simp_all
  obtain ⟨rfl, rfl⟩ := trodVars_none hV
  obtain ⟨a0, len0, cap0, rfl⟩ := okWide_slice Try.underlying22 (hval 0 22 v0 rfl rfl)
  have k0 := h0
  have lt0 : ∀ x ∈ p0, x.block < W.heap.size := by obtain ⟨m, hm⟩ := k0; exact DataW.trod_lt m _ _ _ hm
  obtain ⟨z0, H0, U0, M0⟩ := has_of_trod (k := .u8) Try.underlying22 Try.underlying5 (by kernel_rfl) h0
  clear hA0 hval0
  refine (walk_FnUnstuff H0 U0 M0).mono fun e W' ⟨he, bel⟩ => ?_
  subst he
  exact ⟨_, rfl, _, _, _, [], _, [], hW', trodAll_mk1 (shut_bool Try.underlying4 _), (trodAll_cons_mk (Below.trod (by kernel_rfl) (by kernel_rfl) (of_decide_eq_true (by kernel_rfl)) k0 bel lt0) trodAll_mk0), rfl, bel.frame _, fun h => by cases h⟩

theorem fnUnstuff_holds : Rows.FnUnstuffSaid :=
  OpenClaim.holds_of_wide 4 Try.f4 rfl rfl rfl rfl rfl rfl rfl ⟨rfl, rfl, rfl, rfl, rfl⟩ rfl rfl rfl rfl rfl (by kernel_rfl) Try.func4 (by kernel_rfl)
    (of_decide_eq_true (by kernel_rfl)) (by unfold Func.isWrapper; first | (rw [if_pos (by decide +kernel)]; kernel_rfl) | (rw [if_neg (by decide +kernel)]; exact ⟨rfl, rfl⟩))
    (fun os started H enc _ => lifted_FnUnstuff os started H enc)
end Go.Proofs.Ytlgoadniaiapkaa
