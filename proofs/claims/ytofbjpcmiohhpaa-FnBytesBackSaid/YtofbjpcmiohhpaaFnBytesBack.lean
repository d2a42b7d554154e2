/-
  FnBytesBack: for every slice of bytes the law returns true and writes nothing that was there. No condition.
-/
import Derived.Test.YtofbjpcmiohhpaaMath1
import Derived.Test.YtofbjpcmiohhpaaDraw1
import Derived.Test.YtofbjpcmiohhpaaWnInts
namespace Go.Proofs.Ytofbjpcmiohhpaa
open Go.RowKit Go.ChangeShapes Go.WideShapes Go.ChangeAt

set_option maxHeartbeats 2000000 in
theorem walk_FnBytesBack {A0 : Option Addr} {n0 c0 : Nat} {zs0 : List Int} {w : World} (h0 : Has w A0 n0 (ints .u8 zs0)) (hwf0 : ∀ z ∈ zs0, (Lit.int .u8 z).wf = true) (hc0 : n0 ≤ c0 ∧ c0 ≤ maxLen) :
    Calls Try.prog 4 #[.slice A0 n0 c0] w fun e w' => e = .returned (.bool true) ∧ Below w.heap.size w w' := by
  have hu0 : U8s zs0 := fun z hz => u8_of_wf (hwf0 z hz)
  clear hwf0
  by_cases hn0 : n0 ≤ 1048576
  · go_enter Try.func4, Try.ntmps4
    go_wp2_with (fail)
    refine (drawBytesOf_any h0 hu0 hc0).mono ?_
    rintro e w1 ⟨A1, n1, c1, xs, rfl, O1, hx, hn1, B1⟩
    go_wp2_with (fail)
    refine (implBytesOf_any O1.has hx (by omega)).mono ?_
    rintro e w2 ⟨A2, n2, c2, rfl, O2, B2⟩
    have C2 := bel_trans B1 B2
    go_wp2_with (fail)
    refine (specBytesOf_any (O1.bel B2).has hx (by omega)).mono ?_
    rintro e w3 ⟨A3, n3, c3, rfl, O3, B3⟩
    have C3 := bel_trans C2 B3
    have X2 := O2.bel B3
    have s1 := run_str (dst := 9) (c := c2) Try.underlying22 Try.underlying5 Try.underlying9 X2.has
    have s2 := run_str (dst := 9) (c := c3) Try.underlying22 Try.underlying5 Try.underlying9 O3.has
    by_cases hg : GoodBits xs
    · have hok : bytesOk xs = true := by simp [bytesOk, hg]
      have hb := bitsOf_small (zs := bytesOf xs) (n := (bytesOf xs).length) rfl (bytesOf_le xs)
      rw [bits_back xs hg] at hb
      have hn2 : n2 ≤ 600 := by have q1 := O2.has.len; have q2 := bytesOf_le xs; omega
      have HB := Lib.hid hb
      clear hb hg
      go_wp2_with (fail)
      refine (implBitsOf_any X2.has (bytesOf_u8s xs) (by omega)).mono ?_
      rintro e w4 ⟨A4, n4, c4, rfl, O4, B4⟩
      rw [HB.out] at O4
      have C4 := bel_trans C3 B4
      have hn4 : n4 ≤ 1000 := by have q1 := O4.has.len; have q2 := O1.has.len; omega
      go_wp2_with (fail)
      refine (wnInts_same O4.has (((O1.bel B2).bel B3).bel B4).has (by omega)).mono ?_
      rintro e w5 ⟨rfl, B5⟩
      have C5 := bel_trans C4 B5
      go_wp2
      go_ret
      exact ⟨rfl, C5⟩
    · have hok : bytesOk xs = false := by simp [bytesOk, hg]
      have hb : bytesOf xs = [] := by simp [bytesOf, hg]
      have l2 := O2.has.len
      rw [hb] at l2
      obtain rfl : n2 = 0 := by simpa using l2.symm
      clear l2 hb hg
      go_wp2
      go_ret
      exact ⟨rfl, C3⟩
  · go_enter Try.func4, Try.ntmps4
    go_wp2
    go_ret
    exact ⟨rfl, Below.refl _ _⟩
set_option maxRecDepth 100000 in
theorem lifted_FnBytesBack (os : Os) (started : os.Started) (H : Type) (enc : TypeId × Value → H) :
    ReturnsInHanded {} Try.checked os 4 .any (Rows.fnBytesBackSpec.pre6 enc Try.prog Try.f4 Rows.fnBytesBackRow.domain false) (Rows.fnBytesBackSpec.post enc Try.prog Try.f4 false true false false) := by
  refine returnsInHanded_of_change (C := Try.checked) (by kernel_rfl) started (by kernel_rfl) Try.func4
    (ChangeSpec.witness6 (enc := enc) (C := Try.checked) false ⟨#[], #[.slice none 0 0], []⟩ 8 (by kernel_rfl) (by kernel_rfl) (by kernel_rfl) (by kernel_rfl)) ?_
  intro W base args ds gs before hval0 hW hcnd _
  have hval : ∀ (j : Nat) t v, Try.f4.params[j]? = some t → args[j]? = some v → Value.okWide Try.prog W .any base t v := hval0
  have hW' := hW
  obtain ⟨p, q, hA0, hV, rfl, hfz, hnd⟩ := hW
  have hA : DataW.TrodAll enc Try.prog W 0 (fun _ => true) true Try.f4.params.toList args.toList ds p := hA0
  rw [Try.params4] at hA hval
  obtain ⟨v0, vs0, d0, ds0, p0, q0, hargs, rfl, rfl, h0, r0⟩ := trodAll_cons hA
  obtain ⟨rfl, rfl, rfl⟩ := trodAll_nil r0
  obtain rfl : args = #[v0] := by cases args; simp_all
  obtain ⟨rfl, rfl⟩ := trodVars_none hV
  obtain ⟨a0, len0, cap0, rfl⟩ := okWide_slice Try.underlying22 (hval 0 22 v0 rfl rfl)
  have k0 := h0
  have lt0 : ∀ x ∈ p0, x.block < W.heap.size := by obtain ⟨m, hm⟩ := k0; exact DataW.trod_lt m _ _ _ hm
  obtain ⟨z0, H0, U0, M0⟩ := has_of_trod (k := .u8) Try.underlying22 Try.underlying5 (by kernel_rfl) h0
  clear hA0 hval0
  refine (walk_FnBytesBack H0 U0 M0).mono fun e W' ⟨he, bel⟩ => ?_
  subst he
  exact ⟨_, rfl, _, _, _, [], _, [], hW', trodAll_mk1 (shut_bool Try.underlying4 _), (trodAll_cons_mk (Below.trod (by kernel_rfl) (by kernel_rfl) (of_decide_eq_true (by kernel_rfl)) k0 bel lt0) trodAll_mk0), rfl, bel.frame _, fun h => by cases h⟩

theorem fnBytesBack_holds : Rows.FnBytesBackSaid :=
  OpenClaim.holds_of_wide 4 Try.f4 rfl rfl rfl rfl rfl rfl rfl ⟨rfl, rfl, rfl, rfl, rfl⟩ rfl rfl rfl rfl rfl (by kernel_rfl) Try.func4 (by kernel_rfl)
    (of_decide_eq_true (by kernel_rfl)) (by unfold Func.isWrapper; first | (rw [if_pos (by decide +kernel)]; kernel_rfl) | (rw [if_neg (by decide +kernel)]; exact ⟨rfl, rfl⟩))
    (fun os started H enc _ => lifted_FnBytesBack os started H enc)
end Go.Proofs.Ytofbjpcmiohhpaa
