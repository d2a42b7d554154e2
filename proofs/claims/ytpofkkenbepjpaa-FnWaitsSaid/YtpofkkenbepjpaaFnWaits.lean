/-
  FnWaits: for every argument the law of what waits returns true and writes nothing that was there. No condition.
-/
import Derived.Test.YtpofkkenbepjpaaDrawJob
import Derived.Test.YtpofkkenbepjpaaImp12b
import Derived.Test.YtpofkkenbepjpaaShut
namespace Go.Proofs.Ytpofkkenbepjpaa
open Go.RowKit Go.ChangeShapes Go.WideShapes Go.ChangeAt

theorem has_takeJ {w : World} {A : Option Addr} {n k : Nat} {zs : List Int} (h : Has w A n (ints .i64 zs)) (hk : k ≤ n) : Has w A k (ints .i64 (zs.take k)) := by
  have hl := h.len
  refine ⟨by rw [ints_length, List.length_take]; omega, fun i hi => ?_⟩
  obtain ⟨b, o, hA, hc⟩ := h.2 i (by omega)
  refine ⟨b, o, hA, hc.trans ?_⟩
  simp [ints, hi]
theorem take_no {od : List Int} {key : Int} {p : Nat} (h : ∀ q, q < p → od[q]? ≠ some key) : key ∉ od.take p := by
  intro hm
  obtain ⟨i, hi⟩ := List.getElem?_of_mem hm
  rw [List.getElem?_take] at hi
  split at hi
  · rename_i hh; exact h i hh hi
  · cases hi
theorem szOk_take {js : List Duo} {od : List Int} (h : szOk js od) (k : Nat) : szOk js (od.take k) := fun x hx => h x (List.mem_of_mem_take hx)
theorem ixOk_take {od : List Int} {m : Nat} (h : ixOk od m) (k : Nat) : ixOk (od.take k) m := fun x hx => h x (List.mem_of_mem_take hx)
/-- The same order, cut behind k, and ahead of it. -/
theorem waits_cut {js : List Duo} {od : List Int} {key : Int} {p : Nat} (hx : ixOk od js.length) (hz : szOk js od) (hp : od[p]? = some key) (hq : ∀ q, q < p → od[q]? ≠ some key) :
    waitsL js od key = sizesL js (od.take p) ∧ waitsL js (od.take (p + 1)) key = sizesL js (od.take p) ∧ waitsL js (od.take p) key = -1 ∧ (p : Int) ≤ sizesL js (od.take p) := by
  have hl := (List.getElem?_eq_some_iff.1 hp).1
  refine ⟨?_, ?_, ?_, ?_⟩
  · unfold waitsL; rw [if_pos ⟨hx, hz⟩, ahead_take od p 0 hp hq]; omega
  · unfold waitsL
    rw [if_pos ⟨ixOk_take hx _, szOk_take hz _⟩, ahead_take (od.take (p + 1)) p 0 (by rw [List.getElem?_take, if_pos (by omega)]; exact hp) (fun q hqp => by rw [List.getElem?_take, if_pos (by omega)]; exact hq q hqp), List.take_take, show min p (p + 1) = p by omega]
    omega
  · unfold waitsL; rw [if_pos ⟨ixOk_take hx _, szOk_take hz _⟩]; exact ahead_none (take_no hq) 0
  · have := (sizes_bounds (szOk_take hz p)).1
    rw [List.length_take] at this
    omega

set_option maxRecDepth 100000 in
set_option maxHeartbeats 8000000 in
theorem walk_FnWaits {A : Option Addr} {n c : Nat} {zs : List Int} {w : World} (h : Has w A n (ints .u8 zs)) (hwf : ∀ z ∈ zs, (Lit.int .u8 z).wf = true) (hc : n ≤ c ∧ c ≤ maxLen) :
    Calls Try.prog 9 #[.slice A n c] w fun e w' => e = .returned (.bool true) ∧ Below w.heap.size w w' := by
  have hu : U8s zs := fun z hz => u8_of_wf (hwf z hz)
  clear hwf
  by_cases hn : n ≤ 1048576
  rotate_left
  · go_enter Try.func9, Try.ntmps9
    go_wp2
    go_ret
    exact ⟨rfl, Below.refl _ _⟩
  go_enter Try.func9, Try.ntmps9
  go_wp2_with (fail)
  refine (drawWaitsBefore_any h hu hc).mono ?_
  rintro e w1 ⟨A1, m1, d1, js, A2, q2, c2, od, key, rfl, H1, H2, hqc, hm1, hq2, B1⟩
  have HJ := Lib.hid H1.1
  have HO := Lib.hid H2.len
  obtain ⟨R, hR⟩ : ∃ R, waitsL js od key = R := ⟨_, rfl⟩
  have rE : (R == R) = true := by simp
  have rB : (R != R) = false := by simp
  have CI := Lib.hid (implWaitsBefore_r (d := d1) (q := c2) (key := key) H1 H2 (by omega) hqc hR)
  have CS := Lib.hid (specWaitsBefore_r (d := d1) (q := c2) (key := key) H1 H2 (by omega) (by omega) hR)
  go_wp2_with (fail)
  refine CI.out.mono ?_
  rintro e w' ⟨rfl, rfl⟩
  go_wp2_with (fail)
  refine CS.out.mono ?_
  rintro e w' ⟨rfl, rfl⟩
  by_cases hok : (ixOk od js.length ∧ szOk js od) ∧ key ∈ od
  rotate_left
  · obtain rfl : R = -1 := by
      rw [← hR]
      unfold waitsL
      split
      · rename_i hh; exact ahead_none (fun hm => hok ⟨hh, hm⟩) 0
      · rfl
    clear hok
    go_wp2_with (fail)
    refine CS.out.mono ?_
    rintro e w' ⟨rfl, rfl⟩
    go_wp2
    go_ret
    exact ⟨rfl, B1⟩
  obtain ⟨⟨hx, hz⟩, hmem⟩ := hok
  obtain ⟨p, hpl, hp, hqn⟩ : ∃ p : Nat, p < od.length ∧ od[p]? = some key ∧ ∀ q, q < p → od[q]? ≠ some key := by
    rcases ixOf_or od key with ⟨_, h2⟩ | ⟨p, _, h2, h3, h4⟩
    · exact absurd hmem h2
    · exact ⟨p, h2, h3, h4⟩
  obtain ⟨z1, z2, z3, z4⟩ := waits_cut hx hz hp hqn
  rw [hR] at z1
  rw [← z1] at z2 z4
  have hpq : p < q2 := by have := HO.out; omega
  have hsb := (sizes_bounds (szOk_take hz p)).2
  rw [← z1] at hsb
  have hR600 : R ≤ 9 * (q2 : Int) := by rw [List.length_take] at hsb; omega
  have r0 : decide (R < 0) = false := by simp; omega
  have gE : decide (R ≥ (p : Int)) = true := by simp; omega
  have gF : decide ((p : Int) ≤ R) = true := by simp; omega
  obtain ⟨b, o, _, rfl, hbl, _, _⟩ := H2.at_ (i := 0) (by omega)
  have HT1 := Lib.hid (implWaitsBefore_r (d := d1) (q := c2) (key := key) H1 (has_takeJ H2 (show p + 1 ≤ q2 by omega)) (by omega) (by omega) z2)
  have HT2 := Lib.hid (implWaitsBefore_r (d := d1) (q := c2) (key := key) H1 (has_takeJ H2 (show p ≤ q2 by omega)) (by omega) (by omega) z3)
  have HP := Lib.hid hp
  have HQ := Lib.hid hqn
  have p0 : (0 : Int) ≤ (p : Int) := by omega
  have p1 : (p : Int) ≤ (c2 : Int) := by omega
  have p2 : (0 : Int) ≤ (p : Int) + 1 := by omega
  have p3 : (p : Int) + 1 ≤ (c2 : Int) := by omega
  have pt : ((p : Int) + 1).toNat = p + 1 := by omega
  clear hx hz hmem hp hqn z1 z2 z3 z4 hsb hR CI
  go_wp2
  go_loop [7] (fun t => ∃ k : Nat, k ≤ p ∧ t = .int .i64 (k : Int)) (fun t => p - (intOf t).toNat)
  case atStart => exact ⟨0, Nat.zero_le _, rfl⟩
  case round =>
    obtain ⟨k, hk, rfl⟩ := hrel
    obtain ⟨b2, o2, z, hb2, hbl2, hzx, hzc⟩ := H2.at_ (show k < q2 by omega)
    injection hb2 with hb2
    injection hb2 with e1 e2
    subst e1 e2
    have k0 : (0 : Int) ≤ (k : Int) := by omega
    have k1 : (k : Int) < (q2 : Int) := by omega
    by_cases hkp : k < p
    · have zB : (z != key) = true := by
        have := HQ.out k hkp
        rw [hzx] at this
        simpa using this
      clear hzx
      go_wp2
      go_round
      case rel => exact ⟨k + 1, by omega, by go_num⟩
      case measure => simp [intOf]; omega
    · obtain rfl : k = p := by omega
      obtain rfl : key = z := by have := HP.out; rw [hzx] at this; injection this with this; exact this.symm
      have zB : (key != key) = false := by simp
      clear hzx
      go_wp2_with (fail)
      refine HT1.out.mono ?_
      rintro e w' ⟨rfl, rfl⟩
      go_wp2_with (fail)
      refine HT2.out.mono ?_
      rintro e w' ⟨rfl, rfl⟩
      go_wp2
      go_ret
      exact ⟨rfl, B1⟩
set_option maxRecDepth 100000 in
theorem lifted_FnWaits (os : Os) (started : os.Started) (H : Type) (enc : TypeId × Value → H) :
    ReturnsInHanded {} Try.checked os 9 .any (Rows.fnWaitsSpec.pre6 enc Try.prog Try.f9 Rows.fnWaitsRow.domain false) (Rows.fnWaitsSpec.post enc Try.prog Try.f9 false true false false) := by
  refine returnsInHanded_of_change (C := Try.checked) (by kernel_rfl) started (by kernel_rfl) Try.func9
    (ChangeSpec.witness6 (enc := enc) (C := Try.checked) false ⟨#[], #[.slice none 0 0], []⟩ 8 (by kernel_rfl) (by kernel_rfl) (by kernel_rfl) (by kernel_rfl)) ?_
  intro W base args ds gs before hval0 hW hcnd _
  have hval : ∀ (j : Nat) t v, Try.f9.params[j]? = some t → args[j]? = some v → Value.okWide Try.prog W .any base t v := hval0
  have hW' := hW
  obtain ⟨p, q, hA0, hV, rfl, hfz, hnd⟩ := hW
  have hA : DataW.TrodAll enc Try.prog W 0 (fun _ => true) true Try.f9.params.toList args.toList ds p := hA0
  rw [Try.params9] at hA hval
  obtain ⟨v0, vs0, d0, ds0, p0, q0, hargs, rfl, rfl, h0, r0⟩ := trodAll_cons hA
  obtain ⟨rfl, rfl, rfl⟩ := trodAll_nil r0
  obtain rfl : args = #[v0] := by cases args; simp_all
  obtain ⟨rfl, rfl⟩ := trodVars_none hV
  obtain ⟨a0, len0, cap0, rfl⟩ := okWide_slice Try.underlying22 (hval 0 22 v0 rfl rfl)
  have k0 := h0
  have lt0 : ∀ x ∈ p0, x.block < W.heap.size := by obtain ⟨m, hm⟩ := k0; exact DataW.trod_lt m _ _ _ hm
  obtain ⟨z0, H0, U0, M0⟩ := has_of_trod (k := .u8) Try.underlying22 Try.underlying5 (by kernel_rfl) h0
  clear hA0 hval0
  refine (walk_FnWaits H0 U0 M0).mono fun e W' ⟨he, bel⟩ => ?_
  subst he
  exact ⟨_, rfl, _, _, _, [], _, [], hW', trodAll_mk1 (shut_bool Try.underlying4 _), (trodAll_cons_mk (Below.trod (by kernel_rfl) (by kernel_rfl) (of_decide_eq_true (by kernel_rfl)) k0 bel lt0) trodAll_mk0), rfl, bel.frame _, fun h => by cases h⟩

theorem fnWaits_holds : Rows.FnWaitsSaid :=
  OpenClaim.holds_of_wide 9 Try.f9 rfl rfl rfl rfl rfl rfl rfl ⟨rfl, rfl, rfl, rfl, rfl⟩ rfl rfl rfl rfl rfl (by kernel_rfl) Try.func9
    (by unfold joinedFacts; with_reducible refine Bool.and_eq_true_iff.2 ⟨?_, (by as_aux_lemma => kernel_rfl)⟩; with_reducible refine Bool.and_eq_true_iff.2 ⟨?_, (by as_aux_lemma => kernel_rfl)⟩; with_reducible refine Bool.and_eq_true_iff.2 ⟨?_, (by as_aux_lemma => kernel_rfl)⟩; with_reducible refine Bool.and_eq_true_iff.2 ⟨?_, (by as_aux_lemma => kernel_rfl)⟩; with_reducible refine Bool.and_eq_true_iff.2 ⟨?_, (by with_unfolding_all exact shutMake)⟩; with_reducible refine Bool.and_eq_true_iff.2 ⟨?_, (by with_unfolding_all exact shutLifts)⟩; with_reducible refine Bool.and_eq_true_iff.2 ⟨?_, shutEnter⟩; (repeat (with_reducible refine Bool.and_eq_true_iff.2 ⟨?_, (by as_aux_lemma => kernel_rfl)⟩)); as_aux_lemma => kernel_rfl)
    (of_decide_eq_true (by kernel_rfl)) (by unfold Func.isWrapper; first | (rw [if_pos (by decide +kernel)]; kernel_rfl) | (rw [if_neg (by decide +kernel)]; exact ⟨rfl, rfl⟩))
    (fun os started H enc _ => lifted_FnWaits os started H enc)
end Go.Proofs.Ytpofkkenbepjpaa
