/-
  FnBehind: for every slice of bytes the law returns true and writes nothing that was there. No condition.
-/
import Derived.Test.YtafplpechpoliaaImp4a
import Derived.Test.YtafplpechpoliaaDrawFates
import Derived.Test.YtafplpechpoliaaWnInts
namespace Go.Proofs.Ytafplpechpoliaa
open Go.RowKit Go.ChangeShapes Go.WideShapes Go.ChangeAt

set_option maxHeartbeats 8000000 in
set_option maxRecDepth 100000 in
theorem walk_FnBehind {A0 : Option Addr} {n0 c0 : Nat} {zs0 : List Int} {w : World} (h0 : Has w A0 n0 (ints .u8 zs0)) (hwf0 : ∀ z ∈ zs0, (Lit.int .u8 z).wf = true) (hc0 : n0 ≤ c0 ∧ c0 ≤ maxLen) :
    Calls Try.prog 8 #[.slice A0 n0 c0] w fun e w' => e = .returned (.bool true) ∧ Below w.heap.size w w' := by
  have hu0 : U8s zs0 := fun z hz => u8_of_wf (hwf0 z hz)
  clear hwf0
  by_cases hn0 : n0 ≤ 1048576
  · go_enter Try.func8, Try.ntmps8
    go_wp2_with (fail)
    refine (drawFatesBehind_any h0 hu0 hc0).mono ?_
    rintro e w1 h
    unfold FatN at h
    obtain ⟨A1, n1, c1, fs, v, rfl, O1, hf, hn1, v0, v1, B1⟩ := h
    have HC := Lib.hid O1.cap
    go_wp2_with (fail)
    refine (implFatesBehind_any O1.has hf.i64s (by omega) HC.out (by omega)).mono ?_
    rintro e w2 ⟨A2, n2, c2, rfl, O2, B2⟩
    have C2 := bel_trans B1 B2
    have P2 := O1.bel B2
    have hn2 : n2 ≤ 200 := by have q1 := O2.has.len; have q2 := behI_le (fs := fs) (n := v); omega
    have HC2 := Lib.hid O2.cap
    go_wp2_with (fail)
    refine (specFatesBehind_any P2.has hf.i64s (by omega) HC.out (by omega)).mono ?_
    rintro e w3 ⟨A3, n3, c3, rfl, O3, B3⟩
    have C3 := bel_trans C2 B3
    have P3 := P2.bel B3
    have Q3 := O2.bel B3
    go_wp2_with (fail)
    refine (wnInts_same Q3.has O3.has (by omega)).mono ?_
    rintro e w4 ⟨rfl, B4⟩
    have C4 := bel_trans C3 B4
    have P4 := P3.bel B4
    have Q4 := Q3.bel B4
    go_wp2_with (fail)
    refine (implFatesValid_any P4.has hf.i64s (by omega) HC.out).mono ?_
    rintro e w5 ⟨rfl, B5⟩
    have C5 := bel_trans C4 B5
    have P5 := P4.bel B5
    have Q5 := Q4.bel B5
    by_cases hg : fOk fs
    · rw [decide_eq_true hg]
      by_cases h1 : 0 ≤ v
      · obtain ⟨m, rfl⟩ := Int.eq_ofNat_of_zero_le h1
        have hm : m ≤ 61 := by omega
        have h1B : decide ((m : Int) < 0) = false := by simp
        have hbe : behI fs (m : Int) = fs.drop m := by unfold behI; rw [if_pos ⟨hg, h1⟩]; rfl
        have hgd := fOk_drop hg m
        have hId : I64s (fs.drop m) := fun z hz => hf.i64s z (List.mem_of_mem_drop hz)
        rw [hbe] at Q5
        have HF : ∀ (k : Nat) (W : World), k ≤ 100000 → Below w5.heap.size w5 W → Calls Try.prog 22 #[.slice A1 n1 c1, .int .i64 ((m : Int) + (k : Int))] W fun e w' => e = .returned (.int .i64 (fateN fs (m + k))) ∧ Below W.heap.size W w' := fun k W hk hW => by
          have := implFateOf_any (i := ((m + k : Nat) : Int)) (P5.bel hW).has hf.i64s (by omega) HC.out (by omega)
          rw [fateI_yes hg] at this
          rwa [show ((m + k : Nat) : Int) = (m : Int) + (k : Int) by omega] at this
        have HG : ∀ (k : Nat) (W : World), k ≤ 100000 → Below w5.heap.size w5 W → Calls Try.prog 22 #[.slice A2 n2 c2, .int .i64 (k : Int)] W fun e w' => e = .returned (.int .i64 (fateN fs (m + k))) ∧ Below W.heap.size W w' := fun k W hk hW => by
          have := implFateOf_any (i := (k : Int)) (Q5.bel hW).has hId (by omega) HC2.out (by omega)
          rwa [fateI_yes hgd k, fateN_drop] at this
        have HFH := Lib.hid HF
        have HGH := Lib.hid HG
        clear HF HG hbe hgd hId hg h1
        go_wp2
        obtain ⟨wo, rfl⟩ : ∃ wo : World, wo = w5 := ⟨_, rfl⟩
        go_loopw [47] (fun i wr => ∃ k : Nat, k ≤ 40 ∧ i = .int .i64 ((k : Nat) : Int) ∧ Below wo.heap.size wo wr) (fun i _ => 40 - (intOf i).toNat)
        case atStart => exact ⟨0, Nat.zero_le _, rfl, Below.refl _ _⟩
        case round =>
          obtain ⟨k, hk, rfl, B6⟩ := hrel
          by_cases hlt : k < 40
          · have hltB : decide ((k : Int) < 40) = true := by simp; omega
            have CF := HFH.out k
            have CG := Lib.hid (HGH.out k wr (by omega) B6)
            generalize fateN fs (m + k) = f at *
            have CFH := Lib.hid CF
            clear CF
            go_wp2_with (fail)
            refine CG.out.mono ?_
            rintro e w7 ⟨rfl, B7⟩
            have B67 := bel_trans B6 B7
            go_wp2_with (fail)
            refine (CFH.out w7 (by omega) B67).mono ?_
            rintro e w8 ⟨rfl, B8⟩
            go_wp2
            go_roundw
            case rel => exact ⟨k + 1, by omega, by go_num, bel_trans B67 B8⟩
            case measure => simp [intOf]; omega
          · have hltB : decide ((k : Int) < 40) = false := by simp; omega
            go_wp2
            go_ret
            exact ⟨rfl, bel_trans C5 B6⟩
      · have h1B : decide (v < 0) = true := by simp; omega
        clear hg
        go_wp2_with (fail)
        refine (specFatesBehind_any P5.has hf.i64s (by omega) HC.out (by omega)).mono ?_
        rintro e w6 ⟨A6, n6, c6, rfl, O6, B6⟩
        have C6 := bel_trans C5 B6
        have P6 := P5.bel B6
        go_wp2_with (fail)
        refine (wnInts_same (Q5.bel B6).has O6.has (by omega)).mono ?_
        rintro e w7 ⟨rfl, B7⟩
        have C7 := bel_trans C6 B7
        have P7 := P6.bel B7
        go_wp2_with (fail)
        refine (implFateOf_any P7.has hf.i64s (by omega) HC.out (by omega)).mono ?_
        rintro e w8 ⟨rfl, B8⟩
        have C8 := bel_trans C7 B8
        have P8 := P7.bel B8
        go_wp2_with (fail)
        refine (specFateOf_any P8.has hf.i64s (by omega) HC.out (by omega)).mono ?_
        rintro e w9 ⟨rfl, B9⟩
        go_wp2
        go_ret
        exact ⟨rfl, bel_trans C8 B9⟩
    · rw [decide_eq_false hg]
      clear hg
      go_wp2_with (fail)
      refine (specFatesBehind_any P5.has hf.i64s (by omega) HC.out (by omega)).mono ?_
      rintro e w6 ⟨A6, n6, c6, rfl, O6, B6⟩
      have C6 := bel_trans C5 B6
      have P6 := P5.bel B6
      go_wp2_with (fail)
      refine (wnInts_same (Q5.bel B6).has O6.has (by omega)).mono ?_
      rintro e w7 ⟨rfl, B7⟩
      have C7 := bel_trans C6 B7
      have P7 := P6.bel B7
      go_wp2_with (fail)
      refine (implFateOf_any P7.has hf.i64s (by omega) HC.out (by omega)).mono ?_
      rintro e w8 ⟨rfl, B8⟩
      have C8 := bel_trans C7 B8
      have P8 := P7.bel B8
      go_wp2_with (fail)
      refine (specFateOf_any P8.has hf.i64s (by omega) HC.out (by omega)).mono ?_
      rintro e w9 ⟨rfl, B9⟩
      go_wp2
      go_ret
      exact ⟨rfl, bel_trans C8 B9⟩
  · go_enter Try.func8, Try.ntmps8
    go_wp2
    go_ret
    exact ⟨rfl, Below.refl _ _⟩
set_option maxRecDepth 100000 in
theorem lifted_FnBehind (os : Os) (started : os.Started) (H : Type) (enc : TypeId × Value → H) :
    ReturnsInHanded {} Try.checked os 8 .any (Rows.fnBehindSpec.pre6 enc Try.prog Try.f8 Rows.fnBehindRow.domain false) (Rows.fnBehindSpec.post enc Try.prog Try.f8 false true false false) := by
  refine returnsInHanded_of_change (C := Try.checked) (by kernel_rfl) started (by kernel_rfl) Try.func8
    (ChangeSpec.witness6 (enc := enc) (C := Try.checked) false ⟨#[], #[.slice none 0 0], []⟩ 8 (by kernel_rfl) (by kernel_rfl) (by kernel_rfl) (by kernel_rfl)) ?_
  intro W base args ds gs before hval0 hW hcnd _
  have hval : ∀ (j : Nat) t v, Try.f8.params[j]? = some t → args[j]? = some v → Value.okWide Try.prog W .any base t v := hval0
  have hW' := hW
  obtain ⟨p, q, hA0, hV, rfl, hfz, hnd⟩ := hW
  have hA : DataW.TrodAll enc Try.prog W 0 (fun _ => true) true Try.f8.params.toList args.toList ds p := hA0
  rw [Try.params8] at hA hval
  obtain ⟨v0, vs0, d0, ds0, p0, q0, hargs, rfl, rfl, h0, r0⟩ := trodAll_cons hA
  obtain ⟨rfl, rfl, rfl⟩ := trodAll_nil r0
  obtain rfl : args = #[v0] := by cases args; simp_all
  obtain ⟨rfl, rfl⟩ := trodVars_none hV
  obtain ⟨a0, len0, cap0, rfl⟩ := okWide_slice Try.underlying22 (hval 0 22 v0 rfl rfl)
  have k0 := h0
  have lt0 : ∀ x ∈ p0, x.block < W.heap.size := by obtain ⟨m, hm⟩ := k0; exact DataW.trod_lt m _ _ _ hm
  obtain ⟨z0, H0, U0, M0⟩ := has_of_trod (k := .u8) Try.underlying22 Try.underlying5 (by kernel_rfl) h0
  clear hA0 hval0
  refine (walk_FnBehind H0 U0 M0).mono fun e W' ⟨he, bel⟩ => ?_
  subst he
  exact ⟨_, rfl, _, _, _, [], _, [], hW', trodAll_mk1 (shut_bool Try.underlying4 _), (trodAll_cons_mk (Below.trod (by kernel_rfl) (by kernel_rfl) (of_decide_eq_true (by kernel_rfl)) k0 bel lt0) trodAll_mk0), rfl, bel.frame _, fun h => by cases h⟩

theorem fnBehind_holds : Rows.FnBehindSaid :=
  OpenClaim.holds_of_wide 8 Try.f8 rfl rfl rfl rfl rfl rfl rfl ⟨rfl, rfl, rfl, rfl, rfl⟩ rfl rfl rfl rfl rfl (by kernel_rfl) Try.func8 (by kernel_rfl)
    (of_decide_eq_true (by kernel_rfl)) (by unfold Func.isWrapper; first | (rw [if_pos (by decide +kernel)]; kernel_rfl) | (rw [if_neg (by decide +kernel)]; exact ⟨rfl, rfl⟩))
    (fun os started H enc _ => lifted_FnBehind os started H enc)
end Go.Proofs.Ytafplpechpoliaa
