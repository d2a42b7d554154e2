/-
  FnRuns: for every slice of bytes the law returns true and writes nothing that was there. No condition.
-/
import Derived.Test.YtbeebaiionlcoaaImp8
import Derived.Test.YtbeebaiionlcoaaDrawLev
import Derived.Test.YtbeebaiionlcoaaWnInts
import Derived.Test.YtbeebaiionlcoaaShut
namespace Go.Proofs.Ytbeebaiionlcoaa
open Go.RowKit Go.ChangeShapes Go.WideShapes Go.ChangeAt

set_option maxHeartbeats 16000000 in
set_option maxRecDepth 100000 in
theorem walk_FnRuns {A0 : Option Addr} {n0 c0 : Nat} {zs0 : List Int} {w : World} (h0 : Has w A0 n0 (ints .u8 zs0)) (hwf0 : ∀ z ∈ zs0, (Lit.int .u8 z).wf = true) (hc0 : n0 ≤ c0 ∧ c0 ≤ maxLen) :
    Calls Try.prog 5 #[.slice A0 n0 c0] w fun e w' => e = .returned (.bool true) ∧ Below w.heap.size w w' := by
  have hu0 : U8s zs0 := fun z hz => u8_of_wf (hwf0 z hz)
  clear hwf0
  by_cases hn0 : n0 ≤ 1048576
  rotate_left
  · go_enter Try.func5, Try.ntmps5
    go_wp2
    go_ret
    exact ⟨rfl, Below.refl _ _⟩
  go_enter Try.func5, Try.ntmps5
  go_wp2_with (fail)
  refine (drawRunsOf_any h0 hu0 hc0).mono ?_
  rintro e w1 hX
  unfold IntsO at hX
  obtain ⟨A1, n1, c1, zs, rfl, O1, hn1, B1⟩ := hX
  have H1 := O1.has
  clear O1
  go_wp2_with (fail)
  refine (implRunsOf_w H1 (by omega)).mono ?_
  rintro e w2 ⟨A2, n2, c2, rfl, P2, B2⟩
  have C2 := bel_trans B1 B2
  have H2 := H1.bel B2
  have L2 := P2.has.len
  have hle := runs_le H1
  have hn2 : n2 ≤ 16777216 := by omega
  go_wp2_with (fail)
  refine (specRunsOf_w H2 (by omega)).mono ?_
  rintro e w3 ⟨A3, n3, c3, rfl, P3, B3⟩
  have C3 := bel_trans C2 B3
  have H3 := H2.bel B3
  have Q3 := P2.has.bel B3
  go_wp2_with (fail)
  refine (wnInts_same Q3 P3.has hn2).mono ?_
  rintro e w4 ⟨rfl, B4⟩
  have C4 := bel_trans C3 B4
  have H4 := H3.bel B4
  have Q4 := Q3.bel B4
  clear P2 P3 B1 B2 B3 B4 H1 H2 H3 C2 C3 Q3 hle
  rw [runsL_len] at L2
  have HL2 := Lib.hid L2
  have HL1 := Lib.hid H4.len
  clear L2
  go_wp2
  go_loopw [5, 23] (fun v t wr => ∃ k : Nat, k ≤ n2 ∧ t = .int .i64 (k : Int) ∧ v = .int .i64 (offs (rle zs) k : Int) ∧ Below w4.heap.size w4 wr) (fun _ t _ => n2 - (intOf t).toNat)
  case atStart => exact ⟨0, Nat.zero_le _, rfl, rfl, Below.refl _ _⟩
  case round =>
    obtain ⟨k, hk, rfl, rfl, B5⟩ := hrel
    by_cases hlt : k < n2
    · have hltB : decide ((k : Int) < (n2 : Int)) = true := by simp; omega
      obtain ⟨p, hp⟩ : ∃ p, (rle zs)[k]? = some p := ⟨_, List.getElem?_eq_getElem (by rw [HL2.out]; exact hlt)⟩
      have hpos := okR_mem (rle_ok zs) p (List.mem_of_getElem? hp)
      have HAT := Lib.hid (fun (i : Nat) (hi : i < p.2) => offs_at hp hi)
      have hle := offs_le hp
      have HBF := Lib.hid (fun h0 => offs_before (rle_ok zs) hp h0)
      rw [rle_flat] at hle HAT HBF
      rw [HL1.out] at hle
      have hsucc := Lib.hid (offs_succ hp)
      have hrun := runsL_at hp
      obtain ⟨x, m⟩ := p
      dsimp only at hpos hle hsucc hrun HAT HBF
      obtain ⟨b2, o2, z, rfl, hbl2, hz, hc2⟩ := Q4.at_ hlt
      obtain rfl : z = (m : Int) := by rw [hz] at hrun; injection hrun
      have k0 := (B5.cell (p := ⟨b2, o2 + k, none⟩) hbl2).trans hc2
      obtain ⟨at_, hat_⟩ : ∃ a, offs (rle zs) k = a := ⟨_, rfl⟩
      rw [hat_] at hle hsucc HAT HBF
      rw [hat_]
      have hlt2 : at_ < n1 := by omega
      obtain ⟨b, o, x', rfl, hbl, hx, hc⟩ := H4.at_ hlt2
      obtain rfl : x' = x := by have := HAT.out 0 (by omega); rw [Nat.add_zero, hx] at this; injection this
      have HC := Lib.hid hc
      clear hz hc2 hrun hp hx hc hat_
      go_wp2
      go_loopw [28] (fun t wr => ∃ i : Nat, i ≤ m ∧ t = .int .i64 (i : Int) ∧ Below w4.heap.size w4 wr) (fun t _ => m - (intOf t).toNat)
      case atStart => exact ⟨0, Nat.zero_le _, rfl, B5⟩
      case round =>
        obtain ⟨i, hi, rfl, B6⟩ := hrel
        have k1 := (B6.cell (p := ⟨b, o + at_, none⟩) hbl).trans HC.out
        have q1 : (at_ : Int) < (n1 : Int) := by omega
        by_cases hlm : i < m
        · have hlmB : decide ((i : Int) < (m : Int)) = true := by simp; omega
          obtain ⟨ai, hai⟩ : ∃ ai, ai = at_ + i := ⟨_, rfl⟩
          have hxi := HAT.out i hlm
          rw [← hai] at hxi
          obtain ⟨b3, o3, y, hA3, _, hy, hcy⟩ := H4.at_ (i := ai) (by omega)
          injection hA3 with hA3; injection hA3 with r1 r2; subst r1 r2
          obtain rfl : y = x' := by rw [hy] at hxi; injection hxi
          have k2 := (B6.cell (p := ⟨b, o + ai, none⟩) hbl).trans hcy
          have atW : IntKind.i64.wrap ((at_ : Int) + (i : Int)) = (ai : Int) := by rw [IntWalk.i64_in _ (by omega)]; omega
          have q2 : (ai : Int) < (n1 : Int) := by omega
          have neB : (y != y) = false := by simp
          clear hy hcy hai hxi
          go_wp2
          go_quiet (fail)
          go_wp2
          go_roundw
          case rel => exact ⟨i + 1, by omega, by go_num, B6.trans (below_drewN _ _)⟩
          case measure => simp [intOf]; omega
        · have hlmB : decide ((i : Int) < (m : Int)) = false := by simp; omega
          obtain rfl : i = m := by omega
          have m1 : decide ((i : Int) < 1) = false := by simp; omega
          have m2 : decide (i < 1) = false := by simp; omega
          have aW : IntKind.i64.wrap ((at_ : Int) + (i : Int)) = ((at_ + i : Nat) : Int) := by rw [IntWalk.i64_in _ (by omega)]; omega
          have aW2 : IntKind.i64.wrap ((at_ : Int) + (i : Int)) = (at_ : Int) + (i : Int) := IntWalk.i64_in _ (by omega)
          clear aW
          by_cases ha0 : at_ = 0
          · subst ha0
            have g0 : decide (((0 : Nat) : Int) > 0) = false := rfl
            have g1 : decide ((0 : Int) > 0) = false := rfl
            go_wp2
            go_quiet (fail)
            go_wp2
            go_roundw
            case rel => exact ⟨k + 1, by omega, by go_num, by rw [hsucc.out]; simp, B6.trans (below_drewN _ _)⟩
            case measure => simp [intOf]; omega
          · have g0 : decide ((at_ : Int) > 0) = true := by simp; omega
            have g1 : decide (0 < (at_ : Int)) = true := by simp; omega
            have g2 : decide (0 < at_) = true := by simp; omega
            obtain ⟨ap, hap⟩ : ∃ ap, ap = at_ - 1 := ⟨_, rfl⟩
            obtain ⟨yv, hyv, hne⟩ := HBF.out (by omega)
            rw [← hap] at hyv
            obtain ⟨b3, o3, y, hA3, _, hy, hcy⟩ := H4.at_ (i := ap) (by omega)
            injection hA3 with hA3; injection hA3 with r1 r2; subst r1 r2
            obtain rfl : y = yv := by rw [hy] at hyv; injection hyv
            have k2 := (B6.cell (p := ⟨b, o + ap, none⟩) hbl).trans hcy
            have apW : IntKind.i64.wrap ((at_ : Int) - 1) = (ap : Int) := by rw [IntWalk.i64_in _ (by omega)]; omega
            have q2 : (ap : Int) < (n1 : Int) := by omega
            have eqB : (y == x') = false := by simp [hne]
            clear hy hcy hap hyv hne ha0
            go_wp2
            go_quiet (fail)
            go_wp2
            go_roundw
            case rel => exact ⟨k + 1, by omega, by go_num, by rw [hsucc.out]; simp, B6.trans (below_drewN _ _)⟩
            case measure => simp [intOf]; omega
    · have hltB : decide ((k : Int) < (n2 : Int)) = false := by simp; omega
      obtain rfl : k = n2 := by omega
      have hend : offs (rle zs) k = n1 := by rw [← HL2.out, offs_end, HL1.out]
      rw [hend]
      have eB : ((n1 : Int) == (n1 : Int)) = true := by simp
      clear hend
      go_wp2
      go_ret
      exact ⟨rfl, C4.trans (B5.mono C4.size)⟩
set_option maxRecDepth 100000 in
theorem lifted_FnRuns (os : Os) (started : os.Started) (H : Type) (enc : TypeId × Value → H) :
    ReturnsInHanded {} Try.checked os 5 .any (Rows.fnRunsSpec.pre6 enc Try.prog Try.f5 Rows.fnRunsRow.domain false) (Rows.fnRunsSpec.post enc Try.prog Try.f5 false true false false) := by
  refine returnsInHanded_of_change (C := Try.checked) (by kernel_rfl) started (by kernel_rfl) Try.func5
    (ChangeSpec.witness6 (enc := enc) (C := Try.checked) false ⟨#[], #[.slice none 0 0], []⟩ 8 (by kernel_rfl) (by kernel_rfl) (by kernel_rfl) (by kernel_rfl)) ?_
  intro W base args ds gs before hval0 hW hcnd _
  have hval : ∀ (j : Nat) t v, Try.f5.params[j]? = some t → args[j]? = some v → Value.okWide Try.prog W .any base t v := hval0
  have hW' := hW
  obtain ⟨p, q, hA0, hV, rfl, hfz, hnd⟩ := hW
  have hA : DataW.TrodAll enc Try.prog W 0 (fun _ => true) true Try.f5.params.toList args.toList ds p := hA0
  rw [Try.params5] at hA hval
  obtain ⟨v0, vs0, d0, ds0, p0, q0, hargs, rfl, rfl, h0, r0⟩ := trodAll_cons hA
  obtain ⟨rfl, rfl, rfl⟩ := trodAll_nil r0
  obtain rfl : args = #[v0] := by cases args; simp_all
  obtain ⟨rfl, rfl⟩ := trodVars_none hV
  obtain ⟨a0, len0, cap0, rfl⟩ := okWide_slice Try.underlying22 (hval 0 22 v0 rfl rfl)
  have k0 := h0
  have lt0 : ∀ x ∈ p0, x.block < W.heap.size := by obtain ⟨m, hm⟩ := k0; exact DataW.trod_lt m _ _ _ hm
  obtain ⟨z0, H0, U0, M0⟩ := has_of_trod (k := .u8) Try.underlying22 Try.underlying5 (by kernel_rfl) h0
  clear hA0 hval0
  refine (walk_FnRuns H0 U0 M0).mono fun e W' ⟨he, bel⟩ => ?_
  subst he
  exact ⟨_, rfl, _, _, _, [], _, [], hW', trodAll_mk1 (shut_bool Try.underlying4 _), (trodAll_cons_mk (Below.trod (by kernel_rfl) (by kernel_rfl) (of_decide_eq_true (by kernel_rfl)) k0 bel lt0) trodAll_mk0), rfl, bel.frame _, fun h => by cases h⟩

theorem fnRuns_holds : Rows.FnRunsSaid :=
  OpenClaim.holds_of_wide 5 Try.f5 rfl rfl rfl rfl rfl rfl rfl ⟨rfl, rfl, rfl, rfl, rfl⟩ rfl rfl rfl rfl rfl (by kernel_rfl) Try.func5
    (by unfold joinedFacts; with_reducible refine Bool.and_eq_true_iff.2 ⟨?_, (by as_aux_lemma => kernel_rfl)⟩; with_reducible refine Bool.and_eq_true_iff.2 ⟨?_, (by as_aux_lemma => kernel_rfl)⟩; with_reducible refine Bool.and_eq_true_iff.2 ⟨?_, (by as_aux_lemma => kernel_rfl)⟩; with_reducible refine Bool.and_eq_true_iff.2 ⟨?_, (by as_aux_lemma => kernel_rfl)⟩; with_reducible refine Bool.and_eq_true_iff.2 ⟨?_, (by with_unfolding_all exact shutMake)⟩; with_reducible refine Bool.and_eq_true_iff.2 ⟨?_, (by with_unfolding_all exact shutLifts)⟩; with_reducible refine Bool.and_eq_true_iff.2 ⟨?_, shutEnter⟩; (repeat (with_reducible refine Bool.and_eq_true_iff.2 ⟨?_, (by as_aux_lemma => kernel_rfl)⟩)); as_aux_lemma => kernel_rfl)
    (of_decide_eq_true (by kernel_rfl)) (by unfold Func.isWrapper; first | (rw [if_pos (by decide +kernel)]; kernel_rfl) | (rw [if_neg (by decide +kernel)]; exact ⟨rfl, rfl⟩))
    (fun os started H enc _ => lifted_FnRuns os started H enc)
end Go.Proofs.Ytbeebaiionlcoaa
