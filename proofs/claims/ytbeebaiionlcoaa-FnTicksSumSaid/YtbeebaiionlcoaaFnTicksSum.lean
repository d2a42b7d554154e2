/-
  FnTicksSum: for every slice of bytes the law returns true and writes nothing that was there. No condition.
-/
import Derived.Test.YtbeebaiionlcoaaImp8
import Derived.Test.YtbeebaiionlcoaaDrawLev
import Derived.Test.YtbeebaiionlcoaaWnInts
import Derived.Test.YtbeebaiionlcoaaShut
namespace Go.Proofs.Ytbeebaiionlcoaa
open Go.RowKit Go.ChangeShapes Go.WideShapes Go.ChangeAt

set_option maxHeartbeats 16000000 in
set_option maxRecDepth 100000 in
theorem walk_FnTicksSum {A0 : Option Addr} {n0 c0 : Nat} {zs0 : List Int} {w : World} (h0 : Has w A0 n0 (ints .u8 zs0)) (hwf0 : ∀ z ∈ zs0, (Lit.int .u8 z).wf = true) (hc0 : n0 ≤ c0 ∧ c0 ≤ maxLen) :
    Calls Try.prog 7 #[.slice A0 n0 c0] w fun e w' => e = .returned (.bool true) ∧ Below w.heap.size w w' := by
  have hu0 : U8s zs0 := fun z hz => u8_of_wf (hwf0 z hz)
  clear hwf0
  by_cases hn0 : n0 ≤ 1048576
  rotate_left
  · go_enter Try.func7, Try.ntmps7
    go_wp2
    go_ret
    exact ⟨rfl, Below.refl _ _⟩
  go_enter Try.func7, Try.ntmps7
  go_wp2_with (fail)
  refine (drawTicksOf_any h0 hu0 hc0).mono ?_
  rintro e w1 hX
  unfold IntsT at hX
  obtain ⟨A1, n1, c1, ls, D1, m1, d1, ws, rfl, O1, hn1, V1, hm1, B1⟩ := hX
  have H1 := O1.has
  have W1 := V1.has
  clear O1 V1
  go_wp2_with (fail)
  refine (implTicksOf_w H1 W1 (by omega) (by omega)).mono ?_
  rintro e w2 ⟨A2, n2, c2, rfl, P2, B2⟩
  have C2 := bel_trans B1 B2
  have H2 := H1.bel B2
  have W2 := W1.bel B2
  have L2 := P2.has.len
  have hle := ticksL_len ls ws
  have hn2 : n2 ≤ 16000 := by omega
  go_wp2_with (fail)
  refine (specTicksOf_w H2 W2 (by omega) (by omega)).mono ?_
  rintro e w3 ⟨A3, n3, c3, rfl, P3, B3⟩
  have C3 := bel_trans C2 B3
  have H3 := H2.bel B3
  have W3 := W2.bel B3
  have Q3 := P2.has.bel B3
  go_wp2_with (fail)
  refine (wnInts_same Q3 P3.has (by omega)).mono ?_
  rintro e w4 ⟨rfl, B4⟩
  have C4 := bel_trans C3 B4
  have H4 := H3.bel B4
  have W4 := W3.bel B4
  have Q4 := Q3.bel B4
  clear P2 P3 B1 B2 B3 B4 H1 H2 H3 W1 W2 W3 C2 C3 Q3 hle
  by_cases hz : n2 = 0
  · subst hz
    have hzB : (((0 : Nat) : Int) == 0) = true := rfl
    go_wp2_with (fail)
    refine (specTicksOf_w H4 W4 (by omega) (by omega)).mono ?_
    rintro e w5 ⟨A5, n5, c5, rfl, P5, B5⟩
    have C5 := bel_trans C4 B5
    have Q5 := Q4.bel B5
    go_wp2_with (fail)
    refine (wnInts_same Q5 P5.has (by omega)).mono ?_
    rintro e w6 ⟨rfl, B6⟩
    have C6 := bel_trans C5 B6
    go_wp2
    go_ret
    exact ⟨rfl, C6⟩
  have hzB : ((n2 : Int) == 0) = false := by simp; omega
  have hok : okBits ls = true ∧ ls.length ≤ 400 ∧ okW ws = true := Classical.byContradiction fun hh => by
    rw [ticksL_no hh] at L2; simp at L2; omega
  rw [ticksL_yes hok.1 hok.2.1 hok.2.2] at L2 Q4
  have HOB := Lib.hid hok.1
  have HW := Lib.hid hok.2.2
  have HL2 := Lib.hid L2
  have HL := Lib.hid H4.len
  have HLW := Lib.hid W4.len
  have hm0 : 1 ≤ m1 := by have := (okW_iff.1 hok.2.2).1; have := HLW.out; omega
  clear hok L2 hz
  go_wp2
  go_loopw [6, 38] (fun v t wr => ∃ i : Nat, i ≤ n1 ∧ t = .int .i64 (i : Int) ∧ v = .int .i64 ((ticksP ws 0 (ls.take i)).length : Int) ∧ Below w4.heap.size w4 wr) (fun _ t _ => n1 - (intOf t).toNat)
  case atStart => exact ⟨0, Nat.zero_le _, rfl, rfl, Below.refl _ _⟩
  case round =>
    obtain ⟨i, hi, rfl, rfl, B5⟩ := hrel
    by_cases hlt : i < n1
    · have hltB : decide ((i : Int) < (n1 : Int)) = true := by simp; omega
      obtain ⟨hg1, hg2, hg3⟩ := wdAt_get HW.out i
      obtain ⟨j, hj⟩ : ∃ j, j = min i (m1 - 1) := ⟨_, rfl⟩
      have hjl : j < m1 := by omega
      have hmn : min (i : Int) ((m1 : Int) - 1) = (j : Int) := by omega
      rw [HLW.out, ← hj] at hg1
      obtain ⟨b2, o2, y, rfl, hbl2, hy, hc2⟩ := W4.at_ hjl
      have hyv : y = (wdAt ws i : Int) := by rw [hy] at hg1; injection hg1
      obtain ⟨b, o, x, rfl, hbl, hx, hc⟩ := H4.at_ hlt
      have HX := Lib.hid (ticksP_take ws hx)
      have HA := Lib.hid (fun (q : Nat) (hq : q < wdAt ws i) => ticks_at hx hq)
      obtain ⟨m, hm⟩ : ∃ m, wdAt ws i = m := ⟨_, rfl⟩
      rw [hm] at hyv HX hg2 hg3 HA
      rw [hyv] at hc2
      have hkW : IntKind.i64.wrap ((m1 : Int) - 1) = (m1 : Int) - 1 := IntWalk.i64_in _ (by omega)
      have k0 := (B5.cell (p := ⟨b, o + i, none⟩) hbl).trans hc
      have k2 := (B5.cell (p := ⟨b2, o2 + j, none⟩) hbl2).trans hc2
      obtain ⟨L, hL⟩ : ∃ L, (ticksP ws 0 (ls.take i)).length = L := ⟨_, rfl⟩
      have HX2 : Hid ((ticksP ws 0 (ls.take (i + 1))).length = L + m) := by
        have h1 := congrArg List.length HX.out
        rw [List.length_append, List.length_replicate, hL] at h1
        exact h1
      rw [hL] at HA
      rw [hL]
      have hLn : L + m ≤ n2 := by
        have h1 := HA.out (m - 1) (by omega)
        have h2 := (List.getElem?_eq_some_iff.1 h1).1
        have h3 := HL2.out
        omega
      clear hx hc hy hc2 hj hyv hm hg1 HX hL
      go_wp2
      go_loopw [6, 51] (fun v t wr => ∃ q : Nat, q ≤ m ∧ t = .int .i64 (q : Int) ∧ v = .int .i64 ((L + q : Nat) : Int) ∧ Below w4.heap.size w4 wr) (fun _ t _ => m - (intOf t).toNat)
      case atStart => exact ⟨0, Nat.zero_le _, rfl, rfl, B5⟩
      case round =>
        obtain ⟨q, hq, rfl, rfl, B6⟩ := hrel
        by_cases hlq : q < m
        · have hlqB : decide ((q : Int) < (m : Int)) = true := by simp; omega
          obtain ⟨ai, hai⟩ : ∃ ai, ai = L + q := ⟨_, rfl⟩
          have hxq := HA.out q hlq
          rw [← hai] at hxq ⊢
          obtain ⟨b3, o3, y, rfl, hbl3, hy, hcy⟩ := Q4.at_ (i := ai) (by omega)
          obtain rfl : y = x := by rw [hy] at hxq; injection hxq
          have k3 := (B6.cell (p := ⟨b3, o3 + ai, none⟩) hbl3).trans hcy
          have q2 : (ai : Int) < (n2 : Int) := by omega
          have neB : (y != y) = false := by simp
          have aW : IntKind.i64.wrap ((ai : Int) + 1) = (ai : Int) + 1 := IntWalk.i64_in _ (by omega)
          have HAI := Lib.hid hai
          clear hy hcy hai hxq
          go_wp2
          go_roundw
          case rel => exact ⟨q + 1, by omega, by go_num, by rw [HAI.out]; go_num, B6⟩
          case measure => simp [intOf]; omega
        · have hlqB : decide ((q : Int) < (m : Int)) = false := by simp; omega
          obtain rfl : q = m := by omega
          go_wp2
          go_roundw
          case rel => exact ⟨i + 1, by omega, by go_num, by rw [HX2.out], B6⟩
          case measure => simp [intOf]; omega
    · have hltB : decide ((i : Int) < (n1 : Int)) = false := by simp; omega
      obtain rfl : i = n1 := by omega
      have hend : (ticksP ws 0 (ls.take i)).length = n2 := by rw [List.take_of_length_le (by rw [HL.out]; omega), HL2.out]
      rw [hend]
      have eB : ((n2 : Int) == (n2 : Int)) = true := by simp
      clear hend
      go_wp2
      go_ret
      exact ⟨rfl, C4.trans (B5.mono C4.size)⟩
set_option maxRecDepth 100000 in
theorem lifted_FnTicksSum (os : Os) (started : os.Started) (H : Type) (enc : TypeId × Value → H) :
    ReturnsInHanded {} Try.checked os 7 .any (Rows.fnTicksSumSpec.pre6 enc Try.prog Try.f7 Rows.fnTicksSumRow.domain false) (Rows.fnTicksSumSpec.post enc Try.prog Try.f7 false true false false) := by
  refine returnsInHanded_of_change (C := Try.checked) (by kernel_rfl) started (by kernel_rfl) Try.func7
    (ChangeSpec.witness6 (enc := enc) (C := Try.checked) false ⟨#[], #[.slice none 0 0], []⟩ 8 (by kernel_rfl) (by kernel_rfl) (by kernel_rfl) (by kernel_rfl)) ?_
  intro W base args ds gs before hval0 hW hcnd _
  have hval : ∀ (j : Nat) t v, Try.f7.params[j]? = some t → args[j]? = some v → Value.okWide Try.prog W .any base t v := hval0
  have hW' := hW
  obtain ⟨p, q, hA0, hV, rfl, hfz, hnd⟩ := hW
  have hA : DataW.TrodAll enc Try.prog W 0 (fun _ => true) true Try.f7.params.toList args.toList ds p := hA0
  rw [Try.params7] at hA hval
  obtain ⟨v0, vs0, d0, ds0, p0, q0, hargs, rfl, rfl, h0, r0⟩ := trodAll_cons hA
  obtain ⟨rfl, rfl, rfl⟩ := trodAll_nil r0
  obtain rfl : args = #[v0] := by cases args; simp_all
  obtain ⟨rfl, rfl⟩ := trodVars_none hV
  obtain ⟨a0, len0, cap0, rfl⟩ := okWide_slice Try.underlying22 (hval 0 22 v0 rfl rfl)
  have k0 := h0
  have lt0 : ∀ x ∈ p0, x.block < W.heap.size := by obtain ⟨m, hm⟩ := k0; exact DataW.trod_lt m _ _ _ hm
  obtain ⟨z0, H0, U0, M0⟩ := has_of_trod (k := .u8) Try.underlying22 Try.underlying5 (by kernel_rfl) h0
  clear hA0 hval0
  refine (walk_FnTicksSum H0 U0 M0).mono fun e W' ⟨he, bel⟩ => ?_
  subst he
  exact ⟨_, rfl, _, _, _, [], _, [], hW', trodAll_mk1 (shut_bool Try.underlying4 _), (trodAll_cons_mk (Below.trod (by kernel_rfl) (by kernel_rfl) (of_decide_eq_true (by kernel_rfl)) k0 bel lt0) trodAll_mk0), rfl, bel.frame _, fun h => by cases h⟩

theorem fnTicksSum_holds : Rows.FnTicksSumSaid :=
  OpenClaim.holds_of_wide 7 Try.f7 rfl rfl rfl rfl rfl rfl rfl ⟨rfl, rfl, rfl, rfl, rfl⟩ rfl rfl rfl rfl rfl (by kernel_rfl) Try.func7
    (by unfold joinedFacts; with_reducible refine Bool.and_eq_true_iff.2 ⟨?_, (by as_aux_lemma => kernel_rfl)⟩; with_reducible refine Bool.and_eq_true_iff.2 ⟨?_, (by as_aux_lemma => kernel_rfl)⟩; with_reducible refine Bool.and_eq_true_iff.2 ⟨?_, (by as_aux_lemma => kernel_rfl)⟩; with_reducible refine Bool.and_eq_true_iff.2 ⟨?_, (by as_aux_lemma => kernel_rfl)⟩; with_reducible refine Bool.and_eq_true_iff.2 ⟨?_, (by with_unfolding_all exact shutMake)⟩; with_reducible refine Bool.and_eq_true_iff.2 ⟨?_, (by with_unfolding_all exact shutLifts)⟩; with_reducible refine Bool.and_eq_true_iff.2 ⟨?_, shutEnter⟩; (repeat (with_reducible refine Bool.and_eq_true_iff.2 ⟨?_, (by as_aux_lemma => kernel_rfl)⟩)); as_aux_lemma => kernel_rfl)
    (of_decide_eq_true (by kernel_rfl)) (by unfold Func.isWrapper; first | (rw [if_pos (by decide +kernel)]; kernel_rfl) | (rw [if_neg (by decide +kernel)]; exact ⟨rfl, rfl⟩))
    (fun os started H enc _ => lifted_FnTicksSum os started H enc)
end Go.Proofs.Ytbeebaiionlcoaa
