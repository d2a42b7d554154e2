/-
  FnClockDrift: for every slice of bytes the law returns true and writes nothing that was there. No condition.
-/
import Derived.Test.YtbeebaiionlcoaaImp8
import Derived.Test.YtbeebaiionlcoaaDrawLev
import Derived.Test.YtbeebaiionlcoaaWnInts
import Derived.Test.YtbeebaiionlcoaaShut
namespace Go.Proofs.Ytbeebaiionlcoaa
open Go.RowKit Go.ChangeShapes Go.WideShapes Go.ChangeAt

/-- Whether the width is near to so many widths. -/
def nearB (W : Nat) (ws : List Int) (k : Nat) : Bool := decide (0 < W) && (ws.take k).all fun x => decide (3 * (W : Int) ≤ 4 * x) && decide (4 * x < 5 * (W : Int))
theorem nearB_succ {W : Nat} {ws : List Int} {k : Nat} {x : Int} (h : ws[k]? = some x) : nearB W ws (k + 1) = (nearB W ws k && (decide (3 * (W : Int) ≤ 4 * x) && decide (4 * x < 5 * (W : Int)))) := by
  unfold nearB
  rw [List.take_add_one, h, List.all_append, ← Bool.and_assoc]
  simp
theorem nearB_all {W : Nat} {ws : List Int} (h : nearB W ws ws.length = true) : 1 ≤ W ∧ ∀ x ∈ ws, 3 * (W : Int) ≤ 4 * x ∧ 4 * x < 5 * (W : Int) := by
  unfold nearB at h
  rw [List.take_length, Bool.and_eq_true, List.all_eq_true] at h
  refine ⟨by have := h.1; simp at this; omega, fun x hx => ?_⟩
  have := h.2 x hx
  rw [Bool.and_eq_true] at this
  exact ⟨of_decide_eq_true this.1, of_decide_eq_true this.2⟩

set_option maxHeartbeats 16000000 in
set_option maxRecDepth 100000 in
theorem walk_FnClockDrift {A0 : Option Addr} {n0 c0 : Nat} {zs0 : List Int} {w : World} (h0 : Has w A0 n0 (ints .u8 zs0)) (hwf0 : ∀ z ∈ zs0, (Lit.int .u8 z).wf = true) (hc0 : n0 ≤ c0 ∧ c0 ≤ maxLen) :
    Calls Try.prog 6 #[.slice A0 n0 c0] w fun e w' => e = .returned (.bool true) ∧ Below w.heap.size w w' := by
  have hu0 : U8s zs0 := fun z hz => u8_of_wf (hwf0 z hz)
  clear hwf0
  by_cases hn0 : n0 ≤ 1048576
  rotate_left
  · go_enter Try.func6, Try.ntmps6
    go_wp2
    go_ret
    exact ⟨rfl, Below.refl _ _⟩
  go_enter Try.func6, Try.ntmps6
  go_wp2_with (fail)
  refine (drawTicksOf_any h0 hu0 hc0).mono ?_
  rintro e w1 hX
  unfold IntsT at hX
  obtain ⟨A1, n1, c1, ls, D1, m1, d1, ws, rfl, O1, hn1, V1, hm1, B1⟩ := hX
  have H1 := O1.has
  have W1 := V1.has
  clear O1 V1
  go_wp2_with (fail)
  refine (implTicksOf_w H1 W1 (by omega) (by omega)).mono ?_
  rintro e w2 ⟨A2, n2, c2, rfl, P2, B2⟩
  have C2 := bel_trans B1 B2
  have H2 := H1.bel B2
  have W2 := W1.bel B2
  have L2 := P2.has.len
  have hle := ticksL_len ls ws
  have hn2 : n2 ≤ 16000 := by omega
  go_wp2_with (fail)
  refine (specTicksOf_w H2 W2 (by omega) (by omega)).mono ?_
  rintro e w3 ⟨A3, n3, c3, rfl, P3, B3⟩
  have C3 := bel_trans C2 B3
  have H3 := H2.bel B3
  have W3 := W2.bel B3
  have Q3 := P2.has.bel B3
  go_wp2_with (fail)
  refine (wnInts_same Q3 P3.has (by omega)).mono ?_
  rintro e w4 ⟨rfl, B4⟩
  have C4 := bel_trans C3 B4
  have H4 := H3.bel B4
  have W4 := W3.bel B4
  have Q4 := Q3.bel B4
  clear P2 P3 B1 B2 B3 B4 H1 H2 H3 W1 W2 W3 C2 C3 Q3 hle
  by_cases hz : n2 = 0
  · subst hz
    have hzB : (((0 : Nat) : Int) == 0) = true := rfl
    go_wp2_with (fail)
    refine (specTicksOf_w H4 W4 (by omega) (by omega)).mono ?_
    rintro e w5 ⟨A5, n5, c5, rfl, P5, B5⟩
    have C5 := bel_trans C4 B5
    have Q5 := Q4.bel B5
    go_wp2_with (fail)
    refine (wnInts_same Q5 P5.has (by omega)).mono ?_
    rintro e w6 ⟨rfl, B6⟩
    have C6 := bel_trans C5 B6
    go_wp2
    go_ret
    exact ⟨rfl, C6⟩
  have hzB : ((n2 : Int) == 0) = false := by simp; omega
  have hok : okBits ls = true ∧ ls.length ≤ 400 ∧ okW ws = true := Classical.byContradiction fun hh => by
    rw [ticksL_no hh] at L2; simp at L2; omega
  rw [ticksL_yes hok.1 hok.2.1 hok.2.2] at L2 Q4
  have HOB := Lib.hid hok.1
  have HW := Lib.hid hok.2.2
  have HL2 := Lib.hid L2
  have HL := Lib.hid H4.len
  have HLW := Lib.hid W4.len
  have hm0 : 1 ≤ m1 := by have := (okW_iff.1 hok.2.2).1; have := HLW.out; omega
  clear hok L2 hz
  obtain ⟨⟨bs, fine⟩, hr⟩ : ∃ r, bitsFromL ls = r := ⟨_, rfl⟩
  have HR := Lib.hid hr
  have hble := bitsFromL_len ls
  rw [hr] at hble
  clear hr
  dsimp only at hble
  go_wp2_with (fail)
  refine (implBitsFrom_r HR.out H4 (by omega)).mono ?_
  rintro e w5 ⟨A5, n5, c5, rfl, P5, B5⟩
  have C5 := bel_trans C4 B5
  have W5 := W4.bel B5
  have Q5 := Q4.bel B5
  have R5 := P5.has
  have L5 := R5.len
  dsimp only at L5 R5
  have hn5 : n5 ≤ 200 := by omega
  clear P5 B5 H4 W4 Q4 C4 L5 hble
  go_wp2
  go_loopw [46] (fun t wr => ∃ W : Nat, W ≤ 41 ∧ t = .int .i64 (W : Int) ∧ Below w5.heap.size w5 wr) (fun t _ => 41 - (intOf t).toNat)
  case atStart => exact ⟨0, by omega, rfl, Below.refl _ _⟩
  case round =>
    obtain ⟨W, hW, rfl, B6⟩ := hrel
    by_cases hlt : W < 41
    · have hltB : decide ((W : Int) < 41) = true := by simp; omega
      have hltC : decide (W < 41) = true := by simp; omega
      have W6 := W5.bel B6
      have Q6 := Q5.bel B6
      have R6 := R5.bel B6
      have w5W : IntKind.i64.wrap (5 * (W : Int)) = 5 * (W : Int) := IntWalk.i64_in _ (by omega)
      have w3W : IntKind.i64.wrap (3 * (W : Int)) = 3 * (W : Int) := IntWalk.i64_in _ (by omega)
      obtain ⟨g0, hg0⟩ : ∃ g, decide (0 < W) = g := ⟨_, rfl⟩
      have hs0 : nearB W ws 0 = g0 := by unfold nearB; rw [hg0]; simp
      have HS0 := Lib.hid hs0
      have gI : decide ((W : Int) > 0) = g0 := by rw [← hg0]; simp
      have gJ : decide (0 < (W : Int)) = g0 := by rw [← hg0]; simp
      clear hs0
      go_wp2
      go_loopw [9, 53] (fun v t wx => ∃ k : Nat, k ≤ m1 ∧ t = .int .i64 (k : Int) ∧ v = .bool (nearB W ws k) ∧ wx = wr) (fun _ t _ => m1 - (intOf t).toNat)
      case atStart => exact ⟨0, Nat.zero_le _, rfl, by rw [HS0.out], rfl⟩
      case round =>
        obtain ⟨k, hk, rfl, rfl, rfl⟩ := hrel
        by_cases hlk : k < m1
        · have hlkB : decide ((k : Int) < (m1 : Int)) = true := by simp; omega
          obtain ⟨b, o, x, rfl, hbl, hx, hc⟩ := W6.at_ hlk
          have hxb := (okW_iff.1 HW.out).2 x (List.mem_of_getElem? hx)
          have HN := Lib.hid (nearB_succ (W := W) hx)
          have w4x : IntKind.i64.wrap (4 * x) = 4 * x := IntWalk.i64_in _ (by omega)
          obtain ⟨nb, hnb⟩ : ∃ nb, nearB W ws k = nb := ⟨_, rfl⟩
          rw [hnb] at HN
          rw [hnb]
          obtain ⟨p1, hp1⟩ : ∃ p, decide (3 * (W : Int) ≤ 4 * x) = p := ⟨_, rfl⟩
          obtain ⟨p2, hp2⟩ : ∃ p, decide (4 * x < 5 * (W : Int)) = p := ⟨_, rfl⟩
          have hp1' : decide (4 * x ≥ 3 * (W : Int)) = p1 := hp1
          rw [hp1, hp2] at HN
          clear hx hxb hnb
          cases nb <;> cases p1 <;> cases p2
          all_goals
            go_wp2
            go_roundw
            case rel => exact ⟨k + 1, by omega, by go_num, by rw [HN.out]; rfl, trivial⟩
            case measure => simp [intOf]; omega
        · have hlkB : decide ((k : Int) < (m1 : Int)) = false := by simp; omega
          obtain rfl : k = m1 := by omega
          obtain ⟨nb, hnb⟩ : ∃ nb, nearB W ws k = nb := ⟨_, rfl⟩
          have HNB := Lib.hid hnb
          rw [hnb]
          clear hnb
          cases nb with
          | false =>
            go_wp2
            go_roundw
            case rel => exact ⟨W + 1, by omega, by go_num, B6⟩
            case measure => simp [intOf]; omega
          | true =>
            cases fine with
            | false =>
              go_wp2
              go_roundw
              case rel => exact ⟨W + 1, by omega, by go_num, B6⟩
              case measure => simp [intOf]; omega
            | true =>
              have hn := nearB_all (by rw [HLW.out]; exact HNB.out)
              have hrd := read_ticks HR.out HW.out ⟨hn.1, by omega⟩ hn.2
              have HRD := Lib.hid ((readLineL_yes hrd).trans HR.out)
              clear hn hrd
              go_wp2_with (fail)
              refine (implReadLine_w Q6 (by omega)).mono ?_
              rintro e w7 ⟨A7, n7, c7, rfl, P7, B7⟩
              rw [HRD.out] at P7 ⊢
              have R7 := R6.bel B7
              have L7 := P7.has.len
              have L8 := R7.len
              dsimp only at L7 P7 ⊢
              have hn7 : n7 ≤ 16777216 := by omega
              clear L7 L8
              go_wp2_with (fail)
              refine (wnInts_same P7.has R7 hn7).mono ?_
              rintro e w8 ⟨rfl, B8⟩
              have B78 := (B6.trans (B7.mono B6.size)).trans (B8.mono (by have := B6.size; have := B7.size; omega))
              go_wp2
              go_roundw
              case rel => exact ⟨W + 1, by omega, by go_num, B78⟩
              case measure => simp [intOf]; omega
    · have hltB : decide ((W : Int) < 41) = false := by simp; omega
      have hltC : decide (W < 41) = false := by simp; omega
      go_wp2
      go_ret
      exact ⟨rfl, C5.trans (B6.mono C5.size)⟩
set_option maxRecDepth 100000 in
theorem lifted_FnClockDrift (os : Os) (started : os.Started) (H : Type) (enc : TypeId × Value → H) :
    ReturnsInHanded {} Try.checked os 6 .any (Rows.fnClockDriftSpec.pre6 enc Try.prog Try.f6 Rows.fnClockDriftRow.domain false) (Rows.fnClockDriftSpec.post enc Try.prog Try.f6 false true false false) := by
  refine returnsInHanded_of_change (C := Try.checked) (by kernel_rfl) started (by kernel_rfl) Try.func6
    (ChangeSpec.witness6 (enc := enc) (C := Try.checked) false ⟨#[], #[.slice none 0 0], []⟩ 8 (by kernel_rfl) (by kernel_rfl) (by kernel_rfl) (by kernel_rfl)) ?_
  intro W base args ds gs before hval0 hW hcnd _
  have hval : ∀ (j : Nat) t v, Try.f6.params[j]? = some t → args[j]? = some v → Value.okWide Try.prog W .any base t v := hval0
  have hW' := hW
  obtain ⟨p, q, hA0, hV, rfl, hfz, hnd⟩ := hW
  have hA : DataW.TrodAll enc Try.prog W 0 (fun _ => true) true Try.f6.params.toList args.toList ds p := hA0
  rw [Try.params6] at hA hval
  obtain ⟨v0, vs0, d0, ds0, p0, q0, hargs, rfl, rfl, h0, r0⟩ := trodAll_cons hA
  obtain ⟨rfl, rfl, rfl⟩ := trodAll_nil r0
  obtain rfl : args = #[v0] := by cases args; simp_all
  obtain ⟨rfl, rfl⟩ := trodVars_none hV
  obtain ⟨a0, len0, cap0, rfl⟩ := okWide_slice Try.underlying22 (hval 0 22 v0 rfl rfl)
  have k0 := h0
  have lt0 : ∀ x ∈ p0, x.block < W.heap.size := by obtain ⟨m, hm⟩ := k0; exact DataW.trod_lt m _ _ _ hm
  obtain ⟨z0, H0, U0, M0⟩ := has_of_trod (k := .u8) Try.underlying22 Try.underlying5 (by kernel_rfl) h0
  clear hA0 hval0
  refine (walk_FnClockDrift H0 U0 M0).mono fun e W' ⟨he, bel⟩ => ?_
  subst he
  exact ⟨_, rfl, _, _, _, [], _, [], hW', trodAll_mk1 (shut_bool Try.underlying4 _), (trodAll_cons_mk (Below.trod (by kernel_rfl) (by kernel_rfl) (of_decide_eq_true (by kernel_rfl)) k0 bel lt0) trodAll_mk0), rfl, bel.frame _, fun h => by cases h⟩

theorem fnClockDrift_holds : Rows.FnClockDriftSaid :=
  OpenClaim.holds_of_wide 6 Try.f6 rfl rfl rfl rfl rfl rfl rfl ⟨rfl, rfl, rfl, rfl, rfl⟩ rfl rfl rfl rfl rfl (by kernel_rfl) Try.func6
    (by unfold joinedFacts; with_reducible refine Bool.and_eq_true_iff.2 ⟨?_, (by as_aux_lemma => kernel_rfl)⟩; with_reducible refine Bool.and_eq_true_iff.2 ⟨?_, (by as_aux_lemma => kernel_rfl)⟩; with_reducible refine Bool.and_eq_true_iff.2 ⟨?_, (by as_aux_lemma => kernel_rfl)⟩; with_reducible refine Bool.and_eq_true_iff.2 ⟨?_, (by as_aux_lemma => kernel_rfl)⟩; with_reducible refine Bool.and_eq_true_iff.2 ⟨?_, (by with_unfolding_all exact shutMake)⟩; with_reducible refine Bool.and_eq_true_iff.2 ⟨?_, (by with_unfolding_all exact shutLifts)⟩; with_reducible refine Bool.and_eq_true_iff.2 ⟨?_, shutEnter⟩; (repeat (with_reducible refine Bool.and_eq_true_iff.2 ⟨?_, (by as_aux_lemma => kernel_rfl)⟩)); as_aux_lemma => kernel_rfl)
    (of_decide_eq_true (by kernel_rfl)) (by unfold Func.isWrapper; first | (rw [if_pos (by decide +kernel)]; kernel_rfl) | (rw [if_neg (by decide +kernel)]; exact ⟨rfl, rfl⟩))
    (fun os started H enc _ => lifted_FnClockDrift os started H enc)
end Go.Proofs.Ytbeebaiionlcoaa
