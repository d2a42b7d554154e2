/-
  FnMeetMost: for every argument the law of the numbers that most spans have returns true and writes nothing that was there. No condition.
-/
import Derived.Test.YtmifhkhanjiklaaDrawTim
import Derived.Test.YtmifhkhanjiklaaTimD
import Derived.Test.YtmifhkhanjiklaaImp15h
import Derived.Test.YtmifhkhanjiklaaTimLaws
import Derived.Test.YtmifhkhanjiklaaShut
import Derived.Lib.QuietBelow
namespace Go.Proofs.Ytmifhkhanjiklaa
open Go.RowKit Go.ChangeShapes Go.WideShapes Go.ChangeAt

set_option maxRecDepth 100000 in
set_option maxHeartbeats 8000000 in
theorem walk_FnMeetMost {A : Option Addr} {n c : Nat} {zs : List Int} {w : World} (h : Has w A n (ints .u8 zs)) (hwf : ∀ z ∈ zs, (Lit.int .u8 z).wf = true) (hc : n ≤ c ∧ c ≤ maxLen) :
    Calls Try.prog 7 #[.slice A n c] w fun e w' => e = .returned (.bool true) ∧ Below w.heap.size w w' := by
  have hu : U8s zs := fun z hz => u8_of_wf (hwf z hz)
  clear hwf
  by_cases hn : n ≤ 1048576
  rotate_left
  · go_enter Try.func7, Try.ntmps7
    go_wp2
    go_ret
    exact ⟨rfl, Below.refl _ _⟩
  go_enter Try.func7, Try.ntmps7
  go_wp2_with (fail)
  refine (drawMeetSpans_any h hu hc).mono ?_
  rintro e w1 ⟨B, m, d, L, rfl, H, hm, B1⟩
  have S1 : w.heap.size ≤ w1.heap.size := B1.size
  have C1 := B1
  have HLN := Lib.hid H.1
  go_wp2_with (fail)
  refine (implMeetSpans_any H (by omega)).mono ?_
  rintro e w2 ⟨⟨lo, hi, q, rfl, hm1⟩, B2⟩
  have S2 : w1.heap.size ≤ w2.heap.size := B2.size
  have C2 := bel_trans C1 B2
  have H_2 := H.bel B2
  obtain ⟨w3, hw3⟩ : ∃ W, w2.alloc (.cells #[.int .i64 lo, .int .i64 hi] 30) = W := ⟨_, rfl⟩
  have B3 : Below w2.heap.size w2 w3 := hw3 ▸ below_allocQ w2 _
  have P_3 : DRow w3 w2.heap.size 30 lo hi := hw3 ▸ dRow_alloc w2 _ _ _
  have S3 : w2.heap.size ≤ w3.heap.size := B3.size
  have C3 := bel_trans C2 B3
  have H_3 := H_2.bel B3
  go_wp2_with (fail)
  refine (specMeetSpans_any H_3 (by omega)).mono ?_
  rintro e w4 ⟨⟨lo', hi', q', rfl, hm2⟩, B4⟩
  have S4 : w3.heap.size ≤ w4.heap.size := B4.size
  have C4 := bel_trans C3 B4
  have P_4 := P_3.bel B4
  have H_4 := H_3.bel B4
  obtain ⟨e1, e2, e3⟩ := hm1.uniq hm2
  subst e1 e2 e3
  clear hm2
  have bB : (q != q) = false := by simp
  have bC : (q == q) = true := by simp
  obtain ⟨w5, hw5⟩ : ∃ W, w4.alloc (.cells #[.int .i64 lo, .int .i64 hi] 30) = W := ⟨_, rfl⟩
  have B5 : Below w4.heap.size w4 w5 := hw5 ▸ below_allocQ w4 _
  have Q_5 : DRow w5 w4.heap.size 30 lo hi := hw5 ▸ dRow_alloc w4 _ _ _
  have S5 : w4.heap.size ≤ w5.heap.size := B5.size
  have C5 := bel_trans C4 B5
  have P_5 := P_4.bel B5
  have H_5 := H_4.bel B5
  obtain ⟨cP50, cP51⟩ := P_5.cells
  obtain ⟨cQ50, cQ51⟩ := Q_5.cells
  have GE := guard_sp15
  have SE := same_sp lo hi
  rcases hm1 with ⟨hsp, M, hqM, hM1, hM40, hmeet, hspan⟩ | ⟨e0, e1, e2, hq0⟩
  rotate_left
  · clear e0 e1 e2
    obtain rfl := hq0
    go_wp2
    go_ret
    exact ⟨rfl, C5⟩
  have q0 : (q == 0) = false := by simp; omega
  have HME := Lib.hid hmeet
  have HQ := Lib.hid hqM
  have HK := Lib.hid P_5
  have HH := Lib.hid H_5
  have hlo := hmeet.2.2.1
  have lB : decide (lo ≤ hi) = true := decide_eq_true hlo
  unfold spOk at hspan
  dsimp only at hspan
  have hw1 : IntKind.i64.wrap (hi + 1) = hi + 1 := IntWalk.i64_in _ (by omega)
  clear hsp hmeet hlo hqM
  go_wp2
  go_loopw [8] (fun t wr => ∃ k : Int, (-30 ≤ k ∧ k ≤ 61) ∧ t = .int .i64 k ∧ Below w5.heap.size w5 wr) (fun t _ => (61 - intOf t).toNat)
  case atStart => exact ⟨-30, by omega, rfl, Below.refl _ _⟩
  case round =>
    obtain ⟨k, hk, rfl, BW⟩ := hrel
    by_cases hlt : k ≤ 60
    · have hltB : decide (k ≤ 60) = true := decide_eq_true hlt
      generalize wr = V at *
      go_wp2
      go_loopw [9, 53] (fun a t wr => ∃ (j : Nat) (x : Int), j ≤ m ∧ t = .int .i64 (j : Int) ∧ a = .int .i64 x ∧ (0 ≤ x ∧ x ≤ (j : Int)) ∧ Hid ((cntS (L.take j) k : Int) = x) ∧ Below w5.heap.size w5 wr) (fun _ t _ => m - (intOf t).toNat)
      case atStart =>
        have h1 : Hid ((cntS (L.take 0) k : Int) = 0) := by have : (cntS (L.take 0) k : Int) = 0 := rfl; exact this
        exact ⟨0, 0, Nat.zero_le _, rfl, rfl, by omega, h1, BW⟩
      case round =>
        clear BW
        obtain ⟨j, x, hj, rfl, rfl, hx, HX, BW⟩ := hrel
        have sW := BW.size
        by_cases hjt : j < m
        · have hjB : decide ((j : Int) < (m : Int)) = true := by simp; omega
          obtain ⟨bb, o, f, t, rfl, hbl, he, c0, c1⟩ := (HH.out.bel BW).at_ hjt
          have HST := Lib.hid (cnt_take (L := L) (k := j) (by have := HLN.out; omega) k)
          rw [dj_atT he] at HST
          obtain ⟨wa, hwa⟩ : ∃ wa, wr.alloc (.cells #[.int .i64 f, .int .i64 t] 30) = wa := ⟨_, rfl⟩
          have KX : DRow wa wr.heap.size 30 f t := hwa ▸ dRow_alloc wr _ f t
          have BA : Below wr.heap.size wr wa := hwa ▸ below_allocQ wr _
          have BWA := BW.trans (BA.mono sW)
          have sA := BWA.size
          obtain ⟨x0, x1⟩ := KX.cells
          obtain ⟨v, hv⟩ : ∃ v, decide (hasS (f, t) k) = v := ⟨_, rfl⟩
          have CC := Lib.hid (fun W => implSpanHas_b (w := W) hv)
          have HV := Lib.hid hv
          clear he hv KX BA
          go_wp2_with (fail)
          refine (CC.out _).mono ?_
          rintro e w5 ⟨rfl, B5⟩
          have B6 := BWA.trans (B5.mono sA)
          cases v with
          | true =>
            have HX2 : Hid ((cntS (L.take (j + 1)) k : Int) = x + 1) := by
              have : (cntS (L.take (j + 1)) k : Int) = x + 1 := by have h1 := HX.out; rw [HST.out, if_pos (of_decide_eq_true HV.out)]; omega
              exact this
            have wx : IntKind.i64.wrap (x + 1) = x + 1 := IntWalk.i64_in _ (by omega)
            have hx2 : 0 ≤ x + 1 ∧ x + 1 ≤ ((j + 1 : Nat) : Int) := by omega
            go_wp2
            go_roundw
            case rel => exact ⟨j + 1, x + 1, by omega, by go_num, rfl, hx2, HX2, B6⟩
            case measure => simp [intOf]; omega
          | false =>
            have HX2 : Hid ((cntS (L.take (j + 1)) k : Int) = x) := by
              have : (cntS (L.take (j + 1)) k : Int) = x := by have h1 := HX.out; rw [HST.out, if_neg (of_decide_eq_false HV.out)]; omega
              exact this
            have hx2 : 0 ≤ x ∧ x ≤ ((j + 1 : Nat) : Int) := by omega
            go_wp2
            go_roundw
            case rel => exact ⟨j + 1, x, by omega, by go_num, rfl, hx2, HX2, B6⟩
            case measure => simp [intOf]; omega
        · have hjB : decide ((j : Int) < (m : Int)) = false := by simp; omega
          obtain rfl : j = m := by omega
          have hcx : (cntS L k : Int) = x := by have h1 := HX.out; rwa [List.take_of_length_le (by have := HLN.out; omega)] at h1
          obtain ⟨g1, g2, g3, g4, g5⟩ := HME.out
          have hq := HQ.out
          have h1 := g1 k
          have b1 : decide (x > q) = false := decide_eq_false (by omega)
          have b2 : decide (q < x) = false := decide_eq_false (by omega)
          have KP := HK.out.bel BW
          obtain ⟨x0, x1⟩ := KP.cells
          have hk2 : -30 ≤ k + 1 ∧ k + 1 ≤ 61 := by omega
          have wk : IntKind.i64.wrap (k + 1) = k + 1 := IntWalk.i64_in _ (by omega)
          obtain ⟨v, hv⟩ : ∃ v, decide (hasS (lo, hi) k) = v := ⟨_, rfl⟩
          have CC := Lib.hid (fun W => implSpanHas_b (w := W) hv)
          by_cases hxq : x = q
          · have b3 : (x == q) = true := by simp [hxq]
            have b4 : (x != q) = false := by simp [hxq]
            have b5 : decide (k < lo) = false := decide_eq_false (fun hh => by have := g2 k hh; omega)
            have b6 : (k == hi + 1) = false := by
              simp only [beq_eq_false_iff_ne, ne_eq]
              intro hh
              rw [hh] at hcx
              omega
            clear g1 g2 g3 g4 g5 hq h1 hcx hxq hv
            go_wp2_with (fail)
            refine (CC.out _).mono ?_
            rintro e w5 ⟨rfl, B5⟩
            have B6 := BW.trans (B5.mono sW)
            obtain ⟨y0, y1⟩ := (KP.bel B5).cells
            cases v with
            | true =>
              go_wp2
              go_roundw
              case rel => exact ⟨k + 1, hk2, by go_num, B6⟩
              case measure => simp [intOf]; omega
            | false =>
              go_wp2
              go_roundw
              case rel => exact ⟨k + 1, hk2, by go_num, B6⟩
              case measure => simp [intOf]; omega
          · have b3 : (x == q) = false := by simp [hxq]
            have b4 : (x != q) = true := by simp [hxq]
            have hvf : v = false := by
              rw [← hv]
              exact decide_eq_false (fun hh => hxq (by have := g4 k hh.2.1 hh.2.2; omega))
            subst hvf
            clear g1 g2 g3 g4 g5 hq h1 hcx hxq hv
            by_cases hkh : k = hi + 1
            · have b6 : (k == hi + 1) = true := by simp [hkh]
              clear hkh
              go_wp2_with (fail)
              refine (CC.out _).mono ?_
              rintro e w5 ⟨rfl, B5⟩
              have B6 := BW.trans (B5.mono sW)
              obtain ⟨y0, y1⟩ := (KP.bel B5).cells
              go_wp2
              go_roundw
              case rel => exact ⟨k + 1, hk2, by go_num, B6⟩
              case measure => simp [intOf]; omega
            · have b6 : (k == hi + 1) = false := by simp [hkh]
              clear hkh
              go_wp2_with (fail)
              refine (CC.out _).mono ?_
              rintro e w5 ⟨rfl, B5⟩
              have B6 := BW.trans (B5.mono sW)
              obtain ⟨y0, y1⟩ := (KP.bel B5).cells
              go_wp2
              go_roundw
              case rel => exact ⟨k + 1, hk2, by go_num, B6⟩
              case measure => simp [intOf]; omega
    · have hltB : decide (k ≤ 60) = false := decide_eq_false hlt
      obtain ⟨x0, x1⟩ := (HK.out.bel BW).cells
      go_wp2
      go_ret
      exact ⟨rfl, bel_trans C5 BW⟩
set_option maxRecDepth 100000 in
theorem lifted_FnMeetMost (os : Os) (started : os.Started) (H : Type) (enc : TypeId × Value → H) :
    ReturnsInHanded {} Try.checked os 7 .any (Rows.fnMeetMostSpec.pre6 enc Try.prog Try.f7 Rows.fnMeetMostRow.domain false) (Rows.fnMeetMostSpec.post enc Try.prog Try.f7 false true false false) := by
  refine returnsInHanded_of_change (C := Try.checked) (by kernel_rfl) started (by kernel_rfl) Try.func7
    (ChangeSpec.witness6 (enc := enc) (C := Try.checked) false ⟨#[], #[.slice none 0 0], []⟩ 8 (by kernel_rfl) (by kernel_rfl) (by kernel_rfl) (by kernel_rfl)) ?_
  intro W base args ds gs before hval0 hW hcnd _
  have hval : ∀ (j : Nat) t v, Try.f7.params[j]? = some t → args[j]? = some v → Value.okWide Try.prog W .any base t v := hval0
  have hW' := hW
  obtain ⟨p, q, hA0, hV, rfl, hfz, hnd⟩ := hW
  have hA : DataW.TrodAll enc Try.prog W 0 (fun _ => true) true Try.f7.params.toList args.toList ds p := hA0
  rw [Try.params7] at hA hval
  obtain ⟨v0, vs0, d0, ds0, p0, q0, hargs, rfl, rfl, h0, r0⟩ := trodAll_cons hA
  obtain ⟨rfl, rfl, rfl⟩ := trodAll_nil r0
  obtain rfl : args = #[v0] := by cases args; simp_all
  obtain ⟨rfl, rfl⟩ := trodVars_none hV
  obtain ⟨a0, len0, cap0, rfl⟩ := okWide_slice Try.underlying22 (hval 0 22 v0 rfl rfl)
  have k0 := h0
  have lt0 : ∀ x ∈ p0, x.block < W.heap.size := by obtain ⟨m, hm⟩ := k0; exact DataW.trod_lt m _ _ _ hm
  obtain ⟨z0, H0, U0, M0⟩ := has_of_trod (k := .u8) Try.underlying22 Try.underlying5 (by kernel_rfl) h0
  clear hA0 hval0
  refine (walk_FnMeetMost H0 U0 M0).mono fun e W' ⟨he, bel⟩ => ?_
  subst he
  exact ⟨_, rfl, _, _, _, [], _, [], hW', trodAll_mk1 (shut_bool Try.underlying4 _), (trodAll_cons_mk (Below.trod (by kernel_rfl) (by kernel_rfl) (of_decide_eq_true (by kernel_rfl)) k0 bel lt0) trodAll_mk0), rfl, bel.frame _, fun h => by cases h⟩

theorem fnMeetMost_holds : Rows.FnMeetMostSaid :=
  OpenClaim.holds_of_wide 7 Try.f7 rfl rfl rfl rfl rfl rfl rfl ⟨rfl, rfl, rfl, rfl, rfl⟩ rfl rfl rfl rfl rfl (by kernel_rfl) Try.func7
    (by unfold joinedFacts; with_reducible refine Bool.and_eq_true_iff.2 ⟨?_, (by as_aux_lemma => kernel_rfl)⟩; with_reducible refine Bool.and_eq_true_iff.2 ⟨?_, (by as_aux_lemma => kernel_rfl)⟩; with_reducible refine Bool.and_eq_true_iff.2 ⟨?_, (by as_aux_lemma => kernel_rfl)⟩; with_reducible refine Bool.and_eq_true_iff.2 ⟨?_, (by as_aux_lemma => kernel_rfl)⟩; with_reducible refine Bool.and_eq_true_iff.2 ⟨?_, (by with_unfolding_all exact shutMake)⟩; with_reducible refine Bool.and_eq_true_iff.2 ⟨?_, (by with_unfolding_all exact shutLifts)⟩; with_reducible refine Bool.and_eq_true_iff.2 ⟨?_, shutEnter⟩; (repeat (with_reducible refine Bool.and_eq_true_iff.2 ⟨?_, (by as_aux_lemma => kernel_rfl)⟩)); as_aux_lemma => kernel_rfl)
    (of_decide_eq_true (by kernel_rfl)) (by unfold Func.isWrapper; first | (rw [if_pos (by decide +kernel)]; kernel_rfl) | (rw [if_neg (by decide +kernel)]; exact ⟨rfl, rfl⟩))
    (fun os started H enc _ => lifted_FnMeetMost os started H enc)
end Go.Proofs.Ytmifhkhanjiklaa
