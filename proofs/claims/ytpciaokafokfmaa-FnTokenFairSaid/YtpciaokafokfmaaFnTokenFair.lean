/-
  FnTokenFair: for every slice of bytes the law returns true and writes nothing that was there. No condition.
-/
import Derived.Test.YtpciaokafokfmaaImp9b
import Derived.Test.YtpciaokafokfmaaTalkB
import Derived.Test.YtpciaokafokfmaaDrawTalk
import Derived.Test.YtpciaokafokfmaaWnInts
import Derived.Test.YtpciaokafokfmaaTalkL
import Derived.Test.YtpciaokafokfmaaShut
namespace Go.Proofs.Ytpciaokafokfmaa
open Go.RowKit Go.ChangeShapes Go.WideShapes Go.ChangeAt

set_option maxHeartbeats 16000000 in
set_option maxRecDepth 100000 in
theorem walk_FnTokenFair {A0 : Option Addr} {n0 c0 : Nat} {zs0 : List Int} {w : World} (h0 : Has w A0 n0 (ints .u8 zs0)) (hwf0 : ∀ z ∈ zs0, (Lit.int .u8 z).wf = true) (hc0 : n0 ≤ c0 ∧ c0 ≤ maxLen) :
    Calls Try.prog 8 #[.slice A0 n0 c0] w fun e w' => e = .returned (.bool true) ∧ Below w.heap.size w w' := by
  have hu0 : U8s zs0 := fun z hz => u8_of_wf (hwf0 z hz)
  clear hwf0
  by_cases hn0 : n0 ≤ 1048576
  rotate_left
  · go_enter Try.func8, Try.ntmps8
    go_wp2
    go_ret
    exact ⟨rfl, Below.refl _ _⟩
  go_enter Try.func8, Try.ntmps8
  go_wp2_with (fail)
  refine (drawRunToken_any h0 hu0 hc0).mono ?_
  rintro e w1 hX
  unfold IntsNN at hX
  obtain ⟨AQ, nQ, cQ, qs, hold, sl, rfl, OQ, hnQ, hhb, hsb, B1⟩ := hX
  have S1 : w.heap.size ≤ w1.heap.size := B1.size
  have C1 := B1
  have HQL := Lib.hid OQ.has.len
  obtain ⟨os, hos⟩ : ∃ os, tokO qs hold sl = os := ⟨_, rfl⟩
  have hOL := tokO_len qs hold sl
  rw [hos] at hOL
  obtain ⟨m, hm⟩ : ∃ m, os.length = m := ⟨_, rfl⟩
  rw [hm] at hOL
  obtain ⟨dd, hdd⟩ : ∃ dd, tokD qs hold sl = dd := ⟨_, rfl⟩
  obtain ⟨ok, hok⟩ : ∃ ok, tokOk qs hold sl = ok := ⟨_, rfl⟩
  have HM := Lib.hid hm
  have HSP := Lib.hid (fun (A : Option Addr) (n c : Nat) (W : World) (h : Has W A n (ints .i64 qs)) (hn : n ≤ 16777216) => show Calls Try.prog 28 #[.slice A n c, .int .i64 hold, .int .i64 sl] W fun e w' => ∃ A' n' c', e = .returned (.tuple #[.agg #[.slice A' n' c', .int .i64 0, .int .i64 (m : Int), .bool dd], .bool ok]) ∧ Own w' W.heap.size 3 A' n' c' (ints .i64 os) ∧ Below W.heap.size W w' by rw [← hm, ← hdd, ← hok, ← hos]; exact specRunToken_w h hn)
  have HIM := Lib.hid (fun (A : Option Addr) (n c : Nat) (W : World) (h : Has W A n (ints .i64 qs)) (hn : n ≤ 16777216) => show Calls Try.prog 27 #[.slice A n c, .int .i64 hold, .int .i64 sl] W fun e w' => ∃ A' n' c', e = .returned (.tuple #[.agg #[.slice A' n' c', .int .i64 0, .int .i64 (m : Int), .bool dd], .bool ok]) ∧ Own w' W.heap.size 3 A' n' c' (ints .i64 os) ∧ Below W.heap.size W w' by rw [← hm, ← hdd, ← hok, ← hos]; exact implRunToken_w h hn)
  have HALL : Hid (ok = true → nQ ≤ 6 ∧ 1 ≤ hold ∧ ∀ i a b : Nat, (((os.take i).count (b : Int) : Nat) : Int) < gq qs b → (((os.take i).count (a : Int) : Nat) : Int) ≤ (((os.take i).count (b : Int) : Nat) : Int) + hold) := fun ho => by
    have hk := hok.trans ho
    have h1 := (turnsOk_iff.1 (tokOk_iff.1 hk).1)
    have h2 := (talkOk_iff.1 h1.1).2
    have h3 := HQL.out
    refine ⟨by omega, h1.2.1, fun i a b hlt => ?_⟩
    rw [← hos] at hlt ⊢
    have := tok_fair (a := a) hlt
    omega
  clear hos hm hdd hok
  go_wp2_with (fail)
  refine (HIM.out _ _ _ _ OQ.has (by omega)).mono ?_
  rintro e w2 ⟨AG, nG, cG, rfl, OG, B2⟩
  have S2 : w1.heap.size ≤ w2.heap.size := B2.size
  have C2 := bel_trans C1 B2
  have Q_2 := OQ.bel B2
  obtain rfl : nG = m := by have q1 := OG.has.len; have q2 := HM.out; omega
  obtain ⟨w3, hw3⟩ : ∃ W, w2.alloc (.cells #[.slice AG nG cG, .int .i64 0, .int .i64 (nG : Int), .bool dd] 27) = W := ⟨_, rfl⟩
  have B3 : Below w2.heap.size w2 w3 := hw3 ▸ below_alloc9 w2 _
  have KG : RunRow w3 w2.heap.size AG nG cG 0 (nG : Int) dd := hw3 ▸ runRow_alloc w2 AG nG cG 0 (nG : Int) dd
  have S3 : w2.heap.size ≤ w3.heap.size := B3.size
  have C3 := bel_trans C2 B3
  have Q_3 := Q_2.bel B3
  have G_3 := OG.bel B3
  obtain ⟨Gc0, Gc1, Gc2, Gc3⟩ := KG.cells
  go_wp2_with (fail)
  refine (HSP.out _ _ _ _ Q_3.has (by omega)).mono ?_
  clear Gc0 Gc1 Gc2 Gc3
  rintro e w4 ⟨AW, nW, cW, rfl, OW, B4⟩
  have S4 : w3.heap.size ≤ w4.heap.size := B4.size
  have C4 := bel_trans C3 B4
  have Q_4 := Q_3.bel B4
  have G_4 := G_3.bel B4
  have KG_4 := KG.bel B4
  obtain rfl : nW = nG := by have q1 := OW.has.len; have q2 := OG.has.len; omega
  -- one length
  obtain ⟨w5, hw5⟩ : ∃ W, w4.alloc (.cells #[.slice AW nW cW, .int .i64 0, .int .i64 (nW : Int), .bool dd] 27) = W := ⟨_, rfl⟩
  have B5 : Below w4.heap.size w4 w5 := hw5 ▸ below_alloc9 w4 _
  have KW : RunRow w5 w4.heap.size AW nW cW 0 (nW : Int) dd := hw5 ▸ runRow_alloc w4 AW nW cW 0 (nW : Int) dd
  have S5 : w4.heap.size ≤ w5.heap.size := B5.size
  have C5 := bel_trans C4 B5
  have Q_5 := Q_4.bel B5
  have G_5 := G_4.bel B5
  have W_5 := OW.bel B5
  have KG_5 := KG_4.bel B5
  have neB : ((nW : Int) != (nW : Int)) = false := by simp
  have eqB : ((nW : Int) == (nW : Int)) = true := by simp
  have dnB : (dd != dd) = false := by simp
  have deB : (dd == dd) = true := by simp
  cases ok with
  | false =>
    clear HALL
    obtain ⟨Gc0, Gc1, Gc2, Gc3⟩ := KG_5.cells
    obtain ⟨Wc0, Wc1, Wc2, Wc3⟩ := KW.cells
    go_wp2_with (fail)
    refine (wnInts_same G_5.has W_5.has (by omega)).mono ?_
    clear Gc0 Gc1 Gc2 Gc3
    clear Wc0 Wc1 Wc2 Wc3
    rintro e w6 ⟨rfl, B6⟩
    have S6 : w5.heap.size ≤ w6.heap.size := B6.size
    have C6 := bel_trans C5 B6
    have Q_6 := Q_5.bel B6
    have G_6 := G_5.bel B6
    have W_6 := W_5.bel B6
    have KG_6 := KG_5.bel B6
    have KW_6 := KW.bel B6
    obtain ⟨Gc0, Gc1, Gc2, Gc3⟩ := KG_6.cells
    obtain ⟨Wc0, Wc1, Wc2, Wc3⟩ := KW_6.cells
    go_wp2_with (fail)
    refine (wnInts_same G_6.has W_6.has (by omega)).mono ?_
    clear Gc0 Gc1 Gc2 Gc3
    clear Wc0 Wc1 Wc2 Wc3
    rintro e w7 ⟨rfl, B7⟩
    have S7 : w6.heap.size ≤ w7.heap.size := B7.size
    have C7 := bel_trans C6 B7
    have Q_7 := Q_6.bel B7
    have G_7 := G_6.bel B7
    have W_7 := W_6.bel B7
    have KG_7 := KG_6.bel B7
    have KW_7 := KW_6.bel B7
    obtain ⟨Gc0, Gc1, Gc2, Gc3⟩ := KG_7.cells
    obtain ⟨Wc0, Wc1, Wc2, Wc3⟩ := KW_7.cells
    go_wp2
    go_ret
    exact ⟨rfl, C7⟩
  | true =>
    obtain ⟨Gc0, Gc1, Gc2, Gc3⟩ := KG_5.cells
    obtain ⟨Wc0, Wc1, Wc2, Wc3⟩ := KW.cells
    go_wp2_with (fail)
    refine (wnInts_same G_5.has W_5.has (by omega)).mono ?_
    clear Gc0 Gc1 Gc2 Gc3
    clear Wc0 Wc1 Wc2 Wc3
    rintro e w6 ⟨rfl, B6⟩
    have S6 : w5.heap.size ≤ w6.heap.size := B6.size
    have C6 := bel_trans C5 B6
    have Q_6 := Q_5.bel B6
    have G_6 := G_5.bel B6
    have W_6 := W_5.bel B6
    have KG_6 := KG_5.bel B6
    have KW_6 := KW.bel B6
    obtain ⟨a1, a2, a3⟩ := HALL.out (by simp)
    have HF := Lib.hid a3
    clear a3 HALL HIM HSP
    obtain ⟨wo, rfl⟩ : ∃ x, x = w6 := ⟨_, rfl⟩
    have KZ := KG_6
    have HOQ := Lib.hid Q_6
    have HOG := Lib.hid G_6
    have HC := Lib.hid C6
    obtain ⟨Gc0, Gc1, Gc2, Gc3⟩ := KZ.cells
    clear Gc1 Gc2 Gc3
    go_wp2
    go_loopw [67] (fun i wr => ∃ k : Nat, k ≤ nW ∧ i = .int .i64 ((k : Nat) : Int) ∧ Below wo.heap.size wo wr) (fun i _ => nW - (intOf i).toNat)
    case atStart => exact ⟨0, Nat.zero_le _, rfl, Below.refl _ _⟩
    case round =>
      obtain ⟨i, hi, rfl, BZ⟩ := hrel
      by_cases hin : i < nW
      rotate_left
      · have iB : decide ((i : Int) < (nW : Int)) = false := by simp; omega
        have iN : decide (i < nW) = false := by simp; omega
        obtain rfl : i = nW := by omega
        go_wp2
        go_ret
        exact ⟨rfl, bel_trans HC.out BZ⟩
      have iB : decide ((i : Int) < (nW : Int)) = true := by simp; omega
      have iN : decide (i < nW) = true := by simp; omega
      have iW : IntKind.i64.wrap ((i : Int) + 1) = ((i + 1 : Nat) : Int) := IntWalk.i64_in _ (by omega)
      have OGZ := HOG.out.bel BZ
      have rf := run_front9 (P := Try.prog) Try.underlying23 Try.sizeOf3 OGZ hi
      have OF := own_front9 OGZ hi
      have KZ2 := KZ.bel BZ
      obtain ⟨Gc0, Gc1, Gc2, Gc3⟩ := KZ2.cells
      clear Gc1 Gc2 Gc3
      go_wp2_with (fail)
      refine (implSentBy_w (c := cG) OF.has (by omega)).mono ?_
      rintro e wi ⟨AS, nS, cS, rfl, OS, BS⟩
      rw [sentL_yes a1] at OS
      obtain rfl : nS = nQ := by have := OS.has.len; rw [sentP_len] at this; omega
      have HFi := Lib.hid (fun (a b : Nat) => HF.out i a b)
      have HPi := Lib.hid (fun (k : Nat) (hk : k < nS) => sentP_at (o := os.take i) hk)
      obtain ⟨ys, hys⟩ : ∃ ys, sentP (os.take i) nS = ys := ⟨_, rfl⟩
      rw [hys] at OS HPi
      clear hys
      have BZi := bel_trans BZ BS
      have HSz := OS.has
      have HQz := (HOQ.out.bel BZi).has
      have HQG := Lib.hid (fun (k : Nat) (z : Int) (hz : qs[k]? = some z) => show gq qs k = z by simp [gq, hz])
      clear rf OF OGZ OS Gc0
      go_wp2
      go_loop [79] (fun x => ∃ a : Nat, a ≤ nS ∧ x = .int .i64 ((a : Nat) : Int)) (fun x => nS - (intOf x).toNat)
      case atStart => exact ⟨0, Nat.zero_le _, rfl⟩
      case round =>
        obtain ⟨a, ha, rfl⟩ := hrel
        by_cases han : a < nS
        rotate_left
        · have aB : decide ((a : Int) < (nS : Int)) = false := by simp; omega
          have aN : decide (a < nS) = false := by simp; omega
          obtain rfl : a = nS := by omega
          go_wp2
          go_roundw
          case rel => exact ⟨i + 1, by have := of_decide_eq_true iN; omega, by go_num, BZi⟩
          case measure => have := of_decide_eq_true iN; simp [intOf]; omega
        have aB : decide ((a : Int) < (nS : Int)) = true := by simp; omega
        have aN : decide (a < nS) = true := by simp; omega
        have aW : IntKind.i64.wrap ((a : Int) + 1) = ((a + 1 : Nat) : Int) := IntWalk.i64_in _ (by omega)
        obtain ⟨ba, oa, x, rfl, hbla, hxa, hca⟩ := HSz.at_ han
        have hax := HPi.out a han
        rw [hxa] at hax
        injection hax with hax
        have HAX := Lib.hid hax
        clear hxa hax
        go_wp2
        go_loop [86] (fun x => ∃ b : Nat, b ≤ nS ∧ x = .int .i64 ((b : Nat) : Int)) (fun x => nS - (intOf x).toNat)
        case atStart => exact ⟨0, Nat.zero_le _, rfl⟩
        case round =>
          obtain ⟨b, hb, rfl⟩ := hrel
          by_cases hbn : b < nS
          rotate_left
          · have bB : decide ((b : Int) < (nS : Int)) = false := by simp; omega
            have bN : decide (b < nS) = false := by simp; omega
            obtain rfl : b = nS := by omega
            go_wp2
            go_round
            case rel => exact ⟨a + 1, by have := of_decide_eq_true aN; omega, by go_num⟩
            case measure => have := of_decide_eq_true aN; simp [intOf]; omega
          have bB : decide ((b : Int) < (nS : Int)) = true := by simp; omega
          have bN : decide (b < nS) = true := by simp; omega
          have bW : IntKind.i64.wrap ((b : Int) + 1) = ((b + 1 : Nat) : Int) := IntWalk.i64_in _ (by omega)
          obtain ⟨bb, ob, y, hAe, hblb, hyb, hcb⟩ := HSz.at_ hbn
          injection hAe with hAe
          injection hAe with hA1 hA2
          subst hA1
          subst hA2
          obtain ⟨bq, oq, q, rfl, hblq, hqq, hcq⟩ := HQz.at_ hbn
          have hby := HPi.out b hbn
          rw [hyb] at hby
          injection hby with hby
          have hqe := HQG.out b q hqq
          have hfair := HFi.out a b
          rw [← hby, ← HAX.out, hqe] at hfair
          have hy0 : 0 ≤ y := by omega
          have hyl : y ≤ 2000 := by
            have h1 : (os.take i).count (b : Int) ≤ (os.take i).length := List.count_le_length
            rw [List.length_take] at h1
            omega
          clear hby hqe hyb hqq
          have yW : IntKind.i64.wrap (y + hold) = y + hold := IntWalk.i64_in _ (by omega)
          by_cases hyq : y < q
          · have yB : decide (y < q) = true := by simp; omega
            have hf := hfair hyq
            have xB : decide (x > y + hold) = false := by simp; omega
            have xB2 : decide (y + hold < x) = false := by simp; omega
            clear hfair hf hyq
            go_wp2
            go_round
            case rel => exact ⟨b + 1, by have := of_decide_eq_true bN; omega, by go_num⟩
            case measure => have := of_decide_eq_true bN; simp [intOf]; omega
          · have yB : decide (y < q) = false := by simp; omega
            clear hfair hyq
            go_wp2
            go_round
            case rel => exact ⟨b + 1, by have := of_decide_eq_true bN; omega, by go_num⟩
            case measure => have := of_decide_eq_true bN; simp [intOf]; omega
set_option maxRecDepth 100000 in
theorem lifted_FnTokenFair (os : Os) (started : os.Started) (H : Type) (enc : TypeId × Value → H) :
    ReturnsInHanded {} Try.checked os 8 .any (Rows.fnTokenFairSpec.pre6 enc Try.prog Try.f8 Rows.fnTokenFairRow.domain false) (Rows.fnTokenFairSpec.post enc Try.prog Try.f8 false true false false) := by
  refine returnsInHanded_of_change (C := Try.checked) (by kernel_rfl) started (by kernel_rfl) Try.func8
    (ChangeSpec.witness6 (enc := enc) (C := Try.checked) false ⟨#[], #[.slice none 0 0], []⟩ 8 (by kernel_rfl) (by kernel_rfl) (by kernel_rfl) (by kernel_rfl)) ?_
  intro W base args ds gs before hval0 hW hcnd _
  have hval : ∀ (j : Nat) t v, Try.f8.params[j]? = some t → args[j]? = some v → Value.okWide Try.prog W .any base t v := hval0
  have hW' := hW
  obtain ⟨p, q, hA0, hV, rfl, hfz, hnd⟩ := hW
  have hA : DataW.TrodAll enc Try.prog W 0 (fun _ => true) true Try.f8.params.toList args.toList ds p := hA0
  rw [Try.params8] at hA hval
  obtain ⟨v0, vs0, d0, ds0, p0, q0, hargs, rfl, rfl, h0, r0⟩ := trodAll_cons hA
  obtain ⟨rfl, rfl, rfl⟩ := trodAll_nil r0
  obtain rfl : args = #[v0] := by cases args; simp_all
  obtain ⟨rfl, rfl⟩ := trodVars_none hV
  obtain ⟨a0, len0, cap0, rfl⟩ := okWide_slice Try.underlying22 (hval 0 22 v0 rfl rfl)
  have k0 := h0
  have lt0 : ∀ x ∈ p0, x.block < W.heap.size := by obtain ⟨m, hm⟩ := k0; exact DataW.trod_lt m _ _ _ hm
  obtain ⟨z0, H0, U0, M0⟩ := has_of_trod (k := .u8) Try.underlying22 Try.underlying5 (by kernel_rfl) h0
  clear hA0 hval0
  refine (walk_FnTokenFair H0 U0 M0).mono fun e W' ⟨he, bel⟩ => ?_
  subst he
  exact ⟨_, rfl, _, _, _, [], _, [], hW', trodAll_mk1 (shut_bool Try.underlying4 _), (trodAll_cons_mk (Below.trod (by kernel_rfl) (by kernel_rfl) (of_decide_eq_true (by kernel_rfl)) k0 bel lt0) trodAll_mk0), rfl, bel.frame _, fun h => by cases h⟩

theorem fnTokenFair_holds : Rows.FnTokenFairSaid :=
  OpenClaim.holds_of_wide 8 Try.f8 rfl rfl rfl rfl rfl rfl rfl ⟨rfl, rfl, rfl, rfl, rfl⟩ rfl rfl rfl rfl rfl (by kernel_rfl) Try.func8
    (by unfold joinedFacts; with_reducible refine Bool.and_eq_true_iff.2 ⟨?_, (by as_aux_lemma => kernel_rfl)⟩; with_reducible refine Bool.and_eq_true_iff.2 ⟨?_, (by as_aux_lemma => kernel_rfl)⟩; with_reducible refine Bool.and_eq_true_iff.2 ⟨?_, (by as_aux_lemma => kernel_rfl)⟩; with_reducible refine Bool.and_eq_true_iff.2 ⟨?_, (by as_aux_lemma => kernel_rfl)⟩; with_reducible refine Bool.and_eq_true_iff.2 ⟨?_, (by with_unfolding_all exact shutMake)⟩; with_reducible refine Bool.and_eq_true_iff.2 ⟨?_, (by with_unfolding_all exact shutLifts)⟩; with_reducible refine Bool.and_eq_true_iff.2 ⟨?_, shutEnter⟩; (repeat (with_reducible refine Bool.and_eq_true_iff.2 ⟨?_, (by as_aux_lemma => kernel_rfl)⟩)); as_aux_lemma => kernel_rfl)
    (of_decide_eq_true (by kernel_rfl)) (by unfold Func.isWrapper; first | (rw [if_pos (by decide +kernel)]; kernel_rfl) | (rw [if_neg (by decide +kernel)]; exact ⟨rfl, rfl⟩))
    (fun os started H enc _ => lifted_FnTokenFair os started H enc)
end Go.Proofs.Ytpciaokafokfmaa
