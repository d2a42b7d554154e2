/-
  FnTalkOnce: for every slice of bytes the law returns true and writes nothing that was there. No condition.
-/
import Derived.Test.YtpciaokafokfmaaImp9b
import Derived.Test.YtpciaokafokfmaaImp9g
import Derived.Test.YtpciaokafokfmaaTalkE
import Derived.Test.YtpciaokafokfmaaDrawTalk
import Derived.Test.YtpciaokafokfmaaWnInts
import Derived.Test.YtpciaokafokfmaaTalkL
import Derived.Test.YtpciaokafokfmaaShut
namespace Go.Proofs.Ytpciaokafokfmaa
open Go.RowKit Go.ChangeShapes Go.WideShapes Go.ChangeAt

set_option maxHeartbeats 16000000 in
set_option maxRecDepth 100000 in
theorem walk_FnTalkOnce {A0 : Option Addr} {n0 c0 : Nat} {zs0 : List Int} {w : World} (h0 : Has w A0 n0 (ints .u8 zs0)) (hwf0 : ∀ z ∈ zs0, (Lit.int .u8 z).wf = true) (hc0 : n0 ≤ c0 ∧ c0 ≤ maxLen) :
    Calls Try.prog 3 #[.slice A0 n0 c0] w fun e w' => e = .returned (.bool true) ∧ Below w.heap.size w w' := by
  have hu0 : U8s zs0 := fun z hz => u8_of_wf (hwf0 z hz)
  clear hwf0
  by_cases hn0 : n0 ≤ 1048576
  rotate_left
  · go_enter Try.func3, Try.ntmps3
    go_wp2
    go_ret
    exact ⟨rfl, Below.refl _ _⟩
  go_enter Try.func3, Try.ntmps3
  go_wp2_with (fail)
  refine (drawRunTalk_any h0 hu0 hc0).mono ?_
  rintro e w1 hX
  unfold IntsTN at hX
  obtain ⟨AQ, nQ, cQ, qs, AD, nD, cD, ds, sl, rfl, OQ, hnQ, OD, hnD, hsb, B1⟩ := hX
  have S1 : w.heap.size ≤ w1.heap.size := B1.size
  have C1 := B1
  have HQL := Lib.hid OQ.has.len
  obtain ⟨os, hos⟩ : ∃ os, talkO qs ds sl = os := ⟨_, rfl⟩
  obtain ⟨hh, hH⟩ : ∃ x : Int, (talkH qs ds sl : Int) = x := ⟨_, rfl⟩
  obtain ⟨ss, hN⟩ : ∃ x : Int, (talkN qs ds sl : Int) = x := ⟨_, rfl⟩
  obtain ⟨dd, hdd⟩ : ∃ dd, talkD qs ds sl = dd := ⟨_, rfl⟩
  obtain ⟨ok, hok⟩ : ∃ ok, talkRunOk qs ds sl = ok := ⟨_, rfl⟩
  obtain ⟨m, hm⟩ : ∃ m, os.length = m := ⟨_, rfl⟩
  have HM := Lib.hid hm
  have htb : (m : Int) + hh ≤ ss ∧ ss ≤ 2000 ∧ 0 ≤ hh ∧ (ok = true → ss ≤ sl) := by
    have h1 := talk_b qs ds sl
    rw [hos, hm, hok] at h1
    refine ⟨by omega, by omega, by omega, fun h => ?_⟩
    have h2 := h1.2.2 h
    have h3 := (talkRunOk_iff.1 (hok.trans h)).2.2
    omega
  have HTB := Lib.hid htb
  have hm2 : m ≤ 2000 := by omega
  have HSP := Lib.hid (fun (A : Option Addr) (n c : Nat) (D : Option Addr) (m d : Nat) (W : World) (h : Has W A n (ints .i64 qs)) (hn : n ≤ 16777216) (k : Has W D m (ints .i64 ds)) (hm : m ≤ 16777216) (hc : m ≤ d) (hl : ∀ x, D = some x → x.block < W.heap.size) => show Calls Try.prog 18 #[.slice A n c, .slice D m d, .int .i64 sl] W fun e w' => ∃ A' n' c', e = .returned (.tuple #[.agg #[.slice A' n' c', .int .i64 hh, .int .i64 ss, .bool dd], .bool ok]) ∧ Own w' W.heap.size 3 A' n' c' (ints .i64 os) ∧ Below W.heap.size W w' by rw [← hH, ← hN, ← hdd, ← hok, ← hos]; exact specRunTalk_w h hn k hm hc hl)
  have HIM := Lib.hid (fun (A : Option Addr) (n c : Nat) (D : Option Addr) (m d : Nat) (W : World) (h : Has W A n (ints .i64 qs)) (hn : n ≤ 16777216) (k : Has W D m (ints .i64 ds)) (hm : m ≤ 16777216) (hc : m ≤ d) (hl : ∀ x, D = some x → x.block < W.heap.size) => show Calls Try.prog 17 #[.slice A n c, .slice D m d, .int .i64 sl] W fun e w' => ∃ A' n' c', e = .returned (.tuple #[.agg #[.slice A' n' c', .int .i64 hh, .int .i64 ss, .bool dd], .bool ok]) ∧ Own w' W.heap.size 3 A' n' c' (ints .i64 os) ∧ Below W.heap.size W w' by rw [← hH, ← hN, ← hdd, ← hok, ← hos]; exact implRunTalk_w h hn k hm hc hl)
  have HALL : Hid (ok = true → nQ ≤ 6 ∧ ∀ k : Nat, ((os.count (k : Int) : Nat) : Int) ≤ gq qs k ∧ (dd = true → ((os.count (k : Int) : Nat) : Int) = gq qs k)) := fun ho => by
    have hk := hok.trans ho
    have h2 := (talkOk_iff.1 (talkRunOk_iff.1 hk).1).2
    have h3 := HQL.out
    refine ⟨by omega, fun k => ?_⟩
    have h4 := talk_once hk k
    rw [hos, hdd] at h4
    exact h4
  clear htb
  clear hos hH hN hdd hok hm
  go_wp2_with (fail)
  refine (HIM.out _ _ _ _ _ _ _ OQ.has (by omega) OD.has (by omega) OD.cap OD.lt).mono ?_
  rintro e w2 ⟨AG, nG, cG, rfl, OG, B2⟩
  have S2 : w1.heap.size ≤ w2.heap.size := B2.size
  have C2 := bel_trans C1 B2
  have Q_2 := OQ.bel B2
  have D_2 := OD.bel B2
  obtain rfl : nG = m := by have q1 := OG.has.len; have q2 := HM.out; omega
  obtain ⟨w3, hw3⟩ : ∃ W, w2.alloc (.cells #[.slice AG nG cG, .int .i64 hh, .int .i64 ss, .bool dd] 27) = W := ⟨_, rfl⟩
  have B3 : Below w2.heap.size w2 w3 := hw3 ▸ below_alloc9 w2 _
  have KG : RunRow w3 w2.heap.size AG nG cG hh ss dd := hw3 ▸ runRow_alloc w2 AG nG cG hh ss dd
  have S3 : w2.heap.size ≤ w3.heap.size := B3.size
  have C3 := bel_trans C2 B3
  have Q_3 := Q_2.bel B3
  have D_3 := D_2.bel B3
  have G_3 := OG.bel B3
  obtain ⟨Gc0, Gc1, Gc2, Gc3⟩ := KG.cells
  go_wp2_with (fail)
  refine (HSP.out _ _ _ _ _ _ _ Q_3.has (by omega) D_3.has (by omega) D_3.cap D_3.lt).mono ?_
  clear Gc0 Gc1 Gc2 Gc3
  rintro e w4 ⟨AW, nW, cW, rfl, OW, B4⟩
  have S4 : w3.heap.size ≤ w4.heap.size := B4.size
  have C4 := bel_trans C3 B4
  have Q_4 := Q_3.bel B4
  have D_4 := D_3.bel B4
  have G_4 := G_3.bel B4
  have KG_4 := KG.bel B4
  obtain rfl : nW = nG := by have q1 := OW.has.len; have q2 := OG.has.len; omega
  -- one length
  obtain ⟨w5, hw5⟩ : ∃ W, w4.alloc (.cells #[.slice AW nW cW, .int .i64 hh, .int .i64 ss, .bool dd] 27) = W := ⟨_, rfl⟩
  have B5 : Below w4.heap.size w4 w5 := hw5 ▸ below_alloc9 w4 _
  have KW : RunRow w5 w4.heap.size AW nW cW hh ss dd := hw5 ▸ runRow_alloc w4 AW nW cW hh ss dd
  have S5 : w4.heap.size ≤ w5.heap.size := B5.size
  have C5 := bel_trans C4 B5
  have Q_5 := Q_4.bel B5
  have D_5 := D_4.bel B5
  have G_5 := G_4.bel B5
  have W_5 := OW.bel B5
  have KG_5 := KG_4.bel B5
  have neB : ((nW : Int) != (nW : Int)) = false := by simp
  have eqB : ((nW : Int) == (nW : Int)) = true := by simp
  have dnB : (dd != dd) = false := by simp
  have deB : (dd == dd) = true := by simp
  have hnB : (hh != hh) = false := by simp
  have heB : (hh == hh) = true := by simp
  have snB : (ss != ss) = false := by simp
  have seB : (ss == ss) = true := by simp
  cases ok with
  | false =>
    clear HALL HTB
    obtain ⟨Gc0, Gc1, Gc2, Gc3⟩ := KG_5.cells
    obtain ⟨Wc0, Wc1, Wc2, Wc3⟩ := KW.cells
    go_wp2_with (fail)
    refine (wnInts_same G_5.has W_5.has (by omega)).mono ?_
    clear Gc0 Gc1 Gc2 Gc3
    clear Wc0 Wc1 Wc2 Wc3
    rintro e w6 ⟨rfl, B6⟩
    have S6 : w5.heap.size ≤ w6.heap.size := B6.size
    have C6 := bel_trans C5 B6
    have Q_6 := Q_5.bel B6
    have D_6 := D_5.bel B6
    have G_6 := G_5.bel B6
    have W_6 := W_5.bel B6
    have KG_6 := KG_5.bel B6
    have KW_6 := KW.bel B6
    obtain ⟨Gc0, Gc1, Gc2, Gc3⟩ := KG_6.cells
    obtain ⟨Wc0, Wc1, Wc2, Wc3⟩ := KW_6.cells
    go_wp2_with (fail)
    refine (wnInts_same G_6.has W_6.has (by omega)).mono ?_
    clear Gc0 Gc1 Gc2 Gc3
    clear Wc0 Wc1 Wc2 Wc3
    rintro e w7 ⟨rfl, B7⟩
    have S7 : w6.heap.size ≤ w7.heap.size := B7.size
    have C7 := bel_trans C6 B7
    have Q_7 := Q_6.bel B7
    have D_7 := D_6.bel B7
    have G_7 := G_6.bel B7
    have W_7 := W_6.bel B7
    have KG_7 := KG_6.bel B7
    have KW_7 := KW_6.bel B7
    obtain ⟨Gc0, Gc1, Gc2, Gc3⟩ := KG_7.cells
    obtain ⟨Wc0, Wc1, Wc2, Wc3⟩ := KW_7.cells
    go_wp2
    go_ret
    exact ⟨rfl, C7⟩
  | true =>
    obtain ⟨Gc0, Gc1, Gc2, Gc3⟩ := KG_5.cells
    obtain ⟨Wc0, Wc1, Wc2, Wc3⟩ := KW.cells
    go_wp2_with (fail)
    refine (wnInts_same G_5.has W_5.has (by have := HTB.out; omega)).mono ?_
    clear Gc0 Gc1 Gc2 Gc3
    clear Wc0 Wc1 Wc2 Wc3
    rintro e w6 ⟨rfl, B6⟩
    have S6 : w5.heap.size ≤ w6.heap.size := B6.size
    have C6 := bel_trans C5 B6
    have Q_6 := Q_5.bel B6
    have D_6 := D_5.bel B6
    have G_6 := G_5.bel B6
    have W_6 := W_5.bel B6
    have KG_6 := KG_5.bel B6
    have KW_6 := KW.bel B6
    obtain ⟨a1, a3⟩ := HALL.out (by simp)
    have HF := Lib.hid a3
    clear a3 HALL HIM HSP
    obtain ⟨Gc0, Gc1, Gc2, Gc3⟩ := KG_6.cells
    obtain ⟨Wc0, Wc1, Wc2, Wc3⟩ := KW_6.cells
    go_wp2_with (fail)
    refine (implSentBy_w (c := cG) G_6.has (by have := HTB.out; omega)).mono ?_
    clear Gc0 Gc1 Gc2 Gc3
    clear Wc0 Wc1 Wc2 Wc3
    rintro e w7 ⟨AS, nS, cS, rfl, OS, B7⟩
    have S7 : w6.heap.size ≤ w7.heap.size := B7.size
    have C7 := bel_trans C6 B7
    have Q_7 := Q_6.bel B7
    have D_7 := D_6.bel B7
    have G_7 := G_6.bel B7
    have W_7 := W_6.bel B7
    have KG_7 := KG_6.bel B7
    have KW_7 := KW_6.bel B7
    rw [sentL_yes a1] at OS
    obtain rfl : nS = nQ := by have := OS.has.len; rw [sentP_len] at this; omega
    have HPi := Lib.hid (fun (k : Nat) (hk : k < nS) => sentP_at (o := os) hk)
    obtain ⟨ys, hys⟩ : ∃ ys, sentP os nS = ys := ⟨_, rfl⟩
    rw [hys] at OS HPi
    clear hys
    have HSz := OS.has
    have HQz := Q_7.has
    have HQG := Lib.hid (fun (k : Nat) (z : Int) (hz : qs[k]? = some z) => show gq qs k = z by simp [gq, hz])
    obtain ⟨b1, b2, b3, b4⟩ := HTB.out
    have b5 := b4 (by simp)
    clear b4 OS
    have sumW : IntKind.i64.wrap ((nW : Int) + hh) = (nW : Int) + hh := IntWalk.i64_in _ (by omega)
    have le1 : decide ((nW : Int) + hh ≤ ss) = true := by simp; omega
    have le2 : decide (ss ≤ sl) = true := by simp; omega
    obtain ⟨Gc0, Gc1, Gc2, Gc3⟩ := KG_7.cells
    obtain ⟨Wc0, Wc1, Wc2, Wc3⟩ := KW_7.cells
    clear Wc0 Wc1 Wc2 Wc3
    go_wp2
    go_loop [110] (fun x => ∃ k : Nat, k ≤ nS ∧ x = .int .i64 (k : Int)) (fun x => nS - (intOf x).toNat)
    case atStart => exact ⟨0, Nat.zero_le _, rfl⟩
    case round =>
      obtain ⟨k, hk, rfl⟩ := hrel
      by_cases hkn : k < nS
      rotate_left
      · have kB : decide ((k : Int) < (nS : Int)) = false := by simp; omega
        have kN : decide (k < nS) = false := by simp; omega
        obtain rfl : k = nS := by omega
        go_wp2
        go_ret
        exact ⟨rfl, C7⟩
      have kB : decide ((k : Int) < (nS : Int)) = true := by simp; omega
      have kN : decide (k < nS) = true := by simp; omega
      have kW : IntKind.i64.wrap ((k : Int) + 1) = ((k + 1 : Nat) : Int) := IntWalk.i64_in _ (by omega)
      obtain ⟨bs, os', y, rfl, hbls, hys, hcs⟩ := HSz.at_ hkn
      obtain ⟨bq, oq, q, rfl, hblq, hqq, hcq⟩ := HQz.at_ hkn
      have hy := HPi.out k hkn
      rw [hys] at hy
      injection hy with hy
      have hqe := HQG.out k q hqq
      obtain ⟨f1, f2⟩ := HF.out k
      rw [← hy, hqe] at f1 f2
      have g1 : decide (y > q) = false := by simp; omega
      have g2 : decide (q < y) = false := by simp; omega
      clear hys hqq hy hqe
      cases dd with
      | false =>
        clear f1 f2
        go_wp2
        go_round
        case rel => exact ⟨k + 1, by have := of_decide_eq_true kN; omega, by go_num⟩
        case measure => have := of_decide_eq_true kN; simp [intOf]; omega
      | true =>
        obtain rfl := f2 (by simp)
        have yy : (y != y) = false := by simp
        clear f1 f2
        go_wp2
        go_round
        case rel => exact ⟨k + 1, by have := of_decide_eq_true kN; omega, by go_num⟩
        case measure => have := of_decide_eq_true kN; simp [intOf]; omega
set_option maxRecDepth 100000 in
theorem lifted_FnTalkOnce (os : Os) (started : os.Started) (H : Type) (enc : TypeId × Value → H) :
    ReturnsInHanded {} Try.checked os 3 .any (Rows.fnTalkOnceSpec.pre6 enc Try.prog Try.f3 Rows.fnTalkOnceRow.domain false) (Rows.fnTalkOnceSpec.post enc Try.prog Try.f3 false true false false) := by
  refine returnsInHanded_of_change (C := Try.checked) (by kernel_rfl) started (by kernel_rfl) Try.func3
    (ChangeSpec.witness6 (enc := enc) (C := Try.checked) false ⟨#[], #[.slice none 0 0], []⟩ 8 (by kernel_rfl) (by kernel_rfl) (by kernel_rfl) (by kernel_rfl)) ?_
  intro W base args ds gs before hval0 hW hcnd _
  have hval : ∀ (j : Nat) t v, Try.f3.params[j]? = some t → args[j]? = some v → Value.okWide Try.prog W .any base t v := hval0
  have hW' := hW
  obtain ⟨p, q, hA0, hV, rfl, hfz, hnd⟩ := hW
  have hA : DataW.TrodAll enc Try.prog W 0 (fun _ => true) true Try.f3.params.toList args.toList ds p := hA0
  rw [Try.params3] at hA hval
  obtain ⟨v0, vs0, d0, ds0, p0, q0, hargs, rfl, rfl, h0, r0⟩ := trodAll_cons hA
  obtain ⟨rfl, rfl, rfl⟩ := trodAll_nil r0
  obtain rfl : args = #[v0] := by cases args; simp_all
  obtain ⟨rfl, rfl⟩ := trodVars_none hV
  obtain ⟨a0, len0, cap0, rfl⟩ := okWide_slice Try.underlying22 (hval 0 22 v0 rfl rfl)
  have k0 := h0
  have lt0 : ∀ x ∈ p0, x.block < W.heap.size := by obtain ⟨m, hm⟩ := k0; exact DataW.trod_lt m _ _ _ hm
  obtain ⟨z0, H0, U0, M0⟩ := has_of_trod (k := .u8) Try.underlying22 Try.underlying5 (by kernel_rfl) h0
  clear hA0 hval0
  refine (walk_FnTalkOnce H0 U0 M0).mono fun e W' ⟨he, bel⟩ => ?_
  subst he
  exact ⟨_, rfl, _, _, _, [], _, [], hW', trodAll_mk1 (shut_bool Try.underlying4 _), (trodAll_cons_mk (Below.trod (by kernel_rfl) (by kernel_rfl) (of_decide_eq_true (by kernel_rfl)) k0 bel lt0) trodAll_mk0), rfl, bel.frame _, fun h => by cases h⟩

theorem fnTalkOnce_holds : Rows.FnTalkOnceSaid :=
  OpenClaim.holds_of_wide 3 Try.f3 rfl rfl rfl rfl rfl rfl rfl ⟨rfl, rfl, rfl, rfl, rfl⟩ rfl rfl rfl rfl rfl (by kernel_rfl) Try.func3
    (by unfold joinedFacts; with_reducible refine Bool.and_eq_true_iff.2 ⟨?_, (by as_aux_lemma => kernel_rfl)⟩; with_reducible refine Bool.and_eq_true_iff.2 ⟨?_, (by as_aux_lemma => kernel_rfl)⟩; with_reducible refine Bool.and_eq_true_iff.2 ⟨?_, (by as_aux_lemma => kernel_rfl)⟩; with_reducible refine Bool.and_eq_true_iff.2 ⟨?_, (by as_aux_lemma => kernel_rfl)⟩; with_reducible refine Bool.and_eq_true_iff.2 ⟨?_, (by with_unfolding_all exact shutMake)⟩; with_reducible refine Bool.and_eq_true_iff.2 ⟨?_, (by with_unfolding_all exact shutLifts)⟩; with_reducible refine Bool.and_eq_true_iff.2 ⟨?_, shutEnter⟩; (repeat (with_reducible refine Bool.and_eq_true_iff.2 ⟨?_, (by as_aux_lemma => kernel_rfl)⟩)); as_aux_lemma => kernel_rfl)
    (of_decide_eq_true (by kernel_rfl)) (by unfold Func.isWrapper; first | (rw [if_pos (by decide +kernel)]; kernel_rfl) | (rw [if_neg (by decide +kernel)]; exact ⟨rfl, rfl⟩))
    (fun os started H enc _ => lifted_FnTalkOnce os started H enc)
end Go.Proofs.Ytpciaokafokfmaa
