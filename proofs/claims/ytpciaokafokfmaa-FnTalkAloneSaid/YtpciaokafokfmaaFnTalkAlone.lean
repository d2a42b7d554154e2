/-
  FnTalkAlone: for every slice of bytes the law returns true and writes nothing that was there. No condition.
-/
import Derived.Test.YtpciaokafokfmaaImp9b
import Derived.Test.YtpciaokafokfmaaImp9g
import Derived.Test.YtpciaokafokfmaaTalkE
import Derived.Test.YtpciaokafokfmaaDrawTalk
import Derived.Test.YtpciaokafokfmaaWnInts
import Derived.Test.YtpciaokafokfmaaTalkL
import Derived.Test.YtpciaokafokfmaaShut
namespace Go.Proofs.Ytpciaokafokfmaa
open Go.RowKit Go.ChangeShapes Go.WideShapes Go.ChangeAt

set_option maxHeartbeats 16000000 in
set_option maxRecDepth 100000 in
theorem walk_FnTalkAlone {A0 : Option Addr} {n0 c0 : Nat} {zs0 : List Int} {w : World} (h0 : Has w A0 n0 (ints .u8 zs0)) (hwf0 : ∀ z ∈ zs0, (Lit.int .u8 z).wf = true) (hc0 : n0 ≤ c0 ∧ c0 ≤ maxLen) :
    Calls Try.prog 4 #[.slice A0 n0 c0] w fun e w' => e = .returned (.bool true) ∧ Below w.heap.size w w' := by
  obtain ⟨i0, hi, hz0, hz1, hz2⟩ := info_parts Try.infoInt
  have hu0 : U8s zs0 := fun z hz => u8_of_wf (hwf0 z hz)
  clear hwf0
  by_cases hn0 : n0 ≤ 1048576
  rotate_left
  · go_enter Try.func4, Try.ntmps4
    go_wp2
    go_ret
    exact ⟨rfl, Below.refl _ _⟩
  go_enter Try.func4, Try.ntmps4
  go_wp2_with (fail)
  refine (drawRunTalk_any h0 hu0 hc0).mono ?_
  rintro e w1 hX
  unfold IntsTN at hX
  obtain ⟨AQ, nQ, cQ, qs, AD, nD, cD, ds, sl, rfl, OQ, hnQ, OD, hnD, hsb, B1⟩ := hX
  have S1 : w.heap.size ≤ w1.heap.size := B1.size
  have C1 := B1
  have HQL := Lib.hid OQ.has.len
  obtain ⟨okq, hokq⟩ : ∃ b, talkOk qs = b := ⟨_, rfl⟩
  have CV := Lib.hid (fun (W : World) (h : Has W AQ nQ (ints .i64 qs)) => implTalkValid_b (c := cQ) h (by omega) hokq)
  have CV2 := Lib.hid (fun (W : World) (h : Has W AQ nQ (ints .i64 qs)) => specTalkValid_b (c := cQ) h (by omega) hokq)
  have HOK := Lib.hid hokq
  clear hokq
  cases okq with
  | false =>
    go_wp2_with (fail)
    refine (CV.out _ OQ.has).mono ?_
    rintro e w' ⟨rfl, rfl⟩
    go_wp2_with (fail)
    refine (CV.out _ OQ.has).mono ?_
    rintro e w' ⟨rfl, rfl⟩
    go_wp2_with (fail)
    refine (CV2.out _ OQ.has).mono ?_
    rintro e w' ⟨rfl, rfl⟩
    go_wp2
    go_ret
    exact ⟨rfl, B1⟩
  | true =>
    by_cases hq0 : nQ = 0
    · subst hq0
      go_wp2_with (fail)
      refine (CV.out _ OQ.has).mono ?_
      rintro e w' ⟨rfl, rfl⟩
      go_wp2_with (fail)
      refine (CV.out _ OQ.has).mono ?_
      rintro e w' ⟨rfl, rfl⟩
      go_wp2_with (fail)
      refine (CV2.out _ OQ.has).mono ?_
      rintro e w' ⟨rfl, rfl⟩
      go_wp2
      go_ret
      exact ⟨rfl, B1⟩
    have z1 : ((nQ : Int) == 0) = false := by simp [hq0]
    have z2 : (nQ == 0) = false := by simp [hq0]
    obtain ⟨k, hk⟩ : ∃ k, n0 % nQ = k := ⟨_, rfl⟩
    have hkq : k < nQ := by rw [← hk]; exact Nat.mod_lt _ (by omega)
    have hmod : Int.tmod (n0 : Int) (nQ : Int) = (k : Int) := by rw [Int.tmod_eq_emod_of_nonneg (by omega), ← hk]; exact (Int.natCast_emod n0 nQ).symm
    have k1 : decide ((k : Int) < (nQ : Int)) = true := by simp; omega
    have k2 : decide (k < nQ) = true := by simp; omega
    have h6 : nQ ≤ 6 := by have q1 := (talkOk_iff.1 HOK.out).2; have q2 := HQL.out; omega
    go_wp2_with (fail)
    refine (CV.out _ OQ.has).mono ?_
    rintro e w' ⟨rfl, rfl⟩
    go_wp2_with (at_make; refine wpList_make_full _ rfl _ _ 23 rfl w1.heap.size 3 i0 (.int .i64 0) 1 Try.underlying23 hi hz0 hz1 .i64 .i64 _ _ nQ rfl rfl (by omega) (by omega) (by rw [hz2]; omega) (by unfold maxLen; omega) (Nat.le_refl _) ?_; intro w2 hown hgrow; rw [zeros_ints9] at hown; have O2 : Own w2 w1.heap.size 3 (some ⟨w1.heap.size, 0, none⟩) nQ nQ (ints .i64 (List.replicate nQ 0)) := hown; have B2 : Below w1.heap.size w1 w2 := below_of_grown hgrow (Nat.le_refl _) (fun k hk => by cases hk); clear hown hgrow; obtain ⟨b, o, z, hAQ, hbl, hx, hc⟩ := (OQ.bel B2).has.at_ hkq; subst hAQ; obtain ⟨u0, _, e2, e3⟩ := O2.at_ hkq)
    have hzb := okQ_iff.1 (talkOk_iff.1 HOK.out).1 z (List.mem_of_getElem? hx)
    have O3 := O2.set_ k (.int .i64 z)
    rw [ints_set] at O3
    have B3 : Below w1.heap.size w1 (w2.setCell ⟨w1.heap.size, k, none⟩ (.int .i64 z)) := B2.setCell (Nat.le_refl _) _
    obtain ⟨w3, hw3⟩ : ∃ W, w2.setCell ⟨w1.heap.size, k, none⟩ (.int .i64 z) = W := ⟨_, rfl⟩
    rw [hw3] at O3 B3
    have C3 := bel_trans C1 B3
    obtain ⟨f, rfl⟩ := Int.eq_ofNat_of_zero_le hzb.1
    obtain ⟨rs, hrs⟩ : ∃ rs, (List.replicate nQ (0 : Int)).set k (f : Int) = rs := ⟨_, rfl⟩
    rw [hrs] at O3
    obtain ⟨os, hos⟩ : ∃ os, talkO rs ds 2000 = os := ⟨_, rfl⟩
    obtain ⟨hh, hH⟩ : ∃ x : Int, (talkH rs ds 2000 : Int) = x := ⟨_, rfl⟩
    obtain ⟨ss, hN⟩ : ∃ x : Int, (talkN rs ds 2000 : Int) = x := ⟨_, rfl⟩
    obtain ⟨dd, hdd⟩ : ∃ dd, talkD rs ds 2000 = dd := ⟨_, rfl⟩
    obtain ⟨ok, hok⟩ : ∃ ok, talkRunOk rs ds 2000 = ok := ⟨_, rfl⟩
    have HALL : Hid (ok = true → os.length = f ∧ hh = 0 ∧ ss = (f : Int) ∧ dd = true) := fun ho => by
      have h1 := talk_alone (ds := ds) (n := nQ) (k := k) (f := f) (by rw [hrs]; exact hok.trans ho) hkq (by omega)
      rw [hrs, hos, hdd] at h1
      exact ⟨by rw [h1.1]; simp, by rw [← hH, h1.2.1]; rfl, by rw [← hN, h1.2.2.1], h1.2.2.2⟩
    have HSP := Lib.hid (fun (A : Option Addr) (n c : Nat) (D : Option Addr) (m d : Nat) (W : World) (h : Has W A n (ints .i64 rs)) (hn : n ≤ 16777216) (k : Has W D m (ints .i64 ds)) (hm : m ≤ 16777216) (hc : m ≤ d) (hl : ∀ x, D = some x → x.block < W.heap.size) => show Calls Try.prog 18 #[.slice A n c, .slice D m d, .int .i64 2000] W fun e w' => ∃ A' n' c', e = .returned (.tuple #[.agg #[.slice A' n' c', .int .i64 hh, .int .i64 ss, .bool dd], .bool ok]) ∧ Own w' W.heap.size 3 A' n' c' (ints .i64 os) ∧ Below W.heap.size W w' by rw [← hH, ← hN, ← hdd, ← hok, ← hos]; exact specRunTalk_w h hn k hm hc hl)
    have HIM := Lib.hid (fun (A : Option Addr) (n c : Nat) (D : Option Addr) (m d : Nat) (W : World) (h : Has W A n (ints .i64 rs)) (hn : n ≤ 16777216) (k : Has W D m (ints .i64 ds)) (hm : m ≤ 16777216) (hc : m ≤ d) (hl : ∀ x, D = some x → x.block < W.heap.size) => show Calls Try.prog 17 #[.slice A n c, .slice D m d, .int .i64 2000] W fun e w' => ∃ A' n' c', e = .returned (.tuple #[.agg #[.slice A' n' c', .int .i64 hh, .int .i64 ss, .bool dd], .bool ok]) ∧ Own w' W.heap.size 3 A' n' c' (ints .i64 os) ∧ Below W.heap.size W w' by rw [← hH, ← hN, ← hdd, ← hok, ← hos]; exact implRunTalk_w h hn k hm hc hl)
    have HOL := Lib.hid (show os.length ≤ 2000 by rw [← hos]; have := talk_b rs ds 2000; omega)
    have HX := Lib.hid hx
    have OQ3 := OQ.bel B3
    have OD3 := OD.bel B3
    clear hos hH hN hdd hok hrs CV CV2 hx
    go_wp2_with (fail)
    rw [hw3]
    clear e2 e3 hc O2 B2
    refine (HIM.out _ _ _ _ _ _ _ O3.has (by omega) OD3.has (by omega) OD3.cap OD3.lt).mono ?_
    rintro e w4 ⟨AG, nG, cG, rfl, OG, B4⟩
    have S4 : w3.heap.size ≤ w4.heap.size := B4.size
    have C4 := bel_trans C3 B4
    have Q_4 := OQ3.bel B4
    have D_4 := OD3.bel B4
    have R_4 := O3.bel B4
    have hnG : nG ≤ 2000 := by have q1 := OG.has.len; have q2 := HOL.out; omega
    obtain ⟨w5, hw5⟩ : ∃ W, w4.alloc (.cells #[.slice AG nG cG, .int .i64 hh, .int .i64 ss, .bool dd] 27) = W := ⟨_, rfl⟩
    have B5 : Below w4.heap.size w4 w5 := hw5 ▸ below_alloc9 w4 _
    have KG : RunRow w5 w4.heap.size AG nG cG hh ss dd := hw5 ▸ runRow_alloc w4 AG nG cG hh ss dd
    have S5 : w4.heap.size ≤ w5.heap.size := B5.size
    have C5 := bel_trans C4 B5
    have Q_5 := Q_4.bel B5
    have D_5 := D_4.bel B5
    have R_5 := R_4.bel B5
    have G_5 := OG.bel B5
    obtain ⟨Gc0, Gc1, Gc2, Gc3⟩ := KG.cells
    go_wp2_with (fail)
    refine (HSP.out _ _ _ _ _ _ _ R_5.has (by omega) D_5.has (by omega) D_5.cap D_5.lt).mono ?_
    clear Gc0 Gc1 Gc2 Gc3
    rintro e w6 ⟨AW, nW, cW, rfl, OW, B6⟩
    have S6 : w5.heap.size ≤ w6.heap.size := B6.size
    have C6 := bel_trans C5 B6
    have Q_6 := Q_5.bel B6
    have D_6 := D_5.bel B6
    have R_6 := R_5.bel B6
    have G_6 := G_5.bel B6
    have KG_6 := KG.bel B6
    obtain rfl : nW = nG := by have q1 := OW.has.len; have q2 := OG.has.len; omega
    obtain ⟨w7, hw7⟩ : ∃ W, w6.alloc (.cells #[.slice AW nW cW, .int .i64 hh, .int .i64 ss, .bool dd] 27) = W := ⟨_, rfl⟩
    have B7 : Below w6.heap.size w6 w7 := hw7 ▸ below_alloc9 w6 _
    have KW : RunRow w7 w6.heap.size AW nW cW hh ss dd := hw7 ▸ runRow_alloc w6 AW nW cW hh ss dd
    have S7 : w6.heap.size ≤ w7.heap.size := B7.size
    have C7 := bel_trans C6 B7
    have Q_7 := Q_6.bel B7
    have D_7 := D_6.bel B7
    have R_7 := R_6.bel B7
    have G_7 := G_6.bel B7
    have W_7 := OW.bel B7
    have KG_7 := KG_6.bel B7
    have neB : ((nW : Int) != (nW : Int)) = false := by simp
    have eqB : ((nW : Int) == (nW : Int)) = true := by simp
    have dnB : (dd != dd) = false := by simp
    have deB : (dd == dd) = true := by simp
    have hnB : (hh != hh) = false := by simp
    have heB : (hh == hh) = true := by simp
    have snB : (ss != ss) = false := by simp
    have seB : (ss == ss) = true := by simp
    cases ok with
    | false =>
      clear HALL
      obtain ⟨Gc0, Gc1, Gc2, Gc3⟩ := KG_7.cells
      obtain ⟨Wc0, Wc1, Wc2, Wc3⟩ := KW.cells
      go_wp2
      go_ret
      exact ⟨rfl, C7⟩
    | true =>
      obtain ⟨a1, rfl, rfl, rfl⟩ := HALL.out (by simp)
      have hnf : ((nW : Int) == (f : Int)) = true := by have q1 := OG.has.len; simp; omega
      have hnf2 : (nW == f) = true := by have q1 := OG.has.len; simp; omega
      have ffB : ((f : Int) == (f : Int)) = true := by simp
      have ffN : ((f : Int) != (f : Int)) = false := by simp
      obtain ⟨b', o', z', hA, hbl', hx', hc'⟩ := Q_7.has.at_ hkq
      injection hA with hA
      injection hA with r1 r2
      subst r1
      subst r2
      obtain rfl : z' = (f : Int) := by have := HX.out; rw [hx'] at this; injection this
      have q2 : (k : Int) < (nQ : Int) := by omega
      clear hx' HALL a1 HIM HSP HX hzb
      obtain ⟨Gc0, Gc1, Gc2, Gc3⟩ := KG_7.cells
      obtain ⟨Wc0, Wc1, Wc2, Wc3⟩ := KW.cells
      go_wp2
      go_quiet (fail)
      go_wp2
      go_ret
      exact ⟨rfl, C7.trans (below_drewN _ _)⟩
set_option maxRecDepth 100000 in
theorem lifted_FnTalkAlone (os : Os) (started : os.Started) (H : Type) (enc : TypeId × Value → H) :
    ReturnsInHanded {} Try.checked os 4 .any (Rows.fnTalkAloneSpec.pre6 enc Try.prog Try.f4 Rows.fnTalkAloneRow.domain false) (Rows.fnTalkAloneSpec.post enc Try.prog Try.f4 false true false false) := by
  refine returnsInHanded_of_change (C := Try.checked) (by kernel_rfl) started (by kernel_rfl) Try.func4
    (ChangeSpec.witness6 (enc := enc) (C := Try.checked) false ⟨#[], #[.slice none 0 0], []⟩ 8 (by kernel_rfl) (by kernel_rfl) (by kernel_rfl) (by kernel_rfl)) ?_
  intro W base args ds gs before hval0 hW hcnd _
  have hval : ∀ (j : Nat) t v, Try.f4.params[j]? = some t → args[j]? = some v → Value.okWide Try.prog W .any base t v := hval0
  have hW' := hW
  obtain ⟨p, q, hA0, hV, rfl, hfz, hnd⟩ := hW
  have hA : DataW.TrodAll enc Try.prog W 0 (fun _ => true) true Try.f4.params.toList args.toList ds p := hA0
  rw [Try.params4] at hA hval
  obtain ⟨v0, vs0, d0, ds0, p0, q0, hargs, rfl, rfl, h0, r0⟩ := trodAll_cons hA
  obtain ⟨rfl, rfl, rfl⟩ := trodAll_nil r0
  obtain rfl : args = #[v0] := by cases args; simp_all
  obtain ⟨rfl, rfl⟩ := trodVars_none hV
  obtain ⟨a0, len0, cap0, rfl⟩ := okWide_slice Try.underlying22 (hval 0 22 v0 rfl rfl)
  have k0 := h0
  have lt0 : ∀ x ∈ p0, x.block < W.heap.size := by obtain ⟨m, hm⟩ := k0; exact DataW.trod_lt m _ _ _ hm
  obtain ⟨z0, H0, U0, M0⟩ := has_of_trod (k := .u8) Try.underlying22 Try.underlying5 (by kernel_rfl) h0
  clear hA0 hval0
  refine (walk_FnTalkAlone H0 U0 M0).mono fun e W' ⟨he, bel⟩ => ?_
  subst he
  exact ⟨_, rfl, _, _, _, [], _, [], hW', trodAll_mk1 (shut_bool Try.underlying4 _), (trodAll_cons_mk (Below.trod (by kernel_rfl) (by kernel_rfl) (of_decide_eq_true (by kernel_rfl)) k0 bel lt0) trodAll_mk0), rfl, bel.frame _, fun h => by cases h⟩

theorem fnTalkAlone_holds : Rows.FnTalkAloneSaid :=
  OpenClaim.holds_of_wide 4 Try.f4 rfl rfl rfl rfl rfl rfl rfl ⟨rfl, rfl, rfl, rfl, rfl⟩ rfl rfl rfl rfl rfl (by kernel_rfl) Try.func4
    (by unfold joinedFacts; with_reducible refine Bool.and_eq_true_iff.2 ⟨?_, (by as_aux_lemma => kernel_rfl)⟩; with_reducible refine Bool.and_eq_true_iff.2 ⟨?_, (by as_aux_lemma => kernel_rfl)⟩; with_reducible refine Bool.and_eq_true_iff.2 ⟨?_, (by as_aux_lemma => kernel_rfl)⟩; with_reducible refine Bool.and_eq_true_iff.2 ⟨?_, (by as_aux_lemma => kernel_rfl)⟩; with_reducible refine Bool.and_eq_true_iff.2 ⟨?_, (by with_unfolding_all exact shutMake)⟩; with_reducible refine Bool.and_eq_true_iff.2 ⟨?_, (by with_unfolding_all exact shutLifts)⟩; with_reducible refine Bool.and_eq_true_iff.2 ⟨?_, shutEnter⟩; (repeat (with_reducible refine Bool.and_eq_true_iff.2 ⟨?_, (by as_aux_lemma => kernel_rfl)⟩)); as_aux_lemma => kernel_rfl)
    (of_decide_eq_true (by kernel_rfl)) (by unfold Func.isWrapper; first | (rw [if_pos (by decide +kernel)]; kernel_rfl) | (rw [if_neg (by decide +kernel)]; exact ⟨rfl, rfl⟩))
    (fun os started H enc _ => lifted_FnTalkAlone os started H enc)
end Go.Proofs.Ytpciaokafokfmaa
