/-
  FnToken: for every slice of bytes the law returns true and writes nothing that was there. No condition.
-/
import Derived.Test.YtpciaokafokfmaaImp9b
import Derived.Test.YtpciaokafokfmaaTalkB
import Derived.Test.YtpciaokafokfmaaDrawTalk
import Derived.Test.YtpciaokafokfmaaWnInts
import Derived.Test.YtpciaokafokfmaaTalkL
import Derived.Test.YtpciaokafokfmaaShut
namespace Go.Proofs.Ytpciaokafokfmaa
open Go.RowKit Go.ChangeShapes Go.WideShapes Go.ChangeAt

set_option maxHeartbeats 16000000 in
set_option maxRecDepth 100000 in
theorem walk_FnToken {A0 : Option Addr} {n0 c0 : Nat} {zs0 : List Int} {w : World} (h0 : Has w A0 n0 (ints .u8 zs0)) (hwf0 : ∀ z ∈ zs0, (Lit.int .u8 z).wf = true) (hc0 : n0 ≤ c0 ∧ c0 ≤ maxLen) :
    Calls Try.prog 7 #[.slice A0 n0 c0] w fun e w' => e = .returned (.bool true) ∧ Below w.heap.size w w' := by
  have hu0 : U8s zs0 := fun z hz => u8_of_wf (hwf0 z hz)
  clear hwf0
  by_cases hn0 : n0 ≤ 1048576
  rotate_left
  · go_enter Try.func7, Try.ntmps7
    go_wp2
    go_ret
    exact ⟨rfl, Below.refl _ _⟩
  go_enter Try.func7, Try.ntmps7
  go_wp2_with (fail)
  refine (drawRunToken_any h0 hu0 hc0).mono ?_
  rintro e w1 hX
  unfold IntsNN at hX
  obtain ⟨AQ, nQ, cQ, qs, hold, sl, rfl, OQ, hnQ, hhb, hsb, B1⟩ := hX
  have S1 : w.heap.size ≤ w1.heap.size := B1.size
  have C1 := B1
  have HQL := Lib.hid OQ.has.len
  obtain ⟨os, hos⟩ : ∃ os, tokO qs hold sl = os := ⟨_, rfl⟩
  have hOL := tokO_len qs hold sl
  rw [hos] at hOL
  obtain ⟨m, hm⟩ : ∃ m, os.length = m := ⟨_, rfl⟩
  rw [hm] at hOL
  obtain ⟨dd, hdd⟩ : ∃ dd, tokD qs hold sl = dd := ⟨_, rfl⟩
  obtain ⟨ok, hok⟩ : ∃ ok, tokOk qs hold sl = ok := ⟨_, rfl⟩
  have HM := Lib.hid hm
  have HSP := Lib.hid (fun (A : Option Addr) (n c : Nat) (W : World) (h : Has W A n (ints .i64 qs)) (hn : n ≤ 16777216) => show Calls Try.prog 28 #[.slice A n c, .int .i64 hold, .int .i64 sl] W fun e w' => ∃ A' n' c', e = .returned (.tuple #[.agg #[.slice A' n' c', .int .i64 0, .int .i64 (m : Int), .bool dd], .bool ok]) ∧ Own w' W.heap.size 3 A' n' c' (ints .i64 os) ∧ Below W.heap.size W w' by rw [← hm, ← hdd, ← hok, ← hos]; exact specRunToken_w h hn)
  have HIM := Lib.hid (fun (A : Option Addr) (n c : Nat) (W : World) (h : Has W A n (ints .i64 qs)) (hn : n ≤ 16777216) => show Calls Try.prog 27 #[.slice A n c, .int .i64 hold, .int .i64 sl] W fun e w' => ∃ A' n' c', e = .returned (.tuple #[.agg #[.slice A' n' c', .int .i64 0, .int .i64 (m : Int), .bool dd], .bool ok]) ∧ Own w' W.heap.size 3 A' n' c' (ints .i64 os) ∧ Below W.heap.size W w' by rw [← hm, ← hdd, ← hok, ← hos]; exact implRunToken_w h hn)
  have HALL : Hid (ok = true → (m : Int) = min qs.sum sl ∧ dd = decide (qs.sum ≤ sl) ∧ ∀ k, 0 ≤ (qs.take k).sum ∧ (qs.take k).sum ≤ 180) := fun ho => by
    have hk := hok.trans ho
    have h1 := tok_all hk
    rw [hos, hm, hdd] at h1
    refine ⟨h1.1, h1.2, fun k => ?_⟩
    have hq := (talkOk_iff.1 (turnsOk_iff.1 (tokOk_iff.1 hk).1).1).1
    have h2 := sum_b (qs := qs.take k) (okQ_iff.2 fun x hx => okQ_iff.1 hq x (List.mem_of_mem_take hx))
    have h3 := HQL.out
    rw [List.length_take] at h2
    omega
  clear hos hm hdd hok
  go_wp2_with (fail)
  refine (HIM.out _ _ _ _ OQ.has (by omega)).mono ?_
  rintro e w2 ⟨AG, nG, cG, rfl, OG, B2⟩
  have S2 : w1.heap.size ≤ w2.heap.size := B2.size
  have C2 := bel_trans C1 B2
  have Q_2 := OQ.bel B2
  obtain rfl : nG = m := by have q1 := OG.has.len; have q2 := HM.out; omega
  obtain ⟨w3, hw3⟩ : ∃ W, w2.alloc (.cells #[.slice AG nG cG, .int .i64 0, .int .i64 (nG : Int), .bool dd] 27) = W := ⟨_, rfl⟩
  have B3 : Below w2.heap.size w2 w3 := hw3 ▸ below_alloc9 w2 _
  have KG : RunRow w3 w2.heap.size AG nG cG 0 (nG : Int) dd := hw3 ▸ runRow_alloc w2 AG nG cG 0 (nG : Int) dd
  have S3 : w2.heap.size ≤ w3.heap.size := B3.size
  have C3 := bel_trans C2 B3
  have Q_3 := Q_2.bel B3
  have G_3 := OG.bel B3
  obtain ⟨Gc0, Gc1, Gc2, Gc3⟩ := KG.cells
  go_wp2_with (fail)
  refine (HSP.out _ _ _ _ Q_3.has (by omega)).mono ?_
  clear Gc0 Gc1 Gc2 Gc3
  rintro e w4 ⟨AW, nW, cW, rfl, OW, B4⟩
  have S4 : w3.heap.size ≤ w4.heap.size := B4.size
  have C4 := bel_trans C3 B4
  have Q_4 := Q_3.bel B4
  have G_4 := G_3.bel B4
  have KG_4 := KG.bel B4
  obtain rfl : nW = nG := by have q1 := OW.has.len; have q2 := OG.has.len; omega
  -- one length
  obtain ⟨w5, hw5⟩ : ∃ W, w4.alloc (.cells #[.slice AW nW cW, .int .i64 0, .int .i64 (nW : Int), .bool dd] 27) = W := ⟨_, rfl⟩
  have B5 : Below w4.heap.size w4 w5 := hw5 ▸ below_alloc9 w4 _
  have KW : RunRow w5 w4.heap.size AW nW cW 0 (nW : Int) dd := hw5 ▸ runRow_alloc w4 AW nW cW 0 (nW : Int) dd
  have S5 : w4.heap.size ≤ w5.heap.size := B5.size
  have C5 := bel_trans C4 B5
  have Q_5 := Q_4.bel B5
  have G_5 := G_4.bel B5
  have W_5 := OW.bel B5
  have KG_5 := KG_4.bel B5
  have neB : ((nW : Int) != (nW : Int)) = false := by simp
  have eqB : ((nW : Int) == (nW : Int)) = true := by simp
  have dnB : (dd != dd) = false := by simp
  have deB : (dd == dd) = true := by simp
  cases ok with
  | false =>
    clear HALL
    obtain ⟨Gc0, Gc1, Gc2, Gc3⟩ := KG_5.cells
    obtain ⟨Wc0, Wc1, Wc2, Wc3⟩ := KW.cells
    go_wp2_with (fail)
    refine (wnInts_same G_5.has W_5.has (by omega)).mono ?_
    clear Gc0 Gc1 Gc2 Gc3
    clear Wc0 Wc1 Wc2 Wc3
    rintro e w6 ⟨rfl, B6⟩
    have S6 : w5.heap.size ≤ w6.heap.size := B6.size
    have C6 := bel_trans C5 B6
    have Q_6 := Q_5.bel B6
    have G_6 := G_5.bel B6
    have W_6 := W_5.bel B6
    have KG_6 := KG_5.bel B6
    have KW_6 := KW.bel B6
    obtain ⟨Gc0, Gc1, Gc2, Gc3⟩ := KG_6.cells
    obtain ⟨Wc0, Wc1, Wc2, Wc3⟩ := KW_6.cells
    go_wp2_with (fail)
    refine (wnInts_same G_6.has W_6.has (by omega)).mono ?_
    clear Gc0 Gc1 Gc2 Gc3
    clear Wc0 Wc1 Wc2 Wc3
    rintro e w7 ⟨rfl, B7⟩
    have S7 : w6.heap.size ≤ w7.heap.size := B7.size
    have C7 := bel_trans C6 B7
    have Q_7 := Q_6.bel B7
    have G_7 := G_6.bel B7
    have W_7 := W_6.bel B7
    have KG_7 := KG_6.bel B7
    have KW_7 := KW_6.bel B7
    obtain ⟨Gc0, Gc1, Gc2, Gc3⟩ := KG_7.cells
    obtain ⟨Wc0, Wc1, Wc2, Wc3⟩ := KW_7.cells
    go_wp2
    go_ret
    exact ⟨rfl, C7⟩
  | true =>
    obtain ⟨Gc0, Gc1, Gc2, Gc3⟩ := KG_5.cells
    obtain ⟨Wc0, Wc1, Wc2, Wc3⟩ := KW.cells
    go_wp2_with (fail)
    refine (wnInts_same G_5.has W_5.has (by omega)).mono ?_
    clear Gc0 Gc1 Gc2 Gc3
    clear Wc0 Wc1 Wc2 Wc3
    rintro e w6 ⟨rfl, B6⟩
    have S6 : w5.heap.size ≤ w6.heap.size := B6.size
    have C6 := bel_trans C5 B6
    have Q_6 := Q_5.bel B6
    have G_6 := G_5.bel B6
    have W_6 := W_5.bel B6
    have KG_6 := KG_5.bel B6
    have KW_6 := KW.bel B6
    obtain ⟨a1, a2, a3⟩ := HALL.out (by simp)
    have HSB := Lib.hid a3
    clear a3 HALL
    have hS := HSB.out nQ
    obtain ⟨S, hSe⟩ : ∃ S, qs.sum = S := ⟨_, rfl⟩
    have hSq : (qs.take nQ).sum = S := by rw [← hSe, List.take_of_length_le (by rw [HQL.out]; omega)]
    rw [hSq] at hS
    have HSQ := Lib.hid hSq
    rw [hSe] at a1 a2
    have hmin : min S sl = (nW : Int) := a1.symm
    have hge : decide (sl ≥ S) = dd := a2.symm
    have hge2 : decide (S ≤ sl) = dd := a2.symm
    clear a1 a2 hSe hSq
    have h5 := Q_6.has
    obtain ⟨Gc0, Gc1, Gc2, Gc3⟩ := KG_6.cells
    obtain ⟨Wc0, Wc1, Wc2, Wc3⟩ := KW_6.cells
    go_wp2
    go_loop [10, 91] (fun a i => ∃ k : Nat, k ≤ nQ ∧ i = .int .i64 (k : Int) ∧ a = .int .i64 ((qs.take k).sum)) (fun _ i => nQ - (intOf i).toNat)
    case atStart => exact ⟨0, Nat.zero_le _, rfl, rfl⟩
    case round =>
      obtain ⟨k, hk, rfl, rfl⟩ := hrel
      by_cases hkn : k < nQ
      · have kB : decide ((k : Int) < (nQ : Int)) = true := by simp; omega
        have kN : decide (k < nQ) = true := by simp; omega
        obtain ⟨b, o, z, rfl, hbl, hx, hc⟩ := h5.at_ hkn
        have b1 := HSB.out k
        have b2 := HSB.out (k + 1)
        have hs : (qs.take (k + 1)).sum = (qs.take k).sum + z := by rw [List.take_add_one, hx]; simp
        obtain ⟨s, hse⟩ : ∃ s, (qs.take k).sum = s := ⟨_, rfl⟩
        rw [hse] at b1 hs ⊢
        rw [hs] at b2
        have HS := Lib.hid hs
        have sW : IntKind.i64.wrap (s + z) = s + z := IntWalk.i64_in _ (by omega)
        have kW : IntKind.i64.wrap ((k : Int) + 1) = ((k + 1 : Nat) : Int) := IntWalk.i64_in _ (by omega)
        clear hx hs hse
        go_wp2
        go_round
        case rel => exact ⟨k + 1, by have := of_decide_eq_true kN; omega, by go_num, by rw [HS.out]⟩
        case measure => have := of_decide_eq_true kN; simp [intOf]; omega
      · have kB : decide ((k : Int) < (nQ : Int)) = false := by simp; omega
        have kN : decide (k < nQ) = false := by simp; omega
        obtain rfl : k = nQ := by omega
        rw [HSQ.out]
        go_wp2
        go_ret
        exact ⟨rfl, C6⟩
set_option maxRecDepth 100000 in
theorem lifted_FnToken (os : Os) (started : os.Started) (H : Type) (enc : TypeId × Value → H) :
    ReturnsInHanded {} Try.checked os 7 .any (Rows.fnTokenSpec.pre6 enc Try.prog Try.f7 Rows.fnTokenRow.domain false) (Rows.fnTokenSpec.post enc Try.prog Try.f7 false true false false) := by
  refine returnsInHanded_of_change (C := Try.checked) (by kernel_rfl) started (by kernel_rfl) Try.func7
    (ChangeSpec.witness6 (enc := enc) (C := Try.checked) false ⟨#[], #[.slice none 0 0], []⟩ 8 (by kernel_rfl) (by kernel_rfl) (by kernel_rfl) (by kernel_rfl)) ?_
  intro W base args ds gs before hval0 hW hcnd _
  have hval : ∀ (j : Nat) t v, Try.f7.params[j]? = some t → args[j]? = some v → Value.okWide Try.prog W .any base t v := hval0
  have hW' := hW
  obtain ⟨p, q, hA0, hV, rfl, hfz, hnd⟩ := hW
  have hA : DataW.TrodAll enc Try.prog W 0 (fun _ => true) true Try.f7.params.toList args.toList ds p := hA0
  rw [Try.params7] at hA hval
  obtain ⟨v0, vs0, d0, ds0, p0, q0, hargs, rfl, rfl, h0, r0⟩ := trodAll_cons hA
  obtain ⟨rfl, rfl, rfl⟩ := trodAll_nil r0
  obtain rfl : args = #[v0] := by cases args; simp_all
  obtain ⟨rfl, rfl⟩ := trodVars_none hV
  obtain ⟨a0, len0, cap0, rfl⟩ := okWide_slice Try.underlying22 (hval 0 22 v0 rfl rfl)
  have k0 := h0
  have lt0 : ∀ x ∈ p0, x.block < W.heap.size := by obtain ⟨m, hm⟩ := k0; exact DataW.trod_lt m _ _ _ hm
  obtain ⟨z0, H0, U0, M0⟩ := has_of_trod (k := .u8) Try.underlying22 Try.underlying5 (by kernel_rfl) h0
  clear hA0 hval0
  refine (walk_FnToken H0 U0 M0).mono fun e W' ⟨he, bel⟩ => ?_
  subst he
  exact ⟨_, rfl, _, _, _, [], _, [], hW', trodAll_mk1 (shut_bool Try.underlying4 _), (trodAll_cons_mk (Below.trod (by kernel_rfl) (by kernel_rfl) (of_decide_eq_true (by kernel_rfl)) k0 bel lt0) trodAll_mk0), rfl, bel.frame _, fun h => by cases h⟩

theorem fnToken_holds : Rows.FnTokenSaid :=
  OpenClaim.holds_of_wide 7 Try.f7 rfl rfl rfl rfl rfl rfl rfl ⟨rfl, rfl, rfl, rfl, rfl⟩ rfl rfl rfl rfl rfl (by kernel_rfl) Try.func7
    (by unfold joinedFacts; with_reducible refine Bool.and_eq_true_iff.2 ⟨?_, (by as_aux_lemma => kernel_rfl)⟩; with_reducible refine Bool.and_eq_true_iff.2 ⟨?_, (by as_aux_lemma => kernel_rfl)⟩; with_reducible refine Bool.and_eq_true_iff.2 ⟨?_, (by as_aux_lemma => kernel_rfl)⟩; with_reducible refine Bool.and_eq_true_iff.2 ⟨?_, (by as_aux_lemma => kernel_rfl)⟩; with_reducible refine Bool.and_eq_true_iff.2 ⟨?_, (by with_unfolding_all exact shutMake)⟩; with_reducible refine Bool.and_eq_true_iff.2 ⟨?_, (by with_unfolding_all exact shutLifts)⟩; with_reducible refine Bool.and_eq_true_iff.2 ⟨?_, shutEnter⟩; (repeat (with_reducible refine Bool.and_eq_true_iff.2 ⟨?_, (by as_aux_lemma => kernel_rfl)⟩)); as_aux_lemma => kernel_rfl)
    (of_decide_eq_true (by kernel_rfl)) (by unfold Func.isWrapper; first | (rw [if_pos (by decide +kernel)]; kernel_rfl) | (rw [if_neg (by decide +kernel)]; exact ⟨rfl, rfl⟩))
    (fun os started H enc _ => lifted_FnToken os started H enc)
end Go.Proofs.Ytpciaokafokfmaa
