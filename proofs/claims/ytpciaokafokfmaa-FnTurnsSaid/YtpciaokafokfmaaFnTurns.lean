/-
  FnTurns: for every two slices of bytes the law returns true and writes nothing that was there. No condition.
-/
import Derived.Test.YtpciaokafokfmaaImp9a
import Derived.Test.YtpciaokafokfmaaDrawTalk
import Derived.Test.YtpciaokafokfmaaWnInts
import Derived.Test.YtpciaokafokfmaaShut
namespace Go.Proofs.Ytpciaokafokfmaa
open Go.RowKit Go.ChangeShapes Go.WideShapes Go.ChangeAt

/-- Whether one of the first k is more than p, or T is 0. -/
def lessTo (T p : Int) (zs : List Int) (k : Nat) : Bool := decide (T = 0) || (zs.take k).any fun q => decide (p < q)
theorem lessTo_step {T p : Int} {zs : List Int} {k : Nat} {z : Int} (h : zs[k]? = some z) : lessTo T p zs (k + 1) = (lessTo T p zs k || decide (p < z)) := by
  unfold lessTo
  rw [List.take_add_one, h, List.any_append]; simp [Bool.or_assoc]
set_option maxHeartbeats 16000000 in
set_option maxRecDepth 100000 in
theorem walk_FnTurns {A0 : Option Addr} {n0 c0 : Nat} {zs0 : List Int} {A1 : Option Addr} {n1 c1 : Nat} {zs1 : List Int} {w : World} (h0 : Has w A0 n0 (ints .u8 zs0)) (hwf0 : ∀ z ∈ zs0, (Lit.int .u8 z).wf = true) (hc0 : n0 ≤ c0 ∧ c0 ≤ maxLen) (h1 : Has w A1 n1 (ints .u8 zs1)) (hwf1 : ∀ z ∈ zs1, (Lit.int .u8 z).wf = true) (hc1 : n1 ≤ c1 ∧ c1 ≤ maxLen) :
    Calls Try.prog 9 #[.slice A0 n0 c0, .slice A1 n1 c1] w fun e w' => e = .returned (.bool true) ∧ Below w.heap.size w w' := by
  have hu0 : U8s zs0 := fun z hz => u8_of_wf (hwf0 z hz)
  have hu1 : U8s zs1 := fun z hz => u8_of_wf (hwf1 z hz)
  clear hwf0 hwf1
  by_cases hn0 : n0 ≤ 1048576
  rotate_left
  · go_enter Try.func9, Try.ntmps9
    go_wp2
    go_ret
    exact ⟨rfl, Below.refl _ _⟩
  by_cases hn1 : n1 ≤ 1048576
  rotate_left
  · go_enter Try.func9, Try.ntmps9
    go_wp2
    go_ret
    exact ⟨rfl, Below.refl _ _⟩
  go_enter Try.func9, Try.ntmps9
  go_wp2_with (fail)
  refine (drawTurnsOf_any h0 hu0 hc0).mono ?_
  rintro e w1 hX
  unfold IntsN9 at hX
  obtain ⟨AQ, nq, cq, qs, hold, rfl, OQ, hnq, hhb, B1⟩ := hX
  have CT := Lib.hid (implTurnsOf_any (c := cq) (hold := hold) OQ.has (by omega))
  obtain ⟨T, hT⟩ : ∃ T, turnsI qs hold = T := ⟨_, rfl⟩
  have hTb := turnsI_b qs hold
  rw [hT] at CT hTb
  have HT := Lib.hid hT
  clear hT
  go_wp2_with (fail)
  refine CT.out.mono ?_
  rintro e w' ⟨rfl, rfl⟩
  go_wp2_with (fail)
  refine (drawSentBy_any (h1.bel B1) hu1 hc1).mono ?_
  rintro e w2 hX
  unfold IntsN9 at hX
  obtain ⟨AS, ns, cs, os, many, rfl, OS, hns, hmb, B2⟩ := hX
  have C2 := bel_trans B1 B2
  have OQ2 := OQ.bel B2
  have CS := Lib.hid (fun (W : World) (h : Has W AQ nq (ints .i64 qs)) => specTurnsOf_any (c := cq) (hold := hold) h (by omega))
  rw [HT.out] at CS
  have tne : (T != T) = false := by simp
  have teq : (T == T) = true := by simp
  go_wp2_with (fail)
  refine (CS.out _ OQ2.has).mono ?_
  rintro e w' ⟨rfl, rfl⟩
  go_wp2_with (fail)
  refine (implSentBy_w (c := cs) OS.has (by omega)).mono ?_
  rintro e w3 ⟨A3, n3, c3, rfl, O3, B3⟩
  have C3 := bel_trans C2 B3
  have l3 : n3 ≤ 6 := by have := O3.has.len; have : (sentL os many).length ≤ 6 := by { unfold sentL; split <;> simp [sentP_len]; omega }; omega
  go_wp2_with (fail)
  refine (specSentBy_w (c := cs) (OS.bel B3).has (by omega)).mono ?_
  rintro e w4 ⟨A4, n4, c4, rfl, O4, B4⟩
  have C4 := bel_trans C3 B4
  go_wp2_with (fail)
  refine (wnInts_same (O3.bel B4).has O4.has (by omega)).mono ?_
  rintro e w5 ⟨rfl, B5⟩
  have C5 := bel_trans C4 B5
  have OQ5 := (OQ2.bel B3).bel (bel_trans B4 B5)
  have OS5 := (OS.bel B3).bel (bel_trans B4 B5)
  by_cases hneg : T < 0
  · have t0 : decide (T < 0) = true := by simp; omega
    go_wp2_with (fail)
    refine (CS.out _ OQ5.has).mono ?_
    rintro e w' ⟨rfl, rfl⟩
    go_wp2_with (fail)
    refine (implSentBy_w (c := cs) OS5.has (by omega)).mono ?_
    rintro e w6 ⟨A6, n6, c6, rfl, O6, B6⟩
    have l6 : n6 ≤ 6 := by have := O6.has.len; have : (sentL os many).length ≤ 6 := by { unfold sentL; split <;> simp [sentP_len]; omega }; omega
    go_wp2_with (fail)
    refine (specSentBy_w (c := cs) (OS5.bel B6).has (by omega)).mono ?_
    rintro e w7 ⟨A7, n7, c7, rfl, O7, B7⟩
    go_wp2_with (fail)
    refine (wnInts_same (O6.bel B7).has O7.has (by omega)).mono ?_
    rintro e w8 ⟨rfl, B8⟩
    go_wp2
    go_ret
    exact ⟨rfl, bel_trans (bel_trans (bel_trans C5 B6) B7) B8⟩
  have t0 : decide (T < 0) = false := by simp; omega
  have htok : turnsOk qs hold = true := by
    cases hk : turnsOk qs hold with
    | true => rfl
    | false => have := turnsI_no hk; rw [HT.out] at this; omega
  obtain ⟨hq, hh⟩ := turnsOk_iff.1 htok
  obtain ⟨e1, e2⟩ := turns_enough htok
  rw [HT.out] at e1 e2
  have HQ := Lib.hid (okQ_iff.1 (talkOk_iff.1 hq).1)
  obtain ⟨H, rfl⟩ := Int.eq_ofNat_of_zero_le (show 0 ≤ hold by omega)
  obtain ⟨N, rfl⟩ := Int.eq_ofNat_of_zero_le (show 0 ≤ T by omega)
  obtain ⟨p, hp⟩ : ∃ p, (N : Int) * (H : Int) = p := ⟨_, rfl⟩
  obtain ⟨r, hr⟩ : ∃ r, ((N : Int) - 1) * (H : Int) = r := ⟨_, rfl⟩
  have hpb : 0 ≤ p ∧ p ≤ 81 := by
    have h9 : N * H ≤ 9 * 9 := Nat.mul_le_mul (by omega) (by omega)
    rw [← hp]
    have : ((N * H : Nat) : Int) = (N : Int) * (H : Int) := by push_cast; rfl
    omega
  have hrp : r = p - (H : Int) := by rw [← hr, ← hp, Int.sub_mul]; omega
  have E1 := Lib.hid (fun x hx => show x ≤ p by rw [← hp]; exact e1 x hx)
  have E2 : Hid (lessTo (N : Int) r qs nq = true) := by
    have : lessTo (N : Int) r qs nq = true := by
      unfold lessTo
      rw [List.take_of_length_le (by have := OQ.has.len; omega)]
      rcases e2 with h | ⟨x, hx, hlt⟩
      · rw [decide_eq_true h, Bool.true_or]
      · have : (qs.any fun q => decide (r < q)) = true := List.any_eq_true.2 ⟨x, hx, decide_eq_true (by rw [← hr]; exact hlt)⟩
        rw [this, Bool.or_true]
    exact this
  have HL := Lib.hid OQ.has.len
  have pW : IntKind.i64.wrap p = p := IntWalk.i64_in _ (by omega)
  have rW : IntKind.i64.wrap r = r := IntWalk.i64_in _ (by omega)
  have nW : IntKind.i64.wrap ((N : Int) - 1) = (N : Int) - 1 := IntWalk.i64_in _ (by omega)
  have h5 := OQ5.has
  obtain ⟨z0, hz0⟩ : ∃ z0, ((N : Int) == 0) = z0 := ⟨_, rfl⟩
  have hz1 : (N == 0) = z0 := by
    rw [← hz0]
    cases N with
    | zero => rfl
    | succ m => simp; omega
  have hls0 : Hid (lessTo (N : Int) r qs 0 = z0) := by
    have : lessTo (N : Int) r qs 0 = z0 := by
      unfold lessTo
      rw [← hz0, List.take_zero, List.any_nil, Bool.or_false]
      exact (Bool.beq_eq_decide_eq (N : Int) 0).symm
    exact this
  clear htok hq hh e1 e2 hneg hrp hpb OQ OQ2 O3 O4 CT CS hTb HT hns
  go_wp2
  go_loop [10, 11, 72] (fun a b i => ∃ k : Nat, k ≤ nq ∧ i = .int .i64 (k : Int) ∧ a = .bool true ∧ b = .bool (lessTo (N : Int) r qs k)) (fun _ _ i => nq - (intOf i).toNat)
  case atStart => exact ⟨0, Nat.zero_le _, rfl, rfl, by rw [hls0.out]⟩
  case round =>
    obtain ⟨k, hk, rfl, rfl, rfl⟩ := hrel
    by_cases hkn : k < nq
    · have kB : decide ((k : Int) < (nq : Int)) = true := by simp; omega
      have kN : decide (k < nq) = true := by simp; omega
      obtain ⟨b, o, z, rfl, hbl, hx, hc⟩ := h5.at_ hkn
      have hzp := E1.out z (List.mem_of_getElem? hx)
      have g1 : decide (z ≤ p) = true := by simp; omega
      have HS := Lib.hid (lessTo_step (T := (N : Int)) (p := r) hx)
      obtain ⟨lz, hlz⟩ : ∃ lz, decide (r < z) = lz := ⟨_, rfl⟩
      have hlz2 : decide (z > r) = lz := hlz
      rw [hlz] at HS
      clear hx hzp hlz
      cases hlk : lessTo (N : Int) r qs k with
      | true =>
        rw [hlk, Bool.true_or] at HS
        go_wp2
        go_round
        case rel => exact ⟨k + 1, by have := of_decide_eq_true kN; omega, by go_num, rfl, by rw [HS.out]⟩
        case measure => have := of_decide_eq_true kN; simp [intOf]; omega
      | false =>
        rw [hlk, Bool.false_or] at HS
        go_wp2
        go_round
        case rel => exact ⟨k + 1, by have := of_decide_eq_true kN; omega, by go_num, rfl, by rw [HS.out]⟩
        case measure => have := of_decide_eq_true kN; simp [intOf]; omega
    · have kB : decide ((k : Int) < (nq : Int)) = false := by simp; omega
      have kN : decide (k < nq) = false := by simp; omega
      obtain rfl : k = nq := by omega
      rw [E2.out]
      go_wp2
      go_ret
      exact ⟨rfl, C5⟩
set_option maxRecDepth 100000 in
theorem lifted_FnTurns (os : Os) (started : os.Started) (H : Type) (enc : TypeId × Value → H) :
    ReturnsInHanded {} Try.checked os 9 .any (Rows.fnTurnsSpec.pre6 enc Try.prog Try.f9 Rows.fnTurnsRow.domain false) (Rows.fnTurnsSpec.post enc Try.prog Try.f9 false true false false) := by
  refine returnsInHanded_of_change (C := Try.checked) (by kernel_rfl) started (by kernel_rfl) Try.func9
    (ChangeSpec.witness6 (enc := enc) (C := Try.checked) false ⟨#[], #[.slice none 0 0, .slice none 0 0], []⟩ 8 (by kernel_rfl) (by kernel_rfl) (by kernel_rfl) (by kernel_rfl)) ?_
  intro W base args ds gs before hval0 hW hcnd _
  have hval : ∀ (j : Nat) t v, Try.f9.params[j]? = some t → args[j]? = some v → Value.okWide Try.prog W .any base t v := hval0
  have hW' := hW
  obtain ⟨p, q, hA0, hV, rfl, hfz, hnd⟩ := hW
  have hA : DataW.TrodAll enc Try.prog W 0 (fun _ => true) true Try.f9.params.toList args.toList ds p := hA0
  rw [Try.params9] at hA hval
  obtain ⟨v0, vs0, d0, ds0, p0, q0, hargs, rfl, rfl, h0, r0⟩ := trodAll_cons hA
  obtain ⟨v1, vs1, d1, ds1, p1, q1, rfl, rfl, rfl, h1, r1⟩ := trodAll_cons r0
  obtain ⟨rfl, rfl, rfl⟩ := trodAll_nil r1
  obtain rfl : args = #[v0, v1] := by cases args; simp_all
  obtain ⟨rfl, rfl⟩ := trodVars_none hV
  obtain ⟨a0, len0, cap0, rfl⟩ := okWide_slice Try.underlying22 (hval 0 22 v0 rfl rfl)
  have k0 := h0
  have lt0 : ∀ x ∈ p0, x.block < W.heap.size := by obtain ⟨m, hm⟩ := k0; exact DataW.trod_lt m _ _ _ hm
  obtain ⟨z0, H0, U0, M0⟩ := has_of_trod (k := .u8) Try.underlying22 Try.underlying5 (by kernel_rfl) h0
  obtain ⟨a1, len1, cap1, rfl⟩ := okWide_slice Try.underlying22 (hval 1 22 v1 rfl rfl)
  have k1 := h1
  have lt1 : ∀ x ∈ p1, x.block < W.heap.size := by obtain ⟨m, hm⟩ := k1; exact DataW.trod_lt m _ _ _ hm
  obtain ⟨z1, H1, U1, M1⟩ := has_of_trod (k := .u8) Try.underlying22 Try.underlying5 (by kernel_rfl) h1
  clear hA0 hval0
  refine (walk_FnTurns H0 U0 M0 H1 U1 M1).mono fun e W' ⟨he, bel⟩ => ?_
  subst he
  exact ⟨_, rfl, _, _, _, [], _, [], hW', trodAll_mk1 (shut_bool Try.underlying4 _), (trodAll_cons_mk (Below.trod (by kernel_rfl) (by kernel_rfl) (of_decide_eq_true (by kernel_rfl)) k0 bel lt0) (trodAll_cons_mk (Below.trod (by kernel_rfl) (by kernel_rfl) (of_decide_eq_true (by kernel_rfl)) k1 bel lt1) trodAll_mk0)), rfl, bel.frame _, fun h => by cases h⟩

theorem fnTurns_holds : Rows.FnTurnsSaid :=
  OpenClaim.holds_of_wide 9 Try.f9 rfl rfl rfl rfl rfl rfl rfl ⟨rfl, rfl, rfl, rfl, rfl⟩ rfl rfl rfl rfl rfl (by kernel_rfl) Try.func9
    (by unfold joinedFacts; with_reducible refine Bool.and_eq_true_iff.2 ⟨?_, (by as_aux_lemma => kernel_rfl)⟩; with_reducible refine Bool.and_eq_true_iff.2 ⟨?_, (by as_aux_lemma => kernel_rfl)⟩; with_reducible refine Bool.and_eq_true_iff.2 ⟨?_, (by as_aux_lemma => kernel_rfl)⟩; with_reducible refine Bool.and_eq_true_iff.2 ⟨?_, (by as_aux_lemma => kernel_rfl)⟩; with_reducible refine Bool.and_eq_true_iff.2 ⟨?_, (by with_unfolding_all exact shutMake)⟩; with_reducible refine Bool.and_eq_true_iff.2 ⟨?_, (by with_unfolding_all exact shutLifts)⟩; with_reducible refine Bool.and_eq_true_iff.2 ⟨?_, shutEnter⟩; (repeat (with_reducible refine Bool.and_eq_true_iff.2 ⟨?_, (by as_aux_lemma => kernel_rfl)⟩)); as_aux_lemma => kernel_rfl)
    (of_decide_eq_true (by kernel_rfl)) (by unfold Func.isWrapper; first | (rw [if_pos (by decide +kernel)]; kernel_rfl) | (rw [if_neg (by decide +kernel)]; exact ⟨rfl, rfl⟩))
    (fun os started H enc _ => lifted_FnTurns os started H enc)
end Go.Proofs.Ytpciaokafokfmaa
