/-
  FnAheadEven: for every argument the law of two ways that are as long returns true and writes nothing that was there. No condition.
-/
import Derived.Test.YtmifhkhanjiklaaDrawTim
import Derived.Test.YtmifhkhanjiklaaImp15b
import Derived.Test.YtmifhkhanjiklaaTimLaws
import Derived.Test.YtmifhkhanjiklaaShut
namespace Go.Proofs.Ytmifhkhanjiklaa
open Go.RowKit Go.ChangeShapes Go.WideShapes Go.ChangeAt

set_option maxRecDepth 100000 in
set_option maxHeartbeats 8000000 in
theorem walk_FnAheadEven {A : Option Addr} {n c : Nat} {zs : List Int} {w : World} (h : Has w A n (ints .u8 zs)) (hwf : ∀ z ∈ zs, (Lit.int .u8 z).wf = true) (hc : n ≤ c ∧ c ≤ maxLen) :
    Calls Try.prog 4 #[.slice A n c] w fun e w' => e = .returned (.bool true) ∧ Below w.heap.size w w' := by
  have hu : U8s zs := fun z hz => u8_of_wf (hwf z hz)
  clear hwf
  by_cases hn : n ≤ 1048576
  rotate_left
  · go_enter Try.func4, Try.ntmps4
    go_wp2
    go_ret
    exact ⟨rfl, Below.refl _ _⟩
  go_enter Try.func4, Try.ntmps4
  go_wp2_with (fail)
  refine (drawTalkTimes_any h hu hc).mono ?_
  rintro e w1 ⟨a, t, k, b, q, rfl, B1⟩
  have S1 : w.heap.size ≤ w1.heap.size := B1.size
  have C1 := B1
  obtain ⟨⟨x, y, z, u⟩, hx⟩ : ∃ R, talkI a t k t q = R := ⟨_, rfl⟩
  obtain ⟨ok, hok⟩ : ∃ R, decide (talkOk a t k t q) = R := ⟨_, rfl⟩
  obtain ⟨⟨x', y', z', u'⟩, hx2⟩ : ∃ R, talkI a 0 k 0 q = R := ⟨_, rfl⟩
  obtain ⟨fine, hfi⟩ : ∃ R, decide (talkOk a 0 k 0 q) = R := ⟨_, rfl⟩
  obtain ⟨⟨p, r⟩, hs⟩ : ∃ R, spanI (x', y', z', u') = R := ⟨_, rfl⟩
  obtain ⟨one, hone⟩ : ∃ R, decide (exOk (x', y', z', u')) = R := ⟨_, rfl⟩
  have bB : (ok != ok) = false := by simp
  have HX := Lib.hid hx
  have HOK := Lib.hid hok
  have HX2 := Lib.hid hx2
  have HFI := Lib.hid hfi
  have HS := Lib.hid hs
  have HON := Lib.hid hone
  go_wp2_with (fail)
  refine (implTalkTimes_r hx hok).mono ?_
  rintro e w2 ⟨rfl, B2⟩
  have S2 : w1.heap.size ≤ w2.heap.size := B2.size
  have C2 := bel_trans C1 B2
  obtain ⟨w3, hw3⟩ : ∃ W, w2.alloc (.cells #[.int .i64 x, .int .i64 y, .int .i64 z, .int .i64 u] 26) = W := ⟨_, rfl⟩
  have B3 : Below w2.heap.size w2 w3 := hw3 ▸ below_allocQ w2 _
  have P_3 : QRow w3 w2.heap.size 26 x y z u := hw3 ▸ qRow_alloc w2 _ _ _ _ _
  have S3 : w2.heap.size ≤ w3.heap.size := B3.size
  have C3 := bel_trans C2 B3
  go_wp2_with (fail)
  refine (specTalkTimes_r hx hok).mono ?_
  rintro e w4 ⟨rfl, B4⟩
  have S4 : w3.heap.size ≤ w4.heap.size := B4.size
  have C4 := bel_trans C3 B4
  have P_4 := P_3.bel B4
  obtain ⟨w5, hw5⟩ : ∃ W, w4.alloc (.cells #[.int .i64 x, .int .i64 y, .int .i64 z, .int .i64 u] 26) = W := ⟨_, rfl⟩
  have B5 : Below w4.heap.size w4 w5 := hw5 ▸ below_allocQ w4 _
  have Q_5 : QRow w5 w4.heap.size 26 x y z u := hw5 ▸ qRow_alloc w4 _ _ _ _ _
  have S5 : w4.heap.size ≤ w5.heap.size := B5.size
  have C5 := bel_trans C4 B5
  have P_5 := P_4.bel B5
  obtain ⟨cP50, cP51, cP52, cP53⟩ := P_5.cells
  obtain ⟨cQ50, cQ51, cQ52, cQ53⟩ := Q_5.cells
  have GE := guard_ex15
  have SE := same_ex x y z u
  have D2 := Lib.hid (fun W => implTalkTimes_r (w := W) hx2 hfi)
  have D3 := Lib.hid (fun W => implSpanOf_r (w := W) hs hone)
  clear hx hok hx2 hfi hs hone
  cases ok with
  | false =>
    go_wp2
    go_ret
    exact ⟨rfl, C5⟩
  | true =>
    have hto : talkOk a t k t q := of_decide_eq_true HOK.out
    have hxe : talkX a t k t q = (x, y, z, u) := by have h1 := HX.out; unfold talkI at h1; rw [if_pos hto] at h1; exact h1
    have htw := (talk_tw hto).1
    rw [hxe] at htw
    have hb := hto.1
    unfold tmOk at hb
    obtain ⟨a2, ha2⟩ : ∃ v, 2 * a = v := ⟨_, rfl⟩
    have v1 : IntKind.i64.wrap (2 * a) = a2 := by rw [ha2]; exact IntWalk.i64_in _ (by omega)
    have ht2 : twI (x, y, z, u) = a2 := by rw [htw]; omega
    have HA := Lib.hid ha2
    have D4 := Lib.hid (fun W => implTwiceAhead_r (w := W) ht2)
    clear hto hxe htw hb ha2 ht2
    go_wp2_with (fail)
    refine (D2.out _).mono ?_
    rintro e w6 ⟨rfl, B6⟩
    have S6 : w5.heap.size ≤ w6.heap.size := B6.size
    have C6 := bel_trans C5 B6
    have P_6 := P_5.bel B6
    have Q_6 := Q_5.bel B6
    obtain ⟨w7, hw7⟩ : ∃ W, w6.alloc (.cells #[.int .i64 x', .int .i64 y', .int .i64 z', .int .i64 u'] 26) = W := ⟨_, rfl⟩
    have B7 : Below w6.heap.size w6 w7 := hw7 ▸ below_allocQ w6 _
    have Y_7 : QRow w7 w6.heap.size 26 x' y' z' u' := hw7 ▸ qRow_alloc w6 _ _ _ _ _
    have S7 : w6.heap.size ≤ w7.heap.size := B7.size
    have C7 := bel_trans C6 B7
    have P_7 := P_6.bel B7
    have Q_7 := Q_6.bel B7
    obtain ⟨cY70, cY71, cY72, cY73⟩ := Y_7.cells
    go_wp2_with (fail)
    refine (D3.out _).mono ?_
    rintro e w8 ⟨rfl, B8⟩
    have S8 : w7.heap.size ≤ w8.heap.size := B8.size
    have C8 := bel_trans C7 B8
    have P_8 := P_7.bel B8
    have Q_8 := Q_7.bel B8
    have Y_8 := Y_7.bel B8
    obtain ⟨w9, hw9⟩ : ∃ W, w8.alloc (.cells #[.int .i64 p, .int .i64 r] 30) = W := ⟨_, rfl⟩
    have B9 : Below w8.heap.size w8 w9 := hw9 ▸ below_allocQ w8 _
    have S_9 : DRow w9 w8.heap.size 30 p r := hw9 ▸ dRow_alloc w8 _ _ _
    have S9 : w8.heap.size ≤ w9.heap.size := B9.size
    have C9 := bel_trans C8 B9
    have P_9 := P_8.bel B9
    have Q_9 := Q_8.bel B9
    have Y_9 := Y_8.bel B9
    obtain ⟨cP90, cP91, cP92, cP93⟩ := P_9.cells
    go_wp2_with (fail)
    refine (D4.out _).mono ?_
    rintro e w10 ⟨rfl, B10⟩
    have S10 : w9.heap.size ≤ w10.heap.size := B10.size
    have C10 := bel_trans C9 B10
    have P_10 := P_9.bel B10
    have Q_10 := Q_9.bel B10
    have Y_10 := Y_9.bel B10
    have S_10 := S_9.bel B10
    obtain ⟨cS100, cS101⟩ := S_10.cells
    cases fine with
    | false =>
      go_wp2
      go_ret
      exact ⟨rfl, C10⟩
    | true =>
      have hto : talkOk a 0 k 0 q := of_decide_eq_true HFI.out
      have hxe : talkX a 0 k 0 q = (x', y', z', u') := by have h1 := HX2.out; unfold talkI at h1; rw [if_pos hto] at h1; exact h1
      have hex := hto.2.2.2.2.2
      have htw := talk_tw hto
      rw [hxe] at htw hex
      have hs1 : (2 * a, 2 * a) = (p, r) := by
        have h1 := HS.out
        unfold spanI at h1
        rw [if_pos hex] at h1
        unfold spanX at h1
        rw [htw.1, htw.2] at h1
        rw [← h1]
        congr 1 <;> omega
      injection hs1 with e1 e2
      have e3 : p = a2 := by rw [← e1]; exact HA.out
      have e4 : r = a2 := by rw [← e2]; exact HA.out
      obtain rfl : one = true := by rw [← HON.out]; exact decide_eq_true hex
      clear hto hxe hex htw e1 e2
      subst e3 e4
      go_wp2
      go_ret
      exact ⟨rfl, C10⟩
set_option maxRecDepth 100000 in
theorem lifted_FnAheadEven (os : Os) (started : os.Started) (H : Type) (enc : TypeId × Value → H) :
    ReturnsInHanded {} Try.checked os 4 .any (Rows.fnAheadEvenSpec.pre6 enc Try.prog Try.f4 Rows.fnAheadEvenRow.domain false) (Rows.fnAheadEvenSpec.post enc Try.prog Try.f4 false true false false) := by
  refine returnsInHanded_of_change (C := Try.checked) (by kernel_rfl) started (by kernel_rfl) Try.func4
    (ChangeSpec.witness6 (enc := enc) (C := Try.checked) false ⟨#[], #[.slice none 0 0], []⟩ 8 (by kernel_rfl) (by kernel_rfl) (by kernel_rfl) (by kernel_rfl)) ?_
  intro W base args ds gs before hval0 hW hcnd _
  have hval : ∀ (j : Nat) t v, Try.f4.params[j]? = some t → args[j]? = some v → Value.okWide Try.prog W .any base t v := hval0
  have hW' := hW
  obtain ⟨p, q, hA0, hV, rfl, hfz, hnd⟩ := hW
  have hA : DataW.TrodAll enc Try.prog W 0 (fun _ => true) true Try.f4.params.toList args.toList ds p := hA0
  rw [Try.params4] at hA hval
  obtain ⟨v0, vs0, d0, ds0, p0, q0, hargs, rfl, rfl, h0, r0⟩ := trodAll_cons hA
  obtain ⟨rfl, rfl, rfl⟩ := trodAll_nil r0
  obtain rfl : args = #[v0] := by cases args; simp_all
  obtain ⟨rfl, rfl⟩ := trodVars_none hV
  obtain ⟨a0, len0, cap0, rfl⟩ := okWide_slice Try.underlying22 (hval 0 22 v0 rfl rfl)
  have k0 := h0
  have lt0 : ∀ x ∈ p0, x.block < W.heap.size := by obtain ⟨m, hm⟩ := k0; exact DataW.trod_lt m _ _ _ hm
  obtain ⟨z0, H0, U0, M0⟩ := has_of_trod (k := .u8) Try.underlying22 Try.underlying5 (by kernel_rfl) h0
  clear hA0 hval0
  refine (walk_FnAheadEven H0 U0 M0).mono fun e W' ⟨he, bel⟩ => ?_
  subst he
  exact ⟨_, rfl, _, _, _, [], _, [], hW', trodAll_mk1 (shut_bool Try.underlying4 _), (trodAll_cons_mk (Below.trod (by kernel_rfl) (by kernel_rfl) (of_decide_eq_true (by kernel_rfl)) k0 bel lt0) trodAll_mk0), rfl, bel.frame _, fun h => by cases h⟩

theorem fnAheadEven_holds : Rows.FnAheadEvenSaid :=
  OpenClaim.holds_of_wide 4 Try.f4 rfl rfl rfl rfl rfl rfl rfl ⟨rfl, rfl, rfl, rfl, rfl⟩ rfl rfl rfl rfl rfl (by kernel_rfl) Try.func4
    (by unfold joinedFacts; with_reducible refine Bool.and_eq_true_iff.2 ⟨?_, (by as_aux_lemma => kernel_rfl)⟩; with_reducible refine Bool.and_eq_true_iff.2 ⟨?_, (by as_aux_lemma => kernel_rfl)⟩; with_reducible refine Bool.and_eq_true_iff.2 ⟨?_, (by as_aux_lemma => kernel_rfl)⟩; with_reducible refine Bool.and_eq_true_iff.2 ⟨?_, (by as_aux_lemma => kernel_rfl)⟩; with_reducible refine Bool.and_eq_true_iff.2 ⟨?_, (by with_unfolding_all exact shutMake)⟩; with_reducible refine Bool.and_eq_true_iff.2 ⟨?_, (by with_unfolding_all exact shutLifts)⟩; with_reducible refine Bool.and_eq_true_iff.2 ⟨?_, shutEnter⟩; (repeat (with_reducible refine Bool.and_eq_true_iff.2 ⟨?_, (by as_aux_lemma => kernel_rfl)⟩)); as_aux_lemma => kernel_rfl)
    (of_decide_eq_true (by kernel_rfl)) (by unfold Func.isWrapper; first | (rw [if_pos (by decide +kernel)]; kernel_rfl) | (rw [if_neg (by decide +kernel)]; exact ⟨rfl, rfl⟩))
    (fun os started H enc _ => lifted_FnAheadEven os started H enc)
end Go.Proofs.Ytmifhkhanjiklaa
