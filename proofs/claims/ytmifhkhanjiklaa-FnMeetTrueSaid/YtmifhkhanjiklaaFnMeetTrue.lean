/-
  FnMeetTrue: for all arguments the law of a number that all spans have returns true and writes nothing that was there. No condition.
-/
import Derived.Test.YtmifhkhanjiklaaDrawTim
import Derived.Test.YtmifhkhanjiklaaTimD
import Derived.Test.YtmifhkhanjiklaaImp15h
import Derived.Test.YtmifhkhanjiklaaTimLaws
import Derived.Test.YtmifhkhanjiklaaShut
import Derived.Lib.QuietBelow
namespace Go.Proofs.Ytmifhkhanjiklaa
open Go.RowKit Go.ChangeShapes Go.WideShapes Go.ChangeAt

theorem meet_true {L : List Duo} {lo hi : Int} {M : Nat} {k : Int} (h : Meet L lo hi M) (hL : spsOk L) (ha : ∀ s ∈ L, hasS s k) : M = L.length ∧ hasS (lo, hi) k := by
  have hc : cntS L k = L.length := by
    unfold cntS
    rw [List.countP_eq_length]
    exact fun s hs => decide_eq_true (ha s hs)
  obtain ⟨h1, h2, h3, h4, h5⟩ := h
  have hM := (meet_ok hL ⟨h1, h2, h3, h4, h5⟩).2.2
  have e1 := h1 k
  have e2 := h4 lo (Int.le_refl _) h3
  have e3 := cnt_le_len L lo
  have hMl : M = L.length := by omega
  have hlk : lo ≤ k := by
    by_cases hh : lo ≤ k
    · exact hh
    · have := h2 k (by omega); omega
  refine ⟨hMl, hM, hlk, ?_⟩
  by_cases hh : k ≤ hi
  · exact hh
  · exfalso
    apply h5
    have hlo : ∀ s ∈ L, hasS s lo := by
      have h6 : cntS L lo = L.length := by omega
      unfold cntS at h6
      rw [List.countP_eq_length] at h6
      exact fun s hs => of_decide_eq_true (h6 s hs)
    rw [hMl]
    unfold cntS
    rw [List.countP_eq_length]
    intro s hs
    have f1 := hlo s hs
    have f2 := ha s hs
    have f3 := f1.2.1
    have f4 := f2.2.2
    exact decide_eq_true ⟨f1.1, by omega, by omega⟩
def allS (L : List Duo) (j : Nat) (k : Int) : Bool := (L.take j).all (fun s => decide (hasS s k))
theorem allS_iff {L : List Duo} {j : Nat} {k : Int} : allS L j k = true ↔ ∀ s ∈ L.take j, hasS s k := by unfold allS; simp
theorem all_take15 {L : List Duo} {k : Int} {j : Nat} {x : Duo} (hx : L[j]? = some x) : allS L (j + 1) k = (allS L j k && decide (hasS x k)) := by
  unfold allS
  rw [List.take_add_one, hx, List.all_append]
  simp
set_option maxRecDepth 100000 in
set_option maxHeartbeats 8000000 in
theorem walk_FnMeetTrue {A A' : Option Addr} {n c n' c' : Nat} {zs zs' : List Int} {w : World} (h : Has w A n (ints .u8 zs)) (hwf : ∀ z ∈ zs, (Lit.int .u8 z).wf = true) (hc : n ≤ c ∧ c ≤ maxLen) (h' : Has w A' n' (ints .u8 zs')) (hwf' : ∀ z ∈ zs', (Lit.int .u8 z).wf = true) (hc' : n' ≤ c' ∧ c' ≤ maxLen) :
    Calls Try.prog 8 #[.slice A n c, .slice A' n' c'] w fun e w' => e = .returned (.bool true) ∧ Below w.heap.size w w' := by
  have hu : U8s zs := fun z hz => u8_of_wf (hwf z hz)
  have hu' : U8s zs' := fun z hz => u8_of_wf (hwf' z hz)
  clear hwf hwf'
  by_cases hn : n ≤ 1048576
  rotate_left
  · go_enter Try.func8, Try.ntmps8
    go_wp2
    go_ret
    exact ⟨rfl, Below.refl _ _⟩
  by_cases hn' : n' ≤ 1048576
  rotate_left
  · go_enter Try.func8, Try.ntmps8
    go_wp2
    go_ret
    exact ⟨rfl, Below.refl _ _⟩
  go_enter Try.func8, Try.ntmps8
  go_wp2_with (fail)
  refine (drawMeetSpans_any h hu hc).mono ?_
  rintro e w1 ⟨B, m, d, L, rfl, H, hm, B1⟩
  have S1 : w.heap.size ≤ w1.heap.size := B1.size
  have C1 := B1
  have HLN := Lib.hid H.1
  go_wp2_with (fail)
  refine (implMeetSpans_any H (by omega)).mono ?_
  rintro e w2 ⟨⟨lo, hi, q, rfl, hm1⟩, B2⟩
  have S2 : w1.heap.size ≤ w2.heap.size := B2.size
  have C2 := bel_trans C1 B2
  have H_2 := H.bel B2
  obtain ⟨w3, hw3⟩ : ∃ W, w2.alloc (.cells #[.int .i64 lo, .int .i64 hi] 30) = W := ⟨_, rfl⟩
  have B3 : Below w2.heap.size w2 w3 := hw3 ▸ below_allocQ w2 _
  have P_3 : DRow w3 w2.heap.size 30 lo hi := hw3 ▸ dRow_alloc w2 _ _ _
  have S3 : w2.heap.size ≤ w3.heap.size := B3.size
  have C3 := bel_trans C2 B3
  have H_3 := H_2.bel B3
  go_wp2_with (fail)
  refine (specMeetSpans_any H_3 (by omega)).mono ?_
  rintro e w4 ⟨⟨lo', hi', q', rfl, hm2⟩, B4⟩
  have S4 : w3.heap.size ≤ w4.heap.size := B4.size
  have C4 := bel_trans C3 B4
  have P_4 := P_3.bel B4
  have H_4 := H_3.bel B4
  obtain ⟨e1, e2, e3⟩ := hm1.uniq hm2
  subst e1 e2 e3
  clear hm2
  have bB : (q != q) = false := by simp
  have bC : (q == q) = true := by simp
  obtain ⟨w5, hw5⟩ : ∃ W, w4.alloc (.cells #[.int .i64 lo, .int .i64 hi] 30) = W := ⟨_, rfl⟩
  have B5 : Below w4.heap.size w4 w5 := hw5 ▸ below_allocQ w4 _
  have Q_5 : DRow w5 w4.heap.size 30 lo hi := hw5 ▸ dRow_alloc w4 _ _ _
  have S5 : w4.heap.size ≤ w5.heap.size := B5.size
  have C5 := bel_trans C4 B5
  have P_5 := P_4.bel B5
  have H_5 := H_4.bel B5
  go_wp2_with (fail)
  refine (drawSpanHas_any (h'.bel C5) hu' hc').mono ?_
  rintro e w6 ⟨x, y, k, rfl, B6⟩
  have S6 : w5.heap.size ≤ w6.heap.size := B6.size
  have C6 := bel_trans C5 B6
  have P_6 := P_5.bel B6
  have Q_6 := Q_5.bel B6
  have H_6 := H_5.bel B6
  obtain ⟨w7, hw7⟩ : ∃ W, w6.alloc (.cells #[.int .i64 x, .int .i64 y] 30) = W := ⟨_, rfl⟩
  have B7 : Below w6.heap.size w6 w7 := hw7 ▸ below_allocQ w6 _
  have X_7 : DRow w7 w6.heap.size 30 x y := hw7 ▸ dRow_alloc w6 _ _ _
  have S7 : w6.heap.size ≤ w7.heap.size := B7.size
  have C7 := bel_trans C6 B7
  have P_7 := P_6.bel B7
  have Q_7 := Q_6.bel B7
  have H_7 := H_6.bel B7
  have GE := guard_sp15
  have SE := same_sp lo hi
  obtain ⟨v, hv⟩ : ∃ v, decide (hasS (x, y) k) = v := ⟨_, rfl⟩
  have bD : (v != v) = false := by simp
  have bE : (v == v) = true := by simp
  have rgP70 := cell_regrown (P_7.cells.1)
  have rgP71 := cell_regrown (P_7.cells.2)
  have rgQ70 := cell_regrown (Q_7.cells.1)
  have rgQ71 := cell_regrown (Q_7.cells.2)
  have rgX70 := cell_regrown (X_7.cells.1)
  have rgX71 := cell_regrown (X_7.cells.2)
  have cR1 := fun d os => Calls.regrown_of (d := d) (os := os) (w := w7) (implSpanHas_b hv)
  have cR2 := fun d os => Calls.regrown_of (d := d) (os := os) (w := w7) (specSpanHas_b hv)
  rcases hm1 with ⟨hsp, M, hqM, hM1, hM40, hmeet, hspan⟩ | ⟨e0, e1, e2, hq0⟩
  rotate_left
  · clear e0 e1 e2
    obtain rfl := hq0
    go_wp2
    refine wp_region_quiet_below (by kernel_rfl) (by kernel_rfl) ?_
    repeat ((with_reducible refine wpQuiet_step (fun K hK => ?_)); go_simp; first | (with_reducible refine hK _ ?_; clear hK K) | (rw [if_neg (by intro hh; cases hh)]; (with_reducible refine hK _ ?_); clear hK K) | ((apply Exists.intro); (with_reducible refine ⟨fun _ => ?_, hK _ ?_⟩); (first | (with_reducible exact cR1 _ _) | (with_reducible exact cR2 _ _)); clear hK K))
    (with_reducible refine wpQuiet_nil ?_)
    intro w8 hw'
    obtain ⟨⟨dq, osq⟩, hw''⟩ := hw'
    have B8 : Below w7.heap.size w7 w8 := hw'' ▸ below_regrown w7 dq osq
    clear hw''
    have S8 : w7.heap.size ≤ w8.heap.size := B8.size
    have C8 := bel_trans C7 B8
    have P_8 := P_7.bel B8
    have Q_8 := Q_7.bel B8
    have X_8 := X_7.bel B8
    have rgP80 := cell_regrown (P_8.cells.1)
    have rgP81 := cell_regrown (P_8.cells.2)
    have rgQ80 := cell_regrown (Q_8.cells.1)
    have rgQ81 := cell_regrown (Q_8.cells.2)
    have rgX80 := cell_regrown (X_8.cells.1)
    have rgX81 := cell_regrown (X_8.cells.2)
    have cS1 := fun d os => Calls.regrown_of (d := d) (os := os) (w := w8) (implSpanHas_b hv)
    have cS2 := fun d os => Calls.regrown_of (d := d) (os := os) (w := w8) (specSpanHas_b hv)
    go_wp2
    refine wp_region_quiet_below (by kernel_rfl) (by kernel_rfl) ?_
    repeat ((with_reducible refine wpQuiet_step (fun K hK => ?_)); go_simp; first | (with_reducible refine hK _ ?_; clear hK K) | (rw [if_neg (by intro hh; cases hh)]; (with_reducible refine hK _ ?_); clear hK K) | ((apply Exists.intro); (with_reducible refine ⟨fun _ => ?_, hK _ ?_⟩); (first | (with_reducible exact cS1 _ _) | (with_reducible exact cS2 _ _)); clear hK K))
    (with_reducible refine wpQuiet_nil ?_)
    intro w9 hw'
    obtain ⟨⟨dq, osq⟩, hw''⟩ := hw'
    have B9 : Below w8.heap.size w8 w9 := hw'' ▸ below_regrown w8 dq osq
    clear hw''
    have S9 : w8.heap.size ≤ w9.heap.size := B9.size
    have C9 := bel_trans C8 B9
    have P_9 := P_8.bel B9
    have Q_9 := Q_8.bel B9
    have X_9 := X_8.bel B9
    go_wp2
    go_ret
    exact ⟨rfl, C9⟩
  have q0 : (q == 0) = false := by simp; omega
  have HQ := Lib.hid hqM
  have HMT := Lib.hid (fun ha => meet_true (k := k) hmeet hsp ha)
  clear hsp hmeet hspan hqM
  go_wp2
  refine wp_region_quiet_below (by kernel_rfl) (by kernel_rfl) ?_
  repeat ((with_reducible refine wpQuiet_step (fun K hK => ?_)); go_simp; first | (with_reducible refine hK _ ?_; clear hK K) | (rw [if_neg (by intro hh; cases hh)]; (with_reducible refine hK _ ?_); clear hK K) | ((apply Exists.intro); (with_reducible refine ⟨fun _ => ?_, hK _ ?_⟩); (first | (with_reducible exact cR1 _ _) | (with_reducible exact cR2 _ _)); clear hK K))
  (with_reducible refine wpQuiet_nil ?_)
  intro w8 hw'
  obtain ⟨⟨dq, osq⟩, hw''⟩ := hw'
  have B8 : Below w7.heap.size w7 w8 := hw'' ▸ below_regrown w7 dq osq
  clear hw''
  have S8 : w7.heap.size ≤ w8.heap.size := B8.size
  have C8 := bel_trans C7 B8
  have P_8 := P_7.bel B8
  have Q_8 := Q_7.bel B8
  have X_8 := X_7.bel B8
  have H_8 := H_7.bel B8
  have HK := Lib.hid P_8
  have HH := Lib.hid H_8
  clear cR1 cR2
  go_wp2
  go_loopw [12, 80] (fun a t wr => ∃ (j : Nat) (ag : Bool), j ≤ m ∧ t = .int .i64 (j : Int) ∧ a = .bool ag ∧ Hid (allS L j k = ag) ∧ Below w8.heap.size w8 wr) (fun _ t _ => m - (intOf t).toNat)
  case atStart =>
    have h1 : Hid (allS L 0 k = true) := by have : allS L 0 k = true := rfl; exact this
    exact ⟨0, true, Nat.zero_le _, rfl, rfl, h1, Below.refl _ _⟩
  case round =>
    obtain ⟨j, ag, hj, rfl, rfl, HX, BW⟩ := hrel
    have sW := BW.size
    by_cases hjt : j < m
    · have hjB : decide ((j : Int) < (m : Int)) = true := by simp; omega
      obtain ⟨bb, o, f, t, rfl, hbl, he, c0, c1⟩ := (HH.out.bel BW).at_ hjt
      have HST := Lib.hid (all_take15 (k := k) he)
      obtain ⟨wa, hwa⟩ : ∃ wa, wr.alloc (.cells #[.int .i64 f, .int .i64 t] 30) = wa := ⟨_, rfl⟩
      have KX : DRow wa wr.heap.size 30 f t := hwa ▸ dRow_alloc wr _ f t
      have BA : Below wr.heap.size wr wa := hwa ▸ below_allocQ wr _
      have BWA := BW.trans (BA.mono sW)
      have sA := BWA.size
      obtain ⟨x0, x1⟩ := KX.cells
      obtain ⟨v2, hv2⟩ : ∃ v, decide (hasS (f, t) k) = v := ⟨_, rfl⟩
      have CC := Lib.hid (fun W => implSpanHas_b (w := W) hv2)
      rw [hv2] at HST
      clear he hv2 KX BA
      cases ag with
      | true =>
        have HX2 : Hid (allS L (j + 1) k = v2) := by
          have : allS L (j + 1) k = v2 := by rw [HST.out, HX.out]; rfl
          exact this
        go_wp2_with (fail)
        refine (CC.out _).mono ?_
        rintro e w5 ⟨rfl, B5⟩
        have B6 := BWA.trans (B5.mono sA)
        go_wp2
        go_roundw
        case rel => exact ⟨j + 1, v2, by omega, by go_num, rfl, HX2, B6⟩
        case measure => simp [intOf]; omega
      | false =>
        have HX2 : Hid (allS L (j + 1) k = false) := by
          have : allS L (j + 1) k = false := by rw [HST.out, HX.out]; rfl
          exact this
        go_wp2
        go_roundw
        case rel => exact ⟨j + 1, false, by omega, by go_num, rfl, HX2, BWA⟩
        case measure => simp [intOf]; omega
    · have hjB : decide ((j : Int) < (m : Int)) = false := by simp; omega
      obtain rfl : j = m := by omega
      have CW := bel_trans C8 BW
      cases ag with
      | false =>
        go_wp2
        go_ret
        exact ⟨rfl, CW⟩
      | true =>
        have hall : ∀ s ∈ L, hasS s k := by
          have h1 := allS_iff.1 HX.out
          rwa [List.take_of_length_le (by have := HLN.out; omega)] at h1
        obtain ⟨g1, g2⟩ := HMT.out hall
        have qm : (q == (j : Int)) = true := by have := HQ.out; have := HLN.out; simp; omega
        have CC := Lib.hid (fun W => implSpanHas_b (w := W) (decide_eq_true g2))
        obtain ⟨x0, x1⟩ := (HK.out.bel BW).cells
        clear hall g1 g2
        go_wp2_with (fail)
        refine (CC.out _).mono ?_
        rintro e w5 ⟨rfl, B5⟩
        go_wp2
        go_ret
        exact ⟨rfl, bel_trans CW B5⟩
set_option maxRecDepth 100000 in
theorem lifted_FnMeetTrue (os : Os) (started : os.Started) (H : Type) (enc : TypeId × Value → H) :
    ReturnsInHanded {} Try.checked os 8 .any (Rows.fnMeetTrueSpec.pre6 enc Try.prog Try.f8 Rows.fnMeetTrueRow.domain false) (Rows.fnMeetTrueSpec.post enc Try.prog Try.f8 false true false false) := by
  refine returnsInHanded_of_change (C := Try.checked) (by kernel_rfl) started (by kernel_rfl) Try.func8
    (ChangeSpec.witness6 (enc := enc) (C := Try.checked) false ⟨#[], #[.slice none 0 0, .slice none 0 0], []⟩ 8 (by kernel_rfl) (by kernel_rfl) (by kernel_rfl) (by kernel_rfl)) ?_
  intro W base args ds gs before hval0 hW hcnd _
  have hval : ∀ (j : Nat) t v, Try.f8.params[j]? = some t → args[j]? = some v → Value.okWide Try.prog W .any base t v := hval0
  have hW' := hW
  obtain ⟨p, q, hA0, hV, rfl, hfz, hnd⟩ := hW
  have hA : DataW.TrodAll enc Try.prog W 0 (fun _ => true) true Try.f8.params.toList args.toList ds p := hA0
  rw [Try.params8] at hA hval
  obtain ⟨v0, vs0, d0, ds0, p0, q0, hargs, rfl, rfl, h0, r0⟩ := trodAll_cons hA
  obtain ⟨v1, vs1, d1, ds1, p1, q1, rfl, rfl, rfl, h1, r1⟩ := trodAll_cons r0
  obtain ⟨rfl, rfl, rfl⟩ := trodAll_nil r1
  obtain rfl : args = #[v0, v1] := by cases args; simp_all
  obtain ⟨rfl, rfl⟩ := trodVars_none hV
  obtain ⟨a0, len0, cap0, rfl⟩ := okWide_slice Try.underlying22 (hval 0 22 v0 rfl rfl)
  have k0 := h0
  have lt0 : ∀ x ∈ p0, x.block < W.heap.size := by obtain ⟨m, hm⟩ := k0; exact DataW.trod_lt m _ _ _ hm
  obtain ⟨z0, H0, U0, M0⟩ := has_of_trod (k := .u8) Try.underlying22 Try.underlying5 (by kernel_rfl) h0
  obtain ⟨a1, len1, cap1, rfl⟩ := okWide_slice Try.underlying22 (hval 1 22 v1 rfl rfl)
  have k1 := h1
  have lt1 : ∀ x ∈ p1, x.block < W.heap.size := by obtain ⟨m, hm⟩ := k1; exact DataW.trod_lt m _ _ _ hm
  obtain ⟨z1, H1, U1, M1⟩ := has_of_trod (k := .u8) Try.underlying22 Try.underlying5 (by kernel_rfl) h1
  clear hA0 hval0
  refine (walk_FnMeetTrue H0 U0 M0 H1 U1 M1).mono fun e W' ⟨he, bel⟩ => ?_
  subst he
  exact ⟨_, rfl, _, _, _, [], _, [], hW', trodAll_mk1 (shut_bool Try.underlying4 _), (trodAll_cons_mk (Below.trod (by kernel_rfl) (by kernel_rfl) (of_decide_eq_true (by kernel_rfl)) k0 bel lt0) (trodAll_cons_mk (Below.trod (by kernel_rfl) (by kernel_rfl) (of_decide_eq_true (by kernel_rfl)) k1 bel lt1) trodAll_mk0)), rfl, bel.frame _, fun h => by cases h⟩

theorem fnMeetTrue_holds : Rows.FnMeetTrueSaid :=
  OpenClaim.holds_of_wide 8 Try.f8 rfl rfl rfl rfl rfl rfl rfl ⟨rfl, rfl, rfl, rfl, rfl⟩ rfl rfl rfl rfl rfl (by kernel_rfl) Try.func8
    (by unfold joinedFacts; with_reducible refine Bool.and_eq_true_iff.2 ⟨?_, (by as_aux_lemma => kernel_rfl)⟩; with_reducible refine Bool.and_eq_true_iff.2 ⟨?_, (by as_aux_lemma => kernel_rfl)⟩; with_reducible refine Bool.and_eq_true_iff.2 ⟨?_, (by as_aux_lemma => kernel_rfl)⟩; with_reducible refine Bool.and_eq_true_iff.2 ⟨?_, (by as_aux_lemma => kernel_rfl)⟩; with_reducible refine Bool.and_eq_true_iff.2 ⟨?_, (by with_unfolding_all exact shutMake)⟩; with_reducible refine Bool.and_eq_true_iff.2 ⟨?_, (by with_unfolding_all exact shutLifts)⟩; with_reducible refine Bool.and_eq_true_iff.2 ⟨?_, shutEnter⟩; (repeat (with_reducible refine Bool.and_eq_true_iff.2 ⟨?_, (by as_aux_lemma => kernel_rfl)⟩)); as_aux_lemma => kernel_rfl)
    (of_decide_eq_true (by kernel_rfl)) (by unfold Func.isWrapper; first | (rw [if_pos (by decide +kernel)]; kernel_rfl) | (rw [if_neg (by decide +kernel)]; exact ⟨rfl, rfl⟩))
    (fun os started H enc _ => lifted_FnMeetTrue os started H enc)
end Go.Proofs.Ytmifhkhanjiklaa
