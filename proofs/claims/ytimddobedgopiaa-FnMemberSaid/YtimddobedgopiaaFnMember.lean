/-
  FnMember: for every argument the law of the wire of a flow returns true and writes nothing that was there. No condition.
-/
import Derived.Test.YtimddobedgopiaaDrawFlow
import Derived.Test.YtimddobedgopiaaImp11a
import Derived.Test.YtimddobedgopiaaShut
namespace Go.Proofs.Ytimddobedgopiaa
open Go.RowKit Go.ChangeShapes Go.WideShapes Go.ChangeAt

theorem someTo_succ' {us : List Bool} {k : Nat} (hk : k < us.length) : someTo us (k + 1) = (someTo us k || us.getD k false) := by
  unfold someTo
  rw [List.take_add_one, List.any_append, List.getD_eq_getElem?_getD, List.getElem?_eq_getElem hk]
  simp
theorem mem_neg {us : List Bool} {f : Int} (h : memI us f < 0) : memI us f = -1 ∧ (someTo us us.length = false ∨ 8 < us.length ∨ f < 0 ∨ 239 < f) := by
  unfold memI at *
  split
  · rename_i hh
    rw [if_pos hh] at h
    have h1 := (memP_lt us f.toNat).1
    refine ⟨by omega, .inl ?_⟩
    cases hs : someTo us us.length
    · rfl
    · have := (mem_some (us := us) f.toNat).1 hs
      omega
  · rename_i hh
    refine ⟨rfl, ?_⟩
    by_cases h0 : us.length = 0
    · left
      have : us = [] := List.eq_nil_of_length_eq_zero h0
      subst this; rfl
    · by_cases h8 : 8 < us.length
      · exact .inr (.inl h8)
      · by_cases f0 : f < 0
        · exact .inr (.inr (.inl f0))
        · by_cases f9 : 239 < f
          · exact .inr (.inr (.inr f9))
          · exact (hh ⟨⟨by omega, by omega⟩, by omega, by omega⟩).elim
theorem memI_nat11 {us : List Bool} {f : Nat} (h : upOk us) (hf : f ≤ 239) : memI us (f : Int) = memP us f := by
  unfold memI
  rw [if_pos ⟨h, by omega, by omega⟩]
  simp
theorem scoreOf_nat {f m : Nat} (hf : f ≤ 239) (hm : m ≤ 7) (w : World) : Calls Try.prog 22 #[.int .i64 (f : Int), .int .i64 (m : Int)] w fun e w' => e = .returned (.int .i64 (scoreM f m : Int)) ∧ w = w' := implScoreOf_r (scoreI_nat hf hm)

set_option maxRecDepth 100000 in
set_option maxHeartbeats 8000000 in
theorem walk_FnMember {A A' : Option Addr} {n c n' c' : Nat} {zs zs' : List Int} {w : World} (h : Has w A n (ints .u8 zs)) (hwf : ∀ z ∈ zs, (Lit.int .u8 z).wf = true) (hc : n ≤ c ∧ c ≤ maxLen) (h' : Has w A' n' (ints .u8 zs')) (hwf' : ∀ z ∈ zs', (Lit.int .u8 z).wf = true) (hc' : n' ≤ c' ∧ c' ≤ maxLen) :
    Calls Try.prog 4 #[.slice A n c, .slice A' n' c'] w fun e w' => e = .returned (.bool true) ∧ Below w.heap.size w w' := by
  have hu : U8s zs := fun z hz => u8_of_wf (hwf z hz)
  have hu' : U8s zs' := fun z hz => u8_of_wf (hwf' z hz)
  clear hwf hwf'
  by_cases hn : n ≤ 1048576
  rotate_left
  · go_enter Try.func4, Try.ntmps4
    go_wp2
    go_ret
    exact ⟨rfl, Below.refl _ _⟩
  by_cases hn' : n' ≤ 1048576
  rotate_left
  · go_enter Try.func4, Try.ntmps4
    go_wp2
    go_ret
    exact ⟨rfl, Below.refl _ _⟩
  go_enter Try.func4, Try.ntmps4
  go_wp2_with (fail)
  refine (drawMemberFor_any h hu hc).mono ?_
  rintro e w1 hX
  unfold BoolsN at hX
  obtain ⟨A1, n1, c1, us, fl, rfl, H1, hn1, hfl, B1⟩ := hX
  have s1 := B1.size
  have HL := Lib.hid (has_bools_len H1)
  obtain ⟨r, hr⟩ : ∃ r, memI us fl = r := ⟨_, rfl⟩
  have rB : (r != r) = false := by simp
  go_wp2_with (fail)
  refine (implMemberFor_r H1 (by omega) hr).mono ?_
  rintro e w' ⟨rfl, rfl⟩
  go_wp2_with (fail)
  refine (specMemberFor_r H1 (by omega) hr).mono ?_
  rintro e w' ⟨rfl, rfl⟩
  go_wp2_with (fail)
  refine (drawScoreOf_any (h'.bel B1) hu' hc').mono ?_
  rintro e w2 hX
  unfold NumsF at hX
  obtain ⟨a, b, rfl, _, _, B2⟩ := hX
  have C2 := bel_trans B1 B2
  have H2 := H1.bel B2
  obtain ⟨q, hq⟩ : ∃ q, scoreI a b = q := ⟨_, rfl⟩
  have qB : (q != q) = false := by simp
  go_wp2_with (fail)
  refine (implScoreOf_r hq).mono ?_
  rintro e w' ⟨rfl, rfl⟩
  go_wp2_with (fail)
  refine (specScoreOf_r hq).mono ?_
  rintro e w' ⟨rfl, rfl⟩
  clear hq B1 B2 H1
  by_cases hneg : r < 0
  · obtain ⟨hr1, hr2⟩ := mem_neg (us := us) (f := fl) (by rw [hr]; exact hneg)
    obtain rfl : r = -1 := by rw [← hr]; exact hr1
    have HR2 := Lib.hid hr2
    clear hr hr1 hr2 hneg
    go_wp2
    go_loop [10, 48] (fun s i => ∃ k : Nat, k ≤ n1 ∧ i = .int .i64 (k : Int) ∧ s = .bool (someTo us k)) (fun _ i => n1 - (intOf i).toNat)
    case atStart => exact ⟨0, Nat.zero_le _, rfl, rfl⟩
    case round =>
      obtain ⟨k, hk, rfl, rfl⟩ := hrel
      by_cases hlt : k < n1
      · have hltB : decide ((k : Int) < (n1 : Int)) = true := by simp; omega
        have hk0 : (0 : Int) ≤ (k : Int) := by omega
        have hk1 : (k : Int) < (n1 : Int) := by omega
        obtain ⟨b, o, rfl, hbl, hcu⟩ := has_bool H2 hlt
        have HT := Lib.hid (someTo_succ' (us := us) (show k < us.length by rw [HL.out]; exact hlt))
        generalize us.getD k false = u at *
        generalize someTo us k = s at *
        cases s <;> cases u <;>
        · go_wp2
          go_round
          case rel => exact ⟨k + 1, by omega, by go_num, by rw [HT.out]; rfl⟩
          case measure => simp [intOf]; omega
      · have hltB : decide ((k : Int) < (n1 : Int)) = false := by simp; omega
        obtain rfl : k = n1 := by omega
        have hr2 := HR2.out
        rw [HL.out] at hr2
        generalize someTo us k = s at *
        cases s
        · clear hr2
          go_wp2
          go_ret
          exact ⟨rfl, C2⟩
        · by_cases h8 : 8 < k
          · have e1 : decide ((k : Int) > 8) = true := by simp; omega
            have e2 : decide ((8 : Int) < (k : Int)) = true := by simp; omega
            have e3 : decide (8 < k) = true := by simp; omega
            clear hr2
            go_wp2
            go_ret
            exact ⟨rfl, C2⟩
          · have e1 : decide ((k : Int) > 8) = false := by simp; omega
            have e2 : decide ((8 : Int) < (k : Int)) = false := by simp; omega
            have e3 : decide (8 < k) = false := by simp; omega
            by_cases f0 : fl < 0
            · have e4 : decide (fl < 0) = true := by simp; omega
              clear hr2
              go_wp2
              go_ret
              exact ⟨rfl, C2⟩
            · have e4 : decide (fl < 0) = false := by simp; omega
              have f9 : 239 < fl := by
                rcases hr2 with h1 | h1 | h1 | h1
                · cases h1
                · exact (h8 h1).elim
                · exact (f0 h1).elim
                · exact h1
              have e5 : decide (fl > 239) = true := by simp; omega
              have e6 : decide (239 < fl) = true := by simp; omega
              clear hr2 f9 f0 h8
              go_wp2
              go_ret
              exact ⟨rfl, C2⟩
  · have hrange : upOk us ∧ 0 ≤ fl ∧ fl ≤ 239 := by
      unfold memI at hr
      split at hr
      · assumption
      · omega
    obtain ⟨F, rfl⟩ := Int.eq_ofNat_of_zero_le hrange.2.1
    have hF : F ≤ 239 := by omega
    rw [memI_nat11 hrange.1 hF] at hr
    have hn8 : n1 ≤ 8 := by have := hrange.1.2; rw [HL.out] at this; exact this
    obtain ⟨j, rfl⟩ := Int.eq_ofNat_of_zero_le (show 0 ≤ r by omega)
    have hbest := best_to us F us.length
    change Best us F us.length (memP us F) at hbest
    rw [hr, HL.out] at hbest
    have hbj : j < n1 ∧ us.getD j false = true ∧ ∀ i : Nat, i < n1 → us.getD i false = true → scoreM F i < scoreM F j ∨ (scoreM F i = scoreM F j ∧ j ≤ i) := by
      rcases hbest with ⟨h1, _⟩ | ⟨j2, h1, h2, h3, h4⟩
      · omega
      · obtain rfl : j = j2 := by omega
        exact ⟨h2, h3, h4⟩
    obtain ⟨hj, huj, hall⟩ := hbj
    have HA := Lib.hid hall
    have HUJ := Lib.hid huj
    have hj7 : j ≤ 7 := by omega
    have j0 : decide ((j : Int) < 0) = false := by simp
    have j1 : decide ((j : Int) ≥ 0) = true := by simp
    have j2 : decide ((0 : Int) ≤ (j : Int)) = true := by simp
    have hj0 : (0 : Int) ≤ (j : Int) := by omega
    have hj1 : (j : Int) < (n1 : Int) := by omega
    clear hneg hr hbest hall huj hrange
    go_wp2
    go_loop [10, 48] (fun s i => ∃ k : Nat, k ≤ n1 ∧ i = .int .i64 (k : Int) ∧ s = .bool (someTo us k)) (fun _ i => n1 - (intOf i).toNat)
    case atStart => exact ⟨0, Nat.zero_le _, rfl, rfl⟩
    case round =>
      obtain ⟨k, hk, rfl, rfl⟩ := hrel
      by_cases hlt : k < n1
      · have hltB : decide ((k : Int) < (n1 : Int)) = true := by simp; omega
        have hk0 : (0 : Int) ≤ (k : Int) := by omega
        have hk1 : (k : Int) < (n1 : Int) := by omega
        have hk7 : k ≤ 7 := by omega
        obtain ⟨b, o, rfl, hbl, hcu⟩ := has_bool H2 hlt
        have HT := Lib.hid (someTo_succ' (us := us) (show k < us.length by rw [HL.out]; exact hlt))
        have HAk := Lib.hid (HA.out k hlt)
        generalize us.getD k false = u at *
        generalize someTo us k = s at *
        cases u
        · cases s <;>
          · go_wp2
            go_round
            case rel => exact ⟨k + 1, by omega, by go_num, by rw [HT.out]; rfl⟩
            case measure => simp [intOf]; omega
        · have hk2 := HAk.out rfl
          have g0 : decide ((scoreM F k : Int) > (scoreM F j : Int)) = false := by simp; omega
          have g1 : decide ((scoreM F j : Int) < (scoreM F k : Int)) = false := by simp; omega
          have g2 : decide (scoreM F j < scoreM F k) = false := by simp; omega
          by_cases he : scoreM F k = scoreM F j
          · have e0 : ((scoreM F k : Int) == (scoreM F j : Int)) = true := by simp [he]
            have e1 : (scoreM F k == scoreM F j) = true := by simp [he]
            have l0 : decide ((k : Int) < (j : Int)) = false := by simp; omega
            have l1 : decide (k < j) = false := by simp; omega
            clear hk2 he
            cases s <;>
            · go_wp2_with (go_at_call 22; refine (scoreOf_nat (by omega) (by omega) _).mono ?_; rintro e w' ⟨rfl, rfl⟩)
              go_round
              case rel => exact ⟨k + 1, by omega, by go_num, by rw [HT.out]; rfl⟩
              case measure => simp [intOf]; omega
          · have e0 : ((scoreM F k : Int) == (scoreM F j : Int)) = false := by simp; omega
            have e1 : (scoreM F k == scoreM F j) = false := by simp [he]
            clear hk2 he
            cases s <;>
            · go_wp2_with (go_at_call 22; refine (scoreOf_nat (by omega) (by omega) _).mono ?_; rintro e w' ⟨rfl, rfl⟩)
              go_round
              case rel => exact ⟨k + 1, by omega, by go_num, by rw [HT.out]; rfl⟩
              case measure => simp [intOf]; omega
      · have hltB : decide ((k : Int) < (n1 : Int)) = false := by simp; omega
        obtain rfl : k = n1 := by omega
        obtain ⟨b, o, rfl, hbl, hcu⟩ := has_bool H2 hj
        rw [HUJ.out] at hcu
        go_wp2
        go_ret
        exact ⟨rfl, C2⟩
set_option maxRecDepth 100000 in
theorem lifted_FnMember (os : Os) (started : os.Started) (H : Type) (enc : TypeId × Value → H) :
    ReturnsInHanded {} Try.checked os 4 .any (Rows.fnMemberSpec.pre6 enc Try.prog Try.f4 Rows.fnMemberRow.domain false) (Rows.fnMemberSpec.post enc Try.prog Try.f4 false true false false) := by
  refine returnsInHanded_of_change (C := Try.checked) (by kernel_rfl) started (by kernel_rfl) Try.func4
    (ChangeSpec.witness6 (enc := enc) (C := Try.checked) false ⟨#[], #[.slice none 0 0, .slice none 0 0], []⟩ 8 (by kernel_rfl) (by kernel_rfl) (by kernel_rfl) (by kernel_rfl)) ?_
  intro W base args ds gs before hval0 hW hcnd _
  have hval : ∀ (j : Nat) t v, Try.f4.params[j]? = some t → args[j]? = some v → Value.okWide Try.prog W .any base t v := hval0
  have hW' := hW
  obtain ⟨p, q, hA0, hV, rfl, hfz, hnd⟩ := hW
  have hA : DataW.TrodAll enc Try.prog W 0 (fun _ => true) true Try.f4.params.toList args.toList ds p := hA0
  rw [Try.params4] at hA hval
  obtain ⟨v0, vs0, d0, ds0, p0, q0, hargs, rfl, rfl, h0, r0⟩ := trodAll_cons hA
  obtain ⟨v1, vs1, d1, ds1, p1, q1, rfl, rfl, rfl, h1, r1⟩ := trodAll_cons r0
  obtain ⟨rfl, rfl, rfl⟩ := trodAll_nil r1
  obtain rfl : args = #[v0, v1] := by cases args; simp_all
  obtain ⟨rfl, rfl⟩ := trodVars_none hV
  obtain ⟨a0, len0, cap0, rfl⟩ := okWide_slice Try.underlying22 (hval 0 22 v0 rfl rfl)
  have k0 := h0
  have lt0 : ∀ x ∈ p0, x.block < W.heap.size := by obtain ⟨m, hm⟩ := k0; exact DataW.trod_lt m _ _ _ hm
  obtain ⟨z0, H0, U0, M0⟩ := has_of_trod (k := .u8) Try.underlying22 Try.underlying5 (by kernel_rfl) h0
  obtain ⟨a1, len1, cap1, rfl⟩ := okWide_slice Try.underlying22 (hval 1 22 v1 rfl rfl)
  have k1 := h1
  have lt1 : ∀ x ∈ p1, x.block < W.heap.size := by obtain ⟨m, hm⟩ := k1; exact DataW.trod_lt m _ _ _ hm
  obtain ⟨z1, H1, U1, M1⟩ := has_of_trod (k := .u8) Try.underlying22 Try.underlying5 (by kernel_rfl) h1
  clear hA0 hval0
  refine (walk_FnMember H0 U0 M0 H1 U1 M1).mono fun e W' ⟨he, bel⟩ => ?_
  subst he
  exact ⟨_, rfl, _, _, _, [], _, [], hW', trodAll_mk1 (shut_bool Try.underlying4 _), (trodAll_cons_mk (Below.trod (by kernel_rfl) (by kernel_rfl) (of_decide_eq_true (by kernel_rfl)) k0 bel lt0) (trodAll_cons_mk (Below.trod (by kernel_rfl) (by kernel_rfl) (of_decide_eq_true (by kernel_rfl)) k1 bel lt1) trodAll_mk0)), rfl, bel.frame _, fun h => by cases h⟩

theorem fnMember_holds : Rows.FnMemberSaid :=
  OpenClaim.holds_of_wide 4 Try.f4 rfl rfl rfl rfl rfl rfl rfl ⟨rfl, rfl, rfl, rfl, rfl⟩ rfl rfl rfl rfl rfl (by kernel_rfl) Try.func4
    (by unfold joinedFacts; with_reducible refine Bool.and_eq_true_iff.2 ⟨?_, (by as_aux_lemma => kernel_rfl)⟩; with_reducible refine Bool.and_eq_true_iff.2 ⟨?_, (by as_aux_lemma => kernel_rfl)⟩; with_reducible refine Bool.and_eq_true_iff.2 ⟨?_, (by as_aux_lemma => kernel_rfl)⟩; with_reducible refine Bool.and_eq_true_iff.2 ⟨?_, (by as_aux_lemma => kernel_rfl)⟩; with_reducible refine Bool.and_eq_true_iff.2 ⟨?_, (by with_unfolding_all exact shutMake)⟩; with_reducible refine Bool.and_eq_true_iff.2 ⟨?_, (by with_unfolding_all exact shutLifts)⟩; with_reducible refine Bool.and_eq_true_iff.2 ⟨?_, shutEnter⟩; (repeat (with_reducible refine Bool.and_eq_true_iff.2 ⟨?_, (by as_aux_lemma => kernel_rfl)⟩)); as_aux_lemma => kernel_rfl)
    (of_decide_eq_true (by kernel_rfl)) (by unfold Func.isWrapper; first | (rw [if_pos (by decide +kernel)]; kernel_rfl) | (rw [if_neg (by decide +kernel)]; exact ⟨rfl, rfl⟩))
    (fun os started H enc _ => lifted_FnMember os started H enc)
end Go.Proofs.Ytimddobedgopiaa
