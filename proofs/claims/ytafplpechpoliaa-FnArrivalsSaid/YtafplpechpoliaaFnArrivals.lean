/-
  FnArrivals: for every slice of bytes the law returns true and writes nothing that was there. No condition.
-/
import Derived.Test.YtafplpechpoliaaImp4
import Derived.Test.YtafplpechpoliaaDrawFates
import Derived.Test.YtafplpechpoliaaWnInts
namespace Go.Proofs.Ytafplpechpoliaa
open Go.RowKit Go.ChangeShapes Go.WideShapes Go.ChangeAt

theorem count_snoc (es : List Int) (k : Nat) (x y : Int) (h : es[k]? = some x) : (es.take (k + 1)).count y = (es.take k).count y + (if x = y then 1 else 0) := by
  rw [List.take_add_one, h, List.count_append]
  by_cases hx : x = y
  · subst hx; simp
  · rw [if_neg hx]
    have : (x == y) = false := by simp [hx]
    simp [List.count_cons, this]

set_option maxHeartbeats 8000000 in
set_option maxRecDepth 100000 in
theorem walk_FnArrivals {A0 : Option Addr} {n0 c0 : Nat} {zs0 : List Int} {w : World} (h0 : Has w A0 n0 (ints .u8 zs0)) (hwf0 : ∀ z ∈ zs0, (Lit.int .u8 z).wf = true) (hc0 : n0 ≤ c0 ∧ c0 ≤ maxLen) :
    Calls Try.prog 3 #[.slice A0 n0 c0] w fun e w' => e = .returned (.bool true) ∧ Below w.heap.size w w' := by
  have hu0 : U8s zs0 := fun z hz => u8_of_wf (hwf0 z hz)
  clear hwf0
  by_cases hn0 : n0 ≤ 1048576
  · go_enter Try.func3, Try.ntmps3
    go_wp2_with (fail)
    refine (drawArrivalsOf_any h0 hu0 hc0).mono ?_
    rintro e w1 h
    unfold FatN at h
    obtain ⟨A1, n1, c1, fs, v, rfl, O1, hf, hn1, v0, v1, B1⟩ := h
    have HC := Lib.hid O1.cap
    go_wp2_with (fail)
    refine (implArrivalsOf_any O1.has hf.i64s (by omega) HC.out (by omega)).mono ?_
    rintro e w2 ⟨A2, n2, c2, rfl, O2, B2⟩
    have C2 := bel_trans B1 B2
    have P2 := O1.bel B2
    have hn2 : n2 ≤ 120 := by have q1 := O2.has.len; have q2 := arrI_120 fs v; omega
    go_wp2_with (fail)
    refine (specArrivalsOf_any P2.has hf.i64s (by omega) HC.out (by omega)).mono ?_
    rintro e w3 ⟨A3, n3, c3, rfl, O3, B3⟩
    have C3 := bel_trans C2 B3
    have P3 := P2.bel B3
    have Q3 := O2.bel B3
    go_wp2_with (fail)
    refine (wnInts_same Q3.has O3.has (by omega)).mono ?_
    rintro e w4 ⟨rfl, B4⟩
    have C4 := bel_trans C3 B4
    have P4 := P3.bel B4
    have Q4 := Q3.bel B4
    go_wp2_with (fail)
    refine (implFatesValid_any P4.has hf.i64s (by omega) HC.out).mono ?_
    rintro e w5 ⟨rfl, B5⟩
    have C5 := bel_trans C4 B5
    have P5 := P4.bel B5
    have Q5 := Q4.bel B5
    by_cases hg : fOk fs
    · rw [decide_eq_true hg]
      by_cases h1 : 0 ≤ v
      · by_cases h6 : v ≤ 60
        · obtain ⟨m, rfl⟩ := Int.eq_ofNat_of_zero_le h1
          have hm : m ≤ 60 := by omega
          have h1B : decide ((m : Int) < 0) = false := by simp
          have h6B : decide ((60 : Int) < (m : Int)) = false := by simp; omega
          have hae : arrI fs (m : Int) = arrF fs m := by unfold arrI; rw [if_pos ⟨hg, h1, h6⟩]; rfl
          have HCT : ∀ k : Nat, k < m → (arrI fs (m : Int)).count (k : Int) = wantN fs k := fun k hk => by rw [hae]; exact count_arrF fs m k hk
          have HCH := Lib.hid HCT
          have HLN := Lib.hid Q5.has.len
          have HF : ∀ (k : Nat) (W : World), k ≤ 100000 → Below w5.heap.size w5 W → Calls Try.prog 22 #[.slice A1 n1 c1, .int .i64 (k : Int)] W fun e w' => e = .returned (.int .i64 (fateN fs k)) ∧ Below W.heap.size W w' := fun k W hk hW => by
            have := implFateOf_any (i := (k : Int)) (P5.bel hW).has hf.i64s (by omega) HC.out (by omega)
            rwa [fateI_yes hg k] at this
          have HFH := Lib.hid HF
          clear HF hae HCT hg h1 h6
          generalize arrI fs (m : Int) = es at *
          go_wp2
          obtain ⟨wo, rfl⟩ : ∃ wo : World, wo = w5 := ⟨_, rfl⟩
          go_loopw [54] (fun i wr => ∃ k : Nat, k ≤ m ∧ i = .int .i64 ((k : Nat) : Int) ∧ Below wo.heap.size wo wr) (fun i _ => m - (intOf i).toNat)
          case atStart => exact ⟨0, Nat.zero_le _, rfl, Below.refl _ _⟩
          case round =>
            obtain ⟨k, hk, rfl, B6⟩ := hrel
            by_cases hlt : k < m
            · have hltB : decide ((k : Int) < (m : Int)) = true := by simp; omega
              have CF := Lib.hid (HFH.out k wr (by omega) B6)
              have HW : Hid (es.count (k : Int) = if fateN fs k = 1 then 0 else if fateN fs k = 2 then 2 else 1) := HCH.out k hlt
              generalize fateN fs k = f at *
              have Q6 := (Q5.bel B6).has
              go_wp2
              go_loop [7, 59] (fun t j => ∃ q : Nat, q ≤ n2 ∧ j = .int .i64 ((q : Nat) : Int) ∧ t = .int .i64 (((es.take q).count (k : Int) : Nat) : Int)) (fun _ j => n2 - (intOf j).toNat)
              case atStart => exact ⟨0, Nat.zero_le _, rfl, by simp⟩
              case round =>
                obtain ⟨q, hq, rfl, rfl⟩ := hrel
                have hcq : (es.take q).count (k : Int) ≤ 120 := by have h1 := List.count_le_length (a := (k : Int)) (l := es.take q); rw [List.length_take] at h1; omega
                by_cases hlq : q < n2
                · have hlqB : decide ((q : Int) < (n2 : Int)) = true := by simp; omega
                  obtain ⟨b, o, x, rfl, hbl, hx, hc⟩ := Q6.at_ hlq
                  have HS := Lib.hid (count_snoc es q x (k : Int) hx)
                  clear hx
                  generalize (es.take q).count (k : Int) = y at *
                  by_cases hxk : x = (k : Int)
                  · have hxB : (x == (k : Int)) = true := by simp [hxk]
                    have HS2 : Hid ((es.take (q + 1)).count (k : Int) = y + 1) := by have := HS.out; rw [if_pos hxk] at this; exact this
                    clear hxk
                    go_wp2
                    go_round
                    case rel => exact ⟨q + 1, by omega, by go_num, by rw [HS2.out]; go_num⟩
                    case measure => simp [intOf]; omega
                  · have hxB : (x == (k : Int)) = false := by simp [hxk]
                    have HS2 : Hid ((es.take (q + 1)).count (k : Int) = y) := by have := HS.out; rw [if_neg hxk] at this; exact this
                    clear hxk
                    go_wp2
                    go_round
                    case rel => exact ⟨q + 1, by omega, by go_num, by rw [HS2.out]⟩
                    case measure => simp [intOf]; omega
                · have hlqB : decide ((q : Int) < (n2 : Int)) = false := by simp; omega
                  obtain rfl : q = n2 := by omega
                  have hall : (es.take q).count (k : Int) = es.count (k : Int) := by rw [List.take_of_length_le (by have := HLN.out; omega)]
                  have HW2 : Hid ((es.take q).count (k : Int) = if f = 1 then 0 else if f = 2 then 2 else 1) := hall.trans HW.out
                  clear hall
                  generalize (es.take q).count (k : Int) = y at *
                  by_cases f1 : f = 1
                  · have f1B : (f == 1) = true := by simp [f1]
                    obtain rfl : y = 0 := HW2.out.trans (if_pos f1)
                    clear f1
                    go_wp2_with (fail)
                    refine CF.out.mono ?_
                    rintro e w7 ⟨rfl, B7⟩
                    go_wp2
                    go_roundw
                    case rel => exact ⟨k + 1, by omega, by go_num, bel_trans B6 B7⟩
                    case measure => simp [intOf]; omega
                  · have f1B : (f == 1) = false := by simp [f1]
                    by_cases f2 : f = 2
                    · have f2B : (f == 2) = true := by simp [f2]
                      obtain rfl : y = 2 := (HW2.out.trans (if_neg f1)).trans (if_pos f2)
                      clear f1 f2
                      go_wp2_with (fail)
                      refine CF.out.mono ?_
                      rintro e w7 ⟨rfl, B7⟩
                      go_wp2
                      go_roundw
                      case rel => exact ⟨k + 1, by omega, by go_num, bel_trans B6 B7⟩
                      case measure => simp [intOf]; omega
                    · have f2B : (f == 2) = false := by simp [f2]
                      obtain rfl : y = 1 := (HW2.out.trans (if_neg f1)).trans (if_neg f2)
                      clear f1 f2
                      go_wp2_with (fail)
                      refine CF.out.mono ?_
                      rintro e w7 ⟨rfl, B7⟩
                      go_wp2
                      go_roundw
                      case rel => exact ⟨k + 1, by omega, by go_num, bel_trans B6 B7⟩
                      case measure => simp [intOf]; omega
            · have hltB : decide ((k : Int) < (m : Int)) = false := by simp; omega
              go_wp2
              go_ret
              exact ⟨rfl, bel_trans C5 B6⟩
        · have h1B : decide (v < 0) = false := by simp; omega
          have h6B : decide ((60 : Int) < v) = true := by simp; omega
          clear hg
          go_wp2_with (fail)
          refine (specArrivalsOf_any P5.has hf.i64s (by omega) HC.out (by omega)).mono ?_
          rintro e v1 ⟨A6, n6, c6, rfl, O6, D1⟩
          have E1 := bel_trans C5 D1
          have F1 := P5.bel D1
          go_wp2_with (fail)
          refine (wnInts_same (Q5.bel D1).has O6.has (by omega)).mono ?_
          rintro e v2 ⟨rfl, D2⟩
          have E2 := bel_trans E1 D2
          have F2 := F1.bel D2
          go_wp2_with (fail)
          refine (implFatesValid_any F2.has hf.i64s (by omega) HC.out).mono ?_
          rintro e v3 ⟨rfl, D3⟩
          have E3 := bel_trans E2 D3
          have F3 := F2.bel D3
          go_wp2_with (fail)
          refine (specFatesValid_any F3.has hf.i64s (by omega) HC.out).mono ?_
          rintro e v4 ⟨rfl, D4⟩
          go_wp2
          go_ret
          exact ⟨rfl, bel_trans E3 D4⟩
      · have h1B : decide (v < 0) = true := by simp; omega
        clear hg
        go_wp2_with (fail)
        refine (specArrivalsOf_any P5.has hf.i64s (by omega) HC.out (by omega)).mono ?_
        rintro e v1 ⟨A6, n6, c6, rfl, O6, D1⟩
        have E1 := bel_trans C5 D1
        have F1 := P5.bel D1
        go_wp2_with (fail)
        refine (wnInts_same (Q5.bel D1).has O6.has (by omega)).mono ?_
        rintro e v2 ⟨rfl, D2⟩
        have E2 := bel_trans E1 D2
        have F2 := F1.bel D2
        go_wp2_with (fail)
        refine (implFatesValid_any F2.has hf.i64s (by omega) HC.out).mono ?_
        rintro e v3 ⟨rfl, D3⟩
        have E3 := bel_trans E2 D3
        have F3 := F2.bel D3
        go_wp2_with (fail)
        refine (specFatesValid_any F3.has hf.i64s (by omega) HC.out).mono ?_
        rintro e v4 ⟨rfl, D4⟩
        go_wp2
        go_ret
        exact ⟨rfl, bel_trans E3 D4⟩
    · rw [decide_eq_false hg]
      clear hg
      go_wp2_with (fail)
      refine (specArrivalsOf_any P5.has hf.i64s (by omega) HC.out (by omega)).mono ?_
      rintro e v1 ⟨A6, n6, c6, rfl, O6, D1⟩
      have E1 := bel_trans C5 D1
      have F1 := P5.bel D1
      go_wp2_with (fail)
      refine (wnInts_same (Q5.bel D1).has O6.has (by omega)).mono ?_
      rintro e v2 ⟨rfl, D2⟩
      have E2 := bel_trans E1 D2
      have F2 := F1.bel D2
      go_wp2_with (fail)
      refine (implFatesValid_any F2.has hf.i64s (by omega) HC.out).mono ?_
      rintro e v3 ⟨rfl, D3⟩
      have E3 := bel_trans E2 D3
      have F3 := F2.bel D3
      go_wp2_with (fail)
      refine (specFatesValid_any F3.has hf.i64s (by omega) HC.out).mono ?_
      rintro e v4 ⟨rfl, D4⟩
      go_wp2
      go_ret
      exact ⟨rfl, bel_trans E3 D4⟩
  · go_enter Try.func3, Try.ntmps3
    go_wp2
    go_ret
    exact ⟨rfl, Below.refl _ _⟩
set_option maxRecDepth 100000 in
theorem lifted_FnArrivals (os : Os) (started : os.Started) (H : Type) (enc : TypeId × Value → H) :
    ReturnsInHanded {} Try.checked os 3 .any (Rows.fnArrivalsSpec.pre6 enc Try.prog Try.f3 Rows.fnArrivalsRow.domain false) (Rows.fnArrivalsSpec.post enc Try.prog Try.f3 false true false false) := by
  refine returnsInHanded_of_change (C := Try.checked) (by kernel_rfl) started (by kernel_rfl) Try.func3
    (ChangeSpec.witness6 (enc := enc) (C := Try.checked) false ⟨#[], #[.slice none 0 0], []⟩ 8 (by kernel_rfl) (by kernel_rfl) (by kernel_rfl) (by kernel_rfl)) ?_
  intro W base args ds gs before hval0 hW hcnd _
  have hval : ∀ (j : Nat) t v, Try.f3.params[j]? = some t → args[j]? = some v → Value.okWide Try.prog W .any base t v := hval0
  have hW' := hW
  obtain ⟨p, q, hA0, hV, rfl, hfz, hnd⟩ := hW
  have hA : DataW.TrodAll enc Try.prog W 0 (fun _ => true) true Try.f3.params.toList args.toList ds p := hA0
  rw [Try.params3] at hA hval
  obtain ⟨v0, vs0, d0, ds0, p0, q0, hargs, rfl, rfl, h0, r0⟩ := trodAll_cons hA
  obtain ⟨rfl, rfl, rfl⟩ := trodAll_nil r0
  obtain rfl : args = #[v0] := by cases args; simp_all
  obtain ⟨rfl, rfl⟩ := trodVars_none hV
  obtain ⟨a0, len0, cap0, rfl⟩ := okWide_slice Try.underlying22 (hval 0 22 v0 rfl rfl)
  have k0 := h0
  have lt0 : ∀ x ∈ p0, x.block < W.heap.size := by obtain ⟨m, hm⟩ := k0; exact DataW.trod_lt m _ _ _ hm
  obtain ⟨z0, H0, U0, M0⟩ := has_of_trod (k := .u8) Try.underlying22 Try.underlying5 (by kernel_rfl) h0
  clear hA0 hval0
  refine (walk_FnArrivals H0 U0 M0).mono fun e W' ⟨he, bel⟩ => ?_
  subst he
  exact ⟨_, rfl, _, _, _, [], _, [], hW', trodAll_mk1 (shut_bool Try.underlying4 _), (trodAll_cons_mk (Below.trod (by kernel_rfl) (by kernel_rfl) (of_decide_eq_true (by kernel_rfl)) k0 bel lt0) trodAll_mk0), rfl, bel.frame _, fun h => by cases h⟩

theorem fnArrivals_holds : Rows.FnArrivalsSaid :=
  OpenClaim.holds_of_wide 3 Try.f3 rfl rfl rfl rfl rfl rfl rfl ⟨rfl, rfl, rfl, rfl, rfl⟩ rfl rfl rfl rfl rfl (by kernel_rfl) Try.func3 (by kernel_rfl)
    (of_decide_eq_true (by kernel_rfl)) (by unfold Func.isWrapper; first | (rw [if_pos (by decide +kernel)]; kernel_rfl) | (rw [if_neg (by decide +kernel)]; exact ⟨rfl, rfl⟩))
    (fun os started H enc _ => lifted_FnArrivals os started H enc)
end Go.Proofs.Ytafplpechpoliaa
