/-
  FnDistance: for every two slices of bytes the law returns true and writes nothing that was there. No condition.
-/
import Derived.Test.YtofbjpcmiohhpaaMath1
import Derived.Test.YtofbjpcmiohhpaaDraw1d
namespace Go.Proofs.Ytofbjpcmiohhpaa
open Go.RowKit Go.ChangeShapes Go.WideShapes Go.ChangeAt

theorem str_ne (xs ys : List Int) (hx : U8s xs) (hy : U8s ys) (h : ¬ xs = ys) : ((strOfNums xs).toList == (strOfNums ys).toList) = false ∧ ¬ (strOfNums xs).toList = (strOfNums ys).toList := by
  have h1 : ¬ (strOfNums xs).toList = (strOfNums ys).toList := fun e => by
    rw [ByteArray.toList_eq, ByteArray.toList_eq] at e
    exact h (str_inj xs ys hx hy (by rw [← ByteArray.toList_mk (strOfNums xs).data.toList] at e; unfold strOfNums at *; simpa using e))
  exact ⟨beq_eq_false_iff_ne.2 h1, h1⟩

set_option maxHeartbeats 8000000 in
set_option maxRecDepth 100000 in
theorem walk_FnDistance {A0 : Option Addr} {n0 c0 : Nat} {zs0 : List Int} {A1 : Option Addr} {n1 c1 : Nat} {zs1 : List Int} {w : World} (h0 : Has w A0 n0 (ints .u8 zs0)) (hwf0 : ∀ z ∈ zs0, (Lit.int .u8 z).wf = true) (hc0 : n0 ≤ c0 ∧ c0 ≤ maxLen) (h1 : Has w A1 n1 (ints .u8 zs1)) (hwf1 : ∀ z ∈ zs1, (Lit.int .u8 z).wf = true) (hc1 : n1 ≤ c1 ∧ c1 ≤ maxLen) :
    Calls Try.prog 6 #[.slice A0 n0 c0, .slice A1 n1 c1] w fun e w' => e = .returned (.bool true) ∧ Below w.heap.size w w' := by
  have hu0 : U8s zs0 := fun z hz => u8_of_wf (hwf0 z hz)
  have hu1 : U8s zs1 := fun z hz => u8_of_wf (hwf1 z hz)
  clear hwf0 hwf1
  by_cases hn0 : n0 ≤ 1048576
  · by_cases hn1 : n1 ≤ 1048576
    · go_enter Try.func6, Try.ntmps6
      go_wp2_with (fail)
      refine (drawDistance_any h0 hu0 hc0).mono ?_
      rintro e w1 ⟨Aa, na, ca, xs, Ab, nb, cb, ys, rfl, Oa, ha, hna, Ob, hb, hnb, B1⟩
      go_wp2_with (fail)
      refine (drawDistance_any (h1.bel B1) hu1 hc1).mono ?_
      rintro e w2 ⟨Ac, nc, cc, zs, Ad, nd, cd, ds, rfl, Oc, hc, hnc, _, _, _, B2⟩
      have C2 := bel_trans B1 B2
      replace Oa := Oa.bel B2
      replace Ob := Ob.bel B2
      have la := Oa.has.len
      have d1 := dist_sym xs ys
      have d2 := dist_zero xs ys ha hb
      have d3 := dist_tri xs ys zs
      have hN := dist_ge xs ys
      have hP := dist_ge xs zs
      have hQ := dist_ge zs ys
      have D1 := Lib.hid d1
      have D2 := Lib.hid d2
      have D3 := Lib.hid d3
      have LA := Lib.hid la
      clear d1 d2 d3 la
      go_wp2_with (fail)
      refine (implDistance_any Oa.has ha (by omega) Ob.has hb (by omega)).mono ?_
      rintro e w3 ⟨rfl, B3⟩
      replace C2 := bel_trans C2 B3
      replace Oa := Oa.bel B3
      replace Ob := Ob.bel B3
      replace Oc := Oc.bel B3
      go_wp2_with (fail)
      refine (specDistance_any Oa.has ha (by omega) Ob.has hb (by omega)).mono ?_
      rintro e w4 ⟨rfl, B4⟩
      replace C2 := bel_trans C2 B4
      replace Oa := Oa.bel B4
      replace Ob := Ob.bel B4
      replace Oc := Oc.bel B4
      go_wp2_with (fail)
      refine (implDistance_any Ob.has hb (by omega) Oa.has ha (by omega)).mono ?_
      rw [D1.out]
      rintro e w5 ⟨rfl, B5⟩
      replace C2 := bel_trans C2 B5
      replace Oa := Oa.bel B5
      replace Ob := Ob.bel B5
      replace Oc := Oc.bel B5
      have s1 := run_str (dst := 9) (c := ca) Try.underlying22 Try.underlying5 Try.underlying9 Oa.has
      have s2 := run_str (dst := 9) (c := cb) Try.underlying22 Try.underlying5 Try.underlying9 Ob.has
      have l5 := Oa.has.len
      by_cases hxy : xs = ys
      · by_cases hd : na ≤ 600
        · have q1 : (distOf xs ys == 0) = true := by simp; exact D2.out.2 ⟨hxy, by omega⟩
          have q2 : decide ((na : Int) ≤ 600) = true := by simp; omega
          have q3 : ((strOfNums xs).toList == (strOfNums ys).toList) = true := by rw [hxy]; simp
          have q4 : (strOfNums xs).toList = (strOfNums ys).toList := by rw [hxy]
          have Q1 := Lib.hid hxy
          clear hxy l5
          go_wp2_with (fail)
          refine (implDistance_any Oa.has ha (by omega) Oc.has hc (by omega)).mono ?_
          rintro e w6 ⟨rfl, B6⟩
          replace C2 := bel_trans C2 B6
          replace Oa := Oa.bel B6
          replace Ob := Ob.bel B6
          replace Oc := Oc.bel B6
          go_wp2_with (fail)
          refine (implDistance_any Oc.has hc (by omega) Ob.has hb (by omega)).mono ?_
          rintro e w7 ⟨rfl, B7⟩
          replace C2 := bel_trans C2 B7
          replace Oa := Oa.bel B7
          replace Ob := Ob.bel B7
          replace Oc := Oc.bel B7
          go_wp2_with (fail)
          refine (specDistance_any Oa.has ha (by omega) Oc.has hc (by omega)).mono ?_
          rintro e w8 ⟨rfl, B8⟩
          replace C2 := bel_trans C2 B8
          replace Ob := Ob.bel B8
          replace Oc := Oc.bel B8
          go_wp2_with (fail)
          refine (specDistance_any Oc.has hc (by omega) Ob.has hb (by omega)).mono ?_
          rintro e w9 ⟨rfl, B9⟩
          replace C2 := bel_trans C2 B9
          clear q1 q3 q4
          have T := D3.out
          generalize distOf xs ys = N at *
          generalize distOf xs zs = P at *
          generalize distOf zs ys = Q at *
          obtain ⟨n1, n2⟩ := hN
          obtain ⟨p1, p2⟩ := hP
          obtain ⟨r1, r2⟩ := hQ
          by_cases a1 : N < 0
          · clear T
            go_wp2
            go_ret
            exact ⟨rfl, C2⟩
          · by_cases a2 : P < 0
            · clear T
              go_wp2
              go_ret
              exact ⟨rfl, C2⟩
            · by_cases a3 : Q < 0
              · clear T
                go_wp2
                go_ret
                exact ⟨rfl, C2⟩
              · have a4 := T (by omega) (by omega) (by omega)
                clear T
                go_wp2
                go_ret
                exact ⟨rfl, C2⟩
        · have q1 : (distOf xs ys == 0) = false := by simp; exact fun h => hd (by have := (D2.out.1 h).2; omega)
          have q2 : decide ((na : Int) ≤ 600) = false := by simp; omega
          have q3 : ((strOfNums xs).toList == (strOfNums ys).toList) = true := by rw [hxy]; simp
          have q4 : (strOfNums xs).toList = (strOfNums ys).toList := by rw [hxy]
          have Q1 := Lib.hid hxy
          clear hxy l5
          go_wp2_with (fail)
          refine (implDistance_any Oa.has ha (by omega) Oc.has hc (by omega)).mono ?_
          rintro e w6 ⟨rfl, B6⟩
          replace C2 := bel_trans C2 B6
          replace Oa := Oa.bel B6
          replace Ob := Ob.bel B6
          replace Oc := Oc.bel B6
          go_wp2_with (fail)
          refine (implDistance_any Oc.has hc (by omega) Ob.has hb (by omega)).mono ?_
          rintro e w7 ⟨rfl, B7⟩
          replace C2 := bel_trans C2 B7
          replace Oa := Oa.bel B7
          replace Ob := Ob.bel B7
          replace Oc := Oc.bel B7
          go_wp2_with (fail)
          refine (specDistance_any Oa.has ha (by omega) Oc.has hc (by omega)).mono ?_
          rintro e w8 ⟨rfl, B8⟩
          replace C2 := bel_trans C2 B8
          replace Ob := Ob.bel B8
          replace Oc := Oc.bel B8
          go_wp2_with (fail)
          refine (specDistance_any Oc.has hc (by omega) Ob.has hb (by omega)).mono ?_
          rintro e w9 ⟨rfl, B9⟩
          replace C2 := bel_trans C2 B9
          clear q1 q3 q4
          have T := D3.out
          generalize distOf xs ys = N at *
          generalize distOf xs zs = P at *
          generalize distOf zs ys = Q at *
          obtain ⟨n1, n2⟩ := hN
          obtain ⟨p1, p2⟩ := hP
          obtain ⟨r1, r2⟩ := hQ
          by_cases a1 : N < 0
          · clear T
            go_wp2
            go_ret
            exact ⟨rfl, C2⟩
          · by_cases a2 : P < 0
            · clear T
              go_wp2
              go_ret
              exact ⟨rfl, C2⟩
            · by_cases a3 : Q < 0
              · clear T
                go_wp2
                go_ret
                exact ⟨rfl, C2⟩
              · have a4 := T (by omega) (by omega) (by omega)
                clear T
                go_wp2
                go_ret
                exact ⟨rfl, C2⟩
      · have q1 : (distOf xs ys == 0) = false := by simp; exact fun h => hxy (D2.out.1 h).1
        obtain ⟨q3, q4⟩ := str_ne xs ys ha hb hxy
        clear hxy l5
        go_wp2_with (fail)
        refine (implDistance_any Oa.has ha (by omega) Oc.has hc (by omega)).mono ?_
        rintro e w6 ⟨rfl, B6⟩
        replace C2 := bel_trans C2 B6
        replace Oa := Oa.bel B6
        replace Ob := Ob.bel B6
        replace Oc := Oc.bel B6
        go_wp2_with (fail)
        refine (implDistance_any Oc.has hc (by omega) Ob.has hb (by omega)).mono ?_
        rintro e w7 ⟨rfl, B7⟩
        replace C2 := bel_trans C2 B7
        replace Oa := Oa.bel B7
        replace Ob := Ob.bel B7
        replace Oc := Oc.bel B7
        go_wp2_with (fail)
        refine (specDistance_any Oa.has ha (by omega) Oc.has hc (by omega)).mono ?_
        rintro e w8 ⟨rfl, B8⟩
        replace C2 := bel_trans C2 B8
        replace Ob := Ob.bel B8
        replace Oc := Oc.bel B8
        go_wp2_with (fail)
        refine (specDistance_any Oc.has hc (by omega) Ob.has hb (by omega)).mono ?_
        rintro e w9 ⟨rfl, B9⟩
        replace C2 := bel_trans C2 B9
        clear q1 q3 q4
        have T := D3.out
        generalize distOf xs ys = N at *
        generalize distOf xs zs = P at *
        generalize distOf zs ys = Q at *
        obtain ⟨n1, n2⟩ := hN
        obtain ⟨p1, p2⟩ := hP
        obtain ⟨r1, r2⟩ := hQ
        by_cases a1 : N < 0
        · clear T
          go_wp2
          go_ret
          exact ⟨rfl, C2⟩
        · by_cases a2 : P < 0
          · clear T
            go_wp2
            go_ret
            exact ⟨rfl, C2⟩
          · by_cases a3 : Q < 0
            · clear T
              go_wp2
              go_ret
              exact ⟨rfl, C2⟩
            · have a4 := T (by omega) (by omega) (by omega)
              clear T
              go_wp2
              go_ret
              exact ⟨rfl, C2⟩
    · go_enter Try.func6, Try.ntmps6
      go_wp2
      go_ret
      exact ⟨rfl, Below.refl _ _⟩
  · go_enter Try.func6, Try.ntmps6
    go_wp2
    go_ret
    exact ⟨rfl, Below.refl _ _⟩
set_option maxRecDepth 100000 in
theorem lifted_FnDistance (os : Os) (started : os.Started) (H : Type) (enc : TypeId × Value → H) :
    ReturnsInHanded {} Try.checked os 6 .any (Rows.fnDistanceSpec.pre6 enc Try.prog Try.f6 Rows.fnDistanceRow.domain false) (Rows.fnDistanceSpec.post enc Try.prog Try.f6 false true false false) := by
  refine returnsInHanded_of_change (C := Try.checked) (by kernel_rfl) started (by kernel_rfl) Try.func6
    (ChangeSpec.witness6 (enc := enc) (C := Try.checked) false ⟨#[], #[.slice none 0 0, .slice none 0 0], []⟩ 8 (by kernel_rfl) (by kernel_rfl) (by kernel_rfl) (by kernel_rfl)) ?_
  intro W base args ds gs before hval0 hW hcnd _
  have hval : ∀ (j : Nat) t v, Try.f6.params[j]? = some t → args[j]? = some v → Value.okWide Try.prog W .any base t v := hval0
  have hW' := hW
  obtain ⟨p, q, hA0, hV, rfl, hfz, hnd⟩ := hW
  have hA : DataW.TrodAll enc Try.prog W 0 (fun _ => true) true Try.f6.params.toList args.toList ds p := hA0
  rw [Try.params6] at hA hval
  obtain ⟨v0, vs0, d0, ds0, p0, q0, hargs, rfl, rfl, h0, r0⟩ := trodAll_cons hA
  obtain ⟨v1, vs1, d1, ds1, p1, q1, rfl, rfl, rfl, h1, r1⟩ := trodAll_cons r0
  obtain ⟨rfl, rfl, rfl⟩ := trodAll_nil r1
  obtain rfl : args = #[v0, v1] := by cases args; simp_all
  obtain ⟨rfl, rfl⟩ := trodVars_none hV
  obtain ⟨a0, len0, cap0, rfl⟩ := okWide_slice Try.underlying22 (hval 0 22 v0 rfl rfl)
  have k0 := h0
  have lt0 : ∀ x ∈ p0, x.block < W.heap.size := by obtain ⟨m, hm⟩ := k0; exact DataW.trod_lt m _ _ _ hm
  obtain ⟨z0, H0, U0, M0⟩ := has_of_trod (k := .u8) Try.underlying22 Try.underlying5 (by kernel_rfl) h0
  obtain ⟨a1, len1, cap1, rfl⟩ := okWide_slice Try.underlying22 (hval 1 22 v1 rfl rfl)
  have k1 := h1
  have lt1 : ∀ x ∈ p1, x.block < W.heap.size := by obtain ⟨m, hm⟩ := k1; exact DataW.trod_lt m _ _ _ hm
  obtain ⟨z1, H1, U1, M1⟩ := has_of_trod (k := .u8) Try.underlying22 Try.underlying5 (by kernel_rfl) h1
  clear hA0 hval0
  refine (walk_FnDistance H0 U0 M0 H1 U1 M1).mono fun e W' ⟨he, bel⟩ => ?_
  subst he
  exact ⟨_, rfl, _, _, _, [], _, [], hW', trodAll_mk1 (shut_bool Try.underlying4 _), (trodAll_cons_mk (Below.trod (by kernel_rfl) (by kernel_rfl) (of_decide_eq_true (by kernel_rfl)) k0 bel lt0) (trodAll_cons_mk (Below.trod (by kernel_rfl) (by kernel_rfl) (of_decide_eq_true (by kernel_rfl)) k1 bel lt1) trodAll_mk0)), rfl, bel.frame _, fun h => by cases h⟩

theorem fnDistance_holds : Rows.FnDistanceSaid :=
  OpenClaim.holds_of_wide 6 Try.f6 rfl rfl rfl rfl rfl rfl rfl ⟨rfl, rfl, rfl, rfl, rfl⟩ rfl rfl rfl rfl rfl (by kernel_rfl) Try.func6 (by kernel_rfl)
    (of_decide_eq_true (by kernel_rfl)) (by unfold Func.isWrapper; first | (rw [if_pos (by decide +kernel)]; kernel_rfl) | (rw [if_neg (by decide +kernel)]; exact ⟨rfl, rfl⟩))
    (fun os started H enc _ => lifted_FnDistance os started H enc)
end Go.Proofs.Ytofbjpcmiohhpaa
