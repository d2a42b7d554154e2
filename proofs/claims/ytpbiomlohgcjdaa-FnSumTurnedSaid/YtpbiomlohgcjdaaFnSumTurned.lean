/-
  FnSumTurned: for every two slices of bytes the law returns true and writes nothing that was there. No condition.
-/
import Derived.Test.YtpbiomlohgcjdaaDrawSum
import Derived.BigQuiet
namespace Go.Proofs.Ytpbiomlohgcjdaa
open Go.RowKit Go.ChangeShapes Go.WideShapes Go.ChangeAt

theorem u8_wrap {s : Int} (h0 : 0 ≤ s) (h1 : s ≤ 255) : IntKind.u8.wrap s = s := by
  obtain ⟨a, rfl⟩ := Int.eq_ofNat_of_zero_le h0
  simp [IntKind.wrap, IntKind.bits, IntKind.signed]; omega
theorem word_le {zs : List Int} (hu : U8s zs) (a b : Int) (ha : zs[0]? = some a) (hb : zs[1]? = some b) : 256 * a + b ≤ wAll zs := by
  have l0 : 1 < zs.length := (List.getElem?_eq_some_iff.1 hb).1
  have h : ∀ k, 256 * a + b ≤ wTo zs (k + 2) := fun k => by
    induction k with
    | zero =>
      rw [wTo_odd zs 1 b (by omega) hb, wTo_even zs 0 a (by omega) ha]
      simp only [wTo]; omega
    | succ k ih =>
      have := u8_getD hu (k + 2)
      rw [show k + 1 + 2 = (k + 2) + 1 by omega]
      simp only [wTo, wAt] at ih ⊢
      split <;> omega
  obtain ⟨k, hk⟩ : ∃ k, zs.length = k + 2 := ⟨zs.length - 2, by omega⟩
  unfold wAll
  rw [hk]
  exact h k
/-- What the law compares at its end. -/
theorem turned_end {zs : List Int} (hu : U8s zs) (h6 : zs.length ≤ 600) (a b new : Int) (ha : zs[0]? = some a) (hb : zs[1]? = some b) (n0 : 0 ≤ new) (n1 : new ≤ 65535) :
    (0 ≤ sumOf zs ∧ sumOf zs ≤ 65535) ∧ (0 ≤ sumTurned (sumOf zs) (a * 256 + b) new) ∧ (0 ≤ sumOf ((zs.set 0 (new / 256)).set 1 (new % 256))) ∧ sumTurned (sumOf zs) (a * 256 + b) new % 65535 = sumOf ((zs.set 0 (new / 256)).set 1 (new % 256)) % 65535 := by
  have ua := hu a (List.mem_of_getElem? ha)
  have ub := hu b (List.mem_of_getElem? hb)
  have hb1 := rnd_b (wAll zs)
  have hb2 := rnd_b (wAll ((zs.set 0 (new / 256)).set 1 (new % 256)))
  have hw := word_le hu a b ha hb
  have h1 := turned_mod (wAll zs) (a * 256 + b) new (by omega) (by omega) (by omega) n0 n1
  rw [sumOf_yes h6, sumOf_yes (by simpa using h6)]
  rw [wAll_turned zs a b _ _ ha hb] at hb2 ⊢
  rw [show wAll zs - (256 * a + b) + (256 * (new / 256) + new % 256) = wAll zs - (a * 256 + b) + new by omega] at hb2 ⊢
  refine ⟨by omega, ?_, by omega, h1⟩
  have := rnd_b (65535 - (65535 - rnd (wAll zs)) + (65535 - (a * 256 + b)) + new)
  unfold sumTurned
  rw [if_pos ⟨by omega, by omega, by omega⟩]
  omega

set_option maxHeartbeats 8000000 in
set_option maxRecDepth 100000 in
theorem walk_FnSumTurned {A0 A1 : Option Addr} {n0 c0 n1 c1 : Nat} {zs0 zs1 : List Int} {w : World} (h0 : Has w A0 n0 (ints .u8 zs0)) (hwf0 : ∀ z ∈ zs0, (Lit.int .u8 z).wf = true) (hc0 : n0 ≤ c0 ∧ c0 ≤ maxLen) (h1 : Has w A1 n1 (ints .u8 zs1)) (hwf1 : ∀ z ∈ zs1, (Lit.int .u8 z).wf = true) (hc1 : n1 ≤ c1 ∧ c1 ≤ maxLen) :
    Calls Try.prog 4 #[.slice A0 n0 c0, .slice A1 n1 c1] w fun e w' => e = .returned (.bool true) ∧ Below w.heap.size w w' := by
  have hu0 : U8s zs0 := fun z hz => u8_of_wf (hwf0 z hz)
  have hu1 : U8s zs1 := fun z hz => u8_of_wf (hwf1 z hz)
  obtain ⟨i0, hi, hz0, hz1, hz2⟩ := info_parts Try.infoU8
  clear hwf0 hwf1
  by_cases hn0 : n0 ≤ 1048576
  · by_cases hn1 : n1 ≤ 1048576
    · go_enter Try.func4, Try.ntmps4
      go_wp2_with (fail)
      refine (drawSumRight_any h0 hu0 hc0).mono ?_
      rintro e w1 ⟨A2, n, c, zs, rfl, O1, hu, hn, B1⟩
      have s1 := B1.size
      go_wp2_with (fail)
      refine (drawSumTurned_any (h1.bel B1) hu1 hc1).mono ?_
      rintro e w2 ⟨a, b, d, rfl, ⟨a0, a1⟩, ⟨b0, b1⟩, ⟨d0, d1⟩, B2⟩
      have C2 := bel_trans B1 B2
      have O2 := O1.bel B2
      have s2 := C2.size
      go_wp2_with (fail)
      refine (implSumRight_any O2.has hu (by omega)).mono ?_
      rintro e w3 ⟨rfl, B3⟩
      have O3 := O2.bel B3
      have C3 := bel_trans C2 B3
      go_wp2_with (fail)
      refine (specSumRight_any O3.has hu (by omega)).mono ?_
      rintro e w4 ⟨rfl, B4⟩
      have O4 := O3.bel B4
      have C4 := bel_trans C3 B4
      have T1 := implSumTurned_any (s := a) (o := b) (n := d) (w := w4) (by omega) (by omega) (by omega)
      generalize hR : sumRight zs = R at *
      obtain ⟨t0, t1⟩ := sumTurned_b a b d
      generalize hT : sumTurned a b d = T at *
      have hRB : (R != R) = false := by simp
      go_wp2_with (fail)
      refine T1.mono ?_
      rintro e w5 ⟨rfl, B5⟩
      have T2 := specSumTurned_any (s := a) (o := b) (n := d) (w := w5) (by omega) (by omega) (by omega)
      rw [hT] at T2
      have O5 := O4.bel B5
      have C5 := bel_trans C4 B5
      go_wp2_with (fail)
      refine T2.mono ?_
      rintro e w6 ⟨rfl, B6⟩
      have O6 := O5.bel B6
      have C6 := bel_trans C5 B6
      have s6 := C6.size
      have HL := Lib.hid O6.has.len
      clear O1 O2 O3 O4 O5 B1 B2 B3 B4 B5 B6 C2 C3 C4 C5 T1 T2 hR hT
      by_cases hsh : 2 ≤ n ∧ n ≤ 600 ∧ 0 ≤ d ∧ d ≤ 65535
      · obtain ⟨hn2, hn6, hd0, hd1⟩ := hsh
        obtain ⟨p, o, x, rfl, hbl, hx, hc⟩ := O6.has.at_ (i := 0) (by omega)
        obtain ⟨p', o', y, hA2, _, hy, hc'⟩ := O6.has.at_ (i := 1) (by omega)
        injection hA2 with hA2
        injection hA2 with e1 e2
        subst e1 e2
        obtain ⟨x0, x1⟩ := hu x (List.mem_of_getElem? hx)
        obtain ⟨y0, y1⟩ := hu y (List.mem_of_getElem? hy)
        obtain ⟨⟨g0, g1⟩, g2, g3, g4⟩ := turned_end hu (by rw [HL.out]; exact hn6) x y d hx hy hd0 hd1
        have hux : U8s ((zs.set 0 (d / 256)).set 1 (d % 256)) := by
          intro z hz
          rcases List.mem_or_eq_of_mem_set hz with hz | rfl
          · rcases List.mem_or_eq_of_mem_set hz with hz | rfl
            · exact hu z hz
            · omega
          · omega
        have u6 : IntKind.u8.wrap (d / 256) = d / 256 := u8_wrap (by omega) (by omega)
        have u7 : IntKind.u8.wrap (d % 256) = d % 256 := u8_wrap (by omega) (by omega)
        clear hx hy
        go_wp2_with (at_builtin; refine wpList_app_has _ rfl (.tmp 61) (.tmp 62) 22 rfl w6.heap.size 5 i0 (.int .u8 0) 1 Try.underlying22 hi hz0 hz1 hz2 rfl (some ⟨w6.heap.size, 0, none⟩) 0 0 [] rfl (World.ownsRow_lit w6 #[] 0 (Nat.le_refl _) (by unfold maxLen; omega) rfl) (some ⟨p, o, none⟩) n c (ints .u8 zs) rfl (O6.has.bel ((Below.refl _ _).alloc (Nat.le_refl _) _)) (ints_oneCell _ _) (by omega) (by decide) (by simp) ?_; intro A7 c7 w7 O7 G7 B7)
        rw [Nat.zero_add, List.nil_append] at O7
        have B7' : Below w6.heap.size w6 w7 := ((Below.refl w6.heap.size w6).alloc (Nat.le_refl _) _).trans B7
        have s7 := B7'.size
        have O8 := O6.bel B7'
        have hc1 := (B7'.cell (p := ⟨p, o + 0, none⟩) hbl).trans hc
        have hc2 := (B7'.cell (p := ⟨p, o + 1, none⟩) hbl).trans hc'
        rw [Nat.add_zero] at hc1
        have hp2 : (1 : Int) < (n : Int) := by omega
        have hp3 : (0 : Int) < (n : Int) := by omega
        go_quiet (fail)
        obtain ⟨w8, hw8⟩ : ∃ w8, w8 = w7.drewN nq := ⟨_, rfl⟩
        rw [← hw8]
        have B8 : Below w7.heap.size w7 w8 := hw8 ▸ below_drewN w7 nq
        have O9 := O7.bel B8
        have B8' : Below w6.heap.size w6 w8 := bel_trans B7' B8
        clear hw8 O7 O8 B7 G7 B8
        obtain ⟨g, rfl, hgl, hgs⟩ := O9.head (by omega)
        obtain ⟨v0, hv0, hd0', hf0⟩ := O9.at_ (k := 0) (by omega)
        obtain ⟨v1, hv1, hd1', hf1⟩ := O9.at_ (k := 1) (by omega)
        clear hv0 hv1
        have O10 := (O9.set_ 0 (.int .u8 (d / 256))).set_ 1 (.int .u8 (d % 256))
        rw [ints_set, ints_set] at O10
        have B10 : Below w6.heap.size w6 ((w8.setCell ⟨g, 0, none⟩ (.int .u8 (d / 256))).setCell ⟨g, 1, none⟩ (.int .u8 (d % 256))) := (B8'.setCell hgl _).setCell hgl _
        go_wp2_with (fail)
        generalize (w8.setCell ⟨g, 0, none⟩ (.int .u8 (d / 256))).setCell ⟨g, 1, none⟩ (.int .u8 (d % 256)) = w10 at *
        have O11 := O6.bel B10
        refine (implSumOf_any O11.has hu (by omega)).mono ?_
        rintro e w11 ⟨rfl, B11⟩
        generalize hS : sumOf zs = S at *
        have CT := implSumTurned_any (s := S) (o := x * 256 + y) (n := d) (w := w11) (by omega) (by omega) (by omega)
        go_wp2_with (fail)
        refine CT.mono ?_
        rintro e w12 ⟨rfl, B12⟩
        have O13 := (O10.bel B11).bel B12
        have B13 := bel_trans (bel_trans B10 B11) B12
        obtain ⟨q0, q1⟩ := sumTurned_b S (x * 256 + y) d
        generalize sumTurned S (x * 256 + y) d = G at *
        go_wp2_with (fail)
        refine (implSumOf_any O13.has hux (by omega)).mono ?_
        rintro e w14 ⟨rfl, B14⟩
        have C14 := bel_trans C6 (bel_trans B13 B14)
        have r1 := (sumOf_b ((zs.set 0 (d / 256)).set 1 (d % 256))).2
        generalize sumOf ((zs.set 0 (d / 256)).set 1 (d % 256)) = V at *
        have hGV : (G % 65535 == V % 65535) = true := by rw [g4]; simp
        clear g4
        by_cases he : G = V
        · have heB : (G == V) = true := by simp [he]
          clear he
          go_wp2
          go_ret
          exact ⟨rfl, C14⟩
        · have heB : (G == V) = false := by simp [he]
          clear he
          go_wp2
          go_ret
          exact ⟨rfl, C14⟩
      · by_cases hn2 : n < 2
        · clear hsh
          go_wp2
          go_ret
          exact ⟨rfl, C6⟩
        · by_cases hn6 : 600 < n
          · clear hsh
            go_wp2
            go_ret
            exact ⟨rfl, C6⟩
          · by_cases hdn : d < 0
            · clear hsh
              go_wp2
              go_ret
              exact ⟨rfl, C6⟩
            · have hdm : 65535 < d := by omega
              clear hsh
              go_wp2
              go_ret
              exact ⟨rfl, C6⟩
    · go_enter Try.func4, Try.ntmps4
      go_wp2
      go_ret
      exact ⟨rfl, Below.refl _ _⟩
  · go_enter Try.func4, Try.ntmps4
    go_wp2
    go_ret
    exact ⟨rfl, Below.refl _ _⟩
set_option maxRecDepth 100000 in
theorem lifted_FnSumTurned (os : Os) (started : os.Started) (H : Type) (enc : TypeId × Value → H) :
    ReturnsInHanded {} Try.checked os 4 .any (Rows.fnSumTurnedSpec.pre6 enc Try.prog Try.f4 Rows.fnSumTurnedRow.domain false) (Rows.fnSumTurnedSpec.post enc Try.prog Try.f4 false true false false) := by
  refine returnsInHanded_of_change (C := Try.checked) (by kernel_rfl) started (by kernel_rfl) Try.func4
    (ChangeSpec.witness6 (enc := enc) (C := Try.checked) false ⟨#[], #[.slice none 0 0, .slice none 0 0], []⟩ 8 (by kernel_rfl) (by kernel_rfl) (by kernel_rfl) (by kernel_rfl)) ?_
  intro W base args ds gs before hval0 hW hcnd _
  have hval : ∀ (j : Nat) t v, Try.f4.params[j]? = some t → args[j]? = some v → Value.okWide Try.prog W .any base t v := hval0
  have hW' := hW
  obtain ⟨p, q, hA0, hV, rfl, hfz, hnd⟩ := hW
  have hA : DataW.TrodAll enc Try.prog W 0 (fun _ => true) true Try.f4.params.toList args.toList ds p := hA0
  rw [Try.params4] at hA hval
  obtain ⟨v0, vs0, d0, ds0, p0, q0, hargs, rfl, rfl, h0, r0⟩ := trodAll_cons hA
  obtain ⟨v1, vs1, d1, ds1, p1, q1, rfl, rfl, rfl, h1, r1⟩ := trodAll_cons r0
  obtain ⟨rfl, rfl, rfl⟩ := trodAll_nil r1
  obtain rfl : args = #[v0, v1] := by cases args; simp_all
  obtain ⟨rfl, rfl⟩ := trodVars_none hV
  obtain ⟨a0, len0, cap0, rfl⟩ := okWide_slice Try.underlying22 (hval 0 22 v0 rfl rfl)
  have k0 := h0
  have lt0 : ∀ x ∈ p0, x.block < W.heap.size := by obtain ⟨m, hm⟩ := k0; exact DataW.trod_lt m _ _ _ hm
  obtain ⟨z0, H0, U0, M0⟩ := has_of_trod (k := .u8) Try.underlying22 Try.underlying5 (by kernel_rfl) h0
  obtain ⟨a1, len1, cap1, rfl⟩ := okWide_slice Try.underlying22 (hval 1 22 v1 rfl rfl)
  have k1 := h1
  have lt1 : ∀ x ∈ p1, x.block < W.heap.size := by obtain ⟨m, hm⟩ := k1; exact DataW.trod_lt m _ _ _ hm
  obtain ⟨z1, H1, U1, M1⟩ := has_of_trod (k := .u8) Try.underlying22 Try.underlying5 (by kernel_rfl) h1
  clear hA0 hval0
  refine (walk_FnSumTurned H0 U0 M0 H1 U1 M1).mono fun e W' ⟨he, bel⟩ => ?_
  subst he
  exact ⟨_, rfl, _, _, _, [], _, [], hW', trodAll_mk1 (shut_bool Try.underlying4 _), (trodAll_cons_mk (Below.trod (by kernel_rfl) (by kernel_rfl) (of_decide_eq_true (by kernel_rfl)) k0 bel lt0) (trodAll_cons_mk (Below.trod (by kernel_rfl) (by kernel_rfl) (of_decide_eq_true (by kernel_rfl)) k1 bel lt1) trodAll_mk0)), rfl, bel.frame _, fun h => by cases h⟩

theorem fnSumTurned_holds : Rows.FnSumTurnedSaid :=
  OpenClaim.holds_of_wide 4 Try.f4 rfl rfl rfl rfl rfl rfl rfl ⟨rfl, rfl, rfl, rfl, rfl⟩ rfl rfl rfl rfl rfl (by kernel_rfl) Try.func4 (by kernel_rfl)
    (of_decide_eq_true (by kernel_rfl)) (by unfold Func.isWrapper; first | (rw [if_pos (by decide +kernel)]; kernel_rfl) | (rw [if_neg (by decide +kernel)]; exact ⟨rfl, rfl⟩))
    (fun os started H enc _ => lifted_FnSumTurned os started H enc)
end Go.Proofs.Ytpbiomlohgcjdaa
