/-
  FnExactPassWire: for every slice of ints and every list of slices of bytes the exact law of PassWire returns true and writes nothing that was there. No condition.
-/
import Derived.Test.YtafplpechpoliaaImp4
import Derived.Test.YtafplpechpoliaaListArg
namespace Go.Proofs.Ytafplpechpoliaa
open Go.RowKit Go.ChangeShapes Go.WideShapes Go.ChangeAt

theorem pass_long (fs : List Int) (l : List (List Int)) : (passL fs l).length ≤ 120 ∧ (∀ p ∈ passL fs l, p.length ≤ 16777216) ∧ sumLen (passL fs l) ≤ 1073741824 := by
  obtain ⟨h1, h2⟩ := passL_lens fs l
  refine ⟨h1, fun p hp => by have := h2 p hp; omega, ?_⟩
  have key : ∀ xs : List (List Int), (∀ p ∈ xs, p.length ≤ 600) → sumLen xs ≤ 600 * xs.length := by
    intro xs
    induction xs with
    | nil => intro _; simp [sumLen]
    | cons p xs ih =>
      intro h
      have e1 := h p (by simp)
      have e2 := ih (fun q hq => h q (by simp [hq]))
      unfold sumLen at e2 ⊢
      rw [List.map_cons, List.sum_cons, List.length_cons, Nat.mul_succ]
      omega
  have h3 := key _ h2
  have h4 : 600 * (passL fs l).length ≤ 600 * 120 := Nat.mul_le_mul_left _ h1
  omega

set_option maxHeartbeats 16000000 in
set_option maxRecDepth 100000 in
theorem walk_FnExactPassWire {A0 : Option Addr} {n0 c0 : Nat} {zs0 : List Int} {A1 : Option Addr} {n1 c1 : Nat} {l1 : List (List Int)} {w : World} (h0 : Has w A0 n0 (ints .i64 zs0)) (hwf0 : ∀ z ∈ zs0, (Lit.int .i64 z).wf = true) (_ : n0 ≤ c0 ∧ c0 ≤ maxLen) (h1 : HasL w A1 n1 l1) (hwf1 : ∀ zs ∈ l1, ∀ z ∈ zs, (Lit.int .u8 z).wf = true) (hml : ∀ zs ∈ l1, zs.length ≤ maxLen) (hc1 : n1 ≤ c1 ∧ c1 ≤ maxLen) :
    Calls Try.prog 12 #[.slice A0 n0 c0, .slice A1 n1 c1] w fun e w' => e = .returned (.bool true) ∧ Below w.heap.size w w' := by
  have hi0 : I64s zs0 := fun z hz => i64_of_wf (hwf0 z hz)
  have hu1 : ∀ zs ∈ l1, U8s zs := fun zs hzs z hz => u8_of_wf (hwf1 zs hzs z hz)
  clear hwf0 hwf1
  by_cases hn0 : n0 ≤ 1048576
  rotate_left
  · go_enter Try.func12, Try.ntmps12
    go_wp2
    go_ret
    exact ⟨rfl, Below.refl _ _⟩
  have hmx : n1 ≤ 9223372036854775807 := by have h1 := hc1.1; have h2 := hc1.2; unfold maxLen at h2; omega
  have hml2 : ∀ zs ∈ l1, zs.length ≤ 9223372036854775807 := fun zs hzs => by have h1 := hml zs hzs; unfold maxLen at h1; omega
  have SZ := Lib.hid (szByteSS_any (c := c1) h1 hmx hml2)
  have HU := Lib.hid hu1
  have HI := Lib.hid hi0
  have LEN := Lib.hid (pass_long zs0 l1)
  clear hml hml2 hu1 hi0
  go_enter Try.func12, Try.ntmps12
  go_wp2_with (fail)
  refine SZ.out.mono ?_
  rintro e w' ⟨v, rfl, v0, v1, hv, rfl⟩
  by_cases hneg : v < 0
  · clear hv
    go_wp2
    go_ret
    exact ⟨rfl, Below.refl _ _⟩
  have hvB : decide (v < 0) = false := by simp; omega
  have hsz := hv (by omega)
  have hn1 : n1 ≤ 1048576 := by omega
  have hsum : sumLen l1 ≤ 1048576 := by omega
  have hl1 : ∀ zs ∈ l1, zs.length ≤ 16777216 := fun zs hzs => by have := len_le_sum l1 zs hzs; omega
  have HLN := Lib.hid hl1
  clear hv hl1
  go_wp2_with (fail)
  refine (toIntS_any h0 (by omega)).mono ?_
  rintro e w1 ⟨ga, rfl, Pa, B1⟩
  have s1 := B1.size
  go_wp2_with (fail)
  refine (toByteSS_any (h1.bel B1) (by omega) HLN.out).mono ?_
  rintro e w2 ⟨gb, rfl, Pb, B2⟩
  have s2 := B2.size
  have C2 := bel_trans B1 B2
  have Pa2 := Pa.bel B2
  go_wp2_with (fail)
  refine (specPassWire_any Pa2.has HI.out (by omega) Pa2.cap Pb.has HU.out HLN.out (by omega) Pb.cap).mono ?_
  rintro e w3 ⟨AW, nW, cW, rfl, ⟨vW, W3⟩, B3⟩
  have s3 := B3.size
  have C3 := bel_trans C2 B3
  have hnW : nW ≤ 120 := by have q1 := W3.has.len; have q2 := LEN.out.1; omega
  clear Pa Pa2 Pb
  go_wp2_with (fail)
  refine (toIntS_any (h0.bel C3) (by omega)).mono ?_
  rintro e w4 ⟨gx, rfl, X4, B4⟩
  have s4 := B4.size
  have C4 := bel_trans C3 B4
  have W4 := W3.bel B4
  go_wp2_with (fail)
  refine (toByteSS_any (h1.bel C4) (by omega) HLN.out).mono ?_
  rintro e w5 ⟨gy, rfl, ⟨vY, Y5⟩, B5⟩
  have s5 := B5.size
  have C5 := bel_trans C4 B5
  have W5 := W4.bel B5
  have X5 := X4.bel B5
  go_wp2_with (fail)
  refine (implPassWire_any X5.has HI.out (by omega) X5.cap Y5.has HU.out HLN.out (by omega) Y5.1.cap).mono ?_
  rintro e w6 ⟨AG, nG, cG, rfl, ⟨vG, G6⟩, B6⟩
  have s6 := B6.size
  have C6 := bel_trans C5 B6
  have W6 := W5.bel B6
  have X6 := X5.bel B6
  have Y6 := Y5.bel B6
  have hnG : nG ≤ 120 := by have q1 := G6.has.len; have q2 := LEN.out.1; omega
  go_wp2_with (fail)
  refine (eqByteSS_b G6.has W6.has (by omega) LEN.out.2.1).mono ?_
  rintro e w7 ⟨rfl, B7⟩
  have s7 := B7.size
  have C7 := bel_trans C6 B7
  have W7 := W6.bel B7
  have X7 := X6.bel B7
  have Y7 := Y6.bel B7
  have G7 := G6.bel B7
  go_wp2_with (fail)
  refine (toIntS_any (h0.bel C7) (by omega)).mono ?_
  rintro e w8 ⟨gz, rfl, Z8, B8⟩
  have s8 := B8.size
  have C8 := bel_trans C7 B8
  have W8 := W7.bel B8
  have X8 := X7.bel B8
  have Y8 := Y7.bel B8
  have G8 := G7.bel B8
  go_wp2_with (fail)
  refine (eqIntS_b X8.has Z8.has (by omega)).mono ?_
  rintro e w9 ⟨rfl, B9⟩
  have s9 := B9.size
  have C9 := bel_trans C8 B9
  have W9 := W8.bel B9
  have X9 := X8.bel B9
  have Y9 := Y8.bel B9
  have G9 := G8.bel B9
  clear Z8
  go_wp2_with (fail)
  refine (toByteSS_any (h1.bel C9) (by omega) HLN.out).mono ?_
  rintro e w10 ⟨gu, rfl, U10, B10⟩
  have s10 := B10.size
  have C10 := bel_trans C9 B10
  have W10 := W9.bel B10
  have X10 := X9.bel B10
  have Y10 := Y9.bel B10
  have G10 := G9.bel B10
  go_wp2_with (fail)
  refine (eqByteSS_b Y10.has U10.has (by omega) HLN.out).mono ?_
  rintro e w11 ⟨rfl, B11⟩
  have s11 := B11.size
  have C11 := bel_trans C10 B11
  have W11 := W10.bel B11
  have X11 := X10.bel B11
  have Y11 := Y10.bel B11
  have G11 := G10.bel B11
  clear U10
  go_wp2_with (fail)
  refine (markIntS_any X11 (K := 1) (by omega) (by omega)).mono ?_
  rintro e w12 ⟨rfl, X12, M12⟩
  have s12 := M12.size
  have C12 := bel_grown C11 M12 (X4.ge (by omega))
  have W12 := W11.earlier W3 (X4.ge (Nat.le_refl _)) M12
  have Y12 := Y11.later (fun ad hh => by have := X4.lt ad hh; omega) M12
  have G12 := G11.later (fun ad hh => by have := X4.lt ad hh; omega) M12
  clear X12
  go_wp2_with (fail)
  refine (markByteSS_any Y12 (K := 1 + n0) (by omega) HLN.out (by omega)).mono ?_
  rintro e w13 ⟨rfl, Y13, T13⟩
  have D13 := T13.below (B := w4.heap.size) (by omega) (fun v hv b hb => (Y5.inner v hv b hb).1)
  have s13 := D13.size
  have C13 : Below w.heap.size w w13 := C12.trans (D13.mono (by omega))
  have W13 := W12.under W3 D13 (by omega)
  have G13 := G12.heapEq (fun i hi => T13.2.2.2.2 i (by have := (G12.bounds hi).2; omega) (fun v hv he => by have h1 := (Y5.inner v hv i he).2; have h2 := (G6.bounds hi).1; omega))
  clear Y13
  go_wp2_with (fail)
  refine (eqByteSS_b G13.has W13.has (by omega) LEN.out.2.1).mono ?_
  rintro e w14 ⟨rfl, B14⟩
  have s14 := B14.size
  have C14 := bel_trans C13 B14
  have W14 := W13.bel B14
  have G14 := G13.bel B14
  go_wp2_with (fail)
  refine (markByteSS_any G14 (K := 1) (by omega) LEN.out.2.1 (by have := LEN.out.2.2; omega)).mono ?_
  rintro e w15 ⟨rfl, G15, T15⟩
  have D15 := T15.below (B := w5.heap.size) (by omega) (fun v hv b hb => (G6.inner v hv b hb).1)
  have s15 := D15.size
  have C15 : Below w.heap.size w w15 := C14.trans (D15.mono (by omega))
  have W15 := W14.under W3 D15 (by omega)
  go_wp2_with (fail)
  refine (heldByteSS_any G15.has (by omega) LEN.out.2.1 (by have := LEN.out.2.2; omega)).mono ?_
  rintro e w' ⟨rfl, rfl⟩
  go_wp2_with (fail)
  refine (toIntS_any (h0.bel C15) (by omega)).mono ?_
  rintro e w16 ⟨gp, rfl, Pc, B16⟩
  have s16 := B16.size
  have C16 := bel_trans C15 B16
  have W16 := W15.bel B16
  have G16 := G15.bel B16
  go_wp2_with (fail)
  refine (toByteSS_any (h1.bel C16) (by omega) HLN.out).mono ?_
  rintro e w17 ⟨gq, rfl, Pd, B17⟩
  have s17 := B17.size
  have C17 := bel_trans C16 B17
  have W17 := W16.bel B17
  have G17 := G16.bel B17
  have Pc17 := Pc.bel B17
  go_wp2_with (fail)
  refine (implPassWire_any Pc17.has HI.out (by omega) Pc17.cap Pd.has HU.out HLN.out (by omega) Pd.cap).mono ?_
  rintro e w18 ⟨AH, nH, cH, rfl, ⟨vH, H18⟩, B18⟩
  have s18 := B18.size
  have C18 := bel_trans C17 B18
  have W18 := W17.bel B18
  have G18 := G17.bel B18
  have hnH : nH ≤ 120 := by have q1 := H18.has.len; have q2 := LEN.out.1; omega
  go_wp2_with (fail)
  refine (eqByteSS_b H18.has W18.has (by omega) LEN.out.2.1).mono ?_
  rintro e w19 ⟨rfl, B19⟩
  have s19 := B19.size
  have C19 := bel_trans C18 B19
  have G19 := G18.bel B19
  go_wp2_with (fail)
  refine (heldByteSS_any G19.has (by omega) LEN.out.2.1 (by have := LEN.out.2.2; omega)).mono ?_
  rintro e w' ⟨rfl, rfl⟩
  go_wp2
  go_ret
  exact ⟨rfl, C19⟩
set_option maxRecDepth 100000 in
theorem lifted_FnExactPassWire (os : Os) (started : os.Started) (H : Type) (enc : TypeId × Value → H) :
    ReturnsInHanded {} Try.checked os 12 .any (Rows.fnExactPassWireSpec.pre6 enc Try.prog Try.f12 Rows.fnExactPassWireRow.domain false) (Rows.fnExactPassWireSpec.post enc Try.prog Try.f12 false true false false) := by
  refine returnsInHanded_of_change (C := Try.checked) (by kernel_rfl) started (by kernel_rfl) Try.func12
    (ChangeSpec.witness6 (enc := enc) (C := Try.checked) false ⟨#[], #[.slice none 0 0, .slice none 0 0], []⟩ 8 (by kernel_rfl) (by kernel_rfl) (by kernel_rfl) (by kernel_rfl)) ?_
  intro W base args ds gs before hval0 hW hcnd _
  have hval : ∀ (j : Nat) t v, Try.f12.params[j]? = some t → args[j]? = some v → Value.okWide Try.prog W .any base t v := hval0
  have hW' := hW
  obtain ⟨p, q, hA0, hV, rfl, hfz, hnd⟩ := hW
  have hA : DataW.TrodAll enc Try.prog W 0 (fun _ => true) true Try.f12.params.toList args.toList ds p := hA0
  rw [Try.params12] at hA hval
  obtain ⟨v0, vs0, d0, ds0, p0, q0, hargs, rfl, rfl, h0, r0⟩ := trodAll_cons hA
  obtain ⟨v1, vs1, d1, ds1, p1, q1, rfl, rfl, rfl, h1, r1⟩ := trodAll_cons r0
  obtain ⟨rfl, rfl, rfl⟩ := trodAll_nil r1
  obtain rfl : args = #[v0, v1] := by cases args; simp_all
  obtain ⟨rfl, rfl⟩ := trodVars_none hV
  obtain ⟨a0, len0, cap0, rfl⟩ := okWide_slice Try.underlying23 (hval 0 23 v0 rfl rfl)
  have k0 := h0
  have lt0 : ∀ x ∈ p0, x.block < W.heap.size := by obtain ⟨m, hm⟩ := k0; exact DataW.trod_lt m _ _ _ hm
  obtain ⟨z0, H0, U0, M0⟩ := has_of_trod (k := .i64) Try.underlying23 Try.underlying3 (by kernel_rfl) h0
  obtain ⟨a1, len1, cap1, rfl⟩ := okWide_slice Try.underlying31 (hval 1 31 v1 rfl rfl)
  have k1 := h1
  have lt1 : ∀ x ∈ p1, x.block < W.heap.size := by obtain ⟨m, hm⟩ := k1; exact DataW.trod_lt m _ _ _ hm
  obtain ⟨z1, H1, U1, N1, M1⟩ := hasL_of_trod Try.underlying31 Try.underlying22 Try.underlying5 (by kernel_rfl) (by kernel_rfl) h1
  clear hA0 hval0
  refine (walk_FnExactPassWire H0 U0 M0 H1 U1 N1 M1).mono fun e W' ⟨he, bel⟩ => ?_
  subst he
  exact ⟨_, rfl, _, _, _, [], _, [], hW', trodAll_mk1 (shut_bool Try.underlying4 _), (trodAll_cons_mk (Below.trod (by kernel_rfl) (by kernel_rfl) (of_decide_eq_true (by kernel_rfl)) k0 bel lt0) (trodAll_cons_mk (Below.trod (by kernel_rfl) (by kernel_rfl) (of_decide_eq_true (by kernel_rfl)) k1 bel lt1) trodAll_mk0)), rfl, bel.frame _, fun h => by cases h⟩

theorem fnExactPassWire_holds : Rows.FnExactPassWireSaid :=
  OpenClaim.holds_of_wide 12 Try.f12 rfl rfl rfl rfl rfl rfl rfl ⟨rfl, rfl, rfl, rfl, rfl⟩ rfl rfl rfl rfl rfl (by kernel_rfl) Try.func12 (by kernel_rfl)
    (of_decide_eq_true (by kernel_rfl)) (by unfold Func.isWrapper; first | (rw [if_pos (by decide +kernel)]; kernel_rfl) | (rw [if_neg (by decide +kernel)]; exact ⟨rfl, rfl⟩))
    (fun os started H enc _ => lifted_FnExactPassWire os started H enc)
end Go.Proofs.Ytafplpechpoliaa
