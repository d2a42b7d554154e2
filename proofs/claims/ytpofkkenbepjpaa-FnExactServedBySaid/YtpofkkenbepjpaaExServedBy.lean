/-
  FnExactServedBy: for every argument the exact law of ServedBy returns true and writes nothing that was there. No condition.
-/
import Derived.Test.YtpofkkenbepjpaaImp12b
import Derived.Test.YtpofkkenbepjpaaJobX
import Derived.Test.YtpofkkenbepjpaaJobLaws
import Derived.Test.YtpofkkenbepjpaaShut
namespace Go.Proofs.Ytpofkkenbepjpaa
open Go.RowKit Go.ChangeShapes Go.WideShapes Go.ChangeAt

set_option maxRecDepth 100000 in
set_option maxHeartbeats 8000000 in
theorem walk_FnExactServedBy {A0 : Option Addr} {n0 c0 : Nat} {zs0 : List Int} {A1 : Option Addr} {n1 c1 : Nat} {zs1 : List Duo} {A2 : Option Addr} {n2 c2 : Nat} {zs2 : List Int} {w : World} (h0 : Has w A0 n0 (ints .i64 zs0)) (_ : ∀ z ∈ zs0, (Lit.int .i64 z).wf = true) (hc0 : n0 ≤ c0 ∧ c0 ≤ maxLen) (h1 : HasD w A1 n1 zs1) (_ : I64D zs1) (hc1 : n1 ≤ c1 ∧ c1 ≤ maxLen) (h2 : Has w A2 n2 (ints .i64 zs2)) (_ : ∀ z ∈ zs2, (Lit.int .i64 z).wf = true) (hc2 : n2 ≤ c2 ∧ c2 ≤ maxLen) :
    Calls Try.prog 13 #[.slice A0 n0 c0, .slice A1 n1 c1, .slice A2 n2 c2] w fun e w' => e = .returned (.bool true) ∧ Below w.heap.size w w' := by
  have hm0 : n0 ≤ 9223372036854775807 := Nat.le_trans hc0.1 (Nat.le_trans hc0.2 (by unfold maxLen; omega))
  have hm1 : n1 ≤ 9223372036854775807 := Nat.le_trans hc1.1 (Nat.le_trans hc1.2 (by unfold maxLen; omega))
  have hm2 : n2 ≤ 9223372036854775807 := Nat.le_trans hc2.1 (Nat.le_trans hc2.2 (by unfold maxLen; omega))
  obtain ⟨R, hR⟩ : ∃ R, servedL zs0 zs1 zs2 = R := ⟨_, rfl⟩
  have hRl : R.length ≤ 1000 := by rw [← hR]; have := served_few zs0 zs1 zs2; omega
  clear hc0 hc1 hc2
  by_cases hn0 : n0 ≤ 1048576
  rotate_left
  · go_enter Try.func13, Try.ntmps13
    go_wp2
    go_ret
    exact ⟨rfl, Below.refl _ _⟩
  by_cases hn2 : n2 ≤ 1048576
  rotate_left
  · go_enter Try.func13, Try.ntmps13
    go_wp2
    go_ret
    exact ⟨rfl, Below.refl _ _⟩
  have SZ1 := Lib.hid (szJobS_any (A := A1) (n := n1) (c := c1) (w := w) (L := 1048576) rfl hm1)
  by_cases hn1 : n1 ≤ 1048576
  rotate_left
  · rw [if_neg hn1] at SZ1
    go_enter Try.func13, Try.ntmps13
    go_wp2_with (fail)
    refine SZ1.out.mono ?_
    rintro e w' ⟨rfl, rfl⟩
    go_wp2
    go_ret
    exact ⟨rfl, Below.refl _ _⟩
  rw [if_pos hn1] at SZ1
  have zB1 : decide ((1048576 : Int) - (n1 : Int) < 0) = false := by simp; omega
  go_enter Try.func13, Try.ntmps13
  go_wp2_with (fail)
  refine SZ1.out.mono ?_
  rintro e w' ⟨rfl, rfl⟩
  go_wp2_with (fail)
  refine (toIntS_any (h0.bel (Below.refl _ _)) (by omega)).mono ?_
  rintro e w1 ⟨gp0, rfl, O1, B1⟩
  have S1 : w.heap.size ≤ w1.heap.size := B1.size
  have C1 := B1
  obtain ⟨Ap0, hAp0⟩ : ∃ A, A = some (⟨gp0, 0, none⟩ : Addr) := ⟨_, rfl⟩
  have bp0 : ∀ a, Ap0 = some a → w.heap.size ≤ a.block ∧ a.block < w1.heap.size := fun a ha => by rw [hAp0] at ha; cases ha; exact O1.block
  go_wp2_with (fail)
  refine (toJobS_any (h1.bel C1) (by omega)).mono ?_
  rintro e w2 ⟨Ap1, ccp1, rfl, O2, B2⟩
  have S2 : w1.heap.size ≤ w2.heap.size := B2.size
  have C2 := bel_trans C1 B2
  have p0_2 := O1.bel B2
  have bp1 : ∀ a, Ap1 = some a → w1.heap.size ≤ a.block ∧ a.block < w2.heap.size := fun a ha => by subst ha; exact World.ownsRow.lt O2 a.block rfl
  go_wp2_with (fail)
  refine (toIntS_any (h2.bel C2) (by omega)).mono ?_
  rintro e w3 ⟨gp2, rfl, O3, B3⟩
  have S3 : w2.heap.size ≤ w3.heap.size := B3.size
  have C3 := bel_trans C2 B3
  have p0_3 := p0_2.bel B3
  have p1_3 := O2.bel B3
  obtain ⟨Ap2, hAp2⟩ : ∃ A, A = some (⟨gp2, 0, none⟩ : Addr) := ⟨_, rfl⟩
  have bp2 : ∀ a, Ap2 = some a → w2.heap.size ≤ a.block ∧ a.block < w3.heap.size := fun a ha => by rw [hAp2] at ha; cases ha; exact O3.block
  go_wp2_with (fail)
  refine (specServedBy_r p0_3.has p1_3.has O3.has (by omega) (by omega) (by omega) hR).mono ?_
  rintro e w4 ⟨AW, nW, cW, rfl, O4, B4⟩
  have S4 : w3.heap.size ≤ w4.heap.size := B4.size
  have C4 := bel_trans C3 B4
  have p0_4 := p0_3.bel B4
  have p1_4 := p1_3.bel B4
  have p2_4 := O3.bel B4
  have bW : ∀ a, AW = some a → w3.heap.size ≤ a.block ∧ a.block < w4.heap.size := fun a ha => by subst ha; exact World.ownsRow.lt O4 a.block rfl
  have hnW : nW ≤ 1000 := by have q1 := O4.has.len; omega
  go_wp2_with (fail)
  refine (toIntS_any (h0.bel C4) (by omega)).mono ?_
  rintro e w5 ⟨gx0, rfl, O5, B5⟩
  have S5 : w4.heap.size ≤ w5.heap.size := B5.size
  have C5 := bel_trans C4 B5
  have W_5 := O4.bel B5
  obtain ⟨Ax0, hAx0⟩ : ∃ A, A = some (⟨gx0, 0, none⟩ : Addr) := ⟨_, rfl⟩
  have bx0 : ∀ a, Ax0 = some a → w4.heap.size ≤ a.block ∧ a.block < w5.heap.size := fun a ha => by rw [hAx0] at ha; cases ha; exact O5.block
  go_wp2_with (fail)
  refine (toJobS_any (h1.bel C5) (by omega)).mono ?_
  rintro e w6 ⟨Ax1, ccx1, rfl, O6, B6⟩
  have S6 : w5.heap.size ≤ w6.heap.size := B6.size
  have C6 := bel_trans C5 B6
  have W_6 := W_5.bel B6
  have x0_6 := O5.bel B6
  have bx1 : ∀ a, Ax1 = some a → w5.heap.size ≤ a.block ∧ a.block < w6.heap.size := fun a ha => by subst ha; exact World.ownsRow.lt O6 a.block rfl
  go_wp2_with (fail)
  refine (toIntS_any (h2.bel C6) (by omega)).mono ?_
  rintro e w7 ⟨gx2, rfl, O7, B7⟩
  have S7 : w6.heap.size ≤ w7.heap.size := B7.size
  have C7 := bel_trans C6 B7
  have W_7 := W_6.bel B7
  have x0_7 := x0_6.bel B7
  have x1_7 := O6.bel B7
  obtain ⟨Ax2, hAx2⟩ : ∃ A, A = some (⟨gx2, 0, none⟩ : Addr) := ⟨_, rfl⟩
  have bx2 : ∀ a, Ax2 = some a → w6.heap.size ≤ a.block ∧ a.block < w7.heap.size := fun a ha => by rw [hAx2] at ha; cases ha; exact O7.block
  go_wp2_with (fail)
  refine (implServedBy_r x0_7.has x1_7.has O7.has (by omega) (by omega) (by omega) hR).mono ?_
  rintro e w8 ⟨AG, nG, cG, rfl, O8, B8⟩
  have S8 : w7.heap.size ≤ w8.heap.size := B8.size
  have C8 := bel_trans C7 B8
  have W_8 := W_7.bel B8
  have x0_8 := x0_7.bel B8
  have x1_8 := x1_7.bel B8
  have x2_8 := O7.bel B8
  have bG : ∀ a, AG = some a → w7.heap.size ≤ a.block ∧ a.block < w8.heap.size := fun a ha => by subst ha; exact World.ownsRow.lt O8 a.block rfl
  have hnG : nG ≤ 1000 := by have q1 := O8.has.len; omega
  go_wp2_with (fail)
  refine (eqIntS_b (c := cG) (c' := cW) O8.has W_8.has (by omega)).mono ?_
  rintro e w9 ⟨rfl, B9⟩
  have S9 : w8.heap.size ≤ w9.heap.size := B9.size
  have C9 := bel_trans C8 B9
  have W_9 := W_8.bel B9
  have x0_9 := x0_8.bel B9
  have x1_9 := x1_8.bel B9
  have x2_9 := x2_8.bel B9
  have G_9 := O8.bel B9
  go_wp2_with (fail)
  refine (toIntS_any (h0.bel C9) (by omega)).mono ?_
  rintro e w10 ⟨gy0, rfl, O10, B10⟩
  have S10 : w9.heap.size ≤ w10.heap.size := B10.size
  have C10 := bel_trans C9 B10
  have W_10 := W_9.bel B10
  have x0_10 := x0_9.bel B10
  have x1_10 := x1_9.bel B10
  have x2_10 := x2_9.bel B10
  have G_10 := G_9.bel B10
  obtain ⟨Ay0, hAy0⟩ : ∃ A, A = some (⟨gy0, 0, none⟩ : Addr) := ⟨_, rfl⟩
  have by0 : ∀ a, Ay0 = some a → w9.heap.size ≤ a.block ∧ a.block < w10.heap.size := fun a ha => by rw [hAy0] at ha; cases ha; exact O10.block
  go_wp2_with (fail)
  refine (eqIntS_b x0_10.has O10.has (by omega)).mono ?_
  rintro e w11 ⟨rfl, B11⟩
  have S11 : w10.heap.size ≤ w11.heap.size := B11.size
  have C11 := bel_trans C10 B11
  have W_11 := W_10.bel B11
  have x0_11 := x0_10.bel B11
  have x1_11 := x1_10.bel B11
  have x2_11 := x2_10.bel B11
  have G_11 := G_10.bel B11
  have y0_11 := O10.bel B11
  go_wp2_with (fail)
  refine (toJobS_any (h1.bel C11) (by omega)).mono ?_
  rintro e w12 ⟨Ay1, ccy1, rfl, O12, B12⟩
  have S12 : w11.heap.size ≤ w12.heap.size := B12.size
  have C12 := bel_trans C11 B12
  have W_12 := W_11.bel B12
  have x0_12 := x0_11.bel B12
  have x1_12 := x1_11.bel B12
  have x2_12 := x2_11.bel B12
  have G_12 := G_11.bel B12
  have by1 : ∀ a, Ay1 = some a → w11.heap.size ≤ a.block ∧ a.block < w12.heap.size := fun a ha => by subst ha; exact World.ownsRow.lt O12 a.block rfl
  go_wp2_with (fail)
  refine (eqJobS_same x1_12.has O12.has (by omega)).mono ?_
  rintro e w13 ⟨rfl, B13⟩
  have S13 : w12.heap.size ≤ w13.heap.size := B13.size
  have C13 := bel_trans C12 B13
  have W_13 := W_12.bel B13
  have x0_13 := x0_12.bel B13
  have x1_13 := x1_12.bel B13
  have x2_13 := x2_12.bel B13
  have G_13 := G_12.bel B13
  have y1_13 := O12.bel B13
  go_wp2_with (fail)
  refine (toIntS_any (h2.bel C13) (by omega)).mono ?_
  rintro e w14 ⟨gy2, rfl, O14, B14⟩
  have S14 : w13.heap.size ≤ w14.heap.size := B14.size
  have C14 := bel_trans C13 B14
  have W_14 := W_13.bel B14
  have x0_14 := x0_13.bel B14
  have x1_14 := x1_13.bel B14
  have x2_14 := x2_13.bel B14
  have G_14 := G_13.bel B14
  obtain ⟨Ay2, hAy2⟩ : ∃ A, A = some (⟨gy2, 0, none⟩ : Addr) := ⟨_, rfl⟩
  have by2 : ∀ a, Ay2 = some a → w13.heap.size ≤ a.block ∧ a.block < w14.heap.size := fun a ha => by rw [hAy2] at ha; cases ha; exact O14.block
  go_wp2_with (fail)
  refine (eqIntS_b x2_14.has O14.has (by omega)).mono ?_
  rintro e w15 ⟨rfl, B15⟩
  have S15 : w14.heap.size ≤ w15.heap.size := B15.size
  have C15 := bel_trans C14 B15
  have W_15 := W_14.bel B15
  have x0_15 := x0_14.bel B15
  have x1_15 := x1_14.bel B15
  have x2_15 := x2_14.bel B15
  have G_15 := G_14.bel B15
  have y2_15 := O14.bel B15
  go_wp2_with (fail)
  refine (markIntS_any (K := 1) x0_15 (by omega) (by omega)).mono ?_
  rintro e w16 ⟨rfl, _, M16⟩
  have S16 : w15.heap.size ≤ w16.heap.size := M16.size
  have N16 : w15.grownBy w16 (Ax0.map (·.block)) := by rw [hAx0]; exact M16
  have C16 := bel_grown C15 N16 (fun ad ha => by have := bx0 ad ha; omega)
  have W_16 := W_15.keep N16 (fun a ha b hb => by have h1 := bW a ha; have h2 := bx0 b hb; omega)
  have x1_16 := x1_15.keep N16 (fun a ha b hb => by have h1 := bx1 a ha; have h2 := bx0 b hb; omega)
  have x2_16 := Own.keep (A := some ⟨gx2, 0, none⟩) x2_15 N16 (fun a ha b hb => by have h1 := bx2 a (by rw [hAx2]; exact ha); have h2 := bx0 b hb; omega)
  have G_16 := G_15.keep N16 (fun a ha b hb => by have h1 := bG a ha; have h2 := bx0 b hb; omega)
  go_wp2_with (fail)
  refine (markJobS_any (K := 1 + n0) x1_16 (by omega) (by omega)).mono ?_
  rintro e w17 ⟨rfl, M17⟩
  have S17 : w16.heap.size ≤ w17.heap.size := M17.size
  have N17 : w16.grownBy w17 (Ax1.map (·.block)) := M17
  have C17 := bel_grown C16 N17 (fun ad ha => by have := bx1 ad ha; omega)
  have W_17 := W_16.keep N17 (fun a ha b hb => by have h1 := bW a ha; have h2 := bx1 b hb; omega)
  have x2_17 := Own.keep (A := some ⟨gx2, 0, none⟩) x2_16 N17 (fun a ha b hb => by have h1 := bx2 a (by rw [hAx2]; exact ha); have h2 := bx1 b hb; omega)
  have G_17 := G_16.keep N17 (fun a ha b hb => by have h1 := bG a ha; have h2 := bx1 b hb; omega)
  go_wp2_with (fail)
  refine (markIntS_any (K := 1 + n0 + 2 * n1) x2_17 (by omega) (by omega)).mono ?_
  rintro e w18 ⟨rfl, _, M18⟩
  have S18 : w17.heap.size ≤ w18.heap.size := M18.size
  have N18 : w17.grownBy w18 (Ax2.map (·.block)) := by rw [hAx2]; exact M18
  have C18 := bel_grown C17 N18 (fun ad ha => by have := bx2 ad ha; omega)
  have W_18 := W_17.keep N18 (fun a ha b hb => by have h1 := bW a ha; have h2 := bx2 b hb; omega)
  have G_18 := G_17.keep N18 (fun a ha b hb => by have h1 := bG a ha; have h2 := bx2 b hb; omega)
  have kB : decide (((1 + n0 + 2 * n1 + n2 : Nat) : Int) < 0) = false := decide_eq_false (by omega)
  have kC : decide (1 + (n0 : Int) + 2 * (n1 : Int) + (n2 : Int) < (0 : Int)) = false := decide_eq_false (by omega)
  go_wp2_with (fail)
  refine (eqIntS_b (c := cG) (c' := cW) G_18.has W_18.has (by omega)).mono ?_
  rintro e w19 ⟨rfl, B19⟩
  have S19 : w18.heap.size ≤ w19.heap.size := B19.size
  have C19 := bel_trans C18 B19
  have W_19 := W_18.bel B19
  have G_19 := G_18.bel B19
  go_wp2_with (fail)
  refine (markIntS_any (K := 1) G_19 (by omega) (by omega)).mono ?_
  rintro e w20 ⟨rfl, Gm, M20⟩
  have S20 : w19.heap.size ≤ w20.heap.size := M20.size
  have N20 : w19.grownBy w20 (AG.map (·.block)) := M20
  have C20 := bel_grown C19 N20 (fun ad ha => by have := bG ad ha; omega)
  have W_20 := W_19.keep N20 (fun a ha b hb => by have h1 := bW a ha; have h2 := bG b hb; omega)
  go_wp2_with (fail)
  refine (heldIntS_any (c := cG) (K := 1) Gm.has (by omega) (by omega)).mono ?_
  rintro e w' ⟨rfl, rfl⟩
  go_wp2_with (fail)
  refine (toIntS_any (h0.bel C20) (by omega)).mono ?_
  rintro e w21 ⟨gz0, rfl, O21, B21⟩
  have S21 : w20.heap.size ≤ w21.heap.size := B21.size
  have C21 := bel_trans C20 B21
  have W_21 := W_20.bel B21
  have G_21 := Gm.bel B21
  obtain ⟨Az0, hAz0⟩ : ∃ A, A = some (⟨gz0, 0, none⟩ : Addr) := ⟨_, rfl⟩
  have bz0 : ∀ a, Az0 = some a → w20.heap.size ≤ a.block ∧ a.block < w21.heap.size := fun a ha => by rw [hAz0] at ha; cases ha; exact O21.block
  go_wp2_with (fail)
  refine (toJobS_any (h1.bel C21) (by omega)).mono ?_
  rintro e w22 ⟨Az1, ccz1, rfl, O22, B22⟩
  have S22 : w21.heap.size ≤ w22.heap.size := B22.size
  have C22 := bel_trans C21 B22
  have W_22 := W_21.bel B22
  have G_22 := G_21.bel B22
  have z0_22 := O21.bel B22
  have bz1 : ∀ a, Az1 = some a → w21.heap.size ≤ a.block ∧ a.block < w22.heap.size := fun a ha => by subst ha; exact World.ownsRow.lt O22 a.block rfl
  go_wp2_with (fail)
  refine (toIntS_any (h2.bel C22) (by omega)).mono ?_
  rintro e w23 ⟨gz2, rfl, O23, B23⟩
  have S23 : w22.heap.size ≤ w23.heap.size := B23.size
  have C23 := bel_trans C22 B23
  have W_23 := W_22.bel B23
  have G_23 := G_22.bel B23
  have z0_23 := z0_22.bel B23
  have z1_23 := O22.bel B23
  obtain ⟨Az2, hAz2⟩ : ∃ A, A = some (⟨gz2, 0, none⟩ : Addr) := ⟨_, rfl⟩
  have bz2 : ∀ a, Az2 = some a → w22.heap.size ≤ a.block ∧ a.block < w23.heap.size := fun a ha => by rw [hAz2] at ha; cases ha; exact O23.block
  go_wp2_with (fail)
  refine (implServedBy_r z0_23.has z1_23.has O23.has (by omega) (by omega) (by omega) hR).mono ?_
  rintro e w24 ⟨AH, nH, cH, rfl, O24, B24⟩
  have S24 : w23.heap.size ≤ w24.heap.size := B24.size
  have C24 := bel_trans C23 B24
  have W_24 := W_23.bel B24
  have G_24 := G_23.bel B24
  have z0_24 := z0_23.bel B24
  have z1_24 := z1_23.bel B24
  have z2_24 := O23.bel B24
  have bH : ∀ a, AH = some a → w23.heap.size ≤ a.block ∧ a.block < w24.heap.size := fun a ha => by subst ha; exact World.ownsRow.lt O24 a.block rfl
  have hnH : nH ≤ 1000 := by have q1 := O24.has.len; omega
  go_wp2_with (fail)
  refine (eqIntS_b (c := cH) (c' := cW) O24.has W_24.has (by omega)).mono ?_
  rintro e w25 ⟨rfl, B25⟩
  have S25 : w24.heap.size ≤ w25.heap.size := B25.size
  have C25 := bel_trans C24 B25
  have W_25 := W_24.bel B25
  have G_25 := G_24.bel B25
  have H_25 := O24.bel B25
  go_wp2_with (fail)
  refine (heldIntS_any (c := cG) (K := 1) G_25.has (by omega) (by omega)).mono ?_
  rintro e w' ⟨rfl, rfl⟩
  go_wp2
  go_ret
  exact ⟨rfl, C25⟩
set_option maxRecDepth 100000 in
theorem lifted_FnExactServedBy (os : Os) (started : os.Started) (H : Type) (enc : TypeId × Value → H) :
    ReturnsInHanded {} Try.checked os 13 .any (Rows.fnExactServedBySpec.pre6 enc Try.prog Try.f13 Rows.fnExactServedByRow.domain false) (Rows.fnExactServedBySpec.post enc Try.prog Try.f13 false true false false) := by
  refine returnsInHanded_of_change (C := Try.checked) (by kernel_rfl) started (by kernel_rfl) Try.func13
    (ChangeSpec.witness6 (enc := enc) (C := Try.checked) false ⟨#[], #[.slice none 0 0, .slice none 0 0, .slice none 0 0], []⟩ 8 (by kernel_rfl) (by kernel_rfl) (by kernel_rfl) (by kernel_rfl)) ?_
  intro W base args ds gs before hval0 hW hcnd _
  have hval : ∀ (j : Nat) t v, Try.f13.params[j]? = some t → args[j]? = some v → Value.okWide Try.prog W .any base t v := hval0
  have hW' := hW
  obtain ⟨p, q, hA0, hV, rfl, hfz, hnd⟩ := hW
  have hA : DataW.TrodAll enc Try.prog W 0 (fun _ => true) true Try.f13.params.toList args.toList ds p := hA0
  rw [Try.params13] at hA hval
  obtain ⟨v0, vs0, d0, ds0, p0, q0, hargs, rfl, rfl, h0, r0⟩ := trodAll_cons hA
  obtain ⟨v1, vs1, d1, ds1, p1, q1, rfl, rfl, rfl, h1, r1⟩ := trodAll_cons r0
  obtain ⟨v2, vs2, d2, ds2, p2, q2, rfl, rfl, rfl, h2, r2⟩ := trodAll_cons r1
  obtain ⟨rfl, rfl, rfl⟩ := trodAll_nil r2
  obtain rfl : args = #[v0, v1, v2] := by cases args; simp_all
  obtain ⟨rfl, rfl⟩ := trodVars_none hV
  obtain ⟨a0, len0, cap0, rfl⟩ := okWide_slice Try.underlying23 (hval 0 23 v0 rfl rfl)
  have k0 := h0
  have lt0 : ∀ x ∈ p0, x.block < W.heap.size := by obtain ⟨m, hm⟩ := k0; exact DataW.trod_lt m _ _ _ hm
  obtain ⟨z0, H0, U0, M0⟩ := has_of_trod (k := .i64) Try.underlying23 Try.underlying3 (by kernel_rfl) h0
  obtain ⟨a1, len1, cap1, rfl⟩ := okWide_slice Try.underlying43 (hval 1 43 v1 rfl rfl)
  have k1 := h1
  have lt1 : ∀ x ∈ p1, x.block < W.heap.size := by obtain ⟨m, hm⟩ := k1; exact DataW.trod_lt m _ _ _ hm
  obtain ⟨z1, H1, U1, M1⟩ := hasD_of_trod Try.underlying43 Try.underlying79 (by kernel_rfl) (by kernel_rfl) Try.underlying3 Try.underlying3 h1
  obtain ⟨a2, len2, cap2, rfl⟩ := okWide_slice Try.underlying23 (hval 2 23 v2 rfl rfl)
  have k2 := h2
  have lt2 : ∀ x ∈ p2, x.block < W.heap.size := by obtain ⟨m, hm⟩ := k2; exact DataW.trod_lt m _ _ _ hm
  obtain ⟨z2, H2, U2, M2⟩ := has_of_trod (k := .i64) Try.underlying23 Try.underlying3 (by kernel_rfl) h2
  clear hA0 hval0
  refine (walk_FnExactServedBy H0 U0 M0 H1 U1 M1 H2 U2 M2).mono fun e W' ⟨he, bel⟩ => ?_
  subst he
  exact ⟨_, rfl, _, _, _, [], _, [], hW', trodAll_mk1 (shut_bool Try.underlying4 _), (trodAll_cons_mk (Below.trod (by kernel_rfl) (by kernel_rfl) (of_decide_eq_true (by kernel_rfl)) k0 bel lt0) (trodAll_cons_mk (Below.trod (by kernel_rfl) (by kernel_rfl) (of_decide_eq_true (by kernel_rfl)) k1 bel lt1) (trodAll_cons_mk (Below.trod (by kernel_rfl) (by kernel_rfl) (of_decide_eq_true (by kernel_rfl)) k2 bel lt2) trodAll_mk0))), rfl, bel.frame _, fun h => by cases h⟩

theorem fnExactServedBy_holds : Rows.FnExactServedBySaid :=
  OpenClaim.holds_of_wide 13 Try.f13 rfl rfl rfl rfl rfl rfl rfl ⟨rfl, rfl, rfl, rfl, rfl⟩ rfl rfl rfl rfl rfl (by kernel_rfl) Try.func13
    (by unfold joinedFacts; with_reducible refine Bool.and_eq_true_iff.2 ⟨?_, (by as_aux_lemma => kernel_rfl)⟩; with_reducible refine Bool.and_eq_true_iff.2 ⟨?_, (by as_aux_lemma => kernel_rfl)⟩; with_reducible refine Bool.and_eq_true_iff.2 ⟨?_, (by as_aux_lemma => kernel_rfl)⟩; with_reducible refine Bool.and_eq_true_iff.2 ⟨?_, (by as_aux_lemma => kernel_rfl)⟩; with_reducible refine Bool.and_eq_true_iff.2 ⟨?_, (by with_unfolding_all exact shutMake)⟩; with_reducible refine Bool.and_eq_true_iff.2 ⟨?_, (by with_unfolding_all exact shutLifts)⟩; with_reducible refine Bool.and_eq_true_iff.2 ⟨?_, shutEnter⟩; (repeat (with_reducible refine Bool.and_eq_true_iff.2 ⟨?_, (by as_aux_lemma => kernel_rfl)⟩)); as_aux_lemma => kernel_rfl)
    (of_decide_eq_true (by kernel_rfl)) (by unfold Func.isWrapper; first | (rw [if_pos (by decide +kernel)]; kernel_rfl) | (rw [if_neg (by decide +kernel)]; exact ⟨rfl, rfl⟩))
    (fun os started H enc _ => lifted_FnExactServedBy os started H enc)
end Go.Proofs.Ytpofkkenbepjpaa
