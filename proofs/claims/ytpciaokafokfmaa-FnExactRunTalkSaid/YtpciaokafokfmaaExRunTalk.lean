/-
  FnExactRunTalk: for every argument the exact law of RunTalk returns true and writes nothing that was there. No condition.
-/
import Derived.Test.YtpciaokafokfmaaImp9g
import Derived.Test.YtpciaokafokfmaaTalkE
import Derived.Test.YtpciaokafokfmaaTalkL
import Derived.Test.YtpciaokafokfmaaShut
namespace Go.Proofs.Ytpciaokafokfmaa
open Go.RowKit Go.ChangeShapes Go.WideShapes Go.ChangeAt

set_option maxHeartbeats 8000000 in
set_option maxRecDepth 100000 in
theorem walk_FnExactRunTalk {A0 : Option Addr} {n0 c0 : Nat} {zs0 : List Int} {A1 : Option Addr} {n1 c1 : Nat} {zs1 : List Int} {a2 : Int} {w : World} (h0 : Has w A0 n0 (ints .i64 zs0)) (_ : ∀ z ∈ zs0, (Lit.int .i64 z).wf = true) (_ : n0 ≤ c0 ∧ c0 ≤ maxLen) (h1 : Has w A1 n1 (ints .i64 zs1)) (_ : ∀ z ∈ zs1, (Lit.int .i64 z).wf = true) (_ : n1 ≤ c1 ∧ c1 ≤ maxLen) (_ : -9223372036854775808 ≤ a2 ∧ a2 ≤ 9223372036854775807) :
    Calls Try.prog 12 #[.slice A0 n0 c0, .slice A1 n1 c1, .int .i64 a2] w fun e w' => e = .returned (.bool true) ∧ Below w.heap.size w w' := by
  by_cases hn0 : n0 ≤ 1048576
  rotate_left
  · go_enter Try.func12, Try.ntmps12
    go_wp2
    go_ret
    exact ⟨rfl, Below.refl _ _⟩
  by_cases hn1 : n1 ≤ 1048576
  rotate_left
  · go_enter Try.func12, Try.ntmps12
    go_wp2
    go_ret
    exact ⟨rfl, Below.refl _ _⟩
  obtain ⟨os, hos⟩ : ∃ os, talkO zs0 zs1 a2 = os := ⟨_, rfl⟩
  have HOL := Lib.hid (show os.length ≤ 2000 by rw [← hos]; have := talk_b zs0 zs1 a2; omega)
  obtain ⟨hh, hhh⟩ : ∃ hh : Int, (talkH zs0 zs1 a2 : Int) = hh := ⟨_, rfl⟩
  obtain ⟨ss, hss⟩ : ∃ ss : Int, (talkN zs0 zs1 a2 : Int) = ss := ⟨_, rfl⟩
  obtain ⟨dd, hdd⟩ : ∃ dd, talkD zs0 zs1 a2 = dd := ⟨_, rfl⟩
  obtain ⟨ok, hok⟩ : ∃ ok, talkRunOk zs0 zs1 a2 = ok := ⟨_, rfl⟩
  have HSP := Lib.hid (fun (A : Option Addr) (n c : Nat) (D : Option Addr) (m d : Nat) (W : World) (h : Has W A n (ints .i64 zs0)) (hn : n ≤ 16777216) (k : Has W D m (ints .i64 zs1)) (hm : m ≤ 16777216) (hc : m ≤ d) (hl : ∀ x, D = some x → x.block < W.heap.size) => show Calls Try.prog 18 #[.slice A n c, .slice D m d, .int .i64 a2] W fun e w' => ∃ A' n' c', e = .returned (.tuple #[.agg #[.slice A' n' c', .int .i64 hh, .int .i64 ss, .bool dd], .bool ok]) ∧ Own w' W.heap.size 3 A' n' c' (ints .i64 os) ∧ Below W.heap.size W w' by rw [← hhh, ← hss, ← hdd, ← hok, ← hos]; exact specRunTalk_w h hn k hm hc hl)
  have HIM := Lib.hid (fun (A : Option Addr) (n c : Nat) (D : Option Addr) (m d : Nat) (W : World) (h : Has W A n (ints .i64 zs0)) (hn : n ≤ 16777216) (k : Has W D m (ints .i64 zs1)) (hm : m ≤ 16777216) (hc : m ≤ d) (hl : ∀ x, D = some x → x.block < W.heap.size) => show Calls Try.prog 17 #[.slice A n c, .slice D m d, .int .i64 a2] W fun e w' => ∃ A' n' c', e = .returned (.tuple #[.agg #[.slice A' n' c', .int .i64 hh, .int .i64 ss, .bool dd], .bool ok]) ∧ Own w' W.heap.size 3 A' n' c' (ints .i64 os) ∧ Below W.heap.size W w' by rw [← hhh, ← hss, ← hdd, ← hok, ← hos]; exact implRunTalk_w h hn k hm hc hl)
  clear hos hhh hss hdd hok
  have B0 : Below w.heap.size w w := Below.refl _ _
  have hokB : (ok != ok) = false := by simp
  go_enter Try.func12, Try.ntmps12
  go_wp2_with (fail)
  refine (toIntS_any (h0.bel B0) (by omega)).mono ?_
  rintro e w1 ⟨gp0, rfl, O1, B1⟩
  have S1 : w.heap.size ≤ w1.heap.size := B1.size
  have C1 := bel_trans B0 B1
  go_wp2_with (fail)
  refine (toIntS_any (h1.bel C1) (by omega)).mono ?_
  rintro e w2 ⟨gp1, rfl, O2, B2⟩
  have S2 : w1.heap.size ≤ w2.heap.size := B2.size
  have C2 := bel_trans C1 B2
  have p0_2 := O1.bel B2
  go_wp2_with (fail)
  refine ((HSP.out _ _ _ _ _ _ _ p0_2.has (by omega) O2.has (by omega) O2.cap O2.lt)).mono ?_
  rintro e w3 ⟨AW, nW, cW, rfl, O3, B3⟩
  have S3 : w2.heap.size ≤ w3.heap.size := B3.size
  have C3 := bel_trans C2 B3
  have p0_3 := p0_2.bel B3
  have p1_3 := O2.bel B3
  have hnW : nW ≤ 2000 := by have q1 := O3.has.len; have q2 := HOL.out; omega
  obtain ⟨w4, hw4⟩ : ∃ W, w3.alloc (.cells #[.slice AW nW cW, .int .i64 hh, .int .i64 ss, .bool dd] 27) = W := ⟨_, rfl⟩
  have B4 : Below w3.heap.size w3 w4 := hw4 ▸ below_alloc9 w3 _
  have KW : RunRow w4 w3.heap.size AW nW cW hh ss dd := hw4 ▸ runRow_alloc w3 AW nW cW hh ss dd
  have S4 : w3.heap.size ≤ w4.heap.size := B4.size
  have C4 := bel_trans C3 B4
  have p0_4 := p0_3.bel B4
  have p1_4 := p1_3.bel B4
  have W_4 := O3.bel B4
  obtain ⟨Wc0, Wc1, Wc2, Wc3⟩ := KW.cells
  go_wp2_with (fail)
  refine (toIntS_any (h0.bel C4) (by omega)).mono ?_
  clear Wc0 Wc1 Wc2 Wc3
  rintro e w5 ⟨gx0, rfl, O5, B5⟩
  have S5 : w4.heap.size ≤ w5.heap.size := B5.size
  have C5 := bel_trans C4 B5
  have W_5 := W_4.bel B5
  have KW_5 := KW.bel B5
  obtain ⟨Wc0, Wc1, Wc2, Wc3⟩ := KW_5.cells
  go_wp2_with (fail)
  refine (toIntS_any (h1.bel C5) (by omega)).mono ?_
  clear Wc0 Wc1 Wc2 Wc3
  rintro e w6 ⟨gx1, rfl, O6, B6⟩
  have S6 : w5.heap.size ≤ w6.heap.size := B6.size
  have C6 := bel_trans C5 B6
  have W_6 := W_5.bel B6
  have x0_6 := O5.bel B6
  have KW_6 := KW_5.bel B6
  obtain ⟨Wc0, Wc1, Wc2, Wc3⟩ := KW_6.cells
  go_wp2_with (fail)
  refine ((HIM.out _ _ _ _ _ _ _ x0_6.has (by omega) O6.has (by omega) O6.cap O6.lt)).mono ?_
  clear Wc0 Wc1 Wc2 Wc3
  rintro e w7 ⟨AG, nG, cG, rfl, O7, B7⟩
  have S7 : w6.heap.size ≤ w7.heap.size := B7.size
  have C7 := bel_trans C6 B7
  have W_7 := W_6.bel B7
  have x0_7 := x0_6.bel B7
  have x1_7 := O6.bel B7
  have KW_7 := KW_6.bel B7
  have hnG : nG ≤ 2000 := by have q1 := O7.has.len; have q2 := HOL.out; omega
  obtain ⟨w8, hw8⟩ : ∃ W, w7.alloc (.cells #[.slice AG nG cG, .int .i64 hh, .int .i64 ss, .bool dd] 27) = W := ⟨_, rfl⟩
  have B8 : Below w7.heap.size w7 w8 := hw8 ▸ below_alloc9 w7 _
  have KG : RunRow w8 w7.heap.size AG nG cG hh ss dd := hw8 ▸ runRow_alloc w7 AG nG cG hh ss dd
  have S8 : w7.heap.size ≤ w8.heap.size := B8.size
  have C8 := bel_trans C7 B8
  have W_8 := W_7.bel B8
  have x0_8 := x0_7.bel B8
  have x1_8 := x1_7.bel B8
  have G_8 := O7.bel B8
  have KW_8 := KW_7.bel B8
  obtain ⟨Wc0, Wc1, Wc2, Wc3⟩ := KW_8.cells
  obtain ⟨Gc0, Gc1, Gc2, Gc3⟩ := KG.cells
  go_wp2_with (fail)
  refine (eqTalkRun_b (c := cG) (c' := cW) G_8.has W_8.has (by omega)).mono ?_
  clear Wc0 Wc1 Wc2 Wc3
  clear Gc0 Gc1 Gc2 Gc3
  rintro e w9 ⟨rfl, B9⟩
  have S9 : w8.heap.size ≤ w9.heap.size := B9.size
  have C9 := bel_trans C8 B9
  have W_9 := W_8.bel B9
  have x0_9 := x0_8.bel B9
  have x1_9 := x1_8.bel B9
  have G_9 := G_8.bel B9
  have KW_9 := KW_8.bel B9
  have KG_9 := KG.bel B9
  obtain ⟨Wc0, Wc1, Wc2, Wc3⟩ := KW_9.cells
  obtain ⟨Gc0, Gc1, Gc2, Gc3⟩ := KG_9.cells
  go_wp2_with (fail)
  refine (toIntS_any (h0.bel C9) (by omega)).mono ?_
  clear Wc0 Wc1 Wc2 Wc3
  clear Gc0 Gc1 Gc2 Gc3
  rintro e w10 ⟨gy0, rfl, O10, B10⟩
  have S10 : w9.heap.size ≤ w10.heap.size := B10.size
  have C10 := bel_trans C9 B10
  have W_10 := W_9.bel B10
  have x0_10 := x0_9.bel B10
  have x1_10 := x1_9.bel B10
  have G_10 := G_9.bel B10
  have KW_10 := KW_9.bel B10
  have KG_10 := KG_9.bel B10
  obtain ⟨Wc0, Wc1, Wc2, Wc3⟩ := KW_10.cells
  obtain ⟨Gc0, Gc1, Gc2, Gc3⟩ := KG_10.cells
  go_wp2_with (fail)
  refine (eqIntS_b x0_10.has O10.has (by omega)).mono ?_
  clear Wc0 Wc1 Wc2 Wc3
  clear Gc0 Gc1 Gc2 Gc3
  rintro e w11 ⟨rfl, B11⟩
  have S11 : w10.heap.size ≤ w11.heap.size := B11.size
  have C11 := bel_trans C10 B11
  have W_11 := W_10.bel B11
  have x0_11 := x0_10.bel B11
  have x1_11 := x1_10.bel B11
  have G_11 := G_10.bel B11
  have y0_11 := O10.bel B11
  have KW_11 := KW_10.bel B11
  have KG_11 := KG_10.bel B11
  obtain ⟨Wc0, Wc1, Wc2, Wc3⟩ := KW_11.cells
  obtain ⟨Gc0, Gc1, Gc2, Gc3⟩ := KG_11.cells
  go_wp2_with (fail)
  refine (toIntS_any (h1.bel C11) (by omega)).mono ?_
  clear Wc0 Wc1 Wc2 Wc3
  clear Gc0 Gc1 Gc2 Gc3
  rintro e w12 ⟨gy1, rfl, O12, B12⟩
  have S12 : w11.heap.size ≤ w12.heap.size := B12.size
  have C12 := bel_trans C11 B12
  have W_12 := W_11.bel B12
  have x0_12 := x0_11.bel B12
  have x1_12 := x1_11.bel B12
  have G_12 := G_11.bel B12
  have KW_12 := KW_11.bel B12
  have KG_12 := KG_11.bel B12
  obtain ⟨Wc0, Wc1, Wc2, Wc3⟩ := KW_12.cells
  obtain ⟨Gc0, Gc1, Gc2, Gc3⟩ := KG_12.cells
  go_wp2_with (fail)
  refine (eqIntS_b x1_12.has O12.has (by omega)).mono ?_
  clear Wc0 Wc1 Wc2 Wc3
  clear Gc0 Gc1 Gc2 Gc3
  rintro e w13 ⟨rfl, B13⟩
  have S13 : w12.heap.size ≤ w13.heap.size := B13.size
  have C13 := bel_trans C12 B13
  have W_13 := W_12.bel B13
  have x0_13 := x0_12.bel B13
  have x1_13 := x1_12.bel B13
  have G_13 := G_12.bel B13
  have y1_13 := O12.bel B13
  have KW_13 := KW_12.bel B13
  have KG_13 := KG_12.bel B13
  obtain ⟨Wc0, Wc1, Wc2, Wc3⟩ := KW_13.cells
  obtain ⟨Gc0, Gc1, Gc2, Gc3⟩ := KG_13.cells
  go_wp2_with (fail)
  refine (markIntS_any x0_13 (K := 1) (by omega) (by omega)).mono ?_
  clear Wc0 Wc1 Wc2 Wc3
  clear Gc0 Gc1 Gc2 Gc3
  rintro e w14 ⟨rfl, x0_14, M14⟩
  have S14 : w13.heap.size ≤ w14.heap.size := M14.size
  have C14 := bel_grown C13 M14 (O5.ge (by omega))
  have W_14 := W_13.earlier (z := w3) O3.lt (O5.ge (by omega)) M14
  have x1_14 := x1_13.later (fun ad hh => by have := O5.lt ad hh; omega) M14
  have G_14 := G_13.later (fun ad hh => by have := O5.lt ad hh; omega) M14
  have KW_14 := KW_13.grown M14 (own_run x0_13 KW_13)
  have KG_14 := KG_13.grown M14 (own_run x0_13 KG_13)
  obtain ⟨Wc0, Wc1, Wc2, Wc3⟩ := KW_14.cells
  obtain ⟨Gc0, Gc1, Gc2, Gc3⟩ := KG_14.cells
  go_wp2_with (fail)
  refine (markIntS_any x1_14 (K := 1 + n0) (by omega) (by omega)).mono ?_
  clear Wc0 Wc1 Wc2 Wc3
  clear Gc0 Gc1 Gc2 Gc3
  rintro e w15 ⟨rfl, x1_15, M15⟩
  have S15 : w14.heap.size ≤ w15.heap.size := M15.size
  have C15 := bel_grown C14 M15 (O6.ge (by omega))
  have W_15 := W_14.earlier (z := w3) O3.lt (O6.ge (by omega)) M15
  have G_15 := G_14.later (fun ad hh => by have := O6.lt ad hh; omega) M15
  have KW_15 := KW_14.grown M15 (own_run x1_14 KW_14)
  have KG_15 := KG_14.grown M15 (own_run x1_14 KG_14)
  have hkB : decide (((1 + n0 + n1 : Nat) : Int) < 0) = false := by simp; omega
  obtain ⟨Wc0, Wc1, Wc2, Wc3⟩ := KW_15.cells
  obtain ⟨Gc0, Gc1, Gc2, Gc3⟩ := KG_15.cells
  go_wp2_with (fail)
  refine (eqTalkRun_b (c := cG) (c' := cW) G_15.has W_15.has (by omega)).mono ?_
  clear Wc0 Wc1 Wc2 Wc3
  clear Gc0 Gc1 Gc2 Gc3
  rintro e w16 ⟨rfl, B16⟩
  have S16 : w15.heap.size ≤ w16.heap.size := B16.size
  have C16 := bel_trans C15 B16
  have W_16 := W_15.bel B16
  have G_16 := G_15.bel B16
  have KW_16 := KW_15.bel B16
  have KG_16 := KG_15.bel B16
  obtain ⟨Wc0, Wc1, Wc2, Wc3⟩ := KW_16.cells
  obtain ⟨Gc0, Gc1, Gc2, Gc3⟩ := KG_16.cells
  go_wp2_with (fail)
  refine (markTalkRun_any (c := cG) G_16 (K := 1) (by omega) (by omega)).mono ?_
  clear Wc0 Wc1 Wc2 Wc3
  clear Gc0 Gc1 Gc2 Gc3
  rintro e w17 ⟨rfl, G_17, M17⟩
  have S17 : w16.heap.size ≤ w17.heap.size := M17.size
  have C17 := bel_grown C16 M17 (O7.ge (by omega))
  have W_17 := W_16.earlier (z := w3) O3.lt (O7.ge (by omega)) M17
  have KW_17 := KW_16.grown M17 (own_run G_16 KW_16)
  have KG_17 := KG_16.grown M17 (own_run G_16 KG_16)
  obtain ⟨Wc0, Wc1, Wc2, Wc3⟩ := KW_17.cells
  obtain ⟨Gc0, Gc1, Gc2, Gc3⟩ := KG_17.cells
  go_wp2_with (fail)
  refine (heldTalkRun_any (c := cG) G_17.has (by omega) (by omega)).mono ?_
  clear Wc0 Wc1 Wc2 Wc3
  clear Gc0 Gc1 Gc2 Gc3
  rintro e w18 ⟨rfl, B18⟩
  have S18 : w17.heap.size ≤ w18.heap.size := B18.size
  have C18 := bel_trans C17 B18
  have W_18 := W_17.bel B18
  have G_18 := G_17.bel B18
  have KW_18 := KW_17.bel B18
  have KG_18 := KG_17.bel B18
  have hgB : decide (((1 + nG : Nat) : Int) < 0) = false := by simp; omega
  have hmB : (((1 + nG : Nat) : Int) != ((1 + nG : Nat) : Int)) = false := by simp
  obtain ⟨Wc0, Wc1, Wc2, Wc3⟩ := KW_18.cells
  obtain ⟨Gc0, Gc1, Gc2, Gc3⟩ := KG_18.cells
  go_wp2_with (fail)
  refine (toIntS_any (h0.bel C18) (by omega)).mono ?_
  clear Wc0 Wc1 Wc2 Wc3
  clear Gc0 Gc1 Gc2 Gc3
  rintro e w19 ⟨gz0, rfl, O19, B19⟩
  have S19 : w18.heap.size ≤ w19.heap.size := B19.size
  have C19 := bel_trans C18 B19
  have W_19 := W_18.bel B19
  have G_19 := G_18.bel B19
  have KW_19 := KW_18.bel B19
  have KG_19 := KG_18.bel B19
  obtain ⟨Wc0, Wc1, Wc2, Wc3⟩ := KW_19.cells
  obtain ⟨Gc0, Gc1, Gc2, Gc3⟩ := KG_19.cells
  go_wp2_with (fail)
  refine (toIntS_any (h1.bel C19) (by omega)).mono ?_
  clear Wc0 Wc1 Wc2 Wc3
  clear Gc0 Gc1 Gc2 Gc3
  rintro e w20 ⟨gz1, rfl, O20, B20⟩
  have S20 : w19.heap.size ≤ w20.heap.size := B20.size
  have C20 := bel_trans C19 B20
  have W_20 := W_19.bel B20
  have G_20 := G_19.bel B20
  have z0_20 := O19.bel B20
  have KW_20 := KW_19.bel B20
  have KG_20 := KG_19.bel B20
  obtain ⟨Wc0, Wc1, Wc2, Wc3⟩ := KW_20.cells
  obtain ⟨Gc0, Gc1, Gc2, Gc3⟩ := KG_20.cells
  go_wp2_with (fail)
  refine ((HIM.out _ _ _ _ _ _ _ z0_20.has (by omega) O20.has (by omega) O20.cap O20.lt)).mono ?_
  clear Wc0 Wc1 Wc2 Wc3
  clear Gc0 Gc1 Gc2 Gc3
  rintro e w21 ⟨AH, nH, cH, rfl, O21, B21⟩
  have S21 : w20.heap.size ≤ w21.heap.size := B21.size
  have C21 := bel_trans C20 B21
  have W_21 := W_20.bel B21
  have G_21 := G_20.bel B21
  have z0_21 := z0_20.bel B21
  have z1_21 := O20.bel B21
  have KW_21 := KW_20.bel B21
  have KG_21 := KG_20.bel B21
  have hnH : nH ≤ 2000 := by have q1 := O21.has.len; have q2 := HOL.out; omega
  obtain ⟨w22, hw22⟩ : ∃ W, w21.alloc (.cells #[.slice AH nH cH, .int .i64 hh, .int .i64 ss, .bool dd] 27) = W := ⟨_, rfl⟩
  have B22 : Below w21.heap.size w21 w22 := hw22 ▸ below_alloc9 w21 _
  have KH : RunRow w22 w21.heap.size AH nH cH hh ss dd := hw22 ▸ runRow_alloc w21 AH nH cH hh ss dd
  have S22 : w21.heap.size ≤ w22.heap.size := B22.size
  have C22 := bel_trans C21 B22
  have W_22 := W_21.bel B22
  have G_22 := G_21.bel B22
  have z0_22 := z0_21.bel B22
  have z1_22 := z1_21.bel B22
  have H_22 := O21.bel B22
  have KW_22 := KW_21.bel B22
  have KG_22 := KG_21.bel B22
  obtain ⟨Wc0, Wc1, Wc2, Wc3⟩ := KW_22.cells
  obtain ⟨Gc0, Gc1, Gc2, Gc3⟩ := KG_22.cells
  obtain ⟨Hc0, Hc1, Hc2, Hc3⟩ := KH.cells
  go_wp2_with (fail)
  refine (eqTalkRun_b (c := cH) (c' := cW) H_22.has W_22.has (by omega)).mono ?_
  clear Wc0 Wc1 Wc2 Wc3
  clear Gc0 Gc1 Gc2 Gc3
  clear Hc0 Hc1 Hc2 Hc3
  rintro e w23 ⟨rfl, B23⟩
  have S23 : w22.heap.size ≤ w23.heap.size := B23.size
  have C23 := bel_trans C22 B23
  have W_23 := W_22.bel B23
  have G_23 := G_22.bel B23
  have H_23 := H_22.bel B23
  have KW_23 := KW_22.bel B23
  have KG_23 := KG_22.bel B23
  have KH_23 := KH.bel B23
  obtain ⟨Wc0, Wc1, Wc2, Wc3⟩ := KW_23.cells
  obtain ⟨Gc0, Gc1, Gc2, Gc3⟩ := KG_23.cells
  obtain ⟨Hc0, Hc1, Hc2, Hc3⟩ := KH_23.cells
  go_wp2_with (fail)
  refine (heldTalkRun_any (c := cG) G_23.has (by omega) (by omega)).mono ?_
  clear Wc0 Wc1 Wc2 Wc3
  clear Gc0 Gc1 Gc2 Gc3
  clear Hc0 Hc1 Hc2 Hc3
  rintro e w24 ⟨rfl, B24⟩
  have S24 : w23.heap.size ≤ w24.heap.size := B24.size
  have C24 := bel_trans C23 B24
  have W_24 := W_23.bel B24
  have G_24 := G_23.bel B24
  have H_24 := H_23.bel B24
  have KW_24 := KW_23.bel B24
  have KG_24 := KG_23.bel B24
  have KH_24 := KH_23.bel B24
  obtain ⟨Wc0, Wc1, Wc2, Wc3⟩ := KW_24.cells
  obtain ⟨Gc0, Gc1, Gc2, Gc3⟩ := KG_24.cells
  obtain ⟨Hc0, Hc1, Hc2, Hc3⟩ := KH_24.cells
  go_wp2
  go_ret
  exact ⟨rfl, C24⟩
set_option maxRecDepth 100000 in
theorem lifted_FnExactRunTalk (os : Os) (started : os.Started) (H : Type) (enc : TypeId × Value → H) :
    ReturnsInHanded {} Try.checked os 12 .any (Rows.fnExactRunTalkSpec.pre6 enc Try.prog Try.f12 Rows.fnExactRunTalkRow.domain false) (Rows.fnExactRunTalkSpec.post enc Try.prog Try.f12 false true false false) := by
  refine returnsInHanded_of_change (C := Try.checked) (by kernel_rfl) started (by kernel_rfl) Try.func12
    (ChangeSpec.witness6 (enc := enc) (C := Try.checked) false ⟨#[], #[.slice none 0 0, .slice none 0 0, .int .i64 0], []⟩ 8 (by kernel_rfl) (by kernel_rfl) (by kernel_rfl) (by kernel_rfl)) ?_
  intro W base args ds gs before hval0 hW hcnd _
  have hval : ∀ (j : Nat) t v, Try.f12.params[j]? = some t → args[j]? = some v → Value.okWide Try.prog W .any base t v := hval0
  have hW' := hW
  obtain ⟨p, q, hA0, hV, rfl, hfz, hnd⟩ := hW
  have hA : DataW.TrodAll enc Try.prog W 0 (fun _ => true) true Try.f12.params.toList args.toList ds p := hA0
  rw [Try.params12] at hA hval
  obtain ⟨v0, vs0, d0, ds0, p0, q0, hargs, rfl, rfl, h0, r0⟩ := trodAll_cons hA
  obtain ⟨v1, vs1, d1, ds1, p1, q1, rfl, rfl, rfl, h1, r1⟩ := trodAll_cons r0
  obtain ⟨v2, vs2, d2, ds2, p2, q2, rfl, rfl, rfl, h2, r2⟩ := trodAll_cons r1
  obtain ⟨rfl, rfl, rfl⟩ := trodAll_nil r2
  obtain rfl : args = #[v0, v1, v2] := by cases args; simp_all
  obtain ⟨rfl, rfl⟩ := trodVars_none hV
  obtain ⟨a0, len0, cap0, rfl⟩ := okWide_slice Try.underlying23 (hval 0 23 v0 rfl rfl)
  have k0 := h0
  have lt0 : ∀ x ∈ p0, x.block < W.heap.size := by obtain ⟨m, hm⟩ := k0; exact DataW.trod_lt m _ _ _ hm
  obtain ⟨z0, H0, U0, M0⟩ := has_of_trod (k := .i64) Try.underlying23 Try.underlying3 (by kernel_rfl) h0
  obtain ⟨a1, len1, cap1, rfl⟩ := okWide_slice Try.underlying23 (hval 1 23 v1 rfl rfl)
  have k1 := h1
  have lt1 : ∀ x ∈ p1, x.block < W.heap.size := by obtain ⟨m, hm⟩ := k1; exact DataW.trod_lt m _ _ _ hm
  obtain ⟨z1, H1, U1, M1⟩ := has_of_trod (k := .i64) Try.underlying23 Try.underlying3 (by kernel_rfl) h1
  obtain ⟨a2, rfl, rfl, rfl, w2⟩ := open_int Try.underlying3 (hval 2 3 v2 rfl rfl) h2
  have b2 := i64_of_wf w2
  clear hA0 hval0
  refine (walk_FnExactRunTalk H0 U0 M0 H1 U1 M1 b2).mono fun e W' ⟨he, bel⟩ => ?_
  subst he
  exact ⟨_, rfl, _, _, _, [], _, [], hW', trodAll_mk1 (shut_bool Try.underlying4 _), (trodAll_cons_mk (Below.trod (by kernel_rfl) (by kernel_rfl) (of_decide_eq_true (by kernel_rfl)) k0 bel lt0) (trodAll_cons_mk (Below.trod (by kernel_rfl) (by kernel_rfl) (of_decide_eq_true (by kernel_rfl)) k1 bel lt1) (trodAll_cons_mk (shut_int Try.underlying3 w2) trodAll_mk0))), rfl, bel.frame _, fun h => by cases h⟩

theorem fnExactRunTalk_holds : Rows.FnExactRunTalkSaid :=
  OpenClaim.holds_of_wide 12 Try.f12 rfl rfl rfl rfl rfl rfl rfl ⟨rfl, rfl, rfl, rfl, rfl⟩ rfl rfl rfl rfl rfl (by kernel_rfl) Try.func12
    (by unfold joinedFacts; with_reducible refine Bool.and_eq_true_iff.2 ⟨?_, (by as_aux_lemma => kernel_rfl)⟩; with_reducible refine Bool.and_eq_true_iff.2 ⟨?_, (by as_aux_lemma => kernel_rfl)⟩; with_reducible refine Bool.and_eq_true_iff.2 ⟨?_, (by as_aux_lemma => kernel_rfl)⟩; with_reducible refine Bool.and_eq_true_iff.2 ⟨?_, (by as_aux_lemma => kernel_rfl)⟩; with_reducible refine Bool.and_eq_true_iff.2 ⟨?_, (by with_unfolding_all exact shutMake)⟩; with_reducible refine Bool.and_eq_true_iff.2 ⟨?_, (by with_unfolding_all exact shutLifts)⟩; with_reducible refine Bool.and_eq_true_iff.2 ⟨?_, shutEnter⟩; (repeat (with_reducible refine Bool.and_eq_true_iff.2 ⟨?_, (by as_aux_lemma => kernel_rfl)⟩)); as_aux_lemma => kernel_rfl)
    (of_decide_eq_true (by kernel_rfl)) (by unfold Func.isWrapper; first | (rw [if_pos (by decide +kernel)]; kernel_rfl) | (rw [if_neg (by decide +kernel)]; exact ⟨rfl, rfl⟩))
    (fun os started H enc _ => lifted_FnExactRunTalk os started H enc)
end Go.Proofs.Ytpciaokafokfmaa
