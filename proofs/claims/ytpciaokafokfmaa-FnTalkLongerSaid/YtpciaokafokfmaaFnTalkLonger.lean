/-
  FnTalkLonger: for every slice of bytes the law returns true and writes nothing that was there. No condition.
-/
import Derived.Test.YtpciaokafokfmaaImp9b
import Derived.Test.YtpciaokafokfmaaImp9g
import Derived.Test.YtpciaokafokfmaaTalkE
import Derived.Test.YtpciaokafokfmaaDrawTalk
import Derived.Test.YtpciaokafokfmaaWnInts
import Derived.Test.YtpciaokafokfmaaTalkL
import Derived.Test.YtpciaokafokfmaaShut
namespace Go.Proofs.Ytpciaokafokfmaa
open Go.RowKit Go.ChangeShapes Go.WideShapes Go.ChangeAt

set_option maxHeartbeats 400000 in
theorem wnInts_still {A A' : Option Addr} {n c n' c' : Nat} {zs : List Int} {w : World} (h : Has w A n (ints .i64 zs)) (h' : Has w A' n' (ints .i64 zs)) (hn : n ≤ 16777216) :
    Calls Try.prog 19 #[.slice A n c, .slice A' n' c'] w fun e w' => e = .returned (.bool true) ∧ w = w' := by
  obtain rfl : n' = n := by have := h.1; have := h'.1; omega
  go_enter Try.func19, Try.ntmps19
  go_wp2
  go_loop [14] (fun i => ∃ k : Nat, k ≤ n' ∧ i = .int .i64 k) (fun i => n' - (intOf i).toNat)
  case atStart => exact ⟨0, Nat.zero_le _, rfl⟩
  case round =>
    obtain ⟨k, hk, rfl⟩ := hrel
    by_cases hlt : k < n'
    · obtain ⟨b, o, z, rfl, hbl, hx, hc⟩ := h.at_ hlt
      obtain ⟨b', o', z', rfl, hbl', hx', hc'⟩ := h'.at_ hlt
      obtain rfl : z = z' := by rw [hx] at hx'; injection hx'
      clear hx hx'
      go_wp2
      go_round
      case rel => exact ⟨k + 1, by omega, by go_num⟩
      case measure => simp [intOf]; omega
    · obtain rfl : k = n' := by omega
      go_wp2
      go_ret
      exact ⟨rfl, rfl⟩
set_option maxHeartbeats 16000000 in
set_option maxRecDepth 100000 in
theorem walk_FnTalkLonger {A0 : Option Addr} {n0 c0 : Nat} {zs0 : List Int} {w : World} (h0 : Has w A0 n0 (ints .u8 zs0)) (hwf0 : ∀ z ∈ zs0, (Lit.int .u8 z).wf = true) (hc0 : n0 ≤ c0 ∧ c0 ≤ maxLen) :
    Calls Try.prog 5 #[.slice A0 n0 c0] w fun e w' => e = .returned (.bool true) ∧ Below w.heap.size w w' := by
  have hu0 : U8s zs0 := fun z hz => u8_of_wf (hwf0 z hz)
  clear hwf0
  by_cases hn0 : n0 ≤ 1048576
  rotate_left
  · go_enter Try.func5, Try.ntmps5
    go_wp2
    go_ret
    exact ⟨rfl, Below.refl _ _⟩
  go_enter Try.func5, Try.ntmps5
  go_wp2_with (fail)
  refine (drawRunTalk_any h0 hu0 hc0).mono ?_
  rintro e w1 hX
  unfold IntsTN at hX
  obtain ⟨AQ, nQ, cQ, qs, AD, nD, cD, ds, sl, rfl, OQ, hnQ, OD, hnD, hsb, B1⟩ := hX
  have S1 : w.heap.size ≤ w1.heap.size := B1.size
  have C1 := B1
  have HQL := Lib.hid OQ.has.len
  obtain ⟨os, hos⟩ : ∃ os, talkO qs ds sl = os := ⟨_, rfl⟩
  obtain ⟨hh, hH⟩ : ∃ x : Int, (talkH qs ds sl : Int) = x := ⟨_, rfl⟩
  obtain ⟨ss, hN⟩ : ∃ x : Int, (talkN qs ds sl : Int) = x := ⟨_, rfl⟩
  obtain ⟨dd, hdd⟩ : ∃ dd, talkD qs ds sl = dd := ⟨_, rfl⟩
  obtain ⟨ok, hok⟩ : ∃ ok, talkRunOk qs ds sl = ok := ⟨_, rfl⟩
  obtain ⟨m, hm⟩ : ∃ m, os.length = m := ⟨_, rfl⟩
  have HM := Lib.hid hm
  have htb : (m : Int) + hh ≤ ss ∧ ss ≤ 2000 ∧ 0 ≤ hh ∧ (ok = true → ss ≤ sl) := by
    have h1 := talk_b qs ds sl
    rw [hos, hm, hok] at h1
    refine ⟨by omega, by omega, by omega, fun h => ?_⟩
    have h2 := h1.2.2 h
    have h3 := (talkRunOk_iff.1 (hok.trans h)).2.2
    omega
  have HTB := Lib.hid htb
  have hm2 : m ≤ 2000 := by omega
  have HSP := Lib.hid (fun (A : Option Addr) (n c : Nat) (D : Option Addr) (m d : Nat) (W : World) (h : Has W A n (ints .i64 qs)) (hn : n ≤ 16777216) (k : Has W D m (ints .i64 ds)) (hm : m ≤ 16777216) (hc : m ≤ d) (hl : ∀ x, D = some x → x.block < W.heap.size) => show Calls Try.prog 18 #[.slice A n c, .slice D m d, .int .i64 sl] W fun e w' => ∃ A' n' c', e = .returned (.tuple #[.agg #[.slice A' n' c', .int .i64 hh, .int .i64 ss, .bool dd], .bool ok]) ∧ Own w' W.heap.size 3 A' n' c' (ints .i64 os) ∧ Below W.heap.size W w' by rw [← hH, ← hN, ← hdd, ← hok, ← hos]; exact specRunTalk_w h hn k hm hc hl)
  have HIM := Lib.hid (fun (A : Option Addr) (n c : Nat) (D : Option Addr) (m d : Nat) (W : World) (h : Has W A n (ints .i64 qs)) (hn : n ≤ 16777216) (k : Has W D m (ints .i64 ds)) (hm : m ≤ 16777216) (hc : m ≤ d) (hl : ∀ x, D = some x → x.block < W.heap.size) => show Calls Try.prog 17 #[.slice A n c, .slice D m d, .int .i64 sl] W fun e w' => ∃ A' n' c', e = .returned (.tuple #[.agg #[.slice A' n' c', .int .i64 hh, .int .i64 ss, .bool dd], .bool ok]) ∧ Own w' W.heap.size 3 A' n' c' (ints .i64 os) ∧ Below W.heap.size W w' by rw [← hH, ← hN, ← hdd, ← hok, ← hos]; exact implRunTalk_w h hn k hm hc hl)
  have HALL : Hid (ok = true → ∃ (mm : Int) (os2 : List Int) (hh2 ss2 : Int) (dd2 : Bool), 0 ≤ sl ∧ sl ≤ 2000 ∧ min (2 * sl) 2000 = mm ∧ os2.length ≤ 2000 ∧ (dd = true → os2 = os ∧ ss2 = ss) ∧ (∃ p, os2 = os ++ p) ∧ hh ≤ hh2 ∧ ∀ (A : Option Addr) (n c : Nat) (D : Option Addr) (m d : Nat) (W : World) (_ : Has W A n (ints .i64 qs)) (_ : n ≤ 16777216) (_ : Has W D m (ints .i64 ds)) (_ : m ≤ 16777216) (_ : m ≤ d) (_ : ∀ x, D = some x → x.block < W.heap.size), Calls Try.prog 17 #[.slice A n c, .slice D m d, .int .i64 mm] W fun e w' => ∃ A' n' c', e = .returned (.tuple #[.agg #[.slice A' n' c', .int .i64 hh2, .int .i64 ss2, .bool dd2], .bool true]) ∧ Own w' W.heap.size 3 A' n' c' (ints .i64 os2) ∧ Below W.heap.size W w') := fun ho => by
    have hk := hok.trans ho
    obtain ⟨q1, q2, q3, q4⟩ := talkRunOk_iff.1 hk
    have hk2 : talkRunOk qs ds (min (2 * sl) 2000) = true := talkRunOk_iff.2 ⟨q1, q2, by omega, by omega⟩
    obtain ⟨t1, t2, t3⟩ := talk_longer hk hk2 (by omega)
    have tb := talk_b qs ds (min (2 * sl) 2000)
    rw [hos, hdd] at t1
    rw [hos] at t2
    refine ⟨_, talkO qs ds (min (2 * sl) 2000), (talkH qs ds (min (2 * sl) 2000) : Int), (talkN qs ds (min (2 * sl) 2000) : Int), talkD qs ds (min (2 * sl) 2000), q3, q4, rfl, by omega, fun h => ⟨(t1 h).1, by rw [(t1 h).2, hN]⟩, t2, by rw [← hH]; omega, fun A n c D m d W h hn k hm hc hl => ?_⟩
    have := implRunTalk_w (c := c) (sl := min (2 * sl) 2000) h hn k hm hc hl
    rw [hk2] at this
    exact this
  clear htb
  clear hos hH hN hdd hok hm
  go_wp2_with (fail)
  refine (HIM.out _ _ _ _ _ _ _ OQ.has (by omega) OD.has (by omega) OD.cap OD.lt).mono ?_
  rintro e w2 ⟨AG, nG, cG, rfl, OG, B2⟩
  have S2 : w1.heap.size ≤ w2.heap.size := B2.size
  have C2 := bel_trans C1 B2
  have Q_2 := OQ.bel B2
  have D_2 := OD.bel B2
  obtain rfl : nG = m := by have q1 := OG.has.len; have q2 := HM.out; omega
  obtain ⟨w3, hw3⟩ : ∃ W, w2.alloc (.cells #[.slice AG nG cG, .int .i64 hh, .int .i64 ss, .bool dd] 27) = W := ⟨_, rfl⟩
  have B3 : Below w2.heap.size w2 w3 := hw3 ▸ below_alloc9 w2 _
  have KG : RunRow w3 w2.heap.size AG nG cG hh ss dd := hw3 ▸ runRow_alloc w2 AG nG cG hh ss dd
  have S3 : w2.heap.size ≤ w3.heap.size := B3.size
  have C3 := bel_trans C2 B3
  have Q_3 := Q_2.bel B3
  have D_3 := D_2.bel B3
  have G_3 := OG.bel B3
  obtain ⟨Gc0, Gc1, Gc2, Gc3⟩ := KG.cells
  go_wp2_with (fail)
  refine (HSP.out _ _ _ _ _ _ _ Q_3.has (by omega) D_3.has (by omega) D_3.cap D_3.lt).mono ?_
  clear Gc0 Gc1 Gc2 Gc3
  rintro e w4 ⟨AW, nW, cW, rfl, OW, B4⟩
  have S4 : w3.heap.size ≤ w4.heap.size := B4.size
  have C4 := bel_trans C3 B4
  have Q_4 := Q_3.bel B4
  have D_4 := D_3.bel B4
  have G_4 := G_3.bel B4
  have KG_4 := KG.bel B4
  obtain rfl : nW = nG := by have q1 := OW.has.len; have q2 := OG.has.len; omega
  -- one length
  obtain ⟨w5, hw5⟩ : ∃ W, w4.alloc (.cells #[.slice AW nW cW, .int .i64 hh, .int .i64 ss, .bool dd] 27) = W := ⟨_, rfl⟩
  have B5 : Below w4.heap.size w4 w5 := hw5 ▸ below_alloc9 w4 _
  have KW : RunRow w5 w4.heap.size AW nW cW hh ss dd := hw5 ▸ runRow_alloc w4 AW nW cW hh ss dd
  have S5 : w4.heap.size ≤ w5.heap.size := B5.size
  have C5 := bel_trans C4 B5
  have Q_5 := Q_4.bel B5
  have D_5 := D_4.bel B5
  have G_5 := G_4.bel B5
  have W_5 := OW.bel B5
  have KG_5 := KG_4.bel B5
  have neB : ((nW : Int) != (nW : Int)) = false := by simp
  have eqB : ((nW : Int) == (nW : Int)) = true := by simp
  have dnB : (dd != dd) = false := by simp
  have deB : (dd == dd) = true := by simp
  have hnB : (hh != hh) = false := by simp
  have heB : (hh == hh) = true := by simp
  have snB : (ss != ss) = false := by simp
  have seB : (ss == ss) = true := by simp
  cases ok with
  | false =>
    clear HALL HTB
    obtain ⟨Gc0, Gc1, Gc2, Gc3⟩ := KG_5.cells
    obtain ⟨Wc0, Wc1, Wc2, Wc3⟩ := KW.cells
    go_wp2_with (fail)
    refine (wnInts_same G_5.has W_5.has (by omega)).mono ?_
    clear Gc0 Gc1 Gc2 Gc3
    clear Wc0 Wc1 Wc2 Wc3
    rintro e w6 ⟨rfl, B6⟩
    have S6 : w5.heap.size ≤ w6.heap.size := B6.size
    have C6 := bel_trans C5 B6
    have Q_6 := Q_5.bel B6
    have D_6 := D_5.bel B6
    have G_6 := G_5.bel B6
    have W_6 := W_5.bel B6
    have KG_6 := KG_5.bel B6
    have KW_6 := KW.bel B6
    obtain ⟨Gc0, Gc1, Gc2, Gc3⟩ := KG_6.cells
    obtain ⟨Wc0, Wc1, Wc2, Wc3⟩ := KW_6.cells
    go_wp2_with (fail)
    refine (wnInts_same G_6.has W_6.has (by omega)).mono ?_
    clear Gc0 Gc1 Gc2 Gc3
    clear Wc0 Wc1 Wc2 Wc3
    rintro e w7 ⟨rfl, B7⟩
    have S7 : w6.heap.size ≤ w7.heap.size := B7.size
    have C7 := bel_trans C6 B7
    have Q_7 := Q_6.bel B7
    have D_7 := D_6.bel B7
    have G_7 := G_6.bel B7
    have W_7 := W_6.bel B7
    have KG_7 := KG_6.bel B7
    have KW_7 := KW_6.bel B7
    obtain ⟨Gc0, Gc1, Gc2, Gc3⟩ := KG_7.cells
    obtain ⟨Wc0, Wc1, Wc2, Wc3⟩ := KW_7.cells
    go_wp2
    go_ret
    exact ⟨rfl, C7⟩
  | true =>
    obtain ⟨Gc0, Gc1, Gc2, Gc3⟩ := KG_5.cells
    obtain ⟨Wc0, Wc1, Wc2, Wc3⟩ := KW.cells
    go_wp2_with (fail)
    refine (wnInts_same G_5.has W_5.has (by have := HTB.out; omega)).mono ?_
    clear Gc0 Gc1 Gc2 Gc3
    clear Wc0 Wc1 Wc2 Wc3
    rintro e w6 ⟨rfl, B6⟩
    have S6 : w5.heap.size ≤ w6.heap.size := B6.size
    have C6 := bel_trans C5 B6
    have Q_6 := Q_5.bel B6
    have D_6 := D_5.bel B6
    have G_6 := G_5.bel B6
    have W_6 := W_5.bel B6
    have KG_6 := KG_5.bel B6
    have KW_6 := KW.bel B6
    obtain ⟨mm, os2, hh2, ss2, dd2, z1, z2, z3, z4, z5, z6, z7, z8⟩ := HALL.out (by simp)
    have HLO := Lib.hid z8
    have HP := Lib.hid z6
    have HE := Lib.hid z5
    have HL2 := Lib.hid z4
    have H7 := Lib.hid z7
    clear z8 z6 z5 z4 z7 HALL HIM HSP
    have tW : IntKind.i64.wrap (2 * sl) = 2 * sl := IntWalk.i64_in _ (by omega)
    obtain ⟨Gc0, Gc1, Gc2, Gc3⟩ := KG_6.cells
    obtain ⟨Wc0, Wc1, Wc2, Wc3⟩ := KW_6.cells
    go_wp2_with (fail)
    refine (HLO.out _ _ _ _ _ _ _ Q_6.has (by omega) D_6.has (by omega) D_6.cap D_6.lt).mono ?_
    clear Gc0 Gc1 Gc2 Gc3
    clear Wc0 Wc1 Wc2 Wc3
    rintro e w7 ⟨AL, nL, cL, rfl, OL, B7⟩
    have S7 : w6.heap.size ≤ w7.heap.size := B7.size
    have C7 := bel_trans C6 B7
    have Q_7 := Q_6.bel B7
    have D_7 := D_6.bel B7
    have G_7 := G_6.bel B7
    have W_7 := W_6.bel B7
    have KG_7 := KG_6.bel B7
    have KW_7 := KW_6.bel B7
    have hnL : nL ≤ 2000 := by have q1 := OL.has.len; have q2 := HL2.out; omega
    clear tW z3
    obtain ⟨w8, hw8⟩ : ∃ W, w7.alloc (.cells #[.slice AL nL cL, .int .i64 hh2, .int .i64 ss2, .bool dd2] 27) = W := ⟨_, rfl⟩
    have B8 : Below w7.heap.size w7 w8 := hw8 ▸ below_alloc9 w7 _
    have KL : RunRow w8 w7.heap.size AL nL cL hh2 ss2 dd2 := hw8 ▸ runRow_alloc w7 AL nL cL hh2 ss2 dd2
    have S8 : w7.heap.size ≤ w8.heap.size := B8.size
    have C8 := bel_trans C7 B8
    have Q_8 := Q_7.bel B8
    have D_8 := D_7.bel B8
    have G_8 := G_7.bel B8
    have W_8 := W_7.bel B8
    have L_8 := OL.bel B8
    have KG_8 := KG_7.bel B8
    have KW_8 := KW_7.bel B8
    clear HLO
    cases dd with
    | true =>
      obtain ⟨r1, r2⟩ := HE.out (by simp)
      subst r1
      subst r2
      clear HE HP
      obtain ⟨Gc0, Gc1, Gc2, Gc3⟩ := KG_8.cells
      obtain ⟨Wc0, Wc1, Wc2, Wc3⟩ := KW_8.cells
      obtain ⟨Lc0, Lc1, Lc2, Lc3⟩ := KL.cells
      go_wp2_with (fail)
      refine (wnInts_same L_8.has G_8.has (by omega)).mono ?_
      clear Gc0 Gc1 Gc2 Gc3
      clear Wc0 Wc1 Wc2 Wc3
      clear Lc0 Lc1 Lc2 Lc3
      rintro e w9 ⟨rfl, B9⟩
      have S9 : w8.heap.size ≤ w9.heap.size := B9.size
      have C9 := bel_trans C8 B9
      have Q_9 := Q_8.bel B9
      have D_9 := D_8.bel B9
      have G_9 := G_8.bel B9
      have W_9 := W_8.bel B9
      have L_9 := L_8.bel B9
      have KG_9 := KG_8.bel B9
      have KW_9 := KW_8.bel B9
      have KL_9 := KL.bel B9
      obtain ⟨Gc0, Gc1, Gc2, Gc3⟩ := KG_9.cells
      obtain ⟨Wc0, Wc1, Wc2, Wc3⟩ := KW_9.cells
      obtain ⟨Lc0, Lc1, Lc2, Lc3⟩ := KL_9.cells
      go_wp2
      go_ret
      exact ⟨rfl, C9⟩
    | false =>
      obtain ⟨p, hp⟩ := HP.out
      have hle : nW ≤ nL := by have q1 := OL.has.len; have q2 := HM.out; rw [hp, List.length_append] at q1; omega
      have htk : os2.take nW = os := by rw [hp, ← HM.out]; simp
      have rf := run_front9 (P := Try.prog) Try.underlying23 Try.sizeOf3 L_8 hle
      have OF := own_front9 L_8 hle
      rw [htk] at OF
      have CW := Lib.hid (fun (q : Nat) => wnInts_still (c := cL) (c' := cG) (w := w8.drewN q) (OF.bel (below_drewN _ q)).has (G_8.bel (below_drewN _ q)).has (by omega))
      have g1 : decide ((nL : Int) ≥ (nW : Int)) = true := by simp; omega
      have g2 : decide ((nW : Int) ≤ (nL : Int)) = true := by simp; omega
      have g3 : decide (hh2 ≥ hh) = true := by have := H7.out; simp; omega
      have g4 : decide (hh ≤ hh2) = true := by have := H7.out; simp; omega
      clear hp htk OF HP HE
      obtain ⟨Gc0, Gc1, Gc2, Gc3⟩ := KG_8.cells
      obtain ⟨Wc0, Wc1, Wc2, Wc3⟩ := KW_8.cells
      obtain ⟨Lc0, Lc1, Lc2, Lc3⟩ := KL.cells
      go_wp2
      go_quiet (first | (go_at_call 19; exact Calls.quiet_of_same ((CW.out _).mono (fun e w' hh => ⟨hh.1, hh.2.symm⟩))))
      go_wp2
      go_ret
      exact ⟨rfl, C8.trans (below_drewN _ _)⟩
set_option maxRecDepth 100000 in
theorem lifted_FnTalkLonger (os : Os) (started : os.Started) (H : Type) (enc : TypeId × Value → H) :
    ReturnsInHanded {} Try.checked os 5 .any (Rows.fnTalkLongerSpec.pre6 enc Try.prog Try.f5 Rows.fnTalkLongerRow.domain false) (Rows.fnTalkLongerSpec.post enc Try.prog Try.f5 false true false false) := by
  refine returnsInHanded_of_change (C := Try.checked) (by kernel_rfl) started (by kernel_rfl) Try.func5
    (ChangeSpec.witness6 (enc := enc) (C := Try.checked) false ⟨#[], #[.slice none 0 0], []⟩ 8 (by kernel_rfl) (by kernel_rfl) (by kernel_rfl) (by kernel_rfl)) ?_
  intro W base args ds gs before hval0 hW hcnd _
  have hval : ∀ (j : Nat) t v, Try.f5.params[j]? = some t → args[j]? = some v → Value.okWide Try.prog W .any base t v := hval0
  have hW' := hW
  obtain ⟨p, q, hA0, hV, rfl, hfz, hnd⟩ := hW
  have hA : DataW.TrodAll enc Try.prog W 0 (fun _ => true) true Try.f5.params.toList args.toList ds p := hA0
  rw [Try.params5] at hA hval
  obtain ⟨v0, vs0, d0, ds0, p0, q0, hargs, rfl, rfl, h0, r0⟩ := trodAll_cons hA
  obtain ⟨rfl, rfl, rfl⟩ := trodAll_nil r0
  obtain rfl : args = #[v0] := by cases args; simp_all
  obtain ⟨rfl, rfl⟩ := trodVars_none hV
  obtain ⟨a0, len0, cap0, rfl⟩ := okWide_slice Try.underlying22 (hval 0 22 v0 rfl rfl)
  have k0 := h0
  have lt0 : ∀ x ∈ p0, x.block < W.heap.size := by obtain ⟨m, hm⟩ := k0; exact DataW.trod_lt m _ _ _ hm
  obtain ⟨z0, H0, U0, M0⟩ := has_of_trod (k := .u8) Try.underlying22 Try.underlying5 (by kernel_rfl) h0
  clear hA0 hval0
  refine (walk_FnTalkLonger H0 U0 M0).mono fun e W' ⟨he, bel⟩ => ?_
  subst he
  exact ⟨_, rfl, _, _, _, [], _, [], hW', trodAll_mk1 (shut_bool Try.underlying4 _), (trodAll_cons_mk (Below.trod (by kernel_rfl) (by kernel_rfl) (of_decide_eq_true (by kernel_rfl)) k0 bel lt0) trodAll_mk0), rfl, bel.frame _, fun h => by cases h⟩

theorem fnTalkLonger_holds : Rows.FnTalkLongerSaid :=
  OpenClaim.holds_of_wide 5 Try.f5 rfl rfl rfl rfl rfl rfl rfl ⟨rfl, rfl, rfl, rfl, rfl⟩ rfl rfl rfl rfl rfl (by kernel_rfl) Try.func5
    (by unfold joinedFacts; with_reducible refine Bool.and_eq_true_iff.2 ⟨?_, (by as_aux_lemma => kernel_rfl)⟩; with_reducible refine Bool.and_eq_true_iff.2 ⟨?_, (by as_aux_lemma => kernel_rfl)⟩; with_reducible refine Bool.and_eq_true_iff.2 ⟨?_, (by as_aux_lemma => kernel_rfl)⟩; with_reducible refine Bool.and_eq_true_iff.2 ⟨?_, (by as_aux_lemma => kernel_rfl)⟩; with_reducible refine Bool.and_eq_true_iff.2 ⟨?_, (by with_unfolding_all exact shutMake)⟩; with_reducible refine Bool.and_eq_true_iff.2 ⟨?_, (by with_unfolding_all exact shutLifts)⟩; with_reducible refine Bool.and_eq_true_iff.2 ⟨?_, shutEnter⟩; (repeat (with_reducible refine Bool.and_eq_true_iff.2 ⟨?_, (by as_aux_lemma => kernel_rfl)⟩)); as_aux_lemma => kernel_rfl)
    (of_decide_eq_true (by kernel_rfl)) (by unfold Func.isWrapper; first | (rw [if_pos (by decide +kernel)]; kernel_rfl) | (rw [if_neg (by decide +kernel)]; exact ⟨rfl, rfl⟩))
    (fun os started H enc _ => lifted_FnTalkLonger os started H enc)
end Go.Proofs.Ytpciaokafokfmaa
