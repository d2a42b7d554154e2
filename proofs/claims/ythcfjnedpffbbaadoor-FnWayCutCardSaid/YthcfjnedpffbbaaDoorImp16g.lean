/-
  Chapter 16's program, ways: what is proved here is what wiresOf, WayValid and wiresOfAll return, and that they write nothing that was there. The table of steps holds what the program's text lays; lengths up to 2^24.
-/
import Derived.Test.YthcfjnedpffbbaaDoorImp16b
import Derived.Test.YthcfjnedpffbbaaDoorFabB
namespace Go.Proofs.YthcfjnedpffbbaaDoor
open Go.RowKit

theorem zeros_ints16 (k : Nat) : (madeCells (Value.cells (.int .i64 0)) (k * 1)).toList = ints .i64 (List.replicate k 0) := by
  rw [Nat.mul_one, show Value.cells (.int .i64 0) = #[.int .i64 0] from rfl]
  simp only [ints, List.map_replicate]
  exact toList_madeCells_one _ _
/- The wires so far, and noughts behind them. -/
def wiresPart (w : Nat) (ks : List Int) (k m : Nat) : List Int := nats (wiresTo w ks k) ++ List.replicate (m - k) 0
theorem wiresPart_zero (w : Nat) (ks : List Int) (m : Nat) : wiresPart w ks 0 m = List.replicate m 0 := by simp [wiresPart, wiresTo, nats]
theorem wiresPart_all (w : Nat) (ks : List Int) (m : Nat) : wiresPart w ks m m = nats (wiresTo w ks m) := by simp [wiresPart]
theorem wiresPart_set {w : Nat} {ks : List Int} {k m u : Nat} (hk : k < m) (hu : (wireW w (nd ks k) (nd ks (k + 1))).toNat = u) : (wiresPart w ks k m).set k (u : Int) = wiresPart w ks (k + 1) m := by
  unfold wiresPart
  rw [wiresTo_snoc, nats_snoc, hu, List.set_append_right _ _ (by rw [nats_len, wiresTo_len]; omega), nats_len, wiresTo_len, Nat.sub_self, show m - k = (m - (k + 1)) + 1 by omega, List.replicate_succ]
  simp
theorem own_not16b {W : World} {lo n c B : Nat} {a : Addr} {xs : List Value} {fz : Nat × Nat} {t : TypeId} {cs : Array Value} (h : Own W lo 3 (some a) n c xs) (hB : W.heap[B]? = some (.cells cs t fz)) (ht : t ≠ 3) : some a.block ≠ some B := own_not16 h hB ht
theorem ret_sb {A : Option Addr} {n c : Nat} {b d : Bool} (h : b = d) : Ending.returned (.tuple #[.slice A n c, .bool b]) = .returned (.tuple #[.slice A n c, .bool d]) := by rw [h]
theorem wayOk_first {w h : Int} {ks : List Int} (h1 : 1 ≤ ks.length) (h0 : ¬ okN w h (ks.getD 0 0)) : ¬ WayOk w h ks := fun k => h0 (k.2 0 (by omega)).1
set_option maxRecDepth 100000 in
set_option maxHeartbeats 4000000 in
theorem wiresOf_any {A : Option Addr} {n c : Nat} {ks : List Int} {w h : Int} {W : World} {v : Bool} (hT : StepsIn W) (hA : Has W A n (ints .i64 ks)) (hn : n ≤ 16777216) (hv : decide (WayOk w h ks) = v) :
    Calls Tryd.prog 54 #[.agg #[.int .i64 w, .int .i64 h], .slice A n c] W fun e W' => ∃ A' n' c', e = .returned (.tuple #[.slice A' n' c', .bool v]) ∧ (v = true → Own W' W.heap.size 3 A' n' c' (ints .i64 (nats (wiresN w.toNat ks)))) ∧ Below W.heap.size W W' := by
  obtain ⟨i0, hi, hz0, hz1, hz2⟩ := info_parts Tryd.infoInt
  have HL := Lib.hid hA.len
  have HV := Lib.hid hv
  obtain ⟨Wa, hWa⟩ : ∃ Wa, W.alloc (.cells #[.int .i64 w, .int .i64 h] 51) = Wa := ⟨_, rfl⟩
  have Ka : Duo2 Wa W.heap.size 51 w h := hWa ▸ duo2_alloc W _ _ _
  have Ba : Below W.heap.size W Wa := hWa ▸ below_alloc16 W _
  obtain ⟨v0, v1⟩ := Ka.cells
  clear hv
  by_cases h1 : 1 ≤ n
  rotate_left
  · have b1 : decide ((n : Int) < 1) = true := by simp; omega
    have b2 : decide (n < 1) = true := by simp; omega
    have HE := Lib.hid (show false = v by rw [← HV.out]; exact (decide_eq_false (fun k : WayOk w h ks => h1 (by have := k.1.1; have := HL.out; omega))).symm)
    obtain rfl : n = 0 := by omega
    clear h1
    go_enter Tryd.func54, Tryd.ntmps54
    go_wp2
    go_quiet (fail)
    have BD := below_drewN (B := Wa.heap.size) Wa nq
    go_wp2
    go_ret2
    exact ⟨none, 0, 0, ret_sb HE.out, fun hh => absurd (HE.out.trans hh) (by decide), bel_trans Ba BD⟩
  have b1 : decide ((n : Int) < 1) = false := by simp; omega
  have b2 : decide (n < 1) = false := by simp; omega
  by_cases h30 : n ≤ 30
  rotate_left
  · have b3 : decide ((n : Int) > 30) = true := by simp; omega
    have b4 : decide (30 < (n : Int)) = true := by simp; omega
    have b5 : decide (30 < n) = true := by simp; omega
    have HE := Lib.hid (show false = v by rw [← HV.out]; exact (decide_eq_false (fun k : WayOk w h ks => h30 (by have := k.1.2; have := HL.out; omega))).symm)
    clear h1 h30
    go_enter Tryd.func54, Tryd.ntmps54
    go_wp2
    go_quiet (fail)
    have BD := below_drewN (B := Wa.heap.size) Wa nq
    go_wp2
    go_ret2
    exact ⟨none, 0, 0, ret_sb HE.out, fun hh => absurd (HE.out.trans hh) (by decide), bel_trans Ba BD⟩
  have b3 : decide ((n : Int) > 30) = false := by simp; omega
  have b4 : decide (30 < (n : Int)) = false := by simp; omega
  have b5 : decide (30 < n) = false := by simp; omega
  obtain ⟨b, o, z, rfl, hbl, hx, hc⟩ := hA.at_ (show 0 < n by omega)
  have hz := getD_of hx
  have ca := (Ba.cell (p := ⟨b, o + 0, none⟩) hbl).trans hc
  rw [Nat.add_zero] at ca
  have p0 : (0 : Int) < (n : Int) := by omega
  have p1 : 0 < n := by omega
  by_cases kz : okN w h z
  rotate_left
  · have C1 := Lib.hid (fun W => isNode_b (W := W) (decide_eq_false kz))
    have HE := Lib.hid (show false = v by rw [← HV.out]; exact (decide_eq_false (wayOk_first (by have := HL.out; omega) (by rw [hz]; exact kz))).symm)
    clear h1 h30 kz hz hx
    go_enter Tryd.func54, Tryd.ntmps54
    go_wp2
    go_region_held3 (fun w' => (w'.cell? ⟨W.heap.size, 0, none⟩ = some (.int .i64 w) ∧ w'.cell? ⟨W.heap.size, 1, none⟩ = some (.int .i64 h)) ∧ w'.cell? ⟨b, o, none⟩ = some (.int .i64 z)) (first | exact ⟨⟨v0, v1⟩, ca⟩ | exact ⟨EA, EB⟩) (first | (go_at_call 48; refine (C1.out _).mono ?_; rintro e w5 ⟨rfl, B5⟩; have EA := (Ka.belD B5).cells; have B6 := bel_ofdrew B5; have EB := (B6.cell (p := ⟨b, o, none⟩) (show b < Wa.heap.size from Nat.lt_of_lt_of_le hbl Ba.size)).trans ca))
    all_goals
      go_wp2
      go_ret2
      exact ⟨none, 0, 0, ret_sb HE.out, fun hh => absurd (HE.out.trans hh) (by decide), bel_trans Ba B6⟩
  have C1 := Lib.hid (fun W => isNode_b (W := W) (decide_eq_true kz))
  obtain ⟨m, rfl⟩ : ∃ m, n = m + 1 := ⟨n - 1, by omega⟩
  have HW1 : Hid (WayTo w h ks 1) := fun i hi => by
    obtain rfl : i = 0 := by omega
    exact ⟨by rw [hz]; exact kz, fun hp => by omega⟩
  have q1 : ((m : Int) + 1 < 1) = False := by simp; omega
  have q2 : decide ((m : Int) + 1 < 1) = false := by simp; omega
  have q3 : decide ((m : Int) + 1 > 30) = false := by simp; omega
  have q4 : decide (30 < (m : Int) + 1) = false := by simp; omega
  have q5 : (0 : Int) < (m : Int) + 1 := by omega
  have hm30 : m ≤ 29 := by omega
  simp only [Int.natCast_add, Int.cast_ofNat_Int] at b1 b3 b4 p0
  clear h1 h30 kz hz hx hc q1
  have HA := Lib.hid hA
  clear hA
  go_enter Tryd.func54, Tryd.ntmps54
  go_wp2
  go_region_held3 (fun w' => (w'.cell? ⟨W.heap.size, 0, none⟩ = some (.int .i64 w) ∧ w'.cell? ⟨W.heap.size, 1, none⟩ = some (.int .i64 h)) ∧ w'.cell? ⟨b, o, none⟩ = some (.int .i64 z)) (first | exact ⟨⟨v0, v1⟩, ca⟩ | exact ⟨EA, EB⟩) (first | (go_at_call 48; refine (C1.out _).mono ?_; rintro e w5 ⟨rfl, B5⟩; have EA := (Ka.belD B5).cells; have B6 := bel_ofdrew B5; have K5 := Ka.belD B5; have EB := (B6.cell (p := ⟨b, o, none⟩) (show b < Wa.heap.size from Nat.lt_of_lt_of_le hbl Ba.size)).trans ca))
  have T5 := bel_trans Ba B6
  have s5 := T5.size
  clear EA EB B5 B6 Ka Ba v0 v1 ca hWa
  go_wp2_with (at_make; refine wpList_make_full _ rfl _ _ 25 rfl W.heap.size 3 i0 (.int .i64 0) 1 Tryd.underlying25 hi hz0 hz1 .i64 .i64 _ _ m rfl rfl (by omega) (by omega) (by rw [hz2]; omega) (by unfold maxLen; omega) s5 ?_; intro w6 hown hgrow)
  rw [zeros_ints16, ← wiresPart_zero w.toNat ks m] at hown
  have B6 : Below w5.heap.size w5 w6 := below_of_grown hgrow (Nat.le_refl _) (fun k hk => by cases hk)
  have T6 := bel_trans T5 B6
  have K6 := K5.bel B6
  obtain ⟨g, hg⟩ : ∃ g, w5.heap.size = g := ⟨_, rfl⟩
  rw [hg] at hown ⊢
  clear hg B6 hgrow K5 T5 C1
  go_loopw [32] (fun t wr => ∃ k : Nat, k ≤ m ∧ t = .int .i64 (k : Int) ∧ Own wr W.heap.size 3 (some ⟨g, 0, none⟩) m m (ints .i64 (wiresPart w.toNat ks k m)) ∧ Hid (WayTo w h ks (k + 1)) ∧ Duo2 wr W.heap.size 51 w h ∧ Below W.heap.size W wr) (fun t _ => m - (intOf t).toNat)
  case atStart => exact ⟨0, by omega, rfl, hown, HW1, K6, T6⟩
  case round =>
    obtain ⟨k, hk, rfl, O, HA2, K, T⟩ := hrel
    have hge := T.size
    by_cases hlt : k < m
    · have hltB : decide ((k : Int) < (m : Int)) = true := by simp; omega
      obtain ⟨b', o', y, hA', hbl', hy, hcy⟩ := (HA.out.bel T).at_ (show k < m + 1 by omega)
      injection hA' with hA'; injection hA' with q6 q7; subst q6 q7
      obtain ⟨b', o', u, hA', hbl', hu, hcu⟩ := (HA.out.bel T).at_ (show k + 1 < m + 1 by omega)
      injection hA' with hA'; injection hA' with q6 q7; subst q6 q7
      have eyn := getD_of hy
      have eun := getD_of hu
      have ky : okN w h y := by have := (HA2.out k (by omega)).1; rw [eyn] at this; exact this
      have hS : StepOk w h ks (k + 1) ↔ 0 ≤ wireI w h y u := by
        unfold StepOk nd wireI
        rw [eun, show k + 1 - 1 = k by omega, eyn]
        by_cases ku : okN w h u
        · rw [if_pos ⟨ky, ku⟩]
          exact ⟨fun hh => hh.2 (by omega), fun hh => ⟨ku, fun _ => hh⟩⟩
        · rw [if_neg (fun hh => ku hh.2)]
          exact ⟨fun hh => absurd hh.1 ku, fun hh => absurd hh (by decide)⟩
      have HTr : StepsIn wr.drew := hT.bel T.drew
      have k0 : (0 : Int) ≤ (k : Int) := by omega
      have k1 : (k : Int) < (m : Int) + 1 := by omega
      have k2 : (0 : Int) ≤ (k : Int) + 1 := by omega
      have k3 : (k : Int) + 1 < (m : Int) + 1 := by omega
      have k4 : k < m + 1 := by omega
      have t1 : IntKind.i64.wrap ((k : Int) + 1) = (k : Int) + 1 := IntWalk.i64_in _ (by omega)
      have n1 : ((k : Int) + 1).toNat = k + 1 := by omega
      obtain ⟨v0, v1⟩ := K.cells
      have hbw : b < wr.heap.size := hbl'
      by_cases hwi : 0 ≤ wireI w h y u
      · have CW := Lib.hid (wire_any (W := wr.drew) HTr (if_pos hwi) (decide_eq_true hwi))
        have HS2 := Lib.hid (wayTo_succ HA2.out (hS.2 hwi))
        obtain ⟨uu, huu⟩ : ∃ uu : Nat, wireI w h y u = (uu : Int) := ⟨(wireI w h y u).toNat, by omega⟩
        have HP : Hid ((wiresPart w.toNat ks k m).set k (uu : Int) = wiresPart w.toNat ks (k + 1) m) := by
          refine wiresPart_set hlt ?_
          have e1 : wireI w h y u = wireW w.toNat y.toNat u.toNat := by
            unfold wireI
            rw [if_pos ⟨ky, by have := (hS.2 hwi).1; rw [eun] at this; exact this⟩]
          unfold nd
          rw [eyn, eun, ← e1, huu]
          rfl
        rw [huu] at CW
        clear hS hwi huu eyn eun hy hu ky HTr
        go_wp2
        go_region_held3 (fun w' => (w'.cell? ⟨W.heap.size, 0, none⟩ = some (.int .i64 w) ∧ w'.cell? ⟨W.heap.size, 1, none⟩ = some (.int .i64 h)) ∧ (w'.cell? ⟨b, o + k, none⟩ = some (.int .i64 y) ∧ w'.cell? ⟨b, o + (k + 1), none⟩ = some (.int .i64 u))) (first | exact ⟨⟨v0, v1⟩, hcy, hcu⟩ | exact ⟨EA, EB, EC⟩) (first | (go_at_call 55; refine CW.out.mono ?_; rintro e w5 ⟨rfl, B5⟩; have EA := (K.belD B5).cells; have B6 := bel_ofdrew B5; have EB := (B6.cell (p := ⟨b, o + k, none⟩) hbw).trans hcy; have EC := (B6.cell (p := ⟨b, o + (k + 1), none⟩) hbw).trans hcu))
        all_goals
          have O5 := O.bel B6
          have K5 := K.bel B6
          have T5 := bel_trans T B6
          obtain ⟨u1, _, c1, f1⟩ := O5.at_ hlt
          have O6 := O5.set_ k (.int .i64 (uu : Int))
          rw [ints_set, HP.out] at O6
          have K6 : Duo2 (w5.setCell ⟨g, k, none⟩ (.int .i64 (uu : Int))) W.heap.size 51 w h := K5.grown (row := some g) ⟨rfl, rfl, rfl, by simp, fun i _ hi => heap_setCell_other w5 ⟨g, k, none⟩ i _ (fun e => hi (by simp [e]))⟩ (own_not16b O5 K5 (by decide))
          have T6 := T5.setCell (p := ⟨g, k, none⟩) (O5.block).1 (.int .i64 (uu : Int))
          have HO := Lib.hid O6
          have HK := Lib.hid K6
          have HT6 := Lib.hid T6
          clear O6 K6 T6
          go_wp2
          go_roundw
          case rel => exact ⟨k + 1, by omega, by go_num, HO.out, HS2, HK.out, HT6.out⟩
          case measure => simp [intOf]; omega
      · have CW := Lib.hid (wire_any (W := wr.drew) HTr (if_neg hwi) (decide_eq_false hwi))
        have HE := Lib.hid ((way_no HL.out (show k + 1 < m + 1 by omega) (fun hs => hwi (hS.1 hs))).symm.trans HV.out)
        clear hS hwi eyn eun hy hu ky HTr
        go_wp2
        go_region_held3 (fun w' => (w'.cell? ⟨W.heap.size, 0, none⟩ = some (.int .i64 w) ∧ w'.cell? ⟨W.heap.size, 1, none⟩ = some (.int .i64 h)) ∧ (w'.cell? ⟨b, o + k, none⟩ = some (.int .i64 y) ∧ w'.cell? ⟨b, o + (k + 1), none⟩ = some (.int .i64 u))) (first | exact ⟨⟨v0, v1⟩, hcy, hcu⟩ | exact ⟨EA, EB, EC⟩) (first | (go_at_call 55; refine CW.out.mono ?_; rintro e w5 ⟨rfl, B5⟩; have EA := (K.belD B5).cells; have B6 := bel_ofdrew B5; have EB := (B6.cell (p := ⟨b, o + k, none⟩) hbw).trans hcy; have EC := (B6.cell (p := ⟨b, o + (k + 1), none⟩) hbw).trans hcu))
        all_goals
          go_wp2
          go_ret2
          exact ⟨none, 0, 0, ret_sb HE.out, fun hh => absurd (HE.out.trans hh) (by decide), bel_trans T B6⟩
    · have hltB : decide ((k : Int) < (m : Int)) = false := by simp; omega
      obtain rfl : k = m := by omega
      have HE : Hid (true = v) := by
        show true = v
        rw [← HV.out]
        have h1 := HL.out
        exact (decide_eq_true (show WayOk w h ks from ⟨by omega, fun i hi => HA2.out i (by omega)⟩)).symm
      have HP : Hid (wiresPart w.toNat ks k k = nats (wiresN w.toNat ks)) := by
        show _ = _
        rw [wiresPart_all]
        unfold wiresN
        rw [HL.out, show k + 1 - 1 = k by omega]
      rw [HP.out] at O
      go_wp2
      go_ret2
      exact ⟨_, _, _, ret_sb HE.out, fun _ => O, T⟩
set_option maxHeartbeats 2000000 in
theorem implWayValid_b {A : Option Addr} {n c : Nat} {ks : List Int} {w h : Int} {W : World} {v : Bool} (hT : StepsIn W) (hA : Has W A n (ints .i64 ks)) (hn : n ≤ 16777216) (hv : decide (WayOk w h ks) = v) :
    Calls Tryd.prog 21 #[.int .i64 w, .int .i64 h, .slice A n c] W fun e W' => e = .returned (.bool v) ∧ Below W.heap.size W W' := by
  have C := Lib.hid (wiresOf_any (c := c) hT hA hn hv)
  clear hv hT hA
  go_enter Tryd.func21, Tryd.ntmps21
  go_wp2_with (fail)
  refine C.out.mono ?_
  rintro e w1 ⟨A', n', c', rfl, _, B1⟩
  go_wp2
  go_ret
  exact ⟨rfl, B1⟩
end Go.Proofs.YthcfjnedpffbbaaDoor
