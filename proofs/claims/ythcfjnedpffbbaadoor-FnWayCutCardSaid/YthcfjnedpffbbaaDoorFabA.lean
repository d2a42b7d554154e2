/-
  Chapter 16's model: what is proved here is what l16Fabric, l16Nodes, l16Wire, WireOf and WayValid of the model return, and that they write nothing. Condition: lengths up to 2^24.
-/
import Derived.Test.YthcfjnedpffbbaaDoorMathFab
import Derived.Test.YthcfjnedpffbbaaDoorBytes
namespace Go.Proofs.YthcfjnedpffbbaaDoor
open Go.RowKit

theorem okWH_b (w h : Int) : (decide (1 ≤ w) && decide (w ≤ 5) && (decide (1 ≤ h) && decide (h ≤ 5))) = decide (okWH w h) := by
  by_cases k : okWH w h
  · rw [decide_eq_true k]
    unfold okWH at k
    simp
    omega
  · rw [decide_eq_false k]
    unfold okWH at k
    simp
    omega
set_option maxHeartbeats 2000000 in
theorem l16Fabric_any (w h : Int) (W : World) : Calls Tryd.prog 59 #[.int .i64 w, .int .i64 h] W fun e W' => e = .returned (.bool (decide (okWH w h))) ∧ W = W' := by
  have HE := Lib.hid (okWH_b w h)
  have C1 := Lib.hid (fun W => l1In_any w 1 5 W)
  have C2 := Lib.hid (fun W => l1In_any h 1 5 W)
  by_cases h1 : 1 ≤ w ∧ w ≤ 5
  · have b1 : (decide (1 ≤ w) && decide (w ≤ 5)) = true := by simp; omega
    rw [b1] at HE C1
    clear h1
    go_enter Tryd.func59, Tryd.ntmps59
    go_wp2_with (fail)
    refine (C1.out _).mono ?_
    rintro e w' ⟨rfl, rfl⟩
    go_wp2_with (fail)
    refine (C2.out _).mono ?_
    rintro e w' ⟨rfl, rfl⟩
    go_wp2
    go_ret
    exact ⟨ret_bool (by have := HE.out; simpa using this), rfl⟩
  · have b1 : (decide (1 ≤ w) && decide (w ≤ 5)) = false := by simp; omega
    rw [b1] at HE C1
    clear h1
    go_enter Tryd.func59, Tryd.ntmps59
    go_wp2_with (fail)
    refine (C1.out _).mono ?_
    rintro e w' ⟨rfl, rfl⟩
    go_wp2
    go_ret
    exact ⟨ret_bool (by have := HE.out; simpa using this), rfl⟩
set_option maxRecDepth 100000 in
set_option maxHeartbeats 4000000 in
theorem l16Wire_any {w a b : Nat} {W : World} (hw : 1 ≤ w) (hw5 : w ≤ 65536) (ha : a ≤ 65536) (hb : b ≤ 65536) : Calls Tryd.prog 56 #[.int .i64 (w : Int), .int .i64 (a : Int), .int .i64 (b : Int)] W fun e W' => e = .returned (.int .i64 (wireW w a b)) ∧ W = W' := by
  have hR : ∀ x y p q : Nat, a % w = x → a / w = y → b % w = p → b / w = q → wireW w a b = if y = q ∧ p = x + 1 then ((4 * a : Nat) : Int) else if y = q ∧ x = p + 1 then ((4 * a + 1 : Nat) : Int) else if x = p ∧ q = y + 1 then ((4 * a + 2 : Nat) : Int) else if x = p ∧ y = q + 1 then ((4 * a + 3 : Nat) : Int) else -1 := by
    rintro x y p q rfl rfl rfl rfl
    rfl
  obtain ⟨x, hx⟩ : ∃ x, a % w = x := ⟨_, rfl⟩
  obtain ⟨y, hy⟩ : ∃ y, a / w = y := ⟨_, rfl⟩
  obtain ⟨p, hp⟩ : ∃ p, b % w = p := ⟨_, rfl⟩
  obtain ⟨q, hq⟩ : ∃ q, b / w = q := ⟨_, rfl⟩
  have HR := Lib.hid (hR x y p q hx hy hp hq)
  have bx : x < 65536 := by have := Nat.mod_lt a (y := w) (by omega); omega
  have bp : p < 65536 := by have := Nat.mod_lt b (y := w) (by omega); omega
  have b_y : y ≤ 65536 := by have := Nat.div_le_self a w; omega
  have bq : q ≤ 65536 := by have := Nat.div_le_self b w; omega
  have e1 : (a : Int) % (w : Int) = (x : Int) := by rw [← hx]; exact (Int.natCast_emod a w).symm
  have e2 : (a : Int) / (w : Int) = (y : Int) := by rw [← hy]; exact (Int.natCast_ediv a w).symm
  have e3 : (b : Int) % (w : Int) = (p : Int) := by rw [← hp]; exact (Int.natCast_emod b w).symm
  have e4 : (b : Int) / (w : Int) = (q : Int) := by rw [← hq]; exact (Int.natCast_ediv b w).symm
  clear hx hy hp hq hR
  go_enter Tryd.func56, Tryd.ntmps56
  go_wp2
  all_goals go_ret
  all_goals refine ⟨ret_int ?_, rfl⟩
  all_goals rw [HR.out]
  all_goals (try simp only [beq_iff_eq, beq_eq_false_iff_ne, ne_eq] at *)
  all_goals (repeat' split)
  all_goals omega

theorem two_b {p q : Prop} [Decidable p] [Decidable q] {b c : Bool} (h1 : decide p = b) (h2 : decide q = c) : decide (p ∧ q) = (b && c) := by
  subst h1; subst h2; exact Bool.decide_and p q
theorem l16_mul {w h : Int} (k : okWH w h) : ∃ m : Int, w * h = m ∧ 1 ≤ m ∧ m ≤ 25 := by
  obtain ⟨⟨h1, h2⟩, h3, h4⟩ := k
  refine ⟨w * h, rfl, ?_, ?_⟩
  · have := Int.mul_le_mul h1 h3 (by omega) (by omega); omega
  · have := Int.mul_le_mul h2 h4 (by omega) (by omega); omega
theorem okN_b {w h a m : Int} (k : okWH w h) (hm : w * h = m) : (decide (0 ≤ a) && decide (a ≤ m - 1)) = decide (okN w h a) := by
  by_cases q : okN w h a
  · rw [decide_eq_true q]
    obtain ⟨_, q1, q2⟩ := q
    rw [hm] at q2
    simp
    omega
  · rw [decide_eq_false q]
    unfold okN at q
    rw [hm] at q
    by_cases h0 : 0 ≤ a
    · have : ¬ a < m := fun hh => q ⟨k, h0, hh⟩
      simp
      omega
    · simp
      omega
set_option maxHeartbeats 2000000 in
theorem l16Nodes_any (w h a b : Int) (W : World) : Calls Tryd.prog 52 #[.int .i64 w, .int .i64 h, .int .i64 a, .int .i64 b] W fun e W' => e = .returned (.bool (decide (okN w h a) && decide (okN w h b))) ∧ W = W' := by
  by_cases k : okWH w h
  · obtain ⟨m, hm, m0, m1⟩ := l16_mul k
    have C0 := Lib.hid (fun W => l16Fabric_any w h W)
    rw [decide_eq_true k] at C0
    have C1 := Lib.hid (fun W => l1In_any a 0 (m - 1) W)
    have C2 := Lib.hid (fun W => l1In_any b 0 (m - 1) W)
    rw [okN_b k hm] at C1 C2
    clear k
    cases hA : decide (okN w h a) <;> rw [hA] at C1 <;> clear hA
    · go_enter Tryd.func52, Tryd.ntmps52
      go_wp2_with (fail)
      refine (C0.out _).mono ?_
      rintro e w' ⟨rfl, rfl⟩
      go_wp2_with (fail)
      refine (C1.out _).mono ?_
      rintro e w' ⟨rfl, rfl⟩
      go_wp2
      go_ret
      exact ⟨rfl, rfl⟩
    · cases hB : decide (okN w h b) <;> rw [hB] at C2 <;> clear hB
      all_goals
        go_enter Tryd.func52, Tryd.ntmps52
        go_wp2_with (fail)
        refine (C0.out _).mono ?_
        rintro e w' ⟨rfl, rfl⟩
        go_wp2_with (fail)
        refine (C1.out _).mono ?_
        rintro e w' ⟨rfl, rfl⟩
        go_wp2_with (fail)
        refine (C2.out _).mono ?_
        rintro e w' ⟨rfl, rfl⟩
        go_wp2
        go_ret
        exact ⟨rfl, rfl⟩
  · have C0 := Lib.hid (fun W => l16Fabric_any w h W)
    rw [decide_eq_false k] at C0
    have e1 : decide (okN w h a) = false := decide_eq_false fun q => k q.1
    rw [e1]
    clear k e1
    go_enter Tryd.func52, Tryd.ntmps52
    go_wp2_with (fail)
    refine (C0.out _).mono ?_
    rintro e w' ⟨rfl, rfl⟩
    go_wp2
    go_ret
    exact ⟨rfl, rfl⟩
theorem l16Nodes_b {w h a b : Int} {W : World} {v : Bool} (hv : (decide (okN w h a) && decide (okN w h b)) = v) : Calls Tryd.prog 52 #[.int .i64 w, .int .i64 h, .int .i64 a, .int .i64 b] W fun e W' => e = .returned (.bool v) ∧ W = W' := by
  subst hv; exact l16Nodes_any w h a b W
theorem l16Wire_i {w h a b : Int} {W : World} (ka : okN w h a) (kb : okN w h b) : Calls Tryd.prog 56 #[.int .i64 w, .int .i64 a, .int .i64 b] W fun e W' => e = .returned (.int .i64 (wireW w.toNat a.toNat b.toNat)) ∧ W = W' := by
  have h1 := okN_lt ka
  have h2 := okN_lt kb
  obtain ⟨⟨⟨w1, w2⟩, _⟩, _⟩ := ka
  have e : ((w.toNat : Nat) : Int) = w := by omega
  have C := l16Wire_any (w := w.toNat) (a := a.toNat) (b := b.toNat) (W := W) (by omega) (by omega) (by omega) (by omega)
  rw [e, h1.2, h2.2] at C
  exact C
set_option maxHeartbeats 2000000 in
theorem specWireOf_any (w h a b : Int) (W : World) : Calls Tryd.prog 24 #[.int .i64 w, .int .i64 h, .int .i64 a, .int .i64 b] W fun e W' => e = .returned (.int .i64 (wireI w h a b)) ∧ W = W' := by
  by_cases k : okN w h a ∧ okN w h b
  · have C0 := Lib.hid (fun W => l16Nodes_b (W := W) (show (decide (okN w h a) && decide (okN w h b)) = true by rw [decide_eq_true k.1, decide_eq_true k.2]; rfl))
    have C1 := Lib.hid (fun W => l16Wire_i (W := W) k.1 k.2)
    have e1 : wireI w h a b = wireW w.toNat a.toNat b.toNat := by unfold wireI; rw [if_pos k]
    rw [e1]
    clear k e1
    go_enter Tryd.func24, Tryd.ntmps24
    go_wp2_with (fail)
    refine (C0.out _).mono ?_
    rintro e w' ⟨rfl, rfl⟩
    go_wp2_with (fail)
    refine (C1.out _).mono ?_
    rintro e w' ⟨rfl, rfl⟩
    go_wp2
    go_ret
    exact ⟨rfl, rfl⟩
  · have C0 := Lib.hid (fun W => l16Nodes_b (W := W) (show (decide (okN w h a) && decide (okN w h b)) = false by rw [← Bool.decide_and]; exact decide_eq_false k))
    have e1 : wireI w h a b = -1 := by unfold wireI; rw [if_neg k]
    rw [e1]
    clear k e1
    go_enter Tryd.func24, Tryd.ntmps24
    go_wp2_with (fail)
    refine (C0.out _).mono ?_
    rintro e w' ⟨rfl, rfl⟩
    go_wp2
    go_ret
    exact ⟨rfl, rfl⟩
/- How far a way has been looked at. -/
def WayTo (w h : Int) (ks : List Int) (k : Nat) : Prop := ∀ i, i < k → StepOk w h ks i
theorem wayTo_succ {w h : Int} {ks : List Int} {k : Nat} (h1 : WayTo w h ks k) (h2 : StepOk w h ks k) : WayTo w h ks (k + 1) := fun i hi => by
  by_cases e : i = k
  · rw [e]; exact h2
  · exact h1 i (by omega)
theorem way_no {w h : Int} {ks : List Int} {k n : Nat} (hl : ks.length = n) (hk : k < n) (hs : ¬ StepOk w h ks k) : decide (WayOk w h ks) = false := decide_eq_false fun hh => hs (hh.2 k (by omega))
theorem getD_of {ks : List Int} {k : Nat} {z : Int} (h : ks[k]? = some z) : ks.getD k 0 = z := by rw [List.getD_eq_getElem?_getD, h]; rfl
set_option maxRecDepth 100000 in
set_option maxHeartbeats 8000000 in
theorem specWayValid_b {A : Option Addr} {n c : Nat} {ks : List Int} {w h : Int} {W : World} {v : Bool} (hA : Has W A n (ints .i64 ks)) (hn : n ≤ 16777216) (hv : decide (WayOk w h ks) = v) :
    Calls Tryd.prog 26 #[.int .i64 w, .int .i64 h, .slice A n c] W fun e W' => e = .returned (.bool v) ∧ Below W.heap.size W W' := by
  have HL := Lib.hid hA.len
  have HV := Lib.hid hv
  clear hv
  go_enter Tryd.func26, Tryd.ntmps26
  go_wp2
  go_loopw [7] (fun t wr => ∃ k : Nat, k ≤ n ∧ t = .int .i64 (k : Int) ∧ Hid (WayTo w h ks k) ∧ Below W.heap.size W wr) (fun t _ => n - (intOf t).toNat)
  case atStart =>
    have h1 : Hid (WayTo w h ks 0) := fun i hi => by omega
    exact ⟨0, Nat.zero_le _, rfl, h1, Below.refl _ _⟩
  case round =>
    obtain ⟨k, hk, rfl, HA, B⟩ := hrel
    have hge := B.size
    by_cases hlt : k < n
    · have hltB : decide ((k : Int) < (n : Int)) = true := by simp; omega
      obtain ⟨b, o, z, rfl, hbl, hx, hc⟩ := (hA.bel B).at_ hlt
      have hz := getD_of hx
      have hk0 : (0 : Int) ≤ (k : Int) := by omega
      have hk1 : (k : Int) < (n : Int) := by omega
      by_cases kz : okN w h z
      rotate_left
      · have C0 := Lib.hid (fun W => l16Nodes_b (W := W) (show (decide (okN w h z) && decide (okN w h z)) = false by rw [decide_eq_false kz]; rfl))
        have HE := Lib.hid ((way_no HL.out hlt (fun hs => kz (by have := hs.1; rw [hz] at this; exact this))).symm.trans HV.out)
        clear kz hx hz
        go_wp2
        go_quiet (first | (go_at_call 52; exact Calls.quiet_of_same ((C0.out _).mono (fun e w' hh => ⟨hh.1, hh.2.symm⟩))))
        have BD := below_drewN (B := wr.heap.size) wr nq
        go_wp2
        go_ret
        exact ⟨ret_bool HE.out, B.trans (BD.mono hge)⟩
      have C0 := Lib.hid (fun W => l16Nodes_b (W := W) (show (decide (okN w h z) && decide (okN w h z)) = true by rw [decide_eq_true kz]; rfl))
      by_cases h0 : k = 0
      · have h0B : decide ((k : Int) > 0) = false := by simp; omega
        have h0C : decide (0 < (k : Int)) = false := by simp; omega
        have h0D : decide (0 < k) = false := by simp; omega
        have HS := Lib.hid (wayTo_succ HA.out (show StepOk w h ks k from ⟨by rw [hz]; exact kz, fun hp => by omega⟩))
        clear kz hx hz h0
        go_wp2
        go_quiet (first | (go_at_call 52; exact Calls.quiet_of_same ((C0.out _).mono (fun e w' hh => ⟨hh.1, hh.2.symm⟩))))
        have BD := below_drewN (B := wr.heap.size) wr nq
        go_wp2
        go_roundw
        case rel => exact ⟨k + 1, by omega, by go_num, HS, B.trans (BD.mono hge)⟩
        case measure => simp [intOf]; omega
      have h0B : decide ((k : Int) > 0) = true := by simp; omega
      have h0C : decide (0 < (k : Int)) = true := by simp; omega
      have h0D : decide (0 < k) = true := by simp; omega
      obtain ⟨b', o', y, hA', hbl', hy, hc'⟩ := (hA.bel B).at_ (show k - 1 < n by omega)
      injection hA' with hA'; injection hA' with q1 q2; subst q1 q2
      have hyz := getD_of hy
      have ky : okN w h y := by have := (HA.out (k - 1) (by omega)).1; rw [hyz] at this; exact this
      have C1 := Lib.hid (fun W => l16Wire_i (W := W) ky kz)
      have t1 : IntKind.i64.wrap ((k : Int) - 1) = (k : Int) - 1 := IntWalk.i64_in _ (by omega)
      have n1 : ((k : Int) - 1).toNat = k - 1 := by omega
      have g0 : (0 : Int) ≤ (k : Int) - 1 := by omega
      have g1 : (k : Int) - 1 < (n : Int) := by omega
      have hS : StepOk w h ks k ↔ 0 ≤ wireW w.toNat y.toNat z.toNat := by
        unfold StepOk nd
        rw [hz, hyz]
        exact ⟨fun hh => hh.2 (by omega), fun hh => ⟨kz, fun _ => hh⟩⟩
      by_cases hwi : 0 ≤ wireW w.toNat y.toNat z.toNat
      · have wB : decide (wireW w.toNat y.toNat z.toNat < 0) = false := by simp; omega
        have HS := Lib.hid (wayTo_succ HA.out (hS.2 hwi))
        generalize wireW w.toNat y.toNat z.toNat = U at C1 wB
        clear kz hx hz h0 hS hwi ky hy hyz
        go_wp2
        go_quiet (first | (go_at_call 52; exact Calls.quiet_of_same ((C0.out _).mono (fun e w' hh => ⟨hh.1, hh.2.symm⟩))) | (go_at_call 56; exact Calls.quiet_of_same ((C1.out _).mono (fun e w' hh => ⟨hh.1, hh.2.symm⟩))))
        have BD := below_drewN (B := wr.heap.size) wr nq
        go_wp2
        go_roundw
        case rel => exact ⟨k + 1, by omega, by go_num, HS, B.trans (BD.mono hge)⟩
        case measure => simp [intOf]; omega
      · have wB : decide (wireW w.toNat y.toNat z.toNat < 0) = true := by simp; omega
        have HE := Lib.hid ((way_no HL.out hlt (fun hs => hwi (hS.1 hs))).symm.trans HV.out)
        generalize wireW w.toNat y.toNat z.toNat = U at C1 wB
        clear kz hx hz h0 hS hwi ky hy hyz
        go_wp2
        go_quiet (first | (go_at_call 52; exact Calls.quiet_of_same ((C0.out _).mono (fun e w' hh => ⟨hh.1, hh.2.symm⟩))) | (go_at_call 56; exact Calls.quiet_of_same ((C1.out _).mono (fun e w' hh => ⟨hh.1, hh.2.symm⟩))))
        have BD := below_drewN (B := wr.heap.size) wr nq
        go_wp2
        go_ret
        exact ⟨ret_bool HE.out, B.trans (BD.mono hge)⟩
    · have hltB : decide ((k : Int) < (n : Int)) = false := by simp; omega
      obtain rfl : k = n := by omega
      have C := Lib.hid (fun W => l1In_any (k : Int) 1 30 W)
      have HE : Hid ((decide (1 ≤ (k : Int)) && decide ((k : Int) ≤ 30)) = v) := by
        refine Eq.trans ?_ HV.out
        have h1 := HL.out
        have h2 := HA.out
        by_cases hh : 1 ≤ k ∧ k ≤ 30
        · rw [decide_eq_true (show WayOk w h ks from ⟨by omega, fun i hi => h2 i (by omega)⟩)]
          simp; omega
        · rw [decide_eq_false (fun (q : WayOk w h ks) => hh (by have := q.1; omega))]
          simp; omega
      go_wp2_with (fail)
      refine (C.out _).mono ?_
      rintro e w' ⟨rfl, rfl⟩
      go_wp2
      go_ret
      exact ⟨ret_bool HE.out, B⟩
end Go.Proofs.YthcfjnedpffbbaaDoor
