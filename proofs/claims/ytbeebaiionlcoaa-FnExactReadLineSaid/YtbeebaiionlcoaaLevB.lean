/-
  Chapter 8's functions of the model, TicksOf and RunsOf: what is proved here is what they return, in memory of their own, and that they write nothing that was there. Condition: lengths up to 2^24.
-/
import Derived.Test.YtbeebaiionlcoaaLevA
namespace Go.Proofs.Ytbeebaiionlcoaa
open Go.RowKit

set_option maxHeartbeats 4000000 in
theorem specTicksOf_r {A A2 : Option Addr} {n c n2 c2 : Nat} {ls ws r : List Int} {w : World} (hr : ticksL ls ws = r) (h : Has w A n (ints .i64 ls)) (h2 : Has w A2 n2 (ints .i64 ws)) (hn : n ≤ 16777216) (hn2 : n2 ≤ 16777216) :
    Calls Try.prog 28 #[.slice A n c, .slice A2 n2 c2] w fun e w' => ∃ A' n' c', e = .returned (.slice A' n' c') ∧ Own w' w.heap.size 3 A' n' c' (ints .i64 r) ∧ Below w.heap.size w w' := by
  obtain ⟨i0, hi, hz0, hz1, hz2⟩ := info_parts Try.infoInt
  have HL := Lib.hid h.len
  have HL2 := Lib.hid h2.len
  have HR := Lib.hid hr
  have hlen := h.len
  have hlen2 := h2.len
  have B0 := lit_below w
  have O0 := lit_own w
  clear hr
  by_cases hb : okBits ls = true
  rotate_left
  · have C := Lib.hid (l8Bits_b (c := c) (b := false) (h.bel B0) hn (by simpa using hb))
    have HE := Lib.hid (ticksL_no (ls := ls) (ws := ws) (fun hh => hb hh.1))
    clear hb hlen hlen2
    obtain rfl := HE.out.symm.trans HR.out
    go_enter Try.func28, Try.ntmps28
    go_wp2_with (fail)
    refine C.out.mono ?_
    rintro e w' ⟨rfl, rfl⟩
    go_wp2
    go_ret
    exact ⟨_, _, _, rfl, O0, B0⟩
  have C := Lib.hid (l8Bits_b (c := c) (h.bel B0) hn hb)
  by_cases h4 : n ≤ 400
  rotate_left
  · have h4B : decide ((n : Int) > 400) = true := by simp; omega
    have h4C : decide (400 < (n : Int)) = true := by simp; omega
    have HE := Lib.hid (ticksL_no (ls := ls) (ws := ws) (fun hh => h4 (by omega)))
    clear hb hlen hlen2
    obtain rfl := HE.out.symm.trans HR.out
    go_enter Try.func28, Try.ntmps28
    go_wp2_with (fail)
    refine C.out.mono ?_
    rintro e w' ⟨rfl, rfl⟩
    go_wp2
    go_ret
    exact ⟨_, _, _, rfl, O0, B0⟩
  have h4B : decide ((n : Int) > 400) = false := by simp; omega
  have h4C : decide (400 < (n : Int)) = false := by simp; omega
  by_cases h0 : n2 = 0
  · have h0B : ((n2 : Int) == 0) = true := by simp; omega
    have HE := Lib.hid (ticksL_no (ls := ls) (ws := ws) (fun hh => by have := (okW_iff.1 hh.2.2).1; omega))
    clear hb hlen hlen2 h0
    obtain rfl := HE.out.symm.trans HR.out
    go_enter Try.func28, Try.ntmps28
    go_wp2_with (fail)
    refine C.out.mono ?_
    rintro e w' ⟨rfl, rfl⟩
    go_wp2
    go_ret
    exact ⟨_, _, _, rfl, O0, B0⟩
  have h0B : ((n2 : Int) == 0) = false := by simp; omega
  have HB := Lib.hid hb
  have H0 := Lib.hid h0
  clear hb hlen hlen2 h0
  go_enter Try.func28, Try.ntmps28
  go_wp2_with (fail)
  refine C.out.mono ?_
  rintro e w' ⟨rfl, rfl⟩
  go_wp2
  go_loopw [6] (fun i wr => ∃ k : Nat, k ≤ n2 ∧ i = .int .i64 k ∧ Hid (∀ f ∈ ws.take k, 1 ≤ f ∧ f ≤ 40) ∧ wr = w.alloc (.cells #[] 3)) (fun i _ => n2 - (intOf i).toNat)
  case atStart =>
    have : Hid (∀ f ∈ ws.take 0, 1 ≤ f ∧ f ≤ 40) := fun f hf => by simp at hf
    exact ⟨0, Nat.zero_le _, rfl, this, rfl⟩
  case round =>
    obtain ⟨k, hk, rfl, HF, rfl⟩ := hrel
    by_cases hlt : k < n2
    · have hltB : decide ((k : Int) < (n2 : Int)) = true := by simp; omega
      obtain ⟨b, o, z, rfl, hbl, hx, hc⟩ := h2.at_ hlt
      have k0 := (B0.cell (p := ⟨b, o + k, none⟩) hbl).trans hc
      by_cases hz : 1 ≤ z ∧ z ≤ 40
      · have HF2 : Hid (∀ f ∈ ws.take (k + 1), 1 ≤ f ∧ f ≤ 40) := by
          have : ∀ f ∈ ws.take (k + 1), 1 ≤ f ∧ f ≤ 40 := by
            intro f hf
            rw [List.take_add_one, hx] at hf
            rcases List.mem_append.1 hf with hf | hf
            · exact HF.out f hf
            · simp at hf; subst hf; exact hz
          exact this
        have C2 := Lib.hid (l1In_yes z 1 40 (w.alloc (.cells #[] 3)) hz.1 hz.2)
        clear hx hz hc
        go_wp2_with (go_at_call 50; refine C2.out.mono ?_; rintro e w' ⟨rfl, rfl⟩)
        go_roundw
        case rel => exact ⟨k + 1, by omega, by go_num, HF2, trivial⟩
        case measure => simp [intOf]; omega
      · have HE := Lib.hid (ticksL_no (ls := ls) (ws := ws) (fun hh => hz ((okW_iff.1 hh.2.2).2 z (List.mem_of_getElem? hx))))
        have C2 := Lib.hid (l1In_no z 1 40 (w.alloc (.cells #[] 3)) hz)
        clear hx hz hc
        obtain rfl := HE.out.symm.trans HR.out
        go_wp2_with (go_at_call 50; refine C2.out.mono ?_; rintro e w' ⟨rfl, rfl⟩)
        go_ret
        exact ⟨_, _, _, rfl, O0, B0⟩
    · have hltB : decide ((k : Int) < (n2 : Int)) = false := by simp; omega
      obtain rfl : k = n2 := by omega
      have HW : Hid (okW ws = true) := by
        have h1 := HF.out
        have h3 := HL2.out
        rw [List.take_of_length_le (by omega)] at h1
        exact okW_iff.2 ⟨by have := H0.out; omega, h1⟩
      go_wp2
      go_loopw [5, 7] (fun v t wr => ∃ (i q : Nat) (A' : Option Addr) (c' : Nat), i ≤ n ∧ q ≤ 40 * i ∧ t = .int .i64 (i : Int) ∧ v = .slice A' q c' ∧ Own wr w.heap.size 3 A' q c' (ints .i64 (ticksP ws 0 (ls.take i))) ∧ Below w.heap.size w wr) (fun _ t _ => n - (intOf t).toNat)
      case atStart => exact ⟨0, 0, _, _, Nat.zero_le _, by omega, rfl, rfl, O0, B0⟩
      case round =>
        obtain ⟨i, q, A1, c1, hi2, hq, rfl, rfl, O1, B1⟩ := hrel
        by_cases hlt : i < n
        · have hltB : decide ((i : Int) < (n : Int)) = true := by simp; omega
          obtain ⟨hg1, hg2, hg3⟩ := wdAt_get HW.out i
          have hn0 := H0.out
          obtain ⟨j, hj⟩ : ∃ j, j = min i (k - 1) := ⟨_, rfl⟩
          have hjl : j < k := by omega
          have hmn : min (i : Int) ((k : Int) - 1) = (j : Int) := by omega
          rw [HL2.out, ← hj] at hg1
          obtain ⟨b2, o2, y, rfl, hbl2, hy, hc2⟩ := h2.at_ hjl
          have hyv : y = (wdAt ws i : Int) := by rw [hy] at hg1; injection hg1
          obtain ⟨b, o, x, rfl, hbl, hx, hc⟩ := h.at_ hlt
          have HX := Lib.hid (ticksP_take ws hx)
          obtain ⟨m, hm⟩ : ∃ m, wdAt ws i = m := ⟨_, rfl⟩
          rw [hm] at hyv HX hg2 hg3
          rw [hyv] at hc2
          have hkW : IntKind.i64.wrap ((k : Int) - 1) = (k : Int) - 1 := IntWalk.i64_in _ (by omega)
          have k2 := (B1.cell (p := ⟨b2, o2 + j, none⟩) hbl2).trans hc2
          clear hx hy hc2 hj hyv hm hg1 hn0
          go_wp2
          go_loopw [5, 50] (fun v t wr => ∃ (p : Nat) (A' : Option Addr) (c' : Nat), p ≤ m ∧ t = .int .i64 (p : Int) ∧ v = .slice A' (q + p) c' ∧ Own wr w.heap.size 3 A' (q + p) c' (ints .i64 (ticksP ws 0 (ls.take i) ++ List.replicate p x)) ∧ Below w.heap.size w wr) (fun _ t _ => m - (intOf t).toNat)
          case atStart => exact ⟨0, _, _, Nat.zero_le _, rfl, rfl, by simpa using O1, B1⟩
          case round =>
            obtain ⟨p, A3, c3, hp, rfl, rfl, O3, B3⟩ := hrel
            have hge := B3.size
            by_cases hlp : p < m
            · have hlpB : decide ((p : Int) < (m : Int)) = true := by simp; omega
              have k0 := (B3.cell (p := ⟨b, o + i, none⟩) hbl).trans hc
              go_wp2_with (at_builtin; refine wpList_apps _ rfl (.tmp 52) (.tmp 57) 23 rfl w.heap.size 3 i0 (.int .i64 0) 8 Try.underlying23 hi hz0 hz1 hz2 rfl A3 (q + p) c3 _ rfl O3 1 1 #[.int .i64 x] rfl rfl (by simp [Value.oneCell']) (by decide) (by omega) (by decide) hge ?_; intro g3 c3 w3 O4 G3 B4 _)
              go_roundw
              case rel => exact ⟨p + 1, _, _, by omega, by go_num, rfl, by rw [List.replicate_succ', ← List.append_assoc, ints_app]; exact O4, B3.trans B4⟩
              case measure => simp [intOf]; omega
            · have hlpB : decide ((p : Int) < (m : Int)) = false := by simp; omega
              obtain rfl : p = m := by omega
              go_wp2
              go_roundw
              case rel => exact ⟨i + 1, q + p, _, _, by omega, by omega, by go_num, rfl, by rw [HX.out]; exact O3, B3⟩
              case measure => simp [intOf]; omega
        · have hltB : decide ((i : Int) < (n : Int)) = false := by simp; omega
          obtain rfl : i = n := by omega
          have HE := Lib.hid (ticksL_yes HB.out (by rw [HL.out]; exact h4) HW.out)
          obtain rfl := HE.out.symm.trans HR.out
          go_wp2
          go_ret
          refine ⟨_, _, _, rfl, ?_, B1⟩
          rw [List.take_of_length_le (by rw [HL.out]; omega)] at O1
          exact O1
theorem specTicksOf_w {A A2 : Option Addr} {n c n2 c2 : Nat} {ls ws : List Int} {w : World} (h : Has w A n (ints .i64 ls)) (h2 : Has w A2 n2 (ints .i64 ws)) (hn : n ≤ 16777216) (hn2 : n2 ≤ 16777216) :
    Calls Try.prog 28 #[.slice A n c, .slice A2 n2 c2] w fun e w' => ∃ A' n' c', e = .returned (.slice A' n' c') ∧ Own w' w.heap.size 3 A' n' c' (ints .i64 (ticksL ls ws)) ∧ Below w.heap.size w w' := specTicksOf_r rfl h h2 hn hn2

set_option maxHeartbeats 4000000 in
theorem specRunsOf_w {A : Option Addr} {n c : Nat} {ts : List Int} {w : World} (h : Has w A n (ints .i64 ts)) (hn : n ≤ 16777216) :
    Calls Try.prog 25 #[.slice A n c] w fun e w' => ∃ A' n' c', e = .returned (.slice A' n' c') ∧ Own w' w.heap.size 3 A' n' c' (ints .i64 (runsL ts)) ∧ Below w.heap.size w w' := by
  obtain ⟨i0, hi, hz0, hz1, hz2⟩ := info_parts Try.infoInt
  have HL := Lib.hid h.len
  have B0 := lit_below w
  have O0 := lit_own w
  go_enter Try.func25, Try.ntmps25
  go_wp2
  go_loopw [3, 4] (fun v t wr => ∃ (k q : Nat) (A' : Option Addr) (c' : Nat), k ≤ n ∧ q ≤ k ∧ t = .int .i64 (k : Int) ∧ v = .slice A' q c' ∧ Own wr w.heap.size 3 A' q c' (ints .i64 (runsL (ts.take k))) ∧ Below w.heap.size w wr) (fun _ t _ => n - (intOf t).toNat)
  case atStart => exact ⟨0, 0, _, _, Nat.zero_le _, by omega, rfl, rfl, O0, B0⟩
  case round =>
    obtain ⟨k, q, A1, c1, hk, hq, rfl, rfl, O1, B1⟩ := hrel
    have hge := B1.size
    by_cases hlt : k < n
    · have hltB : decide ((k : Int) < (n : Int)) = true := by simp; omega
      obtain ⟨b, o, x, rfl, hbl, hx, hc⟩ := h.at_ hlt
      have HT := Lib.hid (show ts.take (k + 1) = ts.take k ++ [x] by rw [List.take_add_one, hx]; rfl)
      have k0 := (B1.cell (p := ⟨b, o + k, none⟩) hbl).trans hc
      by_cases hk0 : k = 0
      · subst hk0
        have HN := Lib.hid (show runsL (ts.take (0 + 1)) = runsL (ts.take 0) ++ [1] by rw [HT.out]; exact runs_new (by simp))
        have g0 : decide (((0 : Nat) : Int) > 0) = false := by simp
        have g1 : decide ((0 : Int) > 0) = false := by simp
        clear hx hc
        go_wp2
        go_quiet (fail)
        go_wp2_with (at_builtin; refine wpList_apps _ rfl (.tmp 38) (.tmp 39) 23 rfl w.heap.size 3 i0 (.int .i64 0) 8 Try.underlying23 hi hz0 hz1 hz2 rfl A1 q c1 _ rfl (O1.bel (below_drewN wr _)) 1 1 #[.int .i64 1] rfl rfl (by simp [Value.oneCell']) (by decide) (by omega) (by decide) hge ?_; intro g3 c3 w3 O3 G3 B3 _)
        go_roundw
        case rel => exact ⟨0 + 1, q + 1, _, _, by omega, by omega, by go_num, rfl, by rw [HN.out, ints_app]; exact O3, (B1.trans (below_drewN _ _)).trans B3⟩
        case measure => simp [intOf]; omega
      · obtain ⟨j, hj⟩ : ∃ j, j = k - 1 := ⟨_, rfl⟩
        obtain ⟨b1, o1, y, hA, _, hy, hc1⟩ := h.at_ (i := j) (by omega)
        injection hA with hA; injection hA with q1 q2; subst q1 q2
        have k1 := (B1.cell (p := ⟨b, o + j, none⟩) hbl).trans hc1
        have kW : IntKind.i64.wrap ((k : Int) - 1) = (j : Int) := by rw [IntWalk.i64_in _ (by omega)]; omega
        have g0 : decide ((k : Int) > 0) = true := by simp; omega
        have g1 : decide (0 < (k : Int)) = true := by simp; omega
        have g2 : decide (0 < k) = true := by simp; omega
        have b1 : (k : Int) < (n : Int) := by omega
        have b2 : (j : Int) < (n : Int) := by omega
        have hlast : (ts.take k).getLast? = some y := by
          rw [List.getLast?_eq_getElem?, List.length_take, List.getElem?_take_of_lt (by rw [HL.out]; omega), ← hy]
          congr 1; rw [HL.out]; omega
        by_cases hxy : x = y
        · have hxyB : (x == y) = true := by simp [hxy]
          obtain ⟨ns, v, e1, e2, e3⟩ := runs_same hlast
          rw [← hxy, ← HT.out] at e2
          have HE2 := Lib.hid e2
          rw [e1] at O1
          have hql : q = ns.length + 1 := by have := O1.has.len; simp at this; omega
          obtain ⟨m, hm⟩ : ∃ m, m = ns.length := ⟨_, rfl⟩
          have hv : (v : Nat) ≤ 16777216 := by rw [List.length_take] at e3; omega
          have HQ := Lib.hid (show q = m + 1 by omega)
          have HM := Lib.hid hm
          clear hx hy hc hc1 hj hxy hlast e1 e2 hk0 hql hm e3
          go_wp2
          go_quiet (fail)
          have O2 := O1.bel (below_drewN wr nq)
          have B2 := B1.trans (below_drewN (B := w.heap.size) wr nq)
          have hmq : m < q := by have := HQ.out; omega
          obtain ⟨g, rfl, hg0, hg1⟩ := O2.head (by omega)
          obtain ⟨u, hu1, hu2, hu3⟩ := O2.at_ (k := m) hmq
          have hu : u = .int .i64 (v : Int) := by
            have : (ints .i64 (ns ++ [(v : Int)]))[m]? = some (.int .i64 (v : Int)) := by rw [HM.out]; simp [ints]
            rw [this] at hu1; injection hu1 with hu1; exact hu1.symm
          subst hu
          have qW : IntKind.i64.wrap ((q : Int) - 1) = (m : Int) := by have := HQ.out; rw [IntWalk.i64_in _ (by omega)]; omega
          have vW : IntKind.i64.wrap ((v : Int) + 1) = (v : Int) + 1 := IntWalk.i64_in _ (by omega)
          have m1 : (m : Int) < (q : Int) := by omega
          have O3 := O2.set_ m (.int .i64 ((v : Int) + 1))
          rw [ints_set, show (ns ++ [(v : Int)]).set m ((v : Int) + 1) = ns ++ [((v + 1 : Nat) : Int)] by rw [HM.out]; simp] at O3
          have HO := Lib.hid O3
          have HB := Lib.hid (B2.setCell (p := ⟨g, m, none⟩) hg0 (.int .i64 ((v : Int) + 1)))
          generalize wr.drewN nq = D at *
          clear O1 O2 O3 B2 hu1 hmq k0 k1
          go_wp2
          go_roundw
          case rel => exact ⟨k + 1, q, _, _, by omega, by omega, by go_num, rfl, by rw [HE2.out]; exact HO.out, HB.out⟩
          case measure => simp [intOf]; omega
        · have hxyB : (x == y) = false := by simp [hxy]
          have HN := Lib.hid (show runsL (ts.take (k + 1)) = runsL (ts.take k) ++ [1] by rw [HT.out]; exact runs_new (by rw [hlast]; intro e; exact hxy (by injection e with e; exact e.symm)))
          clear hx hy hc hc1 hj hxy hlast hk0
          go_wp2
          go_quiet (fail)
          go_wp2_with (at_builtin; refine wpList_apps _ rfl (.tmp 38) (.tmp 39) 23 rfl w.heap.size 3 i0 (.int .i64 0) 8 Try.underlying23 hi hz0 hz1 hz2 rfl A1 q c1 _ rfl (O1.bel (below_drewN wr _)) 1 1 #[.int .i64 1] rfl rfl (by simp [Value.oneCell']) (by decide) (by omega) (by decide) hge ?_; intro g3 c3 w3 O3 G3 B3 _)
          go_roundw
          case rel => exact ⟨k + 1, q + 1, _, _, by omega, by omega, by go_num, rfl, by rw [HN.out, ints_app]; exact O3, (B1.trans (below_drewN _ _)).trans B3⟩
          case measure => simp [intOf]; omega
    · have hltB : decide ((k : Int) < (n : Int)) = false := by simp; omega
      obtain rfl : k = n := by omega
      go_wp2
      go_ret
      refine ⟨_, _, _, rfl, ?_, B1⟩
      rw [List.take_of_length_le (by rw [HL.out]; omega)] at O1
      exact O1
end Go.Proofs.Ytbeebaiionlcoaa
