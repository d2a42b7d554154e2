/-
  Chapter 6's program, one frame: what is proved here is what BridgeStep returns, each slice in memory of its own, and that it writes nothing that was there. Condition: lengths up to 2^24.
-/
import Derived.Test.YtmnhgghnaklneaaImp6f
namespace Go.Proofs.Ytmnhgghnaklneaa
open Go.RowKit Go.Shelf

/-- What a bridge gives for a frame, in the words of its map. -/
theorem outs_eq {ts : List Int} {P s t : Nat} {q : Int} (h : stepOk ts (P : Int) ((s : Int), (t : Int), q)) : outsL ts (P : Int) ((s : Int), (t : Int), q) = portsTo (knownAt (ts.set s q) (t : Int)) q P := by
  unfold outsL
  rw [if_pos h]
  have h1 : tOk (stepT ts ((s : Int), (t : Int), q)) (P : Int) := learn_ok h.1
  unfold portsL
  rw [if_pos ⟨h1, h.2, h.1.2.2⟩]
  rfl
theorem step_eq {ts : List Int} {P s t : Nat} {q : Int} (h : stepOk ts (P : Int) ((s : Int), (t : Int), q)) : stepL ts (P : Int) ((s : Int), (t : Int), q) = ts.set s q := by
  unfold stepL; rw [if_pos h]; rfl
/-- The frame, taken: the iterator over three new boxes, and what it gives. -/
theorem taken_any {lo b nn s t P : Nat} {q : Int} {ts : List Int} {w : World} (h : OwnM w lo b nn (tabF ts)) (h15 : ts.length = 15) (hs : s < 15) (ht : t ≤ 15) (hP : P ≤ 6) (hq : 0 ≤ q ∧ q ≤ 6) (hn : nn ≤ 1000) (hlow : ∀ x ∈ ts, -1 ≤ x) :
    Calls Try.prog 63 #[.agg #[.int .i64 (P : Int), .map (some b)], .agg #[.int .i64 (s : Int), .int .i64 (t : Int), .int .i64 q]] w fun e w' => ∃ (w1 : World) (lb : Array Value),
      e = .returned (.func (.func 71) #[] lb) ∧ OwnM w1 lo b (nn + 1) (tabF (ts.set s q)) ∧ w.grownBy w1 (some b) ∧
      Calls Try.prog 60 #[.func (.func 71) #[] lb] w' fun e w'' => ∃ A' n' c', e = .returned (.slice A' n' c') ∧ Own w'' w1.heap.size 3 A' n' c' (ints .i64 (portsTo (knownAt (ts.set s q) (t : Int)) q P)) ∧ Below w1.heap.size w1 w'' := by
  refine (take_any (ports := (P : Int)) (t := (t : Int)) (q := q) h hs hq hn).mono ?_
  rintro e w' ⟨w1, rfl, rfl, M1, G1⟩
  have M2 := M1.congr (tabF_learn h15 s q)
  exact ⟨w1, _, rfl, M2, G1, ports_collected M2 (fun x hx => by
    rcases List.mem_or_eq_of_mem_set hx with hx | rfl
    · exact hlow x hx
    · omega) ht hP⟩

set_option maxRecDepth 100000 in
set_option maxHeartbeats 4000000 in
theorem implBridgeStep_any {A : Option Addr} {n c : Nat} {ts : List Int} {ports f t q : Int} {w : World} (h : Has w A n (ints .i64 ts)) (_ : I64s ts) (hn : n ≤ 16777216) (_ : -9223372036854775808 ≤ ports ∧ ports ≤ 9223372036854775807) (_ : I64H [(f, t, q)]) :
    Calls Try.prog 25 #[.slice A n c, .int .i64 ports, .agg #[.int .i64 f, .int .i64 t, .int .i64 q]] w fun e w' => StepR w w' e ts ports (f, t, q) := by
  have bad : ¬ stepOk ts ports (f, t, q) → ∀ W : World, Below w.heap.size w W → StepR w W (.returned (.tuple #[.slice none 0 0, .slice none 0 0, .bool false])) ts ports (f, t, q) := fun hg W hW =>
    ⟨none, 0, 0, none, 0, 0, by rw [decide_eq_false hg], by unfold stepL; rw [if_neg hg]; exact World.ownsRow_nil _ _ _ _, by unfold outsL; rw [if_neg hg]; exact World.ownsRow_nil _ _ _ _, (fun a1 a2 h1 => by cases h1), hW⟩
  have hB0 := heap_alloc_new w (.cells #[.int .i64 f, .int .i64 t, .int .i64 q] 33)
  have B0 : Below w.heap.size w (w.alloc (.cells #[.int .i64 f, .int .i64 t, .int .i64 q] 33)) := (Below.refl _ _).alloc (Nat.le_refl _) _
  have s0 : w.heap.size < (w.alloc (.cells #[.int .i64 f, .int .i64 t, .int .i64 q] 33)).heap.size := by simp
  have h0 := h.bel B0
  generalize hW0 : w.alloc (.cells #[.int .i64 f, .int .i64 t, .int .i64 q] 33) = w0 at hB0 B0 s0 h0
  by_cases ht : tOk ts ports
  · have C := Lib.hid (bridgeOf_yes (c := c) h0 ht)
    have HT := Lib.hid ht
    have HB := Lib.hid bad
    obtain ⟨P, rfl⟩ := Int.eq_ofNat_of_zero_le (show 0 ≤ ports by have := ht.2.1; omega)
    clear bad ht
    go_enter Try.func25, Try.ntmps25
    go_wp2_with (fail)
    refine C.out.mono ?_
    rintro e w1 ⟨b, rfl, M1, B1⟩
    have s1 := B1.size
    have hF := heap_alloc_new w1 (.cells #[.int .i64 0, .map none] 70)
    obtain ⟨k0, k1, f0, f1⟩ := two_cells hF
    have hB1 := (Below.heap_alloc w1 (.cells #[.int .i64 (P : Int), .map (some b)] 70) w.heap.size (by omega)).trans ((B1.block w.heap.size s0).trans hB0)
    clear hF hW0
    have B2 := (B0.trans (B1.mono (Nat.le_of_lt s0))).alloc (by omega) (.cells #[.int .i64 (P : Int), .map (some b)] 70)
    have M2 := (M1.kept (World.grownBy_alloc w1 (.cells #[.int .i64 (P : Int), .map (some b)] 70) none) (by simp)).mono (Nat.le_of_lt s0) (Nat.le_refl _)
    have hF2 := heap_alloc_new w1 (.cells #[.int .i64 (P : Int), .map (some b)] 70)
    have s2 : (w1.alloc (.cells #[.int .i64 (P : Int), .map (some b)] 70)).heap.size = w1.heap.size + 1 := by simp
    have hbl := M1.lt
    have hbl0 := M1.1
    generalize hWW : w1.alloc (.cells #[.int .i64 (P : Int), .map (some b)] 70) = W at hB1 B2 M2 hF2 s2
    obtain ⟨c0, c1, c2⟩ := cells3 hB1
    by_cases hf : hopOk (P : Int) (f, t, q)
    · have C1 := Lib.hid (isHop_b (b := true) W (decide_eq_true hf))
      have hst : stepOk ts (P : Int) (f, t, q) := (stepOk_iff HT.out).2 hf
      have HD := Lib.hid (decide_eq_true hst)
      obtain ⟨s, rfl⟩ := Int.eq_ofNat_of_zero_le hf.1.1
      obtain ⟨t, rfl⟩ := Int.eq_ofNat_of_zero_le hf.2.1.1
      have HS := Lib.hid (step_eq hst)
      have HO := Lib.hid (outs_eq hst)
      have HH := Lib.hid hf
      have hp6 := HT.out.2.1
      clear hf hst
      have C2 := Lib.hid (fun (W' : World) (M : OwnM W' w.heap.size b 15 (tabF ts)) => taken_any (P := P) (s := s) (t := t) (q := q) M HT.out.1 (by have : 0 ≤ (s : Int) ∧ (s : Int) ≤ 14 := HH.out.1; omega) (by have : 0 ≤ (t : Int) ∧ (t : Int) ≤ 15 := HH.out.2.1; omega) (by omega) (by have : 0 ≤ q ∧ q ≤ (P : Int) - 1 := HH.out.2.2; omega) (by decide) (low_of HT.out))
      go_wp2_with (fail)
      refine C1.out.mono ?_
      rintro e W2 ⟨rfl, B3⟩
      have s3 := B3.size
      have M3 := M2.bel B3
      have hB3 := (B3.block w.heap.size (by omega)).trans hB1
      have hF3 := (B3.block w1.heap.size (by omega)).trans hF2
      have B4 := B2.trans (B3.mono B2.size)
      clear k0 k1 f0 f1 c0 c1 c2
      obtain ⟨c0, c1, c2⟩ := cells3 hB3
      obtain ⟨k0, k1, _, _⟩ := two_cells hF3
      go_wp2_with (fail)
      refine (C2.out _ M3).mono ?_
      rintro e W3 ⟨w4, lb, rfl, M4, G4, C3⟩
      have D3 := Lib.hid C3
      clear C3
      go_wp2_with (fail)
      refine D3.out.mono ?_
      rintro e W5 ⟨A5, n5, c5, rfl, O5, B5⟩
      have s4 := G4.size
      have s5 := B5.size
      have B6 := B4.trans (below_of_grown G4 (by omega) (fun j hj => by cases hj; exact M3.1))
      have hF5 := (B5.block w1.heap.size (by omega)).trans ((G4.block w1.heap.size (by omega) (fun hh => by injection hh with hh; omega)).trans hF3)
      have M5 := M4.bel B5
      have B7 := B6.trans (B5.mono (by omega))
      clear k0 k1 c0 c1 c2
      obtain ⟨k0, k1, _, _⟩ := two_cells hF5
      have C4 := Lib.hid (table_any (ports := (P : Int)) M5)
      rw [tabL_tabF (by rw [List.length_set]; exact HT.out.1)] at C4
      go_wp2_with (fail)
      refine C4.out.mono ?_
      rintro e W6 ⟨A6, c6, rfl, O6, B6'⟩
      go_wp2
      refine bodyPost_ret (results_tmp3 rfl _ _ _) rfl ?_
      refine ⟨_, _, _, _, _, _, ret_three HD.out.symm, by rw [HS.out]; exact O6.mono (by omega), by rw [HO.out]; exact (O5.bel B6').mono (by omega), fun a1 a2 e1 e2 => ?_, B7.trans (B6'.mono (by omega))⟩
      subst e1 e2
      have h1 := O6.block.1
      have h2 := O5.block.2
      omega
    · have C1 := Lib.hid (isHop_b (b := false) W (decide_eq_false hf))
      have HZ := Lib.hid (HB.out (fun hg => hf ((stepOk_iff HT.out).1 hg)))
      clear hf
      go_wp2_with (fail)
      refine C1.out.mono ?_
      rintro e W2 ⟨rfl, B3⟩
      go_wp2
      refine bodyPost_ret (results_tmp3 rfl _ _ _) rfl ?_
      exact HZ.out _ (B2.trans (B3.mono B2.size))
  · have C := Lib.hid (bridgeOf_no (c := c) h0 hn ht)
    have HB := Lib.hid (bad (fun hg => ht hg.1.1))
    clear bad ht
    go_enter Try.func25, Try.ntmps25
    go_wp2_with (fail)
    refine C.out.mono ?_
    rintro e w1 ⟨rfl, B1⟩
    have hF := heap_alloc_new w1 (.cells #[.int .i64 0, .map none] 70)
    obtain ⟨k0, k1, f0, f1⟩ := two_cells hF
    clear hF
    go_wp2
    refine bodyPost_ret (results_tmp3 rfl _ _ _) rfl ?_
    have s1 := B1.size
    exact HB.out _ ((B0.trans (B1.mono (Nat.le_of_lt s0))).alloc (by omega) _)
end Go.Proofs.Ytmnhgghnaklneaa
