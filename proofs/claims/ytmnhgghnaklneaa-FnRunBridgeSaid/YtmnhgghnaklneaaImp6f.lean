/-
  Chapter 6's program, its exported functions but for the run: what is proved here is what LearnPort, PortsFor and BridgeStep return, and that they write nothing that was there. Condition: lengths up to 2^24.
-/
import Derived.Test.YtmnhgghnaklneaaImp6e
namespace Go.Proofs.Ytmnhgghnaklneaa
open Go.RowKit Go.Shelf

/-- A table with one station set, as a list. -/
theorem tabL_learn {ts : List Int} (h : ts.length = 15) (s : Nat) (p : Int) : tabL (fun i => if i = s then p else tabF ts i) = ts.set s p := by
  rw [← tabL_set, tabL_tabF h]
theorem tabF_learn {ts : List Int} (h : ts.length = 15) (s : Nat) (p : Int) : ∀ i : Nat, i < 15 → (if i = s then p else tabF ts i) = tabF (ts.set s p) i := fun i hi => by
  unfold tabF
  rw [List.getD_eq_getElem?_getD, List.getD_eq_getElem?_getD]
  by_cases e : i = s
  · subst e; rw [if_pos rfl, List.getElem?_set_self (by omega)]; rfl
  · rw [if_neg e, List.getElem?_set_ne (by omega)]

set_option maxHeartbeats 2000000 in
theorem implLearnPort_any {A : Option Addr} {n c : Nat} {ts : List Int} {ports from_ port : Int} {w : World} (h : Has w A n (ints .i64 ts)) (_ : I64s ts) (hn : n ≤ 16777216) (_ : (-9223372036854775808 ≤ ports ∧ ports ≤ 9223372036854775807)) (_ : (-9223372036854775808 ≤ from_ ∧ from_ ≤ 9223372036854775807)) (_ : (-9223372036854775808 ≤ port ∧ port ≤ 9223372036854775807)) :
    Calls Try.prog 17 #[.slice A n c, .int .i64 ports, .int .i64 from_, .int .i64 port] w fun e w' => ∃ A' n' c', e = .returned (.tuple #[.slice A' n' c', .bool (decide (learnOk ts ports from_ port))]) ∧ Own w' w.heap.size 3 A' n' c' (ints .i64 (learnL ts ports from_ port)) ∧ Below w.heap.size w w' := by
  have bad : ¬ learnOk ts ports from_ port → ∀ W : World, Below w.heap.size w W → ∃ A' n' c', Ending.returned (.tuple #[.slice none 0 0, .bool false]) = .returned (.tuple #[.slice A' n' c', .bool (decide (learnOk ts ports from_ port))]) ∧ Own W w.heap.size 3 A' n' c' (ints .i64 (learnL ts ports from_ port)) ∧ Below w.heap.size w W := fun hg W hW =>
    ⟨none, 0, 0, by rw [decide_eq_false hg], by unfold learnL; rw [if_neg hg]; exact World.ownsRow_nil _ _ _ _, hW⟩
  by_cases ht : tOk ts ports
  · have C := Lib.hid (bridgeOf_yes (c := c) h ht)
    have HT := Lib.hid ht
    have HB := Lib.hid bad
    clear bad ht
    go_enter Try.func17, Try.ntmps17
    go_wp2_with (fail)
    refine C.out.mono ?_
    rintro e w1 ⟨b, rfl, M1, B1⟩
    have s1 := B1.size
    have hF := heap_alloc_new w1 (.cells #[.int .i64 0, .map none] 70)
    obtain ⟨k0, k1, f0, f1⟩ := two_cells hF
    clear hF
    have B2 := B1.alloc s1 (.cells #[.int .i64 ports, .map (some b)] 70)
    have M2 := M1.kept (World.grownBy_alloc w1 (.cells #[.int .i64 ports, .map (some b)] 70) none) (by simp)
    have hF2 := heap_alloc_new w1 (.cells #[.int .i64 ports, .map (some b)] 70)
    by_cases hf : 0 ≤ from_ ∧ from_ ≤ 14
    · have C1 := Lib.hid (isOne_b (b := true) (w1.alloc (.cells #[.int .i64 ports, .map (some b)] 70)) (decide_eq_true hf))
      obtain ⟨s, rfl⟩ := Int.eq_ofNat_of_zero_le hf.1
      by_cases hq : 0 ≤ port ∧ port ≤ ports - 1
      · have C2 := Lib.hid (isPort_b (b := true) (w1.alloc (.cells #[.int .i64 ports, .map (some b)] 70)) (decide_eq_true hq))
        have hg : learnOk ts ports (s : Int) port := ⟨HT.out, hf, hq⟩
        have HD := Lib.hid (decide_eq_true hg)
        have HL := Lib.hid (show learnL ts ports (s : Int) port = tabL (fun i => if i = s then port else tabF ts i) by unfold learnL; rw [if_pos hg, tabL_learn HT.out.1]; rfl)
        have C3 := Lib.hid (learn_any (ports := ports) (p := port) M2 (s := s) (by omega) (by have := HT.out.2.1; omega) (by decide))
        have hbl := M1.lt
        clear hg hf hq
        go_wp2_with (fail)
        refine C1.out.mono ?_
        rintro e w2 ⟨rfl, rfl⟩
        go_wp2_with (fail)
        refine C2.out.mono ?_
        rintro e w2 ⟨rfl, rfl⟩
        obtain ⟨j0, j1, g0, g1⟩ := two_cells hF2
        clear k0 k1 f0 f1
        go_wp2_with (fail)
        refine C3.out.mono ?_
        rintro e w2 ⟨rfl, M3, G3⟩
        have hF3 := (G3.block w1.heap.size (by simp) (fun hh => by injection hh with hh; omega)).trans hF2
        have B3 := B2.trans (below_of_grown G3 (by simp; omega) (fun j hj => by cases hj; exact M1.1))
        clear j0 j1 g0 g1
        obtain ⟨j0, j1, g0, g1⟩ := two_cells hF3
        have s3 := B3.size
        have C4 := Lib.hid (table_any (ports := ports) M3)
        go_wp2_with (fail)
        refine C4.out.mono ?_
        rintro e w4 ⟨A4, c4, rfl, O4, B4⟩
        go_wp2
        refine bodyPost_ret (results_tmp2 rfl _ _ _) rfl ?_
        exact ⟨_, _, _, ret_pair HD.out.symm, by rw [HL.out]; exact O4.mono s3, B3.trans (B4.mono s3)⟩
      · have C2 := Lib.hid (isPort_b (b := false) (w1.alloc (.cells #[.int .i64 ports, .map (some b)] 70)) (decide_eq_false hq))
        have HZ := Lib.hid (HB.out (fun hg => hq hg.2.2))
        clear hf hq
        go_wp2_with (fail)
        refine C1.out.mono ?_
        rintro e w2 ⟨rfl, rfl⟩
        go_wp2_with (fail)
        refine C2.out.mono ?_
        rintro e w2 ⟨rfl, rfl⟩
        go_wp2
        refine bodyPost_ret (results_tmp2 rfl _ _ _) rfl ?_
        exact HZ.out _ B2
    · have C1 := Lib.hid (isOne_b (b := false) (w1.alloc (.cells #[.int .i64 ports, .map (some b)] 70)) (decide_eq_false hf))
      have HZ := Lib.hid (HB.out (fun hg => hf hg.2.1))
      clear hf
      go_wp2_with (fail)
      refine C1.out.mono ?_
      rintro e w2 ⟨rfl, rfl⟩
      go_wp2
      refine bodyPost_ret (results_tmp2 rfl _ _ _) rfl ?_
      exact HZ.out _ B2
  · have C := Lib.hid (bridgeOf_no (c := c) h hn ht)
    have HB := Lib.hid (bad (fun hg => ht hg.1))
    clear bad ht
    go_enter Try.func17, Try.ntmps17
    go_wp2_with (fail)
    refine C.out.mono ?_
    rintro e w1 ⟨rfl, B1⟩
    have hF := heap_alloc_new w1 (.cells #[.int .i64 0, .map none] 70)
    obtain ⟨k0, k1, f0, f1⟩ := two_cells hF
    clear hF
    go_wp2
    refine bodyPost_ret (results_tmp2 rfl _ _ _) rfl ?_
    have s1 := B1.size
    exact HB.out _ (B1.alloc s1 _)

set_option maxRecDepth 100000 in
set_option maxHeartbeats 2000000 in
theorem implPortsFor_any {A : Option Addr} {n c : Nat} {ts : List Int} {ports to port : Int} {w : World} (h : Has w A n (ints .i64 ts)) (_ : I64s ts) (hn : n ≤ 16777216) (_ : (-9223372036854775808 ≤ ports ∧ ports ≤ 9223372036854775807)) (_ : (-9223372036854775808 ≤ to ∧ to ≤ 9223372036854775807)) (_ : (-9223372036854775808 ≤ port ∧ port ≤ 9223372036854775807)) :
    Calls Try.prog 22 #[.slice A n c, .int .i64 ports, .int .i64 to, .int .i64 port] w fun e w' => ∃ A' n' c', e = .returned (.slice A' n' c') ∧ Own w' w.heap.size 3 A' n' c' (ints .i64 (portsL ts ports to port)) ∧ Below w.heap.size w w' := by
  have bad : ¬ toOk ts ports to port → ∀ W : World, Below w.heap.size w W → ∃ A' n' c', Ending.returned (.slice none 0 0) = .returned (.slice A' n' c') ∧ Own W w.heap.size 3 A' n' c' (ints .i64 (portsL ts ports to port)) ∧ Below w.heap.size w W := fun hg W hW =>
    ⟨none, 0, 0, rfl, by unfold portsL; rw [if_neg hg]; exact World.ownsRow_nil _ _ _ _, hW⟩
  by_cases ht : tOk ts ports
  · have C := Lib.hid (bridgeOf_yes (c := c) h ht)
    have HT := Lib.hid ht
    have HB := Lib.hid bad
    obtain ⟨P, rfl⟩ := Int.eq_ofNat_of_zero_le (show 0 ≤ ports by have := ht.2.1; omega)
    clear bad ht
    go_enter Try.func22, Try.ntmps22
    go_wp2_with (fail)
    refine C.out.mono ?_
    rintro e w1 ⟨b, rfl, M1, B1⟩
    have s1 := B1.size
    have hF := heap_alloc_new w1 (.cells #[.int .i64 0, .map none] 70)
    obtain ⟨k0, k1, f0, f1⟩ := two_cells hF
    clear hF
    have B2 := B1.alloc s1 (.cells #[.int .i64 (P : Int), .map (some b)] 70)
    have M2 := M1.kept (World.grownBy_alloc w1 (.cells #[.int .i64 (P : Int), .map (some b)] 70) none) (by simp)
    have hF2 := heap_alloc_new w1 (.cells #[.int .i64 (P : Int), .map (some b)] 70)
    by_cases hf : 0 ≤ to ∧ to ≤ 15
    · have C1 := Lib.hid (isStation_b (b := true) (w1.alloc (.cells #[.int .i64 (P : Int), .map (some b)] 70)) (decide_eq_true hf))
      obtain ⟨s, rfl⟩ := Int.eq_ofNat_of_zero_le hf.1
      by_cases hq : 0 ≤ port ∧ port ≤ (P : Int) - 1
      · have C2 := Lib.hid (isPort_b (b := true) (w1.alloc (.cells #[.int .i64 (P : Int), .map (some b)] 70)) (decide_eq_true hq))
        have hg : toOk ts (P : Int) (s : Int) port := ⟨HT.out, hf, hq⟩
        have HL := Lib.hid (show portsL ts (P : Int) (s : Int) port = portsTo (knownAt ts (s : Int)) port P by unfold portsL; rw [if_pos hg]; rfl)
        have C3 := Lib.hid (portsFor_any (b := b) (ports := (P : Int)) (to := (s : Int)) (port := port) (w1.alloc (.cells #[.int .i64 (P : Int), .map (some b)] 70)))
        have c4 := ports_collected (P := P) (port := port) M2 (low_of HT.out) (to := s) (by omega) (by have := HT.out.2.1; omega)
        rw [World.size_alloc] at c4
        have C4 := Lib.hid c4
        have s2 : w.heap.size ≤ w1.heap.size + 1 := by omega
        clear hg hf hq c4
        go_wp2_with (fail)
        refine C1.out.mono ?_
        rintro e w2 ⟨rfl, rfl⟩
        go_wp2_with (fail)
        refine C2.out.mono ?_
        rintro e w2 ⟨rfl, rfl⟩
        obtain ⟨j0, j1, g0, g1⟩ := two_cells hF2
        clear k0 k1 f0 f1
        go_wp2_with (fail)
        refine C3.out.mono ?_
        rintro e w2 ⟨rfl, rfl⟩
        go_wp2_with (fail)
        refine C4.out.mono ?_
        rintro e w4 ⟨A4, n4, c4, rfl, O4, B4⟩
        go_wp2
        go_ret
        exact ⟨_, _, _, rfl, by rw [HL.out]; exact O4.mono s2, B2.trans (B4.mono s2)⟩
      · have C2 := Lib.hid (isPort_b (b := false) (w1.alloc (.cells #[.int .i64 (P : Int), .map (some b)] 70)) (decide_eq_false hq))
        have HZ := Lib.hid (HB.out (fun hg => hq hg.2.2))
        clear hf hq
        go_wp2_with (fail)
        refine C1.out.mono ?_
        rintro e w2 ⟨rfl, rfl⟩
        go_wp2_with (fail)
        refine C2.out.mono ?_
        rintro e w2 ⟨rfl, rfl⟩
        go_wp2
        go_ret
        exact HZ.out _ B2
    · have C1 := Lib.hid (isStation_b (b := false) (w1.alloc (.cells #[.int .i64 (P : Int), .map (some b)] 70)) (decide_eq_false hf))
      have HZ := Lib.hid (HB.out (fun hg => hf hg.2.1))
      clear hf
      go_wp2_with (fail)
      refine C1.out.mono ?_
      rintro e w2 ⟨rfl, rfl⟩
      go_wp2
      go_ret
      exact HZ.out _ B2
  · have C := Lib.hid (bridgeOf_no (c := c) h hn ht)
    have HB := Lib.hid (bad (fun hg => ht hg.1))
    clear bad ht
    go_enter Try.func22, Try.ntmps22
    go_wp2_with (fail)
    refine C.out.mono ?_
    rintro e w1 ⟨rfl, B1⟩
    have hF := heap_alloc_new w1 (.cells #[.int .i64 0, .map none] 70)
    obtain ⟨k0, k1, f0, f1⟩ := two_cells hF
    clear hF
    go_wp2
    go_ret
    have s1 := B1.size
    exact HB.out _ (B1.alloc s1 _)
end Go.Proofs.Ytmnhgghnaklneaa
