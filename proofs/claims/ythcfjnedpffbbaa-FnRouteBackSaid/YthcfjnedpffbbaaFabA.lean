/-
  Chapter 16's model: what is proved here is what l16Fabric, l16Nodes, l16Wire, WireOf and WayValid of the model return, and that they write nothing. Condition: lengths up to 2^24.
-/
import Derived.Test.YthcfjnedpffbbaaMathFab
import Derived.Test.YthcfjnedpffbbaaBytes
namespace Go.Proofs.Ythcfjnedpffbbaa
open Go.RowKit

theorem okWH_b (w h : Int) : (decide (1 ≤ w) && decide (w ≤ 5) && (decide (1 ≤ h) && decide (h ≤ 5))) = decide (okWH w h) := by
  by_cases k : okWH w h
  · rw [decide_eq_true k]
    unfold okWH at k
    simp
    omega
  · rw [decide_eq_false k]
    unfold okWH at k
    simp
    omega
set_option maxHeartbeats 2000000 in
theorem l16Fabric_any (w h : Int) (W : World) : Calls Try.prog 29 #[.int .i64 w, .int .i64 h] W fun e W' => e = .returned (.bool (decide (okWH w h))) ∧ W = W' := by
  have HE := Lib.hid (okWH_b w h)
  have C1 := Lib.hid (fun W => l1In_any w 1 5 W)
  have C2 := Lib.hid (fun W => l1In_any h 1 5 W)
  by_cases h1 : 1 ≤ w ∧ w ≤ 5
  · have b1 : (decide (1 ≤ w) && decide (w ≤ 5)) = true := by simp; omega
    rw [b1] at HE C1
    clear h1
    go_enter Try.func29, Try.ntmps29
    go_wp2_with (fail)
    refine (C1.out _).mono ?_
    rintro e w' ⟨rfl, rfl⟩
    go_wp2_with (fail)
    refine (C2.out _).mono ?_
    rintro e w' ⟨rfl, rfl⟩
    go_wp2
    go_ret
    exact ⟨ret_bool (by have := HE.out; simpa using this), rfl⟩
  · have b1 : (decide (1 ≤ w) && decide (w ≤ 5)) = false := by simp; omega
    rw [b1] at HE C1
    clear h1
    go_enter Try.func29, Try.ntmps29
    go_wp2_with (fail)
    refine (C1.out _).mono ?_
    rintro e w' ⟨rfl, rfl⟩
    go_wp2
    go_ret
    exact ⟨ret_bool (by have := HE.out; simpa using this), rfl⟩

theorem two_b {p q : Prop} [Decidable p] [Decidable q] {b c : Bool} (h1 : decide p = b) (h2 : decide q = c) : decide (p ∧ q) = (b && c) := by
  subst h1; subst h2; exact Bool.decide_and p q
theorem l16_mul {w h : Int} (k : okWH w h) : ∃ m : Int, w * h = m ∧ 1 ≤ m ∧ m ≤ 25 := by
  obtain ⟨⟨h1, h2⟩, h3, h4⟩ := k
  refine ⟨w * h, rfl, ?_, ?_⟩
  · have := Int.mul_le_mul h1 h3 (by omega) (by omega); omega
  · have := Int.mul_le_mul h2 h4 (by omega) (by omega); omega
theorem okN_b {w h a m : Int} (k : okWH w h) (hm : w * h = m) : (decide (0 ≤ a) && decide (a ≤ m - 1)) = decide (okN w h a) := by
  by_cases q : okN w h a
  · rw [decide_eq_true q]
    obtain ⟨_, q1, q2⟩ := q
    rw [hm] at q2
    simp
    omega
  · rw [decide_eq_false q]
    unfold okN at q
    rw [hm] at q
    by_cases h0 : 0 ≤ a
    · have : ¬ a < m := fun hh => q ⟨k, h0, hh⟩
      simp
      omega
    · simp
      omega
set_option maxHeartbeats 2000000 in
theorem l16Nodes_any (w h a b : Int) (W : World) : Calls Try.prog 20 #[.int .i64 w, .int .i64 h, .int .i64 a, .int .i64 b] W fun e W' => e = .returned (.bool (decide (okN w h a) && decide (okN w h b))) ∧ W = W' := by
  by_cases k : okWH w h
  · obtain ⟨m, hm, m0, m1⟩ := l16_mul k
    have C0 := Lib.hid (fun W => l16Fabric_any w h W)
    rw [decide_eq_true k] at C0
    have C1 := Lib.hid (fun W => l1In_any a 0 (m - 1) W)
    have C2 := Lib.hid (fun W => l1In_any b 0 (m - 1) W)
    rw [okN_b k hm] at C1 C2
    clear k
    cases hA : decide (okN w h a) <;> rw [hA] at C1 <;> clear hA
    · go_enter Try.func20, Try.ntmps20
      go_wp2_with (fail)
      refine (C0.out _).mono ?_
      rintro e w' ⟨rfl, rfl⟩
      go_wp2_with (fail)
      refine (C1.out _).mono ?_
      rintro e w' ⟨rfl, rfl⟩
      go_wp2
      go_ret
      exact ⟨rfl, rfl⟩
    · cases hB : decide (okN w h b) <;> rw [hB] at C2 <;> clear hB
      all_goals
        go_enter Try.func20, Try.ntmps20
        go_wp2_with (fail)
        refine (C0.out _).mono ?_
        rintro e w' ⟨rfl, rfl⟩
        go_wp2_with (fail)
        refine (C1.out _).mono ?_
        rintro e w' ⟨rfl, rfl⟩
        go_wp2_with (fail)
        refine (C2.out _).mono ?_
        rintro e w' ⟨rfl, rfl⟩
        go_wp2
        go_ret
        exact ⟨rfl, rfl⟩
  · have C0 := Lib.hid (fun W => l16Fabric_any w h W)
    rw [decide_eq_false k] at C0
    have e1 : decide (okN w h a) = false := decide_eq_false fun q => k q.1
    rw [e1]
    clear k e1
    go_enter Try.func20, Try.ntmps20
    go_wp2_with (fail)
    refine (C0.out _).mono ?_
    rintro e w' ⟨rfl, rfl⟩
    go_wp2
    go_ret
    exact ⟨rfl, rfl⟩
theorem l16Nodes_b {w h a b : Int} {W : World} {v : Bool} (hv : (decide (okN w h a) && decide (okN w h b)) = v) : Calls Try.prog 20 #[.int .i64 w, .int .i64 h, .int .i64 a, .int .i64 b] W fun e W' => e = .returned (.bool v) ∧ W = W' := by
  subst hv; exact l16Nodes_any w h a b W
/- How far a way has been looked at. -/
def WayTo (w h : Int) (ks : List Int) (k : Nat) : Prop := ∀ i, i < k → StepOk w h ks i
theorem wayTo_succ {w h : Int} {ks : List Int} {k : Nat} (h1 : WayTo w h ks k) (h2 : StepOk w h ks k) : WayTo w h ks (k + 1) := fun i hi => by
  by_cases e : i = k
  · rw [e]; exact h2
  · exact h1 i (by omega)
theorem way_no {w h : Int} {ks : List Int} {k n : Nat} (hl : ks.length = n) (hk : k < n) (hs : ¬ StepOk w h ks k) : decide (WayOk w h ks) = false := decide_eq_false fun hh => hs (hh.2 k (by omega))
theorem getD_of {ks : List Int} {k : Nat} {z : Int} (h : ks[k]? = some z) : ks.getD k 0 = z := by rw [List.getD_eq_getElem?_getD, h]; rfl
end Go.Proofs.Ythcfjnedpffbbaa
