/-
  Chapter 9's program, a station by itself: what is proved here is what its methods return, and that they write nothing that was there. Condition: numbers up to 2^40.
-/
import Derived.Test.YtpciaokafokfmaaImp9a
import Derived.BigRegion
import Derived.BigQuiet
namespace Go.Proofs.Ytpciaokafokfmaa
open Go.RowKit

/-- A station, as a value. -/
def tkV (x : Tk) : Value := .agg #[.int .i64 x.1, .int .i64 x.2.1, .int .i64 x.2.2]

theorem hasFrames_any (f t v : Int) (w : World) : Calls Try.prog 58 #[.agg #[.int .i64 f, .int .i64 t, .int .i64 v]] w fun e w' => e = .returned (.bool (decide (0 < f))) ∧ Below w.heap.size w w' := by
  obtain ⟨d, hd⟩ : ∃ d, decide (0 < f) = d := ⟨_, rfl⟩
  have hd2 : decide (f > 0) = d := hd
  rw [hd]
  go_enter Try.func58, Try.ntmps58
  go_wp2
  go_ret
  exact ⟨rfl, (Below.refl _ _).alloc (Nat.le_refl _) _⟩
theorem sends_any (f t v : Int) (w : World) : Calls Try.prog 68 #[.agg #[.int .i64 f, .int .i64 t, .int .i64 v]] w fun e w' => e = .returned (.bool (sendsT (f, t, v))) ∧ Below w.heap.size w w' := by
  have C := Lib.hid (hasFrames_any f t v (w.alloc (.cells #[.int .i64 f, .int .i64 t, .int .i64 v] 70)))
  have HS := Lib.hid (show sendsT (f, t, v) = (decide (0 < f) && decide (v = 0)) from rfl)
  have hX := heap_alloc_new w (.cells #[.int .i64 f, .int .i64 t, .int .i64 v] 70)
  have hlt : w.heap.size < (w.alloc (.cells #[.int .i64 f, .int .i64 t, .int .i64 v] 70)).heap.size := by simp
  have BX : Below w.heap.size w (w.alloc (.cells #[.int .i64 f, .int .i64 t, .int .i64 v] 70)) := (Below.refl _ _).alloc (Nat.le_refl _) _
  by_cases hf : 0 < f
  · rw [decide_eq_true hf] at C HS
    obtain ⟨d, hd⟩ : ∃ d, (v == 0) = d := ⟨_, rfl⟩
    have hd2 : decide (v = 0) = d := by rw [← hd]; by_cases h0 : v = 0 <;> simp [h0]
    rw [HS.out, hd2, Bool.true_and]
    clear hf hd2
    go_enter Try.func68, Try.ntmps68
    go_wp2_with (fail)
    refine C.out.mono ?_
    rintro e w1 ⟨rfl, B1⟩
    obtain ⟨c0, c1, c2⟩ := cells3K ((B1.block _ hlt).trans hX)
    go_wp2
    go_ret
    exact ⟨rfl, bel_trans BX B1⟩
  · rw [decide_eq_false hf] at C HS
    rw [HS.out, Bool.false_and]
    clear hf
    go_enter Try.func68, Try.ntmps68
    go_wp2_with (fail)
    refine C.out.mono ?_
    rintro e w1 ⟨rfl, B1⟩
    go_wp2
    go_ret
    exact ⟨rfl, bel_trans BX B1⟩
theorem sent_any (f t v : Int) (w : World) (h : 0 ≤ f ∧ f ≤ 1099511627776) : Calls Try.prog 64 #[.agg #[.int .i64 f, .int .i64 t, .int .i64 v]] w fun e w' => e = .returned (.agg #[.int .i64 (f - 1), .int .i64 0, .int .i64 0]) ∧ Below w.heap.size w w' := by
  have W1 : IntKind.i64.wrap (f - 1) = f - 1 := IntWalk.i64_in _ (by omega)
  go_enter Try.func64, Try.ntmps64
  go_wp2
  have hF : ((w.alloc (.cells #[.int .i64 f, .int .i64 t, .int .i64 v] 70)).alloc (.cells #[.int .i64 (f - 1), .int .i64 0, .int .i64 0] 70)).heap[w.heap.size + 1]? = some (.cells #[.int .i64 (f - 1), .int .i64 0, .int .i64 0] 70 (0, 0)) := by
    have := heap_alloc_new (w.alloc (.cells #[.int .i64 f, .int .i64 t, .int .i64 v] 70)) (.cells #[.int .i64 (f - 1), .int .i64 0, .int .i64 0] 70)
    simpa using this
  refine bodyPost_ret (results_cell_row rfl _ _ _ _ _ _ _ rfl hF Try.underlying70 rfl (by kernel_rfl)) rfl ?_
  exact ⟨rfl, ((Below.refl _ _).alloc (Nat.le_refl _) _).alloc (by simp) _⟩
theorem idle_any (f t v : Int) (w : World) (h : 0 ≤ v ∧ v ≤ 1099511627776) : Calls Try.prog 61 #[.agg #[.int .i64 f, .int .i64 t, .int .i64 v]] w fun e w' => e = .returned (.agg #[.int .i64 f, .int .i64 t, .int .i64 (max (v - 1) 0)]) ∧ Below w.heap.size w w' := by
  have W1 : IntKind.i64.wrap (v - 1) = v - 1 := IntWalk.i64_in _ (by omega)
  obtain ⟨m, hm⟩ : ∃ m, max (v - 1) 0 = m := ⟨_, rfl⟩
  rw [hm]
  go_enter Try.func61, Try.ntmps61
  go_wp2
  have hF : ((w.alloc (.cells #[.int .i64 f, .int .i64 t, .int .i64 m] 70)).alloc (.cells #[.int .i64 f, .int .i64 t, .int .i64 m] 70)).heap[w.heap.size + 1]? = some (.cells #[.int .i64 f, .int .i64 t, .int .i64 m] 70 (0, 0)) := by
    have := heap_alloc_new (w.alloc (.cells #[.int .i64 f, .int .i64 t, .int .i64 m] 70)) (.cells #[.int .i64 f, .int .i64 t, .int .i64 m] 70)
    simpa using this
  refine bodyPost_ret (results_cell_row rfl _ _ _ _ _ _ _ rfl hF Try.underlying70 rfl (by kernel_rfl)) rfl ?_
  exact ⟨rfl, ((Below.refl _ _).alloc (Nat.le_refl _) _).alloc (by simp) _⟩
theorem hit_any (f t v d : Int) (w : World) (h : 0 ≤ t ∧ t ≤ 1099511627776) (hd : 0 ≤ d ∧ d ≤ 1000) : Calls Try.prog 62 #[.agg #[.int .i64 f, .int .i64 t, .int .i64 v], .int .i64 d] w fun e w' => e = .returned (.agg #[.int .i64 f, .int .i64 (t + 1), .int .i64 (waitP (t + 1) d)]) ∧ Below w.heap.size w w' := by
  have W1 : IntKind.i64.wrap (t + 1) = t + 1 := IntWalk.i64_in _ (by omega)
  have C := Lib.hid (fun W => implWaitOf_any (t + 1) d W (by omega))
  have HW := Lib.hid (waitI_yes (t := t + 1) (by omega) hd)
  rw [HW.out] at C
  obtain ⟨m, hm⟩ : ∃ m, waitP (t + 1) d = m := ⟨_, rfl⟩
  rw [hm] at C ⊢
  clear h hd HW hm
  go_enter Try.func62, Try.ntmps62
  go_wp2_with (go_at_call 24; refine (C.out _).mono ?_; rintro e w' ⟨rfl, rfl⟩)
  have hF : ((w.alloc (.cells #[.int .i64 f, .int .i64 (t + 1), .int .i64 m] 70)).alloc (.cells #[.int .i64 f, .int .i64 (t + 1), .int .i64 m] 70)).heap[w.heap.size + 1]? = some (.cells #[.int .i64 f, .int .i64 (t + 1), .int .i64 m] 70 (0, 0)) := by
    have := heap_alloc_new (w.alloc (.cells #[.int .i64 f, .int .i64 (t + 1), .int .i64 m] 70)) (.cells #[.int .i64 f, .int .i64 (t + 1), .int .i64 m] 70)
    simpa using this
  refine bodyPost_ret (results_cell_row rfl _ _ _ _ _ _ _ rfl hF Try.underlying70 rfl (by kernel_rfl)) rfl ?_
  exact ⟨rfl, ((Below.refl _ _).alloc (Nat.le_refl _) _).alloc (by simp) _⟩

/- How many bits of a number below 64 are set. -/
def ones6 (m : Nat) : Nat := m % 2 + m / 2 % 2 + m / 4 % 2 + m / 8 % 2 + m / 16 % 2 + m / 32 % 2
set_option maxRecDepth 100000 in
theorem onesCount64_small (m : Nat) (hm : m < 64) (w : World) : Calls Try.prog 70 #[.int .u64 (m : Int)] w fun e w' => e = .returned (.int .i64 (ones6 m : Int)) ∧ w = w' := by
  obtain ⟨f, rfl⟩ : ∃ f : Fin 64, f.val = m := ⟨⟨m, hm⟩, rfl⟩
  clear hm
  go_enter Try.func70, Try.ntmps70
  go_wp2
  go_ret
  refine ⟨ret_int ?_, rfl⟩
  revert f
  decide +kernel
theorem onesCount_small (m : Nat) (hm : m < 64) (w : World) : Calls Try.prog 60 #[.int .u64 (m : Int)] w fun e w' => e = .returned (.int .i64 (ones6 m : Int)) ∧ w = w' := by
  have C := Lib.hid (onesCount64_small m hm w)
  clear hm
  go_enter Try.func60, Try.ntmps60
  go_wp2_with (fail)
  refine C.out.mono ?_
  rintro e w' ⟨rfl, rfl⟩
  go_wp2
  go_ret
  exact ⟨rfl, rfl⟩
end Go.Proofs.Ytpciaokafokfmaa
