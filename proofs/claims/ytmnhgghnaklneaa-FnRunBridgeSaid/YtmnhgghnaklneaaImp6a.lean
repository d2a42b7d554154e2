/-
  Chapter 6's program, its plain tests: what is proved here is what they answer, and that they write nothing that was there. Condition: lengths up to 2^24.
-/
import Derived.Test.YtmnhgghnaklneaaRunB
namespace Go.Proofs.Ytmnhgghnaklneaa
open Go.RowKit

theorem isOne_b {n : Int} {b : Bool} (w : World) (hb : decide (0 ≤ n ∧ n ≤ 14) = b) : Calls Try.prog 53 #[.int .i64 n] w fun e w' => e = .returned (.bool b) ∧ w = w' := by
  subst hb
  by_cases h0 : 0 ≤ n
  · have a0 : decide (n ≥ 0) = true := decide_eq_true h0
    have a0' : decide (0 ≤ n) = true := decide_eq_true h0
    by_cases h1 : n < 15
    · have a1 : decide (n < 15) = true := decide_eq_true h1
      have HB := Lib.hid (decide_eq_true (show 0 ≤ n ∧ n ≤ 14 by omega))
      clear h0 h1
      go_enter Try.func53, Try.ntmps53
      go_wp2
      go_ret
      exact ⟨ret_bool HB.out.symm, rfl⟩
    · have a1 : decide (n < 15) = false := decide_eq_false h1
      have HB := Lib.hid (decide_eq_false (show ¬ (0 ≤ n ∧ n ≤ 14) by omega))
      clear h0 h1
      go_enter Try.func53, Try.ntmps53
      go_wp2
      go_ret
      exact ⟨ret_bool HB.out.symm, rfl⟩
  · have a0 : decide (n ≥ 0) = false := decide_eq_false h0
    have a0' : decide (0 ≤ n) = false := decide_eq_false h0
    have HB := Lib.hid (decide_eq_false (show ¬ (0 ≤ n ∧ n ≤ 14) by omega))
    clear h0
    go_enter Try.func53, Try.ntmps53
    go_wp2
    go_ret
    exact ⟨ret_bool HB.out.symm, rfl⟩
theorem isPort_b {n p : Int} {b : Bool} (w : World) (hb : decide (0 ≤ n ∧ n ≤ p - 1) = b) : Calls Try.prog 54 #[.int .i64 n, .int .i64 p] w fun e w' => e = .returned (.bool b) ∧ w = w' := by
  subst hb
  by_cases h0 : 0 ≤ n
  · have a0 : decide (n ≥ 0) = true := decide_eq_true h0
    have a0' : decide (0 ≤ n) = true := decide_eq_true h0
    by_cases h1 : n < p
    · have a1 : decide (n < p) = true := decide_eq_true h1
      have HB := Lib.hid (decide_eq_true (show 0 ≤ n ∧ n ≤ p - 1 by omega))
      clear h0 h1
      go_enter Try.func54, Try.ntmps54
      go_wp2
      go_ret
      exact ⟨ret_bool HB.out.symm, rfl⟩
    · have a1 : decide (n < p) = false := decide_eq_false h1
      have HB := Lib.hid (decide_eq_false (show ¬ (0 ≤ n ∧ n ≤ p - 1) by omega))
      clear h0 h1
      go_enter Try.func54, Try.ntmps54
      go_wp2
      go_ret
      exact ⟨ret_bool HB.out.symm, rfl⟩
  · have a0 : decide (n ≥ 0) = false := decide_eq_false h0
    have a0' : decide (0 ≤ n) = false := decide_eq_false h0
    have HB := Lib.hid (decide_eq_false (show ¬ (0 ≤ n ∧ n ≤ p - 1) by omega))
    clear h0
    go_enter Try.func54, Try.ntmps54
    go_wp2
    go_ret
    exact ⟨ret_bool HB.out.symm, rfl⟩
theorem isStation_b {n : Int} {b : Bool} (w : World) (hb : decide (0 ≤ n ∧ n ≤ 15) = b) : Calls Try.prog 59 #[.int .i64 n] w fun e w' => e = .returned (.bool b) ∧ w = w' := by
  subst hb
  by_cases h0 : 0 ≤ n ∧ n ≤ 14
  · have C := Lib.hid (isOne_b (b := true) w (decide_eq_true h0))
    have HB := Lib.hid (decide_eq_true (show 0 ≤ n ∧ n ≤ 15 by omega))
    clear h0
    go_enter Try.func59, Try.ntmps59
    go_wp2_with (go_at_call 53; refine C.out.mono ?_; rintro e w' ⟨rfl, rfl⟩)
    go_ret
    exact ⟨ret_bool HB.out.symm, rfl⟩
  · have C := Lib.hid (isOne_b (b := false) w (decide_eq_false h0))
    by_cases h1 : n = 15
    · have a1 : (n == 15) = true := by simp [h1]
      have a2 : decide (n = 15) = true := decide_eq_true h1
      have HB := Lib.hid (decide_eq_true (show 0 ≤ n ∧ n ≤ 15 by omega))
      clear h0 h1
      go_enter Try.func59, Try.ntmps59
      go_wp2_with (go_at_call 53; refine C.out.mono ?_; rintro e w' ⟨rfl, rfl⟩)
      go_ret
      exact ⟨ret_bool HB.out.symm, rfl⟩
    · have a1 : (n == 15) = false := by simp [h1]
      have a2 : decide (n = 15) = false := decide_eq_false h1
      have HB := Lib.hid (decide_eq_false (show ¬ (0 ≤ n ∧ n ≤ 15) by omega))
      clear h0 h1
      go_enter Try.func59, Try.ntmps59
      go_wp2_with (go_at_call 53; refine C.out.mono ?_; rintro e w' ⟨rfl, rfl⟩)
      go_ret
      exact ⟨ret_bool HB.out.symm, rfl⟩
/-- A frame of the bridge's. -/
def hopOk (ports : Int) (h : Hop3) : Prop := (0 ≤ h.1 ∧ h.1 ≤ 14) ∧ (0 ≤ h.2.1 ∧ h.2.1 ≤ 15) ∧ (0 ≤ h.2.2 ∧ h.2.2 ≤ ports - 1)
instance (ports : Int) (h : Hop3) : Decidable (hopOk ports h) := by unfold hopOk; infer_instance
theorem stepOk_iff {ts : List Int} {ports : Int} {h : Hop3} (ht : tOk ts ports) : stepOk ts ports h ↔ hopOk ports h := by
  unfold stepOk learnOk hopOk
  exact ⟨fun ⟨⟨_, a, b⟩, c⟩ => ⟨a, c, b⟩, fun ⟨a, c, b⟩ => ⟨⟨ht, a, b⟩, c⟩⟩
theorem isHop_b {f t q ports : Int} {b : Bool} (w : World) (hb : decide (hopOk ports (f, t, q)) = b) : Calls Try.prog 62 #[.agg #[.int .i64 f, .int .i64 t, .int .i64 q], .int .i64 ports] w fun e w' => e = .returned (.bool b) ∧ Below w.heap.size w w' := by
  subst hb
  have hB0 := heap_alloc_new w (.cells #[.int .i64 f, .int .i64 t, .int .i64 q] 33)
  have B0 := Lib.hid (show Below w.heap.size w (w.alloc (.cells #[.int .i64 f, .int .i64 t, .int .i64 q] 33)) from (Below.refl _ _).alloc (Nat.le_refl _) _)
  obtain ⟨k0, k1, k2⟩ := cells3 hB0
  clear hB0
  by_cases h0 : 0 ≤ f ∧ f ≤ 14
  · have C1 := Lib.hid (isOne_b (b := true) (w.alloc (.cells #[.int .i64 f, .int .i64 t, .int .i64 q] 33)) (decide_eq_true h0))
    by_cases h1 : 0 ≤ t ∧ t ≤ 15
    · have C2 := Lib.hid (isStation_b (b := true) (w.alloc (.cells #[.int .i64 f, .int .i64 t, .int .i64 q] 33)) (decide_eq_true h1))
      have C3 := Lib.hid (isPort_b (n := q) (p := ports) (w.alloc (.cells #[.int .i64 f, .int .i64 t, .int .i64 q] 33)) rfl)
      have HB := Lib.hid (show decide (hopOk ports (f, t, q)) = decide (0 ≤ q ∧ q ≤ ports - 1) by
        by_cases h2 : 0 ≤ q ∧ q ≤ ports - 1
        · rw [decide_eq_true h2, decide_eq_true (show hopOk ports (f, t, q) from ⟨h0, h1, h2⟩)]
        · rw [decide_eq_false h2, decide_eq_false (show ¬ hopOk ports (f, t, q) from fun hh => h2 hh.2.2)])
      generalize decide (0 ≤ q ∧ q ≤ ports - 1) = b3 at *
      clear h0 h1
      go_enter Try.func62, Try.ntmps62
      go_wp2_with (first | (go_at_call 53; refine C1.out.mono ?_; rintro e w' ⟨rfl, rfl⟩) | (go_at_call 59; refine C2.out.mono ?_; rintro e w' ⟨rfl, rfl⟩) | (go_at_call 54; refine C3.out.mono ?_; rintro e w' ⟨rfl, rfl⟩))
      go_ret
      exact ⟨ret_bool HB.out.symm, B0.out⟩
    · have C2 := Lib.hid (isStation_b (b := false) (w.alloc (.cells #[.int .i64 f, .int .i64 t, .int .i64 q] 33)) (decide_eq_false h1))
      have HB := Lib.hid (decide_eq_false (show ¬ hopOk ports (f, t, q) from fun hh => h1 hh.2.1))
      clear h0 h1
      go_enter Try.func62, Try.ntmps62
      go_wp2_with (first | (go_at_call 53; refine C1.out.mono ?_; rintro e w' ⟨rfl, rfl⟩) | (go_at_call 59; refine C2.out.mono ?_; rintro e w' ⟨rfl, rfl⟩))
      go_ret
      exact ⟨ret_bool HB.out.symm, B0.out⟩
  · have C1 := Lib.hid (isOne_b (b := false) (w.alloc (.cells #[.int .i64 f, .int .i64 t, .int .i64 q] 33)) (decide_eq_false h0))
    have HB := Lib.hid (decide_eq_false (show ¬ hopOk ports (f, t, q) from fun hh => h0 hh.1))
    clear h0
    go_enter Try.func62, Try.ntmps62
    go_wp2_with (go_at_call 53; refine C1.out.mono ?_; rintro e w' ⟨rfl, rfl⟩)
    go_ret
    exact ⟨ret_bool HB.out.symm, B0.out⟩

set_option maxHeartbeats 1000000 in
theorem implTableValid_w {A : Option Addr} {n c : Nat} {ts : List Int} {ports : Int} {w : World} {b : Bool} (h : Has w A n (ints .i64 ts)) (hn : n ≤ 16777216) (hb : decide (tOk ts ports) = b) :
    Calls Try.prog 20 #[.slice A n c, .int .i64 ports] w fun e w' => e = .returned (.bool b) ∧ w = w' := by
  subst hb
  have HL := Lib.hid h.len
  by_cases hp0 : ports < 1
  · have p0 : decide (ports < 1) = true := decide_eq_true hp0
    have HB : Hid (¬ tOk ts ports) := fun hg => by have := hg.2.1; omega
    clear hp0
    go_enter Try.func20, Try.ntmps20
    go_wp2
    go_ret
    exact ⟨ret_bool (by rw [decide_eq_false HB.out]), rfl⟩
  have p0 : decide (ports < 1) = false := decide_eq_false hp0
  by_cases hp1 : 6 < ports
  · have p1 : decide (ports > 6) = true := decide_eq_true hp1
    have p1' : decide (6 < ports) = true := decide_eq_true hp1
    have HB : Hid (¬ tOk ts ports) := fun hg => by have := hg.2.1; omega
    clear hp0 hp1
    go_enter Try.func20, Try.ntmps20
    go_wp2
    go_ret
    exact ⟨ret_bool (by rw [decide_eq_false HB.out]), rfl⟩
  have p1 : decide (ports > 6) = false := decide_eq_false hp1
  have p1' : decide (6 < ports) = false := decide_eq_false hp1
  by_cases h15 : n = 15
  · have h15B : ((n : Int) != 15) = false := by simp; omega
    have HP := Lib.hid (show 1 ≤ ports ∧ ports ≤ 6 by omega)
    have h15H := Lib.hid h15
    clear h15 hp0 hp1
    go_enter Try.func20, Try.ntmps20
    go_wp2
    go_loop [20] (fun i => ∃ k : Nat, k ≤ n ∧ i = .int .i64 k ∧ Hid (∀ f ∈ ts.take k, -1 ≤ f ∧ f ≤ ports - 1)) (fun i => n - (intOf i).toNat)
    case atStart =>
      have : Hid (∀ f ∈ ts.take 0, -1 ≤ f ∧ f ≤ ports - 1) := fun f hf => by simp at hf
      exact ⟨0, Nat.zero_le _, rfl, this⟩
    case round =>
      obtain ⟨k, hk, rfl, HF⟩ := hrel
      by_cases hlt : k < n
      · have hltB : decide ((k : Int) < (n : Int)) = true := by simp; omega
        obtain ⟨b, o, z, rfl, hbl, hx, hc⟩ := h.at_ hlt
        have step : -1 ≤ z ∧ z ≤ ports - 1 → Hid (∀ f ∈ ts.take (k + 1), -1 ≤ f ∧ f ≤ ports - 1) := fun hz => by
          have : ∀ f ∈ ts.take (k + 1), -1 ≤ f ∧ f ≤ ports - 1 := by
            intro f hf
            rw [List.take_add_one, hx] at hf
            rcases List.mem_append.1 hf with hf | hf
            · exact HF.out f hf
            · simp at hf; subst hf; exact hz
          exact this
        by_cases hz0 : z = -1
        · have z0 : (z != -1) = false := by simp [hz0]
          have HF2 := step (by have := HP.out; omega)
          clear hx hz0 step
          go_wp2
          go_round
          case rel => exact ⟨k + 1, by omega, by go_num, HF2⟩
          case measure => simp [intOf]; omega
        · have z0 : (z != -1) = true := by simp [hz0]
          by_cases hz : 0 ≤ z ∧ z ≤ ports - 1
          · have C := Lib.hid (isPort_b (b := true) w (decide_eq_true hz))
            have HF2 := step (by omega)
            clear hx hz0 step hz
            go_wp2_with (go_at_call 54; refine C.out.mono ?_; rintro e w' ⟨rfl, rfl⟩)
            go_round
            case rel => exact ⟨k + 1, by omega, by go_num, HF2⟩
            case measure => simp [intOf]; omega
          · have C := Lib.hid (isPort_b (b := false) w (decide_eq_false hz))
            have HB : Hid (¬ tOk ts ports) := fun hg => by have := hg.2.2 z (List.mem_of_getElem? hx); omega
            clear hx hz0 step hz
            go_wp2_with (go_at_call 54; refine C.out.mono ?_; rintro e w' ⟨rfl, rfl⟩)
            go_ret
            exact ⟨ret_bool (by rw [decide_eq_false HB.out]), rfl⟩
      · have hltB : decide ((k : Int) < (n : Int)) = false := by simp; omega
        obtain rfl : k = n := by omega
        have HE : Hid (tOk ts ports) := by
          have h1 := HF.out
          have h2 := HL.out
          rw [List.take_of_length_le (by omega)] at h1
          exact (⟨by have := h15H.out; omega, HP.out, h1⟩ : tOk ts ports)
        go_wp2
        go_ret
        exact ⟨ret_bool (by rw [decide_eq_true HE.out]), rfl⟩
  · have h15B : ((n : Int) != 15) = true := by simp; omega
    have HB : Hid (¬ tOk ts ports) := fun hg => h15 (by have := hg.1; have := HL.out; omega)
    clear h15 hp0 hp1
    go_enter Try.func20, Try.ntmps20
    go_wp2
    go_ret
    exact ⟨ret_bool (by rw [decide_eq_false HB.out]), rfl⟩
theorem implTableValid_any {A : Option Addr} {n c : Nat} {ts : List Int} {ports : Int} {w : World} (h : Has w A n (ints .i64 ts)) (_ : I64s ts) (hn : n ≤ 16777216) (_ : (-9223372036854775808 ≤ ports ∧ ports ≤ 9223372036854775807)) :
    Calls Try.prog 20 #[.slice A n c, .int .i64 ports] w fun e w' => e = .returned (.bool (decide (tOk ts ports))) ∧ Below w.heap.size w w' :=
  (implTableValid_w h hn rfl).mono fun _ _ hh => ⟨hh.1, by rw [← hh.2]; exact Below.refl _ _⟩
end Go.Proofs.Ytmnhgghnaklneaa
