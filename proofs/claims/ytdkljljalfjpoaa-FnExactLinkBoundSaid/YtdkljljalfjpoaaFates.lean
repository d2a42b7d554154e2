/-
  Chapter 4's functions of the model, but for the wire itself: what is proved here is what they return, and that they write nothing that was there. Condition: lengths up to 2^24.
-/
import Derived.Test.YtdkljljalfjpoaaMathFates
import Derived.Test.YtdkljljalfjpoaaPar
namespace Go.Proofs.Ytdkljljalfjpoaa
open Go.RowKit

theorem fOk_bad {fs : List Int} {k : Nat} {z : Int} (h : fs[k]? = some z) (hz : ¬ (0 ≤ z ∧ z ≤ 4)) : ¬ fOk fs := fun hg => hz (hg.1 z (List.mem_of_getElem? h))
theorem take_all {fs : List Int} {p : Int → Prop} {k : Nat} {z : Int} (h : ∀ f ∈ fs.take k, p f) (hx : fs[k]? = some z) (hz : p z) : ∀ f ∈ fs.take (k + 1), p f := by
  intro f hf
  rw [List.take_add_one, hx] at hf
  rcases List.mem_append.1 hf with hf | hf
  · exact h f hf
  · simp at hf; subst hf; exact hz
theorem fateN_past {fs : List Int} {n k : Nat} (hl : fs.length = n) (h : ¬ k < n) : fateN fs k = 0 := fateN_out fs k (by omega)

set_option maxHeartbeats 1000000 in
theorem specFatesValid_w {A : Option Addr} {n c : Nat} {fs : List Int} {w : World} (h : Has w A n (ints .i64 fs)) (hn : n ≤ 16777216) :
    Calls Try.prog 9 #[.slice A n c] w fun e w' => e = .returned (.bool (decide (fOk fs))) ∧ w = w' := by
  have HL := Lib.hid h.len
  go_enter Try.func9, Try.ntmps9
  go_wp2
  go_loop [3] (fun i => ∃ k : Nat, k ≤ n ∧ i = .int .i64 k ∧ Hid (∀ f ∈ fs.take k, 0 ≤ f ∧ f ≤ 4)) (fun i => n - (intOf i).toNat)
  case atStart =>
    have : Hid (∀ f ∈ fs.take 0, 0 ≤ f ∧ f ≤ 4) := fun f hf => by simp at hf
    exact ⟨0, Nat.zero_le _, rfl, this⟩
  case round =>
    obtain ⟨k, hk, rfl, HF⟩ := hrel
    by_cases hlt : k < n
    · have hltB : decide ((k : Int) < (n : Int)) = true := by simp; omega
      obtain ⟨b, o, z, rfl, hbl, hx, hc⟩ := h.at_ hlt
      by_cases hz : 0 ≤ z ∧ z ≤ 4
      · have HF2 : Hid (∀ f ∈ fs.take (k + 1), 0 ≤ f ∧ f ≤ 4) := take_all (p := fun f => 0 ≤ f ∧ f ≤ 4) HF.out hx hz
        have C := Lib.hid (l1In_yes z 0 4 w hz.1 hz.2)
        clear hx hz
        go_wp2_with (go_at_call 8; refine C.out.mono ?_; rintro e w' ⟨rfl, rfl⟩)
        go_round
        case rel => exact ⟨k + 1, by omega, by go_num, HF2⟩
        case measure => simp [intOf]; omega
      · have HB := Lib.hid (fOk_bad hx hz)
        have C := Lib.hid (l1In_no z 0 4 w hz)
        clear hx hz
        go_wp2_with (go_at_call 8; refine C.out.mono ?_; rintro e w' ⟨rfl, rfl⟩)
        go_ret
        exact ⟨ret_bool (by rw [decide_eq_false HB.out]), rfl⟩
    · have hltB : decide ((k : Int) < (n : Int)) = false := by simp; omega
      obtain rfl : k = n := by omega
      have HE : Hid (fOk fs ↔ k ≤ 200) := by
        have h1 := HF.out
        have h2 := HL.out
        rw [List.take_of_length_le (by omega)] at h1
        exact (⟨fun hg => by have := hg.2; omega, fun hg => ⟨h1, by omega⟩⟩ : fOk fs ↔ k ≤ 200)
      go_wp2
      go_ret
      exact ⟨ret_bool (by rw [decide_eq_decide, HE.out]; omega), rfl⟩




theorem arr_no {fs : List Int} {i : Int} {lo c : Nat} {A : Option Addr} {w w' : World} (hbad : ¬ (fOk fs ∧ 0 ≤ i ∧ i ≤ 60)) (hb : Below lo w w') (ho : Own w' lo 3 A 0 c []) :
    ∃ A' n' c', Ending.returned (.slice A 0 c) = .returned (.slice A' n' c') ∧ Own w' lo 3 A' n' c' (ints .i64 (arrI fs i)) ∧ Below lo w w' :=
  ⟨A, 0, c, rfl, by rw [show arrI fs i = [] by unfold arrI; rw [if_neg hbad]]; exact ho, hb⟩
theorem arr_len (fs : List Int) (n t i : Nat) (hn : n ≤ 60) (ht : t ≤ 2 * n + 3) (hi : i ≤ n) : (arrTo fs n t ++ rowArr fs t i).length ≤ 15000 := by
  have h1 := arrTo_len fs n t
  have h2 := rowArr_len fs t i
  have h3 : t * (2 * n) ≤ 123 * 120 := Nat.mul_le_mul (by omega) (by omega)
  rw [List.length_append]; omega



end Go.Proofs.Ytdkljljalfjpoaa
