/-
  The laws' own question whether a number stands in a list: what is proved here is its answer, and that it writes nothing. Condition: lengths up to 2^24.
-/
import Derived.Test.YtpofkkenbepjpaaCore
namespace Go.Proofs.Ytpofkkenbepjpaa
open Go.RowKit

set_option maxHeartbeats 1000000 in
theorem wnHas_b {A : Option Addr} {n c : Nat} {zs : List Int} {v : Int} {w : World} {b : Bool} (h : Has w A n (ints .i64 zs)) (hn : n ≤ 16777216) (hb : decide (v ∈ zs) = b) :
    Calls Try.prog 29 #[.slice A n c, .int .i64 v] w fun e w' => e = .returned (.bool b) ∧ w = w' := by
  have HL := Lib.hid h.len
  have HB := Lib.hid hb
  clear hb
  go_enter Try.func29, Try.ntmps29
  go_wp2
  go_loop [9] (fun i => ∃ k : Nat, k ≤ n ∧ i = .int .i64 k ∧ Hid (∀ f ∈ zs.take k, f ≠ v)) (fun i => n - (intOf i).toNat)
  case atStart => exact ⟨0, Nat.zero_le _, rfl, Lib.hid (fun f hf => by simp at hf)⟩
  case round =>
    obtain ⟨k, hk, rfl, HF⟩ := hrel
    by_cases hlt : k < n
    · have hltB : decide ((k : Int) < (n : Int)) = true := by simp; omega
      obtain ⟨b, o, z, rfl, hbl, hx, hc⟩ := h.at_ hlt
      by_cases hz : z = v
      · have zB : (z == v) = true := by simp [hz]
        have HE := Lib.hid (show decide (v ∈ zs) = true from decide_eq_true (hz ▸ List.mem_of_getElem? hx))
        clear hx hz
        go_wp2
        go_ret
        exact ⟨congrArg (fun b => Ending.returned (.bool b)) (HE.out.symm.trans HB.out), rfl⟩
      · have zB : (z == v) = false := by simp [hz]
        have HF2 : Hid (∀ f ∈ zs.take (k + 1), f ≠ v) := by
          have : ∀ f ∈ zs.take (k + 1), f ≠ v := by
            intro f hf
            rw [List.take_add_one, hx] at hf
            rcases List.mem_append.1 hf with hf | hf
            · exact HF.out f hf
            · simp at hf; subst hf; exact hz
          exact this
        clear hx hz
        go_wp2
        go_round
        case rel => exact ⟨k + 1, by omega, by go_num, HF2⟩
        case measure => simp [intOf]; omega
    · have hltB : decide ((k : Int) < (n : Int)) = false := by simp; omega
      obtain rfl : k = n := by omega
      have HE : Hid (decide (v ∈ zs) = false) := by
        have h1 := HF.out
        have h2 := HL.out
        rw [List.take_of_length_le (by omega)] at h1
        exact decide_eq_false fun hv => h1 v hv rfl
      go_wp2
      go_ret
      exact ⟨congrArg (fun b => Ending.returned (.bool b)) (HE.out.symm.trans HB.out), rfl⟩
end Go.Proofs.Ytpofkkenbepjpaa
