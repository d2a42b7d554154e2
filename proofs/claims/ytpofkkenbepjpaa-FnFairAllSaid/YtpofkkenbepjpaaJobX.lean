/-
  Chapter 12's mathematics: how long what is returned can be. No condition.
-/
import Derived.Test.YtpofkkenbepjpaaMathJobC
namespace Go.Proofs.Ytpofkkenbepjpaa

theorem fair_few (ws : List Int) (js : List Duo) : (fairL ws js).length ≤ 60 := by
  by_cases h : jobsOk ws js
  · rw [fair_len h]; exact h.2.2
  · unfold fairL; rw [if_neg h]; simp
theorem strict_few (ws : List Int) (js : List Duo) : (strictL ws js).length ≤ 240 := by
  by_cases h : jobsOk ws js
  · unfold strictL; rw [if_pos h]
    have h1 := strictTo_len js ws.length
    have h2 := Nat.mul_le_mul h.2.1.2.2 h.2.2
    exact Nat.le_trans h1 h2
  · unfold strictL; rw [if_neg h]; simp
theorem served_few (ws : List Int) (js : List Duo) (od : List Int) : (servedL ws js od).length ≤ 4 := by
  unfold servedL
  split
  · rename_i h; rw [servedTo_len]; exact h.1.2.1.2.2
  · simp
end Go.Proofs.Ytpofkkenbepjpaa
