/-
  The laws' own comparison of two lists of slices of ints, and their search in a slice of ints: what is proved here is that the one says yes of two lists that read alike, and the other of what is in it. Condition: lengths up to 2^24.
-/
import Derived.Test.YtimddobedgopiaaWnInts
import Derived.Test.YtimddobedgopiaaListI
namespace Go.Proofs.Ytimddobedgopiaa
open Go.RowKit

set_option maxHeartbeats 1000000 in
theorem wnPairs_same {A A' : Option Addr} {n c n' c' : Nat} {zss : List (List Int)} {w : World} (h : HasLI w A n zss) (h' : HasLI w A' n' zss) (hn : n ≤ 16777216) (hb : ∀ zs ∈ zss, zs.length ≤ 16777216) :
    Calls Try.prog 33 #[.slice A n c, .slice A' n' c'] w fun e w' => e = .returned (.bool true) ∧ Below w.heap.size w w' := by
  obtain rfl : n' = n := by have := h.len; have := h'.len; omega
  go_enter Try.func33, Try.ntmps33
  go_wp2
  go_loopw [14] (fun i wr => ∃ k : Nat, k ≤ n' ∧ i = .int .i64 (k : Int) ∧ Below w.heap.size w wr) (fun i _ => n' - (intOf i).toNat)
  case atStart => exact ⟨0, Nat.zero_le _, rfl, Below.refl _ _⟩
  case round =>
    obtain ⟨k, hk, rfl, B1⟩ := hrel
    by_cases hlt : k < n'
    · have hltB : decide ((k : Int) < (n' : Int)) = true := by simp; omega
      obtain ⟨b, o, X, q, d, x, rfl, hbl, hx, hc, hqd, hX⟩ := (h.bel B1).at_ hlt
      obtain ⟨b', o', X', q', d', x', rfl, hbl', hx', hc', hqd', hX'⟩ := (h'.bel B1).at_ hlt
      obtain rfl : x = x' := by rw [hx] at hx'; injection hx'
      have hq : q ≤ 16777216 := by have h1 := hb x (List.mem_of_getElem? hx); have h2 := hX.len; omega
      clear hx hx'
      go_wp2_with (fail)
      refine (wnInts_same hX hX' hq).mono ?_
      rintro e w2 ⟨rfl, B2⟩
      have B3 := bel_trans B1 B2
      go_wp2
      go_roundw
      case rel => exact ⟨k + 1, by omega, by go_num, B3⟩
      case measure => simp [intOf]; omega
    · have hltB : decide ((k : Int) < (n' : Int)) = false := by simp; omega
      obtain rfl : k = n' := by omega
      go_wp2
      go_ret
      exact ⟨rfl, B1⟩
end Go.Proofs.Ytimddobedgopiaa
