/-
  The laws' own comparison of two slices of ints: what is proved here is that it says yes of two slices that read alike. Condition: lengths up to 2^24.
-/
import Derived.Test.YthcfjnedpffbbaaDoorCore
namespace Go.Proofs.YthcfjnedpffbbaaDoor
open Go.RowKit

set_option maxHeartbeats 400000 in
theorem wnInts_same {A A' : Option Addr} {n c n' c' : Nat} {zs : List Int} {w : World} (h : Has w A n (ints .i64 zs)) (h' : Has w A' n' (ints .i64 zs)) (hn : n ≤ 16777216) :
    Calls Tryd.prog 18 #[.slice A n c, .slice A' n' c'] w fun e w' => e = .returned (.bool true) ∧ Below w.heap.size w w' := by
  obtain rfl : n' = n := by have := h.1; have := h'.1; omega
  go_enter Tryd.func18, Tryd.ntmps18
  go_wp2
  go_loop [14] (fun i => ∃ k : Nat, k ≤ n' ∧ i = .int .i64 k) (fun i => n' - (intOf i).toNat)
  case atStart => exact ⟨0, Nat.zero_le _, rfl⟩
  case round =>
    obtain ⟨k, hk, rfl⟩ := hrel
    by_cases hlt : k < n'
    · obtain ⟨b, o, z, rfl, hbl, hx, hc⟩ := h.at_ hlt
      obtain ⟨b', o', z', rfl, hbl', hx', hc'⟩ := h'.at_ hlt
      obtain rfl : z = z' := by rw [hx] at hx'; injection hx'
      clear hx hx'
      go_wp2
      go_round
      case rel => exact ⟨k + 1, by omega, by go_num⟩
      case measure => simp [intOf]; omega
    · obtain rfl : k = n' := by omega
      go_wp2
      go_ret
      exact ⟨rfl, Below.refl _ _⟩
end Go.Proofs.YthcfjnedpffbbaaDoor
