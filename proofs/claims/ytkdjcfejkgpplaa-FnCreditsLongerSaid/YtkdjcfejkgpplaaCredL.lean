/-
  The laws' own comparison of two runs: what is proved here is that it says yes of two that are the same, and writes nothing that was there. No condition.
-/
import Derived.Test.YtkdjcfejkgpplaaCredA
namespace Go.Proofs.Ytkdjcfejkgpplaa
open Go.RowKit

set_option maxHeartbeats 1000000 in
theorem eqCreditRun_b {s k m t : Int} {f : Bool} {w : World} :
    Calls Try.prog 26 #[.agg #[.int .i64 s, .int .i64 k, .int .i64 m, .int .i64 t, .bool f], .agg #[.int .i64 s, .int .i64 k, .int .i64 m, .int .i64 t, .bool f]] w fun e w' => e = .returned (.bool true) ∧ Below w.heap.size w w' := by
  obtain ⟨W1, hW1⟩ : ∃ W1, w.alloc (.cells #[.int .i64 s, .int .i64 k, .int .i64 m, .int .i64 t, .bool f] 27) = W1 := ⟨_, rfl⟩
  have K1 : CrRow W1 w.heap.size s k m t f := hW1 ▸ crRow_alloc w s k m t f
  have B1 : Below w.heap.size w W1 := hW1 ▸ below_alloc13 w _
  obtain ⟨W2, hW2⟩ : ∃ W2, W1.alloc (.cells #[.int .i64 s, .int .i64 k, .int .i64 m, .int .i64 t, .bool f] 27) = W2 := ⟨_, rfl⟩
  have K2 : CrRow W2 W1.heap.size s k m t f := hW2 ▸ crRow_alloc W1 s k m t f
  have B2 : Below W1.heap.size W1 W2 := hW2 ▸ below_alloc13 W1 _
  have K12 := K1.bel B2
  have B12 := bel_trans B1 B2
  obtain ⟨a0, a1, a2, a3, a4⟩ := K12.cells
  obtain ⟨b0, b1, b2, b3, b4⟩ := K2.cells
  have h1 : (s != s) = false := by simp
  have h2 : (k != k) = false := by simp
  have h3 : (m != m) = false := by simp
  have h4 : (t != t) = false := by simp
  have h5 : (f != f) = false := by simp
  go_enter Try.func26, Try.ntmps26
  go_wp2
  go_ret
  exact ⟨rfl, B12⟩
end Go.Proofs.Ytkdjcfejkgpplaa
