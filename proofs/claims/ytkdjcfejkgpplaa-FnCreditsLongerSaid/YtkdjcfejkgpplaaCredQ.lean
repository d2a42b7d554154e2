/-
  '==' of what came of frames: what is proved here is that a run is equal to itself. No condition.
-/
import Derived.Test.YtkdjcfejkgpplaaCredL
import Derived.Laws.StructEq
namespace Go.Proofs.Ytkdjcfejkgpplaa
open Go.RowKit

theorem equal_cr (s k m t : Int) (f : Bool) (w : World) : (Op.equalIn 10000 27 (.agg #[.int .i64 s, .int .i64 k, .int .i64 m, .int .i64 t, .bool f]) (.agg #[.int .i64 s, .int .i64 k, .int .i64 m, .int .i64 t, .bool f])).run Try.prog w = .ok true w := by
  have u3 := Try.underlying3
  have a3 := Try.isAgg3
  have z3 := Try.sizeOf3
  have u4 := Try.underlying4
  have a4 := Try.isAgg4
  have z4 := Try.sizeOf4
  have hS : Try.prog.underlying 27 = some (.struct (Try.prog.fieldsOf 27)) := by kernel_rfl
  have hp : Try.prog.stoodInHeld 27 = false := by kernel_rfl
  rw [show (10000 : Nat) = 9999 + 1 from rfl, run_equalIn_agg w 9999 27 _ _ hS hp]
  simp only [Program.fieldsOf, Try.underlying27]
  go_simp
theorem guard_cr : Try.prog.eqGuardType Try.prog.depth 27 = false := by kernel_rfl
end Go.Proofs.Ytkdjcfejkgpplaa
