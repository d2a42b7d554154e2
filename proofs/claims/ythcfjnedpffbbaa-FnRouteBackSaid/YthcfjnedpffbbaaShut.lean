/-
  What holds of the whole cut, whichever function is asked: proved here once, since each of the three facts takes the kernel long. No condition.
-/
import Derived.Test.YthcfjnedpffbbaaBase
import Derived.Test.YthcfjnedpffbbaaRows
import Derived.JoinedOf
namespace Go.Proofs.Ythcfjnedpffbbaa
theorem shutEnter : Try.pinned.checked.prog.mayEnter = true := by kernel_rfl
theorem shutLifts : (false == Try.pinned.checked.prog.liftsFinal) = true := by kernel_rfl
theorem shutMake : (Try.pinned.checked.prog.make == some Make.cut) = true := by kernel_rfl
end Go.Proofs.Ythcfjnedpffbbaa
