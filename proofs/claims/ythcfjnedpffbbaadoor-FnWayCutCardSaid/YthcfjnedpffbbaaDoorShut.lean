/-
  What holds of the whole cut, whichever function is asked: proved here once, since each of the three facts takes the kernel long. No condition.
-/
import Derived.Test.YthcfjnedpffbbaaDoorBase
import Derived.Test.YthcfjnedpffbbaaDoorRows
import Derived.JoinedOf
namespace Go.Proofs.YthcfjnedpffbbaaDoor
theorem shutEnter : Tryd.pinned.checked.prog.mayEnter = true := by kernel_rfl
theorem shutLifts : (false == Tryd.pinned.checked.prog.liftsFinal) = true := by kernel_rfl
theorem shutMake : (Tryd.pinned.checked.prog.make == some Make.cut) = true := by kernel_rfl
end Go.Proofs.YthcfjnedpffbbaaDoor
