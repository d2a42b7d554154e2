/-
  The zero values of chapter 16's great arrays: what is proved here is what they are, cell by cell, and how many cells there are. No condition.
-/
import Derived.Test.YthcfjnedpffbbaaDoorBools
import Derived.Deep.WholeRow
import Derived.Deep.MidRow
namespace Go.Proofs.YthcfjnedpffbbaaDoor
set_option maxRecDepth 100000 in
theorem zero75 : (Tryd.prog.info? 75).map (fun i => (i.zero, i.size)) = some (some (.agg (Array.replicate 100 (.bool false))), 100) := by kernel_rfl
set_option maxRecDepth 100000 in
theorem zero77 : (Tryd.prog.info? 77).map (fun i => (i.zero, i.size)) = some (some (.agg (Array.replicate 10000 (.bool false))), 10000) := by kernel_rfl
set_option maxRecDepth 100000 in
theorem zero91 : (Tryd.prog.info? 91).map (fun i => (i.zero, i.size)) = some (some (.agg (Array.replicate 10000 (.bool false) ++ Array.replicate 100 (.int .i64 0))), 10100) := by kernel_rfl
set_option maxRecDepth 100000 in
theorem zero83 : (Tryd.prog.info? 83).map (fun i => (i.zero, i.size)) = some (some (.agg (#[.slice none 0 0] ++ Array.replicate 100 (.bool false))), 101) := by kernel_rfl
end Go.Proofs.YthcfjnedpffbbaaDoor
