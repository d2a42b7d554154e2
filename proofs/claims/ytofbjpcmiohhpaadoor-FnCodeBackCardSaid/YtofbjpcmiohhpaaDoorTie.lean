/-
  DERIVED. GIVEN WITH THE SEED: THE PROGRAM's TIES (one call each: nine closed facts by the kernel) AND EACH ROW's TIE, after the 31st guide's Derived/Test/Toyas{Tie, Card}.lean. No idea stands in it: it is a product of the set-up. Laid BY PROGRAM, IN A SANDBOX (cutbox-door.mjs). By AI agents, Wed Nov 11 2026. No macro, syntax, notation, axiom, sorry.
-/
import Derived.Test.YtofbjpcmiohhpaaDoorRows
import Derived.LaidByTextLater
import Derived.SevenTiedAt
import Derived.LaidSub
import Derived.LaidOnce
namespace Go.Proofs.YtofbjpcmiohhpaaDoor
open Go
set_option maxRecDepth 100000
theorem seatTie1 : Tryd.prog.laidByTextLater [("loop.example/wholenet/impl.nibbleCodes", Rows.laid_loop_example_wholenet_impl_nibbleCodes), ("loop.example/wholenet/impl.ruleRows", Rows.laid_loop_example_wholenet_impl_ruleRows)] [.data, .data] true :=
  Program.laidByTextLater_by_one 19 8 17 (by kernel_rfl) (by kernel_rfl) (by kernel_rfl) (by kernel_rfl) (by kernel_rfl) (by kernel_rfl) (fun _ _ => by kernel_rfl)
theorem noOwnUnsafe : Tryd.pinned.checked.prog.headLifts.contains "ownunsafe" = false := by kernel_rfl
theorem tie : Tryd.prog.laidByTextLater [("loop.example/wholenet/impl.nibbleCodes", Rows.laid_loop_example_wholenet_impl_nibbleCodes), ("loop.example/wholenet/impl.ruleRows", Rows.laid_loop_example_wholenet_impl_ruleRows)] [.data, .data] true :=
  Program.laidByTextLater.sub seatTie1 ["loop.example/wholenet/impl.nibbleCodes", "loop.example/wholenet/impl.ruleRows"] (by kernel_rfl) (by kernel_rfl)
theorem fnNibble_row_tie : Rows.fnNibbleRow.laidByTextAt .later Tryd.pinned [.data, .data] true :=
  OpenClaim.laidByTextAt_later rfl rfl tie noOwnUnsafe
theorem fnNibbleFar_row_tie : Rows.fnNibbleFarRow.laidByTextAt .later Tryd.pinned [.data, .data] true :=
  OpenClaim.laidByTextAt_later rfl rfl tie noOwnUnsafe
theorem fnCodeBack_row_tie : Rows.fnCodeBackRow.laidByTextAt .later Tryd.pinned [.data, .data] true :=
  OpenClaim.laidByTextAt_later rfl rfl tie noOwnUnsafe
theorem fnDecodeBytes_row_tie : Rows.fnDecodeBytesRow.laidByTextAt .later Tryd.pinned [.data, .data] true :=
  OpenClaim.laidByTextAt_later rfl rfl tie noOwnUnsafe
theorem tie2 : Tryd.prog.laidByTextLater [("loop.example/wholenet/impl.nibbleCodes", Rows.laid_loop_example_wholenet_impl_nibbleCodes)] [.data] true :=
  Program.laidByTextLater.sub seatTie1 ["loop.example/wholenet/impl.nibbleCodes"] (by kernel_rfl) (by kernel_rfl)
theorem fnExactEncodeNibble_row_tie : Rows.fnExactEncodeNibbleRow.laidByTextAt .later Tryd.pinned [.data] true :=
  OpenClaim.laidByTextAt_later rfl rfl tie2 noOwnUnsafe
theorem fnExactEncodeBytes_row_tie : Rows.fnExactEncodeBytesRow.laidByTextAt .later Tryd.pinned [.data] true :=
  OpenClaim.laidByTextAt_later rfl rfl tie2 noOwnUnsafe
theorem tie3 : Tryd.prog.laidByTextLater [("loop.example/wholenet/impl.ruleRows", Rows.laid_loop_example_wholenet_impl_ruleRows)] [.data] true :=
  Program.laidByTextLater.sub seatTie1 ["loop.example/wholenet/impl.ruleRows"] (by kernel_rfl) (by kernel_rfl)
theorem fnExactDecodeNibble_row_tie : Rows.fnExactDecodeNibbleRow.laidByTextAt .later Tryd.pinned [.data] true :=
  OpenClaim.laidByTextAt_later rfl rfl tie3 noOwnUnsafe
theorem fnExactDecodeBytes_row_tie : Rows.fnExactDecodeBytesRow.laidByTextAt .later Tryd.pinned [.data] true :=
  OpenClaim.laidByTextAt_later rfl rfl tie3 noOwnUnsafe
theorem fnNibbleUpto_row_tie : Rows.fnNibbleUptoRow.laidByTextAt .later Tryd.pinned [.data, .data] true :=
  OpenClaim.laidByTextAt_later rfl rfl tie noOwnUnsafe
theorem fnNibbleFarUpto_row_tie : Rows.fnNibbleFarUptoRow.laidByTextAt .later Tryd.pinned [.data, .data] true :=
  OpenClaim.laidByTextAt_later rfl rfl tie noOwnUnsafe
theorem fnCodeBackUpto_row_tie : Rows.fnCodeBackUptoRow.laidByTextAt .later Tryd.pinned [.data, .data] true :=
  OpenClaim.laidByTextAt_later rfl rfl tie noOwnUnsafe
theorem fnDecodeBytesUpto_row_tie : Rows.fnDecodeBytesUptoRow.laidByTextAt .later Tryd.pinned [.data, .data] true :=
  OpenClaim.laidByTextAt_later rfl rfl tie noOwnUnsafe
theorem fnExactEncodeNibbleUpto_row_tie : Rows.fnExactEncodeNibbleUptoRow.laidByTextAt .later Tryd.pinned [.data] true :=
  OpenClaim.laidByTextAt_later rfl rfl tie2 noOwnUnsafe
theorem fnExactDecodeNibbleUpto_row_tie : Rows.fnExactDecodeNibbleUptoRow.laidByTextAt .later Tryd.pinned [.data] true :=
  OpenClaim.laidByTextAt_later rfl rfl tie3 noOwnUnsafe
theorem fnExactEncodeBytesUpto_row_tie : Rows.fnExactEncodeBytesUptoRow.laidByTextAt .later Tryd.pinned [.data] true :=
  OpenClaim.laidByTextAt_later rfl rfl tie2 noOwnUnsafe
theorem fnExactDecodeBytesUpto_row_tie : Rows.fnExactDecodeBytesUptoRow.laidByTextAt .later Tryd.pinned [.data] true :=
  OpenClaim.laidByTextAt_later rfl rfl tie3 noOwnUnsafe
end Go.Proofs.YtofbjpcmiohhpaaDoor
