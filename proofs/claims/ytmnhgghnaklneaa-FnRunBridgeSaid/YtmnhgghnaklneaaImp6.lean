/-
  Chapter 6's program, all of it: the parts, imported into one text. No condition.
-/
import Derived.Test.YtmnhgghnaklneaaImp6h
import Derived.Test.YtmnhgghnaklneaaImp6k
namespace Go.Proofs.Ytmnhgghnaklneaa
end Go.Proofs.Ytmnhgghnaklneaa
