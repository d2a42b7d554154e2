/-
  The walks of the exact laws' helpers on lists of slices of bytes: what is proved here is what the copy, the comparisons and the marks return, and what they leave as it was. Condition: lengths up to 2^24.
-/
import Derived.Test.YthcfjnedpffbbaaListI
import Derived.Deep.QuietTactic
import Derived.BigQuiet
namespace Go.Proofs.Ythcfjnedpffbbaa
open Go.RowKit




def sumLenI (zss : List (List Int)) : Nat := (zss.map List.length).sum
theorem sumLenI_snoc (zss : List (List Int)) (k : Nat) (zs : List Int) (h : zss[k]? = some zs) : sumLenI (zss.take (k + 1)) = sumLenI (zss.take k) + zs.length := by
  unfold sumLenI; rw [List.take_add_one, h]; simp
theorem sumLenI_take (zss : List (List Int)) (k : Nat) : sumLenI (zss.take k) ≤ sumLenI zss := by
  have h : zss = zss.take k ++ zss.drop k := (List.take_append_drop k zss).symm
  have h2 : sumLenI zss = sumLenI (zss.take k) + sumLenI (zss.drop k) := by
    conv => lhs; rw [h]
    simp only [sumLenI, List.map_append, List.sum_append]
  omega

end Go.Proofs.Ythcfjnedpffbbaa
