/-
  Whether two lists of numbers are the same, by the laws' own SameNums: a contract, for every world.
  Conditions: the slices show their numbers.
-/
import Derived.Test.YtadcaonkmncgoaaGreatVintA
import Derived.Test.YtadcaonkmncgoaaGreatRows
import Derived.WalkKit
namespace Go.Proofs.YtadcaonkmncgoaaGreat
open Go.RowKit
set_option maxRecDepth 20000

theorem take_step {ls : List Int} {k : Nat} (h : k < ls.length) : ls.take (k + 1) = ls.take k ++ [ls.getD k 0] := by
  rw [List.take_succ_eq_append_getElem h, List.getD_eq_getElem?_getD, List.getElem?_eq_getElem h]
  rfl

end Go.Proofs.YtadcaonkmncgoaaGreat
