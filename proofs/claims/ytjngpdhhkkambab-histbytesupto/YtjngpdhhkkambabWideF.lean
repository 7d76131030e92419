/-
  What the document's own answers Mul, Div, Floor, Ceil, Cmp come to: contracts, for every world; of what was there nothing turns.
  Conditions: each argument is a word (0 to 2^64 - 1).
-/
import Derived.Test.YtjngpdhhkkambabWideE
namespace Go.Proofs.Ytjngpdhhkkambab
open Go.RowKit
attribute [local go_sem] setCell_drewN alloc_drewN cell_drewN frozen_drewN

end Go.Proofs.Ytjngpdhhkkambab
