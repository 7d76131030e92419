/-
  The document's own answer of layer 8 (the laws' reference): two lists put together, how many unlike things: contracts, for every world.
  Conditions: the slices show their numbers; the lists may be.
-/
import Derived.Test.YtadcaonkmncgoabKmvR
import Derived.Test.YtadcaonkmncgoabKmvU
namespace Go.Proofs.Ytadcaonkmncgoab
open Go.RowKit
set_option maxRecDepth 20000

/-- A list answered in new memory. -/
def BackO (w w' : World) (e : Ending) (l : List Int) : Prop := ∃ a' c', e = .returned (.slice a' l.length c') ∧ Row .u64 w' a' l.length l ∧ OwnU w' w.heap.size a' l.length c' l ∧ Below w.heap.size w w'

end Go.Proofs.Ytadcaonkmncgoab
