/-
  The document's own answer of layer 8 (the laws' reference): two lists put together, how many unlike things: contracts, for every world.
  Conditions: the slices show their numbers; the lists may be.
-/
import Derived.Test.YtlhiikibbppodabKmvR
import Derived.Test.YtlhiikibbppodabKmvU
namespace Go.Proofs.Ytlhiikibbppodab
open Go.RowKit

end Go.Proofs.Ytlhiikibbppodab
