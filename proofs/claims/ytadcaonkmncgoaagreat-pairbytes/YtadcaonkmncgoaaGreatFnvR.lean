/-
  What the document's own answer (the product as a sum of shifts) comes to, at any text behind any number: contracts, for every world.
  Conditions: the number is a word of 64 bits; the text is of at most 2^63 - 1 bytes, as every text.
-/
import Derived.Test.YtadcaonkmncgoaaGreatFnvA
namespace Go.Proofs.YtadcaonkmncgoaaGreat
open Go.RowKit
set_option maxRecDepth 20000

end Go.Proofs.YtadcaonkmncgoaaGreat
