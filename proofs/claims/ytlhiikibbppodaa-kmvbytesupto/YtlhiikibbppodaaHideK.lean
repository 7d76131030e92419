/-
  A fact that the walk is not to look at.
  Conditions: none.
-/
import Derived.Below
namespace Go.Proofs.Ytlhiikibbppodaa
open Go.RowKit

theorem hide {p : Prop} (h : p) : Hid p := h
end Go.Proofs.Ytlhiikibbppodaa
