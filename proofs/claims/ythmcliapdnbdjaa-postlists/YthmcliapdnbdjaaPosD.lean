/-
  What the laws ask of post's functions holds of this code.
  Conditions: none.
-/
import Derived.Test.YthmcliapdnbdjaaPosDf
import Derived.Test.YthmcliapdnbdjaaPosDm
namespace Go.Proofs.Ythmcliapdnbdjaa
open Go.RowKit

theorem poI : PoI where
  rises := fun a n cap zs w h => prises_any a n cap zs w h
  from' := fun a n cap zs w h hn => from_any a n cap zs w h hn
  and' := fun a n cap xs b m capb ys w hx hy hn _ => and_any a n cap xs b m capb ys w hx hy hn
  less := fun a n cap xs b m capb ys w hx hy hn _ => less_any a n cap xs b m capb ys w hx hy hn
  most := fun a n cap ls k w h _ _ hn hl _ => most_any a n cap ls k w h hn hl
  or' := fun a n cap ls w h _ _ hn hl => or_any a n cap ls w h hn hl
end Go.Proofs.Ythmcliapdnbdjaa
