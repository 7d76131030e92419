/-
  The program's own Name, Check, Value, Cmp, Make, Text of labels keep what the laws ask of them (the texts that show it, brought together).
  Conditions: none.
-/
import Derived.Test.YtoepdgdagjckbabLabDb
import Derived.Test.YtoepdgdagjckbabLabDc
import Derived.Test.YtoepdgdagjckbabLabDm
import Derived.Test.YtoepdgdagjckbabLabDw
namespace Go.Proofs.Ytoepdgdagjckbab
theorem la_all : LaN ∧ LaC ∧ LaV ∧ LaM ∧ LaT := ⟨laN, laC, laV, laM, laT⟩
end Go.Proofs.Ytoepdgdagjckbab
