/-
  The program's own Name, Check, Value, Cmp, Make, Text of labels keep what the laws ask of them (the texts that show it, brought together).
  Conditions: none.
-/
import Derived.Test.YtoepdgdagjckbaaLabDb
import Derived.Test.YtoepdgdagjckbaaLabDc
import Derived.Test.YtoepdgdagjckbaaLabDm
import Derived.Test.YtoepdgdagjckbaaLabDw
namespace Go.Proofs.Ytoepdgdagjckbaa
theorem la_all : LaN ∧ LaC ∧ LaV ∧ LaM ∧ LaT := ⟨laN, laC, laV, laM, laT⟩
end Go.Proofs.Ytoepdgdagjckbaa
