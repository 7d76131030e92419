/-
  What the sums and differences of package wide come to at any two words: contracts, for every world; they change nothing.
  Conditions: each argument is a word (0 to 2^64 - 1).
-/
import Derived.Test.YtnhjjdgdffjdcaaHideK
import Derived.Test.YtnhjjdgdffjdcaaRows
import Derived.WalkKit
import Derived.WalkSpells
import Derived.RowKit3
namespace Go.Proofs.Ytnhjjdgdffjdcaa
open Go.RowKit


def addS (a b : Int) : Int := if a + b < 18446744073709551616 then a + b else 18446744073709551615
def subS (a b : Int) : Int := if a < b then 0 else a - b

theorem addS_word {a b : Int} (ha : Word a) (hb : Word b) : Word (addS a b) := by
  obtain ⟨_, _⟩ := ha; obtain ⟨_, _⟩ := hb; unfold addS Word; split <;> omega
theorem subS_word {a b : Int} (ha : Word a) (hb : Word b) : Word (subS a b) := by
  obtain ⟨_, _⟩ := ha; obtain ⟨_, _⟩ := hb; unfold subS Word; split <;> omega

theorem add_any (a b : Int) (ha : Word a) (hb : Word b) (w : World) :
    Calls Try.prog 27 #[.int .u64 a, .int .u64 b] w fun e w' => e = .returned (.int .u64 (addS a b)) ∧ w' = w := by
  obtain ⟨a0, a1⟩ := ha
  obtain ⟨b0, b1⟩ := hb
  go_enter Try.func27, Try.ntmps27
  go_wp2
  all_goals
    go_ret
    exact ⟨ret_u64 (by (try simp only [IntKind.wrap_u64] at *); unfold addS; split <;> omega), rfl⟩

end Go.Proofs.Ytnhjjdgdffjdcaa
