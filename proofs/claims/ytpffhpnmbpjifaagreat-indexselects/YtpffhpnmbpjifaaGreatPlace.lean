/-
  What the laws' own Place comes to: the number's place among n, 0 to n - 1; it changes nothing.
  Conditions: both are numbers of 64 bits with a sign; n is above 0.
-/
import Derived.Test.YtpffhpnmbpjifaaGreatVintZa
import Derived.Test.YtpffhpnmbpjifaaGreatRows
import Derived.WalkKit
import Derived.WalkSpells
namespace Go.Proofs.YtpffhpnmbpjifaaGreat
open Go.RowKit
set_option maxRecDepth 20000

theorem tmod_place {v n : Int} (h : 0 < n) : -n < v.tmod n ∧ v.tmod n < n ∧ (v.tmod n < 0 → v % n = v.tmod n + n) ∧ (0 ≤ v.tmod n → v % n = v.tmod n) := by
  have e := Int.tmod_eq_emod (a := v) (b := n)
  have h0 := Int.emod_nonneg v (show n ≠ 0 by omega)
  have h1 := Int.emod_lt_of_pos v h
  split at e
  · exact ⟨by omega, by omega, by omega, by omega⟩
  · rename_i hn
    have hp : v % n ≠ 0 := fun hz => hn (Or.inr (Int.dvd_of_emod_eq_zero hz))
    exact ⟨by omega, by omega, by omega, by omega⟩

end Go.Proofs.YtpffhpnmbpjifaaGreat
