/-
  What the document's Floor, Windows, Level, Coarsest and Check tell: contracts, for every world.
  Conditions: as each theorem says.
-/
import Derived.Test.YtejflcfcbjadhabDoorCalM
namespace Go.Proofs.YtejflcfcbjadhabDoor
open Go.RowKit
set_option maxRecDepth 20000

/-- A rest with a sign, and the one without. -/
theorem tmod_fix {a r : Int} (hr : 0 < r) : (a.tmod r < 0 ∧ a.tmod r + r = a % r ∧ 0 < a % r) ∨ (0 ≤ a.tmod r ∧ a.tmod r = a % r) := by
  have h1 := Int.emod_nonneg a (show r ≠ 0 by omega)
  have h2 := Int.emod_lt_of_pos a hr
  rw [Int.tmod_eq_emod]
  split
  · right
    omega
  · rename_i h
    left
    have h3 : a % r ≠ 0 := fun e => h (Or.inr (Int.dvd_of_emod_eq_zero e))
    omega
theorem tmod_zero (a : Int) {r : Int} (hr : 0 < r) : (a.tmod r == 0) = decide (a % r = 0) := by
  rw [Bool.eq_iff_iff, beq_iff_eq, decide_eq_true_eq]
  have h1 := Int.emod_lt_of_pos a hr
  have h0 := Int.emod_nonneg a (show r ≠ 0 by omega)
  rcases tmod_fix (a := a) hr with h | h <;> omega

end Go.Proofs.YtejflcfcbjadhabDoor
