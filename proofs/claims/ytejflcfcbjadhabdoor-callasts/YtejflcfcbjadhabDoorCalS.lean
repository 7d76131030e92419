/-
  What the document's Windows, Level, Coarsest and Check tell: contracts, for every world.
  Conditions: as each theorem says.
-/
import Derived.Test.YtejflcfcbjadhabDoorCalR
namespace Go.Proofs.YtejflcfcbjadhabDoor
open Go.RowKit
set_option maxRecDepth 20000

/-- Whether both are multiples. -/
def bothC (s t r : Int) : Bool := decide (s % r = 0) && decide (t % r = 0)
theorem coaC_eq (s t : Int) : coaC s t = if bothC s t 8640 = true then 3 else if bothC s t 360 = true then 2 else if bothC s t 6 = true then 1 else 0 := by
  unfold coaC bothC
  simp only [Bool.and_eq_true, decide_eq_true_eq]
theorem resC_at {k : Nat} (h1 : 1 ≤ k) (h3 : k ≤ 3) : resC k = (if k = 3 then 8640 else if k = 2 then 360 else 6) ∧ 0 < resC k := by
  have : k = 1 ∨ k = 2 ∨ k = 3 := by omega
  rcases this with rfl | rfl | rfl <;> decide
theorem coaC_at {s t : Int} {k : Nat} (h1 : 1 ≤ k) (h3 : k ≤ 3) (h : ∀ j : Nat, k < j → j ≤ 3 → bothC s t (resC j) = false) (hk : bothC s t (resC k) = true) : coaC s t = k := by
  rw [coaC_eq]
  have : k = 1 ∨ k = 2 ∨ k = 3 := by omega
  rcases this with rfl | rfl | rfl
  · have a := h 3 (by omega) (by omega)
    have b := h 2 (by omega) (by omega)
    rw [if_neg (by rw [show bothC s t 8640 = false from a]; decide), if_neg (by rw [show bothC s t 360 = false from b]; decide), if_pos (show bothC s t 6 = true from hk)]
    rfl
  · have a := h 3 (by omega) (by omega)
    rw [if_neg (by rw [show bothC s t 8640 = false from a]; decide), if_pos (show bothC s t 360 = true from hk)]
    rfl
  · rw [if_pos (show bothC s t 8640 = true from hk)]
    rfl
theorem coaC_none {s t : Int} (h : ∀ j : Nat, 0 < j → j ≤ 3 → bothC s t (resC j) = false) : coaC s t = 0 := by
  rw [coaC_eq, if_neg (by rw [show bothC s t 8640 = false from h 3 (by omega) (by omega)]; decide), if_neg (by rw [show bothC s t 360 = false from h 2 (by omega) (by omega)]; decide), if_neg (by rw [show bothC s t 6 = false from h 1 (by omega) (by omega)]; decide)]

end Go.Proofs.YtejflcfcbjadhabDoor
