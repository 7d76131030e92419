/-
  The buckets in which something was seen, as a list: a contract, for every world.
  Conditions: the histogram lies where it is said to lie.
-/
import Derived.Test.YtjngpdhhkkambacHistA
import Derived.Test.YtjngpdhhkkambacHistB
import Derived.Test.YtjngpdhhkkambacHistAd
namespace Go.Proofs.Ytjngpdhhkkambac
open Go.RowKit

theorem spF_snoc (k : Int) (H : List Int) (y : Int) : spF k (H ++ [y]) = spF k H ++ (if 0 < y then [(k + H.length, y)] else []) := by
  induction H generalizing k with
  | nil =>
    simp only [List.nil_append, spF, List.length_nil]
    split
    · simp
    · rfl
  | cons c t ih =>
    rw [List.cons_append, spF, spF, ih, List.length_cons]
    rw [show k + 1 + (t.length : Int) = k + ((t.length + 1 : Nat) : Int) by omega]
    split <;> simp
theorem spF_len (k : Int) (H : List Int) : (spF k H).length ≤ H.length := by
  induction H generalizing k with
  | nil => exact Nat.le_refl _
  | cons c t ih =>
    have := ih (k + 1)
    rw [spF]
    split <;> simp only [List.length_cons] <;> omega

end Go.Proofs.Ytjngpdhhkkambac
