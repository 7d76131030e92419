/-
  The document's own answer of layer 8 (the laws' reference): a thing comes, how many unlike things: contracts, for every world.
  Conditions: the slice shows its numbers; one more hash: of a list that may be; the division by its contract.
-/
import Derived.Test.YtadcaonkmncgoaaGreatKmvAz
import Derived.Test.YtadcaonkmncgoaaGreatFnvR
namespace Go.Proofs.YtadcaonkmncgoaaGreat
open Go.RowKit
set_option maxRecDepth 20000

/-- How many unlike things. -/
def distK (l : List Int) : Int :=
  if chkK l then (if l.length < 1024 then l.length else if l.getD 1023 0 = 18446744073709551615 then 1023 else 1023 * 18446744073709551616 / (l.getD 1023 0 + 1)) else 0
/-- The division's contract, as far as it is called. -/
def DivK (f : FuncId) : Prop := ∀ (d : Int) (w : World), 1023 < d → d < 18446744073709551616 →
  Calls Tryz.prog f #[.int .u64 1023, .int .u64 0, .int .u64 d] w fun e w' => (∃ r, e = .returned (.tuple #[.int .u64 (1023 * 18446744073709551616 / d), .int .u64 r, .bool true])) ∧ ∃ q, w' = w.drewN q

/-- Numbers that rise, from 0 on: each is at least its place. -/
theorem up_place {l : List Int} (hl : Up l) (h0 : ∀ x ∈ l, W64 x) : ∀ i, i < l.length → (i : Int) ≤ l.getD i 0 := by
  intro i
  induction i with
  | zero =>
    intro hi
    exact (words_getD h0 0).1
  | succ j ih =>
    intro hi
    have h1 := ih (by omega)
    have h2 : l.getD j 0 < l.getD (j + 1) 0 := by
      rw [List.getD_eq_getElem?_getD, List.getD_eq_getElem?_getD, List.getElem?_eq_getElem (by omega), List.getElem?_eq_getElem hi]
      exact List.pairwise_iff_getElem.1 hl j (j + 1) (by omega) hi (by omega)
    omega

end Go.Proofs.YtadcaonkmncgoaaGreat
