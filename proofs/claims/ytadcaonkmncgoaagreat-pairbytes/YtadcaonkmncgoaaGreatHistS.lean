/-
  The document's own answer of layer 7 (the laws' reference): how many were seen, ranks and quantiles of a list of buckets: contracts, for every world.
  Conditions: the slice shows its buckets; quantiles: of buckets that may be.
-/
import Derived.Test.YtadcaonkmncgoaaGreatHistR
import Derived.Test.YtadcaonkmncgoaaGreatHistPz
import Derived.Test.YtadcaonkmncgoaaGreatWideZ
namespace Go.Proofs.YtadcaonkmncgoaaGreat
open Go.RowKit
set_option maxRecDepth 20000

def countS (l : Bks) : Int := satAll 0 (l.map (·.2))
def countE (l : Bks) : Int := if countS l = 18446744073709551615 then 11 else 0
def rankS (l : Bks) (v : Int) : Int := satAll 0 ((upB l (bucketS v)).map (·.2))
/-- Which of how many a part asks for. -/
def wantS (n a b : Int) : Int := if ceilV a n b < 1 then 1 else ceilV a n b
def quantS (l : Bks) (a b : Int) : Int × Int :=
  if b = 0 ∨ b < a then (0, 5) else if countS l = 18446744073709551615 then (0, 11) else if countS l = 0 then (0, 3)
  else match findB (wantS (countS l) a b) 0 l with
    | some j => (lowS j, 0)
    | none => (0, 3)

theorem satAll_word {s : Int} {l : List Int} (hs : 0 ≤ s ∧ s < 18446744073709551616) (hl : WordsH l) : 0 ≤ satAll s l ∧ satAll s l < 18446744073709551616 := by
  unfold satAll
  induction l generalizing s with
  | nil => exact hs
  | cons c t ih => exact ih (satS_word hs (hl c (List.mem_cons_self ..))) (fun x hx => hl x (List.mem_cons_of_mem _ hx))
theorem satAll_snoc (s : Int) (l : List Int) (c : Int) : satAll s (l ++ [c]) = satS (satAll s l) c := by unfold satAll; rw [List.foldl_append]; rfl
theorem wordsB_take {l : Bks} (h : WordsB l) (k : Nat) : WordsB (l.take k) := fun x hx => h x (List.mem_of_mem_take hx)
theorem satS_addS (a b : Int) : addS a b = satS a b := rfl
theorem two_at (l : Bks) (k : Nat) {x y : Int} (h : l.getD k (0, 0) = (x, y)) (hk : k < l.length) : (l.take (k + 1)).map (·.2) = (l.take k).map (·.2) ++ [y] := by
  rw [take_bks hk, h, List.map_append]
  rfl

theorem upB_cons_le {j : Int} {x y : Int} {t : Bks} (h : x ≤ j) : upB ((x, y) :: t) j = (x, y) :: upB t j := by
  unfold upB; rw [List.takeWhile_cons, if_pos (by simpa using h)]
theorem upB_cons_gt {j : Int} {x y : Int} {t : Bks} (h : j < x) : upB ((x, y) :: t) j = [] := by
  unfold upB; rw [List.takeWhile_cons, if_neg (by simpa using h)]
end Go.Proofs.YtadcaonkmncgoaaGreat
