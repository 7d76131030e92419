/-
  The document's own answer of layer 7 (the laws' reference): quantiles of a list of buckets: a contract, for every world.
  Conditions: the slice shows its buckets, which may be.
-/
import Derived.Test.YtjngpdhhkkambabHistS
namespace Go.Proofs.Ytjngpdhhkkambab
open Go.RowKit

theorem sum_nonneg {l : List Int} (h : WordsH l) : 0 ≤ l.sum := by
  induction l with
  | nil => simp
  | cons c t ih =>
    have := h c (List.mem_cons_self ..)
    have := ih (fun x hx => h x (List.mem_cons_of_mem _ hx))
    rw [List.sum_cons]; omega
theorem sum_take_le {l : List Int} (h : WordsH l) (k : Nat) : (l.take k).sum ≤ l.sum := by
  have h1 : WordsH (l.drop k) := fun x hx => h x (List.mem_of_mem_drop hx)
  have h2 := sum_nonneg h1
  conv => rhs; rw [← List.take_append_drop k l, List.sum_append]
  omega
theorem countS_sum {l : Bks} (h : WordsB l) (hc : countS l ≠ 18446744073709551615) : (l.map (·.2)).sum = countS l ∧ countS l < 18446744073709551615 := by
  have h1 := satAll_sum (s := 0) ⟨by omega, by omega⟩ (wordsB_snd h)
  have h0 := sum_nonneg (wordsB_snd h)
  unfold countS at *
  rw [h1] at hc ⊢
  split at hc
  · rename_i h2
    rw [if_pos h2]
    exact ⟨by omega, by omega⟩
  · exact absurd rfl hc

end Go.Proofs.Ytjngpdhhkkambab
