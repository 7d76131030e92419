/-
  What the library tells of infinities of either sign, and how order stands to the machine's own: a contract, for every world; it changes nothing; and plain arithmetic.
  Conditions: each argument is a word (0 to 2^64 - 1).
-/
import Derived.Test.YtnhjjdgdffjdcaaFloC
namespace Go.Proofs.Ytnhjjdgdffjdcaa
open Go.RowKit
attribute [local go_sem] run_bits run_frombits

theorem kindnan (x : Int) : (kindS x == 4) = nanI x := by
  unfold kindS nanI
  by_cases k : 9218868437227405312 < x % 9223372036854775808
  · rw [if_pos k, decide_eq_true k]; rfl
  · rw [if_neg k, decide_eq_false k]
    refine beq_eq_false_iff_ne.2 ?_
    repeat' split
    all_goals omega
def infB (x : Int) : Bool := decide (x % 9223372036854775808 = 9218868437227405312)
theorem kindinf (x : Int) : (kindS x == 3) = infB x := by
  unfold kindS infB
  by_cases k : x % 9223372036854775808 = 9218868437227405312
  · rw [if_neg (by omega), if_pos k, decide_eq_true k]; rfl
  · rw [decide_eq_false k, if_neg k]
    refine beq_eq_false_iff_ne.2 ?_
    repeat' split
    all_goals omega
theorem kindzero {x : Int} (h : Word x) : (kindS x == 0) = zeroB x := by
  obtain ⟨h0, h1⟩ := h
  unfold kindS zeroB
  by_cases k : x = 0 ∨ x = 9223372036854775808
  · rw [decide_eq_true k, if_neg (by omega), if_neg (by omega), if_pos (by omega)]; rfl
  · rw [decide_eq_false k, if_neg (show ¬ x % 9223372036854775808 = 0 by omega)]
    refine beq_eq_false_iff_ne.2 ?_
    repeat' split
    all_goals omega

/-- Order is the machine's own, but for noughts. -/
theorem less_order {x y : Int} (hx : Word x) (hy : Word y) (c : ¬ (zeroB x = true ∧ zeroB y = true)) :
    (FloatKind.f64.format.order x.toNat y.toNat == some .lt) = lessB x y := by
  have lx : x.toNat < 18446744073709551616 := by obtain ⟨_, _⟩ := hx; omega
  have ly : y.toNat < 18446744073709551616 := by obtain ⟨_, _⟩ := hy; omega
  rw [Fl.order_lt lx ly, nan_nat hx, nan_nat hy]
  unfold lessB
  cases nx : nanI x
  · cases ny : nanI y
    · rw [val_key hx hy nx ny]
      rw [val_zero hx, val_zero hy]
      unfold zeroB at c
      simpa using c
    · rfl
  · rfl
theorem less_noughts {x y : Int} (hx : zeroB x = true) (hy : zeroB y = true) : lessB x y = (Fl.ng x.toNat && !Fl.ng y.toNat) := by
  rcases of_decide_eq_true hx with rfl | rfl <;> rcases of_decide_eq_true hy with rfl | rfl <;> decide
end Go.Proofs.Ytnhjjdgdffjdcaa
