/-
  Plain arithmetic: the answers of package wide, held at the greatest word, may be turned round and grouped; fractions are in order.
  Conditions: as each theorem says; whole numbers alone.
-/
import Derived.Test.YthgpidalegnjgabWideC
namespace Go.Proofs.Ythgpidalegnjgab
open Go.RowKit

def capS (x : Int) : Int := if x < 18446744073709551616 then x else 18446744073709551615
theorem addS_cap (a b : Int) : addS a b = capS (a + b) := rfl
theorem mulS_cap (a b : Int) : mulS a b = capS (a * b) := rfl
theorem cap_word {x : Int} (h : 0 ≤ x) : Word (capS x) := by unfold capS Word; split <;> omega
theorem mulS_word {a b : Int} (ha : Word a) (hb : Word b) : Word (mulS a b) := cap_word (Int.mul_nonneg ha.1 hb.1)

theorem cap_add {x y : Int} (hy : 0 ≤ y) : capS (capS x + y) = capS (x + y) := by unfold capS; split <;> split <;> omega
theorem cap_add' {x y : Int} (hx : 0 ≤ x) : capS (x + capS y) = capS (x + y) := by unfold capS; split <;> split <;> omega
theorem cap_mul {x c : Int} (hx : 0 ≤ x) (hc : 0 ≤ c) : capS (capS x * c) = capS (x * c) := by
  unfold capS
  by_cases h : x < 18446744073709551616
  · rw [if_pos h]
  · rw [if_neg h]
    by_cases h0 : c = 0
    · subst h0; simp
    · have h1 : x * 1 ≤ x * c := Int.mul_le_mul_of_nonneg_left (by omega) hx
      have h2 : (18446744073709551615 : Int) * 1 ≤ 18446744073709551615 * c := Int.mul_le_mul_of_nonneg_left (by omega) (by omega)
      generalize x * c = X at *
      rw [if_neg (show ¬ X < 18446744073709551616 by omega)]
      split <;> omega
theorem cap_mul' {x c : Int} (hx : 0 ≤ x) (hc : 0 ≤ c) : capS (c * capS x) = capS (c * x) := by
  rw [Int.mul_comm c, Int.mul_comm c]; exact cap_mul hx hc

theorem add_comm_b (a b : Int) : (addS a b == addS b a) = true := beq_iff_eq.2 (by rw [addS_cap, addS_cap, Int.add_comm])
theorem mul_comm_b (a b : Int) : (mulS a b == mulS b a) = true := beq_iff_eq.2 (by rw [mulS_cap, mulS_cap, Int.mul_comm])
theorem add_assoc_b {a b c : Int} (ha : Word a) (hb : Word b) (hc : Word c) : (addS (addS a b) c == addS a (addS b c)) = true := by
  obtain ⟨a0, _⟩ := ha; obtain ⟨b0, _⟩ := hb; obtain ⟨c0, _⟩ := hc
  refine beq_iff_eq.2 ?_
  rw [addS_cap, addS_cap, addS_cap, addS_cap, cap_add c0, cap_add' a0, Int.add_assoc]
theorem mul_assoc_b {a b c : Int} (ha : Word a) (hb : Word b) (hc : Word c) : (mulS (mulS a b) c == mulS a (mulS b c)) = true := by
  obtain ⟨a0, _⟩ := ha; obtain ⟨b0, _⟩ := hb; obtain ⟨c0, _⟩ := hc
  refine beq_iff_eq.2 ?_
  rw [mulS_cap, mulS_cap, mulS_cap, mulS_cap, cap_mul (Int.mul_nonneg a0 b0) c0, cap_mul' (Int.mul_nonneg b0 c0) a0, Int.mul_assoc]
theorem distrib_b {a b c : Int} (ha : Word a) (hb : Word b) (hc : Word c) : (mulS a (addS b c) == addS (mulS a b) (mulS a c)) = true := by
  obtain ⟨a0, _⟩ := ha; obtain ⟨b0, _⟩ := hb; obtain ⟨c0, _⟩ := hc
  refine beq_iff_eq.2 ?_
  rw [mulS_cap, mulS_cap, mulS_cap, addS_cap, addS_cap, cap_mul' (by omega) a0, cap_add (cap_word (Int.mul_nonneg a0 c0)).1, cap_add' (Int.mul_nonneg a0 b0), Int.mul_add]

theorem cmp_small (a b c d : Int) : -1 ≤ cmpS a b c d ∧ cmpS a b c d ≤ 1 := by
  unfold cmpS; split
  · omega
  · split <;> omega
theorem cmp_turn (a b c d : Int) : cmpS c d a b = -cmpS a b c d := by
  unfold cmpS; split <;> split <;> (try split) <;> omega
theorem cmp_self (a b : Int) : cmpS a b a b = 0 := by unfold cmpS; simp

/-- Fractions are in order. -/
theorem cmp_trans {a b c d e f : Int} (hb : 0 < b) (hd : 0 < d) (hf : 0 < f)
    (h1 : cmpS a b c d ≤ 0) (h2 : cmpS c d e f ≤ 0) : cmpS a b e f ≤ 0 := by
  have k1 : a * d ≤ c * b := by unfold cmpS at h1; split at h1 <;> (try split at h1) <;> omega
  have k2 : c * f ≤ e * d := by unfold cmpS at h2; split at h2 <;> (try split at h2) <;> omega
  have k3 : a * f ≤ e * b := by
    have m1 : a * d * f ≤ c * b * f := Int.mul_le_mul_of_nonneg_right k1 (Int.le_of_lt hf)
    have m2 : c * f * b ≤ e * d * b := Int.mul_le_mul_of_nonneg_right k2 (Int.le_of_lt hb)
    have m3 : a * f * d ≤ e * b * d := by
      rw [Int.mul_right_comm a f d, Int.mul_right_comm e b d]
      rw [Int.mul_right_comm c b f] at m1
      omega
    exact Int.le_of_mul_le_mul_right m3 hd
  unfold cmpS; split
  · omega
  · split <;> omega
end Go.Proofs.Ythgpidalegnjgab
