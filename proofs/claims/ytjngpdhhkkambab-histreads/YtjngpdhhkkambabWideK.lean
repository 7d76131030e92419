/-
  Plain arithmetic: a digit of a long division by the school's way (a guess by the leading half, put right at most twice), and a quotient of four half words by two, digit by digit.
  Conditions: as each theorem says; whole numbers alone.
-/
import Derived.WalkKit
namespace Go.Proofs.Ytjngpdhhkkambab.Kn

theorem le_q {u v1 v0 d q r : Int} (hv : 0 < v1 * 4294967296 + v0) (hu : u = q * v1 + r) (h : q * v0 ≤ 4294967296 * r + d) :
    q ≤ (u * 4294967296 + d) / (v1 * 4294967296 + v0) := by
  rw [Int.le_ediv_iff_mul_le hv]
  have e : q * (v1 * 4294967296 + v0) = (q * v1) * 4294967296 + q * v0 := by rw [Int.mul_add, ← Int.mul_assoc]
  rw [e, hu]
  generalize q * v1 = X at *
  generalize q * v0 = Y at *
  omega

theorem q_lt {u v1 v0 d q r : Int} (hv : 0 < v1 * 4294967296 + v0) (hu : u = q * v1 + r) (h : 4294967296 * r + d < q * v0) :
    (u * 4294967296 + d) / (v1 * 4294967296 + v0) < q := by
  rw [Int.ediv_lt_iff_lt_mul hv]
  have e : q * (v1 * 4294967296 + v0) = (q * v1) * 4294967296 + q * v0 := by rw [Int.mul_add, ← Int.mul_assoc]
  rw [e, hu]
  generalize q * v1 = X at *
  generalize q * v0 = Y at *
  omega

theorem q_digit {u v d : Int} (hv : 0 < v) (hu : u < v) (hd : d < 4294967296) : (u * 4294967296 + d) / v < 4294967296 := by
  rw [Int.ediv_lt_iff_lt_mul hv]; omega

/-- The guess is never below the digit. -/
theorem guess {u v1 v0 d : Int} (hu0 : 0 ≤ u) (h1 : 0 < v1) (h0 : 0 ≤ v0) (hd : 0 ≤ d) (hd' : d < 4294967296) :
    (u * 4294967296 + d) / (v1 * 4294967296 + v0) ≤ u / v1 := by
  have hv : 0 < v1 * 4294967296 + v0 := by omega
  have hm : (u / v1) * v1 + u % v1 = u := by rw [Int.mul_comm]; exact Int.mul_ediv_add_emod u v1
  have hr := Int.emod_lt_of_pos u h1
  have hq : 0 ≤ u / v1 := Int.ediv_nonneg hu0 (Int.le_of_lt h1)
  have hlt : (u * 4294967296 + d) / (v1 * 4294967296 + v0) < u / v1 + 1 := by
    rw [Int.ediv_lt_iff_lt_mul hv]
    have e : (u / v1 + 1) * (v1 * 4294967296 + v0) = (u / v1 * v1) * 4294967296 + v1 * 4294967296 + (u / v1 + 1) * v0 := by
      rw [Int.mul_add, ← Int.mul_assoc, Int.add_mul (u / v1) 1 v1, Int.add_mul, Int.one_mul]
    have hp : 0 ≤ (u / v1 + 1) * v0 := Int.mul_nonneg (by omega) h0
    rw [e]
    generalize u / v1 * v1 = X at *
    generalize (u / v1 + 1) * v0 = Y at *
    omega
  omega

/-- Where what is left has outgrown a half word the guess is right. -/
theorem wide_r {u v1 v0 d q r : Int} (h1 : 0 < v1) (h0 : 0 ≤ v0) (h0' : v0 < 4294967296) (hd : 0 ≤ d)
    (hu : u = q * v1 + r) (huv : u < v1 * 4294967296 + v0) (hr : 4294967296 ≤ r) :
    q < 4294967296 ∧ q * v0 ≤ 4294967296 * r + d := by
  have hq : q < 4294967296 := by
    apply Int.not_le.mp
    intro hge
    have := Int.mul_le_mul_of_nonneg_right hge (Int.le_of_lt h1)
    rw [Int.mul_comm 4294967296 v1] at this
    omega
  refine ⟨hq, ?_⟩
  have a1 : q * v0 ≤ 4294967296 * v0 := Int.mul_le_mul_of_nonneg_right (Int.le_of_lt hq) h0
  omega

/-- One turn of the loop that puts a guess right. -/
theorem turn {U V V1 V0 D Q a b : Int} (hV : V = V1 * 4294967296 + V0) (hQ : Q = (U * 4294967296 + D) / V) (hu : U = a * V1 + b) (hq : Q ≤ a)
    (v0 : 0 < V) (hU : U < V) (hU0 : 0 ≤ U) (d0 : 0 ≤ D) (d1 : D < 4294967296) (t : 4294967296 ≤ a ∨ 4294967296 * b + D < a * V0) :
    Q ≤ a - 1 ∧ U = (a - 1) * V1 + (b + V1) ∧ 0 ≤ a - 1 := by
  have h1 : Q < a := by
    rcases t with t | t
    · have := q_digit v0 hU d1
      rw [← hQ] at this; omega
    · rw [hQ, hV]; rw [hV] at v0; exact q_lt v0 hu t
  have h2 : 0 ≤ Q := by rw [hQ]; exact Int.ediv_nonneg (by omega) (by omega)
  refine ⟨by omega, ?_, by omega⟩
  rw [Int.sub_mul, Int.one_mul]
  generalize a * V1 = X at *
  omega

/-- The loop's test fails: the guess is the digit. -/
theorem stop {U V V1 V0 D Q a b : Int} (hV : V = V1 * 4294967296 + V0) (hQ : Q = (U * 4294967296 + D) / V) (hu : U = a * V1 + b) (hq : Q ≤ a)
    (v0 : 0 < V) (t : a * V0 ≤ 4294967296 * b + D) : a = Q := by
  have h1 : a ≤ Q := by rw [hQ, hV]; rw [hV] at v0; exact le_q v0 hu t
  omega

/-- What is left has outgrown a half word: the guess is the digit. -/
theorem broke {U V V1 V0 D Q a b : Int} (hV : V = V1 * 4294967296 + V0) (hQ : Q = (U * 4294967296 + D) / V) (hu : U = a * V1 + b) (hq : Q ≤ a)
    (v0 : 0 < V) (hU : U < V) (p1 : 0 < V1) (p2 : 0 ≤ V0) (p3 : V0 < 4294967296) (d0 : 0 ≤ D) (r : 4294967296 ≤ b) : a = Q := by
  rw [hV] at hU
  exact stop hV hQ hu hq v0 (wide_r p1 p2 p3 d0 hu hU r).2

theorem two {u v a b : Int} (hv : 0 < v) :
    ((u * 4294967296 + a) * 4294967296 + b) / v = (u * 4294967296 + a) / v * 4294967296 + ((u * 4294967296 + a) % v * 4294967296 + b) / v ∧
    ((u * 4294967296 + a) * 4294967296 + b) % v = ((u * 4294967296 + a) % v * 4294967296 + b) % v := by
  generalize u * 4294967296 + a = n
  have e : n * 4294967296 + b = (n % v * 4294967296 + b) + v * (n / v * 4294967296) := by
    have := Int.mul_ediv_add_emod n v
    rw [← Int.mul_assoc]
    generalize v * (n / v) = X at *
    omega
  rw [e]
  refine ⟨?_, ?_⟩
  · rw [Int.add_mul_ediv_left _ _ (by omega)]; omega
  · rw [Int.add_mul_emod_self_left]

/-- What is left by the guess, reckoned in words. -/
theorem left_of {u v1 : Int} (h0 : 0 ≤ u) (h1 : u < 18446744073709551616) (hv : 0 < v1) :
    (u - u / v1 * v1 % 18446744073709551616) % 18446744073709551616 = u % v1 ∧ u = u / v1 * v1 + u % v1 ∧ 0 ≤ u % v1 ∧ u % v1 < v1 ∧ 0 ≤ u / v1 ∧ u / v1 ≤ u := by
  have hm : u / v1 * v1 + u % v1 = u := by rw [Int.mul_comm]; exact Int.mul_ediv_add_emod u v1
  have r0 := Int.emod_nonneg u (show v1 ≠ 0 by omega)
  have r1 := Int.emod_lt_of_pos u hv
  have q0 : 0 ≤ u / v1 := Int.ediv_nonneg h0 (Int.le_of_lt hv)
  have q1 : u / v1 ≤ u := Int.ediv_le_self v1 h0
  have p0 : 0 ≤ u / v1 * v1 := Int.mul_nonneg q0 (Int.le_of_lt hv)
  generalize u / v1 * v1 = X at *
  generalize u % v1 = r at *
  exact ⟨by omega, by omega, r0, r1, q0, q1⟩

/-- What is left behind a digit, reckoned in words. -/
theorem rest_of {u v d : Int} (hv : 0 < v) (hv1 : v < 18446744073709551616) :
    ((u * 4294967296 % 18446744073709551616 + d) % 18446744073709551616 - (u * 4294967296 + d) / v * v % 18446744073709551616) % 18446744073709551616 = (u * 4294967296 + d) % v ∧
    0 ≤ (u * 4294967296 + d) % v ∧ (u * 4294967296 + d) % v < v := by
  have hm := Int.mul_ediv_add_emod (u * 4294967296 + d) v
  rw [Int.mul_comm] at hm
  have r0 := Int.emod_nonneg (u * 4294967296 + d) (show v ≠ 0 by omega)
  have r1 := Int.emod_lt_of_pos (u * 4294967296 + d) hv
  generalize (u * 4294967296 + d) / v * v = X at *
  generalize (u * 4294967296 + d) % v = r at *
  exact ⟨by omega, r0, r1⟩

theorem mul_bound {a b : Int} (a0 : 0 ≤ a) (a1 : a < 4294967296) (b0 : 0 ≤ b) (b1 : b < 4294967296) : 0 ≤ a * b ∧ a * b < 18446744073709551616 := by
  refine ⟨Int.mul_nonneg a0 b0, ?_⟩
  have h1 : a * b ≤ 4294967296 * b := Int.mul_le_mul_of_nonneg_right (Int.le_of_lt a1) b0
  omega

theorem scaled {n y p : Int} (hp : 0 < p) : (n * p) / (y * p) = n / y ∧ (n * p) % (y * p) = n % y * p := by
  refine ⟨Int.mul_ediv_mul_of_pos_left _ _ hp, ?_⟩
  rw [Int.mul_comm n p, Int.mul_comm y p, Int.mul_emod_mul_of_pos _ _ hp, Int.mul_comm]
end Go.Proofs.Ytjngpdhhkkambab.Kn
