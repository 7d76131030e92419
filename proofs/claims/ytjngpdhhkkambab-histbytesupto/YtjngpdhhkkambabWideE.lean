/-
  What the document's own answer (bit by bit) comes to: products and quotients at any words: contracts, for every world; they change nothing.
  Conditions: each argument is a word (0 to 2^64 - 1).
-/
import Derived.Test.YtjngpdhhkkambabWideC
namespace Go.Proofs.Ytjngpdhhkkambab
open Go.RowKit
attribute [local go_sem] setCell_drewN alloc_drewN cell_drewN frozen_drewN

/-- One step of a product, bit by bit. -/
theorem full_step {a m : Int} (X : Int) (hX : a * m = X) (x0 : 0 ≤ X) (x1 : 2 * X < 340282366920938463463374607431768211456) :
    bits .or .u64 (IntKind.u64.wrap (hiS a m * 2)) (loS a m / 9223372036854775808) = 2 * X / 18446744073709551616 ∧ IntKind.u64.wrap (loS a m * 2) = 2 * X % 18446744073709551616 := by
  unfold hiS loS
  rw [hX]
  obtain ⟨n, rfl⟩ := Int.eq_ofNat_of_zero_le x0
  refine ⟨?_, by rw [IntKind.wrap_u64]; omega⟩
  have e := Kn.or_add 1 (n / 18446744073709551616) (n % 18446744073709551616 / 9223372036854775808) (by omega) (by omega) (by omega)
  have e1 : IntKind.u64.wrap ((n : Int) / 18446744073709551616 * 2) = ((n / 18446744073709551616 * 2 ^ 1 : Nat) : Int) := by rw [IntKind.wrap_u64]; omega
  have e2 : (n : Int) % 18446744073709551616 / 9223372036854775808 = ((n % 18446744073709551616 / 9223372036854775808 : Nat) : Int) := by omega
  rw [e1, e2, e]
  omega

theorem bit_step (b : Int) (j : Nat) : b / 2 ^ j = 2 * (b / 2 ^ (j + 1)) + b / 2 ^ j % 2 := by
  have : b / 2 ^ (j + 1) = b / 2 ^ j / 2 := by rw [Int.pow_succ, Int.ediv_ediv_of_nonneg (Int.le_of_lt (Int.pow_pos (by omega)))]
  rw [this]; omega

theorem full_round {a b : Int} (ha : Word a) (hb : Word b) (j : Nat) :
    let H := bits .or .u64 (IntKind.u64.wrap (hiS a (b / 2 ^ (j + 1)) * 2)) (loS a (b / 2 ^ (j + 1)) / 9223372036854775808)
    let L := IntKind.u64.wrap (loS a (b / 2 ^ (j + 1)) * 2)
    ((bits .and .u64 (b / 2 ^ j) 1 == 1) = false → H = hiS a (b / 2 ^ j) ∧ L = loS a (b / 2 ^ j)) ∧
    ((bits .and .u64 (b / 2 ^ j) 1 == 1) = true → L ≤ 18446744073709551615 - a → H = hiS a (b / 2 ^ j) ∧ IntKind.u64.wrap (L + a) = loS a (b / 2 ^ j)) ∧
    ((bits .and .u64 (b / 2 ^ j) 1 == 1) = true → 18446744073709551615 - a < L → IntKind.u64.wrap (H + 1) = hiS a (b / 2 ^ j) ∧ IntKind.u64.wrap (L + a) = loS a (b / 2 ^ j)) := by
  intro H L
  obtain ⟨a0, a1⟩ := ha
  obtain ⟨b0, b1⟩ := hb
  have hp : (0 : Int) < 2 ^ j := Int.pow_pos (by omega)
  have hp' : (0 : Int) < 2 ^ (j + 1) := Int.pow_pos (by omega)
  have m0 : 0 ≤ b / 2 ^ j := Int.ediv_nonneg b0 (Int.le_of_lt hp)
  have m1 : b / 2 ^ j ≤ b := Int.ediv_le_self _ b0
  have n0 : 0 ≤ b / 2 ^ (j + 1) := Int.ediv_nonneg b0 (Int.le_of_lt hp')
  have hbit := bit_step b j
  have hand := Kn.and_one m0 (by omega)
  have hx : a * (b / 2 ^ j) = 2 * (a * (b / 2 ^ (j + 1))) + (b / 2 ^ j % 2) * a := by
    rw [hbit, Int.mul_add, Int.mul_left_comm, Int.mul_comm a (_ % 2)]
    congr 2
    omega
  have hbd : a * (b / 2 ^ j) < 340282366920938463463374607431768211456 := by
    have h1 : a * (b / 2 ^ j) ≤ 18446744073709551616 * (b / 2 ^ j) := Int.mul_le_mul_of_nonneg_right (Int.le_of_lt a1) m0
    omega
  have x0 : 0 ≤ a * (b / 2 ^ (j + 1)) := Int.mul_nonneg a0 n0
  have hbz : 0 ≤ b / 2 ^ j % 2 * a := Int.mul_nonneg (by omega) a0
  obtain ⟨s1, s2⟩ := full_step (a := a) (m := b / 2 ^ (j + 1)) _ rfl x0 (by omega)
  have hH : H = 2 * (a * (b / 2 ^ (j + 1))) / 18446744073709551616 := s1
  have hL : L = 2 * (a * (b / 2 ^ (j + 1))) % 18446744073709551616 := s2
  clear_value H L
  unfold hiS loS
  rw [hand, hx]
  rw [hx] at hbd
  generalize a * (b / 2 ^ (j + 1)) = X at *
  rcases (show b / 2 ^ j % 2 = 0 ∨ b / 2 ^ j % 2 = 1 by omega) with hc | hc
  · rw [hc] at hbd ⊢
    rw [Int.zero_mul, Int.add_zero]
    exact ⟨fun _ => ⟨hH, hL⟩, fun h => by simp at h, fun h => by simp at h⟩
  · rw [hc] at hbd ⊢
    rw [Int.one_mul] at hbd ⊢
    refine ⟨fun h => by simp at h, fun _ h => ⟨by omega, ?_⟩, fun _ h => ⟨?_, ?_⟩⟩
    all_goals (rw [IntKind.wrap_u64]; omega)

theorem end_of (j : Nat) : (intOf (Value.int .i64 ((j : Int) - 1)) + 1).toNat < (intOf (Value.int .i64 (j : Int)) + 1).toNat := by
  simp [intOf]

/-- What of the two words hi, lo stands above the last k bits. -/
def nS (hi lo : Int) (k : Nat) : Int := hi * 2 ^ (64 - k) + lo / 2 ^ k

theorem nS_step (hi lo : Int) (j : Nat) (hj : j + 1 ≤ 64) : nS hi lo j = 2 * nS hi lo (j + 1) + lo / 2 ^ j % 2 := by
  unfold nS
  have h1 := bit_step lo j
  have h2 : hi * 2 ^ (64 - j) = 2 * (hi * 2 ^ (64 - (j + 1))) := by
    rw [show 64 - j = 64 - (j + 1) + 1 by omega, Int.pow_succ, ← Int.mul_assoc, Int.mul_comm _ 2]
  omega

theorem nS_bound {hi lo d : Int} (hl : Word lo) (h0 : 0 ≤ hi) (h : hi < d) (k : Nat) (hk : k ≤ 64) : 0 ≤ nS hi lo k ∧ nS hi lo k < d * 2 ^ (64 - k) := by
  obtain ⟨l0, l1⟩ := hl
  have hp : (0 : Int) < 2 ^ k := Int.pow_pos (by omega)
  have hp' : (0 : Int) < 2 ^ (64 - k) := Int.pow_pos (by omega)
  have hm : (2 : Int) ^ (64 - k) * 2 ^ k = 18446744073709551616 := by
    rw [← Int.pow_add, show 64 - k + k = 64 by omega]; decide +kernel
  have t0 : 0 ≤ lo / 2 ^ k := Int.ediv_nonneg l0 (Int.le_of_lt hp)
  have t1 : lo / 2 ^ k < 2 ^ (64 - k) := by rw [Int.ediv_lt_iff_lt_mul hp, hm]; exact l1
  have s0 : 0 ≤ hi * 2 ^ (64 - k) := Int.mul_nonneg h0 (Int.le_of_lt hp')
  have s1 : (hi + 1) * 2 ^ (64 - k) ≤ d * 2 ^ (64 - k) := Int.mul_le_mul_of_nonneg_right (by omega) (Int.le_of_lt hp')
  rw [Int.add_mul, Int.one_mul] at s1
  unfold nS
  exact ⟨by omega, by omega⟩

theorem div_round {hi lo d : Int} (hh : Word hi) (hl : Word lo) (hd : Word d) (h : hi < d) (j : Nat) (hj : j + 1 ≤ 64) :
    let R := nS hi lo (j + 1) % d
    let Q := nS hi lo (j + 1) / d
    let r := bits .or .u64 (IntKind.u64.wrap (R * 2)) (bits .and .u64 (lo / 2 ^ j) 1)
    ((R / 9223372036854775808 == 1) = true ∨ d ≤ r → IntKind.u64.wrap (r - d) = nS hi lo j % d ∧ bits .or .u64 (IntKind.u64.wrap (Q * 2)) 1 = nS hi lo j / d) ∧
    ((R / 9223372036854775808 == 1) = false → r < d → r = nS hi lo j % d ∧ IntKind.u64.wrap (Q * 2) = nS hi lo j / d) := by
  intro R Q r
  obtain ⟨h0, h1⟩ := hh
  obtain ⟨d0, d1⟩ := hd
  have hl' := hl
  obtain ⟨l0, l1⟩ := hl'
  have dp : 0 < d := by omega
  obtain ⟨n0, n1⟩ := nS_bound hl h0 h (j + 1) hj
  have hst := nS_step hi lo j hj
  have R0 : 0 ≤ R := Int.emod_nonneg _ (by omega)
  have R1 : R < d := Int.emod_lt_of_pos _ dp
  have Q0 : 0 ≤ Q := Int.ediv_nonneg n0 d0
  have Q1 : Q < 9223372036854775808 := by
    show nS hi lo (j + 1) / d < _
    have hpw : (2 : Int) ^ (64 - (j + 1)) ≤ 9223372036854775808 := by
      have : (2 : Int) ^ (64 - (j + 1)) * 2 ^ j = 9223372036854775808 := by
        rw [← Int.pow_add, show 64 - (j + 1) + j = 63 by omega]; decide +kernel
      have hj1 : (1 : Int) ≤ 2 ^ j := by have : (0 : Int) < 2 ^ j := Int.pow_pos (by omega)
                                         omega
      have hj2 : (0 : Int) < 2 ^ (64 - (j + 1)) := Int.pow_pos (by omega)
      have := Int.mul_le_mul_of_nonneg_left hj1 (Int.le_of_lt hj2)
      omega
    have := Int.mul_le_mul_of_nonneg_left hpw d0
    rw [Int.ediv_lt_iff_lt_mul dp]
    rw [Int.mul_comm d 9223372036854775808] at this
    omega
  have hN : nS hi lo (j + 1) = d * Q + R := (Int.mul_ediv_add_emod _ _).symm
  have hb0 : 0 ≤ lo / 2 ^ j := Int.ediv_nonneg l0 (Int.le_of_lt (Int.pow_pos (by omega)))
  have hb1 : lo / 2 ^ j ≤ lo := Int.ediv_le_self _ l0
  have hand := Kn.and_one hb0 (by omega)
  have hr : r = (R * 2 + lo / 2 ^ j % 2) % 18446744073709551616 := by
    show bits .or .u64 (IntKind.u64.wrap (R * 2)) (bits .and .u64 (lo / 2 ^ j) 1) = _
    rw [hand, IntKind.wrap_u64]
    generalize lo / 2 ^ j = m at *
    obtain ⟨m, rfl⟩ := Int.eq_ofNat_of_zero_le hb0
    clear_value R
    obtain ⟨R, rfl⟩ := Int.eq_ofNat_of_zero_le R0
    have e := Kn.or_add 1 (R % 9223372036854775808) (m % 2) (by omega) (by omega) (by omega)
    have e1 : ((R : Int) * 2 % 18446744073709551616) = ((R % 9223372036854775808 * 2 ^ 1 : Nat) : Int) := by omega
    have e2 : (m : Int) % 2 = ((m % 2 : Nat) : Int) := by omega
    rw [e1, e2, e]
    omega
  have hq : IntKind.u64.wrap (Q * 2) = Q * 2 := Kn.wrap_id (by omega) (by omega)
  have hq1 : bits .or .u64 (IntKind.u64.wrap (Q * 2)) 1 = Q * 2 + 1 := by
    rw [hq]
    clear_value Q
    obtain ⟨Q, rfl⟩ := Int.eq_ofNat_of_zero_le Q0
    have e := Kn.or_add 1 Q 1 (by omega) (by omega) (by omega)
    have e1 : ((Q : Int) * 2) = ((Q * 2 ^ 1 : Nat) : Int) := by omega
    rw [e1]
    exact e.trans (by omega)
  have hN' : nS hi lo j = (R * 2 + lo / 2 ^ j % 2) + d * (Q * 2) := by
    rw [hst, hN, ← Int.mul_assoc]
    generalize d * Q = X
    omega
  rw [hN', Int.add_mul_emod_self_left, Int.add_mul_ediv_left _ _ (by omega), hq1, hq]
  clear_value R Q r
  have c01 : 0 ≤ lo / 2 ^ j % 2 ∧ lo / 2 ^ j % 2 ≤ 1 := ⟨by omega, by omega⟩
  generalize lo / 2 ^ j % 2 = c at *
  refine ⟨fun ht => ?_, fun ht hlt => ?_⟩
  · have hge : d ≤ R * 2 + c := by
      rcases ht with ht | ht
      · have := beq_iff_eq.1 ht; omega
      · rw [hr] at ht
        omega
    have e3 : (R * 2 + c) / d = 1 := by
      have a1 : 1 ≤ (R * 2 + c) / d := by rw [Int.le_ediv_iff_mul_le dp]; omega
      have a2 : (R * 2 + c) / d < 2 := by rw [Int.ediv_lt_iff_lt_mul dp]; omega
      omega
    have e4 : (R * 2 + c) % d = R * 2 + c - d := by
      rw [Int.emod_def, e3, Int.mul_one]
    rw [e3, e4, IntKind.wrap_u64, hr]
    exact ⟨by omega, by omega⟩
  · have ht' : ¬ R / 9223372036854775808 = 1 := by simpa using ht
    have hr' : r = R * 2 + c := by rw [hr]; omega
    rw [hr'] at hlt ⊢
    rw [Int.emod_eq_of_lt (by omega) hlt, Int.ediv_eq_zero_of_lt (by omega) hlt]
    exact ⟨rfl, by omega⟩

end Go.Proofs.Ytjngpdhhkkambab
