/-
  Plain arithmetic: words and their bits: masks, shifts, and a divisor moved up until its top bit is set.
  Conditions: as each theorem says; whole numbers alone.
-/
import Derived.WalkKit
import Derived.Laws.Bits64b
import Derived.Lib.BitFns
import Derived.Lib.ItoaNum
namespace Go.Proofs.Ytjngpdhhkkambab.Kn

theorem wrap_id {x : Int} (h0 : 0 ≤ x) (h1 : x < 18446744073709551616) : IntKind.u64.wrap x = x := by
  rw [IntKind.wrap_u64]; omega

theorem and_mask {x : Int} (h0 : 0 ≤ x) (h1 : x < 18446744073709551616) : bits .and .u64 x 4294967295 = x % 4294967296 := by
  obtain ⟨n, rfl⟩ := Int.eq_ofNat_of_zero_le h0
  have h := bits_and_u64_nat n 4294967295 (by omega) (by omega)
  have e : n &&& 4294967295 = n % 4294967296 := Nat.and_two_pow_sub_one_eq_mod n 32
  rw [e] at h
  exact h.trans (by omega)

theorem and_one {x : Int} (h0 : 0 ≤ x) (h1 : x < 18446744073709551616) : bits .and .u64 x 1 = x % 2 := by
  obtain ⟨n, rfl⟩ := Int.eq_ofNat_of_zero_le h0
  have h := bits_and_u64_nat n 1 (by omega) (by omega)
  have e : n &&& 1 = n % 2 := Nat.and_two_pow_sub_one_eq_mod n 1
  rw [e] at h
  exact h.trans (by omega)

/-- To lay bits below ones that are moved up is to add them. -/
theorem or_add (s a b : Nat) (ha : a * 2 ^ s < 18446744073709551616) (hb : b < 2 ^ s) (hs : s ≤ 63) :
    bits .or .u64 ((a * 2 ^ s : Nat) : Int) (b : Int) = ((a * 2 ^ s + b : Nat) : Int) := by
  have h2 : 2 ^ s ≤ 2 ^ 63 := Nat.pow_le_pow_right (by omega) hs
  have h3 : (2 : Nat) ^ 63 = 9223372036854775808 := by decide +kernel
  rw [bits_or_u64_nat _ _ ha (by omega), Nat.mul_comm a, ← Nat.two_pow_add_eq_or_of_lt hb]

theorem moved (y : Nat) (h0 : y ≠ 0) (h1 : y < 18446744073709551616) :
    ∃ s : Nat, s ≤ 63 ∧ 64 - (Lib.bitLen y : Int) = s ∧ 9223372036854775808 ≤ y * 2 ^ s ∧ y * 2 ^ s < 18446744073709551616 := by
  obtain ⟨b1, b2, b3⟩ := Lib.bitLenAux_bounds 64 y (by have : (2 : Nat) ^ 64 = 18446744073709551616 := by decide +kernel
                                                       omega) h0
  have b4 : Lib.bitLenAux 64 y ≤ 64 := Lib.bitLen_le y 64 (Nat.le_refl _) (by have : (2 : Nat) ^ 64 = 18446744073709551616 := by decide +kernel
                                                                              omega)
  unfold Lib.bitLen
  generalize Lib.bitLenAux 64 y = k at *
  refine ⟨64 - k, by omega, by omega, ?_, ?_⟩
  · have e : (2 : Nat) ^ (k - 1) * 2 ^ (64 - k) = 9223372036854775808 := by
      rw [← Nat.pow_add, show k - 1 + (64 - k) = 63 from by omega]
    calc 9223372036854775808 = 2 ^ (k - 1) * 2 ^ (64 - k) := e.symm
      _ ≤ y * 2 ^ (64 - k) := Nat.mul_le_mul_right _ b2
  · have e : (2 : Nat) ^ k * 2 ^ (64 - k) = 18446744073709551616 := by
      rw [← Nat.pow_add, show k + (64 - k) = 64 from by omega]
    calc y * 2 ^ (64 - k) < 2 ^ k * 2 ^ (64 - k) := Nat.mul_lt_mul_of_pos_right b3 (Nat.two_pow_pos _)
      _ = 18446744073709551616 := e

/-- What the two words hi, lo, moved up by s bits, have above 64 bits and below. -/
theorem upper (hi lo s : Nat) (hs : s ≤ 63) (hl : lo < 18446744073709551616) :
    lo / 2 ^ (64 - s) < 2 ^ s ∧ hi * 2 ^ s + lo / 2 ^ (64 - s) = (hi * 18446744073709551616 + lo) * 2 ^ s / 18446744073709551616 ∧
    lo * 2 ^ s % 18446744073709551616 = (hi * 18446744073709551616 + lo) * 2 ^ s % 18446744073709551616 := by
  have e : (2 : Nat) ^ (64 - s) * 2 ^ s = 18446744073709551616 := by
    rw [← Nat.pow_add, show 64 - s + s = 64 from by omega]
  have hp : 0 < 2 ^ s := Nat.two_pow_pos s
  have hp' : 0 < 2 ^ (64 - s) := Nat.two_pow_pos _
  refine ⟨?_, ?_, ?_⟩
  · rw [Nat.div_lt_iff_lt_mul hp', Nat.mul_comm, e]; exact hl
  · have e2 : (hi * 18446744073709551616 + lo) * 2 ^ s = lo * 2 ^ s + 18446744073709551616 * (hi * 2 ^ s) := by
      rw [Nat.add_mul, Nat.mul_assoc, Nat.mul_left_comm, Nat.add_comm]
    rw [e2, Nat.add_mul_div_left _ _ (by omega), Nat.add_comm]
    congr 1
    rw [← e]
    exact (Nat.mul_div_mul_right lo _ hp).symm
  · have e2 : (hi * 18446744073709551616 + lo) * 2 ^ s = lo * 2 ^ s + 18446744073709551616 * (hi * 2 ^ s) := by
      rw [Nat.add_mul, Nat.mul_assoc, Nat.mul_left_comm, Nat.add_comm]
    rw [e2, Nat.add_mul_mod_self_left]
end Go.Proofs.Ytjngpdhhkkambab.Kn
