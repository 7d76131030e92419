/-
  Plain arithmetic: words and their bits: the sign's bit, all bits the other way, the fraction, the exponent.
  Conditions: as each theorem says; whole numbers alone.
-/
import Derived.WalkKit
import Derived.Laws.Bits64b
namespace Go.Proofs.Ytnhjjdgdffjdcaa.Fl

theorem nat_and_sign (n : Nat) (h : n < 18446744073709551616) : n &&& 9223372036854775808 = if 9223372036854775808 ≤ n then 9223372036854775808 else 0 := by
  have e : (9223372036854775808 : Nat) = 2 ^ 63 := rfl
  apply Nat.eq_of_testBit_eq
  intro i
  rw [Nat.testBit_and, e, Nat.testBit_two_pow]
  by_cases k : i = 63
  · subst k
    rw [Nat.testBit_eq_decide_div_mod_eq, decide_eq_true rfl, Bool.and_true]
    by_cases k : 2 ^ 63 ≤ n
    · rw [if_pos k, Nat.testBit_two_pow, decide_eq_true rfl]; exact decide_eq_true (by omega)
    · rw [if_neg k, Nat.zero_testBit]; exact decide_eq_false (by omega)
  · rw [decide_eq_false (fun c => k c.symm), Bool.and_false]
    split
    · rw [Nat.testBit_two_pow]; exact (decide_eq_false (fun c => k c.symm)).symm
    · rw [Nat.zero_testBit]

theorem nat_xor_sign_lt (n : Nat) (h : n < 9223372036854775808) : n ^^^ 9223372036854775808 = n + 9223372036854775808 := by
  have e : (9223372036854775808 : Nat) = 2 ^ 63 := rfl
  apply Nat.eq_of_testBit_eq
  intro i
  rw [Nat.testBit_xor, e, Nat.testBit_two_pow, Nat.add_comm]
  by_cases k : i = 63
  · subst k
    rw [Nat.testBit_two_pow_add_eq, decide_eq_true rfl, Nat.testBit_lt_two_pow (by omega)]; rfl
  · rw [decide_eq_false (fun c => k c.symm), Bool.xor_false]
    by_cases k2 : i < 63
    · rw [Nat.testBit_two_pow_add_gt k2]
    · have : n < 2 ^ i := Nat.lt_of_lt_of_le h (by rw [e]; exact Nat.pow_le_pow_right (by omega) (by omega))
      rw [Nat.testBit_lt_two_pow this, Nat.testBit_lt_two_pow]
      have : 2 ^ 64 ≤ 2 ^ i := Nat.pow_le_pow_right (by omega) (by omega)
      omega
theorem nat_xor_sign (n : Nat) (h : n < 18446744073709551616) : n ^^^ 9223372036854775808 = if 9223372036854775808 ≤ n then n - 9223372036854775808 else n + 9223372036854775808 := by
  by_cases k : 9223372036854775808 ≤ n
  · rw [if_pos k]
    obtain ⟨m, rfl⟩ : ∃ m, n = m + 9223372036854775808 := ⟨n - 9223372036854775808, by omega⟩
    rw [← nat_xor_sign_lt m (by omega), Nat.xor_assoc, Nat.xor_self, Nat.xor_zero, nat_xor_sign_lt m (by omega)]; omega
  · rw [if_neg k, nat_xor_sign_lt n (by omega)]

theorem and_sign {x : Int} (h0 : 0 ≤ x) (h1 : x < 18446744073709551616) : bits .and .u64 x 9223372036854775808 = if 9223372036854775808 ≤ x then 9223372036854775808 else 0 := by
  obtain ⟨n, rfl⟩ := Int.eq_ofNat_of_zero_le h0
  have h := bits_and_u64_nat n 9223372036854775808 (by omega) (by omega)
  rw [nat_and_sign n (by omega)] at h
  refine h.trans ?_
  split <;> split <;> omega
theorem or_sign {x : Int} (h0 : 0 ≤ x) (h1 : x < 9223372036854775808) : bits .or .u64 x 9223372036854775808 = x + 9223372036854775808 := by
  obtain ⟨n, rfl⟩ := Int.eq_ofNat_of_zero_le h0
  have h := bits_or_u64_nat n 9223372036854775808 (by omega) (by omega)
  have e := Nat.two_pow_add_eq_or_of_lt (i := 63) (b := n) (by omega) 1
  rw [Nat.mul_one, Nat.or_comm, show (2 : Nat) ^ 63 = 9223372036854775808 from rfl] at e
  rw [← e] at h
  exact h.trans (by omega)
theorem or_hidden {x : Int} (h0 : 0 ≤ x) (h1 : x < 4503599627370496) : bits .or .u64 x 4503599627370496 = 4503599627370496 + x := by
  obtain ⟨n, rfl⟩ := Int.eq_ofNat_of_zero_le h0
  have h := bits_or_u64_nat n 4503599627370496 (by omega) (by omega)
  have e := Nat.two_pow_add_eq_or_of_lt (i := 52) (b := n) (by omega) 1
  rw [Nat.mul_one, Nat.or_comm, show (2 : Nat) ^ 52 = 4503599627370496 from rfl] at e
  rw [← e] at h
  exact h.trans (by omega)
theorem xor_sign {x : Int} (h0 : 0 ≤ x) (h1 : x < 18446744073709551616) : bits .xor .u64 x 9223372036854775808 = if 9223372036854775808 ≤ x then x - 9223372036854775808 else x + 9223372036854775808 := by
  obtain ⟨n, rfl⟩ := Int.eq_ofNat_of_zero_le h0
  have h := bits_xor_u64_nat n 9223372036854775808 (by omega) (by omega)
  rw [nat_xor_sign n (by omega)] at h
  refine h.trans ?_
  split <;> split <;> omega
theorem not_all {x : Int} (h0 : 0 ≤ x) (h1 : x < 18446744073709551616) : bits .xor .u64 18446744073709551615 x = 18446744073709551615 - x := by
  obtain ⟨n, rfl⟩ := Int.eq_ofNat_of_zero_le h0
  show IntKind.u64.wrap ((BitVec.ofInt 64 18446744073709551615 ^^^ BitVec.ofInt 64 (n : Int)).toNat : Int) = _
  have e1 : BitVec.ofInt 64 18446744073709551615 = BitVec.allOnes 64 := by decide
  rw [e1, BitVec.allOnes_xor, BitVec.toNat_not, BitVec.ofInt_natCast, BitVec.toNat_ofNat, IntKind.wrap_u64]
  omega
theorem xor_all {x : Int} (h0 : 0 ≤ x) (h1 : x < 18446744073709551616) : bits .xor .u64 x 18446744073709551615 = 18446744073709551615 - x := by
  obtain ⟨n, rfl⟩ := Int.eq_ofNat_of_zero_le h0
  show IntKind.u64.wrap ((BitVec.ofInt 64 (n : Int) ^^^ BitVec.ofInt 64 18446744073709551615).toNat : Int) = _
  have e1 : BitVec.ofInt 64 18446744073709551615 = BitVec.allOnes 64 := by decide
  rw [e1, BitVec.xor_allOnes, BitVec.toNat_not, BitVec.ofInt_natCast, BitVec.toNat_ofNat, IntKind.wrap_u64]
  omega
theorem andnot_sign {x : Int} (h0 : 0 ≤ x) (h1 : x < 18446744073709551616) : bits .andNot .u64 x 9223372036854775808 = x % 9223372036854775808 := by
  obtain ⟨n, rfl⟩ := Int.eq_ofNat_of_zero_le h0
  show IntKind.u64.wrap ((BitVec.ofInt 64 (n : Int) &&& ~~~BitVec.ofInt 64 9223372036854775808).toNat : Int) = _
  have e1 : ~~~BitVec.ofInt 64 9223372036854775808 = BitVec.ofNat 64 (2 ^ 63 - 1) := by decide
  rw [e1, BitVec.toNat_and, BitVec.ofInt_natCast, BitVec.toNat_ofNat, BitVec.toNat_ofNat, IntKind.wrap_u64]
  rw [show (2 ^ 63 - 1) % 2 ^ 64 = 2 ^ 63 - 1 from rfl, Nat.and_two_pow_sub_one_eq_mod]
  omega
theorem and_frac {x : Int} (h0 : 0 ≤ x) (h1 : x < 18446744073709551616) : bits .and .u64 x 4503599627370495 = x % 4503599627370496 := by
  obtain ⟨n, rfl⟩ := Int.eq_ofNat_of_zero_le h0
  have h := bits_and_u64_nat n 4503599627370495 (by omega) (by omega)
  have e : n &&& 4503599627370495 = n % 4503599627370496 := Nat.and_two_pow_sub_one_eq_mod n 52
  rw [e] at h
  exact h.trans (by omega)
theorem and_exp {x : Int} (h0 : 0 ≤ x) (h1 : x < 18446744073709551616) : bits .and .u64 x 2047 = x % 2048 := by
  obtain ⟨n, rfl⟩ := Int.eq_ofNat_of_zero_le h0
  have h := bits_and_u64_nat n 2047 (by omega) (by omega)
  have e : n &&& 2047 = n % 2048 := Nat.and_two_pow_sub_one_eq_mod n 11
  rw [e] at h
  exact h.trans (by omega)
end Go.Proofs.Ytnhjjdgdffjdcaa.Fl
