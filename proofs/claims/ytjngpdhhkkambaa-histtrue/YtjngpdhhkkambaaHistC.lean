/-
  The law's own comparison of two products (a count of at most 300 by a word): a contract, for every world.
  Conditions: counts from 0 to 400; words of 64 bits.
-/
import Derived.Test.YtjngpdhhkkambaaVintA
import Derived.Test.YtjngpdhhkkambaaRows
namespace Go.Proofs.Ytjngpdhhkkambaa
open Go.RowKit

theorem and32_u64 {x : Int} (h : W64 x) : bits .and .u64 x 4294967295 = x % 4294967296 := by
  unfold W64 at h
  obtain ⟨a, rfl⟩ := Int.eq_ofNat_of_zero_le h.1
  have h2 : (BitVec.ofInt 64 4294967295).toNat = 4294967295 := by decide
  have e : a &&& 4294967295 = a % 4294967296 := Nat.and_two_pow_sub_one_eq_mod a 32
  show IntKind.u64.wrap ((BitVec.ofInt 64 (a : Int) &&& BitVec.ofInt 64 4294967295).toNat : Int) = _
  rw [BitVec.toNat_and, nat_u64 (by omega), h2, IntKind.wrap_u64, e]
  omega
/-- A product in two parts. -/
theorem two_parts {n b : Int} (n0 : 0 ≤ n) (n1 : n ≤ 400) (hb : W64 b) :
    ∃ X Y A H P Q A' : Int, bits .and .u64 b 4294967295 = X ∧ b / 4294967296 = Y ∧ IntKind.u64.wrap (n * X) = A ∧ IntKind.u64.wrap (n * Y) = H ∧ A / 4294967296 = A' ∧ IntKind.u64.wrap (H + A') = P ∧ bits .and .u64 A 4294967295 = Q ∧ 0 ≤ A ∧ A < 18446744073709551616 ∧ 0 ≤ H ∧ H < 18446744073709551616 ∧ 0 ≤ X ∧ X < 18446744073709551616 ∧ 0 ≤ Y ∧ Y < 18446744073709551616 ∧ 0 ≤ A' ∧ A' < 18446744073709551616 ∧ 0 ≤ P ∧ 0 ≤ Q ∧ Q < 4294967296 ∧ Hid (n * b = P * 4294967296 + Q) := by
  unfold W64 at hb
  have m1 : n * (b % 4294967296) ≤ 400 * (b % 4294967296) := Int.mul_le_mul_of_nonneg_right n1 (by omega)
  have m2 : n * (b / 4294967296) ≤ 400 * (b / 4294967296) := Int.mul_le_mul_of_nonneg_right n1 (by omega)
  have m3 : 0 ≤ n * (b % 4294967296) := Int.mul_nonneg n0 (by omega)
  have m4 : 0 ≤ n * (b / 4294967296) := Int.mul_nonneg n0 (by omega)
  have e1 : IntKind.u64.wrap (n * (b % 4294967296)) = n * (b % 4294967296) := by rw [IntKind.wrap_u64]; omega
  have e2 : IntKind.u64.wrap (n * (b / 4294967296)) = n * (b / 4294967296) := by rw [IntKind.wrap_u64]; omega
  have e3 : n * b = n * (b / 4294967296) * 4294967296 + n * (b % 4294967296) := by
    have h : b = b / 4294967296 * 4294967296 + b % 4294967296 := by omega
    conv => lhs; rw [h, Int.mul_add, ← Int.mul_assoc]
  refine ⟨b % 4294967296, b / 4294967296, n * (b % 4294967296), n * (b / 4294967296), n * (b / 4294967296) + n * (b % 4294967296) / 4294967296, n * (b % 4294967296) % 4294967296, n * (b % 4294967296) / 4294967296, and32_u64 hb, rfl, e1, e2, rfl, ?_, and32_u64 ⟨m3, by omega⟩, m3, by omega, m4, by omega, by omega, by omega, by omega, by omega, by omega, by omega, by omega, by omega, by omega, ?_⟩
  · rw [IntKind.wrap_u64]; omega
  · show _ = _
    rw [e3]; omega

set_option maxHeartbeats 1000000 in
theorem less_any (n b m a : Int) (w : World) (n0 : 0 ≤ n) (n1 : n ≤ 400) (m0 : 0 ≤ m) (m1 : m ≤ 400) (hb : W64 b) (ha : W64 a) :
    Calls Try.prog 33 #[.int .i64 n, .int .u64 b, .int .u64 m, .int .u64 a] w fun e w' => e = .returned (.bool (decide (n * b < m * a))) ∧ w' = w := by
  obtain ⟨X, Y, A, H, P, Q, A', f1, f2, f3, f4, f5, f6, f7, p0, p1, p2, p3, p4, p5, p6, p7, p8, p9, p10, p11, p12, HB⟩ := two_parts n0 n1 hb
  obtain ⟨X', Y', B, H', P', Q', B', g1, g2, g3, g4, g5, g6, g7, q0, q1, q2, q3, q4, q5, q6, q7, q8, q9, q10, q11, q12, HA⟩ := two_parts m0 m1 ha
  clear hb ha
  by_cases h : P = P'
  · have t : (P != P') = false := by simpa using h
    have HE : Hid (decide (n * b < m * a) = decide (Q < Q')) := by
      show _ = _
      rw [HB.out, HA.out, h]
      simp only [decide_eq_decide]
      omega
    clear h
    rw [HE.out]
    generalize hd : decide (Q < Q') = dd at *
    go_enter Try.func33, Try.ntmps33
    go_wp2
    go_ret
    exact ⟨rfl, rfl⟩
  · have t : (P != P') = true := by simpa using h
    have HE : Hid (decide (n * b < m * a) = decide (P < P')) := by
      show _ = _
      rw [HB.out, HA.out]
      simp only [decide_eq_decide]
      omega
    clear h
    rw [HE.out]
    generalize hd : decide (P < P') = dd at *
    go_enter Try.func33, Try.ntmps33
    go_wp2
    go_ret
    exact ⟨rfl, rfl⟩
end Go.Proofs.Ytjngpdhhkkambaa
