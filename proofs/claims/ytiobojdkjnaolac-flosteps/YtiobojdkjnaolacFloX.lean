/-
  Plain arithmetic: so many steps on in the order of floats.
  Conditions: as each theorem says; whole numbers alone.
-/
import Derived.Test.YtiobojdkjnaolacFloE
namespace Go.Proofs.Ytiobojdkjnaolac
open Go.RowKit

theorem and_31 (n : Int) : 0 ≤ bits .and .i64 n 31 ∧ bits .and .i64 n 31 ≤ 31 := by
  have e : bits .and .i64 n 31 = IntKind.i64.wrap ((BitVec.ofInt 64 n &&& BitVec.ofInt 64 31).toNat : Int) := rfl
  rw [e, BitVec.toNat_and]
  have h : (BitVec.ofInt 64 n).toNat &&& (BitVec.ofInt 64 31).toNat ≤ (BitVec.ofInt 64 31).toNat := Nat.and_le_right
  have h2 : (BitVec.ofInt 64 31).toNat = 31 := by decide
  rw [h2] at h
  rw [h2]
  generalize (BitVec.ofInt 64 n).toNat &&& 31 = t at *
  rw [IntKind.wrap_i64]
  omega

/-- The place after so many steps. -/
def placeS (x : Int) (i : Int) : Int := if keyS x + i < 18442240474082181120 then keyS x + i else 18442240474082181120

theorem step_place {b x i : Int} (hb : Word b) (hn : ¬ 9218868437227405312 < b % 9223372036854775808) (hx : Word x) (hi : 0 ≤ i) (h : keyS x = placeS b i) : keyS (nextS x) = placeS b (i + 1) := by
  have kb := (nan_key hb).1 hn
  by_cases k : 9218868437227405312 < x % 9223372036854775808 ∨ x = 9218868437227405312
  · rw [next_same k]
    rcases k with k | k
    · exfalso
      refine (nan_key hx).2 ?_ k
      rw [h]; unfold placeS; split <;> omega
    · have : keyS x = 18442240474082181120 := by rw [k]; decide
      rw [this] at h ⊢
      unfold placeS at *
      split at h <;> split <;> omega
  · rw [next_key hx k, h]
    have := (key_room hx k).2.1
    rw [h] at this
    unfold placeS at *
    split at this <;> split <;> omega
end Go.Proofs.Ytiobojdkjnaolac
