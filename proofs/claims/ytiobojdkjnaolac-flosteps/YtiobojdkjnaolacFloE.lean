/-
  What flo.Next comes to at any word: a contract, for every world; it changes nothing. And what follows of order: plain arithmetic.
  Conditions: the argument is a word (0 to 2^64 - 1).
-/
import Derived.Test.YtiobojdkjnaolacFloD
namespace Go.Proofs.Ytiobojdkjnaolac
open Go.RowKit
attribute [local go_sem] run_bits run_frombits

def nextS (x : Int) : Int := if 9218868437227405312 < x % 9223372036854775808 ∨ x = 9218868437227405312 then x else ofS (keyS x + 1)

theorem key_room {x : Int} (h : Word x) (k : ¬ (9218868437227405312 < x % 9223372036854775808 ∨ x = 9218868437227405312)) : Word (keyS x + 1) ∧ keyS x < 18442240474082181120 ∧ 4503599627370495 ≤ keyS x := by
  obtain ⟨_, _⟩ := h; unfold keyS Word; split <;> omega
theorem nextS_word {x : Int} (h : Word x) : Word (nextS x) := by
  unfold nextS
  split
  · exact h
  · rename_i k; exact ofS_word (key_room h k).1

set_option maxHeartbeats 400000 in
theorem next_any (x : Int) (h : Word x) (w : World) :
    Calls Try.prog 4 #[.int .u64 x] w fun e w' => e = .returned (.int .u64 (nextS x)) ∧ w' = w := by
  have lx : x.toNat < 18446744073709551616 := by obtain ⟨_, _⟩ := h; omega
  have N := hide (fun w => isnan_any x.toNat lx w)
  have I := hide (fun w => isinf_any x.toNat lx w)
  rw [nan_nat h] at N
  have K := hide (fun w => key_any x h w)
  by_cases kn : 9218868437227405312 < x % 9223372036854775808
  · have F : Hid (nextS x = x) := by show _ = _; unfold nextS; rw [if_pos (Or.inl kn)]
    rw [show nanI x = true from decide_eq_true kn] at N
    clear kn h
    go_enter Try.func4, Try.ntmps4
    go_wp2_with (go_at_call 9; refine (N.out _).mono ?_; rintro e w' ⟨rfl, rfl⟩)
    go_ret
    exact ⟨ret_u64 F.out.symm, rfl⟩
  · rw [show nanI x = false from decide_eq_false kn] at N
    by_cases ki : x = 9218868437227405312
    · have F : Hid (nextS x = x) := by show _ = _; unfold nextS; rw [if_pos (Or.inr ki)]
      rw [decide_eq_true (show x.toNat = 9218868437227405312 by omega)] at I
      clear kn ki h
      go_enter Try.func4, Try.ntmps4
      go_wp2_with (first
        | (go_at_call 9; refine (N.out _).mono ?_; rintro e w' ⟨rfl, rfl⟩)
        | (go_at_call 10; refine (I.out _).mono ?_; rintro e w' ⟨rfl, rfl⟩))
      go_ret
      exact ⟨ret_u64 F.out.symm, rfl⟩
    · have k : ¬ (9218868437227405312 < x % 9223372036854775808 ∨ x = 9218868437227405312) := fun c => c.elim kn ki
      have F : Hid (nextS x = ofS (keyS x + 1)) := by show _ = _; unfold nextS; rw [if_neg k]
      obtain ⟨hw, k1, k2⟩ := key_room h k
      have O := hide (fun w => of_any (keyS x + 1) hw w)
      rw [decide_eq_false (show ¬ x.toNat = 9218868437227405312 by obtain ⟨_, _⟩ := h; omega)] at I
      clear kn ki h k hw
      go_enter Try.func4, Try.ntmps4
      go_wp2_with (first
        | (go_at_call 9; refine (N.out _).mono ?_; rintro e w' ⟨rfl, rfl⟩)
        | (go_at_call 10; refine (I.out _).mono ?_; rintro e w' ⟨rfl, rfl⟩)
        | (go_at_call 7; refine (K.out _).mono ?_; rintro e w' ⟨rfl, rfl⟩)
        | (go_at_call 11; refine (O.out _).mono ?_; rintro e w' ⟨rfl, rfl⟩))
      go_ret
      exact ⟨ret_u64 F.out.symm, rfl⟩

/-- Order, in plain words. -/
theorem less_iff (x y : Int) : lessB x y = true ↔ ¬ 9218868437227405312 < x % 9223372036854775808 ∧ ¬ 9218868437227405312 < y % 9223372036854775808 ∧ keyS x < keyS y := by
  unfold lessB nanI
  simp only [Bool.and_eq_true, Bool.not_eq_true', decide_eq_true_eq, decide_eq_false_iff_not]
  omega

/-- Where the next one is another, its place is one behind. -/
theorem next_key {x : Int} (h : Word x) (k : ¬ (9218868437227405312 < x % 9223372036854775808 ∨ x = 9218868437227405312)) : keyS (nextS x) = keyS x + 1 := by
  unfold nextS; rw [if_neg k, key_of (key_room h k).1]
theorem next_same {x : Int} (k : 9218868437227405312 < x % 9223372036854775808 ∨ x = 9218868437227405312) : nextS x = x := by
  unfold nextS; rw [if_pos k]
/-- A word is no NaN just where its place lies within bounds. -/
theorem nan_key {x : Int} (h : Word x) : ¬ 9218868437227405312 < x % 9223372036854775808 ↔ 4503599627370495 ≤ keyS x ∧ keyS x ≤ 18442240474082181120 := by
  obtain ⟨_, _⟩ := h; unfold keyS; split <;> omega
end Go.Proofs.Ytiobojdkjnaolac
