/-
  What flo.Add, and the document's own answer Add, come to at any two words: contracts, for every world; of what was there nothing turns (which NaN a machine's sum is, is asked of the world).
  Conditions: each argument is a word (0 to 2^64 - 1).
-/
import Derived.Test.YtiobojdkjnaolabFloD
namespace Go.Proofs.Ytiobojdkjnaolab
open Go.RowKit
attribute [local go_sem] run_bits run_frombits

/-- The sum's bits; of no number one NaN. -/
def addS (x y : Int) : Int := match Ieee.double.add x.toNat y.toNat with
  | some r => (r : Int)
  | none => 9221120237041090561

theorem grown_drew {a b : World} (h : Grown a b) : Grown a b.drew := h

theorem nan_asked (x y : Nat) (h : Ieee.double.add x y = none) (w : World) : ∃ r : Nat, r < 18446744073709551616 ∧ Fl.nanB r = true ∧
    ∀ t : TypeId, (binOp .add t (.float .f64 x) (.float .f64 y)).run Try.prog w = .ok (.float .f64 r) w.drew := by
  have e : FloatKind.f64.format.add x y = none := h
  refine ⟨(Question.nanBits .f64 x y).cut (w.tape w.drawn (.nanBits .f64 x y)), ?_, ?_, fun t => ?_⟩
  · show (_ % 2) * 2 ^ 63 + 0x7ff0000000000000 + 1 + (_ / 2) % (2 ^ 52 - 1) < _
    omega
  · refine decide_eq_true ?_
    show 9218868437227405312 < ((_ % 2) * 2 ^ 63 + 0x7ff0000000000000 + 1 + (_ / 2) % (2 ^ 52 - 1)) % 9223372036854775808
    generalize w.tape w.drawn (.nanBits .f64 x y) = t
    have b : t / 2 % (2 ^ 52 - 1) < 2 ^ 52 - 1 := Nat.mod_lt _ (by decide)
    generalize t / 2 % (2 ^ 52 - 1) = u at *
    rcases Nat.mod_two_eq_zero_or_one t with e | e <;> rw [e] <;> omega
  · simp [binOp, Op.floatArith, e, Question.forced]

set_option maxHeartbeats 400000 in
theorem add_any (x y : Int) (_hx : Word x) (_hy : Word y) (w : World) :
    Calls Try.prog 9 #[.int .u64 x, .int .u64 y] w fun e w' => e = .returned (.int .u64 (addS x y)) ∧ Grown w w' := by
  cases k : Ieee.double.add x.toNat y.toNat with
  | some r =>
    have F : Hid (addS x y = (r : Int)) := by show _ = _; unfold addS; rw [k]
    obtain ⟨r0, r1⟩ := Fl.add_num k
    have R : ∀ (t : TypeId) (w : World), (binOp .add t (.float .f64 x.toNat) (.float .f64 y.toNat)).run Try.prog w = .ok (.float .f64 r) w := fun t w => run_float_arith w .add t .f64 _ _ r k
    have N := hide (fun w => isnan_any r r0 w)
    rw [show Fl.nanB r = false from decide_eq_false (by omega)] at N
    clear k r1
    go_enter Try.func9, Try.ntmps9
    go_wp2_with (go_at_call 14; refine (N.out _).mono ?_; rintro e w' ⟨rfl, rfl⟩)
    go_ret
    exact ⟨ret_u64 F.out.symm, Grown.refl _⟩
  | none =>
    have F : Hid (addS x y = 9221120237041090561) := by show _ = _; unfold addS; rw [k]
    obtain ⟨r, r0, r1, R⟩ := nan_asked _ _ k w
    have N := hide (fun w => isnan_any r r0 w)
    rw [r1] at N
    clear k r1
    go_enter Try.func9, Try.ntmps9
    go_wp2_with (go_at_call 14; refine (N.out _).mono ?_; rintro e w' ⟨rfl, rfl⟩)
    go_ret
    exact ⟨ret_u64 F.out.symm, grown_drew (Grown.refl _)⟩

set_option maxHeartbeats 400000 in
theorem refadd_any (x y : Int) (_hx : Word x) (_hy : Word y) (w : World) :
    Calls Try.prog 10 #[.int .u64 x, .int .u64 y] w fun e w' => e = .returned (.int .u64 (addS x y)) ∧ Grown w w' := by
  cases k : Ieee.double.add x.toNat y.toNat with
  | some r =>
    have F : Hid (addS x y = (r : Int)) := by show _ = _; unfold addS; rw [k]
    obtain ⟨r0, r1⟩ := Fl.add_num k
    have R : ∀ (t : TypeId) (w : World), (binOp .add t (.float .f64 x.toNat) (.float .f64 y.toNat)).run Try.prog w = .ok (.float .f64 r) w := fun t w => run_float_arith w .add t .f64 _ _ r k
    have N : (FloatKind.f64.format.order r r != some .eq) = false := by
      rw [bne, Fl.order_eq r0 r0, show Fl.nanB r = false from decide_eq_false (by omega)]; simp
    clear k r1
    go_enter Try.func10, Try.ntmps10
    go_wp2
    go_ret
    exact ⟨ret_u64 F.out.symm, Grown.refl _⟩
  | none =>
    have F : Hid (addS x y = 9221120237041090561) := by show _ = _; unfold addS; rw [k]
    obtain ⟨r, r0, r1, R⟩ := nan_asked _ _ k w
    have N : (FloatKind.f64.format.order r r != some .eq) = true := by
      rw [bne, Fl.order_eq r0 r0, r1]; simp
    clear k r1
    go_enter Try.func10, Try.ntmps10
    go_wp2
    go_ret
    exact ⟨ret_u64 F.out.symm, grown_drew (Grown.refl _)⟩

theorem addS_comm (x y : Int) : addS x y = addS y x := by unfold addS; rw [Fl.add_comm]
theorem addS_word (x y : Int) : Word (addS x y) := by
  unfold addS
  cases k : Ieee.double.add x.toNat y.toNat with
  | some r => have := (Fl.add_num k).1; exact ⟨by simp, by simp; omega⟩
  | none => exact ⟨by simp, by simp⟩
end Go.Proofs.Ytiobojdkjnaolab
