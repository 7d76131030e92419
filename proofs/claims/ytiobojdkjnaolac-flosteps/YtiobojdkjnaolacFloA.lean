/-
  What the library's small functions on floats come to (is it no number, is it infinite, its sign, without its sign): contracts, for every world; they change nothing.
  Conditions: each argument is a float's 64 bits.
-/
import Derived.Test.YtiobojdkjnaolacRows
import Derived.Test.YtiobojdkjnaolacFloL
import Derived.Test.YtiobojdkjnaolacFloB
import Derived.WalkKit
import Derived.WalkSpells
import Derived.WalkLawsBesides
import Derived.RowKit3
import Derived.Laws.Externs
namespace Go.Proofs.Ytiobojdkjnaolac
open Go.RowKit

theorem hide {p : Prop} (h : p) : Hid p := h

/-- A word. -/
def Word (x : Int) : Prop := 0 ≤ x ∧ x < 18446744073709551616

theorem word_of_wf {x : Int} (h : (Lit.int .u64 x).wf = true) : Word x := by
  simp [Lit.wf, IntKind.min, IntKind.max, IntKind.signed, IntKind.bits] at h
  exact ⟨by omega, by omega⟩
theorem word_lit {n : Int} (h0 : 0 ≤ n) (h1 : n < 18446744073709551616) : Word n := ⟨h0, h1⟩
theorem int_of_wf {x : Int} (h : (Lit.int .i64 x).wf = true) : -9223372036854775808 ≤ x ∧ x ≤ 9223372036854775807 := by
  simp [Lit.wf, IntKind.min, IntKind.max, IntKind.signed, IntKind.bits] at h
  exact ⟨by omega, by omega⟩

theorem ret_u64 {k : IntKind} {a b : Int} (h : a = b) : Ending.returned (.int k a) = .returned (.int k b) := by rw [h]
theorem ret_bool {a b : Bool} (h : a = b) : Ending.returned (.bool a) = .returned (.bool b) := by rw [h]
theorem ret_two {k j : IntKind} {a b c d : Int} (h : a = b) (h' : c = d) : Ending.returned (.tuple #[.int k a, .int j c]) = .returned (.tuple #[.int k b, .int j d]) := by rw [h, h']
theorem grown_trans {a b c : World} (h : Grown a b) (k : Grown b c) : Grown a c :=
  ⟨World.keptBut_trans h.1 k.1, fun x => (k.2.1 x).trans (h.2.1 x), Nat.le_trans h.2.2 k.2.2⟩
theorem grown_drewN {a b : World} (h : Grown a b) (n : Nat) : Grown a (b.drewN n) := h

theorem run_bits (b : Nat) (w : World) : (callFunc 14 #[.float .f64 b]).run Try.prog w = .ok (.value (.int .u64 b)) w := by
  rw [run_callFunc_extern Try.func14 (by kernel_rfl) (by kernel_rfl) (by kernel_rfl) (e := Extern.MathFloatBits.float64bits) (by kernel_rfl)]
  rfl
theorem run_frombits (x : Int) (w : World) : (callFunc 8 #[.int .u64 x]).run Try.prog w = .ok (.value (.float .f64 x.toNat)) w := by
  rw [run_callFunc_extern Try.func8 (by kernel_rfl) (by kernel_rfl) (by kernel_rfl) (e := Extern.MathFloatBits.float64frombits) (by kernel_rfl)]
  rfl
attribute [local go_sem] run_bits run_frombits

theorem isnan_any (b : Nat) (h : b < 18446744073709551616) (w : World) :
    Calls Try.prog 9 #[.float .f64 b] w fun e w' => e = .returned (.bool (Fl.nanB b)) ∧ w' = w := by
  have H : Hid ((FloatKind.f64.format.order b b == some .eq) = !Fl.nanB b) := by
    show _ = _
    rw [Fl.order_eq h h]; simp
  go_enter Try.func9, Try.ntmps9
  go_wp2
  go_ret
  exact ⟨ret_bool (by rw [bne, H.out, Bool.not_not]), rfl⟩

theorem ret_float {a b : Nat} (h : a = b) : Ending.returned (.float .f64 a) = .returned (.float .f64 b) := by rw [h]

theorem abs_any (b : Nat) (h : b < 18446744073709551616) (w : World) :
    Calls Try.prog 12 #[.float .f64 b] w fun e w' => e = .returned (.float .f64 (Fl.rg b)) ∧ w' = w := by
  have H : Hid ((bits .andNot .u64 (b : Int) 9223372036854775808).toNat = Fl.rg b) := by
    show _ = _
    rw [Fl.andnot_sign (by omega) (by omega)]; unfold Fl.rg; omega
  go_enter Try.func12, Try.ntmps12
  go_wp2
  go_ret
  exact ⟨ret_float H.out, rfl⟩

theorem isinf_any (b : Nat) (h : b < 18446744073709551616) (w : World) :
    Calls Try.prog 10 #[.float .f64 b, .int .i64 1] w fun e w' => e = .returned (.bool (decide (b = 9218868437227405312))) ∧ w' = w := by
  have H : Hid ((FloatKind.f64.format.order b 9218868437227405311 == some .gt) = decide (b = 9218868437227405312)) := by
    show _ = _
    rw [Fl.order_gt h (by omega)]
    unfold Fl.nanB Fl.val Fl.rg
    by_cases k : b = 9218868437227405312
    · subst k; decide
    · rw [decide_eq_false k]
      by_cases n : 9218868437227405312 < b % 9223372036854775808
      · rw [decide_eq_true n]; rfl
      · have : ¬ ((if 9223372036854775808 ≤ 9218868437227405311 then -((9218868437227405311 % 9223372036854775808 : Nat) : Int) else ((9218868437227405311 % 9223372036854775808 : Nat) : Int)) < if 9223372036854775808 ≤ b then -((b % 9223372036854775808 : Nat) : Int) else ((b % 9223372036854775808 : Nat) : Int)) := by
          split <;> split <;> omega
        rw [decide_eq_false this]; simp
  go_enter Try.func10, Try.ntmps10
  go_wp2
  go_ret
  exact ⟨ret_bool H.out, rfl⟩

theorem signbit_any (b : Nat) (h : b < 18446744073709551616) (w : World) :
    Calls Try.prog 19 #[.float .f64 b] w fun e w' => e = .returned (.bool (Fl.ng b)) ∧ w' = w := by
  have H : Hid (decide (wrap64 (b : Int) < 0) = Fl.ng b) := by
    show _ = _
    unfold wrap64 Fl.ng
    by_cases k : 9223372036854775808 ≤ b
    · rw [decide_eq_true k]; exact decide_eq_true (by omega)
    · rw [decide_eq_false k]; exact decide_eq_false (by omega)
  go_enter Try.func19, Try.ntmps19
  go_wp2
  go_ret
  exact ⟨ret_bool H.out, rfl⟩

theorem nan_any (w : World) :
    Calls Try.prog 16 #[] w fun e w' => e = .returned (.float .f64 9221120237041090561) ∧ w' = w := by
  go_enter Try.func16, Try.ntmps16
  go_wp2
  go_ret
  exact ⟨rfl, rfl⟩
end Go.Proofs.Ytiobojdkjnaolac
