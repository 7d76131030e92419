/-
  What the library's small functions on floats come to (is it no number, is it infinite, its sign, without its sign): contracts, for every world; they change nothing.
  Conditions: each argument is a float's 64 bits.
-/
import Derived.Test.YtnhjjdgdffjdcaaHideK
import Derived.Test.YtnhjjdgdffjdcaaRows
import Derived.Test.YtnhjjdgdffjdcaaFloL
import Derived.Test.YtnhjjdgdffjdcaaFloB
import Derived.WalkKit
import Derived.WalkSpells
import Derived.WalkLawsBesides
import Derived.RowKit3
import Derived.Laws.Externs
namespace Go.Proofs.Ytnhjjdgdffjdcaa
open Go.RowKit


theorem word_lit {n : Int} (h0 : 0 ≤ n) (h1 : n < 18446744073709551616) : Word n := ⟨h0, h1⟩
theorem ret_bool {a b : Bool} (h : a = b) : Ending.returned (.bool a) = .returned (.bool b) := by rw [h]
theorem grown_trans {a b c : World} (h : Grown a b) (k : Grown b c) : Grown a c :=
  ⟨World.keptBut_trans h.1 k.1, fun x => (k.2.1 x).trans (h.2.1 x), Nat.le_trans h.2.2 k.2.2⟩
theorem grown_drewN {a b : World} (h : Grown a b) (n : Nat) : Grown a (b.drewN n) := h

theorem run_bits (b : Nat) (w : World) : (callFunc 28 #[.float .f64 b]).run Try.prog w = .ok (.value (.int .u64 b)) w := by
  rw [run_callFunc_extern Try.func28 (by kernel_rfl) (by kernel_rfl) (by kernel_rfl) (e := Extern.MathFloatBits.float64bits) (by kernel_rfl)]
  rfl
theorem run_frombits (x : Int) (w : World) : (callFunc 21 #[.int .u64 x]).run Try.prog w = .ok (.value (.float .f64 x.toNat)) w := by
  rw [run_callFunc_extern Try.func21 (by kernel_rfl) (by kernel_rfl) (by kernel_rfl) (e := Extern.MathFloatBits.float64frombits) (by kernel_rfl)]
  rfl
attribute [local go_sem] run_bits run_frombits

theorem isnan_any (b : Nat) (h : b < 18446744073709551616) (w : World) :
    Calls Try.prog 22 #[.float .f64 b] w fun e w' => e = .returned (.bool (Fl.nanB b)) ∧ w' = w := by
  have H : Hid ((FloatKind.f64.format.order b b == some .eq) = !Fl.nanB b) := by
    show _ = _
    rw [Fl.order_eq h h]; simp
  go_enter Try.func22, Try.ntmps22
  go_wp2
  go_ret
  exact ⟨ret_bool (by rw [bne, H.out, Bool.not_not]), rfl⟩

theorem ret_float {a b : Nat} (h : a = b) : Ending.returned (.float .f64 a) = .returned (.float .f64 b) := by rw [h]

theorem signbit_any (b : Nat) (h : b < 18446744073709551616) (w : World) :
    Calls Try.prog 44 #[.float .f64 b] w fun e w' => e = .returned (.bool (Fl.ng b)) ∧ w' = w := by
  have H : Hid (decide (wrap64 (b : Int) < 0) = Fl.ng b) := by
    show _ = _
    unfold wrap64 Fl.ng
    by_cases k : 9223372036854775808 ≤ b
    · rw [decide_eq_true k]; exact decide_eq_true (by omega)
    · rw [decide_eq_false k]; exact decide_eq_false (by omega)
  go_enter Try.func44, Try.ntmps44
  go_wp2
  go_ret
  exact ⟨ret_bool H.out, rfl⟩

theorem nan_any (w : World) :
    Calls Try.prog 29 #[] w fun e w' => e = .returned (.float .f64 9221120237041090561) ∧ w' = w := by
  go_enter Try.func29, Try.ntmps29
  go_wp2
  go_ret
  exact ⟨rfl, rfl⟩
end Go.Proofs.Ytnhjjdgdffjdcaa
