/-
  What flo.From comes to at any word, and the document's own answer From (bit by bit): contracts, for every world; they change nothing.
  Conditions: the argument is a word (0 to 2^64 - 1).
-/
import Derived.Test.YtiobojdkjnaolabFloE
namespace Go.Proofs.Ytiobojdkjnaolab
open Go.RowKit
attribute [local go_sem] run_bits run_frombits

/-- The float nearest to a word. -/
def fromS (v : Int) : Int := (Fl.fr v.toNat : Nat)
theorem fromS_bounds {v : Int} (h : Word v) : 0 ≤ fromS v ∧ fromS v < 9218868437227405312 := by
  obtain ⟨h0, h1⟩ := h
  have := Fl.fr_lt (v := v.toNat) (by omega)
  unfold fromS; omega
theorem near_eq {v : Int} (h : Word v) : ((floatOfInt .f64 v : Nat) : Int) = fromS v := by
  obtain ⟨h0, h1⟩ := h
  unfold fromS
  have e : floatOfInt .f64 v = Ieee.double.nearest (decide (v < 0)) v.natAbs 0 := rfl
  rw [e, decide_eq_false (by omega), show v.natAbs = v.toNat by omega, Fl.nearest_fr (by omega)]

theorem from_any (v : Int) (h : Word v) (w : World) :
    Calls Try.prog 19 #[.int .u64 v] w fun e w' => e = .returned (.int .u64 (fromS v)) ∧ w' = w := by
  have F := hide (near_eq h)
  go_enter Try.func19, Try.ntmps19
  go_wp2
  go_ret
  exact ⟨ret_u64 F.out, rfl⟩
end Go.Proofs.Ytiobojdkjnaolab
