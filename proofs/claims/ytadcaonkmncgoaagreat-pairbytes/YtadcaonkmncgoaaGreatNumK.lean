/-
  The laws' own copy of a list of numbers (Nums): a contract, for every world.
  Conditions: the slice shows its numbers.
-/
import Derived.Test.YtadcaonkmncgoaaGreatKmvAz
import Derived.Laws.AppendOwnNone

namespace Go.Proofs.YtadcaonkmncgoaaGreat
open Go.RowKit
set_option maxRecDepth 20000

theorem numsK_any (a : Option Addr) (n cap : Nat) (zs : List Int) (w : World) (hr : Row .u64 w a n zs) (hc : a = none → cap = 0) (hn : n * 8 ≤ 140737488355328) :
    Calls Tryz.prog 21 #[.slice a n cap] w fun e w' => ∃ a' cap', e = .returned (.slice a' n cap') ∧ OwnU w' w.heap.size a' n cap' zs ∧ Below w.heap.size w w' := by
  obtain ⟨i0, hi0⟩ := info_parts Tryz.infoU
  have HI := hide hi0
  have HR := hide hr
  clear hr hi0
  go_enter Tryz.func21, Tryz.ntmps21
  go_wp2_with (at_builtin; refine wpList_append_words _ rfl _ _ 23 rfl w.heap.size 24 i0 Tryz.underlying23 HI.out.1 HI.out.2.1 HI.out.2.2.1 HI.out.2.2.2 none 0 0 [] rfl (own_nil _ _ _ _) a n cap zs rfl HR.out hc (by omega) (Nat.le_refl _) ?_)
  intro a2 c2 w2 o2 b2
  try rw [Nat.zero_add] at o2
  try rw [List.nil_append] at o2
  try rw [Nat.zero_add]
  have O2 := hide o2
  have B2 := hide b2
  clear o2 b2
  go_wp2
  go_ret
  exact ⟨a2, c2, rfl, O2.out, B2.out⟩
end Go.Proofs.YtadcaonkmncgoaaGreat
