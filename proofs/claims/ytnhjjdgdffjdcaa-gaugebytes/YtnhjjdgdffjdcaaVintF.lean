/-
  The laws' own copy of bytes in new memory: a contract, for every world.
  Conditions: the slice shows its bytes, no more than 2^47.
-/
import Derived.Test.YtnhjjdgdffjdcaaVintB
import Derived.Laws.AppendOwnNone
namespace Go.Proofs.Ytnhjjdgdffjdcaa
open Go.RowKit

set_option maxHeartbeats 400000 in
theorem bytes_any (a : Option Addr) (n cap : Nat) (zs : List Int) (w : World) (hr : Row .u8 w a n zs) (hc : a = none → cap = 0) (hn : n ≤ 140737488355328) :
    Calls Try.prog 17 #[.slice a n cap] w fun e w' => ∃ a' cap', e = .returned (.slice a' n cap') ∧ Mine w' w.heap.size a' n cap' zs ∧ Below w.heap.size w w' := by
  obtain ⟨i0, hi, hz0, hz1, hz2⟩ := info_parts Try.info5
  have hl := hr.1
  have HF : Hid (∀ (v' : Value) (w' : World), w'.ownsRow w.heap.size 5 1 v' n (zs.map (Value.int .u8)) → w.grownBy w' (Value.slice none 0 0).ownBlock →
      (∃ a' cap', v' = .slice a' n cap' ∧ Mine w' w.heap.size a' n cap' zs ∧ Below w.heap.size w w')) := by
    intro v' w' h1 h2
    obtain ⟨a', cap', rfl, ho⟩ := own_form h1
    exact ⟨a', cap', rfl, ho, (Below.refl _ _).grown h2 (Nat.le_refl _) (fun k hk => by simp [Value.ownBlock] at hk)⟩
  cases a with
  | none =>
    obtain rfl := hc rfl
    have h0 := hr.nz rfl
    subst h0
    have hz : zs = [] := List.length_eq_zero_iff.1 hl
    subst hz
    clear HF
    go_enter Try.func17, Try.ntmps17
    go_wp2_with (at_builtin; refine wpList_append_own_none rfl _ _ 33 rfl w.heap.size 5 i0 1 Try.underlying33 hi _ 0 [] rfl (World.ownsRow_nil _ _ _ _) rfl ?_)
    go_ret
    exact ⟨none, 0, rfl, World.ownsRow_nil _ _ _ _, Below.refl _ _⟩
  | some ad =>
    have HN := hide hr.cells
    clear hr
    go_enter Try.func17, Try.ntmps17
    go_wp2_with (at_builtin; refine wpList_append_own _ rfl _ _ 33 rfl w.heap.size 5 i0 (.int .u8 0) 1 1 Try.underlying33 hi hz0 hz1 hz2 rfl (by decide) _ 0 [] rfl (World.ownsRow_nil _ _ _ _) ad n cap (zs.map (Value.int .u8)) rfl (by simp [hl]) HN.out (one_cell .u8 zs) (by unfold maxLen; omega) (by omega) (Nat.le_refl _) ?_)
    intro v' w' h1 h2 _
    obtain ⟨a', cap', rfl, h3, h4⟩ := HF.out v' w' h1 h2
    have H3 := hide h3
    clear h1 h2 h3 HF HN
    go_wp2
    go_ret
    exact ⟨a', cap', rfl, H3, h4⟩
end Go.Proofs.Ytnhjjdgdffjdcaa
