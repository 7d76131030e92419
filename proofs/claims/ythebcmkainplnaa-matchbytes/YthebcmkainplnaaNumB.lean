/-
  A reader that is told to be bad stays so: a contract, for every world.
  Conditions: none.
-/
import Derived.Test.YthebcmkainplnaaBytB
import Derived.Deep.QuietTactic
import Derived.BigQuiet
namespace Go.Proofs.Ythebcmkainplnaa
open Go.RowKit
set_option maxRecDepth 20000

theorem Only.drewN {g : Nat} {a w : World} (h : Only g a w) (n : Nat) : Only g a (w.drewN n) := ⟨h.os, h.tape, h.output, h.size, h.block⟩
theorem RB.drewN {w : World} {g : Nat} {a : Option Addr} {n cap : Nat} {p : Int} {bad : Bool} (h : RB w g a n cap p bad) (j : Nat) : RB (w.drewN j) g a n cap p bad := h
theorem RB.lt' {w : World} {g : Nat} {a : Option Addr} {n cap : Nat} {p : Int} {bad : Bool} (h : RB w g a n cap p bad) : g < w.heap.size := by
  unfold RB at h
  exact (Array.getElem?_eq_some_iff.1 h).1

set_option maxHeartbeats 2000000 in
theorem numbad_any (g : Nat) (a : Option Addr) (n cap : Nat) (p : Int) (w : World) (hrb : RB w g a n cap p true) :
    Calls Try.prog 77 #[.pointer (some ⟨g, 0, none⟩)] w fun e w' => e = .returned (.int .u64 0) ∧ Only g w w' ∧ RB w' g a n cap p true := by
  obtain ⟨c0, c1, c2, cf⟩ := hrb.cell
  have cf2 := cf 2
  have RS := hide (fun j => (hrb.drewN j).spoil)
  have OS := hide (fun j => ((Only.refl g w).drewN j).setCell 2 (.bool true))
  clear cf hrb
  go_enter Try.func77, Try.ntmps77
  go_wp2
  go_loopw [3, 4] (fun x i wr => x = .int .u64 0 ∧ i = .int .i64 0 ∧ Hid (wr = w)) (fun _ _ _ => 0)
  case atStart => exact ⟨rfl, rfl, rfl⟩
  case round =>
    obtain ⟨rfl, rfl, HW⟩ := hrel
    have hW := HW.out
    subst hW
    clear HW
    go_wp2
    go_quiet (fail)
    go_wp2
    go_ret
    exact ⟨rfl, OS.out _, RS.out _⟩
end Go.Proofs.Ythebcmkainplnaa
