/-
  A reader that is told to be bad stays so: contracts, for every world.
  Conditions: none.
-/
import Derived.Test.YtjngpdhhkkambabCountO
import Derived.Test.YtjngpdhhkkambabChK
import Derived.Deep.QuietTactic
import Derived.BigQuiet
namespace Go.Proofs.Ytjngpdhhkkambab
open Go.RowKit

theorem Only.ch {g : Nat} {w w' : World} (h : Only g w w') : Ch (fun k => k = g) w w' := ⟨h.os, h.tape, h.output, by rw [h.size]; exact Nat.le_refl _, fun k _ hn => h.block k hn⟩
theorem Only.drewN {g : Nat} {a w : World} (h : Only g a w) (n : Nat) : Only g a (w.drewN n) := ⟨h.os, h.tape, h.output, h.size, h.block⟩
theorem RB.drewN {w : World} {g : Nat} {a : Option Addr} {n cap : Nat} {p : Int} {bad : Bool} (h : RB w g a n cap p bad) (j : Nat) : RB (w.drewN j) g a n cap p bad := h
theorem RB.lt' {w : World} {g : Nat} {a : Option Addr} {n cap : Nat} {p : Int} {bad : Bool} (h : RB w g a n cap p bad) : g < w.heap.size := by
  unfold RB at h
  exact (Array.getElem?_eq_some_iff.1 h).1

set_option maxHeartbeats 2000000 in
theorem numbad_any (g : Nat) (a : Option Addr) (n cap : Nat) (p : Int) (w : World) (hrb : RB w g a n cap p true) :
    Calls Try.prog 40 #[.pointer (some ⟨g, 0, none⟩)] w fun e w' => e = .returned (.int .u64 0) ∧ Only g w w' ∧ RB w' g a n cap p true := by
  obtain ⟨c0, c1, c2, cf⟩ := hrb.cell
  have cf2 := cf 2
  have RS := hide (fun j => (hrb.drewN j).spoil)
  have OS := hide (fun j => ((Only.refl g w).drewN j).setCell 2 (.bool true))
  clear cf hrb
  go_enter Try.func40, Try.ntmps40
  go_wp2
  go_loopw [3, 4] (fun x i wr => x = .int .u64 0 ∧ i = .int .i64 0 ∧ Hid (wr = w)) (fun _ _ _ => 0)
  case atStart => exact ⟨rfl, rfl, rfl⟩
  case round =>
    obtain ⟨rfl, rfl, HW⟩ := hrel
    have hW := HW.out
    subst hW
    clear HW
    go_wp2
    go_quiet (fail)
    go_wp2
    go_ret
    exact ⟨rfl, OS.out _, RS.out _⟩

set_option maxHeartbeats 2000000 in
theorem countbad_any (g : Nat) (a : Option Addr) (n cap : Nat) (p most : Int) (w : World) (hrb : RB w g a n cap p true) :
    Calls Try.prog 41 #[.pointer (some ⟨g, 0, none⟩), .int .i64 most] w fun e w' => e = .returned (.int .i64 0) ∧ Only g w w' ∧ RB w' g a n cap p true := by
  have N := hide (numbad_any g a n cap p w hrb)
  clear hrb
  go_enter Try.func41, Try.ntmps41
  go_wp2_with fail
  refine N.out.mono ?_
  rintro e x ⟨rfl, k, hrb⟩
  obtain ⟨_, _, d2, df⟩ := hrb.cell
  have df2 := df 2
  have RS := hide hrb.drew.spoil
  have OS := hide (k.drew.setCell 2 (.bool true))
  clear df k hrb N
  go_wp2
  go_region
  go_wp2
  go_ret
  exact ⟨rfl, OS.out, RS.out⟩
end Go.Proofs.Ytjngpdhhkkambab
