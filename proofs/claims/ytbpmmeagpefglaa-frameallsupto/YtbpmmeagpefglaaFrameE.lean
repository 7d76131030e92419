/-
  The document's examples of layer 5 (the law's own 'awake'): a contract, for every world.
  Conditions: none.
-/
import Derived.Test.YtbpmmeagpefglaaFrameC
import Derived.Test.YtbpmmeagpefglaaFrameJ
import Derived.Lib.SlBytesConst
namespace Go.Proofs.Ytbpmmeagpefglaa
open Go.RowKit

def oneA : Obj := .cells #[.int .u8 97] 5 (1, 2)
theorem oneA_row (w : World) : Row .u8 (w.alloc oneA) (some ⟨w.heap.size, 0, none⟩) 1 [97] := by
  refine ⟨rfl, by omega, by decide, Or.inr ⟨w.heap.size, 0, rfl, fun i hi => ?_⟩⟩
  have : i = 0 := by omega
  subst this
  unfold oneA
  rw [World.cell?_alloc_mark]
  rfl
def six : List Int := [1, 48, 67, 208, 193, 97]
theorem ex_frame : frameS [97] = six := by decide +kernel
theorem ex_find : findS six 0 = some (5, 1) := by decide +kernel
theorem ex_ends : endS six = 6 := by decide +kernel
theorem ex_str : strOfNums [97] = ⟨#[97]⟩ := by decide

set_option maxHeartbeats 2000000 in
set_option maxRecDepth 100000 in
theorem awake_any (w : World) :
    Calls Try.prog 16 #[] w fun e w' => e = .returned (.bool true) ∧ Below w.heap.size w w' := by
  have hcv := Lib.run_convert_bytes_const (P := Try.prog) w 25 5 #[.int .u8 97] 1 1 Try.underlying25 Try.underlying5
  have P := hide (put_frame none 0 0 [] (some ⟨w.heap.size, 0, none⟩) 1 1 [97] (w.alloc oneA) (nil_row .u8 _ none) (oneA_row w) (by omega) (by omega) (by omega))
  rw [ex_frame, List.nil_append, show 0 + six.length = 6 from rfl] at P
  have H8 : Hid (Bytes8 six) := by show ∀ z ∈ six, _; decide
  go_enter Try.func16, Try.ntmps16
  go_wp2_with fail
  refine P.out.mono ?_
  rintro e w1 ⟨a1, c1, rfl, o1, k1⟩
  have R1 := hide (o1.row8 (by omega) H8.out)
  have hc1 := o1.capped.1
  have K1 : Hid (Below w.heap.size w w1) := bel_to (bel_al (Below.refl _ _) (Nat.le_refl _) _) (Nat.le_refl _) k1
  clear o1 k1 P hcv
  have G := hide (getframe_some 0 a1 6 c1 six w1 (by decide) hc1 R1.out 5 1 ex_find)
  go_wp2_with fail
  refine G.out.mono ?_
  rintro e w2 ⟨a2, c2, rfl, o2, k2⟩
  have hs2 : (convert 25 9 (.slice a2 1 c2)).run Try.prog w2 = _ := mine_string o2 (by decide) (by show ∀ z ∈ (six.drop 5).take 1, _; decide)
  have O2 := hide o2
  have K2 : Hid (Below w.heap.size w w2) := bel_to K1.out (Nat.le_refl _) k2
  have R2 := hide (R1.out.below k2 (Nat.le_refl _))
  clear o2 k2 hs2 G R1 K1
  have E := hide (ends_any a1 6 c1 six w2 hc1 R2.out)
  rw [ex_ends] at E
  go_wp2_with fail
  refine E.out.mono ?_
  rintro e w3 ⟨rfl, k3⟩
  have R3 := hide (R2.out.below k3 (Nat.le_refl _))
  have hs3 : (convert 25 9 (.slice a2 1 c2)).run Try.prog w3 = .ok (.string (strOfNums [97])) w3 := mine_string (O2.out.below k3 (Nat.le_refl _)) (by decide) (by show ∀ z ∈ (six.drop 5).take 1, _; decide)
  rw [ex_str] at hs3
  have K3 : Hid (Below w.heap.size w w3) := bel_to K2.out (Nat.le_refl _) k3
  obtain ⟨_, _, _, h0 | ⟨b, off, rfl, hcell⟩⟩ := R3.out
  · omega
  have hc0 : w3.cell? ⟨b, off + 0, none⟩ = some (.int .u8 1) := hcell 0 (by omega)
  rw [Nat.add_zero] at hc0
  clear hcell E k3 R2 K2 O2
  go_wp2
  go_ret
  exact ⟨rfl, K3⟩
end Go.Proofs.Ytbpmmeagpefglaa
