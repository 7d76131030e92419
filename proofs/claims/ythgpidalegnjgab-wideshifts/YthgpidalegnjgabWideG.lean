/-
  That the document's examples for package wide hold: a contract, for every world; of what was there nothing turns.
  Conditions: none.
-/
import Derived.Test.YthgpidalegnjgabWideC
namespace Go.Proofs.Ythgpidalegnjgab
open Go.RowKit

theorem word_lit {n : Int} (h0 : 0 ≤ n) (h1 : n < 18446744073709551616) : Word n := ⟨h0, h1⟩

set_option maxHeartbeats 400000 in
theorem awake_any (w : World) :
    Calls Try.prog 9 #[] w fun e w' => e = .returned (.bool true) ∧ Grown w w' := by
  have x1 : hiS 9223372036854775808 4 = 2 := by unfold hiS; decide
  have x2 : loS 9223372036854775808 4 = 0 := by unfold loS; decide
  have x3 : floorV 10 10 3 = 33 := by unfold floorV divQ quoS hiS loS; decide
  have x4 : floorB 10 10 3 = true := by unfold floorB divB hiS; decide
  have x5 : divB 1 1 = false := by unfold divB; decide
  have x6 : addS 18446744073709551615 1 = 18446744073709551615 := by unfold addS; decide
  have A := hide (fun w => full_any 9223372036854775808 4 (word_lit (by omega) (by omega)) (word_lit (by omega) (by omega)) w)
  have B := hide (fun w => floor_any 10 10 3 (word_lit (by omega) (by omega)) (word_lit (by omega) (by omega)) (word_lit (by omega) (by omega)) w)
  have C := hide (fun w => div_any 1 0 1 (word_lit (by omega) (by omega)) (word_lit (by omega) (by omega)) (word_lit (by omega) (by omega)) w)
  have D := hide (fun w => add_any 18446744073709551615 1 (word_lit (by omega) (by omega)) (word_lit (by omega) (by omega)) w)
  rw [x1, x2] at A
  rw [x3, x4] at B
  rw [x5] at C
  rw [x6] at D
  clear x1 x2 x3 x4 x5 x6
  go_enter Try.func9, Try.ntmps9
  go_wp2_with (first
    | (go_at_call 10; refine (A.out _).mono ?_; rintro e w1 ⟨rfl, hg1⟩)
    | (go_at_call 11; refine (B.out _).mono ?_; rintro e w2 ⟨rfl, hg2⟩)
    | (go_at_call 8; refine (C.out _).mono ?_; rintro e w3 ⟨rfl, hg3⟩)
    | (go_at_call 17; refine (D.out _).mono ?_; rintro e w4 ⟨rfl, rfl⟩))
  go_ret
  exact ⟨rfl, grown_trans (grown_trans hg1 hg2) hg3⟩
end Go.Proofs.Ythgpidalegnjgab
