/-
  The program's own hist.Check: whether buckets may be: its contract, for every world.
  Conditions: the slice shows its buckets.
-/
import Derived.Test.YtjngpdhhkkambabHistAa
import Derived.Test.YtjngpdhhkkambabHistB
namespace Go.Proofs.Ytjngpdhhkkambab
open Go.RowKit

set_option maxHeartbeats 4000000 in
theorem check_any (a : Option Addr) (n cap : Nat) (l : Bks) (w : World) (hr : RowB w a n l) :
    Calls Try.prog 37 #[.slice a n cap] w fun e w' => e = .returned (.bool (checkS l)) ∧ Below w.heap.size w w' := by
  have HR := hide hr
  have HL := hide hr.1
  have hn := hr.2.1
  clear hr
  go_enter Try.func37, Try.ntmps37
  go_wp2
  go_loopw [3, 8] (fun p i wr => ∃ k : Nat, k ≤ n ∧ i = .int .i64 k ∧ p = .int .i64 (lastD (-1) (l.take k)) ∧ Hid (checkF (-1) (l.take k) = true) ∧ Hid (Below w.heap.size w wr)) (fun _ i _ => n - (intOf i).toNat)
  case atStart => exact ⟨0, by omega, rfl, rfl, rfl, Below.refl _ _⟩
  case round =>
    obtain ⟨k, hk, rfl, rfl, HT, HW⟩ := hrel
    by_cases hlt : k < n
    · obtain ⟨b, off, rfl, hcc⟩ := HR.out.at' hlt
      obtain ⟨f0, f1⟩ := hcc wr HW.out
      have HFit := hide (getD_fit HR.out.2.2.1 k)
      have i1 : (0 : Int) ≤ (k : Int) := by omega
      have i2 : (k : Int) < (n : Int) := by omega
      have HC2 : Hid (∀ (x y : Int), l.getD k (0, 0) = (x, y) → checkF (-1) (l.take (k + 1)) = decide (lastD (-1) (l.take k) < x ∧ x ≤ 7423 ∧ 0 < y) ∧ lastD (-1) (l.take (k + 1)) = x) := by
        intro x y hxy
        rw [take_bks (l := l) (k := k) (by rw [HL.out]; exact hlt), hxy, checkF_snoc, HT.out, Bool.true_and, lastD_snoc]
        exact ⟨rfl, rfl⟩
      have hge := (checkF_lastD HT.out).1
      have HD : Hid (checkF (-1) (l.take (k + 1)) = false → checkS l = false) := fun h => checkF_prefix (k + 1) h
      clear hcc
      generalize l.getD k (0, 0) = x at *
      obtain ⟨x, y⟩ := x
      simp only at f0 f1
      have hw := u64_of_wf HFit.out.2
      have y0 := hw.1
      simp only at y0
      have HCK := hide (HC2.out x y rfl).1
      have HLA := hide (HC2.out x y rfl).2
      clear HC2 hw HFit
      generalize lastD (-1) (l.take k) = L at *
      clear HT
      by_cases c1 : x < 0 ∨ 7424 ≤ x
      · have I2 := hide (fun w => isb_out x w c1)
        have HF : Hid (checkS l = false) := HD.out (by rw [HCK.out]; simp only [decide_eq_false_iff_not]; omega)
        clear HCK HD c1
        go_wp2_with fail
        refine (I2.out _).mono ?_
        rintro e w' ⟨rfl, rfl⟩
        go_wp2
        go_ret
        rw [HF.out]
        refine ⟨rfl, ?_⟩
        exact bel_al HW.out (Nat.le_refl _) _
      have I1 := hide (fun w => isb_in x w (by omega) (by omega))
      by_cases c2 : x ≤ L
      · have HF : Hid (checkS l = false) := HD.out (by rw [HCK.out]; simp only [decide_eq_false_iff_not]; omega)
        clear HCK HD
        go_wp2_with fail
        refine (I1.out _).mono ?_
        rintro e w' ⟨rfl, rfl⟩
        go_wp2
        go_ret
        rw [HF.out]
        refine ⟨rfl, ?_⟩
        exact bel_al HW.out (Nat.le_refl _) _
      by_cases c3 : y = 0
      · have d3 : (y == 0) = true := by simpa using c3
        have HF : Hid (checkS l = false) := HD.out (by rw [HCK.out]; simp only [decide_eq_false_iff_not]; omega)
        clear HCK HD c3
        go_wp2_with fail
        refine (I1.out _).mono ?_
        rintro e w' ⟨rfl, rfl⟩
        go_wp2
        go_ret
        rw [HF.out]
        refine ⟨rfl, ?_⟩
        exact bel_al HW.out (Nat.le_refl _) _
      have d3 : (y == 0) = false := by simpa using c3
      have HF : Hid (checkF (-1) (l.take (k + 1)) = true) := by
        show _ = _
        rw [HCK.out]; simp only [decide_eq_true_eq]; omega
      clear HCK HD
      go_wp2_with fail
      refine (I1.out _).mono ?_
      rintro e w' ⟨rfl, rfl⟩
      go_wp2
      go_roundw
      case rel => exact ⟨k + 1, by omega, by go_num, by rw [HLA.out], HF, bel_al HW.out (Nat.le_refl _) _⟩
      case measure => simp [intOf]; omega
    · have : k = n := by omega
      subst this
      have HE : Hid (checkS l = true) := by
        have := HT.out
        rw [List.take_of_length_le (by rw [HL.out]; omega)] at this
        exact this
      go_wp2
      go_ret
      rw [HE.out]
      exact ⟨rfl, HW.out⟩
end Go.Proofs.Ytjngpdhhkkambab
