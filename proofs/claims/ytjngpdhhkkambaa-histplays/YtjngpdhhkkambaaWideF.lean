/-
  What the document's own answers Mul, Div, Floor, Ceil, Cmp come to: contracts, for every world; of what was there nothing turns.
  Conditions: each argument is a word (0 to 2^64 - 1).
-/
import Derived.Test.YtjngpdhhkkambaaWideE
namespace Go.Proofs.Ytjngpdhhkkambaa
open Go.RowKit
attribute [local go_sem] setCell_drewN alloc_drewN cell_drewN frozen_drewN

theorem refdiv_any (p q d : Int) (hp : Word p) (hq : Word q) (hd : Word d) (w : World) :
    Calls Try.prog 50 #[.int .u64 p, .int .u64 q, .int .u64 d] w fun e w' => e = .returned (.tuple #[.int .u64 (divQ p q d), .int .u64 (divR p q d), .bool (divB p d)]) ∧ w' = w := by
  by_cases h : p < d
  · refine (refdiv_yes p q d hp hq hd h w).mono ?_
    rintro e w' ⟨rfl, hg⟩
    exact ⟨ret_three (by unfold divQ; rw [if_pos h]) (by unfold divR; rw [if_pos h]) (by unfold divB; rw [decide_eq_true h]), hg⟩
  · refine (refdiv_no p q d hp hd (by omega) w).mono ?_
    rintro e w' ⟨rfl, hg⟩
    exact ⟨ret_three (by unfold divQ; rw [if_neg h]) (by unfold divR; rw [if_neg h]) (by unfold divB; rw [decide_eq_false h]), hg⟩

set_option maxHeartbeats 400000 in
theorem refceil_any (a b d : Int) (ha : Word a) (hb : Word b) (hd : Word d) (w : World) :
    Calls Try.prog 43 #[.int .u64 a, .int .u64 b, .int .u64 d] w fun e w' => e = .returned (.tuple #[.int .u64 (ceilV a b d), .bool (ceilB a b d)]) ∧ w' = w := by
  by_cases h : hiS a b < d
  · obtain ⟨⟨k1, k2⟩, k3, k4⟩ := quo_bounds (hiS_word ha hb) (loS_word a b) h
    have D := hide (fun w => refdiv_yes _ _ d (hiS_word ha hb) (loS_word a b) hd h w)
    by_cases hr : remS (hiS a b) (loS a b) d = 0
    · have F1 : Hid (ceilV a b d = quoS (hiS a b) (loS a b) d) := by show _ = _; unfold ceilV; rw [if_pos ⟨h, Or.inl hr⟩, if_pos hr]
      have F2 : Hid (ceilB a b d = true) := by show _ = _; unfold ceilB; rw [decide_eq_true ⟨h, Or.inl hr⟩]
      rw [hr] at D
      clear hr k3 k4
      go_enter Try.func43, Try.ntmps43
      go_wp2_with (first
        | (go_at_call 49; refine (reffull_any a b ha hb _).mono ?_; rintro e w' ⟨rfl, rfl⟩)
        | (go_at_call 50; refine (D.out _).mono ?_; rintro e w' ⟨rfl, rfl⟩))
      go_ret2
      exact ⟨ret_flag F1.out.symm F2.out.symm, rfl⟩
    · by_cases hq : quoS (hiS a b) (loS a b) d < 18446744073709551615
      · have F1 : Hid (ceilV a b d = quoS (hiS a b) (loS a b) d + 1) := by show _ = _; unfold ceilV; rw [if_pos ⟨h, Or.inr hq⟩, if_neg hr]
        have F2 : Hid (ceilB a b d = true) := by show _ = _; unfold ceilB; rw [decide_eq_true ⟨h, Or.inr hq⟩]
        have e1 : decide (0 < remS (hiS a b) (loS a b) d) = true := by simp; omega
        have e2 : (quoS (hiS a b) (loS a b) d == 18446744073709551615) = false := beq_eq_false_iff_ne.2 (by omega)
        clear hr k3 k4
        go_enter Try.func43, Try.ntmps43
        go_wp2_with (first
          | (go_at_call 49; refine (reffull_any a b ha hb _).mono ?_; rintro e w' ⟨rfl, rfl⟩)
          | (go_at_call 50; refine (D.out _).mono ?_; rintro e w' ⟨rfl, rfl⟩))
        go_ret2
        exact ⟨ret_flag F1.out.symm F2.out.symm, rfl⟩
      · have hn : ¬ (hiS a b < d ∧ (remS (hiS a b) (loS a b) d = 0 ∨ quoS (hiS a b) (loS a b) d < 18446744073709551615)) := by
          rintro ⟨_, k | k⟩
          · exact hr k
          · exact hq k
        have F1 : Hid (ceilV a b d = 0) := by show _ = _; unfold ceilV; rw [if_neg hn]
        have F2 : Hid (ceilB a b d = false) := by show _ = _; unfold ceilB; rw [decide_eq_false hn]
        have e1 : decide (0 < remS (hiS a b) (loS a b) d) = true := by simp; omega
        have e2 : (quoS (hiS a b) (loS a b) d == 18446744073709551615) = true := beq_iff_eq.2 (by omega)
        clear hr k3 k4 hn
        go_enter Try.func43, Try.ntmps43
        go_wp2_with (first
          | (go_at_call 49; refine (reffull_any a b ha hb _).mono ?_; rintro e w' ⟨rfl, rfl⟩)
          | (go_at_call 50; refine (D.out _).mono ?_; rintro e w' ⟨rfl, rfl⟩))
        go_ret2
        exact ⟨ret_flag F1.out.symm F2.out.symm, rfl⟩
  · have hn : ¬ (hiS a b < d ∧ (remS (hiS a b) (loS a b) d = 0 ∨ quoS (hiS a b) (loS a b) d < 18446744073709551615)) := fun k => h k.1
    have F1 : Hid (ceilV a b d = 0) := by show _ = _; unfold ceilV; rw [if_neg hn]
    have F2 : Hid (ceilB a b d = false) := by show _ = _; unfold ceilB; rw [decide_eq_false hn]
    clear hn
    go_enter Try.func43, Try.ntmps43
    go_wp2_with (first
      | (go_at_call 49; refine (reffull_any a b ha hb _).mono ?_; rintro e w' ⟨rfl, rfl⟩)
      | (go_at_call 50; refine (refdiv_no _ _ d (hiS_word ha hb) hd (by omega) _).mono ?_; rintro e w' ⟨rfl, rfl⟩))
    go_ret2
    exact ⟨ret_flag F1.out.symm F2.out.symm, rfl⟩

end Go.Proofs.Ytjngpdhhkkambaa
