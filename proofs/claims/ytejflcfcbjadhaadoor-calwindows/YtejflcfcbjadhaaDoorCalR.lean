/-
  What the document's Floor, Windows, Level, Coarsest and Check tell: contracts, for every world.
  Conditions: as each theorem says.
-/
import Derived.Test.YtejflcfcbjadhaaDoorCalM
namespace Go.Proofs.YtejflcfcbjadhaaDoor
open Go.RowKit
set_option maxRecDepth 20000

/-- A rest with a sign, and the one without. -/
theorem tmod_fix {a r : Int} (hr : 0 < r) : (a.tmod r < 0 ∧ a.tmod r + r = a % r ∧ 0 < a % r) ∨ (0 ≤ a.tmod r ∧ a.tmod r = a % r) := by
  have h1 := Int.emod_nonneg a (show r ≠ 0 by omega)
  have h2 := Int.emod_lt_of_pos a hr
  rw [Int.tmod_eq_emod]
  split
  · right
    omega
  · rename_i h
    left
    have h3 : a % r ≠ 0 := fun e => h (Or.inr (Int.dvd_of_emod_eq_zero e))
    omega
theorem tmod_zero (a : Int) {r : Int} (hr : 0 < r) : (a.tmod r == 0) = decide (a % r = 0) := by
  rw [Bool.eq_iff_iff, beq_iff_eq, decide_eq_true_eq]
  have h1 := Int.emod_lt_of_pos a hr
  have h0 := Int.emod_nonneg a (show r ≠ 0 by omega)
  rcases tmod_fix (a := a) hr with h | h <;> omega

set_option maxHeartbeats 4000000 in
theorem rfloor_any (a l : Int) (w : World) (h0 : -9223372036854775808 ≤ a) (h1 : a ≤ 9223372036854775807) :
    Calls Tryd.prog 15 #[.int .i64 a, .int .i64 l] w fun e w' => e = .returned (.int .i64 (floorC a l)) ∧ Below w.heap.size w w' := by
  rcases resC_cases l with e | e | e | e | e
  · rw [show floorC a l = a by unfold floorC; rw [if_pos e]]
    have RR := hide (rres_any l w)
    rw [e] at RR
    clear e
    go_enter Tryd.func15, Tryd.ntmps15
    go_wp2_with fail
    with_reducible refine RR.out.mono ?_
    rintro e u ⟨rfl, hu⟩
    rw [hu]
    clear hu RR
    go_wp2
    go_ret
    exact ⟨rfl, Below.refl _ _⟩
  · rw [show floorC a l = a by unfold floorC; rw [e, if_neg (by decide), if_neg (by omega)]; omega]
    have RR := hide (rres_any l w)
    rw [e] at RR
    have ht : a.tmod 1 = 0 := Int.tmod_one a
    have h4 : ¬ a < -9223372036854775808 := by omega
    clear e
    go_enter Tryd.func15, Tryd.ntmps15
    go_wp2_with fail
    with_reducible refine RR.out.mono ?_
    rintro e u ⟨rfl, hu⟩
    rw [hu]
    clear hu RR
    go_wp2
    go_ret
    exact ⟨by go_num, Below.refl _ _⟩
  · have HS : Hid (floorC a l = if a < -9223372036854775808 + a % 6 then a + (6 - a % 6) else a - a % 6) := by show _ = _; unfold floorC; rw [e, if_neg (by decide)]
    rw [HS.out]
    have RR := hide (rres_any l w)
    rw [e] at RR
    have hr := tmod_fix (a := a) (r := 6) (by decide)
    have hm0 : 0 ≤ a % 6 ∧ a % 6 < 6 := by omega
    have hm1 : a % 6 ≤ a + 9223372036854775808 ∨ a < -9223372036854775808 + a % 6 := by omega
    have hup : a < -9223372036854775808 + a % 6 → a + (6 - a % 6) ≤ 9223372036854775807 := by omega
    obtain ⟨t, ht⟩ : ∃ t, a.tmod 6 = t := ⟨_, rfl⟩
    rw [ht] at hr
    generalize a % 6 = k at *
    clear HS e
    rcases hr with ⟨h2, h3, h5⟩ | ⟨h2, h3⟩
    · by_cases h4 : a < -9223372036854775808 + k
      · rw [if_pos h4]
        go_enter Tryd.func15, Tryd.ntmps15
        go_wp2_with fail
        with_reducible refine RR.out.mono ?_
        rintro e u ⟨rfl, hu⟩
        rw [hu]
        clear hu RR
        go_wp2
        go_ret
        exact ⟨by go_num, Below.refl _ _⟩
      · rw [if_neg h4]
        go_enter Tryd.func15, Tryd.ntmps15
        go_wp2_with fail
        with_reducible refine RR.out.mono ?_
        rintro e u ⟨rfl, hu⟩
        rw [hu]
        clear hu RR
        go_wp2
        go_ret
        exact ⟨by go_num, Below.refl _ _⟩
    · subst h3
      have h2' : ¬ t < 0 := by omega
      by_cases h4 : a < -9223372036854775808 + t
      · rw [if_pos h4]
        go_enter Tryd.func15, Tryd.ntmps15
        go_wp2_with fail
        with_reducible refine RR.out.mono ?_
        rintro e u ⟨rfl, hu⟩
        rw [hu]
        clear hu RR
        go_wp2
        go_ret
        exact ⟨by go_num, Below.refl _ _⟩
      · rw [if_neg h4]
        go_enter Tryd.func15, Tryd.ntmps15
        go_wp2_with fail
        with_reducible refine RR.out.mono ?_
        rintro e u ⟨rfl, hu⟩
        rw [hu]
        clear hu RR
        go_wp2
        go_ret
        exact ⟨by go_num, Below.refl _ _⟩
  · have HS : Hid (floorC a l = if a < -9223372036854775808 + a % 360 then a + (360 - a % 360) else a - a % 360) := by show _ = _; unfold floorC; rw [e, if_neg (by decide)]
    rw [HS.out]
    have RR := hide (rres_any l w)
    rw [e] at RR
    have hr := tmod_fix (a := a) (r := 360) (by decide)
    have hm0 : 0 ≤ a % 360 ∧ a % 360 < 360 := by omega
    have hm1 : a % 360 ≤ a + 9223372036854775808 ∨ a < -9223372036854775808 + a % 360 := by omega
    have hup : a < -9223372036854775808 + a % 360 → a + (360 - a % 360) ≤ 9223372036854775807 := by omega
    obtain ⟨t, ht⟩ : ∃ t, a.tmod 360 = t := ⟨_, rfl⟩
    rw [ht] at hr
    generalize a % 360 = k at *
    clear HS e
    rcases hr with ⟨h2, h3, h5⟩ | ⟨h2, h3⟩
    · by_cases h4 : a < -9223372036854775808 + k
      · rw [if_pos h4]
        go_enter Tryd.func15, Tryd.ntmps15
        go_wp2_with fail
        with_reducible refine RR.out.mono ?_
        rintro e u ⟨rfl, hu⟩
        rw [hu]
        clear hu RR
        go_wp2
        go_ret
        exact ⟨by go_num, Below.refl _ _⟩
      · rw [if_neg h4]
        go_enter Tryd.func15, Tryd.ntmps15
        go_wp2_with fail
        with_reducible refine RR.out.mono ?_
        rintro e u ⟨rfl, hu⟩
        rw [hu]
        clear hu RR
        go_wp2
        go_ret
        exact ⟨by go_num, Below.refl _ _⟩
    · subst h3
      have h2' : ¬ t < 0 := by omega
      by_cases h4 : a < -9223372036854775808 + t
      · rw [if_pos h4]
        go_enter Tryd.func15, Tryd.ntmps15
        go_wp2_with fail
        with_reducible refine RR.out.mono ?_
        rintro e u ⟨rfl, hu⟩
        rw [hu]
        clear hu RR
        go_wp2
        go_ret
        exact ⟨by go_num, Below.refl _ _⟩
      · rw [if_neg h4]
        go_enter Tryd.func15, Tryd.ntmps15
        go_wp2_with fail
        with_reducible refine RR.out.mono ?_
        rintro e u ⟨rfl, hu⟩
        rw [hu]
        clear hu RR
        go_wp2
        go_ret
        exact ⟨by go_num, Below.refl _ _⟩
  · have HS : Hid (floorC a l = if a < -9223372036854775808 + a % 8640 then a + (8640 - a % 8640) else a - a % 8640) := by show _ = _; unfold floorC; rw [e, if_neg (by decide)]
    rw [HS.out]
    have RR := hide (rres_any l w)
    rw [e] at RR
    have hr := tmod_fix (a := a) (r := 8640) (by decide)
    have hm0 : 0 ≤ a % 8640 ∧ a % 8640 < 8640 := by omega
    have hm1 : a % 8640 ≤ a + 9223372036854775808 ∨ a < -9223372036854775808 + a % 8640 := by omega
    have hup : a < -9223372036854775808 + a % 8640 → a + (8640 - a % 8640) ≤ 9223372036854775807 := by omega
    obtain ⟨t, ht⟩ : ∃ t, a.tmod 8640 = t := ⟨_, rfl⟩
    rw [ht] at hr
    generalize a % 8640 = k at *
    clear HS e
    rcases hr with ⟨h2, h3, h5⟩ | ⟨h2, h3⟩
    · by_cases h4 : a < -9223372036854775808 + k
      · rw [if_pos h4]
        go_enter Tryd.func15, Tryd.ntmps15
        go_wp2_with fail
        with_reducible refine RR.out.mono ?_
        rintro e u ⟨rfl, hu⟩
        rw [hu]
        clear hu RR
        go_wp2
        go_ret
        exact ⟨by go_num, Below.refl _ _⟩
      · rw [if_neg h4]
        go_enter Tryd.func15, Tryd.ntmps15
        go_wp2_with fail
        with_reducible refine RR.out.mono ?_
        rintro e u ⟨rfl, hu⟩
        rw [hu]
        clear hu RR
        go_wp2
        go_ret
        exact ⟨by go_num, Below.refl _ _⟩
    · subst h3
      have h2' : ¬ t < 0 := by omega
      by_cases h4 : a < -9223372036854775808 + t
      · rw [if_pos h4]
        go_enter Tryd.func15, Tryd.ntmps15
        go_wp2_with fail
        with_reducible refine RR.out.mono ?_
        rintro e u ⟨rfl, hu⟩
        rw [hu]
        clear hu RR
        go_wp2
        go_ret
        exact ⟨by go_num, Below.refl _ _⟩
      · rw [if_neg h4]
        go_enter Tryd.func15, Tryd.ntmps15
        go_wp2_with fail
        with_reducible refine RR.out.mono ?_
        rintro e u ⟨rfl, hu⟩
        rw [hu]
        clear hu RR
        go_wp2
        go_ret
        exact ⟨by go_num, Below.refl _ _⟩
end Go.Proofs.YtejflcfcbjadhaaDoor
