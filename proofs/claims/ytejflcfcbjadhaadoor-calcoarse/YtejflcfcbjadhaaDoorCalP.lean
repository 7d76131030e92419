/-
  Statement CalCoarse over what is asked: a contract, for every world.
  Conditions: cal does what is asked.
-/
import Derived.Test.YtejflcfcbjadhaaDoorCalI
import Derived.Test.YtejflcfcbjadhaaDoorCalT
namespace Go.Proofs.YtejflcfcbjadhaaDoor
open Go.RowKit
set_option maxRecDepth 20000

theorem tmod_ne (a : Int) {r : Int} (hr : 0 < r) : (a.tmod r != 0) = !decide (a % r = 0) := by
  rw [bne, tmod_zero a hr]

set_option maxHeartbeats 8000000 in
theorem coarse_of (A : CaCoa) (R : CaRes) (H : CaHor) (L : CaLev) (s t : Int) (w : World) (tb : TbW w) (hs : (Lit.int .i64 s).wf = true) (ht : (Lit.int .i64 t).wf = true) :
    Calls Tryd.prog 7 #[.int .i64 s, .int .i64 t] w fun e w' => e = .returned (.bool true) ∧ Below w.heap.size w w' := by
  have T1 := hide (A.coa s t w tb hs ht)
  have T2 := hide (fun u => rcoa_any s t u)
  have TA := hide (fun u b => awakeC_of R H L u (tb.bel b))
  have TR : Hid (∀ (k : Nat) (u : World), Below w.heap.size w u → k ≤ 3 → Calls Tryd.prog 11 #[.int .i64 (k : Int)] u fun e w' => e = .returned (.int .i64 (resC (k : Int))) ∧ Below u.heap.size u w') := fun k u b hk => R.res k u (tb.bel b) (wf64 (by omega) (by omega))
  have RP : Hid (∀ k : Nat, k ≤ 3 → 1 ≤ resC (k : Int) ∧ resC (k : Int) ≤ 8640) := fun k hk => by
    have : k = 0 ∨ k = 1 ∨ k = 2 ∨ k = 3 := by omega
    rcases this with rfl | rfl | rfl | rfl <;> decide
  obtain ⟨c0, c3⟩ := coaC_le s t
  obtain ⟨d1, d2⟩ := coaC_div s t
  have DM : Hid (∀ k : Nat, coaC s t < k → k ≤ 3 → (decide (s % resC (k : Int) = 0) && decide (t % resC (k : Int) = 0)) = false) := fun k h h3 => by
    have := coaC_most (s := s) (t := t) (k := k) h (by omega)
    rw [Bool.and_eq_false_imp]
    intro h1
    rw [decide_eq_true_eq] at h1
    exact decide_eq_false (fun h2 => this ⟨h1, h2⟩)
  obtain ⟨m, hm⟩ : ∃ m : Nat, coaC s t = (m : Int) := ⟨(coaC s t).toNat, by omega⟩
  rw [hm] at T1 T2 d1 d2 DM c3
  have hm3 : m ≤ 3 := by omega
  obtain ⟨rp1, rp2⟩ := RP.out m hm3
  have z1 := tmod_ne s (r := resC (m : Int)) (by omega)
  have z2 := tmod_ne t (r := resC (m : Int)) (by omega)
  rw [decide_eq_true d1, Bool.not_true] at z1
  rw [decide_eq_true d2, Bool.not_true] at z2
  have TM := hide (fun u b => TR.out m u b hm3)
  obtain ⟨rm, hrm⟩ : ∃ rm, resC (m : Int) = rm := ⟨_, rfl⟩
  rw [hrm] at z1 z2 TM rp1 rp2
  have rm0 : ¬ rm = 0 := by omega
  have rm1 : (rm == 0) = false := by simpa using rm0
  have tm : ((m : Int) != (m : Int)) = false := by simp
  have tm2 : ((m : Int) == (m : Int)) = true := by simp
  clear A R H L tb hs ht hm d1 d2 hrm c0
  go_enter Tryd.func7, Tryd.ntmps7
  go_wp2_with fail
  with_reducible refine T1.out.mono ?_
  rintro e u1 ⟨rfl, b1⟩
  have B1 := hide b1
  clear b1 T1
  go_wp2_with fail
  with_reducible refine (T2.out _).mono ?_
  rintro e u2 ⟨rfl, b2⟩
  have B2 := hide (bel_to B1.out (Nat.le_refl _) b2)
  clear b2 T2 B1
  go_wp2
  go_loopw [6] (fun i wr => ∃ k : Nat, k ≤ 4 ∧ i = .int .i64 k ∧ Hid (Below w.heap.size w wr)) (fun i _ => 4 - (intOf i).toNat)
  case atStart => exact ⟨0, by omega, rfl, B2⟩
  case round =>
    clear B2
    obtain ⟨k, hk, rfl, HB⟩ := hrel
    obtain ⟨v, rfl⟩ : ∃ v, v = wr := ⟨wr, rfl⟩
    by_cases hlt : k < 4
    · have i2 : (k : Int) < 4 := by omega
      have T := hide (TR.out k v HB.out (by omega))
      obtain ⟨p1, p2⟩ := RP.out k (by omega)
      generalize resC (k : Int) = r at *
      have p3 : ¬ r < 1 := by omega
      go_wp2_with fail
      with_reducible refine T.out.mono ?_
      rintro e v2 ⟨rfl, q2⟩
      have Q2 := hide (bel_to HB.out (Nat.le_refl _) q2)
      clear q2 T HB
      go_wp2
      go_roundw
      case rel => exact ⟨k + 1, by omega, by go_num, Q2⟩
      case measure => simp [intOf]; omega
    · have i2 : ¬ (k : Int) < 4 := by omega
      have e4 : k = 4 := by omega
      subst e4
      go_wp2_with fail
      with_reducible refine (TM.out _ HB.out).mono ?_
      rintro e u3 ⟨rfl, b3⟩
      have B3 := hide (bel_to HB.out (Nat.le_refl _) b3)
      clear b3
      go_wp2_with fail
      with_reducible refine (TM.out _ B3.out).mono ?_
      rintro e u4 ⟨rfl, b4⟩
      have B4 := hide (bel_to B3.out (Nat.le_refl _) b4)
      clear b4 TM B3 HB
      go_wp2
      clear z1 z2 rm0 rm1
      go_loopw [7] (fun i wr => ∃ k : Nat, k ≤ 4 ∧ m < k ∧ i = .int .i64 k ∧ Hid (Below w.heap.size w wr)) (fun i _ => 4 - (intOf i).toNat)
      case atStart => exact ⟨m + 1, by omega, by omega, by go_num, B4⟩
      case round =>
        clear B4
        obtain ⟨k, hk, hmk, rfl, HB⟩ := hrel
        obtain ⟨v, rfl⟩ : ∃ v, v = wr := ⟨wr, rfl⟩
        by_cases hlt : k < 4
        · have j2 : (k : Int) < 4 := by omega
          have T := hide (fun u b => TR.out k u b (by omega))
          obtain ⟨p1, p2⟩ := RP.out k (by omega)
          have y1 := tmod_zero s (r := resC (k : Int)) (by omega)
          have y2 := tmod_zero t (r := resC (k : Int)) (by omega)
          have DB := hide (DM.out k (by omega) (by omega))
          generalize resC (k : Int) = r at *
          have r0 : ¬ r = 0 := by omega
          have r1 : (r == 0) = false := by simpa using r0
          cases q1 : decide (s % r = 0) with
          | false =>
            rw [q1] at y1
            clear q1 y2 DB
            go_wp2_with fail
            with_reducible refine (T.out _ HB.out).mono ?_
            rintro e v2 ⟨rfl, q2⟩
            have Q2 := hide (bel_to HB.out (Nat.le_refl _) q2)
            clear q2 T HB
            go_wp2
            go_roundw
            case rel => exact ⟨k + 1, by omega, by omega, by go_num, Q2⟩
            case measure => simp [intOf]; omega
          | true =>
            rw [q1] at y1 DB
            rw [Bool.true_and] at DB
            rw [DB.out] at y2
            clear q1 DB
            go_wp2_with fail
            with_reducible refine (T.out _ HB.out).mono ?_
            rintro e v2 ⟨rfl, q2⟩
            have Q2 := hide (bel_to HB.out (Nat.le_refl _) q2)
            clear q2 HB
            go_wp2_with fail
            with_reducible refine (T.out _ Q2.out).mono ?_
            rintro e v3 ⟨rfl, q3⟩
            have Q3 := hide (bel_to Q2.out (Nat.le_refl _) q3)
            clear q3 T Q2
            go_wp2
            go_roundw
            case rel => exact ⟨k + 1, by omega, by omega, by go_num, Q3⟩
            case measure => simp [intOf]; omega
        · have j2 : ¬ (k : Int) < 4 := by omega
          have e5 : k = 4 := by omega
          subst e5
          go_wp2_with fail
          with_reducible refine (TA.out _ HB.out).mono ?_
          rintro e u6 ⟨rfl, p6⟩
          have B6 := hide (bel_to HB.out (Nat.le_refl _) p6)
          clear p6
          go_wp2
          go_ret
          exact ⟨rfl, B6.out⟩
end Go.Proofs.YtejflcfcbjadhaaDoor
