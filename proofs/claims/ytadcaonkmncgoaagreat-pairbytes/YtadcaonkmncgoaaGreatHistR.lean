/-
  The document's own answer of layer 7 (the laws' reference): a number's bucket, a bucket's ends: contracts, for every world.
  Conditions: as each theorem says.
-/
import Derived.Test.YtadcaonkmncgoaaGreatHistPz
import Derived.Test.YtadcaonkmncgoaaGreatHistB
namespace Go.Proofs.YtadcaonkmncgoaaGreat
open Go.RowKit
set_option maxRecDepth 20000

theorem pow_le_two {e : Nat} (h : e ≤ 56) : (2 : Int) ^ e ≤ 72057594037927936 := by
  have : (2 : Int) ^ e ≤ 2 ^ 56 := by
    have := Nat.pow_le_pow_right (n := 2) (by decide) h
    have h2 : ((2 ^ e : Nat) : Int) ≤ ((2 ^ 56 : Nat) : Int) := Int.ofNat_le.2 this
    rwa [Int.natCast_pow, Int.natCast_pow] at h2
  exact this

set_option maxHeartbeats 4000000 in
theorem refcheck_any (a : Option Addr) (n cap : Nat) (l : Bks) (w : World) (hr : RowB w a n l) :
    Calls Tryz.prog 13 #[.slice a n cap] w fun e w' => e = .returned (.bool (checkS l)) ∧ ∃ q, w' = w.drewN q := by
  have HR := hide hr
  have HL := hide hr.1
  have hn := hr.2.1
  clear hr
  go_enter Tryz.func13, Tryz.ntmps13
  go_wp2
  go_loopw [3] (fun i wr => ∃ k : Nat, k ≤ n ∧ i = .int .i64 k ∧ Hid (checkF (-1) (l.take k) = true) ∧ Hid (∃ q, wr = w.drewN q)) (fun i _ => n - (intOf i).toNat)
  case atStart => exact ⟨0, by omega, rfl, rfl, ⟨0, rfl⟩⟩
  case round =>
    obtain ⟨k, hk, rfl, HT, HW⟩ := hrel
    by_cases hlt : k < n
    · obtain ⟨q, hq⟩ := HW.out
      have HFit := hide (getD_fit HR.out.2.2.1 k)
      obtain ⟨_, _, _, h | ⟨b, off, rfl, hc⟩⟩ := HR.out
      · omega
      obtain ⟨g0, g0'⟩ := hc k hlt
      have f0 : wr.cell? ⟨b, off + k * 2, none⟩ = some (.int .i64 (l.getD k (0, 0)).1) := by rw [hq]; exact g0
      have f1 : wr.cell? ⟨b, off + k * 2 + 1, none⟩ = some (.int .u64 (l.getD k (0, 0)).2) := by rw [hq]; exact g0'
      have HS := hide (take_bks (l := l) (k := k) (by rw [HL.out]; exact hlt))
      have i1 : (0 : Int) ≤ (k : Int) := by omega
      have i2 : (k : Int) < (n : Int) := by omega
      have HP : Hid (0 < k → l.getD (k - 1) (0, 0) = ((lastD (-1) (l.take k)), (l.getD (k - 1) (0, 0)).2)) := by
        intro h0
        obtain ⟨j, rfl⟩ : ∃ j, k = j + 1 := ⟨k - 1, by omega⟩
        have := take_bks (l := l) (k := j) (by rw [HL.out]; omega)
        rw [this]
        rw [Nat.add_sub_cancel]
        generalize l.getD j (0, 0) = y
        obtain ⟨y1, y2⟩ := y
        rw [lastD_snoc]
      have HZ : Hid (k = 0 → lastD (-1) (l.take k) = -1) := by rintro rfl; rfl
      have HC2 : Hid (∀ (x y : Int), l.getD k (0, 0) = (x, y) → checkF (-1) (l.take (k + 1)) = decide (lastD (-1) (l.take k) < x ∧ x ≤ 7423 ∧ 0 < y)) := by
        intro x y hxy
        rw [HS.out, hxy, checkF_snoc, HT.out, Bool.true_and]
      have HP2 : Hid (0 < k → wr.cell? ⟨b, off + (k - 1) * 2, none⟩ = some (.int .i64 (lastD (-1) (l.take k)))) := by
        intro h0
        have g1 := (hc (k - 1) (by omega)).1
        rw [HP.out h0] at g1
        rw [hq]; exact g1
      have HGE := (checkF_lastD HT.out).1
      have HGE0 := hide HGE
      have HD : Hid (checkF (-1) (l.take (k + 1)) = false → checkS l = false) := fun h => checkF_prefix (k + 1) h
      have HQ : Hid (∀ j, ∃ q, wr.drewN j = w.drewN q) := fun j => ⟨q + j, by rw [hq]; simp [World.drewN, Nat.add_assoc]⟩
      clear hc g0 g0' HP hq
      generalize l.getD k (0, 0) = x at *
      obtain ⟨x, y⟩ := x
      simp only at f0 f1
      have hw := u64_of_wf HFit.out.2
      have y0 := hw.1
      simp only at y0
      have HCK := hide (HC2.out x y rfl)
      clear HC2 hw HFit HS
      generalize lastD (-1) (l.take k) = L at *
      clear HGE0
      by_cases c1 : x < 0
      · have d1 : decide (x < 0) = true := decide_eq_true c1
        have HF : Hid (checkS l = false) := HD.out (by rw [HCK.out]; simp only [decide_eq_false_iff_not]; omega)
        clear HP2 HCK HD HT
        go_wp2
        go_quiet (fail)
        go_wp2
        go_ret
        rw [HF.out]
        exact ⟨rfl, HQ.out _⟩
      have d1 : decide (x < 0) = false := decide_eq_false c1
      by_cases c2 : 7424 ≤ x
      · have d2 : decide (7424 ≤ x) = true := decide_eq_true c2
        have HF : Hid (checkS l = false) := HD.out (by rw [HCK.out]; simp only [decide_eq_false_iff_not]; omega)
        clear HP2 HCK HD HT
        go_wp2
        go_quiet (fail)
        go_wp2
        go_ret
        rw [HF.out]
        exact ⟨rfl, HQ.out _⟩
      have d2 : decide (7424 ≤ x) = false := decide_eq_false c2
      by_cases c3 : y = 0
      · have d3 : (y == 0) = true := by simpa using c3
        have HF : Hid (checkS l = false) := HD.out (by rw [HCK.out]; simp only [decide_eq_false_iff_not]; omega)
        clear HP2 HCK HD HT
        go_wp2
        go_quiet (fail)
        go_wp2
        go_ret
        rw [HF.out]
        exact ⟨rfl, HQ.out _⟩
      have d3 : (y == 0) = false := by simpa using c3
      by_cases c4 : k = 0
      · have HF : Hid (checkF (-1) (l.take (k + 1)) = true) := by
          have := HZ.out c4
          show _ = _
          rw [HCK.out]; simp only [decide_eq_true_eq]; omega
        subst c4
        clear HZ
        rw [Nat.zero_mul, Nat.add_zero] at f0 f1
        clear HP2 HCK HD HT
        go_wp2
        go_quiet (fail)
        go_wp2
        go_roundw
        case rel => exact ⟨0 + 1, by omega, by go_num, HF, HQ.out _⟩
        case measure => simp [intOf]; omega
      obtain ⟨j, rfl⟩ : ∃ j, k = j + 1 := ⟨k - 1, by omega⟩
      have f2 := HP2.out (by omega)
      rw [Nat.add_sub_cancel] at f2
      have d4 : decide ((0 : Int) < (j : Int) + 1) = true := decide_eq_true (by omega)
      have i3 : (0 : Int) ≤ (j : Int) := by omega
      have i4 : (j : Int) < (n : Int) := by omega
      by_cases c5 : x ≤ L
      · have d5 : decide (x ≤ L) = true := decide_eq_true c5
        have HF : Hid (checkS l = false) := HD.out (by rw [HCK.out]; simp only [decide_eq_false_iff_not]; omega)
        clear HP2 HCK HD HT
        go_wp2
        go_quiet (fail)
        go_wp2
        go_ret
        rw [HF.out]
        exact ⟨rfl, HQ.out _⟩
      · have d5 : decide (x ≤ L) = false := decide_eq_false c5
        have HF : Hid (checkF (-1) (l.take (j + 1 + 1)) = true) := by
          show _ = _
          rw [HCK.out]; simp only [decide_eq_true_eq]; omega
        clear HP2 HCK HD HT
        go_wp2
        go_quiet (fail)
        go_wp2
        go_roundw
        case rel => exact ⟨j + 1 + 1, by omega, by go_num, HF, HQ.out _⟩
        case measure => simp [intOf]; omega
    · have : k = n := by omega
      subst this
      have HE : Hid (checkS l = true) := by
        have := HT.out
        rw [List.take_of_length_le (by rw [HL.out]; omega)] at this
        exact this
      go_wp2
      go_ret
      rw [HE.out]
      exact ⟨rfl, HW.out⟩
end Go.Proofs.YtadcaonkmncgoaaGreat
