/-
  The program's own Check of labels: its contract, for every world; what was there before stays.
  Conditions: the labels lie in memory.
-/
import Derived.Test.YtpffhpnmbpjifaaLabDa
namespace Go.Proofs.Ytpffhpnmbpjifaa
open Go.RowKit
set_option maxRecDepth 20000

set_option maxHeartbeats 8000000 in
theorem check_any (a : Option Addr) (n cap : Nat) (l : List Lb) (w : World) (hr : RowL w a n l) :
    Calls Try.prog 26 #[.slice a n cap] w fun e w' => e = .returned (.bool (chkL l)) ∧ Below w.heap.size w w' := by
  have hn := hr.2.1
  have HR := hide hr
  have HL := hide hr.1
  have HN : Hid (∀ k, chkF none (l.take k) = false → chkL l = false) := fun k h => chkF_false h
  have HY : Hid (chkF none l = true → chkL l = (decide (1 ≤ n) && decide (n ≤ 8))) := fun h => by unfold chkL; rw [h, HL.out]; rfl
  have HS : Hid ((decide (1 ≤ n) && decide (n ≤ 8)) = false → chkL l = false) := fun h => by unfold chkL; rw [HL.out, h, Bool.and_false]
  generalize chkL l = ans at *
  clear hr
  by_cases h0 : n = 0
  · have F : Hid (ans = false) := HS.out (by rw [decide_eq_false (show ¬ 1 ≤ n by omega)]; rfl)
    subst h0
    go_enter Try.func26, Try.ntmps26
    go_wp2
    go_ret
    exact ⟨by rw [F.out]; rfl, Below.refl _ _⟩
  have z0 : ((n : Int) == 0) = false := by simp; omega
  have z0' : ¬ (n : Int) = 0 := by omega
  by_cases h8 : 8 < n
  · have F : Hid (ans = false) := HS.out (by rw [decide_eq_false (show ¬ n ≤ 8 by omega), Bool.and_false])
    have z1 : (8 : Int) < (n : Int) := by omega
    go_enter Try.func26, Try.ntmps26
    go_wp2
    go_ret
    exact ⟨by rw [F.out]; rfl, Below.refl _ _⟩
  have z1 : ¬ (8 : Int) < (n : Int) := by omega
  go_enter Try.func26, Try.ntmps26
  go_wp2
  go_loopg [15] n (fun g i wr => ∃ k : Nat, k ≤ n ∧ n - k ≤ g ∧ i = .int .i64 k ∧ Hid (Below w.heap.size w wr) ∧ Hid (chkF none (l.take k) = true))
  case atStart => exact ⟨0, Nat.zero_le _, by omega, rfl, Below.refl _ _, rfl⟩
  case round =>
    obtain ⟨k, hk, hg, rfl, BW, A⟩ := hrel
    obtain ⟨u, rfl⟩ : ∃ u, u = wr := ⟨wr, rfl⟩
    by_cases hlt : k < n
    · obtain ⟨b1, o1, x, rfl, hx, hxw, hc1⟩ := HR.out.at' hlt
      obtain ⟨f0, f1⟩ := hc1 u BW.out
      have ST := hide (chkF_step hx)
      rw [A.out, Bool.true_and] at ST
      have CN := hide (fun W => name_any x.1 W hxw.1)
      have LB : Hid (lbB x = (nameB x.1 && (decide (1 ≤ x.2.size) && decide (x.2.size ≤ 64)))) := rfl
      have i1 : (0 : Int) ≤ (k : Int) := by omega
      have i2 : (k : Int) < (n : Int) := by omega
      have B2 := hide (fun o => bel_al BW.out (Nat.le_refl _) o)
      have B3 := hide (fun o q => bel_drewN (bel_al BW.out (Nat.le_refl _) o) q)
      clear hc1 hx hxw BW
      cases hnm : nameB x.1 with
      | false =>
        rw [hnm] at CN
        have F : Hid (ans = false) := HN.out (k + 1) (by rw [ST.out, LB.out, hnm]; rfl)
        clear hnm ST LB
        go_wp2_with (go_at_call 43; refine (CN.out _).mono ?_; rintro e w' ⟨rfl, hw⟩; rw [hw]; clear hw w')
        go_ret
        exact ⟨by rw [F.out]; rfl, B2.out _⟩
      | true =>
        rw [hnm] at CN
        rw [hnm, Bool.true_and] at LB
        clear hnm
        by_cases h1 : 1 ≤ x.2.size
        · have e1 : ¬ x.2.toList = [] := fun h => by have := ba_len x.2; rw [h] at this; simp at this; omega
          have e1' : (x.2.toList == []) = false := by rw [beq_eq_false_iff_ne]; exact e1
          have LB1 : Hid (lbB x = decide (x.2.size ≤ 64)) := by show _ = _; rw [LB.out, decide_eq_true h1, Bool.true_and]
          clear LB
          by_cases h2 : x.2.size ≤ 64
          · have e2' : ¬ (64 : Int) < (x.2.size : Int) := by omega
            rw [decide_eq_true h2] at LB1
            rw [LB1.out, Bool.true_and] at ST
            clear h2 LB1
            by_cases hk0 : k = 0
            · have A2 : Hid (chkF none (l.take (k + 1)) = true) := by show _ = _; rw [ST.out, hk0]; rfl
              have e3 : decide ((0 : Int) < (k : Int)) = false := decide_eq_false (by omega)
              have e3' : ¬ (0 : Int) < (k : Int) := by omega
              have e3n : decide (0 < k) = false := decide_eq_false (by omega)
              clear ST h1 hk0
              go_wp2_with (go_at_call 43; refine (CN.out _).mono ?_; rintro e w' ⟨rfl, hw⟩; rw [hw]; clear hw w')
              go_quiet (fail)
              go_wp2
              go_roundg (n - (k + 1))
              case measure => omega
              case rel => exact ⟨k + 1, by omega, by omega, by go_num, B3.out _ _, A2⟩
            · obtain ⟨j, rfl⟩ : ∃ j, k = j + 1 := ⟨k - 1, by omega⟩
              obtain ⟨b2, o2, y, hbo, hy, _, hc2⟩ := HR.out.at' (j := j) (by omega)
              simp only [Option.some.injEq, Addr.mk.injEq, and_true] at hbo
              obtain ⟨rfl, rfl⟩ := hbo
              have g0 := (hc2 _ (B2.out (.cells #[.string x.1, .string x.2] 41))).1
              have ST2 : Hid (chkF none (l.take (j + 1 + 1)) = Op.bytesLess y.1.toList x.1.toList) := by show _ = _; rw [ST.out, lastN_some hy]; rfl
              have e3 : decide ((0 : Int) < (j : Int) + 1) = true := decide_eq_true (by omega)
              have e3' : (0 : Int) < (j : Int) + 1 := by omega
              have j1 : (0 : Int) ≤ (j : Int) := by omega
              have j2 : (j : Int) < (n : Int) := by omega
              clear hc2 hy ST h1
              cases hb : Op.bytesLess y.1.toList x.1.toList with
              | false =>
                rw [hb] at ST2
                have F : Hid (ans = false) := HN.out _ ST2.out
                clear ST2
                go_wp2_with (go_at_call 43; refine (CN.out _).mono ?_; rintro e w' ⟨rfl, hw⟩; rw [hw]; clear hw w')
                go_quiet (fail)
                go_wp2
                go_ret
                exact ⟨by rw [F.out]; rfl, B3.out _ _⟩
              | true =>
                rw [hb] at ST2
                go_wp2_with (go_at_call 43; refine (CN.out _).mono ?_; rintro e w' ⟨rfl, hw⟩; rw [hw]; clear hw w')
                go_quiet (fail)
                go_wp2
                go_roundg (n - (j + 1 + 1))
                case measure => omega
                case rel => exact ⟨j + 1 + 1, by omega, by omega, by go_num, B3.out _ _, ST2⟩
          · have e2' : (64 : Int) < (x.2.size : Int) := by omega
            have F : Hid (ans = false) := HN.out (k + 1) (by rw [ST.out, LB1.out, decide_eq_false h2]; rfl)
            clear h2 LB1 ST h1
            go_wp2_with (go_at_call 43; refine (CN.out _).mono ?_; rintro e w' ⟨rfl, hw⟩; rw [hw]; clear hw w')
            go_ret
            exact ⟨by rw [F.out]; rfl, B2.out _⟩
        · have e1 : x.2.toList = [] := List.length_eq_zero_iff.1 (by rw [ba_len]; omega)
          have e1' : (x.2.toList == []) = true := by rw [e1]; rfl
          have F : Hid (ans = false) := HN.out (k + 1) (by rw [ST.out, LB.out, decide_eq_false h1]; rfl)
          clear LB ST h1
          go_wp2_with (go_at_call 43; refine (CN.out _).mono ?_; rintro e w' ⟨rfl, hw⟩; rw [hw]; clear hw w')
          go_ret
          exact ⟨by rw [F.out]; rfl, B2.out _⟩
    · have F := hide (HY.out (by
        have h := A.out
        rw [List.take_of_length_le (by rw [HL.out]; omega)] at h
        exact h))
      have i2 : ¬ (k : Int) < (n : Int) := by omega
      go_wp2
      go_ret
      refine ⟨?_, BW.out⟩
      rw [F.out, decide_eq_true (show 1 ≤ n by omega), decide_eq_true (show n ≤ 8 by omega)]; rfl
theorem laC : LaC := ⟨fun a n cap l w hr => check_any a n cap l w hr⟩
end Go.Proofs.Ytpffhpnmbpjifaa
