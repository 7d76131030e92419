/-
  The program's own Name, Value, Check of labels: contracts, for every world; what was there before stays.
  Conditions: the labels lie in memory.
-/
import Derived.Test.YtpffhpnmbpjifaaLabI
import Derived.Test.YtpffhpnmbpjifaaLabN
namespace Go.Proofs.Ytpffhpnmbpjifaa
open Go.RowKit
set_option maxRecDepth 20000

def digB (z : Int) : Bool := decide (48 ≤ z) && decide (z ≤ 57)
theorem isdigit_any (z : Int) (w : World) : Calls Try.prog 58 #[.int .u8 z] w fun e w' => e = .returned (.bool (digB z)) ∧ w' = w := by
  unfold digB
  by_cases h1 : 48 ≤ z
  · by_cases h2 : z ≤ 57
    · rw [decide_eq_true h1, decide_eq_true h2]
      go_enter Try.func58, Try.ntmps58
      go_wp2
      go_ret
      exact ⟨rfl, rfl⟩
    · rw [decide_eq_false h2, Bool.and_false]
      go_enter Try.func58, Try.ntmps58
      go_wp2
      go_ret
      exact ⟨rfl, rfl⟩
  · rw [decide_eq_false h1, Bool.false_and]
    go_enter Try.func58, Try.ntmps58
    go_wp2
    go_ret
    exact ⟨rfl, rfl⟩

set_option maxHeartbeats 4000000 in
theorem name_any (s : ByteArray) (w : World) (hs : s.size ≤ 9223372036854775807) :
    Calls Try.prog 43 #[.string s] w fun e w' => e = .returned (.bool (nameB s)) ∧ w' = w := by
  have HN : Hid (nmF 0 s.toList = false → nameB s = false) := fun h => by unfold nameB; rw [h]; rfl
  have HY : Hid (nmF 0 s.toList = true → nameB s = (decide (1 ≤ s.size) && decide (s.size ≤ 32))) := fun h => by unfold nameB; rw [h]; rfl
  have HS : Hid ((decide (1 ≤ s.size) && decide (s.size ≤ 32)) = false → nameB s = false) := fun h => by unfold nameB; rw [h, Bool.and_false]
  have DG := hide isdigit_any
  generalize nameB s = ans at *
  by_cases h0 : s.size = 0
  · have F : Hid (ans = false) := HS.out (by rw [decide_eq_false (show ¬ 1 ≤ s.size by omega)]; rfl)
    have e0 : s.toList = [] := List.length_eq_zero_iff.1 (by rw [ba_len]; exact h0)
    have e1 : (s.toList == []) = true := by rw [e0]; rfl
    go_enter Try.func43, Try.ntmps43
    go_wp2
    go_ret
    exact ⟨by rw [F.out]; rfl, rfl⟩
  · have e0 : ¬ s.toList = [] := fun h => h0 (by rw [← ba_len, h]; rfl)
    have e1 : (s.toList == []) = false := by rw [beq_eq_false_iff_ne]; exact e0
    by_cases h32 : 32 < s.size
    · have F : Hid (ans = false) := HS.out (by rw [decide_eq_false (show ¬ s.size ≤ 32 by omega), Bool.and_false])
      have i3 : (32 : Int) < (s.size : Int) := by omega
      go_enter Try.func43, Try.ntmps43
      go_wp2
      go_ret
      exact ⟨by rw [F.out]; rfl, rfl⟩
    · have i3 : ¬ (32 : Int) < (s.size : Int) := by omega
      have hp : 0 < s.size := by omega
      obtain ⟨z0, hz0⟩ : ∃ z : Int, Hid (((s[0]'hp).toNat : Int) = z) := ⟨_, rfl⟩
      have hb0 := hz0.out
      have D0 := hide (DG.out z0)
      have j1 : (0 : Int) < (s.size : Int) := by omega
      cases hd0 : digB z0 with
      | true =>
        rw [hd0] at D0
        have F : Hid (ans = false) := HN.out (by
          have hx : s.toList[0]? = some (s[0]'hp) := by
            rw [ByteArray.toList_eq, Array.getElem?_toList]
            exact Array.getElem?_eq_getElem hp
          refine nmF_false (k := 0 + 1) ?_
          rw [nmF_step hx]
          have : nmC 0 (s[0]'hp) = false := by
            cases e : nmC 0 (s[0]'hp) with
            | false => rfl
            | true =>
              have h := (nmC_num 0 _).1 e
              unfold digB at hd0
              simp only [Bool.and_eq_true, decide_eq_true_eq] at hd0
              have := hz0.out
              omega
          rw [this, Bool.and_false])
        clear hd0 hz0
        go_enter Try.func43, Try.ntmps43
        go_wp2_with (go_at_call 58; refine (D0.out _).mono ?_; rintro e w' ⟨rfl, rfl⟩)
        go_ret
        exact ⟨by rw [F.out]; rfl, rfl⟩
      | false =>
        rw [hd0] at D0
        have HD : Hid (∀ z : Int, digB z = true → ∀ k (hk : k < s.size), ((s[k]'hk).toNat : Int) = z → k ≠ 0) := by
          rintro z hz k hk he rfl
          rw [← he, hz0.out, hd0] at hz
          cases hz
        clear hd0 hz0
        go_enter Try.func43, Try.ntmps43
        go_wp2_with (go_at_call 58; refine (D0.out _).mono ?_; rintro e w' ⟨rfl, hw⟩; rw [hw]; clear hw w')
        clear D0 hb0
        go_loopg [19] s.size (fun g i wr => ∃ k : Nat, k ≤ s.size ∧ s.size - k ≤ g ∧ i = .int .i64 k ∧ wr = w ∧ Hid (nmF 0 (s.toList.take k) = true))
        case atStart => exact ⟨0, Nat.zero_le _, by omega, rfl, rfl, rfl⟩
        case round =>
          obtain ⟨k, hk, hg, rfl, rfl, A⟩ := hrel
          by_cases hlt : k < s.size
          · have hx : s.toList[k]? = some (s[k]'hlt) := by
              rw [ByteArray.toList_eq, Array.getElem?_toList]
              exact Array.getElem?_eq_getElem hlt
            have ST := hide (nmF_step hx)
            have NC := hide (nmC_num k (s[k]'hlt))
            obtain ⟨z, hz⟩ : ∃ z : Int, Hid (((s[k]'hlt).toNat : Int) = z) := ⟨_, rfl⟩
            have hb := hz.out
            have NZ : Hid (nmC k (s[k]'hlt) = true ↔ (z = 95 ∨ (97 ≤ z ∧ z ≤ 122) ∨ (48 ≤ z ∧ z ≤ 57 ∧ k ≠ 0))) := by
              show _ ↔ _
              rw [NC.out]
              constructor
              · rintro (h | h | h)
                · exact Or.inl (by omega)
                · exact Or.inr (Or.inl (by omega))
                · exact Or.inr (Or.inr (by omega))
              · rintro (h | h | h)
                · exact Or.inl (by omega)
                · exact Or.inr (Or.inl (by omega))
                · exact Or.inr (Or.inr (by omega))
            have HK := hide (fun h => HD.out z h k hlt hz.out)
            have i2 : (k : Int) < (s.size : Int) := by omega
            have i1 : (0 : Int) ≤ (k : Int) := by omega
            have DZ := hide (DG.out z)
            clear hx NC hz
            cases hm : nmC k (s[k]'hlt) with
            | true =>
              have A2 : Hid (nmF 0 (s.toList.take (k + 1)) = true) := by show _ = _; rw [ST.out, A.out, hm]; rfl
              have cs := NZ.out.1 hm
              clear hm ST NZ HK
              rcases cs with rfl | cs | cs
              · have y1 : ((95 : Int) != 95) = false := by decide
                go_wp2
                go_roundg (s.size - (k + 1))
                case measure => omega
                case rel => exact ⟨k + 1, by omega, by omega, by go_num, rfl, A2⟩
              · have y1 : (z != 95) = true := by simp; omega
                have x1 : ¬ z < 97 := by omega
                have x4 : ¬ 122 < z := by omega
                have hd : digB z = false := by unfold digB; rw [decide_eq_false (show ¬ z ≤ 57 by omega), Bool.and_false]
                rw [hd] at DZ
                clear hd
                go_wp2_with (go_at_call 58; refine (DZ.out _).mono ?_; rintro e w' ⟨rfl, rfl⟩)
                go_roundg (s.size - (k + 1))
                case measure => omega
                case rel => exact ⟨k + 1, by omega, by omega, by go_num, rfl, A2⟩
              · have y1 : (z != 95) = true := by simp; omega
                have hd : digB z = true := by unfold digB; rw [decide_eq_true (show 48 ≤ z by omega), decide_eq_true (show z ≤ 57 by omega)]; rfl
                rw [hd] at DZ
                clear hd
                go_wp2_with (go_at_call 58; refine (DZ.out _).mono ?_; rintro e w' ⟨rfl, rfl⟩)
                go_roundg (s.size - (k + 1))
                case measure => omega
                case rel => exact ⟨k + 1, by omega, by omega, by go_num, rfl, A2⟩
            | false =>
              have F : Hid (ans = false) := HN.out (nmF_false (k := k + 1) (by rw [ST.out, hm, Bool.and_false]))
              have cs : ¬ (z = 95 ∨ (97 ≤ z ∧ z ≤ 122) ∨ (48 ≤ z ∧ z ≤ 57 ∧ k ≠ 0)) := fun h => by rw [NZ.out.2 h] at hm; cases hm
              have y1 : (z != 95) = true := by simp; omega
              have hd : digB z = false := by
                cases e : digB z with
                | false => rfl
                | true =>
                  have h1 := HK.out e
                  unfold digB at e
                  simp only [Bool.and_eq_true, decide_eq_true_eq] at e
                  omega
              rw [hd] at DZ
              clear hm ST NZ HK hd
              by_cases x1 : z < 97
              · clear cs
                go_wp2_with (go_at_call 58; refine (DZ.out _).mono ?_; rintro e w' ⟨rfl, rfl⟩)
                go_ret
                exact ⟨by rw [F.out]; rfl, rfl⟩
              · have x4 : 122 < z := by omega
                clear cs
                go_wp2_with (go_at_call 58; refine (DZ.out _).mono ?_; rintro e w' ⟨rfl, rfl⟩)
                go_ret
                exact ⟨by rw [F.out]; rfl, rfl⟩
          · have F := hide (HY.out (by
              have h := A.out
              rw [List.take_of_length_le (by rw [ba_len]; omega)] at h
              exact h))
            have i2 : ¬ (k : Int) < (s.size : Int) := by omega
            go_wp2
            go_ret
            refine ⟨?_, rfl⟩
            rw [F.out, decide_eq_true (show 1 ≤ s.size by omega), decide_eq_true (show s.size ≤ 32 by omega)]; rfl
theorem laN : LaN := ⟨fun s w hs => (name_any s w hs).mono fun e w' ⟨he, hw⟩ => ⟨he, by rw [hw]; exact Below.refl _ _⟩⟩

end Go.Proofs.Ytpffhpnmbpjifaa
