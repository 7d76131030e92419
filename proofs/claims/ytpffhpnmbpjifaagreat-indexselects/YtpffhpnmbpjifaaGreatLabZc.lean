/-
  The program's own Name, Value, Check of labels: contracts, for every world; what was there before stays. The program's own Check of labels: its contract, for every world; what was there before stays. A strings.Builder that the call has made itself, in this program: its copyCheck, WriteByte, WriteString, String: contracts, for every world: what lay below stays, and so does every block that is neither the builder nor a row of bytes. The program's own Quoted and Text of labels: contracts, for every world; what was there before stays. The program's own Text of labels: its contract, for every world; what was there before stays (written by gen/labdw.gen.py).
  Conditions: the labels lie in memory; what is written comes to at most 2^47 bytes; values of at most 64 bytes; the labels lie in memory and may be a set; the labels lie in memory and may be a set.
-/
import Derived.Test.YtpffhpnmbpjifaaGreatLabZb
import Derived.Test.YtpffhpnmbpjifaaGreatShelf
import Derived.Lib.FrozenHead2
import Derived.Lib.OthersKept
import Derived.Test.YtpffhpnmbpjifaaGreatLabZa
namespace Go.Proofs.YtpffhpnmbpjifaaGreat
open Go.RowKit
set_option maxRecDepth 20000

def digB (z : Int) : Bool := decide (48 ≤ z) && decide (z ≤ 57)
theorem isdigit_any (z : Int) (w : World) : Calls Tryz.prog 69 #[.int .u8 z] w fun e w' => e = .returned (.bool (digB z)) ∧ w' = w := by
  unfold digB
  by_cases h1 : 48 ≤ z
  · by_cases h2 : z ≤ 57
    · rw [decide_eq_true h1, decide_eq_true h2]
      go_enter Tryz.func69, Tryz.ntmps69
      go_wp2
      go_ret
      exact ⟨rfl, rfl⟩
    · rw [decide_eq_false h2, Bool.and_false]
      go_enter Tryz.func69, Tryz.ntmps69
      go_wp2
      go_ret
      exact ⟨rfl, rfl⟩
  · rw [decide_eq_false h1, Bool.false_and]
    go_enter Tryz.func69, Tryz.ntmps69
    go_wp2
    go_ret
    exact ⟨rfl, rfl⟩

set_option maxHeartbeats 4000000 in
theorem name_any (s : ByteArray) (w : World) (hs : s.size ≤ 9223372036854775807) :
    Calls Tryz.prog 56 #[.string s] w fun e w' => e = .returned (.bool (nameB s)) ∧ w' = w := by
  have HN : Hid (nmF 0 s.toList = false → nameB s = false) := fun h => by unfold nameB; rw [h]; rfl
  have HY : Hid (nmF 0 s.toList = true → nameB s = (decide (1 ≤ s.size) && decide (s.size ≤ 32))) := fun h => by unfold nameB; rw [h]; rfl
  have HS : Hid ((decide (1 ≤ s.size) && decide (s.size ≤ 32)) = false → nameB s = false) := fun h => by unfold nameB; rw [h, Bool.and_false]
  have DG := hide isdigit_any
  generalize nameB s = ans at *
  by_cases h0 : s.size = 0
  · have F : Hid (ans = false) := HS.out (by rw [decide_eq_false (show ¬ 1 ≤ s.size by omega)]; rfl)
    have e0 : s.toList = [] := List.length_eq_zero_iff.1 (by rw [ba_len]; exact h0)
    have e1 : (s.toList == []) = true := by rw [e0]; rfl
    go_enter Tryz.func56, Tryz.ntmps56
    go_wp2
    go_ret
    exact ⟨by rw [F.out]; rfl, rfl⟩
  · have e0 : ¬ s.toList = [] := fun h => h0 (by rw [← ba_len, h]; rfl)
    have e1 : (s.toList == []) = false := by rw [beq_eq_false_iff_ne]; exact e0
    by_cases h32 : 32 < s.size
    · have F : Hid (ans = false) := HS.out (by rw [decide_eq_false (show ¬ s.size ≤ 32 by omega), Bool.and_false])
      have i3 : (32 : Int) < (s.size : Int) := by omega
      go_enter Tryz.func56, Tryz.ntmps56
      go_wp2
      go_ret
      exact ⟨by rw [F.out]; rfl, rfl⟩
    · have i3 : ¬ (32 : Int) < (s.size : Int) := by omega
      have hp : 0 < s.size := by omega
      obtain ⟨z0, hz0⟩ : ∃ z : Int, Hid (((s[0]'hp).toNat : Int) = z) := ⟨_, rfl⟩
      have hb0 := hz0.out
      have D0 := hide (DG.out z0)
      have j1 : (0 : Int) < (s.size : Int) := by omega
      cases hd0 : digB z0 with
      | true =>
        rw [hd0] at D0
        have F : Hid (ans = false) := HN.out (by
          have hx : s.toList[0]? = some (s[0]'hp) := by
            rw [ByteArray.toList_eq, Array.getElem?_toList]
            exact Array.getElem?_eq_getElem hp
          refine nmF_false (k := 0 + 1) ?_
          rw [nmF_step hx]
          have : nmC 0 (s[0]'hp) = false := by
            cases e : nmC 0 (s[0]'hp) with
            | false => rfl
            | true =>
              have h := (nmC_num 0 _).1 e
              unfold digB at hd0
              simp only [Bool.and_eq_true, decide_eq_true_eq] at hd0
              have := hz0.out
              omega
          rw [this, Bool.and_false])
        clear hd0 hz0
        go_enter Tryz.func56, Tryz.ntmps56
        go_wp2_with (go_at_call 69; refine (D0.out _).mono ?_; rintro e w' ⟨rfl, rfl⟩)
        go_ret
        exact ⟨by rw [F.out]; rfl, rfl⟩
      | false =>
        rw [hd0] at D0
        have HD : Hid (∀ z : Int, digB z = true → ∀ k (hk : k < s.size), ((s[k]'hk).toNat : Int) = z → k ≠ 0) := by
          rintro z hz k hk he rfl
          rw [← he, hz0.out, hd0] at hz
          cases hz
        clear hd0 hz0
        go_enter Tryz.func56, Tryz.ntmps56
        go_wp2_with (go_at_call 69; refine (D0.out _).mono ?_; rintro e w' ⟨rfl, hw⟩; rw [hw]; clear hw w')
        clear D0 hb0
        go_loopg [19] s.size (fun g i wr => ∃ k : Nat, k ≤ s.size ∧ s.size - k ≤ g ∧ i = .int .i64 k ∧ wr = w ∧ Hid (nmF 0 (s.toList.take k) = true))
        case atStart => exact ⟨0, Nat.zero_le _, by omega, rfl, rfl, rfl⟩
        case round =>
          obtain ⟨k, hk, hg, rfl, rfl, A⟩ := hrel
          by_cases hlt : k < s.size
          · have hx : s.toList[k]? = some (s[k]'hlt) := by
              rw [ByteArray.toList_eq, Array.getElem?_toList]
              exact Array.getElem?_eq_getElem hlt
            have ST := hide (nmF_step hx)
            have NC := hide (nmC_num k (s[k]'hlt))
            obtain ⟨z, hz⟩ : ∃ z : Int, Hid (((s[k]'hlt).toNat : Int) = z) := ⟨_, rfl⟩
            have hb := hz.out
            have NZ : Hid (nmC k (s[k]'hlt) = true ↔ (z = 95 ∨ (97 ≤ z ∧ z ≤ 122) ∨ (48 ≤ z ∧ z ≤ 57 ∧ k ≠ 0))) := by
              show _ ↔ _
              rw [NC.out]
              constructor
              · rintro (h | h | h)
                · exact Or.inl (by omega)
                · exact Or.inr (Or.inl (by omega))
                · exact Or.inr (Or.inr (by omega))
              · rintro (h | h | h)
                · exact Or.inl (by omega)
                · exact Or.inr (Or.inl (by omega))
                · exact Or.inr (Or.inr (by omega))
            have HK := hide (fun h => HD.out z h k hlt hz.out)
            have i2 : (k : Int) < (s.size : Int) := by omega
            have i1 : (0 : Int) ≤ (k : Int) := by omega
            have DZ := hide (DG.out z)
            clear hx NC hz
            cases hm : nmC k (s[k]'hlt) with
            | true =>
              have A2 : Hid (nmF 0 (s.toList.take (k + 1)) = true) := by show _ = _; rw [ST.out, A.out, hm]; rfl
              have cs := NZ.out.1 hm
              clear hm ST NZ HK
              rcases cs with rfl | cs | cs
              · have y1 : ((95 : Int) != 95) = false := by decide
                go_wp2
                go_roundg (s.size - (k + 1))
                case measure => omega
                case rel => exact ⟨k + 1, by omega, by omega, by go_num, rfl, A2⟩
              · have y1 : (z != 95) = true := by simp; omega
                have x1 : ¬ z < 97 := by omega
                have x4 : ¬ 122 < z := by omega
                have hd : digB z = false := by unfold digB; rw [decide_eq_false (show ¬ z ≤ 57 by omega), Bool.and_false]
                rw [hd] at DZ
                clear hd
                go_wp2_with (go_at_call 69; refine (DZ.out _).mono ?_; rintro e w' ⟨rfl, rfl⟩)
                go_roundg (s.size - (k + 1))
                case measure => omega
                case rel => exact ⟨k + 1, by omega, by omega, by go_num, rfl, A2⟩
              · have y1 : (z != 95) = true := by simp; omega
                have hd : digB z = true := by unfold digB; rw [decide_eq_true (show 48 ≤ z by omega), decide_eq_true (show z ≤ 57 by omega)]; rfl
                rw [hd] at DZ
                clear hd
                go_wp2_with (go_at_call 69; refine (DZ.out _).mono ?_; rintro e w' ⟨rfl, rfl⟩)
                go_roundg (s.size - (k + 1))
                case measure => omega
                case rel => exact ⟨k + 1, by omega, by omega, by go_num, rfl, A2⟩
            | false =>
              have F : Hid (ans = false) := HN.out (nmF_false (k := k + 1) (by rw [ST.out, hm, Bool.and_false]))
              have cs : ¬ (z = 95 ∨ (97 ≤ z ∧ z ≤ 122) ∨ (48 ≤ z ∧ z ≤ 57 ∧ k ≠ 0)) := fun h => by rw [NZ.out.2 h] at hm; cases hm
              have y1 : (z != 95) = true := by simp; omega
              have hd : digB z = false := by
                cases e : digB z with
                | false => rfl
                | true =>
                  have h1 := HK.out e
                  unfold digB at e
                  simp only [Bool.and_eq_true, decide_eq_true_eq] at e
                  omega
              rw [hd] at DZ
              clear hm ST NZ HK hd
              by_cases x1 : z < 97
              · clear cs
                go_wp2_with (go_at_call 69; refine (DZ.out _).mono ?_; rintro e w' ⟨rfl, rfl⟩)
                go_ret
                exact ⟨by rw [F.out]; rfl, rfl⟩
              · have x4 : 122 < z := by omega
                clear cs
                go_wp2_with (go_at_call 69; refine (DZ.out _).mono ?_; rintro e w' ⟨rfl, rfl⟩)
                go_ret
                exact ⟨by rw [F.out]; rfl, rfl⟩
          · have F := hide (HY.out (by
              have h := A.out
              rw [List.take_of_length_le (by rw [ba_len]; omega)] at h
              exact h))
            have i2 : ¬ (k : Int) < (s.size : Int) := by omega
            go_wp2
            go_ret
            refine ⟨?_, rfl⟩
            rw [F.out, decide_eq_true (show 1 ≤ s.size by omega), decide_eq_true (show s.size ≤ 32 by omega)]; rfl
theorem laN : LaN := ⟨fun s w hs => (name_any s w hs).mono fun e w' ⟨he, hw⟩ => ⟨he, by rw [hw]; exact Below.refl _ _⟩⟩

set_option maxHeartbeats 2000000 in
theorem val_any (a : Option Addr) (n cap : Nat) (l : List Lb) (nm : ByteArray) (w : World) (hr : RowL w a n l) :
    Calls Tryz.prog 52 #[.slice a n cap, .string nm] w fun e w' => e = .returned (.string (valL l nm)) ∧ Below w.heap.size w w' := by
  have hn := hr.2.1
  have HR := hide hr
  have HL := hide hr.1
  clear hr
  go_enter Tryz.func52, Tryz.ntmps52
  go_wp2
  go_loopg [9] n (fun g i wr => ∃ k : Nat, k ≤ n ∧ n - k ≤ g ∧ i = .int .i64 k ∧ Hid (Below w.heap.size w wr) ∧ Hid (∀ j y, j < k → l[j]? = some y → y.1 ≠ nm))
  case atStart => exact ⟨0, Nat.zero_le _, by omega, rfl, Below.refl _ _, fun j y hj => absurd hj (Nat.not_lt_zero _)⟩
  case round =>
    obtain ⟨k, hk, hg, rfl, BW, A⟩ := hrel
    obtain ⟨u, rfl⟩ : ∃ u, u = wr := ⟨wr, rfl⟩
    by_cases hlt : k < n
    · obtain ⟨b1, o1, x, rfl, hx, _, hc1⟩ := HR.out.at' hlt
      obtain ⟨f0, f1⟩ := hc1 u BW.out
      have HX := hide hx
      have i1 : (0 : Int) ≤ (k : Int) := by omega
      have i2 : (k : Int) < (n : Int) := by omega
      have B2 := hide (fun o => bel_al BW.out (Nat.le_refl _) o)
      clear hc1 hx BW
      by_cases he : x.1 = nm
      · have t1 : (x.1.toList == nm.toList) = true := by rw [ba_eq]; exact decide_eq_true he
        have HV := hide (valL_at HX.out A.out he)
        clear he
        go_wp2
        go_ret
        exact ⟨by rw [HV.out]; rfl, B2.out _⟩
      · have t1 : (x.1.toList == nm.toList) = false := by rw [ba_eq]; exact decide_eq_false he
        have A2 : Hid (∀ j y, j < k + 1 → l[j]? = some y → y.1 ≠ nm) := by
          intro j y hj hy
          by_cases e : j = k
          · subst e
            rw [HX.out] at hy
            simp only [Option.some.injEq] at hy
            subst hy
            exact he
          · exact A.out j y (by omega) hy
        clear he
        go_wp2
        go_roundg (n - (k + 1))
        case measure => omega
        case rel => exact ⟨k + 1, by omega, by omega, by go_num, B2.out _, A2⟩
    · have : k = n := by omega
      subst this
      have HV : Hid (valL l nm = .empty) := valL_none (fun x hx => by
        obtain ⟨j, hj⟩ := List.mem_iff_getElem?.1 hx
        have : j < l.length := (List.getElem?_eq_some_iff.1 hj).1
        exact A.out j x (by rw [HL.out] at this; exact this) hj)
      go_wp2
      go_ret
      exact ⟨by rw [HV.out]; rfl, BW.out⟩
theorem laV : LaV := ⟨fun a n cap l nm w hr _ => val_any a n cap l nm w hr⟩
end Go.Proofs.YtpffhpnmbpjifaaGreat

namespace Go.Proofs.YtpffhpnmbpjifaaGreat
open Go.RowKit
set_option maxRecDepth 20000

set_option maxHeartbeats 8000000 in
theorem check_any (a : Option Addr) (n cap : Nat) (l : List Lb) (w : World) (hr : RowL w a n l) :
    Calls Tryz.prog 30 #[.slice a n cap] w fun e w' => e = .returned (.bool (chkL l)) ∧ Below w.heap.size w w' := by
  have hn := hr.2.1
  have HR := hide hr
  have HL := hide hr.1
  have HN : Hid (∀ k, chkF none (l.take k) = false → chkL l = false) := fun k h => chkF_false h
  have HY : Hid (chkF none l = true → chkL l = (decide (1 ≤ n) && decide (n ≤ 8))) := fun h => by unfold chkL; rw [h, HL.out]; rfl
  have HS : Hid ((decide (1 ≤ n) && decide (n ≤ 8)) = false → chkL l = false) := fun h => by unfold chkL; rw [HL.out, h, Bool.and_false]
  generalize chkL l = ans at *
  clear hr
  by_cases h0 : n = 0
  · have F : Hid (ans = false) := HS.out (by rw [decide_eq_false (show ¬ 1 ≤ n by omega)]; rfl)
    subst h0
    go_enter Tryz.func30, Tryz.ntmps30
    go_wp2
    go_ret
    exact ⟨by rw [F.out]; rfl, Below.refl _ _⟩
  have z0 : ((n : Int) == 0) = false := by simp; omega
  have z0' : ¬ (n : Int) = 0 := by omega
  by_cases h8 : 8 < n
  · have F : Hid (ans = false) := HS.out (by rw [decide_eq_false (show ¬ n ≤ 8 by omega), Bool.and_false])
    have z1 : (8 : Int) < (n : Int) := by omega
    go_enter Tryz.func30, Tryz.ntmps30
    go_wp2
    go_ret
    exact ⟨by rw [F.out]; rfl, Below.refl _ _⟩
  have z1 : ¬ (8 : Int) < (n : Int) := by omega
  go_enter Tryz.func30, Tryz.ntmps30
  go_wp2
  go_loopg [15] n (fun g i wr => ∃ k : Nat, k ≤ n ∧ n - k ≤ g ∧ i = .int .i64 k ∧ Hid (Below w.heap.size w wr) ∧ Hid (chkF none (l.take k) = true))
  case atStart => exact ⟨0, Nat.zero_le _, by omega, rfl, Below.refl _ _, rfl⟩
  case round =>
    obtain ⟨k, hk, hg, rfl, BW, A⟩ := hrel
    obtain ⟨u, rfl⟩ : ∃ u, u = wr := ⟨wr, rfl⟩
    by_cases hlt : k < n
    · obtain ⟨b1, o1, x, rfl, hx, hxw, hc1⟩ := HR.out.at' hlt
      obtain ⟨f0, f1⟩ := hc1 u BW.out
      have ST := hide (chkF_step hx)
      rw [A.out, Bool.true_and] at ST
      have CN := hide (fun W => name_any x.1 W hxw.1)
      have LB : Hid (lbB x = (nameB x.1 && (decide (1 ≤ x.2.size) && decide (x.2.size ≤ 64)))) := rfl
      have i1 : (0 : Int) ≤ (k : Int) := by omega
      have i2 : (k : Int) < (n : Int) := by omega
      have B2 := hide (fun o => bel_al BW.out (Nat.le_refl _) o)
      have B3 := hide (fun o q => bel_drewN (bel_al BW.out (Nat.le_refl _) o) q)
      clear hc1 hx hxw BW
      cases hnm : nameB x.1 with
      | false =>
        rw [hnm] at CN
        have F : Hid (ans = false) := HN.out (k + 1) (by rw [ST.out, LB.out, hnm]; rfl)
        clear hnm ST LB
        go_wp2_with (go_at_call 56; refine (CN.out _).mono ?_; rintro e w' ⟨rfl, hw⟩; rw [hw]; clear hw w')
        go_ret
        exact ⟨by rw [F.out]; rfl, B2.out _⟩
      | true =>
        rw [hnm] at CN
        rw [hnm, Bool.true_and] at LB
        clear hnm
        by_cases h1 : 1 ≤ x.2.size
        · have e1 : ¬ x.2.toList = [] := fun h => by have := ba_len x.2; rw [h] at this; simp at this; omega
          have e1' : (x.2.toList == []) = false := by rw [beq_eq_false_iff_ne]; exact e1
          have LB1 : Hid (lbB x = decide (x.2.size ≤ 64)) := by show _ = _; rw [LB.out, decide_eq_true h1, Bool.true_and]
          clear LB
          by_cases h2 : x.2.size ≤ 64
          · have e2' : ¬ (64 : Int) < (x.2.size : Int) := by omega
            rw [decide_eq_true h2] at LB1
            rw [LB1.out, Bool.true_and] at ST
            clear h2 LB1
            by_cases hk0 : k = 0
            · have A2 : Hid (chkF none (l.take (k + 1)) = true) := by show _ = _; rw [ST.out, hk0]; rfl
              have e3 : decide ((0 : Int) < (k : Int)) = false := decide_eq_false (by omega)
              have e3' : ¬ (0 : Int) < (k : Int) := by omega
              have e3n : decide (0 < k) = false := decide_eq_false (by omega)
              clear ST h1 hk0
              go_wp2_with (go_at_call 56; refine (CN.out _).mono ?_; rintro e w' ⟨rfl, hw⟩; rw [hw]; clear hw w')
              go_quiet (fail)
              go_wp2
              go_roundg (n - (k + 1))
              case measure => omega
              case rel => exact ⟨k + 1, by omega, by omega, by go_num, B3.out _ _, A2⟩
            · obtain ⟨j, rfl⟩ : ∃ j, k = j + 1 := ⟨k - 1, by omega⟩
              obtain ⟨b2, o2, y, hbo, hy, _, hc2⟩ := HR.out.at' (j := j) (by omega)
              simp only [Option.some.injEq, Addr.mk.injEq, and_true] at hbo
              obtain ⟨rfl, rfl⟩ := hbo
              have g0 := (hc2 _ (B2.out (.cells #[.string x.1, .string x.2] 52))).1
              have ST2 : Hid (chkF none (l.take (j + 1 + 1)) = Op.bytesLess y.1.toList x.1.toList) := by show _ = _; rw [ST.out, lastN_some hy]; rfl
              have e3 : decide ((0 : Int) < (j : Int) + 1) = true := decide_eq_true (by omega)
              have e3' : (0 : Int) < (j : Int) + 1 := by omega
              have j1 : (0 : Int) ≤ (j : Int) := by omega
              have j2 : (j : Int) < (n : Int) := by omega
              clear hc2 hy ST h1
              cases hb : Op.bytesLess y.1.toList x.1.toList with
              | false =>
                rw [hb] at ST2
                have F : Hid (ans = false) := HN.out _ ST2.out
                clear ST2
                go_wp2_with (go_at_call 56; refine (CN.out _).mono ?_; rintro e w' ⟨rfl, hw⟩; rw [hw]; clear hw w')
                go_quiet (fail)
                go_wp2
                go_ret
                exact ⟨by rw [F.out]; rfl, B3.out _ _⟩
              | true =>
                rw [hb] at ST2
                go_wp2_with (go_at_call 56; refine (CN.out _).mono ?_; rintro e w' ⟨rfl, hw⟩; rw [hw]; clear hw w')
                go_quiet (fail)
                go_wp2
                go_roundg (n - (j + 1 + 1))
                case measure => omega
                case rel => exact ⟨j + 1 + 1, by omega, by omega, by go_num, B3.out _ _, ST2⟩
          · have e2' : (64 : Int) < (x.2.size : Int) := by omega
            have F : Hid (ans = false) := HN.out (k + 1) (by rw [ST.out, LB1.out, decide_eq_false h2]; rfl)
            clear h2 LB1 ST h1
            go_wp2_with (go_at_call 56; refine (CN.out _).mono ?_; rintro e w' ⟨rfl, hw⟩; rw [hw]; clear hw w')
            go_ret
            exact ⟨by rw [F.out]; rfl, B2.out _⟩
        · have e1 : x.2.toList = [] := List.length_eq_zero_iff.1 (by rw [ba_len]; omega)
          have e1' : (x.2.toList == []) = true := by rw [e1]; rfl
          have F : Hid (ans = false) := HN.out (k + 1) (by rw [ST.out, LB.out, decide_eq_false h1]; rfl)
          clear LB ST h1
          go_wp2_with (go_at_call 56; refine (CN.out _).mono ?_; rintro e w' ⟨rfl, hw⟩; rw [hw]; clear hw w')
          go_ret
          exact ⟨by rw [F.out]; rfl, B2.out _⟩
    · have F := hide (HY.out (by
        have h := A.out
        rw [List.take_of_length_le (by rw [HL.out]; omega)] at h
        exact h))
      have i2 : ¬ (k : Int) < (n : Int) := by omega
      go_wp2
      go_ret
      refine ⟨?_, BW.out⟩
      rw [F.out, decide_eq_true (show 1 ≤ n by omega), decide_eq_true (show n ≤ 8 by omega)]; rfl
theorem laC : LaC := ⟨fun a n cap l w hr => check_any a n cap l w hr⟩
end Go.Proofs.YtpffhpnmbpjifaaGreat

namespace Go.Proofs.YtpffhpnmbpjifaaGreat
open Go.RowKit
set_option maxRecDepth 20000

theorem bu_size : (Tryz.prog.info? 112).map (fun i => i.size) = some 2 := by kernel_rfl
theorem bu_lies : liesAt Tryz.prog Tryz.prog.depth 112 (2 / Tryz.prog.cellsOf 112) 0 112 1 = true := by kernel_rfl
theorem bu_byte : (Tryz.prog.info? 5).map (fun i => (i.zero, i.size, i.bytes)) = some (some (.int .u8 0), 1, 1) := by kernel_rfl
/-- A builder that holds these bytes. -/
def Bu (B b : Nat) (l : List UInt8) (w : World) : Prop := Lib.IsBuilderF 112 5 B b (Lib.byteCells l) w
/-- What a writer leaves as it was. -/
def Bk (B b : Nat) (w w' : World) : Prop := Below B w w' ∧ Lib.OthersKept 5 (some b) w w'
theorem Bk.refl (B b : Nat) (w : World) : Bk B b w w := ⟨Below.refl _ _, Lib.OthersKept.refl _ _ _⟩
theorem Bk.trans {B b : Nat} {u v w : World} (h : Bk B b u v) (k : Bk B b v w) : Bk B b u w := ⟨h.1.trans k.1, h.2.trans k.2⟩
theorem Bk.below {B b : Nat} {u v w : World} (h : Bk B b u v) (hB : B ≤ u.heap.size) (k : Below v.heap.size v w) : Bk B b u w :=
  ⟨bel_to h.1 hB k, fun i o hi hb ho => by
    have h1 := h.2 i o hi hb ho
    rw [k.block i (Array.getElem?_eq_some_iff.1 h1).1]
    exact h1⟩
/-- A label's box stays. -/
theorem Bk.box {B b g : Nat} {w w' : World} {x : Lb} (h : Bk B b w w') (hg : w.heap[g]? = some (.cells #[.string x.1, .string x.2] 52)) (hne : g ≠ b) : w'.heap[g]? = some (.cells #[.string x.1, .string x.2] 52) :=
  h.2 g _ hg (fun e => hne (by simpa using e)) (fun c fz e => by
    simp only [Obj.cells.injEq] at e
    exact absurd e.2.1 (by decide))
theorem box_cells {w : World} {g : Nat} {x : Lb} (hg : w.heap[g]? = some (.cells #[.string x.1, .string x.2] 52)) : w.cell? ⟨g, 0, none⟩ = some (.string x.1) ∧ w.cell? ⟨g, 1, none⟩ = some (.string x.2) := by
  constructor <;> simp [World.cell?, hg]
theorem Bu.below {B b : Nat} {l : List UInt8} {w w' : World} (h : Bu B b l w) (hb : Below w.heap.size w w') : Bu B b l w' := by
  have one : ∀ p, Lib.BuilderAtF 112 5 B b p (Lib.byteCells l) w → Lib.BuilderAtF 112 5 B b p (Lib.byteCells l) w' := by
    rintro p ⟨hB, v, hbk, hown, hne⟩
    refine ⟨hB, v, (hb.block b (Array.getElem?_eq_some_iff.1 hbk).1).trans hbk, ⟨hown.1, ?_⟩, hne⟩
    rcases hown.2 with h1 | ⟨g, cap, cur, fz, hv, hbg, hg, rest⟩
    · exact Or.inl h1
    · exact Or.inr ⟨g, cap, cur, fz, hv, hbg, (hb.block g (Array.getElem?_eq_some_iff.1 hg).1).trans hg, rest⟩
  exact h.elim (fun x => .inl (one _ x)) (fun x => .inr (one _ x))
theorem Bu.lt {B b : Nat} {l : List UInt8} {w : World} (h : Bu B b l w) : B ≤ b ∧ b < w.heap.size := by
  rcases h with ⟨hB, v, hbk, _⟩ | ⟨hB, v, hbk, _⟩ <;> exact ⟨hB, (Array.getElem?_eq_some_iff.1 hbk).1⟩
theorem bu_new (w : World) : Bu w.heap.size w.heap.size [] (w.alloc (.cells #[.pointer none, .slice none 0 0] 112)) :=
  Lib.IsBuilderF.of (Lib.fresh_isBuilder _ _ w)

set_option maxHeartbeats 1000000 in
theorem bcheck_used (b : Nat) (w : World) (h0 : w.cell? ⟨b, 0, none⟩ = some (.pointer (some ⟨b, 0, none⟩))) :
    Calls Tryz.prog 85 #[.pointer (some ⟨b, 0, none⟩)] w fun e w' => e = .returned (.tuple #[]) ∧ w' = w := by
  obtain ⟨j, hj, _⟩ := Option.map_eq_some_iff.1 bu_size
  go_enter Tryz.func85, Tryz.ntmps85
  go_wp2
  rw [Lib.run_neq_ptr_same w _ Tryz.underlying109 hj]
  go_wp2
  go_end0
  exact ⟨rfl, rfl⟩

set_option maxHeartbeats 1000000 in
theorem bcheck_new (b : Nat) (w : World) (h0 : w.cell? ⟨b, 0, none⟩ = some (.pointer none)) (hsh : w.shape? b = some (112, 2)) (hfz : w.frozen? ⟨b, 0, none⟩ = false) :
    Calls Tryz.prog 85 #[.pointer (some ⟨b, 0, none⟩)] w fun e w' => e = .returned (.tuple #[]) ∧ w' = w.setCell ⟨b, 0, none⟩ (.pointer (some ⟨b, 0, none⟩)) := by
  obtain ⟨j, hj, hjs⟩ := Option.map_eq_some_iff.1 bu_size
  go_enter Tryz.func85, Tryz.ntmps85
  go_wp2
  rw [Lib.run_to_unsafe w ⟨b, 0, none⟩ Tryz.underlying109 Tryz.underlying134 hj (by rw [hjs]; decide) hsh (Nat.zero_lt_succ 1)]
  simp only [Result.andThen]
  rw [Oper.upon_value]
  go_wp2
  rw [run_callFunc_extern Tryz.func93 (by kernel_rfl) (by kernel_rfl) (by kernel_rfl) (e := Extern.AbiNoEscape.same) (by kernel_rfl)]
  rw [Lib.run_noEscape]
  simp only [Result.andThen]
  rw [Oper.upon_value]
  go_wp2
  rw [Lib.run_from_unsafe w ⟨b, 0, none⟩ Tryz.underlying134 Tryz.underlying109 hj hsh bu_lies]
  simp only [Result.andThen]
  rw [Oper.upon_value]
  go_wp2
  go_end0
  exact ⟨rfl, rfl⟩

theorem bcheck_any (B b : Nat) (bs : List Value) (w : World) (h : Lib.IsBuilderF 112 5 B b bs w) :
    Calls Tryz.prog 85 #[.pointer (some ⟨b, 0, none⟩)] w fun e w' => e = .returned (.tuple #[]) ∧ Lib.BuilderAtF 112 5 B b (.pointer (some ⟨b, 0, none⟩)) bs w' ∧ Bk B b w w' := by
  rcases h with h | h
  · refine (bcheck_new b w h.cell0 h.shape h.frozen0).mono ?_
    rintro e w' ⟨rfl, rfl⟩
    exact ⟨rfl, h.used _, (Below.refl B w).setCell (p := ⟨b, 0, none⟩) h.1 _, (Lib.OthersKept.refl _ _ w).setCell ⟨b, 0, none⟩ rfl _⟩
  · refine (bcheck_used b w h.cell0).mono ?_
    rintro e w' ⟨rfl, rfl⟩
    exact ⟨rfl, h, Bk.refl _ _ _⟩

set_option maxHeartbeats 2000000 in
theorem wrbyte_any (B b : Nat) (l : List UInt8) (x : UInt8) (w : World) (h : Bu B b l w) (hlen : l.length + 1 ≤ 140737488355328) (hBw : B ≤ w.heap.size) :
    Calls Tryz.prog 70 #[.pointer (some ⟨b, 0, none⟩), .int .u8 (x.toNat : Int)] w fun e w' => e = .returned .nilIface ∧ Bu B b (l ++ [x]) w' ∧ Bk B b w w' := by
  obtain ⟨i0, hi, hz0, hz1, hz2⟩ := info_parts bu_byte
  rw [← Lib.byteCells_length l] at hlen
  have CK := hide (bcheck_any B b (Lib.byteCells l) w h)
  have HX : Hid (Lib.byteCells (l ++ [x]) = Lib.byteCells l ++ [Value.int .u8 (x.toNat : Int)]) := Lib.byteCells_append l [x]
  clear h
  unfold Bu
  rw [HX.out]
  generalize Lib.byteCells l = bs at *
  generalize (x.toNat : Int) = c at *
  clear HX
  go_enter Tryz.func70, Tryz.ntmps70
  go_wp2_with (go_at_call 85; refine CK.out.mono ?_)
  rintro e w1 ⟨rfl, h1, hb1, hk1⟩
  obtain ⟨hB, v, hbk, hown, hne⟩ := h1
  have c0 : w1.cell? ⟨b, 0, none⟩ = some (.pointer (some ⟨b, 0, none⟩)) := by rw [Lib.cell_of_heap hbk]; rfl
  have c1 : w1.cell? ⟨b, 1, none⟩ = some v := by rw [Lib.cell_of_heap hbk]; rfl
  go_wp2_with (at_builtin; refine wpList_append_ownF _ rfl _ _ 110 rfl B 5 i0 (.int .u8 0) 1 1 Tryz.underlying110 hi hz0 hz1 hz2 rfl (by decide) _ _ _ rfl (hown.alloc _) ⟨w1.heap.size, 0, none⟩ 1 1 [.int .u8 c] rfl rfl ?c1 ?c2 ?c3 ?c4 ?c5 ?_)
  case c1 =>
    intro j u hj
    match j, hj with
    | 0, hj => simp at hj; subst hj; simp [Addr.add]
  case c2 => intro u hu; simp at hu; subst hu; rfl
  case c3 => unfold maxLen; omega
  case c4 => omega
  case c5 => have := hb1.size; simp; omega
  intro v' w2 hown' hgrow _
  have hlt : b < w1.heap.size := (Array.getElem?_eq_some_iff.1 hbk).1
  have hb2 : w2.heap[b]? = some (.cells #[.pointer (some ⟨b, 0, none⟩), v] 112 (0, 0)) := by
    rw [hgrow.block b (by simp; omega) (fun e => hne e.symm), Lib.alloc_old w1 _ b hlt]
    exact hbk
  have d0 : w2.cell? ⟨b, 0, none⟩ = some (.pointer (some ⟨b, 0, none⟩)) := by rw [Lib.cell_of_heap hb2]; rfl
  have d1 : w2.cell? ⟨b, 1, none⟩ = some v := by rw [Lib.cell_of_heap hb2]; rfl
  have f1 : w2.frozen? ⟨b, 1, none⟩ = false := Lib.frozen_of_heap hb2 1
  obtain ⟨g, cap, rfl⟩ : ∃ g cap, v' = .slice (some ⟨g, 0, none⟩) (bs.length + 1) cap := by
    rcases hown'.2 with ⟨_, h0⟩ | ⟨g, cap, cur, fz, hv, _⟩
    · omega
    · exact ⟨g, cap, hv⟩
  go_wp2
  go_ret
  refine ⟨rfl, Or.inr ?_, ?_, ((hk1.alloc _).grown hgrow (Lib.ownsRowF_kind (hown.alloc _))).setCell ⟨b, 1, none⟩ rfl _⟩
  · exact Lib.BuilderAtF.put (T := 112) (e := 5) hB hb2 (bs' := bs ++ [.int .u8 c]) (by simpa using hown') (by decide)
  · exact ((hb1.alloc (by have := hb1.size; omega) _).grown hgrow (by have := hb1.size; simp; omega) (fun k hk => (hown.lt k hk).1)).setCell (p := ⟨b, 1, none⟩) hB _

set_option maxHeartbeats 2000000 in
theorem wrstr_any (B b : Nat) (l : List UInt8) (s : ByteArray) (w : World) (h : Bu B b l w) (hlen : l.length + s.size ≤ 140737488355328) (hBw : B ≤ w.heap.size) :
    Calls Tryz.prog 71 #[.pointer (some ⟨b, 0, none⟩), .string s] w fun e w' => e = .returned (.tuple #[.int .i64 s.size, .nilIface]) ∧ Bu B b (l ++ s.toList) w' ∧ Bk B b w w' := by
  obtain ⟨i0, hi, hz0, hz1, hz2⟩ := info_parts bu_byte
  rw [← Lib.byteCells_length l] at hlen
  have CK := hide (bcheck_any B b (Lib.byteCells l) w h)
  have HX : Hid (Lib.byteCells (l ++ s.toList) = Lib.byteCells l ++ Lib.strCells s) := by
    show _ = _
    rw [Lib.byteCells_append, Lib.strCells_eq, ByteArray.toList_eq]
  clear h
  unfold Bu
  rw [HX.out]
  generalize Lib.byteCells l = bs at *
  clear HX
  go_enter Tryz.func71, Tryz.ntmps71
  go_wp2_with (go_at_call 85; refine CK.out.mono ?_)
  rintro e w1 ⟨rfl, h1, hb1, hk1⟩
  obtain ⟨hB, v, hbk, hown, hne⟩ := h1
  have c0 : w1.cell? ⟨b, 0, none⟩ = some (.pointer (some ⟨b, 0, none⟩)) := by rw [Lib.cell_of_heap hbk]; rfl
  have c1 : w1.cell? ⟨b, 1, none⟩ = some v := by rw [Lib.cell_of_heap hbk]; rfl
  go_wp2_with (at_builtin; refine Lib.wpList_append_own_stringF _ rfl _ _ 110 9 rfl B 5 i0 Tryz.underlying110 Tryz.underlying9 hi hz0 hz1 hz2 _ _ _ rfl hown s rfl ?c3 ?c4 ?c5 ?_)
  case c3 => unfold maxLen; omega
  case c4 => omega
  case c5 => have := hb1.size; omega
  intro v' w2 hown' hgrow _
  have hlt : b < w1.heap.size := (Array.getElem?_eq_some_iff.1 hbk).1
  have hb2 : w2.heap[b]? = some (.cells #[.pointer (some ⟨b, 0, none⟩), v] 112 (0, 0)) := by
    rw [hgrow.block b hlt (fun e => hne e.symm)]
    exact hbk
  have d0 : w2.cell? ⟨b, 0, none⟩ = some (.pointer (some ⟨b, 0, none⟩)) := by rw [Lib.cell_of_heap hb2]; rfl
  have d1 : w2.cell? ⟨b, 1, none⟩ = some v := by rw [Lib.cell_of_heap hb2]; rfl
  have f1 : w2.frozen? ⟨b, 1, none⟩ = false := Lib.frozen_of_heap hb2 1
  obtain ⟨ao, n', cap, rfl⟩ : ∃ ao n' cap, v' = .slice ao n' cap := by
    rcases hown'.2 with ⟨hv, _⟩ | ⟨g, cap, cur, fz, hv, _⟩
    · exact ⟨_, _, _, hv⟩
    · exact ⟨_, _, _, hv⟩
  go_wp2
  go_ret2
  refine ⟨rfl, Or.inr ?_, ?_, (hk1.grown hgrow (Lib.ownsRowF_kind hown)).setCell ⟨b, 1, none⟩ rfl _⟩
  · exact Lib.BuilderAtF.put (T := 112) (e := 5) hB hb2 (bs' := bs ++ Lib.strCells s) (by simpa [Lib.strCells_length] using hown') (by decide)
  · exact (hb1.grown hgrow (by have := hb1.size; omega) (fun k hk => (hown.lt k hk).1)).setCell (p := ⟨b, 1, none⟩) hB _

theorem bstring_any (B b : Nat) (l : List UInt8) (w : World) (h : Bu B b l w) (hBw : B ≤ w.heap.size) :
    Calls Tryz.prog 73 #[.pointer (some ⟨b, 0, none⟩)] w fun e w' => e = .returned (.string ⟨l.toArray⟩) ∧ Below B w w' :=
  (Tryz.Builder_String_any_k B b l w h hBw).mono fun _ _ ⟨he, _, hb, _⟩ => ⟨he, hb⟩
end Go.Proofs.YtpffhpnmbpjifaaGreat

namespace Go.Proofs.YtpffhpnmbpjifaaGreat
open Go.RowKit
set_option maxRecDepth 20000

theorem isplain_any (c : UInt8) (w : World) : Calls Tryz.prog 86 #[.int .u8 (c.toNat : Int)] w fun e w' => e = .returned (.bool (plainB c)) ∧ w' = w := by
  have HP := hide (plainB_num c)
  obtain ⟨z, hz⟩ : ∃ z : Int, Hid ((c.toNat : Int) = z) := ⟨_, rfl⟩
  rw [hz.out]
  by_cases h1 : 32 ≤ z
  · by_cases h2 : z < 127
    · have e : plainB c = true := HP.out.2 (by have := hz.out; omega)
      rw [e]
      clear hz HP e
      go_enter Tryz.func86, Tryz.ntmps86
      go_wp2
      go_ret
      exact ⟨rfl, rfl⟩
    · have e : plainB c = false := by
        cases q : plainB c with
        | false => rfl
        | true => have h := HP.out.1 q; have := hz.out; omega
      rw [e]
      clear hz HP e
      go_enter Tryz.func86, Tryz.ntmps86
      go_wp2
      go_ret
      exact ⟨rfl, rfl⟩
  · have e : plainB c = false := by
      cases q : plainB c with
      | false => rfl
      | true => have h := HP.out.1 q; have := hz.out; omega
    rw [e]
    clear hz HP e
    go_enter Tryz.func86, Tryz.ntmps86
    go_wp2
    go_ret
    exact ⟨rfl, rfl⟩

/-- A value between quotes. -/
def quoS (v : ByteArray) : ByteArray := ⟨(quoB v.toList).toArray⟩
theorem byteAt (s : ByteArray) (k : Nat) (h : k < s.size) : s.toList[k]? = some (s[k]'h) := by
  rw [ByteArray.toList_eq, Array.getElem?_toList]
  exact Array.getElem?_eq_getElem h
theorem takeB {s : ByteArray} {k : Nat} (h : k < s.size) : s.toList.take (k + 1) = s.toList.take k ++ [s[k]'h] := by
  rw [List.take_add_one, byteAt s k h]; rfl
theorem digGet : ∀ k : Nat, (h : k < 16) → (⟨#[48, 49, 50, 51, 52, 53, 54, 55, 56, 57, 97, 98, 99, 100, 101, 102]⟩ : ByteArray)[k]'h = hxD k := by decide +kernel
theorem qb_len (c : UInt8) : (qb c).length ≤ 4 := by
  unfold qb
  split
  · simp
  · split <;> simp
theorem flat_len (v : List UInt8) : (v.flatMap qb).length ≤ 4 * v.length := by
  induction v with
  | nil => simp
  | cons c t ih =>
    rw [List.flatMap_cons, List.length_append, List.length_cons]
    have := qb_len c
    omega

set_option maxHeartbeats 4000000 in
theorem quoted_any (v : ByteArray) (w : World) (hv : v.size ≤ 64) :
    Calls Tryz.prog 72 #[.string v] w fun e w' => e = .returned (.string (quoS v)) ∧ Below w.heap.size w w' := by
  obtain ⟨g, HG⟩ : ∃ g, Hid (w.heap.size = g) := ⟨_, rfl⟩
  have W0 : Hid (Bu g g [] (w.alloc (.cells #[.pointer none, .slice none 0 0] 112))) := by
    have := bu_new w
    rw [HG.out] at this
    exact this
  have LB : Hid (∀ k, (v.toList.take k).length ≤ 64) := fun k => by rw [List.length_take, ba_len]; omega
  have LF : Hid (∀ k, (34 :: (v.toList.take k).flatMap qb).length ≤ 300) := fun k => by
    rw [List.length_cons]
    have h1 := flat_len (v.toList.take k)
    have h2 := LB.out k
    omega
  have WB := hide (fun l (x : UInt8) W (q : Bu g g l W) (hl : l.length ≤ 400) (hB : g ≤ W.heap.size) => wrbyte_any g g l x W q (by omega) hB)
  have WS := hide (fun l s W (q : Bu g g l W) (hl : l.length + s.size ≤ 400) (hB : g ≤ W.heap.size) => wrstr_any g g l s W q (by omega) hB)
  have W34 : Hid (∀ l W, Bu g g l W → l.length ≤ 400 → g ≤ W.heap.size → Calls Tryz.prog 70 #[.pointer (some ⟨g, 0, none⟩), .int .u8 34] W fun e w' => e = .returned .nilIface ∧ Bu g g (l ++ [34]) w' ∧ Bk g g W w') := fun l W => WB.out l 34 W
  have W92 : Hid (∀ l W, Bu g g l W → l.length ≤ 400 → g ≤ W.heap.size → Calls Tryz.prog 70 #[.pointer (some ⟨g, 0, none⟩), .int .u8 92] W fun e w' => e = .returned .nilIface ∧ Bu g g (l ++ [92]) w' ∧ Bk g g W w') := fun l W => WB.out l 92 W
  have WX : Hid (∀ l W, Bu g g l W → l.length ≤ 300 → g ≤ W.heap.size → Calls Tryz.prog 71 #[.pointer (some ⟨g, 0, none⟩), .string ⟨#[92, 120]⟩] W fun e w' => e = .returned (.tuple #[.int .i64 2, .nilIface]) ∧ Bu g g (l ++ [92, 120]) w' ∧ Bk g g W w') := fun l W q h1 h2 => by
    have h := WS.out l ⟨#[92, 120]⟩ W q (by show l.length + 2 ≤ 400; omega) h2
    have e : (⟨#[92, 120]⟩ : ByteArray).toList = [92, 120] := by decide +kernel
    rw [e] at h
    exact h
  have ST := hide (fun l W (q : Bu g g l W) (hB : g ≤ W.heap.size) => bstring_any g g l W q hB)
  have B0 : Hid (Below g w (w.alloc (.cells #[.pointer none, .slice none 0 0] 112))) := by
    have := bel_al (Below.refl w.heap.size w) (Nat.le_refl _) (.cells #[.pointer none, .slice none 0 0] 112)
    rw [HG.out] at this
    exact this
  have S0 : Hid (g ≤ (w.alloc (.cells #[.pointer none, .slice none 0 0] 112)).heap.size) := Nat.le_trans (Nat.le_of_eq HG.out.symm) B0.out.size
  rw [HG.out]
  go_enter Tryz.func72, Tryz.ntmps72
  go_wp2_with fail
  rw [HG.out]
  with_reducible refine (W34.out _ _ W0.out (by decide) S0.out).mono ?_
  rintro e u0 ⟨rfl, p0, k0⟩
  have P0 : Hid (Bu g g (34 :: (v.toList.take 0).flatMap qb) u0) := p0
  have K0 : Hid (Below g w u0) := B0.out.trans k0.1
  clear p0 k0 W0 B0 S0
  go_wp2
  go_loopg [9] v.size (fun gk i wr => ∃ k : Nat, k ≤ v.size ∧ v.size - k ≤ gk ∧ i = .int .i64 k ∧ Hid (Bu g g (34 :: (v.toList.take k).flatMap qb) wr) ∧ Hid (Below g w wr))
  case atStart => exact ⟨0, Nat.zero_le _, by omega, rfl, P0, K0⟩
  case round =>
    obtain ⟨k, hk, hg, rfl, PB, BW⟩ := hrel
    obtain ⟨u, rfl⟩ : ∃ u, u = wr := ⟨wr, rfl⟩
    have GW : Hid (g ≤ u.heap.size) := Nat.le_trans (Nat.le_of_eq HG.out.symm) BW.out.size
    by_cases hlt : k < v.size
    · have TK := hide (takeB hlt)
      obtain ⟨c, hc⟩ : ∃ c, Hid ((v[k]'hlt) = c) := ⟨_, rfl⟩
      rw [hc.out] at TK
      obtain ⟨z, hz⟩ : ∃ z : Int, Hid ((c.toNat : Int) = z) := ⟨_, rfl⟩
      have hb : ((v[k]'hlt).toNat : Int) = z := by rw [hc.out]; exact hz.out
      have IP := hide (isplain_any c)
      rw [hz.out] at IP
      have WZ := hide (fun l W q h1 h2 => WB.out l c W q h1 h2)
      rw [hz.out] at WZ
      have NX : Hid (∀ W, Bu g g (34 :: (v.toList.take k).flatMap qb ++ qb c) W → Bu g g (34 :: (v.toList.take (k + 1)).flatMap qb) W) := fun W h => by
        rw [TK.out, List.flatMap_append, List.flatMap_cons, List.flatMap_nil, List.append_nil]
        exact h
      have i1 : (0 : Int) ≤ (k : Int) := by omega
      have i2 : (k : Int) < (v.size : Int) := by omega
      have LL := hide (LF.out k)
      clear hc TK
      generalize (34 :: (v.toList.take k).flatMap qb) = pre at PB NX LL
      by_cases h1 : c = 34 ∨ c = 92
      · have Q : Hid (qb c = [92, c]) := by show _ = _; unfold qb; rw [if_pos h1]
        rw [Q.out] at NX
        have tail : Hid (∀ W W' W'' : World, Bk g g u W → Bk g g W W' → Below g w W') := fun W W' _ h h' => BW.out.trans (h.1.trans h'.1)
        rcases h1 with rfl | rfl
        · obtain rfl : z = 34 := hz.out.symm
          clear hz IP
          go_wp2_with fail
          with_reducible refine (W92.out _ _ PB.out (by have := LL.out; omega) GW.out).mono ?_
          rintro e u1 ⟨rfl, p1, k1⟩
          have G1 : Hid (g ≤ u1.heap.size) := Nat.le_trans GW.out k1.1.size
          have P1 := hide p1
          have K1 := hide k1
          clear p1 k1
          go_wp2_with fail
          with_reducible refine (W34.out _ _ P1.out (by have := LL.out; simp; omega) G1.out).mono ?_
          rintro e u2 ⟨rfl, p2, k2⟩
          have P2 := hide (NX.out _ (by simpa using p2))
          have K2 := hide (BW.out.trans (K1.out.1.trans k2.1))
          clear p2 k2
          go_wp2
          go_roundg (v.size - (k + 1))
          case measure => omega
          case rel => exact ⟨k + 1, by omega, by omega, by go_num, P2, K2⟩
        · obtain rfl : z = 92 := hz.out.symm
          clear hz IP
          go_wp2_with fail
          with_reducible refine (W92.out _ _ PB.out (by have := LL.out; omega) GW.out).mono ?_
          rintro e u1 ⟨rfl, p1, k1⟩
          have G1 : Hid (g ≤ u1.heap.size) := Nat.le_trans GW.out k1.1.size
          have P1 := hide p1
          have K1 := hide k1
          clear p1 k1
          go_wp2_with fail
          with_reducible refine (W92.out _ _ P1.out (by have := LL.out; simp; omega) G1.out).mono ?_
          rintro e u2 ⟨rfl, p2, k2⟩
          have P2 := hide (NX.out _ (by simpa using p2))
          have K2 := hide (BW.out.trans (K1.out.1.trans k2.1))
          clear p2 k2
          go_wp2
          go_roundg (v.size - (k + 1))
          case measure => omega
          case rel => exact ⟨k + 1, by omega, by omega, by go_num, P2, K2⟩
      · have n1 : (z == 34) = false := by
          rw [beq_eq_false_iff_ne, ← hz.out]
          exact fun e => h1 (Or.inl (UInt8.toNat_inj.1 (by show c.toNat = 34; omega)))
        have n2 : (z == 92) = false := by
          rw [beq_eq_false_iff_ne, ← hz.out]
          exact fun e => h1 (Or.inr (UInt8.toNat_inj.1 (by show c.toNat = 92; omega)))
        have n1' : ¬ z = 34 := by simpa using n1
        have n2' : ¬ z = 92 := by simpa using n2
        cases hp : plainB c with
        | true =>
          have Q : Hid (qb c = [c]) := qb_plain (fun e => h1 (Or.inl e)) (fun e => h1 (Or.inr e)) hp
          rw [Q.out] at NX
          rw [hp] at IP
          clear h1 hp hz
          go_wp2_with (go_at_call 86; refine (IP.out _).mono ?_; rintro e w' ⟨rfl, hw⟩; rw [hw]; clear hw w')
          with_reducible refine (WZ.out _ _ PB.out (by have := LL.out; omega) GW.out).mono ?_
          rintro e u2 ⟨rfl, p2, k2⟩
          have P2 := hide (NX.out _ p2)
          have K2 := hide (BW.out.trans k2.1)
          clear p2 k2
          go_wp2
          go_roundg (v.size - (k + 1))
          case measure => omega
          case rel => exact ⟨k + 1, by omega, by omega, by go_num, P2, K2⟩
        | false =>
          have Q : Hid (qb c = [92, 120, hxD (c.toNat / 16), hxD (c.toNat % 16)]) := by
            show _ = _
            unfold qb
            rw [if_neg h1, if_pos (Classical.byContradiction fun e => by rw [(plainB_iff c).2 e] at hp; cases hp)]
          rw [Q.out] at NX
          rw [hp] at IP
          clear h1 hp
          go_wp2_with (go_at_call 86; refine (IP.out _).mono ?_; rintro e w' ⟨rfl, hw⟩; rw [hw]; clear hw w')
          with_reducible refine (WX.out _ _ PB.out LL.out GW.out).mono ?_
          rintro e u1 ⟨rfl, p1, k1⟩
          have G1 : Hid (g ≤ u1.heap.size) := Nat.le_trans GW.out k1.1.size
          have P1 := hide p1
          have K1 := hide k1
          clear p1 k1
          obtain ⟨p, hp1⟩ : ∃ p, Hid (c.toNat / 16 = p) := ⟨_, rfl⟩
          obtain ⟨q, hq1⟩ : ∃ q, Hid (c.toNat % 16 = q) := ⟨_, rfl⟩
          have p16 : p < 16 := by have := c.toNat_lt; have := hp1.out; omega
          have q16 : q < 16 := by have := hq1.out; omega
          have zp : z / 16 = (p : Int) := by have := hz.out; have := hp1.out; omega
          have zq : z % 16 = (q : Int) := by have := hz.out; have := hq1.out; omega
          have j1 : (0 : Int) ≤ (p : Int) ∧ (p : Int) < 16 := by omega
          have j2 : (0 : Int) ≤ (q : Int) ∧ (q : Int) < 16 := by omega
          rw [hp1.out, hq1.out] at NX
          obtain ⟨y, hy⟩ : ∃ y : Int, Hid (((hxD p).toNat : Int) = y) := ⟨_, rfl⟩
          obtain ⟨x, hx⟩ : ∃ x : Int, Hid (((hxD q).toNat : Int) = x) := ⟨_, rfl⟩
          have bp : ((((⟨#[48, 49, 50, 51, 52, 53, 54, 55, 56, 57, 97, 98, 99, 100, 101, 102]⟩ : ByteArray)[p]'p16).toNat : Nat) : Int) = y := by rw [digGet p p16]; exact hy.out
          have bq : ((((⟨#[48, 49, 50, 51, 52, 53, 54, 55, 56, 57, 97, 98, 99, 100, 101, 102]⟩ : ByteArray)[q]'q16).toNat : Nat) : Int) = x := by rw [digGet q q16]; exact hx.out
          have WY := hide (fun l W q h1 h2 => WB.out l (hxD p) W q h1 h2)
          rw [hy.out] at WY
          have WV := hide (fun l W r h1 h2 => WB.out l (hxD q) W r h1 h2)
          rw [hx.out] at WV
          clear hy hx hz hp1 hq1
          go_wp2_with fail
          with_reducible refine (WY.out _ _ P1.out (by have := LL.out; simp; omega) G1.out).mono ?_
          rintro e u2 ⟨rfl, p2, k2⟩
          have G2 : Hid (g ≤ u2.heap.size) := Nat.le_trans G1.out k2.1.size
          have P2 := hide p2
          have K2 := hide (K1.out.trans k2)
          clear p2 k2
          go_wp2_with fail
          with_reducible refine (WV.out _ _ P2.out (by have := LL.out; simp; omega) G2.out).mono ?_
          rintro e u3 ⟨rfl, p3, k3⟩
          have P3 := hide (NX.out _ (by simpa using p3))
          have K3 := hide (BW.out.trans (K2.out.1.trans k3.1))
          clear p3 k3
          go_wp2
          go_roundg (v.size - (k + 1))
          case measure => omega
          case rel => exact ⟨k + 1, by omega, by omega, by go_num, P3, K3⟩
    · have : k = v.size := by omega
      have i2 : ¬ (k : Int) < (v.size : Int) := by omega
      have EQ : Hid (∀ W, Bu g g (34 :: (v.toList.take k).flatMap qb ++ [34]) W → Bu g g (quoB v.toList) W) := fun W h => by
        rw [List.take_of_length_le (by rw [ba_len]; omega)] at h
        exact h
      have LL := hide (LF.out k)
      generalize (34 :: (v.toList.take k).flatMap qb) = pre at PB EQ LL
      clear this
      go_wp2_with fail
      with_reducible refine (W34.out _ _ PB.out (by have := LL.out; omega) GW.out).mono ?_
      rintro e u1 ⟨rfl, p1, k1⟩
      have G1 : Hid (g ≤ u1.heap.size) := Nat.le_trans GW.out k1.1.size
      have P1 := hide (EQ.out _ p1)
      have K1 : Hid (Below g w u1) := BW.out.trans k1.1
      clear p1 k1
      go_wp2_with fail
      with_reducible refine (ST.out _ _ P1.out G1.out).mono ?_
      rintro e u2 ⟨rfl, k2⟩
      have K2 : Hid (Below g w u2) := K1.out.trans k2
      clear k2
      go_wp2
      go_ret
      exact ⟨rfl, K2.out⟩
end Go.Proofs.YtpffhpnmbpjifaaGreat

namespace Go.Proofs.YtpffhpnmbpjifaaGreat
open Go.RowKit
set_option maxRecDepth 20000

theorem labB_len {x : Lb} (h1 : x.1.size ≤ 32) (h2 : x.2.size ≤ 64) : (labB x).length ≤ 291 := by
  unfold labB quoB
  have h3 := flat_len x.2.toList
  rw [ba_len] at h3
  rw [List.length_append, List.length_cons, List.length_cons, List.length_append, ba_len]
  simp only [List.length_cons, List.length_nil]
  omega
theorem restB_len : ∀ {l : List Lb}, (∀ x ∈ l, x.1.size ≤ 32 ∧ x.2.size ≤ 64) → (restB l).length ≤ 292 * l.length
  | [], _ => by simp [restB]
  | x :: t, h => by
    rw [restB, List.length_cons, List.length_append, List.length_cons]
    have h1 := labB_len (h x (List.mem_cons_self ..)).1 (h x (List.mem_cons_self ..)).2
    have h2 := restB_len (l := t) (fun y hy => h y (List.mem_cons_of_mem _ hy))
    omega
theorem textB_len {l : List Lb} (h : ∀ x ∈ l, x.1.size ≤ 32 ∧ x.2.size ≤ 64) : (textB l).length ≤ 292 * l.length := by
  cases l with
  | nil => simp [textB]
  | cons x t =>
    rw [textB, List.length_append, List.length_cons]
    have h1 := labB_len (h x (List.mem_cons_self ..)).1 (h x (List.mem_cons_self ..)).2
    have h2 := restB_len (l := t) (fun y hy => h y (List.mem_cons_of_mem _ hy))
    omega
theorem name_size {s : ByteArray} (h : nameB s = true) : s.size ≤ 32 := by
  unfold nameB at h
  simp only [Bool.and_eq_true, decide_eq_true_eq] at h
  exact h.2.2
theorem set_sizes {l : List Lb} (h : chkL l = true) : ∀ x ∈ l, x.1.size ≤ 32 ∧ x.2.size ≤ 64 := fun x hx =>
  have h1 := (chkL_parts h).2.2 x hx
  ⟨name_size h1.1, h1.2.2⟩
theorem textB_take {l : List Lb} {k : Nat} {x : Lb} (hx : l[k]? = some x) : textB (l.take (k + 1)) = textB (l.take k) ++ (if k = 0 then [] else [44]) ++ x.1.toList ++ [61] ++ quoB x.2.toList := by
  have hk : k < l.length := (List.getElem?_eq_some_iff.1 hx).1
  have e : l.take (k + 1) = l.take k ++ [x] := by rw [List.take_add_one, hx]; rfl
  by_cases h0 : k = 0
  · subst h0
    rw [e]
    simp [textB, restB, labB]
  · rw [e, textB_snoc (fun h => by
      have := congrArg List.length h
      rw [List.length_take] at this
      simp at this
      rcases this with h | h
      · omega
      · subst h; simp at hk), if_neg h0]
    simp [labB]

set_option maxHeartbeats 4000000 in
theorem text_some (a : Option Addr) (n cap : Nat) (l : List Lb) (w : World) (hr : RowL w a n l) (hsz : ∀ x ∈ l, x.1.size ≤ 32 ∧ x.2.size ≤ 64) (n8 : n ≤ 8) :
    Calls Tryz.prog 57 #[.slice a n cap] w fun e w' => e = .returned (.string (textL l)) ∧ Below w.heap.size w w' := by
  have hn := hr.2.1
  have HR := hide hr
  have HL := hide hr.1
  have SZ := hide hsz
  obtain ⟨g, HG⟩ : ∃ g, Hid (w.heap.size = g) := ⟨_, rfl⟩
  have LF : Hid (∀ k, (textB (l.take k)).length ≤ 2336) := fun k => by
    have h1 := textB_len (l := l.take k) (fun x hx => SZ.out x (List.mem_of_mem_take hx))
    have h2 : (l.take k).length ≤ 8 := by rw [List.length_take]; have := HL.out; omega
    omega
  have W0 : Hid (Bu g g (textB (l.take 0)) (w.alloc (.cells #[.pointer none, .slice none 0 0] 112))) := by
    have := bu_new w
    rw [HG.out] at this
    exact this
  have WB := hide (fun p (x : UInt8) W (q : Bu g g p W) (hl : p.length ≤ 4000) (hB : g ≤ W.heap.size) => wrbyte_any g g p x W q (by omega) hB)
  have WS := hide (fun p s W (q : Bu g g p W) (hl : p.length + s.size ≤ 4000) (hB : g ≤ W.heap.size) => wrstr_any g g p s W q (by omega) hB)
  have W44 : Hid (∀ p W, Bu g g p W → p.length ≤ 4000 → g ≤ W.heap.size → Calls Tryz.prog 70 #[.pointer (some ⟨g, 0, none⟩), .int .u8 44] W fun e w' => e = .returned .nilIface ∧ Bu g g (p ++ [44]) w' ∧ Bk g g W w') := fun p W => WB.out p 44 W
  have W61 : Hid (∀ p W, Bu g g p W → p.length ≤ 4000 → g ≤ W.heap.size → Calls Tryz.prog 70 #[.pointer (some ⟨g, 0, none⟩), .int .u8 61] W fun e w' => e = .returned .nilIface ∧ Bu g g (p ++ [61]) w' ∧ Bk g g W w') := fun p W => WB.out p 61 W
  have ST := hide (fun p W (q : Bu g g p W) (hB : g ≤ W.heap.size) => bstring_any g g p W q hB)
  have B0 : Hid (Below g w (w.alloc (.cells #[.pointer none, .slice none 0 0] 112))) := by
    have := bel_al (Below.refl w.heap.size w) (Nat.le_refl _) (.cells #[.pointer none, .slice none 0 0] 112)
    rw [HG.out] at this
    exact this
  have HA : Hid (∀ j, j < n → ∃ b off x, a = some ⟨b, off, none⟩ ∧ l[j]? = some x ∧ LbW x ∧ ∀ W, Below g w W → W.cell? ⟨b, off + j * 2, none⟩ = some (.string x.1) ∧ W.cell? ⟨b, off + j * 2 + 1, none⟩ = some (.string x.2)) := fun j hj => by
    have := HR.out.at' hj
    rw [HG.out] at this
    exact this
  have HT : Hid (textL l = ⟨(textB l).toArray⟩) := rfl
  have HTK : Hid (l.take n = l) := List.take_of_length_le (Nat.le_of_eq HL.out)
  rw [HT.out]
  clear hr hsz HT
  rw [HG.out]
  go_enter Tryz.func57, Tryz.ntmps57
  go_wp2
  rw [HG.out]
  go_loopg [8] n (fun gk i wr => ∃ k : Nat, k ≤ n ∧ n - k ≤ gk ∧ i = .int .i64 k ∧ Hid (Bu g g (textB (l.take k)) wr) ∧ Hid (Below g w wr))
  case atStart => exact ⟨0, Nat.zero_le _, by omega, rfl, W0, B0⟩
  case round =>
    obtain ⟨k, hk, hg, rfl, PB, BW⟩ := hrel
    obtain ⟨u, rfl⟩ : ∃ u, u = wr := ⟨wr, rfl⟩
    have GW : Hid (g ≤ u.heap.size) := Nat.le_trans (Nat.le_of_eq HG.out.symm) BW.out.size
    clear W0 B0
    by_cases hlt : k < n
    · obtain ⟨b1, o1, x, rfl, hx, hxw, hc1⟩ := HA.out k hlt
      obtain ⟨f0, f1⟩ := hc1 u BW.out
      have SX := hide (SZ.out x (List.mem_of_getElem? hx))
      have TK := hide (textB_take hx)
      have QU := hide (fun W => quoted_any x.2 W SX.out.2)
      have LL := hide (LF.out k)
      have i1 : (0 : Int) ≤ (k : Int) := by omega
      have i2 : (k : Int) < (n : Int) := by omega
      obtain ⟨o, HO⟩ : ∃ o, Hid (o = Obj.cells #[.string x.1, .string x.2] 52) := ⟨_, rfl⟩
      have PA : Hid (Bu g g (textB (l.take k)) (u.alloc (.cells #[.string x.1, .string x.2] 52))) := PB.out.below (bel_al (Below.refl _ _) (Nat.le_refl _) _)
      have KA : Hid (Below g w (u.alloc (.cells #[.string x.1, .string x.2] 52))) := BW.out.alloc GW.out _
      have GA : Hid (g ≤ (u.alloc (.cells #[.string x.1, .string x.2] 52)).heap.size) := Nat.le_trans (Nat.le_of_eq HG.out.symm) KA.out.size
      have XA : Hid ((u.alloc (.cells #[.string x.1, .string x.2] 52)).heap[u.heap.size]? = some (.cells #[.string x.1, .string x.2] 52)) := heap_alloc_new u _
      have NE : Hid (u.heap.size ≠ g) := by have := PB.out.lt.2; exact fun e => by omega
      clear hc1 hx hxw HO o PB
      by_cases hk0 : k = 0
      · rw [if_pos hk0, List.append_nil] at TK
        have e3 : ¬ (0 : Int) < (k : Int) := by omega
        generalize textB (l.take k) = pre at PA TK LL
        clear hk0
        go_wp2_with fail
        with_reducible refine (WS.out _ x.1 _ PA.out (by have := LL.out; have := SX.out.1; omega) GA.out).mono ?_
        rintro e ub ⟨rfl, p1, k1⟩
        have PB := hide p1
        have KB := hide (KA.out.trans k1.1)
        have GB : Hid (g ≤ ub.heap.size) := Nat.le_trans GA.out k1.1.size
        have XB := hide (k1.box XA.out NE.out)
        have LB : Hid ((pre ++ x.1.toList).length ≤ 2400) := by
          show _ ≤ _
          have h1 := LL.out
          have h2 := SX.out.1
          rw [List.length_append, ba_len]
          omega
        clear p1 k1 PA KA GA XA LL
        go_wp2_with fail
        with_reducible refine (W61.out _ _ PB.out (by have := LB.out; omega) GB.out).mono ?_
        rintro e uc ⟨rfl, p1, k1⟩
        have PC := hide p1
        have KC := hide (KB.out.trans k1.1)
        have GC : Hid (g ≤ uc.heap.size) := Nat.le_trans GB.out k1.1.size
        have XC := hide (k1.box XB.out NE.out)
        have LC : Hid ((pre ++ x.1.toList ++ [61]).length ≤ 2401) := by
          show _ ≤ _
          have h1 := LB.out
          rw [List.length_append]
          simp only [List.length_cons, List.length_nil]
          omega
        obtain ⟨z0, z1⟩ := box_cells XC.out
        clear p1 k1 PB KB GB XB LB
        go_wp2_with fail
        with_reducible refine (QU.out _).mono ?_
        rintro e ud ⟨rfl, k1⟩
        have PD := hide (PC.out.below k1)
        have KD := hide (KC.out.trans (k1.mono GC.out))
        have GD : Hid (g ≤ ud.heap.size) := Nat.le_trans GC.out k1.size
        have QS : Hid ((quoS x.2).size ≤ 300 ∧ (quoS x.2).toList = quoB x.2.toList) := by
          have e : (quoS x.2).toList = quoB x.2.toList := ByteArray.toList_mk _
          refine ⟨?_, e⟩
          rw [← ba_len, e]
          unfold quoB
          have h3 := flat_len x.2.toList
          rw [ba_len] at h3
          have h4 := SX.out.2
          rw [List.length_cons, List.length_append]
          simp only [List.length_cons, List.length_nil]
          omega
        clear k1 PC KC GC XC z0 z1
        go_wp2_with fail
        with_reducible refine (WS.out _ (quoS x.2) _ PD.out (by have := LC.out; have := QS.out.1; omega) GD.out).mono ?_
        rintro e ue ⟨rfl, p1, k1⟩
        rw [QS.out.2] at p1
        have PE : Hid (Bu g g (textB (l.take (k + 1))) ue) := by
          show Bu _ _ _ _
          rw [TK.out]
          exact p1
        have KE := hide (KD.out.trans k1.1)
        clear p1 k1 PD KD GD QS LC TK
        go_wp2
        go_roundg (n - (k + 1))
        case measure => omega
        case rel => exact ⟨k + 1, by omega, by omega, by go_num, PE, KE⟩
      · rw [if_neg hk0] at TK
        have e3 : (0 : Int) < (k : Int) := by omega
        generalize textB (l.take k) = pre at PA TK LL
        clear hk0
        go_wp2_with fail
        with_reducible refine (W44.out _ _ PA.out (by have := LL.out; omega) GA.out).mono ?_
        rintro e ua ⟨rfl, p1, k1⟩
        have PA' := hide p1
        have KA' := hide (KA.out.trans k1.1)
        have GA' : Hid (g ≤ ua.heap.size) := Nat.le_trans GA.out k1.1.size
        have XA' := hide (k1.box XA.out NE.out)
        have LL' : Hid ((pre ++ [44]).length ≤ 2337) := by have := LL.out; show _ ≤ _; simp; omega
        obtain ⟨y0, y1⟩ := box_cells XA'.out
        clear p1 k1 PA KA GA XA LL
        generalize pre ++ [44] = pre1 at PA' TK LL'
        go_wp2_with fail
        with_reducible refine (WS.out _ x.1 _ PA'.out (by have := LL'.out; have := SX.out.1; omega) GA'.out).mono ?_
        rintro e ub ⟨rfl, p1, k1⟩
        have PB := hide p1
        have KB := hide (KA'.out.trans k1.1)
        have GB : Hid (g ≤ ub.heap.size) := Nat.le_trans GA'.out k1.1.size
        have XB := hide (k1.box XA'.out NE.out)
        have LB : Hid ((pre1 ++ x.1.toList).length ≤ 2400) := by
          show _ ≤ _
          have h1 := LL'.out
          have h2 := SX.out.1
          rw [List.length_append, ba_len]
          omega
        clear p1 k1 PA' KA' GA' XA' LL'
        go_wp2_with fail
        with_reducible refine (W61.out _ _ PB.out (by have := LB.out; omega) GB.out).mono ?_
        rintro e uc ⟨rfl, p1, k1⟩
        have PC := hide p1
        have KC := hide (KB.out.trans k1.1)
        have GC : Hid (g ≤ uc.heap.size) := Nat.le_trans GB.out k1.1.size
        have XC := hide (k1.box XB.out NE.out)
        have LC : Hid ((pre1 ++ x.1.toList ++ [61]).length ≤ 2401) := by
          show _ ≤ _
          have h1 := LB.out
          rw [List.length_append]
          simp only [List.length_cons, List.length_nil]
          omega
        obtain ⟨z0, z1⟩ := box_cells XC.out
        clear p1 k1 PB KB GB XB LB
        go_wp2_with fail
        with_reducible refine (QU.out _).mono ?_
        rintro e ud ⟨rfl, k1⟩
        have PD := hide (PC.out.below k1)
        have KD := hide (KC.out.trans (k1.mono GC.out))
        have GD : Hid (g ≤ ud.heap.size) := Nat.le_trans GC.out k1.size
        have QS : Hid ((quoS x.2).size ≤ 300 ∧ (quoS x.2).toList = quoB x.2.toList) := by
          have e : (quoS x.2).toList = quoB x.2.toList := ByteArray.toList_mk _
          refine ⟨?_, e⟩
          rw [← ba_len, e]
          unfold quoB
          have h3 := flat_len x.2.toList
          rw [ba_len] at h3
          have h4 := SX.out.2
          rw [List.length_cons, List.length_append]
          simp only [List.length_cons, List.length_nil]
          omega
        clear k1 PC KC GC XC z0 z1
        go_wp2_with fail
        with_reducible refine (WS.out _ (quoS x.2) _ PD.out (by have := LC.out; have := QS.out.1; omega) GD.out).mono ?_
        rintro e ue ⟨rfl, p1, k1⟩
        rw [QS.out.2] at p1
        have PE : Hid (Bu g g (textB (l.take (k + 1))) ue) := by
          show Bu _ _ _ _
          rw [TK.out]
          exact p1
        have KE := hide (KD.out.trans k1.1)
        clear p1 k1 PD KD GD QS LC TK
        go_wp2
        go_roundg (n - (k + 1))
        case measure => omega
        case rel => exact ⟨k + 1, by omega, by omega, by go_num, PE, KE⟩
    · have : k = n := by omega
      subst this
      have i2 : ¬ (k : Int) < (k : Int) := by omega
      rw [HTK.out] at PB
      go_wp2_with fail
      with_reducible refine (ST.out _ _ PB.out GW.out).mono ?_
      rintro e u2 ⟨rfl, k2⟩
      have K2 : Hid (Below g w u2) := BW.out.trans k2
      clear k2
      go_wp2
      go_ret
      exact ⟨rfl, K2.out⟩
theorem text_any (a : Option Addr) (n cap : Nat) (l : List Lb) (w : World) (hr : RowL w a n l) (hc : chkL l = true) :
    Calls Tryz.prog 57 #[.slice a n cap] w fun e w' => e = .returned (.string (textL l)) ∧ Below w.heap.size w w' :=
  text_some a n cap l w hr (set_sizes hc) (by have := (chkL_parts hc).2.1; rw [hr.1] at this; exact this)
theorem laT : LaT := ⟨fun a n cap l w hr hc => text_any a n cap l w hr hc⟩
end Go.Proofs.YtpffhpnmbpjifaaGreat
