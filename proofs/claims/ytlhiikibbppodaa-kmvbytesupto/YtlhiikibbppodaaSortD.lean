/-
  The library's two partitions: contracts, for every world. The library's partition: its contract, for every world. The library's sort of what is in order but for few words: its contract, for every world.
  Conditions: the row shows its words; the part and the pivot lie within; the row shows its words; the part lies within.
-/
import Derived.Test.YtlhiikibbppodaaSortA
import Derived.Deep.DeepCutAuto
namespace Go.Proofs.Ytlhiikibbppodaa
open Go.RowKit

theorem scanUp_on {p : Int → Bool} {d : Array Int} {j i : Nat} (h : i ≤ j) (hp : p d[i]! = true) : Go.Sort.scanUp p d j i = Go.Sort.scanUp p d j (i + 1) := by
  rw [Go.Sort.scanUp, if_pos (by simp [h, hp])]
theorem scanUp_off {p : Int → Bool} {d : Array Int} {j i : Nat} (h : (decide (i ≤ j) && p d[i]!) = false) : Go.Sort.scanUp p d j i = i := by
  rw [Go.Sort.scanUp, if_neg (by rw [h]; exact Bool.false_ne_true)]
theorem scanDown_on {p : Int → Bool} {d : Array Int} {j i : Nat} (h0 : 0 < j) (h : i ≤ j) (hp : p d[j]! = true) : Go.Sort.scanDown p d i j = Go.Sort.scanDown p d i (j - 1) := by
  obtain ⟨k, rfl⟩ : ∃ k, j = k + 1 := ⟨j - 1, by omega⟩
  rw [Go.Sort.scanDown, if_pos (by simp [h, hp])]
  rfl
theorem scanDown_off {p : Int → Bool} {d : Array Int} {j i : Nat} (h : (decide (i ≤ j) && p d[j]!) = false) : Go.Sort.scanDown p d i j = j := by
  cases j with
  | zero => rfl
  | succ k => rw [Go.Sort.scanDown, if_neg (by rw [h]; exact Bool.false_ne_true)]

set_option maxRecDepth 20000 in
set_option maxHeartbeats 8000000 in
theorem parteq_any (g c cp : Nat) (d : Array Int) (a b pv : Nat) (w : World) (h : SRow w g c d) (hap : a ≤ pv) (hpb : pv < b) (hb : b ≤ d.size) :
    Calls Try.prog 68 #[.slice (some ⟨g, 0, none⟩) d.size cp, .int .i64 a, .int .i64 b, .int .i64 pv] w fun e w' => e = .returned (.int .i64 ((Go.Sort.partitionEqual ltI d a b pv).1 : Nat)) ∧ SRow w' g c (Go.Sort.partitionEqual ltI d a b pv).2 ∧ Ch (fun k => k = g) w w' := by
  have H := hide h
  have hr := h.room
  have C0 : Hid (Ch (fun k => k = g) w w) := Ch.refl _ _
  obtain ⟨n, HN⟩ : ∃ n, Hid (d.size = n) := ⟨_, rfl⟩
  obtain ⟨D, HDD⟩ : ∃ D, Hid (Go.Sort.partitionEqual ltI d a b pv = D) := ⟨_, rfl⟩
  rw [HN.out] at hb hr ⊢
  rw [HDD.out]
  have HD0 : Hid (Go.Sort.partEqLoop ltI a (a + 1) (b - 1) (Go.Sort.swp d a pv) = D) := HDD.out
  clear h
  have HSw0 := hide (fun q => (H.out.drewN q).swap (i := a) (j := pv) (by rw [HN.out]; omega) (by rw [HN.out]; omega))
  have HCw0 := hide (fun q => ch_swap (C0.out.drewN q) a pv (.int .u64 d[pv]!) (.int .u64 d[a]!))
  have HSz0 : Hid ((Go.Sort.swp d a pv).size = n) := (size_swp _ _ _).trans HN.out
  have j1 : (a : Int) < (n : Int) := by omega
  have j2 : (pv : Int) < (n : Int) := by omega
  have j3 : (0 : Int) ≤ (a : Int) := by omega
  have j4 : (0 : Int) ≤ (pv : Int) := by omega
  obtain ⟨c1, c2, f1, f2, v0, c3⟩ := H.out.two (i := a) (j := pv) (by rw [HN.out]; omega) (by rw [HN.out]; omega)
  generalize d[a]! = x0 at c1 c2 c3 HSw0 HCw0
  generalize d[pv]! = y0 at c1 c2 c3 HSw0 HCw0
  go_enter Try.func68, Try.ntmps68
  go_wp2
  go_region
  go_wp2
  clear c1 c2 c3 f1 f2
  go_loopw [9, 10] (fun x9 x10 wr => ∃ (i j : Nat) (d' : Array Int), x9 = .int .i64 i ∧ x10 = .int .i64 j ∧ a < i ∧ i ≤ b + 1 ∧ a ≤ j ∧ j < b ∧ Hid (Go.Sort.partEqLoop ltI a i j d' = D) ∧ Hid (d'.size = n) ∧ Hid (SRow wr g c d') ∧ Hid (Ch (fun k => k = g) w wr)) (fun x9 x10 _ => (intOf x10).toNat + 1 - (intOf x9).toNat)
  case atStart => exact ⟨a + 1, b - 1, _, by go_num, by go_num, by omega, by omega, by omega, by omega, HD0.out, HSz0.out, HSw0.out 1, HCw0.out 1⟩
  case round =>
    obtain ⟨i, j, d', rfl, rfl, hi, hib, haj, hj, HE, HD, HS, HC⟩ := hrel
    go_wp2
    go_loopw [9] (fun x wr => ∃ (u1 : Nat), x = .int .i64 u1 ∧ i ≤ u1 ∧ u1 ≤ b + 1 ∧ Hid (Go.Sort.scanUp (fun x => !ltI d'[a]! x) d' j u1 = Go.Sort.scanUp (fun x => !ltI d'[a]! x) d' j i) ∧ Hid (SRow wr g c d') ∧ Hid (Ch (fun k => k = g) w wr)) (fun x _ => b + 1 - (intOf x).toNat)
    case atStart => exact ⟨i, rfl, by omega, by omega, rfl, HS.out, HC.out⟩
    case round =>
      obtain ⟨u1, rfl, h11, h21, HE1, HSa, HCa⟩ := hrel
      obtain ⟨B, HB⟩ : ∃ B, Hid ((decide (u1 ≤ j) && !ltI d'[a]! d'[u1]!) = B) := ⟨_, rfl⟩
      go_upto_region 3 with fail
      go_cut [43] (fun x wx => x = .bool B ∧ Hid (SRow wx g c d' ∧ Ch (fun k => k = g) w wx))
      case first =>
        by_cases hij : u1 ≤ j
        · have c1 := HSa.out.cell (i := u1) (by rw [HD.out]; omega)
          have c2 := HSa.out.cell (i := a) (by rw [HD.out]; omega)
          have hB : (!ltI d'[a]! d'[u1]!) = B := by have := HB.out; rwa [decide_eq_true hij, Bool.true_and] at this
          generalize d'[u1]! = x at c1 hB
          generalize d'[a]! = y at c2 hB
          obtain ⟨lv, hlv⟩ : ∃ lv, ltI y x = lv := ⟨_, rfl⟩
          have L := hide (less_any y x)
          rw [hlv] at L hB
          subst hB
          have i1 : (u1 : Int) ≤ (j : Int) := by omega
          have i2 : (u1 : Int) < (n : Int) := by omega
          have i3 : (0 : Int) ≤ (u1 : Int) := by omega
          have i4 : (a : Int) < (n : Int) := by omega
          have i5 : (0 : Int) ≤ (a : Int) := by omega
          clear hlv HB
          go_big_quiet ((go_at_call 67; exact Calls.quiet_of_same (L.out _)))
          go_wp2
          go_meet
          case rel => exact ⟨rfl, HSa.out.drewN _, HCa.out.drewN _⟩
        · have hB : false = B := by have := HB.out; rwa [decide_eq_false hij, Bool.false_and] at this
          subst hB
          have i1 : decide ((u1 : Int) ≤ (j : Int)) = false := decide_eq_false (by omega)
          have i2 : decide (u1 ≤ j) = false := decide_eq_false hij
          clear HB
          go_big_quiet (fail)
          go_wp2
          go_meet
          case rel => exact ⟨rfl, HSa.out.drewN _, HCa.out.drewN _⟩
      case rest =>
        obtain ⟨rfl, HW⟩ := hcut
        cases B with
        | true =>
          have hon : u1 ≤ j ∧ (!ltI d'[a]! d'[u1]!) = true := by have := HB.out; rwa [Bool.and_eq_true, decide_eq_true_eq] at this
          have hij := hon.1
          have HF : Hid (Go.Sort.scanUp (fun x => !ltI d'[a]! x) d' j (u1 + 1) = Go.Sort.scanUp (fun x => !ltI d'[a]! x) d' j i) := (scanUp_on hon.1 hon.2).symm.trans HE1.out
          clear hon HB HSa HCa HE1
          go_wp2
          go_roundw
          case rel => exact ⟨u1 + 1, by go_num, by omega, by omega, HF.out, HW.out.1, HW.out.2⟩
          case measure => simp [intOf]; omega
        | false =>
          have HF1 : Hid (Go.Sort.scanUp (fun x => !ltI d'[a]! x) d' j i = u1) := HE1.out.symm.trans (scanUp_off HB.out)
          have HS1 : Hid (SRow wc g c d') := HW.out.1
          have HC1 : Hid (Ch (fun k => k = g) w wc) := HW.out.2
          clear HB HSa HCa HE1 HW
          go_wp2
          go_loopw [10] (fun x wr => ∃ (v2 : Nat), x = .int .i64 v2 ∧ a ≤ v2 ∧ v2 ≤ j ∧ Hid (Go.Sort.scanDown (fun x => ltI d'[a]! x) d' u1 v2 = Go.Sort.scanDown (fun x => ltI d'[a]! x) d' u1 j) ∧ Hid (SRow wr g c d') ∧ Hid (Ch (fun k => k = g) w wr)) (fun x _ => (intOf x).toNat)
          case atStart => exact ⟨j, rfl, by omega, by omega, rfl, HS1.out, HC1.out⟩
          case round =>
            obtain ⟨v2, rfl, h12, h22, HE2, HSa, HCa⟩ := hrel
            obtain ⟨B, HB⟩ : ∃ B, Hid ((decide (u1 ≤ v2) && ltI d'[a]! d'[v2]!) = B) := ⟨_, rfl⟩
            go_upto_region 5 with fail
            go_cut [59] (fun x wx => x = .bool B ∧ Hid (SRow wx g c d' ∧ Ch (fun k => k = g) w wx))
            case first =>
              by_cases hij : u1 ≤ v2
              · have c1 := HSa.out.cell (i := v2) (by rw [HD.out]; omega)
                have c2 := HSa.out.cell (i := a) (by rw [HD.out]; omega)
                have hB : (ltI d'[a]! d'[v2]!) = B := by have := HB.out; rwa [decide_eq_true hij, Bool.true_and] at this
                generalize d'[v2]! = x at c1 hB
                generalize d'[a]! = y at c2 hB
                obtain ⟨lv, hlv⟩ : ∃ lv, ltI y x = lv := ⟨_, rfl⟩
                have L := hide (less_any y x)
                rw [hlv] at L hB
                subst hB
                have i1 : (u1 : Int) ≤ (v2 : Int) := by omega
                have i2 : (v2 : Int) < (n : Int) := by omega
                have i3 : (0 : Int) ≤ (v2 : Int) := by omega
                have i4 : (a : Int) < (n : Int) := by omega
                have i5 : (0 : Int) ≤ (a : Int) := by omega
                clear hlv HB
                go_big_quiet ((go_at_call 67; exact Calls.quiet_of_same (L.out _)))
                go_wp2
                go_meet
                case rel => exact ⟨rfl, HSa.out.drewN _, HCa.out.drewN _⟩
              · have hB : false = B := by have := HB.out; rwa [decide_eq_false hij, Bool.false_and] at this
                subst hB
                have i1 : decide ((u1 : Int) ≤ (v2 : Int)) = false := decide_eq_false (by omega)
                have i2 : decide (u1 ≤ v2) = false := decide_eq_false hij
                clear HB
                go_big_quiet (fail)
                go_wp2
                go_meet
                case rel => exact ⟨rfl, HSa.out.drewN _, HCa.out.drewN _⟩
            case rest =>
              obtain ⟨rfl, HW⟩ := hcut
              cases B with
              | true =>
                have hon : u1 ≤ v2 ∧ (ltI d'[a]! d'[v2]!) = true := by have := HB.out; rwa [Bool.and_eq_true, decide_eq_true_eq] at this
                have hij := hon.1
                have HF : Hid (Go.Sort.scanDown (fun x => ltI d'[a]! x) d' u1 (v2 - 1) = Go.Sort.scanDown (fun x => ltI d'[a]! x) d' u1 j) := (scanDown_on (by omega) hon.1 hon.2).symm.trans HE2.out
                clear hon HB HSa HCa HE2
                go_wp2
                go_roundw
                case rel => exact ⟨v2 - 1, by go_num, by omega, by omega, HF.out, HW.out.1, HW.out.2⟩
                case measure => simp [intOf]; omega
              | false =>
                have HF2 : Hid (Go.Sort.scanDown (fun x => ltI d'[a]! x) d' u1 j = v2) := HE2.out.symm.trans (scanDown_off HB.out)
                have HS2 : Hid (SRow wc g c d') := HW.out.1
                have HC2 : Hid (Ch (fun k => k = g) w wc) := HW.out.2
                clear HB HSa HCa HE2 HW
                by_cases hex : v2 < u1
                · have i1 : (v2 : Int) < (u1 : Int) := by omega
                  have HX : Hid ((u1, d') = D) := by
                    show _ = _
                    rw [← HE.out, Go.Sort.partEqLoop_eq, HF1.out, HF2.out, if_pos hex]
                  go_wp2
                  go_ret
                  have hx := HX.out
                  subst hx
                  exact ⟨rfl, HS2.out, HC2.out⟩
                · have i1 : ¬ (v2 : Int) < (u1 : Int) := by omega
                  have HX : Hid (Go.Sort.partEqLoop ltI a (u1 + 1) (v2 - 1) (Go.Sort.swp d' u1 v2) = D) := by
                    show _ = _
                    rw [← HE.out, Go.Sort.partEqLoop_eq ltI a i j d', HF1.out, HF2.out, if_neg hex]
                  have HSw3 := hide (fun q => (HS2.out.drewN q).swap (i := u1) (j := v2) (by rw [HD.out]; omega) (by rw [HD.out]; omega))
                  have HCw3 := hide (fun q => ch_swap (HC2.out.drewN q) u1 v2 (.int .u64 d'[v2]!) (.int .u64 d'[u1]!))
                  have HSz3 : Hid ((Go.Sort.swp d' u1 v2).size = n) := (size_swp _ _ _).trans HD.out
                  have j1 : (u1 : Int) < (n : Int) := by omega
                  have j2 : (v2 : Int) < (n : Int) := by omega
                  have j3 : (0 : Int) ≤ (u1 : Int) := by omega
                  have j4 : (0 : Int) ≤ (v2 : Int) := by omega
                  obtain ⟨c1, c2, f1, f2, v3, c3⟩ := HS2.out.two (i := u1) (j := v2) (by rw [HD.out]; omega) (by rw [HD.out]; omega)
                  generalize d'[u1]! = x3 at c1 c2 c3 HSw3 HCw3
                  generalize d'[v2]! = y3 at c1 c2 c3 HSw3 HCw3
                  clear HE HF1 HF2
                  go_wp2
                  go_region
                  go_wp2
                  go_roundw
                  case rel => exact ⟨u1 + 1, v2 - 1, _, by go_num, by go_num, by omega, by omega, by omega, by omega, HX.out, HSz3.out, HSw3.out 1, HCw3.out 1⟩
                  case measure => simp [intOf]; omega
end Go.Proofs.Ytlhiikibbppodaa

namespace Go.Proofs.Ytlhiikibbppodaa
open Go.RowKit

theorem part_done {d : Array Int} {a b pv : Nat} (I J : Nat) (hI : Go.Sort.scanUp (fun x => ltI x (Go.Sort.swp d a pv)[a]!) (Go.Sort.swp d a pv) (b - 1) (a + 1) = I) (hJ : Go.Sort.scanDown (fun x => !ltI x (Go.Sort.swp d a pv)[a]!) (Go.Sort.swp d a pv) I (b - 1) = J) (h : J < I) :
    Go.Sort.partition ltI d a b pv = (J, true, Go.Sort.swp (Go.Sort.swp d a pv) J a) := by
  unfold Go.Sort.partition
  simp only [hI, hJ]
  rw [if_pos h]
theorem part_more {d : Array Int} {a b pv : Nat} (I J : Nat) (hI : Go.Sort.scanUp (fun x => ltI x (Go.Sort.swp d a pv)[a]!) (Go.Sort.swp d a pv) (b - 1) (a + 1) = I) (hJ : Go.Sort.scanDown (fun x => !ltI x (Go.Sort.swp d a pv)[a]!) (Go.Sort.swp d a pv) I (b - 1) = J) (h : ¬ J < I) :
    Go.Sort.partition ltI d a b pv = ((Go.Sort.partLoop ltI a (I + 1) (J - 1) (Go.Sort.swp (Go.Sort.swp d a pv) I J)).1, false, Go.Sort.swp (Go.Sort.partLoop ltI a (I + 1) (J - 1) (Go.Sort.swp (Go.Sort.swp d a pv) I J)).2 (Go.Sort.partLoop ltI a (I + 1) (J - 1) (Go.Sort.swp (Go.Sort.swp d a pv) I J)).1 a) := by
  unfold Go.Sort.partition
  simp only [hI, hJ]
  rw [if_neg h]

set_option maxRecDepth 20000 in
set_option maxHeartbeats 16000000 in
theorem part_any (g c cp : Nat) (d : Array Int) (a b pv : Nat) (w : World) (h : SRow w g c d) (hap : a ≤ pv) (hpb : pv < b) (hb : b ≤ d.size) :
    Calls Try.prog 69 #[.slice (some ⟨g, 0, none⟩) d.size cp, .int .i64 a, .int .i64 b, .int .i64 pv] w fun e w' => e = .returned (.tuple #[.int .i64 ((Go.Sort.partition ltI d a b pv).1 : Nat), .bool (Go.Sort.partition ltI d a b pv).2.1]) ∧ SRow w' g c (Go.Sort.partition ltI d a b pv).2.2 ∧ Ch (fun k => k = g) w w' := by
  have H := hide h
  have hr := h.room
  have C0 : Hid (Ch (fun k => k = g) w w) := Ch.refl _ _
  obtain ⟨n, HN⟩ : ∃ n, Hid (d.size = n) := ⟨_, rfl⟩
  obtain ⟨D, HDD⟩ : ∃ D, Hid (Go.Sort.partition ltI d a b pv = D) := ⟨_, rfl⟩
  rw [HN.out] at hb hr ⊢
  rw [HDD.out]
  clear h
  have HSw0 := hide (fun q => (H.out.drewN q).swap (i := a) (j := pv) (by rw [HN.out]; omega) (by rw [HN.out]; omega))
  have HCw0 := hide (fun q => ch_swap (C0.out.drewN q) a pv (.int .u64 d[pv]!) (.int .u64 d[a]!))
  have HSz0 : Hid ((Go.Sort.swp d a pv).size = n) := (size_swp _ _ _).trans HN.out
  have j1 : (a : Int) < (n : Int) := by omega
  have j2 : (pv : Int) < (n : Int) := by omega
  have j3 : (0 : Int) ≤ (a : Int) := by omega
  have j4 : (0 : Int) ≤ (pv : Int) := by omega
  obtain ⟨c1, c2, f1, f2, v0, c3⟩ := H.out.two (i := a) (j := pv) (by rw [HN.out]; omega) (by rw [HN.out]; omega)
  generalize d[a]! = x0 at c1 c2 c3 HSw0 HCw0
  generalize d[pv]! = y0 at c1 c2 c3 HSw0 HCw0
  obtain ⟨d1, HD1⟩ : ∃ d1, Hid (Go.Sort.swp d a pv = d1) := ⟨_, rfl⟩
  obtain ⟨i0, HI0⟩ : ∃ i0, Hid (a + 1 = i0) := ⟨_, rfl⟩
  obtain ⟨j0, HJ0⟩ : ∃ j0, Hid (b - 1 = j0) := ⟨_, rfl⟩
  have hi0 := HI0.out
  have hj0 := HJ0.out
  have q1 : a < i0 := by omega
  have q2 : i0 ≤ b + 1 := by omega
  have q3 : a ≤ j0 := by omega
  have q4 : j0 < b := by omega
  have e1 : (a : Int) + 1 = (i0 : Int) := by omega
  have e2 : (b : Int) - 1 = (j0 : Int) := by omega
  have part_done := hide (part_done (d := d) (a := a) (b := b) (pv := pv))
  have part_more := hide (part_more (d := d) (a := a) (b := b) (pv := pv))
  rw [HD1.out] at HSz0 HSw0 part_done part_more
  rw [HI0.out, HJ0.out] at part_done part_more
  have HZ1 : Hid (d1.size = n) := HSz0.out
  have HW0 := hide (HSw0.out 1)
  have HV0 := hide (HCw0.out 1)
  clear hi0 hj0
  go_enter Try.func69, Try.ntmps69
  go_wp2
  go_region
  go_wp2
  clear c1 c2 c3 f1 f2
  go_loopw [10] (fun x wr => ∃ (u1 : Nat), x = .int .i64 u1 ∧ i0 ≤ u1 ∧ u1 ≤ b + 1 ∧ Hid (Go.Sort.scanUp (fun x => ltI x d1[a]!) d1 j0 u1 = Go.Sort.scanUp (fun x => ltI x d1[a]!) d1 j0 i0) ∧ Hid (SRow wr g c d1) ∧ Hid (Ch (fun k => k = g) w wr)) (fun x _ => b + 1 - (intOf x).toNat)
  case atStart => exact ⟨i0, rfl, by omega, by omega, rfl, HW0.out, HV0.out⟩
  case round =>
    obtain ⟨u1, rfl, h11, h21, HE1, HSa, HCa⟩ := hrel
    obtain ⟨B, HB⟩ : ∃ B, Hid ((decide (u1 ≤ j0) && ltI d1[u1]! d1[a]!) = B) := ⟨_, rfl⟩
    go_upto_region 3 with fail
    go_cut [43] (fun x wx => x = .bool B ∧ Hid (SRow wx g c d1 ∧ Ch (fun k => k = g) w wx))
    case first =>
      by_cases hij : u1 ≤ j0
      · have c1 := HSa.out.cell (i := u1) (by rw [HZ1.out]; omega)
        have c2 := HSa.out.cell (i := a) (by rw [HZ1.out]; omega)
        have hB : (ltI d1[u1]! d1[a]!) = B := by have := HB.out; rwa [decide_eq_true hij, Bool.true_and] at this
        generalize d1[u1]! = x at c1 hB
        generalize d1[a]! = y at c2 hB
        obtain ⟨lv, hlv⟩ : ∃ lv, ltI x y = lv := ⟨_, rfl⟩
        have L := hide (less_any x y)
        rw [hlv] at L hB
        subst hB
        have i1 : (u1 : Int) ≤ (j0 : Int) := by omega
        have i2 : (u1 : Int) < (n : Int) := by omega
        have i3 : (0 : Int) ≤ (u1 : Int) := by omega
        have i4 : (a : Int) < (n : Int) := by omega
        have i5 : (0 : Int) ≤ (a : Int) := by omega
        clear hlv HB
        go_big_quiet ((go_at_call 67; exact Calls.quiet_of_same (L.out _)))
        go_wp2
        go_meet
        case rel => exact ⟨rfl, HSa.out.drewN _, HCa.out.drewN _⟩
      · have hB : false = B := by have := HB.out; rwa [decide_eq_false hij, Bool.false_and] at this
        subst hB
        have i1 : decide ((u1 : Int) ≤ (j0 : Int)) = false := decide_eq_false (by omega)
        have i2 : decide (u1 ≤ j0) = false := decide_eq_false hij
        clear HB
        go_big_quiet (fail)
        go_wp2
        go_meet
        case rel => exact ⟨rfl, HSa.out.drewN _, HCa.out.drewN _⟩
    case rest =>
      obtain ⟨rfl, HW⟩ := hcut
      cases B with
      | true =>
        have hon : u1 ≤ j0 ∧ (ltI d1[u1]! d1[a]!) = true := by have := HB.out; rwa [Bool.and_eq_true, decide_eq_true_eq] at this
        have hij := hon.1
        have HF : Hid (Go.Sort.scanUp (fun x => ltI x d1[a]!) d1 j0 (u1 + 1) = Go.Sort.scanUp (fun x => ltI x d1[a]!) d1 j0 i0) := (scanUp_on hon.1 hon.2).symm.trans HE1.out
        clear hon HB HSa HCa HE1
        go_wp2
        go_roundw
        case rel => exact ⟨u1 + 1, by go_num, by omega, by omega, HF.out, HW.out.1, HW.out.2⟩
        case measure => simp [intOf]; omega
      | false =>
        have HF1 : Hid (Go.Sort.scanUp (fun x => ltI x d1[a]!) d1 j0 i0 = u1) := HE1.out.symm.trans (scanUp_off HB.out)
        have HS1 : Hid (SRow wc g c d1) := HW.out.1
        have HC1 : Hid (Ch (fun k => k = g) w wc) := HW.out.2
        clear HB HSa HCa HE1 HW
        go_wp2
        go_loopw [11] (fun x wr => ∃ (v2 : Nat), x = .int .i64 v2 ∧ a ≤ v2 ∧ v2 ≤ j0 ∧ Hid (Go.Sort.scanDown (fun x => !ltI x d1[a]!) d1 u1 v2 = Go.Sort.scanDown (fun x => !ltI x d1[a]!) d1 u1 j0) ∧ Hid (SRow wr g c d1) ∧ Hid (Ch (fun k => k = g) w wr)) (fun x _ => (intOf x).toNat)
        case atStart => exact ⟨j0, rfl, by omega, by omega, rfl, HS1.out, HC1.out⟩
        case round =>
          obtain ⟨v2, rfl, h12, h22, HE2, HSa, HCa⟩ := hrel
          obtain ⟨B, HB⟩ : ∃ B, Hid ((decide (u1 ≤ v2) && !ltI d1[v2]! d1[a]!) = B) := ⟨_, rfl⟩
          go_upto_region 5 with fail
          go_cut [60] (fun x wx => x = .bool B ∧ Hid (SRow wx g c d1 ∧ Ch (fun k => k = g) w wx))
          case first =>
            by_cases hij : u1 ≤ v2
            · have c1 := HSa.out.cell (i := v2) (by rw [HZ1.out]; omega)
              have c2 := HSa.out.cell (i := a) (by rw [HZ1.out]; omega)
              have hB : (!ltI d1[v2]! d1[a]!) = B := by have := HB.out; rwa [decide_eq_true hij, Bool.true_and] at this
              generalize d1[v2]! = x at c1 hB
              generalize d1[a]! = y at c2 hB
              obtain ⟨lv, hlv⟩ : ∃ lv, ltI x y = lv := ⟨_, rfl⟩
              have L := hide (less_any x y)
              rw [hlv] at L hB
              subst hB
              have i1 : (u1 : Int) ≤ (v2 : Int) := by omega
              have i2 : (v2 : Int) < (n : Int) := by omega
              have i3 : (0 : Int) ≤ (v2 : Int) := by omega
              have i4 : (a : Int) < (n : Int) := by omega
              have i5 : (0 : Int) ≤ (a : Int) := by omega
              clear hlv HB
              go_big_quiet ((go_at_call 67; exact Calls.quiet_of_same (L.out _)))
              go_wp2
              go_meet
              case rel => exact ⟨rfl, HSa.out.drewN _, HCa.out.drewN _⟩
            · have hB : false = B := by have := HB.out; rwa [decide_eq_false hij, Bool.false_and] at this
              subst hB
              have i1 : decide ((u1 : Int) ≤ (v2 : Int)) = false := decide_eq_false (by omega)
              have i2 : decide (u1 ≤ v2) = false := decide_eq_false hij
              clear HB
              go_big_quiet (fail)
              go_wp2
              go_meet
              case rel => exact ⟨rfl, HSa.out.drewN _, HCa.out.drewN _⟩
          case rest =>
            obtain ⟨rfl, HW⟩ := hcut
            cases B with
            | true =>
              have hon : u1 ≤ v2 ∧ (!ltI d1[v2]! d1[a]!) = true := by have := HB.out; rwa [Bool.and_eq_true, decide_eq_true_eq] at this
              have hij := hon.1
              have HF : Hid (Go.Sort.scanDown (fun x => !ltI x d1[a]!) d1 u1 (v2 - 1) = Go.Sort.scanDown (fun x => !ltI x d1[a]!) d1 u1 j0) := (scanDown_on (by omega) hon.1 hon.2).symm.trans HE2.out
              clear hon HB HSa HCa HE2
              go_wp2
              go_roundw
              case rel => exact ⟨v2 - 1, by go_num, by omega, by omega, HF.out, HW.out.1, HW.out.2⟩
              case measure => simp [intOf]; omega
            | false =>
              have HF2 : Hid (Go.Sort.scanDown (fun x => !ltI x d1[a]!) d1 u1 j0 = v2) := HE2.out.symm.trans (scanDown_off HB.out)
              have HS2 : Hid (SRow wc g c d1) := HW.out.1
              have HC2 : Hid (Ch (fun k => k = g) w wc) := HW.out.2
              clear HB HSa HCa HE2 HW
              by_cases hex : v2 < u1
              · have i1 : (v2 : Int) < (u1 : Int) := by omega
                have HX : Hid ((v2, true, Go.Sort.swp d1 v2 a) = D) := by
                  show _ = _
                  rw [← HDD.out, part_done.out _ _ HF1.out HF2.out hex]
                have HSw3 := hide (fun q => (HS2.out.drewN q).swap (i := v2) (j := a) (by rw [HZ1.out]; omega) (by rw [HZ1.out]; omega))
                have HCw3 := hide (fun q => ch_swap (HC2.out.drewN q) v2 a (.int .u64 d1[a]!) (.int .u64 d1[v2]!))
                have HSz3 : Hid ((Go.Sort.swp d1 v2 a).size = n) := (size_swp _ _ _).trans HZ1.out
                have j1 : (v2 : Int) < (n : Int) := by omega
                have j2 : (a : Int) < (n : Int) := by omega
                have j3 : (0 : Int) ≤ (v2 : Int) := by omega
                have j4 : (0 : Int) ≤ (a : Int) := by omega
                obtain ⟨c1, c2, f1, f2, v3, c3⟩ := HS2.out.two (i := v2) (j := a) (by rw [HZ1.out]; omega) (by rw [HZ1.out]; omega)
                generalize d1[v2]! = x3 at c1 c2 c3 HSw3 HCw3
                generalize d1[a]! = y3 at c1 c2 c3 HSw3 HCw3
                clear HF1 HF2
                go_wp2
                go_region
                go_wp2
                refine bodyPost_ret (results_tmp2 rfl _ _ _) rfl ?_
                have hx := HX.out
                subst hx
                exact ⟨rfl, HSw3.out 1, HCw3.out 1⟩
              · have i1 : ¬ (v2 : Int) < (u1 : Int) := by omega
                obtain ⟨R, HR0⟩ : ∃ R, Hid (Go.Sort.partLoop ltI a (u1 + 1) (v2 - 1) (Go.Sort.swp d1 u1 v2) = R) := ⟨_, rfl⟩
                have HR : Hid ((R.1, false, Go.Sort.swp R.2 R.1 a) = D) := by
                  show _ = _
                  rw [← HDD.out, part_more.out _ _ HF1.out HF2.out hex, HR0.out]
                have HSw3 := hide (fun q => (HS2.out.drewN q).swap (i := u1) (j := v2) (by rw [HZ1.out]; omega) (by rw [HZ1.out]; omega))
                have HCw3 := hide (fun q => ch_swap (HC2.out.drewN q) u1 v2 (.int .u64 d1[v2]!) (.int .u64 d1[u1]!))
                have HSz3 : Hid ((Go.Sort.swp d1 u1 v2).size = n) := (size_swp _ _ _).trans HZ1.out
                have j1 : (u1 : Int) < (n : Int) := by omega
                have j2 : (v2 : Int) < (n : Int) := by omega
                have j3 : (0 : Int) ≤ (u1 : Int) := by omega
                have j4 : (0 : Int) ≤ (v2 : Int) := by omega
                obtain ⟨c1, c2, f1, f2, v3, c3⟩ := HS2.out.two (i := u1) (j := v2) (by rw [HZ1.out]; omega) (by rw [HZ1.out]; omega)
                generalize d1[u1]! = x3 at c1 c2 c3 HSw3 HCw3
                generalize d1[v2]! = y3 at c1 c2 c3 HSw3 HCw3
                clear HF1 HF2
                go_wp2
                go_region
                go_wp2
                clear c1 c2 c3 f1 f2
                go_loopw [10, 11] (fun x10 x11 wr => ∃ (i j : Nat) (d' : Array Int), x10 = .int .i64 i ∧ x11 = .int .i64 j ∧ a < i ∧ i ≤ b + 1 ∧ a ≤ j ∧ j < b ∧ Hid (Go.Sort.partLoop ltI a i j d' = R) ∧ Hid (d'.size = n) ∧ Hid (SRow wr g c d') ∧ Hid (Ch (fun k => k = g) w wr)) (fun x10 x11 _ => (intOf x11).toNat + 1 - (intOf x10).toNat)
                case atStart => exact ⟨u1 + 1, v2 - 1, _, by go_num, by go_num, by omega, by omega, by omega, by omega, HR0.out, HSz3.out, HSw3.out 1, HCw3.out 1⟩
                case round =>
                  obtain ⟨i, j, d', rfl, rfl, hi, hib, haj, hj, HE, HD, HS, HC⟩ := hrel
                  go_wp2
                  go_loopw [10] (fun x wr => ∃ (u4 : Nat), x = .int .i64 u4 ∧ i ≤ u4 ∧ u4 ≤ b + 1 ∧ Hid (Go.Sort.scanUp (fun x => ltI x d'[a]!) d' j u4 = Go.Sort.scanUp (fun x => ltI x d'[a]!) d' j i) ∧ Hid (SRow wr g c d') ∧ Hid (Ch (fun k => k = g) w wr)) (fun x _ => b + 1 - (intOf x).toNat)
                  case atStart => exact ⟨i, rfl, by omega, by omega, rfl, HS.out, HC.out⟩
                  case round =>
                    obtain ⟨u4, rfl, h14, h24, HE4, HSa, HCa⟩ := hrel
                    obtain ⟨B, HB⟩ : ∃ B, Hid ((decide (u4 ≤ j) && ltI d'[u4]! d'[a]!) = B) := ⟨_, rfl⟩
                    go_upto_region 13 with fail
                    go_cut [112] (fun x wx => x = .bool B ∧ Hid (SRow wx g c d' ∧ Ch (fun k => k = g) w wx))
                    case first =>
                      by_cases hij : u4 ≤ j
                      · have c1 := HSa.out.cell (i := u4) (by rw [HD.out]; omega)
                        have c2 := HSa.out.cell (i := a) (by rw [HD.out]; omega)
                        have hB : (ltI d'[u4]! d'[a]!) = B := by have := HB.out; rwa [decide_eq_true hij, Bool.true_and] at this
                        generalize d'[u4]! = x at c1 hB
                        generalize d'[a]! = y at c2 hB
                        obtain ⟨lv, hlv⟩ : ∃ lv, ltI x y = lv := ⟨_, rfl⟩
                        have L := hide (less_any x y)
                        rw [hlv] at L hB
                        subst hB
                        have i1 : (u4 : Int) ≤ (j : Int) := by omega
                        have i2 : (u4 : Int) < (n : Int) := by omega
                        have i3 : (0 : Int) ≤ (u4 : Int) := by omega
                        have i4 : (a : Int) < (n : Int) := by omega
                        have i5 : (0 : Int) ≤ (a : Int) := by omega
                        clear hlv HB
                        go_big_quiet ((go_at_call 67; exact Calls.quiet_of_same (L.out _)))
                        go_wp2
                        go_meet
                        case rel => exact ⟨rfl, HSa.out.drewN _, HCa.out.drewN _⟩
                      · have hB : false = B := by have := HB.out; rwa [decide_eq_false hij, Bool.false_and] at this
                        subst hB
                        have i1 : decide ((u4 : Int) ≤ (j : Int)) = false := decide_eq_false (by omega)
                        have i2 : decide (u4 ≤ j) = false := decide_eq_false hij
                        clear HB
                        go_big_quiet (fail)
                        go_wp2
                        go_meet
                        case rel => exact ⟨rfl, HSa.out.drewN _, HCa.out.drewN _⟩
                    case rest =>
                      obtain ⟨rfl, HW⟩ := hcut
                      cases B with
                      | true =>
                        have hon : u4 ≤ j ∧ (ltI d'[u4]! d'[a]!) = true := by have := HB.out; rwa [Bool.and_eq_true, decide_eq_true_eq] at this
                        have hij := hon.1
                        have HF : Hid (Go.Sort.scanUp (fun x => ltI x d'[a]!) d' j (u4 + 1) = Go.Sort.scanUp (fun x => ltI x d'[a]!) d' j i) := (scanUp_on hon.1 hon.2).symm.trans HE4.out
                        clear hon HB HSa HCa HE4
                        go_wp2
                        go_roundw
                        case rel => exact ⟨u4 + 1, by go_num, by omega, by omega, HF.out, HW.out.1, HW.out.2⟩
                        case measure => simp [intOf]; omega
                      | false =>
                        have HF4 : Hid (Go.Sort.scanUp (fun x => ltI x d'[a]!) d' j i = u4) := HE4.out.symm.trans (scanUp_off HB.out)
                        have HS4 : Hid (SRow wc g c d') := HW.out.1
                        have HC4 : Hid (Ch (fun k => k = g) w wc) := HW.out.2
                        clear HB HSa HCa HE4 HW
                        go_wp2
                        go_loopw [11] (fun x wr => ∃ (v5 : Nat), x = .int .i64 v5 ∧ a ≤ v5 ∧ v5 ≤ j ∧ Hid (Go.Sort.scanDown (fun x => !ltI x d'[a]!) d' u4 v5 = Go.Sort.scanDown (fun x => !ltI x d'[a]!) d' u4 j) ∧ Hid (SRow wr g c d') ∧ Hid (Ch (fun k => k = g) w wr)) (fun x _ => (intOf x).toNat)
                        case atStart => exact ⟨j, rfl, by omega, by omega, rfl, HS4.out, HC4.out⟩
                        case round =>
                          obtain ⟨v5, rfl, h15, h25, HE5, HSa, HCa⟩ := hrel
                          obtain ⟨B, HB⟩ : ∃ B, Hid ((decide (u4 ≤ v5) && !ltI d'[v5]! d'[a]!) = B) := ⟨_, rfl⟩
                          go_upto_region 15 with fail
                          go_cut [129] (fun x wx => x = .bool B ∧ Hid (SRow wx g c d' ∧ Ch (fun k => k = g) w wx))
                          case first =>
                            by_cases hij : u4 ≤ v5
                            · have c1 := HSa.out.cell (i := v5) (by rw [HD.out]; omega)
                              have c2 := HSa.out.cell (i := a) (by rw [HD.out]; omega)
                              have hB : (!ltI d'[v5]! d'[a]!) = B := by have := HB.out; rwa [decide_eq_true hij, Bool.true_and] at this
                              generalize d'[v5]! = x at c1 hB
                              generalize d'[a]! = y at c2 hB
                              obtain ⟨lv, hlv⟩ : ∃ lv, ltI x y = lv := ⟨_, rfl⟩
                              have L := hide (less_any x y)
                              rw [hlv] at L hB
                              subst hB
                              have i1 : (u4 : Int) ≤ (v5 : Int) := by omega
                              have i2 : (v5 : Int) < (n : Int) := by omega
                              have i3 : (0 : Int) ≤ (v5 : Int) := by omega
                              have i4 : (a : Int) < (n : Int) := by omega
                              have i5 : (0 : Int) ≤ (a : Int) := by omega
                              clear hlv HB
                              go_big_quiet ((go_at_call 67; exact Calls.quiet_of_same (L.out _)))
                              go_wp2
                              go_meet
                              case rel => exact ⟨rfl, HSa.out.drewN _, HCa.out.drewN _⟩
                            · have hB : false = B := by have := HB.out; rwa [decide_eq_false hij, Bool.false_and] at this
                              subst hB
                              have i1 : decide ((u4 : Int) ≤ (v5 : Int)) = false := decide_eq_false (by omega)
                              have i2 : decide (u4 ≤ v5) = false := decide_eq_false hij
                              clear HB
                              go_big_quiet (fail)
                              go_wp2
                              go_meet
                              case rel => exact ⟨rfl, HSa.out.drewN _, HCa.out.drewN _⟩
                          case rest =>
                            obtain ⟨rfl, HW⟩ := hcut
                            cases B with
                            | true =>
                              have hon : u4 ≤ v5 ∧ (!ltI d'[v5]! d'[a]!) = true := by have := HB.out; rwa [Bool.and_eq_true, decide_eq_true_eq] at this
                              have hij := hon.1
                              have HF : Hid (Go.Sort.scanDown (fun x => !ltI x d'[a]!) d' u4 (v5 - 1) = Go.Sort.scanDown (fun x => !ltI x d'[a]!) d' u4 j) := (scanDown_on (by omega) hon.1 hon.2).symm.trans HE5.out
                              clear hon HB HSa HCa HE5
                              go_wp2
                              go_roundw
                              case rel => exact ⟨v5 - 1, by go_num, by omega, by omega, HF.out, HW.out.1, HW.out.2⟩
                              case measure => simp [intOf]; omega
                            | false =>
                              have HF5 : Hid (Go.Sort.scanDown (fun x => !ltI x d'[a]!) d' u4 j = v5) := HE5.out.symm.trans (scanDown_off HB.out)
                              have HS5 : Hid (SRow wc g c d') := HW.out.1
                              have HC5 : Hid (Ch (fun k => k = g) w wc) := HW.out.2
                              clear HB HSa HCa HE5 HW
                              by_cases hex5 : v5 < u4
                              · have i1 : (v5 : Int) < (u4 : Int) := by omega
                                have HX : Hid ((v5, d') = R) := by
                                  show _ = _
                                  rw [← HE.out, Go.Sort.partLoop_eq, HF4.out, HF5.out, if_pos hex5]
                                have HY : Hid ((v5, false, Go.Sort.swp d' v5 a) = D) := by
                                  show _ = _
                                  rw [← HR.out, ← HX.out]
                                have HSw6 := hide (fun q => (HS5.out.drewN q).swap (i := v5) (j := a) (by rw [HD.out]; omega) (by rw [HD.out]; omega))
                                have HCw6 := hide (fun q => ch_swap (HC5.out.drewN q) v5 a (.int .u64 d'[a]!) (.int .u64 d'[v5]!))
                                have HSz6 : Hid ((Go.Sort.swp d' v5 a).size = n) := (size_swp _ _ _).trans HD.out
                                have j1 : (v5 : Int) < (n : Int) := by omega
                                have j2 : (a : Int) < (n : Int) := by omega
                                have j3 : (0 : Int) ≤ (v5 : Int) := by omega
                                have j4 : (0 : Int) ≤ (a : Int) := by omega
                                obtain ⟨c1, c2, f1, f2, v6, c3⟩ := HS5.out.two (i := v5) (j := a) (by rw [HD.out]; omega) (by rw [HD.out]; omega)
                                generalize d'[v5]! = x6 at c1 c2 c3 HSw6 HCw6
                                generalize d'[a]! = y6 at c1 c2 c3 HSw6 HCw6
                                clear HE HF4 HF5
                                go_wp2
                                go_region
                                go_wp2
                                refine bodyPost_ret (results_tmp2 rfl _ _ _) rfl ?_
                                have hx := HY.out
                                subst hx
                                exact ⟨rfl, HSw6.out 1, HCw6.out 1⟩
                              · have i1 : ¬ (v5 : Int) < (u4 : Int) := by omega
                                have HX : Hid (Go.Sort.partLoop ltI a (u4 + 1) (v5 - 1) (Go.Sort.swp d' u4 v5) = R) := by
                                  show _ = _
                                  rw [← HE.out, Go.Sort.partLoop_eq ltI a i j d', HF4.out, HF5.out, if_neg hex5]
                                have HSw7 := hide (fun q => (HS5.out.drewN q).swap (i := u4) (j := v5) (by rw [HD.out]; omega) (by rw [HD.out]; omega))
                                have HCw7 := hide (fun q => ch_swap (HC5.out.drewN q) u4 v5 (.int .u64 d'[v5]!) (.int .u64 d'[u4]!))
                                have HSz7 : Hid ((Go.Sort.swp d' u4 v5).size = n) := (size_swp _ _ _).trans HD.out
                                have j1 : (u4 : Int) < (n : Int) := by omega
                                have j2 : (v5 : Int) < (n : Int) := by omega
                                have j3 : (0 : Int) ≤ (u4 : Int) := by omega
                                have j4 : (0 : Int) ≤ (v5 : Int) := by omega
                                obtain ⟨c1, c2, f1, f2, v7, c3⟩ := HS5.out.two (i := u4) (j := v5) (by rw [HD.out]; omega) (by rw [HD.out]; omega)
                                generalize d'[u4]! = x7 at c1 c2 c3 HSw7 HCw7
                                generalize d'[v5]! = y7 at c1 c2 c3 HSw7 HCw7
                                clear HE HF4 HF5
                                go_wp2
                                go_region
                                go_wp2
                                go_roundw
                                case rel => exact ⟨u4 + 1, v5 - 1, _, by go_num, by go_num, by omega, by omega, by omega, by omega, HX.out, HSz7.out, HSw7.out 1, HCw7.out 1⟩
                                case measure => simp [intOf]; omega
end Go.Proofs.Ytlhiikibbppodaa

namespace Go.Proofs.Ytlhiikibbppodaa
open Go.RowKit

theorem scanSorted_on {d : Array Int} {b i k : Nat} (hk : i - 1 = k) (h : i < b) (hl : (!ltI d[i]! d[k]!) = true) : Go.Sort.scanSorted ltI d b i = Go.Sort.scanSorted ltI d b (i + 1) := by
  subst hk
  rw [Go.Sort.scanSorted, if_pos (by simp only [h, decide_true, Bool.true_and]; exact hl)]
theorem scanSorted_off {d : Array Int} {b i k : Nat} (hk : i - 1 = k) (h : (decide (i < b) && !ltI d[i]! d[k]!) = false) : Go.Sort.scanSorted ltI d b i = i := by
  subst hk
  rw [Go.Sort.scanSorted, if_neg (by rw [h]; exact Bool.false_ne_true)]
theorem shiftDown_on {d : Array Int} {j m : Nat} (hm : j = m + 1) (hl : ltI d[j]! d[m]! = true) : Go.Sort.shiftDown ltI j d = Go.Sort.shiftDown ltI m (Go.Sort.swp d j m) := by
  subst hm
  rw [Go.Sort.shiftDown, if_neg (by rw [hl]; exact Bool.false_ne_true)]
theorem shiftDown_off {d : Array Int} {j m : Nat} (hm : j = m + 1) (hl : ltI d[j]! d[m]! = false) : Go.Sort.shiftDown ltI j d = d := by
  subst hm
  rw [Go.Sort.shiftDown, if_pos (by rw [hl]; rfl)]
theorem shiftDown_end {d : Array Int} {j : Nat} (h : j = 0) : Go.Sort.shiftDown ltI j d = d := by
  subst h
  rfl
theorem shiftUp_on {d : Array Int} {b j m : Nat} (h : j < b) (hm : j = m + 1) (hl : ltI d[j]! d[m]! = true) : Go.Sort.shiftUp ltI b j d = Go.Sort.shiftUp ltI b (j + 1) (Go.Sort.swp d j m) := by
  obtain rfl : m = j - 1 := by omega
  rw [Go.Sort.shiftUp, if_pos h, if_neg (by rw [hl]; exact Bool.false_ne_true)]
theorem shiftUp_off {d : Array Int} {b j m : Nat} (hm : j = m + 1) (hl : ltI d[j]! d[m]! = false) : Go.Sort.shiftUp ltI b j d = d := by
  obtain rfl : m = j - 1 := by omega
  rw [Go.Sort.shiftUp]
  by_cases h : j < b
  · rw [if_pos h, if_pos (by rw [hl]; rfl)]
  · rw [if_neg h]
theorem shiftUp_end {d : Array Int} {b j : Nat} (h : b ≤ j) : Go.Sort.shiftUp ltI b j d = d := by
  rw [Go.Sort.shiftUp, if_neg (by omega)]

/-- The step behind the words that are in order: both shifts. -/
theorem partial_last {d : Array Int} {a b s i u : Nat} (hu : Go.Sort.scanSorted ltI d b i = u) (h : u = b) : Go.Sort.partialIns ltI a b (s + 1) i d = (d, true) := by
  rw [Go.Sort.partialIns_succ]
  simp only [hu]
  rw [if_pos h]
theorem partial_few {d : Array Int} {a b s i u : Nat} (hu : Go.Sort.scanSorted ltI d b i = u) (h : ¬ u = b) (h2 : b - a < 50) : Go.Sort.partialIns ltI a b (s + 1) i d = (d, false) := by
  rw [Go.Sort.partialIns_succ]
  simp only [hu]
  rw [if_neg h, if_pos h2]
theorem partial_on {d : Array Int} {a b s i u k : Nat} (hk : u - 1 = k) (hu : Go.Sort.scanSorted ltI d b i = u) (h : ¬ u = b) (h2 : ¬ b - a < 50) : Go.Sort.partialIns ltI a b (s + 1) i d = Go.Sort.partialIns ltI a b s u (Go.Sort.fixUp ltI b u (Go.Sort.fixDown ltI a u (Go.Sort.swp d u k))) := by
  subst hk
  rw [Go.Sort.partialIns_succ]
  simp only [hu]
  rw [if_neg h, if_neg h2]
theorem size_shiftDown {n : Nat} (j : Nat) (d : Array Int) (h : d.size = n) : (Go.Sort.shiftDown ltI j d).size = n := by
  induction j generalizing d with
  | zero => exact h
  | succ j ih =>
    rw [Go.Sort.shiftDown]
    split
    · exact h
    · exact ih _ ((size_swp _ _ _).trans h)
theorem size_fixDown {n a i : Nat} {d : Array Int} (h : d.size = n) : (Go.Sort.fixDown ltI a i d).size = n := by
  unfold Go.Sort.fixDown
  split
  · exact size_shiftDown _ _ h
  · exact h

set_option maxRecDepth 20000 in
set_option maxHeartbeats 16000000 in
theorem partial_any (g c cp : Nat) (d : Array Int) (a b : Nat) (w : World) (h : SRow w g c d) (hab : a < b) (hb : b ≤ d.size) :
    Calls Try.prog 66 #[.slice (some ⟨g, 0, none⟩) d.size cp, .int .i64 a, .int .i64 b] w fun e w' => e = .returned (.bool (Go.Sort.partialInsertionSort ltI d a b).2) ∧ SRow w' g c (Go.Sort.partialInsertionSort ltI d a b).1 ∧ Ch (fun k => k = g) w w' := by
  have H := hide h
  have hr := h.room
  obtain ⟨n, HN⟩ : ∃ n, Hid (d.size = n) := ⟨_, rfl⟩
  obtain ⟨D, HDD⟩ : ∃ D, Hid (Go.Sort.partialInsertionSort ltI d a b = D) := ⟨_, rfl⟩
  rw [HN.out] at hb hr ⊢
  rw [HDD.out]
  clear h
  go_enter Try.func66, Try.ntmps66
  go_wp2
  go_loopw [8, 7] (fun x8 x7 wr => ∃ (t i : Nat) (d' : Array Int), x8 = .int .i64 t ∧ x7 = .int .i64 i ∧ t ≤ 5 ∧ a + 1 ≤ i ∧ i ≤ b ∧ Hid (Go.Sort.partialIns ltI a b (5 - t) i d' = D) ∧ Hid (d'.size = n) ∧ Hid (SRow wr g c d') ∧ Hid (Ch (fun k => k = g) w wr)) (fun x8 _ _ => 5 - (intOf x8).toNat)
  case atStart => exact ⟨0, a + 1, d, rfl, by go_num, by omega, by omega, by omega, HDD.out, HN.out, H.out, Ch.refl _ _⟩
  case round =>
    obtain ⟨t, i, d', rfl, rfl, ht, hai, hib, HE, HD, HS, HC⟩ := hrel
    by_cases ht5 : t = 5
    · subst ht5
      have HX : Hid ((d', false) = D) := HE.out
      go_wp2
      go_ret
      have hx := HX.out
      subst hx
      exact ⟨rfl, HS.out, HC.out⟩
    obtain ⟨s, HSs⟩ : ∃ s, Hid (5 - t = s + 1) := ⟨4 - t, by show _ = _; omega⟩
    have hs := HSs.out
    rw [hs] at HE
    have hs2 : 5 - (t + 1) = s := by omega
    have HS2 := hide hs2
    have it : (t : Int) < 5 := by omega
    clear hs hs2
    go_wp2
    go_loopw [7] (fun x wr => ∃ (u : Nat), x = .int .i64 u ∧ i ≤ u ∧ u ≤ b ∧ Hid (Go.Sort.scanSorted ltI d' b u = Go.Sort.scanSorted ltI d' b i) ∧ Hid (SRow wr g c d') ∧ Hid (Ch (fun k => k = g) w wr)) (fun x _ => b - (intOf x).toNat)
    case atStart => exact ⟨i, rfl, Nat.le_refl _, hib, rfl, HS.out, HC.out⟩
    case round =>
      obtain ⟨u, rfl, hu1, hu2, HE1, HSa, HCa⟩ := hrel
      obtain ⟨k, HK⟩ : ∃ k, Hid (u - 1 = k) := ⟨_, rfl⟩
      have hk := HK.out
      have e1 : (u : Int) - 1 = (k : Int) := by omega
      obtain ⟨B, HB⟩ : ∃ B, Hid ((decide (u < b) && !ltI d'[u]! d'[k]!) = B) := ⟨_, rfl⟩
      go_upto_region 5 with fail
      go_cut [32] (fun x wx => x = .bool B ∧ Hid (SRow wx g c d' ∧ Ch (fun k => k = g) w wx))
      case first =>
        by_cases hij : u < b
        · have c1 := HSa.out.cell (i := u) (by rw [HD.out]; omega)
          have c2 := HSa.out.cell (i := k) (by rw [HD.out]; omega)
          have hB : (!ltI d'[u]! d'[k]!) = B := by have := HB.out; rwa [decide_eq_true hij, Bool.true_and] at this
          generalize d'[u]! = x at c1 hB
          generalize d'[k]! = y at c2 hB
          obtain ⟨lv, hlv⟩ : ∃ lv, ltI x y = lv := ⟨_, rfl⟩
          have L := hide (less_any x y)
          rw [hlv] at L hB
          subst hB
          have i1 : (u : Int) < (b : Int) := by omega
          have i2 : (u : Int) < (n : Int) := by omega
          have i3 : (0 : Int) ≤ (u : Int) := by omega
          have i4 : (k : Int) < (n : Int) := by omega
          have i5 : (0 : Int) ≤ (k : Int) := by omega
          clear hlv HB hk
          go_big_quiet ((go_at_call 67; exact Calls.quiet_of_same (L.out _)))
          go_wp2
          go_meet
          case rel => exact ⟨rfl, HSa.out.drewN _, HCa.out.drewN _⟩
        · have hB : false = B := by have := HB.out; rwa [decide_eq_false hij, Bool.false_and] at this
          subst hB
          have i1 : decide ((u : Int) < (b : Int)) = false := decide_eq_false (by omega)
          have i2 : decide (u < b) = false := decide_eq_false hij
          clear HB hk
          go_big_quiet (fail)
          go_wp2
          go_meet
          case rel => exact ⟨rfl, HSa.out.drewN _, HCa.out.drewN _⟩
      case rest =>
        obtain ⟨rfl, HW⟩ := hcut
        cases B with
        | true =>
          have hon : u < b ∧ (!ltI d'[u]! d'[k]!) = true := by have := HB.out; rwa [Bool.and_eq_true, decide_eq_true_eq] at this
          have hij := hon.1
          have HF : Hid (Go.Sort.scanSorted ltI d' b (u + 1) = Go.Sort.scanSorted ltI d' b i) := (scanSorted_on hk hon.1 hon.2).symm.trans HE1.out
          clear hon HB HSa HCa HE1 hk
          go_wp2
          go_roundw
          case rel => exact ⟨u + 1, by go_num, by omega, by omega, HF.out, HW.out.1, HW.out.2⟩
          case measure => simp [intOf]; omega
        | false =>
          have HF1 : Hid (Go.Sort.scanSorted ltI d' b i = u) := HE1.out.symm.trans (scanSorted_off hk HB.out)
          have HS1 : Hid (SRow wc g c d') := HW.out.1
          have HC1 : Hid (Ch (fun k => k = g) w wc) := HW.out.2
          clear HB HSa HCa HE1 HW HS HC
          by_cases hub : u = b
          · have HX : Hid ((d', true) = D) := (partial_last HF1.out hub).symm.trans HE.out
            have i1 : ((u : Int) == (b : Int)) = true := by rw [beq_iff_eq]; omega
            have i2 : (u : Int) = (b : Int) := by omega
            clear hub hk
            go_wp2
            go_ret
            have hx := HX.out
            subst hx
            exact ⟨rfl, HS1.out, HC1.out⟩
          have i1 : ((u : Int) == (b : Int)) = false := by rw [beq_eq_false_iff_ne]; omega
          have i1' : ¬ (u : Int) = (b : Int) := by omega
          by_cases h50 : b - a < 50
          · have HX : Hid ((d', false) = D) := (partial_few HF1.out hub h50).symm.trans HE.out
            have i2 : (b : Int) - (a : Int) < 50 := by omega
            clear hk
            go_wp2
            go_ret
            have hx := HX.out
            subst hx
            exact ⟨rfl, HS1.out, HC1.out⟩
          have i2 : ¬ (b : Int) - (a : Int) < 50 := by omega
          have HP := hide (partial_on HK.out HF1.out hub h50 (a := a) (s := s))
          rw [HE.out] at HP
          obtain ⟨d2, HD2⟩ : ∃ d2, Hid (Go.Sort.swp d' u k = d2) := ⟨_, rfl⟩
          obtain ⟨d3, HD3⟩ : ∃ d3, Hid (Go.Sort.fixDown ltI a u d2 = d3) := ⟨_, rfl⟩
          obtain ⟨d5, HD5⟩ : ∃ d5, Hid (Go.Sort.fixUp ltI b u d3 = d5) := ⟨_, rfl⟩
          rw [HD2.out, HD3.out, HD5.out, ← HS2.out] at HP
          have HNext : Hid (Go.Sort.partialIns ltI a b (5 - (t + 1)) u d5 = D) := HP.out.symm
          have hul : u < b := by omega
          have HSw1 := hide (fun q => (HS1.out.drewN q).swap (i := u) (j := k) (by rw [HD.out]; omega) (by rw [HD.out]; omega))
          have HCw1 := hide (fun q => ch_swap (HC1.out.drewN q) u k (.int .u64 d'[k]!) (.int .u64 d'[u]!))
          have HSz1 : Hid ((Go.Sort.swp d' u k).size = n) := (size_swp _ _ _).trans HD.out
          have j1 : (u : Int) < (n : Int) := by omega
          have j2 : (k : Int) < (n : Int) := by omega
          have j3 : (0 : Int) ≤ (u : Int) := by omega
          have j4 : (0 : Int) ≤ (k : Int) := by omega
          obtain ⟨c1, c2, f1, f2, v1, c3⟩ := HS1.out.two (i := u) (j := k) (by rw [HD.out]; omega) (by rw [HD.out]; omega)
          generalize d'[u]! = x1 at c1 c2 c3 HSw1 HCw1
          generalize d'[k]! = y1 at c1 c2 c3 HSw1 HCw1
          rw [HD2.out] at HSw1 HSz1
          have HZ2 : Hid (d2.size = n) := HSz1.out
          have HZ3 : Hid (d3.size = n) := HD3.out ▸ size_fixDown HZ2.out
          clear HSz1 HP HE HF1 HS2 HS1 HC1
          have HS2 := HSw1
          have HC2 := HCw1
          clear HSw1 HCw1 hk
          go_wp2
          go_region
          clear c1 c2 c3 f1 f2
          go_upto_if 61 with fail
          go_cut [7] (fun x7 wx => x7 = .int .i64 u ∧ Hid (SRow wx g c d3) ∧ Hid (Ch (fun k => k = g) w wx))
          case first =>
            by_cases h2 : u - a ≥ 2
            · have i3 : (2 : Int) ≤ (u : Int) - (a : Int) := by omega
              have HDn : Hid (Go.Sort.shiftDown ltI k d2 = d3) := by
                have := HD3.out
                unfold Go.Sort.fixDown at this
                rw [if_pos h2, HK.out] at this
                exact this
              clear HD3
              go_wp2
              go_loopw [9] (fun x wr => ∃ (j : Nat) (d4 : Array Int), x = .int .i64 j ∧ j ≤ k ∧ Hid (Go.Sort.shiftDown ltI j d4 = d3) ∧ Hid (d4.size = n) ∧ Hid (SRow wr g c d4) ∧ Hid (Ch (fun k => k = g) w wr)) (fun x _ => (intOf x).toNat)
              case atStart => exact ⟨k, d2, by go_num, Nat.le_refl _, HDn.out, HZ2.out, HS2.out 1, HC2.out 1⟩
              case round =>
                obtain ⟨j, d4, rfl, hj1, HE4, HZ4, HS4, HC4⟩ := hrel
                by_cases hend : j = 0
                · have HX : Hid (d4 = d3) := (shiftDown_end hend).symm.trans HE4.out
                  have i1 : ¬ (1 : Int) ≤ (j : Int) := by omega
                  go_wp2
                  go_meet
                  case rel => exact ⟨rfl, HX.out ▸ HS4.out, HC4.out⟩
                · obtain ⟨m, HM⟩ : ∃ m, Hid (j = m + 1) := ⟨j - 1, by show _ = _; omega⟩
                  have hm := HM.out
                  have i1 : (1 : Int) ≤ (j : Int) := by omega
                  have e1 : (j : Int) - 1 = (m : Int) := by omega
                  have HSw4 := hide (fun q => (HS4.out.drewN q).swap (i := j) (j := m) (by rw [HZ4.out]; omega) (by rw [HZ4.out]; omega))
                  have HCw4 := hide (fun q => ch_swap (HC4.out.drewN q) j m (.int .u64 d4[m]!) (.int .u64 d4[j]!))
                  have HSz4 : Hid ((Go.Sort.swp d4 j m).size = n) := (size_swp _ _ _).trans HZ4.out
                  have j1 : (j : Int) < (n : Int) := by omega
                  have j2 : (m : Int) < (n : Int) := by omega
                  have j3 : (0 : Int) ≤ (j : Int) := by omega
                  have j4 : (0 : Int) ≤ (m : Int) := by omega
                  obtain ⟨c1, c2, f1, f2, v4, c3⟩ := HS4.out.two (i := j) (j := m) (by rw [HZ4.out]; omega) (by rw [HZ4.out]; omega)
                  have HOn : Hid (ltI d4[j]! d4[m]! = true → Go.Sort.shiftDown ltI (m) (Go.Sort.swp d4 j m) = d3) := fun hl => (shiftDown_on hm hl).symm.trans HE4.out
                  have HOff : Hid (ltI d4[j]! d4[m]! = false → d4 = d3) := fun hl => (shiftDown_off hm hl).symm.trans HE4.out
                  generalize d4[j]! = x at *
                  generalize d4[m]! = y at *
                  have L := hide (less_any x y)
                  clear hm
                  by_cases hl : ltI x y = true
                  · have HX := hide (HOn.out hl)
                    rw [hl] at L
                    clear hl HOn HOff HE4 HS4 HC4 HZ4
                    go_wp2
                    go_big_quiet ((go_at_call 67; exact Calls.quiet_of_same (L.out _)))
                    go_wp2
                    go_region
                    go_wp2
                    go_roundw
                    case rel => exact ⟨m, _, by go_num, by have := HM.out; omega, HX.out, HSz4.out, HSw4.out _, HCw4.out _⟩
                    case measure => have := HM.out; simp [intOf]; omega
                  · have hl' : ltI x y = false := by simpa using hl
                    have HX := hide (HOff.out hl')
                    rw [hl'] at L
                    clear hl hl' HOn HOff HE4 HSw4 HCw4
                    go_wp2
                    go_big_quiet ((go_at_call 67; exact Calls.quiet_of_same (L.out _)))
                    go_wp2
                    go_meet
                    case rel => exact ⟨rfl, HX.out ▸ HS4.out.drewN _, HC4.out.drewN _⟩
            · have i3 : ¬ (2 : Int) ≤ (u : Int) - (a : Int) := by omega
              have HX : Hid (d2 = d3) := by
                have := HD3.out
                unfold Go.Sort.fixDown at this
                rwa [if_neg h2] at this
              go_wp2
              go_meet
              case rel => exact ⟨rfl, HX.out ▸ HS2.out 1, HC2.out 1⟩
          case rest =>
            obtain ⟨rfl, HS3, HC3⟩ := hcut
            clear HS2 HC2 HD3
            by_cases h3 : b - u ≥ 2
            · have i3 : (2 : Int) ≤ (b : Int) - (u : Int) := by omega
              have HU : Hid (Go.Sort.shiftUp ltI b (u + 1) d3 = d5) := by
                have := HD5.out
                unfold Go.Sort.fixUp at this
                rwa [if_pos h3] at this
              clear HD5
              go_wp2
              go_loopw [10] (fun x wr => ∃ (j : Nat) (d4 : Array Int), x = .int .i64 j ∧ u + 1 ≤ j ∧ j ≤ b ∧ Hid (Go.Sort.shiftUp ltI b j d4 = d5) ∧ Hid (d4.size = n) ∧ Hid (SRow wr g c d4) ∧ Hid (Ch (fun k => k = g) w wr)) (fun x _ => b - (intOf x).toNat)
              case atStart => exact ⟨u + 1, d3, by go_num, by omega, by omega, HU.out, HZ3.out, HS3.out, HC3.out⟩
              case round =>
                obtain ⟨j, d4, rfl, hj1, hj2, HE4, HZ4, HS4, HC4⟩ := hrel
                by_cases hend : b ≤ j
                · have HX : Hid (d4 = d5) := (shiftUp_end hend).symm.trans HE4.out
                  have i1 : ¬ (j : Int) < (b : Int) := by omega
                  go_wp2
                  go_roundw
                  case rel => exact ⟨t + 1, u, d4, by go_num, rfl, by omega, by omega, by omega, by rw [HX.out]; exact HNext.out, HZ4.out, HS4.out, HC4.out⟩
                  case measure => simp [intOf]; omega
                · obtain ⟨m, HM⟩ : ∃ m, Hid (j = m + 1) := ⟨j - 1, by show _ = _; omega⟩
                  have hm := HM.out
                  have i1 : (j : Int) < (b : Int) := by omega
                  have e1 : (j : Int) - 1 = (m : Int) := by omega
                  have HSw4 := hide (fun q => (HS4.out.drewN q).swap (i := j) (j := m) (by rw [HZ4.out]; omega) (by rw [HZ4.out]; omega))
                  have HCw4 := hide (fun q => ch_swap (HC4.out.drewN q) j m (.int .u64 d4[m]!) (.int .u64 d4[j]!))
                  have HSz4 : Hid ((Go.Sort.swp d4 j m).size = n) := (size_swp _ _ _).trans HZ4.out
                  have j1 : (j : Int) < (n : Int) := by omega
                  have j2 : (m : Int) < (n : Int) := by omega
                  have j3 : (0 : Int) ≤ (j : Int) := by omega
                  have j4 : (0 : Int) ≤ (m : Int) := by omega
                  obtain ⟨c1, c2, f1, f2, v4, c3⟩ := HS4.out.two (i := j) (j := m) (by rw [HZ4.out]; omega) (by rw [HZ4.out]; omega)
                  have HOn : Hid (ltI d4[j]! d4[m]! = true → Go.Sort.shiftUp ltI b (j + 1) (Go.Sort.swp d4 j m) = d5) := fun hl => (shiftUp_on (by omega) hm hl).symm.trans HE4.out
                  have HOff : Hid (ltI d4[j]! d4[m]! = false → d4 = d5) := fun hl => (shiftUp_off hm hl).symm.trans HE4.out
                  generalize d4[j]! = x at *
                  generalize d4[m]! = y at *
                  have L := hide (less_any x y)
                  clear hm
                  by_cases hl : ltI x y = true
                  · have HX := hide (HOn.out hl)
                    rw [hl] at L
                    clear hl HOn HOff HE4 HS4 HC4 HZ4
                    go_wp2
                    go_big_quiet ((go_at_call 67; exact Calls.quiet_of_same (L.out _)))
                    go_wp2
                    go_region
                    go_wp2
                    go_roundw
                    case rel => exact ⟨j + 1, _, by go_num, by omega, by omega, HX.out, HSz4.out, HSw4.out _, HCw4.out _⟩
                    case measure => simp [intOf]; omega
                  · have hl' : ltI x y = false := by simpa using hl
                    have HX := hide (HOff.out hl')
                    rw [hl'] at L
                    clear hl hl' HOn HOff HE4 HSw4 HCw4
                    go_wp2
                    go_big_quiet ((go_at_call 67; exact Calls.quiet_of_same (L.out _)))
                    go_wp2
                    go_roundw
                    case rel => exact ⟨t + 1, u, d4, by go_num, rfl, by omega, by omega, by omega, by rw [HX.out]; exact HNext.out, HZ4.out, HS4.out.drewN _, HC4.out.drewN _⟩
                    case measure => simp [intOf]; omega
            · have i3 : ¬ (2 : Int) ≤ (b : Int) - (u : Int) := by omega
              have HX : Hid (d3 = d5) := by
                have := HD5.out
                unfold Go.Sort.fixUp at this
                rwa [if_neg h3] at this
              go_wp2
              go_roundw
              case rel => exact ⟨t + 1, u, d3, by go_num, rfl, by omega, by omega, by omega, by rw [HX.out]; exact HNext.out, HZ3.out, HS3.out, HC3.out⟩
              case measure => simp [intOf]; omega
end Go.Proofs.Ytlhiikibbppodaa
