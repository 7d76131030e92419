/-
  The library's sort of words: its contract, for every world: the part is put in order, nothing else turns.
  Conditions: the row shows its words; the part lies within; nothing in it is less than what stands ahead of it.
-/
import Derived.Test.YtlhiikibbppodaaSortC
import Derived.Test.YtlhiikibbppodaaSortD
import Derived.Test.YtlhiikibbppodaaSortI
namespace Go.Proofs.Ytlhiikibbppodaa
open Go.RowKit

/-- A part put in order. -/
def InOrder (a b : Nat) (d r : Array Int) : Prop := Go.Sort.PermIn a b d r ∧ Go.Sort.SortedIn ltI a b r
/-- What is asked of the sort at parts of at most N. -/
def PdqOk (g c cp n N : Nat) : Prop := ∀ (d : Array Int) (a b lim : Nat) (w : World), b - a ≤ N → d.size = n → SRow w g c d → a ≤ b → b ≤ n → Go.Sort.Below ltI a b d → lim ≤ 64 →
  Calls Try.prog 58 #[.slice (some ⟨g, 0, none⟩) n cp, .int .i64 a, .int .i64 b, .int .i64 lim] w fun e w' => e = .returned (.tuple #[]) ∧ Sorts w g c (InOrder a b d) w'

theorem swoI : Go.Sort.SWO ltI := Go.Sort.swo_ltInt
theorem ins_ok {a b : Nat} {d : Array Int} (h : a ≤ b) (hb : b ≤ d.size) : InOrder a b d (Go.Sort.insertionSort ltI d a b) := Go.Sort.insertionSort_holds swoI d a b h hb
theorem heap_ok {a b : Nat} {d : Array Int} (h : a ≤ b) (hb : b ≤ d.size) : InOrder a b d (Go.Sort.heapSort ltI d a b) := Go.Sort.heapSort_holds swoI d a b h hb
theorem permI {a b : Nat} {d r s : Array Int} (h : Go.Sort.PermIn a b d r) (k : Go.Sort.PermIn a b r s) : Go.Sort.PermIn a b d s := Go.Sort.permIn_trans _ _ _ _ _ h k

set_option maxRecDepth 40000 in
set_option maxHeartbeats 16000000 in
theorem pdq_step (g c cp n N : Nat) (IH : ∀ M, M < N → PdqOk g c cp n M) : PdqOk g c cp n N := by
  intro d a b lim w hN hdn h hab hb hBl hlim
  have H := hide h
  have hr := h.room
  rw [hdn] at hr
  have HI := hide IH
  have HN := hide hdn
  have HB0 := hide hBl
  have HF : Hid (∀ R, InOrder a b d R → InOrder a b d R) := fun _ h => h
  clear h IH hdn hBl
  go_enter Try.func58, Try.ntmps58
  go_wp2
  go_loopw [1, 2, 3, 8, 9] (fun x1 x2 x3 x8 x9 wr => ∃ (a' b' l' : Nat) (wb wp : Bool) (d' : Array Int), x1 = .int .i64 a' ∧ x2 = .int .i64 b' ∧ x3 = .int .i64 l' ∧ x8 = .bool wb ∧ x9 = .bool wp ∧ a' ≤ b' ∧ b' ≤ n ∧ l' ≤ 64 ∧ b' - a' ≤ N ∧ Hid (d'.size = n) ∧ Hid (Go.Sort.Below ltI a' b' d') ∧ Hid (∀ R, InOrder a' b' d' R → InOrder a b d R) ∧ Hid (SRow wr g c d') ∧ Hid (Ch (fun k => k = g) w wr)) (fun x1 x2 _ _ _ _ => (intOf x2).toNat - (intOf x1).toNat)
  case atStart => exact ⟨a, b, lim, true, true, d, rfl, rfl, rfl, rfl, rfl, hab, hb, hlim, hN, HN.out, HB0.out, HF.out, H.out, Ch.refl _ _⟩
  case round =>
    obtain ⟨a', b', l', wb, wp, d', rfl, rfl, rfl, rfl, rfl, h1, h2, h3, h4, HD, HBl, HG, HS, HC⟩ := hrel
    obtain ⟨l, HL⟩ : ∃ l, Hid (b' - a' = l) := ⟨_, rfl⟩
    have hl := HL.out
    have e1 : (b' : Int) - (a' : Int) = (l : Int) := by omega
    have hz : b' ≤ d'.size := by rw [HD.out]; exact h2
    have HZ := hide hz
    clear H HF HB0 hN hab hb hlim hz
    by_cases h12 : l ≤ 12
    · have INS := hide (insertion_any g c cp d' a' b' wr HS.out h1 HZ.out)
      rw [HD.out] at INS
      have i1 : (l : Int) ≤ 12 := by omega
      go_wp2_with fail
      refine INS.out.mono ?_
      rintro e w1 ⟨rfl, s1, ch1⟩
      have S1 := hide s1
      have C1 := hide (HC.out.trans ch1)
      clear s1 ch1 INS
      go_wp2
      refine bodyPost_ret (results_none rfl _ _ _) rfl ?_
      exact ⟨rfl, _, HG.out _ (ins_ok h1 HZ.out), S1.out, C1.out⟩
    have i1 : ¬ (l : Int) ≤ 12 := by omega
    by_cases hl0 : l' = 0
    · subst hl0
      have HP := hide (heap_any g c cp d' a' b' wr HS.out (by omega) HZ.out)
      rw [HD.out] at HP
      go_wp2_with fail
      refine HP.out.mono ?_
      rintro e w1 ⟨rfl, s1, ch1⟩
      have S1 := hide s1
      have C1 := hide (HC.out.trans ch1)
      clear s1 ch1 HP
      go_wp2
      refine bodyPost_ret (results_none rfl _ _ _) rfl ?_
      exact ⟨rfl, _, HG.out _ (heap_ok h1 HZ.out), S1.out, C1.out⟩
    have i2 : ((l' : Int) == 0) = false := by rw [beq_eq_false_iff_ne]; omega
    go_upto_if 35 with fail
    go_cut [3] (fun x3 wx => ∃ (l1 : Nat) (d1 : Array Int), x3 = .int .i64 l1 ∧ l1 ≤ 64 ∧ Hid (Go.Sort.PermIn a' b' d' d1) ∧ Hid (SRow wx g c d1) ∧ Hid (Ch (fun k => k = g) w wx))
    case first =>
      cases wb with
      | true =>
        go_wp2
        go_meet
        case rel => exact ⟨l', d', rfl, h3, Go.Sort.permIn_refl _ _ _, HS.out, HC.out⟩
      | false =>
        have BR := hide (break_any g c cp d' a' b' wr HS.out (by omega) HZ.out)
        rw [HD.out] at BR
        go_wp2_with fail
        refine BR.out.mono ?_
        rintro e w1 ⟨rfl, d1, p1, s1, ch1⟩
        have P1 := hide p1
        have S1 := hide s1
        have C1 := hide (HC.out.trans ch1)
        clear p1 s1 ch1 BR
        go_wp2
        go_meet
        case rel => exact ⟨l' - 1, d1, by go_num, by omega, P1.out, S1.out, C1.out⟩
    case rest =>
      obtain ⟨l1, d1, rfl, h5, HP1, HS1, HC1⟩ := hcut
      have PV := hide (pivot_any g c cp d1 a' b' wc HS1.out (by omega) (by rw [HP1.out.1]; exact HZ.out))
      rw [HP1.out.1, HD.out] at PV
      clear HS HC i2 hl0 h3
      go_wp2_with fail
      refine PV.out.mono ?_
      rintro e w2 ⟨pv, t, rfl, hp1, hp2, ht, s2, b2⟩
      have HS2 := hide s2
      have HC2 : Hid (Ch (fun k => k = g) w w2) := HC1.out.trans ((Ch.of_below b2).more (fun _ _ h => h.elim))
      clear s2 b2 PV HS1 HC1
      go_upto_if 50 with fail
      go_cut [11, 12] (fun x11 x12 wx => ∃ (pv : Nat) (t : Int) (d2 : Array Int), x11 = .int .i64 pv ∧ x12 = .int .i64 t ∧ a' ≤ pv ∧ pv < b' ∧ (t = 0 ∨ t = 1) ∧ Hid (Go.Sort.PermIn a' b' d' d2) ∧ Hid (SRow wx g c d2) ∧ Hid (Ch (fun k => k = g) w wx))
      case first =>
        rcases ht with rfl | rfl | rfl
        · go_wp2
          go_meet
          case rel => exact ⟨pv, 0, d1, rfl, rfl, hp1, hp2, Or.inl rfl, HP1.out, HS2.out, HC2.out⟩
        · go_wp2
          go_meet
          case rel => exact ⟨pv, 1, d1, rfl, rfl, hp1, hp2, Or.inr rfl, HP1.out, HS2.out, HC2.out⟩
        · have RV := hide (reverse_any g c cp d1 a' b' w2 HS2.out (by omega) (by rw [HP1.out.1]; exact HZ.out))
          rw [HP1.out.1, HD.out] at RV
          go_wp2_with fail
          refine RV.out.mono ?_
          rintro e w3 ⟨rfl, d2, p2, s3, ch3⟩
          have P2 := hide (permI HP1.out p2)
          have S3 := hide s3
          have C3 := hide (HC2.out.trans ch3)
          clear p2 s3 ch3 RV
          go_wp2
          go_meet
          case rel => exact ⟨(b' - 1) - (pv - a'), 1, d2, by go_num, rfl, by omega, by omega, Or.inr rfl, P2.out, S3.out, C3.out⟩
      case rest =>
        obtain ⟨pv2, t2, d2, rfl, rfl, hq1, hq2, ht2, HP2, HS3, HC3⟩ := hcut
        clear HP1 HS2 HC2 hp1 hp2 ht
        go_upto_region 15 with fail
        go_cut [68] (fun x68 wx => ∃ B : Bool, x68 = .bool B ∧ wx = wc)
        case first =>
          cases wb with
          | false =>
            go_wp2
            go_meet
            case rel => exact ⟨_, rfl, rfl⟩
          | true =>
            cases wp with
            | false =>
              go_wp2
              go_meet
              case rel => exact ⟨_, rfl, rfl⟩
            | true =>
              go_wp2
              go_meet
              case rel => exact ⟨_, rfl, rfl⟩
        case rest =>
          obtain ⟨B, rfl, rfl⟩ := hcut
          go_upto_if 68 with fail
          go_cut [1] (fun x1 wx => x1 = .int .i64 a' ∧ ∃ d3 : Array Int, Hid (Go.Sort.PermIn a' b' d' d3) ∧ Hid (SRow wx g c d3) ∧ Hid (Ch (fun k => k = g) w wx))
          case first =>
            cases B with
            | false =>
              go_wp2
              go_meet
              case rel => exact ⟨rfl, d2, HP2.out, HS3.out, HC3.out⟩
            | true =>
              have hz2 : b' ≤ d2.size := by rw [HP2.out.1]; exact HZ.out
              have PA := hide (partial_any g c cp d2 a' b' wc HS3.out (by omega) hz2)
              have PS := hide (Go.Sort.partialInsertionSort_holds swoI d2 a' b' (by omega) hz2 (HBl.out.perm HZ.out HP2.out))
              rw [HP2.out.1, HD.out] at PA
              clear hz2
              obtain ⟨r, HR⟩ : ∃ r, Hid (Go.Sort.partialInsertionSort ltI d2 a' b' = r) := ⟨_, rfl⟩
              rw [HR.out] at PA PS
              obtain ⟨d3, rb⟩ := r
              go_wp2_with fail
              refine PA.out.mono ?_
              rintro e w4 ⟨rfl, s4, ch4⟩
              have S4 := hide s4
              have C4 := hide (HC3.out.trans ch4)
              clear s4 ch4 PA
              cases rb with
              | true =>
                go_wp2
                refine bodyPost_ret (results_none rfl _ _ _) rfl ?_
                exact ⟨rfl, _, HG.out _ ⟨permI HP2.out PS.out.1, PS.out.2 trivial⟩, S4.out, C4.out⟩
              | false =>
                go_wp2
                go_meet
                case rel => exact ⟨rfl, d3, permI HP2.out PS.out.1, S4.out, C4.out⟩
          case rest =>
            obtain ⟨rfl, d3, HP3, HS4, HC4⟩ := hcut
            have HD3 : Hid (d3.size = n) := HP3.out.1.trans HD.out
            have HB3 : Hid (Go.Sort.Below ltI a' b' d3) := HBl.out.perm HZ.out HP3.out
            have HG3 : Hid (∀ R, InOrder a' b' d3 R → InOrder a b d R) := fun R hR => HG.out R ⟨permI HP3.out hR.1, hR.2⟩
            clear HP2 HS3 HC3 HG HBl HP3 HZ HD
            obtain ⟨B2, HB2⟩ : ∃ B2, Hid ((decide (0 < a') && !ltI d3[a' - 1]! d3[pv2]!) = B2) := ⟨_, rfl⟩
            go_upto_region 17 with fail
            go_cut [87] (fun x87 wx => x87 = .bool B2 ∧ Hid (SRow wx g c d3) ∧ Hid (Ch (fun k => k = g) w wx))
            case first =>
              by_cases ha0 : 0 < a'
              · obtain ⟨m, HM⟩ : ∃ m, Hid (a' - 1 = m) := ⟨_, rfl⟩
                have hm := HM.out
                have e2 : (a' : Int) - 1 = (m : Int) := by omega
                have c1 := HS4.out.cell (i := m) (by rw [HD3.out]; omega)
                have c2 := HS4.out.cell (i := pv2) (by rw [HD3.out]; omega)
                have hB : (!ltI d3[m]! d3[pv2]!) = B2 := by have := HB2.out; rw [decide_eq_true ha0, Bool.true_and, hm] at this; exact this
                generalize d3[m]! = x at c1 hB
                generalize d3[pv2]! = y at c2 hB
                obtain ⟨lv, hlv⟩ : ∃ lv, ltI x y = lv := ⟨_, rfl⟩
                have L := hide (less_any x y)
                rw [hlv] at L hB
                subst hB
                have j1 : (0 : Int) < (a' : Int) := by omega
                have j2 : (m : Int) < (n : Int) := by omega
                have j3 : (0 : Int) ≤ (m : Int) := by omega
                have j4 : (pv2 : Int) < (n : Int) := by omega
                have j5 : (0 : Int) ≤ (pv2 : Int) := by omega
                clear hlv HB2 hm
                go_big_quiet ((go_at_call 67; exact Calls.quiet_of_same (L.out _)))
                go_wp2
                go_meet
                case rel => exact ⟨rfl, HS4.out.drewN _, HC4.out.drewN _⟩
              · obtain rfl : a' = 0 := by omega
                have hB : false = B2 := by have := HB2.out; rwa [decide_eq_false ha0, Bool.false_and] at this
                subst hB
                clear HB2
                go_big_quiet (fail)
                go_wp2
                go_meet
                case rel => exact ⟨rfl, HS4.out.drewN _, HC4.out.drewN _⟩
            case rest =>
              obtain ⟨rfl, HS5, HC5⟩ := hcut
              clear HS4 HC4
              have hz3 : b' ≤ d3.size := by rw [HD3.out]; exact h2
              cases B2 with
              | true =>
                have hon : 0 < a' ∧ (!ltI d3[a' - 1]! d3[pv2]!) = true := by have := HB2.out; rwa [Bool.and_eq_true, decide_eq_true_eq] at this
                have PE := hide (parteq_any g c cp d3 a' b' pv2 wc HS5.out hq1 hq2 hz3)
                rw [HD3.out] at PE
                obtain ⟨r, HR⟩ : ∃ r, Hid (Go.Sort.partitionEqual ltI d3 a' b' pv2 = r) := ⟨_, rfl⟩
                obtain ⟨mid, d4⟩ := r
                have RE := Go.Sort.round_eq swoI (Go.Sort.partitionEqual_holds _) hon.1 hq1 hq2 hz3 HB3.out (by have := hon.2; simpa using this) HR.out
                rw [HR.out] at PE
                obtain ⟨r1, r2, r3, r4, r5⟩ := RE
                have HR4 := hide r4
                have HR5 : Hid (∀ R, InOrder mid b' d4 R → InOrder a b d R) := fun R hR => HG3.out R (r5 R hR.1 hR.2)
                have HZ4 : Hid (d4.size = n) := r3.trans HD3.out
                clear hon r3 r4 r5 HB2 hz3 HR HB3 HG3
                go_wp2_with fail
                refine PE.out.mono ?_
                rintro e w6 ⟨rfl, s6, ch6⟩
                have S6 := hide s6
                have C6 := hide (HC5.out.trans ch6)
                clear s6 ch6 PE HS5 HC5
                go_wp2
                go_roundw
                case rel => exact ⟨mid, b', l1, wb, wp, d4, by first | rfl | go_num, rfl, rfl, rfl, rfl, r2, h2, h5, by omega, HZ4.out, HR4.out, HR5.out, S6.out, C6.out⟩
                case measure => simp [intOf]; omega
              | false =>
                have PT := hide (part_any g c cp d3 a' b' pv2 wc HS5.out hq1 hq2 hz3)
                rw [HD3.out] at PT
                obtain ⟨r, HR⟩ : ∃ r, Hid (Go.Sort.partition ltI d3 a' b' pv2 = r) := ⟨_, rfl⟩
                obtain ⟨mid, ap, d4⟩ := r
                have RE := Go.Sort.round_part swoI (Go.Sort.partition_holds _) hq1 hq2 hz3 HB3.out HR.out
                rw [HR.out] at PT
                obtain ⟨r1, r2, r3, r4, r4', r5, r6⟩ := RE
                have HR4 := hide r4
                have HR4' := hide r4'
                have HR5 := hide r5
                have HR6 := hide r6
                have HZ4 : Hid (d4.size = n) := r3.trans HD3.out
                clear r3 r4 r4' r5 r6 HB2 hz3 HR HB3
                go_wp2_with fail
                refine PT.out.mono ?_
                rintro e w6 ⟨rfl, s6, ch6⟩
                have S6 := hide s6
                have C6 := hide (HC5.out.trans ch6)
                clear s6 ch6 PT HS5 HC5
                by_cases hlr : mid - a' < b' - mid
                · have k1 : (mid : Int) - (a' : Int) < (b' : Int) - (mid : Int) := by omega
                  have RC := hide (HI.out (mid - a') (by omega) d4 a' mid l1 w6 (Nat.le_refl _) HZ4.out S6.out r1 (by omega) HR4.out h5)
                  go_wp2_with fail
                  refine RC.out.mono ?_
                  rintro e w7 ⟨rfl, dL, pL, s7, ch7⟩
                  have P7 := hide (HR5.out dL pL.1 pL.2)
                  have Z7 : Hid (dL.size = n) := pL.1.1.trans HZ4.out
                  have S7 := hide s7
                  have C7 := hide (C6.out.trans ch7)
                  have G7 : Hid (∀ R, InOrder (mid + 1) b' dL R → InOrder a b d R) := fun R hR => HG3.out R (P7.out.2 R hR.1 hR.2)
                  clear pL s7 ch7 RC
                  go_wp2
                  go_roundw
                  case rel => exact ⟨mid + 1, b', l1, _, ap, dL, by go_num, rfl, rfl, rfl, rfl, by omega, h2, h5, by omega, Z7.out, P7.out.1, G7.out, S7.out, C7.out⟩
                  case measure => simp [intOf]; omega
                · have k1 : ¬ (mid : Int) - (a' : Int) < (b' : Int) - (mid : Int) := by omega
                  obtain ⟨m1, HM1⟩ : ∃ m1, Hid (mid + 1 = m1) := ⟨_, rfl⟩
                  have hm1 := HM1.out
                  have e3 : (mid : Int) + 1 = (m1 : Int) := by omega
                  have RC := hide (HI.out (b' - (mid + 1)) (by omega) d4 (mid + 1) b' l1 w6 (Nat.le_refl _) HZ4.out S6.out (by omega) (by omega) HR4'.out h5)
                  rw [HM1.out] at RC HR6
                  clear hm1
                  go_wp2_with fail
                  refine RC.out.mono ?_
                  rintro e w7 ⟨rfl, dL, pL, s7, ch7⟩
                  have P7 := hide (HR6.out dL pL.1 pL.2)
                  have Z7 : Hid (dL.size = n) := pL.1.1.trans HZ4.out
                  have S7 := hide s7
                  have C7 := hide (C6.out.trans ch7)
                  have G7 : Hid (∀ R, InOrder a' mid dL R → InOrder a b d R) := fun R hR => HG3.out R (P7.out.2 R hR.1 hR.2)
                  clear pL s7 ch7 RC
                  go_wp2
                  go_roundw
                  case rel => exact ⟨a', mid, l1, _, ap, dL, rfl, by go_num, rfl, rfl, rfl, r1, by omega, h5, by omega, Z7.out, P7.out.1, G7.out, S7.out, C7.out⟩
                  case measure => simp [intOf]; omega

theorem pdq_all (g c cp n N : Nat) : PdqOk g c cp n N := Nat.strongRecOn N (fun N ih => pdq_step g c cp n N ih)
end Go.Proofs.Ytlhiikibbppodaa
