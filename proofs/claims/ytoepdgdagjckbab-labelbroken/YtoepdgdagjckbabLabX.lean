/-
  The law LabelBroken, over what the laws ask of the program's own functions on labels (written by gen/labx.gen.py).
  Conditions: as LaN, LaC, LaV, LaM, LaT, LaS say.
-/
import Derived.Test.YtoepdgdagjckbabLabU
import Derived.Test.YtoepdgdagjckbabLabY
namespace Go.Proofs.Ytoepdgdagjckbab
open Go.RowKit Go.Deep
set_option maxRecDepth 20000

theorem placeS {v : Int} {n : Nat} (h : 1 ≤ n) : ∃ k : Nat, k < n ∧ v % (n : Int) = (k : Int) := by
  have h0 := Int.emod_nonneg v (show (n : Int) ≠ 0 by omega)
  have h1 := Int.emod_lt_of_pos v (show (0 : Int) < (n : Int) by omega)
  exact ⟨(v % (n : Int)).toNat, by omega, by omega⟩

set_option maxHeartbeats 8000000 in
theorem brokenL_of (N : LaN) (C : LaC) (V : LaV) (M : LaM) (T : LaT) (S : LaS) (a : Option Addr) (n cap : Nat) (l : List Lb) (at_ : Int) (more : ByteArray) (w : World) (q : RowL w a n l) (hz : a = none → cap = 0) (hs : more.size ≤ 9223372036854775807) :
    Calls Try.prog 7 #[.slice a n cap, .int .i64 at_, .string more] w fun e w' => e = .returned (.bool true) ∧ Below w.heap.size w w' := by
  have AW := hide (awakeL_any N C V M T)
  have hn := q.2.1
  have HN := hide hn
  have HF := hide q.2.2.1
  have HR := hide q
  have RC := hide (fun W (q : RowL W a n l) => quietB (refchkl_any a n cap l W q))
  clear N C V M q
  cases hc : chkL l with
  | false =>
    rw [hc] at RC
    clear hc T S
    go_enter Try.func7, Try.ntmps7
    go_wp2_with fail
    with_reducible refine (RC.out _ HR.out).mono ?_
    rintro e v1 ⟨rfl, b2⟩
    have L1 := hide b2
    clear b2
    go_wp2_with fail
    with_reducible refine (AW.out _).mono ?_
    rintro e v2 ⟨rfl, b2⟩
    have L2 := hide (bel_too L1.out b2)
    clear b2
    go_wp2
    go_ret
    exact ⟨rfl, L2.out⟩
  | true =>
    rw [hc] at RC
    by_cases hm : more.size ≤ 100
    · have m1 : ¬ (100 : Int) < (more.size : Int) := by omega
      have LB := hide (fun W q => labels_any a n cap l W q hz)
      have PT0 := hide (fun W b c (q : RowL W b n l) => T.text b n c l W q hc)
      have PS := hide (fun W t (h : t.size ≤ 20000) => S.parse t W h)
      have HB : Hid (∀ t m, parseL t = some m → chkL m = true ∧ textL m = t ∧ decide (m = l) = (t.toList == (textL l).toList)) := fun t m h => by
        obtain ⟨h1, h2⟩ := parseL_iff.1 h
        refine ⟨h1, h2, ?_⟩
        rw [ba_eq]
        by_cases e : m = l
        · subst e
          rw [decide_eq_true rfl, decide_eq_true h2.symm]
        · rw [decide_eq_false e, decide_eq_false (fun e2 => e (text_inj h1 hc (h2.trans e2)))]
      obtain ⟨s1, s2⟩ := textL_size hc
      generalize textL l = s at *
      obtain ⟨k, hk, ek⟩ := placeS (v := at_) s1
      have PK := hide (fun W => place_any at_ (s.size : Int) (by omega) (by omega) W)
      rw [ek] at PK
      have s3 : ((s.size : Int) == 0) = false := by rw [beq_eq_false_iff_ne]; omega
      have s4 : ¬ (s.size : Int) = 0 := by omega
      have s5 : ¬ s.size = 0 := by omega
      have HS := hide s2
      have HM := hide hm
      clear hc S ek
      go_enter Try.func7, Try.ntmps7
      go_wp2_with fail
      with_reducible refine (RC.out _ HR.out).mono ?_
      rintro e v1 ⟨rfl, b2⟩
      have L1 := hide b2
      clear b2
      go_wp2_with fail
      with_reducible refine (LB.out _ (HR.out.below L1.out (Nat.le_refl _))).mono ?_
      rintro e v2 ⟨d, c, rfl, o, b2⟩
      have L2 := hide (bel_too L1.out b2)
      have X2 := hide (o.row HN.out HF.out)
      clear b2 L1 o LB
      go_wp2_with fail
      with_reducible refine (PT0.out _ _ _ X2.out).mono ?_
      rintro e v3 ⟨rfl, b2⟩
      have L3 := hide (bel_too L2.out b2)
      clear b2 L2 X2 PT0
      go_wp2_with fail
      with_reducible refine (PK.out _).mono ?_
      rintro e w' ⟨rfl, hw⟩
      rw [hw]
      clear hw w' PK
      go_wp2
      go_loopw [9] (fun i wr => ∃ j : Nat, i = .int .i64 j ∧ j ≤ 2 ∧ Hid (Below w.heap.size w wr)) (fun i _ => 2 - (intOf i).toNat)
      case atStart => exact ⟨0, rfl, by decide, L3⟩
      case round =>
        obtain ⟨j, rfl, hj, BW⟩ := hrel
        match j, hj with
        | 0, _ =>
          go_upto_region 13 with fail
          have PX := hide (fun W => PS.out W (s.extract 0 k) (by have := HS.out; rw [ByteArray.size_extract]; omega))
          have HP := hide (fun m => HB.out (s.extract 0 k) m)
          generalize (s.extract 0 k) = tx at PX HP ⊢
          unfold MadeL at PX
          cases hm : parseL tx with
          | none =>
            rw [hm] at PX
            simp only at PX
            clear hm HP HB PS
            go_wp2_with fail
            with_reducible refine (PX.out _).mono ?_
            rintro e u1 ⟨b2, d1, c1, rfl⟩
            have B1 := hide (bel_too BW.out b2)
            clear b2 PX BW
            go_wp2
            go_roundw
            case rel => exact ⟨1, by go_num, by decide, B1⟩
            case measure => simp [intOf]
          | some m =>
            obtain ⟨hc, e1, e2⟩ := HP.out m hm
            have PT := hide (fun W b c (q : RowL W b m.length m) => T.text b m.length c m W q hc)
            rw [(parseL_iff.1 hm).2] at PT
            have SX := hide (fun W b c (q : RowL W b m.length m) (q' : RowL W a n l) => quietB (samelabs_any b m.length c m a n cap l W q q'))
            rw [e2] at SX
            rw [hm] at PX
            simp only at PX
            have e3 : (tx.toList == tx.toList) = true := by simp
            have e4 : ((tx.toList == s.toList) == (tx.toList == s.toList)) = true := by simp
            generalize m.length = nm at *
            clear hm HP HB PS hc e1 e2
            go_wp2_with fail
            with_reducible refine (PX.out _).mono ?_
            rintro e u1 ⟨b2, d1, c1, rfl, o, -⟩
            have B1 := hide (bel_too BW.out b2)
            have R1 := hide o
            clear b2 o PX BW
            go_wp2_with fail
            with_reducible refine (PT.out _ _ _ R1.out).mono ?_
            rintro e u2 ⟨rfl, b2⟩
            have B2 := hide (bel_too B1.out b2)
            have R2 := hide (R1.out.below b2 (Nat.le_refl _))
            clear b2 PT B1 R1
            go_wp2_with fail
            with_reducible refine (SX.out _ _ _ R2.out (HR.out.below B2.out (Nat.le_refl _))).mono ?_
            rintro e u3 ⟨rfl, b2⟩
            have B3 := hide (bel_too B2.out b2)
            clear b2 SX B2 R2
            go_wp2
            go_roundw
            case rel => exact ⟨1, by go_num, by decide, B3⟩
            case measure => simp [intOf]
        | 1, _ =>
          go_upto_region 13 with fail
          have PX := hide (fun W => PS.out W (s ++ more) (by have := HS.out; have := HM.out; rw [ByteArray.size_append]; omega))
          have HP := hide (fun m => HB.out (s ++ more) m)
          generalize (s ++ more) = tx at PX HP ⊢
          unfold MadeL at PX
          cases hm : parseL tx with
          | none =>
            rw [hm] at PX
            simp only at PX
            clear hm HP HB PS
            go_wp2_with fail
            with_reducible refine (PX.out _).mono ?_
            rintro e u1 ⟨b2, d1, c1, rfl⟩
            have B1 := hide (bel_too BW.out b2)
            clear b2 PX BW
            go_wp2
            go_roundw
            case rel => exact ⟨2, by go_num, by decide, B1⟩
            case measure => simp [intOf]
          | some m =>
            obtain ⟨hc, e1, e2⟩ := HP.out m hm
            have PT := hide (fun W b c (q : RowL W b m.length m) => T.text b m.length c m W q hc)
            rw [(parseL_iff.1 hm).2] at PT
            have SX := hide (fun W b c (q : RowL W b m.length m) (q' : RowL W a n l) => quietB (samelabs_any b m.length c m a n cap l W q q'))
            rw [e2] at SX
            rw [hm] at PX
            simp only at PX
            have e3 : (tx.toList == tx.toList) = true := by simp
            have e4 : ((tx.toList == s.toList) == (tx.toList == s.toList)) = true := by simp
            generalize m.length = nm at *
            clear hm HP HB PS hc e1 e2
            go_wp2_with fail
            with_reducible refine (PX.out _).mono ?_
            rintro e u1 ⟨b2, d1, c1, rfl, o, -⟩
            have B1 := hide (bel_too BW.out b2)
            have R1 := hide o
            clear b2 o PX BW
            go_wp2_with fail
            with_reducible refine (PT.out _ _ _ R1.out).mono ?_
            rintro e u2 ⟨rfl, b2⟩
            have B2 := hide (bel_too B1.out b2)
            have R2 := hide (R1.out.below b2 (Nat.le_refl _))
            clear b2 PT B1 R1
            go_wp2_with fail
            with_reducible refine (SX.out _ _ _ R2.out (HR.out.below B2.out (Nat.le_refl _))).mono ?_
            rintro e u3 ⟨rfl, b2⟩
            have B3 := hide (bel_too B2.out b2)
            clear b2 SX B2 R2
            go_wp2
            go_roundw
            case rel => exact ⟨2, by go_num, by decide, B3⟩
            case measure => simp [intOf]
        | 2, _ =>
          go_wp2_with fail
          with_reducible refine (AW.out _).mono ?_
          rintro e v4 ⟨rfl, b2⟩
          have L4 := hide (bel_too BW.out b2)
          clear b2
          go_wp2
          go_ret
          exact ⟨rfl, L4.out⟩
    · have m1 : (100 : Int) < (more.size : Int) := by omega
      clear hc T S
      go_enter Try.func7, Try.ntmps7
      go_wp2_with fail
      with_reducible refine (RC.out _ HR.out).mono ?_
      rintro e v1 ⟨rfl, b2⟩
      have L1 := hide b2
      clear b2
      go_wp2_with fail
      with_reducible refine (AW.out _).mono ?_
      rintro e v2 ⟨rfl, b2⟩
      have L2 := hide (bel_too L1.out b2)
      clear b2
      go_wp2
      go_ret
      exact ⟨rfl, L2.out⟩
end Go.Proofs.Ytoepdgdagjckbab
