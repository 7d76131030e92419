/-
  The law LabelOrders, over what the laws ask of the program's own functions on labels (written by gen/labo.gen.py).
  Conditions: as LaN, LaC, LaV, LaP, LaM, LaT say.
-/
import Derived.Test.YtoepdgdagjckbaaLabC
namespace Go.Proofs.Ytoepdgdagjckbaa
open Go.RowKit
set_option maxRecDepth 20000

set_option maxHeartbeats 4000000 in
theorem ordersL_of (N : LaN) (C : LaC) (V : LaV) (P : LaP) (M : LaM) (T : LaT) (a : Option Addr) (n cap : Nat) (l : List Lb) (b : Option Addr) (m capb : Nat) (l' : List Lb) (c : Option Addr) (i capc : Nat) (l'' : List Lb) (w : World) (qa : RowL w a n l) (qb : RowL w b m l') (qc : RowL w c i l'') :
    Calls Try.prog 6 #[.slice a n cap, .slice b m capb, .slice c i capc] w fun e w' => e = .returned (.bool true) ∧ Below w.heap.size w w' := by
  have AW := hide (awakeL_any N C V M T)
  have XY := hide (fun W (q : RowL W a n l) (q' : RowL W b m l') => P.cmp a n cap l b m capb l' W q q')
  have YZ := hide (fun W (q : RowL W b m l') (q' : RowL W c i l'') => P.cmp b m capb l' c i capc l'' W q q')
  have XZ := hide (fun W (q : RowL W a n l) (q' : RowL W c i l'') => P.cmp a n cap l c i capc l'' W q q')
  have CA := hide (fun W (q : RowL W a n l) => quietB (refchkl_any a n cap l W q))
  have CB := hide (fun W (q : RowL W b m l') => quietB (refchkl_any b m capb l' W q))
  have TA := hide (fun (h : chkL l = true) W (q : RowL W a n l) => T.text a n cap l W q h)
  have TB := hide (fun (h : chkL l' = true) W (q : RowL W b m l') => T.text b m capb l' W q h)
  have HT : Hid (cmpL l l' ≤ 0 → cmpL l' l'' ≤ 0 → cmpL l l'' ≤ 0) := cmpL_is.trans l l' l''
  have HE : Hid (chkL l = true → chkL l' = true → (cmpL l l' == 0) = ((textL l).toList == (textL l').toList)) := fun h h' => by
    rw [ba_eq]
    by_cases he : l = l'
    · subst he
      rw [cmpL_is.self]
      simp
    · have h1 : cmpL l l' ≠ 0 := fun h => he ((cmpL_is.zero l l').1 h)
      have h2 : textL l ≠ textL l' := fun h3 => he (text_inj h h' h3)
      rw [decide_eq_false h2]
      simpa using h1
  generalize cmpL l l' = x at XY HT HE
  generalize cmpL l' l'' = y at YZ HT
  generalize cmpL l l'' = z at XZ HT
  generalize chkL l = p at CA TA HE
  generalize chkL l' = r at CB TB HE
  generalize textL l = ta at TA HE
  generalize textL l' = tb at TB HE
  have Q0 := hide qa
  have S0 := hide qb
  have U0 := hide qc
  have L0 : Hid (Below w.heap.size w w) := Below.refl _ _
  clear N C V P M T qa qb qc
  go_enter Try.func6, Try.ntmps6
  go_wp2_with fail
  with_reducible refine (XY.out _ Q0.out S0.out).mono ?_
  rintro e v1 ⟨rfl, b2⟩
  have L1 := hide (bel_too L0.out b2)
  have Q1 := hide (Q0.out.below b2 (Nat.le_refl _))
  have S1 := hide (S0.out.below b2 (Nat.le_refl _))
  have U1 := hide (U0.out.below b2 (Nat.le_refl _))
  clear b2 L0 Q0 S0 U0
  by_cases h1 : x ≤ 0
  ·
    go_wp2_with fail
    with_reducible refine (YZ.out _ S1.out U1.out).mono ?_
    rintro e v2 ⟨rfl, b2⟩
    have L2 := hide (bel_too L1.out b2)
    have Q2 := hide (Q1.out.below b2 (Nat.le_refl _))
    have S2 := hide (S1.out.below b2 (Nat.le_refl _))
    have U2 := hide (U1.out.below b2 (Nat.le_refl _))
    clear b2 L1 Q1 S1 U1
    by_cases h2 : y ≤ 0
    ·
      go_wp2_with fail
      with_reducible refine (XZ.out _ Q2.out U2.out).mono ?_
      rintro e v3 ⟨rfl, b2⟩
      have L3 := hide (bel_too L2.out b2)
      have Q3 := hide (Q2.out.below b2 (Nat.le_refl _))
      have S3 := hide (S2.out.below b2 (Nat.le_refl _))
      have U3 := hide (U2.out.below b2 (Nat.le_refl _))
      clear b2 L2 Q2 S2 U2
      have h3 : ¬ 0 < z := Int.not_lt.2 (HT.out h1 h2)
      go_wp2_with fail
      with_reducible refine (CA.out _ Q3.out).mono ?_
      rintro e v4 ⟨rfl, b2⟩
      have L4 := hide (bel_too L3.out b2)
      have Q4 := hide (Q3.out.below b2 (Nat.le_refl _))
      have S4 := hide (S3.out.below b2 (Nat.le_refl _))
      have U4 := hide (U3.out.below b2 (Nat.le_refl _))
      clear b2 L3 Q3 S3 U3
      cases hp : p
      · subst hp
        go_wp2_with fail
        with_reducible refine (AW.out _).mono ?_
        rintro e u ⟨rfl, b2⟩
        have LZ := hide (bel_too L4.out b2)
        go_wp2
        go_ret
        exact ⟨rfl, LZ.out⟩
      · subst hp
        go_wp2_with fail
        with_reducible refine (CB.out _ S4.out).mono ?_
        rintro e v5 ⟨rfl, b2⟩
        have L5 := hide (bel_too L4.out b2)
        have Q5 := hide (Q4.out.below b2 (Nat.le_refl _))
        have S5 := hide (S4.out.below b2 (Nat.le_refl _))
        have U5 := hide (U4.out.below b2 (Nat.le_refl _))
        clear b2 L4 Q4 S4 U4
        cases hq : r
        · subst hq
          go_wp2_with fail
          with_reducible refine (AW.out _).mono ?_
          rintro e u ⟨rfl, b2⟩
          have LZ := hide (bel_too L5.out b2)
          go_wp2
          go_ret
          exact ⟨rfl, LZ.out⟩
        · subst hq
          go_wp2_with fail
          with_reducible refine (XY.out _ Q5.out S5.out).mono ?_
          rintro e v6 ⟨rfl, b2⟩
          have L6 := hide (bel_too L5.out b2)
          have Q6 := hide (Q5.out.below b2 (Nat.le_refl _))
          have S6 := hide (S5.out.below b2 (Nat.le_refl _))
          have U6 := hide (U5.out.below b2 (Nat.le_refl _))
          clear b2 L5 Q5 S5 U5
          go_wp2_with fail
          with_reducible refine (TA.out (by simp) _ Q6.out).mono ?_
          rintro e v7 ⟨rfl, b2⟩
          have L7 := hide (bel_too L6.out b2)
          have Q7 := hide (Q6.out.below b2 (Nat.le_refl _))
          have S7 := hide (S6.out.below b2 (Nat.le_refl _))
          have U7 := hide (U6.out.below b2 (Nat.le_refl _))
          clear b2 L6 Q6 S6 U6
          go_wp2_with fail
          with_reducible refine (TB.out (by simp) _ S7.out).mono ?_
          rintro e v8 ⟨rfl, b2⟩
          have L8 := hide (bel_too L7.out b2)
          have Q8 := hide (Q7.out.below b2 (Nat.le_refl _))
          have S8 := hide (S7.out.below b2 (Nat.le_refl _))
          have U8 := hide (U7.out.below b2 (Nat.le_refl _))
          clear b2 L7 Q7 S7 U7
          have HE2 := HE.out (by simp) (by simp)
          by_cases he : x = 0
          · have hb : (ta.toList == tb.toList) = true := by rw [← HE2, he]; rfl
            clear HE2
            go_wp2_with fail
            with_reducible refine (AW.out _).mono ?_
            rintro e u ⟨rfl, b2⟩
            have LZ := hide (bel_too L8.out b2)
            go_wp2
            go_ret
            exact ⟨rfl, LZ.out⟩
          · have hb : (ta.toList == tb.toList) = false := by rw [← HE2]; simpa using he
            have hd : (x == 0) = false := by simpa using he
            clear HE2
            go_wp2_with fail
            with_reducible refine (AW.out _).mono ?_
            rintro e u ⟨rfl, b2⟩
            have LZ := hide (bel_too L8.out b2)
            go_wp2
            go_ret
            exact ⟨rfl, LZ.out⟩
    ·
      go_wp2_with fail
      with_reducible refine (CA.out _ Q2.out).mono ?_
      rintro e v3 ⟨rfl, b2⟩
      have L3 := hide (bel_too L2.out b2)
      have Q3 := hide (Q2.out.below b2 (Nat.le_refl _))
      have S3 := hide (S2.out.below b2 (Nat.le_refl _))
      have U3 := hide (U2.out.below b2 (Nat.le_refl _))
      clear b2 L2 Q2 S2 U2
      cases hp : p
      · subst hp
        go_wp2_with fail
        with_reducible refine (AW.out _).mono ?_
        rintro e u ⟨rfl, b2⟩
        have LZ := hide (bel_too L3.out b2)
        go_wp2
        go_ret
        exact ⟨rfl, LZ.out⟩
      · subst hp
        go_wp2_with fail
        with_reducible refine (CB.out _ S3.out).mono ?_
        rintro e v4 ⟨rfl, b2⟩
        have L4 := hide (bel_too L3.out b2)
        have Q4 := hide (Q3.out.below b2 (Nat.le_refl _))
        have S4 := hide (S3.out.below b2 (Nat.le_refl _))
        have U4 := hide (U3.out.below b2 (Nat.le_refl _))
        clear b2 L3 Q3 S3 U3
        cases hq : r
        · subst hq
          go_wp2_with fail
          with_reducible refine (AW.out _).mono ?_
          rintro e u ⟨rfl, b2⟩
          have LZ := hide (bel_too L4.out b2)
          go_wp2
          go_ret
          exact ⟨rfl, LZ.out⟩
        · subst hq
          go_wp2_with fail
          with_reducible refine (XY.out _ Q4.out S4.out).mono ?_
          rintro e v5 ⟨rfl, b2⟩
          have L5 := hide (bel_too L4.out b2)
          have Q5 := hide (Q4.out.below b2 (Nat.le_refl _))
          have S5 := hide (S4.out.below b2 (Nat.le_refl _))
          have U5 := hide (U4.out.below b2 (Nat.le_refl _))
          clear b2 L4 Q4 S4 U4
          go_wp2_with fail
          with_reducible refine (TA.out (by simp) _ Q5.out).mono ?_
          rintro e v6 ⟨rfl, b2⟩
          have L6 := hide (bel_too L5.out b2)
          have Q6 := hide (Q5.out.below b2 (Nat.le_refl _))
          have S6 := hide (S5.out.below b2 (Nat.le_refl _))
          have U6 := hide (U5.out.below b2 (Nat.le_refl _))
          clear b2 L5 Q5 S5 U5
          go_wp2_with fail
          with_reducible refine (TB.out (by simp) _ S6.out).mono ?_
          rintro e v7 ⟨rfl, b2⟩
          have L7 := hide (bel_too L6.out b2)
          have Q7 := hide (Q6.out.below b2 (Nat.le_refl _))
          have S7 := hide (S6.out.below b2 (Nat.le_refl _))
          have U7 := hide (U6.out.below b2 (Nat.le_refl _))
          clear b2 L6 Q6 S6 U6
          have HE2 := HE.out (by simp) (by simp)
          by_cases he : x = 0
          · have hb : (ta.toList == tb.toList) = true := by rw [← HE2, he]; rfl
            clear HE2
            go_wp2_with fail
            with_reducible refine (AW.out _).mono ?_
            rintro e u ⟨rfl, b2⟩
            have LZ := hide (bel_too L7.out b2)
            go_wp2
            go_ret
            exact ⟨rfl, LZ.out⟩
          · have hb : (ta.toList == tb.toList) = false := by rw [← HE2]; simpa using he
            have hd : (x == 0) = false := by simpa using he
            clear HE2
            go_wp2_with fail
            with_reducible refine (AW.out _).mono ?_
            rintro e u ⟨rfl, b2⟩
            have LZ := hide (bel_too L7.out b2)
            go_wp2
            go_ret
            exact ⟨rfl, LZ.out⟩
  ·
    go_wp2_with fail
    with_reducible refine (CA.out _ Q1.out).mono ?_
    rintro e v2 ⟨rfl, b2⟩
    have L2 := hide (bel_too L1.out b2)
    have Q2 := hide (Q1.out.below b2 (Nat.le_refl _))
    have S2 := hide (S1.out.below b2 (Nat.le_refl _))
    have U2 := hide (U1.out.below b2 (Nat.le_refl _))
    clear b2 L1 Q1 S1 U1
    cases hp : p
    · subst hp
      go_wp2_with fail
      with_reducible refine (AW.out _).mono ?_
      rintro e u ⟨rfl, b2⟩
      have LZ := hide (bel_too L2.out b2)
      go_wp2
      go_ret
      exact ⟨rfl, LZ.out⟩
    · subst hp
      go_wp2_with fail
      with_reducible refine (CB.out _ S2.out).mono ?_
      rintro e v3 ⟨rfl, b2⟩
      have L3 := hide (bel_too L2.out b2)
      have Q3 := hide (Q2.out.below b2 (Nat.le_refl _))
      have S3 := hide (S2.out.below b2 (Nat.le_refl _))
      have U3 := hide (U2.out.below b2 (Nat.le_refl _))
      clear b2 L2 Q2 S2 U2
      cases hq : r
      · subst hq
        go_wp2_with fail
        with_reducible refine (AW.out _).mono ?_
        rintro e u ⟨rfl, b2⟩
        have LZ := hide (bel_too L3.out b2)
        go_wp2
        go_ret
        exact ⟨rfl, LZ.out⟩
      · subst hq
        go_wp2_with fail
        with_reducible refine (XY.out _ Q3.out S3.out).mono ?_
        rintro e v4 ⟨rfl, b2⟩
        have L4 := hide (bel_too L3.out b2)
        have Q4 := hide (Q3.out.below b2 (Nat.le_refl _))
        have S4 := hide (S3.out.below b2 (Nat.le_refl _))
        have U4 := hide (U3.out.below b2 (Nat.le_refl _))
        clear b2 L3 Q3 S3 U3
        go_wp2_with fail
        with_reducible refine (TA.out (by simp) _ Q4.out).mono ?_
        rintro e v5 ⟨rfl, b2⟩
        have L5 := hide (bel_too L4.out b2)
        have Q5 := hide (Q4.out.below b2 (Nat.le_refl _))
        have S5 := hide (S4.out.below b2 (Nat.le_refl _))
        have U5 := hide (U4.out.below b2 (Nat.le_refl _))
        clear b2 L4 Q4 S4 U4
        go_wp2_with fail
        with_reducible refine (TB.out (by simp) _ S5.out).mono ?_
        rintro e v6 ⟨rfl, b2⟩
        have L6 := hide (bel_too L5.out b2)
        have Q6 := hide (Q5.out.below b2 (Nat.le_refl _))
        have S6 := hide (S5.out.below b2 (Nat.le_refl _))
        have U6 := hide (U5.out.below b2 (Nat.le_refl _))
        clear b2 L5 Q5 S5 U5
        have HE2 := HE.out (by simp) (by simp)
        by_cases he : x = 0
        · have hb : (ta.toList == tb.toList) = true := by rw [← HE2, he]; rfl
          clear HE2
          go_wp2_with fail
          with_reducible refine (AW.out _).mono ?_
          rintro e u ⟨rfl, b2⟩
          have LZ := hide (bel_too L6.out b2)
          go_wp2
          go_ret
          exact ⟨rfl, LZ.out⟩
        · have hb : (ta.toList == tb.toList) = false := by rw [← HE2]; simpa using he
          have hd : (x == 0) = false := by simpa using he
          clear HE2
          go_wp2_with fail
          with_reducible refine (AW.out _).mono ?_
          rintro e u ⟨rfl, b2⟩
          have LZ := hide (bel_too L6.out b2)
          go_wp2
          go_ret
          exact ⟨rfl, LZ.out⟩
end Go.Proofs.Ytoepdgdagjckbaa
