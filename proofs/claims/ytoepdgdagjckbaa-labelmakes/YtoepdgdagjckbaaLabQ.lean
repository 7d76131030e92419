/-
  The law LabelMakes, over what the laws ask of the program's own functions on labels (written by gen/labq.gen.py).
  Conditions: as LaN, LaC, LaV, LaM, LaT say.
-/
import Derived.Test.YtoepdgdagjckbaaLabC
import Derived.Test.YtoepdgdagjckbaaLabN
namespace Go.Proofs.Ytoepdgdagjckbaa
open Go.RowKit
set_option maxRecDepth 20000

set_option maxHeartbeats 4000000 in
theorem makesL_of (N : LaN) (C : LaC) (V : LaV) (M : LaM) (T : LaT) (a : Option Addr) (n cap : Nat) (l : List Lb) (w : World) (q : RowL w a n l) (hz : a = none → cap = 0) :
    Calls Try.prog 4 #[.slice a n cap] w fun e w' => e = .returned (.bool true) ∧ Below w.heap.size w w' := by
  have AW := hide (awakeL_any N C V M T)
  have LB := hide (fun W q => labels_any a n cap l W q hz)
  have RM := hide (fun W (q : RowL W a n l) => refmake_any a n cap l W q)
  have SM := hide (fun W b c (q : RowL W b n l) (q' : RowL W a n l) => quietB (samelabs_any b n c l a n cap l W q q'))
  rw [show decide (l = l) = true from decide_eq_true rfl] at SM
  have HN := hide q.2.1
  have HF := hide q.2.2.1
  have Q0 := hide q
  have hn := q.2.1
  have L0 : Hid (Below w.heap.size w w) := Below.refl _ _
  clear N C V T q
  by_cases h1 : n ≤ 100
  · have PM := hide (fun W b c (q : RowL W b n l) => M.make b n c l W q h1)
    have e1 : ¬ (100 : Int) < (n : Int) := by omega
    clear M
    unfold DocL at RM
    unfold MadeL at PM
    cases hm : makeL l with
    | none =>
      rw [hm] at RM PM
      simp only at RM PM
      clear hm
      go_enter Try.func4, Try.ntmps4
      go_wp2_with fail
      with_reducible refine (LB.out _ Q0.out).mono ?_
      rintro e v1 ⟨d, c, rfl, o, b2⟩
      have L1 := hide (bel_too L0.out b2)
      have Q1 := hide (Q0.out.below b2 (Nat.le_refl _))
      have R1 := hide (o.row HN.out HF.out)
      clear o
      clear b2 L0 Q0
      go_wp2_with fail
      with_reducible refine (PM.out _ _ _ R1.out).mono ?_
      rintro e v2 ⟨b2, d2, c2, rfl⟩
      have L2 := hide (bel_too L1.out b2)
      have Q2 := hide (Q1.out.below b2 (Nat.le_refl _))
      have R2 := hide (R1.out.below b2 (Nat.le_refl _))
      clear b2 L1 Q1 R1
      go_wp2_with fail
      with_reducible refine (RM.out _ Q2.out).mono ?_
      rintro e v3 ⟨b2, rfl⟩
      have L3 := hide (bel_too L2.out b2)
      have Q3 := hide (Q2.out.below b2 (Nat.le_refl _))
      have R3 := hide (R2.out.below b2 (Nat.le_refl _))
      clear b2 L2 Q2 R2
      go_wp2_with fail
      with_reducible refine (SM.out _ _ _ R3.out Q3.out).mono ?_
      rintro e v4 ⟨rfl, b2⟩
      have L4 := hide (bel_too L3.out b2)
      clear b2 L3 
      go_wp2_with fail
      with_reducible refine (AW.out _).mono ?_
      rintro e v5 ⟨rfl, b2⟩
      have L5 := hide (bel_too L4.out b2)
      clear b2 L4 
      go_wp2
      go_ret
      exact ⟨rfl, L5.out⟩
    | some r =>
      rw [hm] at RM PM
      simp only at RM PM
      clear hm
      have SX := hide (fun W b c b' c' (q : RowL W b r.length r) (q' : RowL W b' r.length r) => quietB (samelabs_any b r.length c r b' r.length c' r W q q'))
      rw [show decide (r = r) = true from decide_eq_true rfl] at SX
      generalize r.length = nr at *
      go_enter Try.func4, Try.ntmps4
      go_wp2_with fail
      with_reducible refine (LB.out _ Q0.out).mono ?_
      rintro e v1 ⟨d, c, rfl, o, b2⟩
      have L1 := hide (bel_too L0.out b2)
      have Q1 := hide (Q0.out.below b2 (Nat.le_refl _))
      have R1 := hide (o.row HN.out HF.out)
      clear o
      clear b2 L0 Q0
      go_wp2_with fail
      with_reducible refine (PM.out _ _ _ R1.out).mono ?_
      rintro e v2 ⟨b2, d2, c2, rfl, o, -⟩
      have L2 := hide (bel_too L1.out b2)
      have Q2 := hide (Q1.out.below b2 (Nat.le_refl _))
      have R2 := hide (R1.out.below b2 (Nat.le_refl _))
      have X2 := hide o
      clear o
      clear b2 L1 Q1 R1
      go_wp2_with fail
      with_reducible refine (RM.out _ Q2.out).mono ?_
      rintro e v3 ⟨b2, d3, c3, rfl, o⟩
      have L3 := hide (bel_too L2.out b2)
      have Q3 := hide (Q2.out.below b2 (Nat.le_refl _))
      have R3 := hide (R2.out.below b2 (Nat.le_refl _))
      have X3 := hide (X2.out.below b2 (Nat.le_refl _))
      have Y3 := hide o
      clear o
      clear b2 L2 Q2 R2 X2
      go_wp2_with fail
      with_reducible refine (SX.out _ _ _ _ _ X3.out Y3.out).mono ?_
      rintro e v4 ⟨rfl, b2⟩
      have L4 := hide (bel_too L3.out b2)
      have Q4 := hide (Q3.out.below b2 (Nat.le_refl _))
      have R4 := hide (R3.out.below b2 (Nat.le_refl _))
      clear b2 L3 Q3 R3
      go_wp2_with fail
      with_reducible refine (SM.out _ _ _ R4.out Q4.out).mono ?_
      rintro e v5 ⟨rfl, b2⟩
      have L5 := hide (bel_too L4.out b2)
      clear b2 L4 
      go_wp2_with fail
      with_reducible refine (AW.out _).mono ?_
      rintro e v6 ⟨rfl, b2⟩
      have L6 := hide (bel_too L5.out b2)
      clear b2 L5 
      go_wp2
      go_ret
      exact ⟨rfl, L6.out⟩
  · have e1 : (100 : Int) < (n : Int) := by omega
    clear LB RM SM M
    go_enter Try.func4, Try.ntmps4
    go_wp2_with fail
    with_reducible refine (AW.out _).mono ?_
    rintro e v1 ⟨rfl, b2⟩
    have L1 := hide (bel_too L0.out b2)
    clear b2 L0 
    go_wp2
    go_ret
    exact ⟨rfl, L1.out⟩
end Go.Proofs.Ytoepdgdagjckbaa
