/-
  The law LabelTexts, over what the laws ask of the program's own functions on labels.
  Conditions: as LaN, LaC, LaV, LaM, LaT, LaS say.
-/
import Derived.Test.YtoepdgdagjckbaaLabC
import Derived.Test.YtoepdgdagjckbaaLabY
namespace Go.Proofs.Ytoepdgdagjckbaa
open Go.RowKit
set_option maxRecDepth 20000

set_option maxHeartbeats 4000000 in
theorem textsL_of (N : LaN) (C : LaC) (V : LaV) (M : LaM) (T : LaT) (S : LaS) (a : Option Addr) (n cap : Nat) (l : List Lb) (w : World) (q : RowL w a n l) (hz : a = none → cap = 0) :
    Calls Try.prog 7 #[.slice a n cap] w fun e w' => e = .returned (.bool true) ∧ Below w.heap.size w w' := by
  have AW := hide (awakeL_any N C V M T)
  have HN := hide q.2.1
  have HF := hide q.2.2.1
  have HL := q.1
  have HR := hide q
  have RC := hide (fun W (q : RowL W a n l) => quietB (refchkl_any a n cap l W q))
  clear N C V M q
  cases hc : chkL l with
  | false =>
    rw [hc] at RC
    clear hc T S
    go_enter Try.func7, Try.ntmps7
    go_wp2_with fail
    with_reducible refine (RC.out _ HR.out).mono ?_
    rintro e v1 ⟨rfl, b2⟩
    have L1 := hide b2
    clear b2
    go_wp2_with fail
    with_reducible refine (AW.out _).mono ?_
    rintro e v2 ⟨rfl, b2⟩
    have L2 := hide (bel_too L1.out b2)
    clear b2
    go_wp2
    go_ret
    exact ⟨rfl, L2.out⟩
  | true =>
    rw [hc] at RC
    have LB := hide (fun W q => labels_any a n cap l W q hz)
    have PT := hide (fun W b c (q : RowL W b n l) => T.text b n c l W q hc)
    have RT := hide (fun W (q : RowL W a n l) => quietB (reftext_any a n cap l W q hc))
    have PS := hide (fun W => S.parse (textL l) W (by have := textL_size hc; omega))
    rw [parseL_iff.2 ⟨hc, rfl⟩] at PS
    unfold MadeL at PS
    simp only at PS
    have SM := hide (fun W b c (q : RowL W b l.length l) (q' : RowL W a n l) => quietB (samelabs_any b l.length c l a n cap l W q q'))
    rw [show decide (l = l) = true from decide_eq_true rfl] at SM
    rw [HL] at PS SM
    generalize textL l = s at *
    have e1 : (s.toList == s.toList) = true := by simp
    clear hc T S HL
    go_enter Try.func7, Try.ntmps7
    go_wp2_with fail
    with_reducible refine (RC.out _ HR.out).mono ?_
    rintro e v1 ⟨rfl, b2⟩
    have L1 := hide b2
    clear b2
    go_wp2_with fail
    with_reducible refine (LB.out _ (HR.out.below L1.out (Nat.le_refl _))).mono ?_
    rintro e v2 ⟨d, c, rfl, o, b2⟩
    have L2 := hide (bel_too L1.out b2)
    have X2 := hide (o.row HN.out HF.out)
    clear b2 L1 o LB
    go_wp2_with fail
    with_reducible refine (PT.out _ _ _ X2.out).mono ?_
    rintro e v3 ⟨rfl, b2⟩
    have L3 := hide (bel_too L2.out b2)
    clear b2 L2 X2 PT
    go_wp2_with fail
    with_reducible refine (PS.out _).mono ?_
    rintro e v4 ⟨b2, d4, c4, rfl, o, -⟩
    have L4 := hide (bel_too L3.out b2)
    have Y4 := hide o
    clear b2 L3 o PS
    go_wp2_with fail
    with_reducible refine (RT.out _ (HR.out.below L4.out (Nat.le_refl _))).mono ?_
    rintro e v5 ⟨rfl, b2⟩
    have L5 := hide (bel_too L4.out b2)
    have Y5 := hide (Y4.out.below b2 (Nat.le_refl _))
    clear b2 L4 Y4 RT
    go_wp2_with fail
    with_reducible refine (SM.out _ _ _ Y5.out (HR.out.below L5.out (Nat.le_refl _))).mono ?_
    rintro e v6 ⟨rfl, b2⟩
    have L6 := hide (bel_too L5.out b2)
    clear b2 L5 Y5 SM
    go_wp2_with fail
    with_reducible refine (AW.out _).mono ?_
    rintro e v7 ⟨rfl, b2⟩
    have L7 := hide (bel_too L6.out b2)
    clear b2
    go_wp2
    go_ret
    exact ⟨rfl, L7.out⟩
end Go.Proofs.Ytoepdgdagjckbaa
