/-
  The laws LabelChecks and LabelCmps, over what the laws ask of the program's own functions on labels.
  Conditions: as LaN, LaC, LaV, LaP, LaM, LaT say.
-/
import Derived.Test.YtoepdgdagjckbaaLabI
namespace Go.Proofs.Ytoepdgdagjckbaa
open Go.RowKit
set_option maxRecDepth 20000

theorem quietB {P : Program} {f : Nat} {args : Array Value} {v : Value} {w : World} (h : Calls P f args w (fun e w' => e = .returned v ∧ ∃ q, w' = w.drewN q)) : Calls P f args w fun e w' => e = .returned v ∧ Below w.heap.size w w' :=
  h.mono fun e w' ⟨he, q, hq⟩ => ⟨he, by rw [hq]; exact bel_drewN (Below.refl _ _) q⟩
theorem quietC {P : Program} {f : Nat} {args : Array Value} {v : Value} {w : World} (h : Calls P f args w (fun e w' => e = .returned v ∧ w' = w)) : Calls P f args w fun e w' => e = .returned v ∧ Below w.heap.size w w' :=
  h.mono fun e w' ⟨he, hq⟩ => ⟨he, by rw [hq]; exact Below.refl _ _⟩
theorem bel_too {w v u : World} (h : Below w.heap.size w v) (g : Below v.heap.size v u) : Below w.heap.size w u := bel_to h (Nat.le_refl _) g

theorem cmpP_range (x y : Lb) : lexP cmpT cmpT x y = -1 ∨ lexP cmpT cmpT x y = 0 ∨ lexP cmpT cmpT x y = 1 := by
  unfold lexP
  split
  · exact cmpT_range _ _
  · exact cmpT_range _ _
theorem cmpL_range : ∀ (l r : List Lb), cmpL l r = -1 ∨ cmpL l r = 0 ∨ cmpL l r = 1
  | [], [] => Or.inr (Or.inl rfl)
  | [], _ :: _ => Or.inl rfl
  | _ :: _, [] => Or.inr (Or.inr rfl)
  | x :: a, y :: b => by
    show (if lexP cmpT cmpT x y = 0 then cmpL a b else lexP cmpT cmpT x y) = -1 ∨ (if lexP cmpT cmpT x y = 0 then cmpL a b else lexP cmpT cmpT x y) = 0 ∨ (if lexP cmpT cmpT x y = 0 then cmpL a b else lexP cmpT cmpT x y) = 1
    split
    · exact cmpL_range a b
    · exact cmpP_range x y

set_option maxHeartbeats 2000000 in
theorem checksL_of (N : LaN) (C : LaC) (V : LaV) (M : LaM) (T : LaT) (a : Option Addr) (n cap : Nat) (l : List Lb) (s : ByteArray) (w : World) (q : RowL w a n l) (hz : a = none → cap = 0) (hs : s.size ≤ 9223372036854775807) :
    Calls Try.prog 3 #[.slice a n cap, .string s] w fun e w' => e = .returned (.bool true) ∧ Below w.heap.size w w' := by
  have AW := hide (awakeL_any N C V M T)
  have LB := hide (fun W q => labels_any a n cap l W q hz)
  have PC := hide (fun W b c (q : RowL W b n l) => C.chk b n c l W q)
  have RC := hide (fun W (q : RowL W a n l) => quietB (refchkl_any a n cap l W q))
  have PN := hide (fun W => N.name s W hs)
  have RN := hide (fun W => quietC (refname_any s W hs))
  have PV := hide (fun W b c (q : RowL W b n l) => V.val b n c l s W q hs)
  have RV := hide (fun W (q : RowL W a n l) => quietB (refval_any a n cap l s W q))
  have SM := hide (fun W b c (q : RowL W b n l) (q' : RowL W a n l) => quietB (samelabs_any b n c l a n cap l W q q'))
  rw [show decide (l = l) = true from decide_eq_true rfl] at SM
  have HN := hide q.2.1
  have HF := hide q.2.2.1
  have Q0 := hide q
  generalize chkL l = x1 at PC RC
  generalize nameB s = x2 at PN RN
  generalize valL l s = x3 at PV RV
  have e1 : (x1 == x1) = true := by simp
  have e2 : (x2 == x2) = true := by simp
  have e3 : (x3.toList == x3.toList) = true := by simp
  clear N C V M T q hs
  go_enter Try.func3, Try.ntmps3
  go_wp2_with fail
  with_reducible refine (LB.out _ Q0.out).mono ?_
  rintro e v1 ⟨b, c, rfl, o, b1⟩
  have L1 := hide b1
  have Q1 := hide (Q0.out.below b1 (Nat.le_refl _))
  have R1 := hide (o.row HN.out HF.out)
  clear b1 o Q0 LB
  go_wp2_with fail
  with_reducible refine (PC.out _ _ _ R1.out).mono ?_
  rintro e v2 ⟨rfl, b2⟩
  have L2 := hide (bel_too L1.out b2)
  have Q2 := hide (Q1.out.below b2 (Nat.le_refl _))
  have R2 := hide (R1.out.below b2 (Nat.le_refl _))
  clear b2 L1 Q1 R1 PC
  go_wp2_with fail
  with_reducible refine (RC.out _ Q2.out).mono ?_
  rintro e v3 ⟨rfl, b2⟩
  have L3 := hide (bel_too L2.out b2)
  have Q3 := hide (Q2.out.below b2 (Nat.le_refl _))
  have R3 := hide (R2.out.below b2 (Nat.le_refl _))
  clear b2 L2 Q2 R2 RC
  go_wp2_with fail
  with_reducible refine (PN.out _).mono ?_
  rintro e v4 ⟨rfl, b2⟩
  have L4 := hide (bel_too L3.out b2)
  have Q4 := hide (Q3.out.below b2 (Nat.le_refl _))
  have R4 := hide (R3.out.below b2 (Nat.le_refl _))
  clear b2 L3 Q3 R3 PN
  go_wp2_with fail
  with_reducible refine (RN.out _).mono ?_
  rintro e v5 ⟨rfl, b2⟩
  have L5 := hide (bel_too L4.out b2)
  have Q5 := hide (Q4.out.below b2 (Nat.le_refl _))
  have R5 := hide (R4.out.below b2 (Nat.le_refl _))
  clear b2 L4 Q4 R4 RN
  go_wp2_with fail
  with_reducible refine (PV.out _ _ _ R5.out).mono ?_
  rintro e v6 ⟨rfl, b2⟩
  have L6 := hide (bel_too L5.out b2)
  have Q6 := hide (Q5.out.below b2 (Nat.le_refl _))
  have R6 := hide (R5.out.below b2 (Nat.le_refl _))
  clear b2 L5 Q5 R5 PV
  go_wp2_with fail
  with_reducible refine (RV.out _ Q6.out).mono ?_
  rintro e v7 ⟨rfl, b2⟩
  have L7 := hide (bel_too L6.out b2)
  have Q7 := hide (Q6.out.below b2 (Nat.le_refl _))
  have R7 := hide (R6.out.below b2 (Nat.le_refl _))
  clear b2 L6 Q6 R6 RV
  go_wp2_with fail
  with_reducible refine (SM.out _ _ _ R7.out Q7.out).mono ?_
  rintro e v8 ⟨rfl, b2⟩
  have L8 := hide (bel_too L7.out b2)
  clear b2 L7 Q7 R7 SM
  go_wp2_with fail
  with_reducible refine (AW.out _).mono ?_
  rintro e v9 ⟨rfl, b2⟩
  have L9 := hide (bel_too L8.out b2)
  clear b2 L8 AW
  go_wp2
  go_ret
  exact ⟨rfl, L9.out⟩

set_option maxHeartbeats 2000000 in
theorem cmpsL_of (N : LaN) (C : LaC) (V : LaV) (P : LaP) (M : LaM) (T : LaT) (a : Option Addr) (n cap : Nat) (l : List Lb) (b : Option Addr) (m capb : Nat) (r : List Lb) (w : World) (q : RowL w a n l) (hz : a = none → cap = 0) (q' : RowL w b m r) (hz' : b = none → capb = 0) :
    Calls Try.prog 5 #[.slice a n cap, .slice b m capb] w fun e w' => e = .returned (.bool true) ∧ Below w.heap.size w w' := by
  have AW := hide (awakeL_any N C V M T)
  have LA := hide (fun W q => labels_any a n cap l W q hz)
  have LB := hide (fun W q => labels_any b m capb r W q hz')
  have PC := hide (fun W d c d' c' (q : RowL W d n l) (q' : RowL W d' m r) => P.cmp d n c l d' m c' r W q q')
  have RC := hide (fun W (q : RowL W a n l) (q' : RowL W b m r) => quietB (refcmp_any a n cap l b m capb r W q q'))
  have PD := hide (fun W (q : RowL W a n l) (q' : RowL W b m r) => P.cmp b m capb r a n cap l W q' q)
  have PE := hide (fun W (q : RowL W a n l) => P.cmp a n cap l a n cap l W q q)
  rw [cmpL_is.self] at PE
  rw [cmpL_is.turn] at PD
  have hx : cmpL l r = -1 ∨ cmpL l r = 0 ∨ cmpL l r = 1 := cmpL_range l r
  generalize cmpL l r = x at PC RC PD hx
  have HN := hide (⟨q.2.1, q.2.2.1⟩ : _ ∧ _)
  have HM := hide (⟨q'.2.1, q'.2.2.1⟩ : _ ∧ _)
  have Q0 := hide q
  have S0 := hide q'
  have e1 : (x == x) = true := by simp
  have e2 : (IntKind.i64.wrap (-x)) = -x := by rcases hx with rfl | rfl | rfl <;> rfl
  have e3 : (-x == -x) = true := by simp
  clear N C V P M T q q' hx
  go_enter Try.func5, Try.ntmps5
  go_wp2_with fail
  with_reducible refine (LA.out _ Q0.out).mono ?_
  rintro e v1 ⟨d, c, rfl, o, b2⟩
  have L1 := hide b2
  have Q1 := hide (Q0.out.below b2 (Nat.le_refl _))
  have S1 := hide (S0.out.below b2 (Nat.le_refl _))
  have X1 := hide (o.row HN.out.1 HN.out.2)
  clear b2 o Q0 S0 LA
  go_wp2_with fail
  with_reducible refine (LB.out _ S1.out).mono ?_
  rintro e v2 ⟨d', c', rfl, o, b2⟩
  have L2 := hide (bel_too L1.out b2)
  have Q2 := hide (Q1.out.below b2 (Nat.le_refl _))
  have S2 := hide (S1.out.below b2 (Nat.le_refl _))
  have X2 := hide (X1.out.below b2 (Nat.le_refl _))
  have Y2 := hide (o.row HM.out.1 HM.out.2)
  clear b2 o Q1 S1 X1 LB L1
  go_wp2_with fail
  with_reducible refine (PC.out _ _ _ _ _ X2.out Y2.out).mono ?_
  rintro e v3 ⟨rfl, b2⟩
  have L3 := hide (bel_too L2.out b2)
  have Q3 := hide (Q2.out.below b2 (Nat.le_refl _))
  have S3 := hide (S2.out.below b2 (Nat.le_refl _))
  clear b2 Q2 S2 X2 Y2 PC L2
  go_wp2_with fail
  with_reducible refine (RC.out _ Q3.out S3.out).mono ?_
  rintro e v4 ⟨rfl, b2⟩
  have L4 := hide (bel_too L3.out b2)
  have Q4 := hide (Q3.out.below b2 (Nat.le_refl _))
  have S4 := hide (S3.out.below b2 (Nat.le_refl _))
  clear b2 Q3 S3 RC L3
  go_wp2_with fail
  with_reducible refine (PD.out _ Q4.out S4.out).mono ?_
  rintro e v5 ⟨rfl, b2⟩
  have L5 := hide (bel_too L4.out b2)
  have Q5 := hide (Q4.out.below b2 (Nat.le_refl _))
  clear b2 Q4 S4 PD L4
  go_wp2_with fail
  with_reducible refine (PE.out _ Q5.out).mono ?_
  rintro e v6 ⟨rfl, b2⟩
  have L6 := hide (bel_too L5.out b2)
  clear b2 Q5 PE L5
  go_wp2_with fail
  with_reducible refine (AW.out _).mono ?_
  rintro e v9 ⟨rfl, b2⟩
  have L9 := hide (bel_too L6.out b2)
  clear b2 L6 AW
  go_wp2
  go_ret
  exact ⟨rfl, L9.out⟩
end Go.Proofs.Ytoepdgdagjckbaa
