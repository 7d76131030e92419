/-
  The law LabelParses, over what the laws ask of the program's own functions on labels.
  Conditions: as LaN, LaC, LaV, LaM, LaT, LaS say.
-/
import Derived.Test.YtoepdgdagjckbaaLabHp
import Derived.Test.YtoepdgdagjckbaaLabC
namespace Go.Proofs.Ytoepdgdagjckbaa
open Go.RowKit
set_option maxRecDepth 20000

set_option maxHeartbeats 4000000 in
theorem parsesL_of (N : LaN) (C : LaC) (V : LaV) (M : LaM) (T : LaT) (S : LaS) (s : ByteArray) (w : World) :
    Calls Try.prog 8 #[.string s] w fun e w' => e = .returned (.bool true) ∧ Below w.heap.size w w' := by
  have AW := hide (awakeL_any N C V M T)
  have L0 : Hid (Below w.heap.size w w) := Below.refl _ _
  by_cases hs : s.size ≤ 20000
  · have e1 : ¬ (20000 : Int) < (s.size : Int) := by omega
    have PS := hide (fun W => S.parse s W hs)
    have RP := hide (fun W => refparse_any s W hs)
    unfold MadeL at PS
    unfold DocL at RP
    cases hp : parseL s with
    | none =>
      rw [hp] at PS RP
      simp only at PS RP
      clear hp N C V M T S hs
      go_enter Try.func8, Try.ntmps8
      go_wp2_with fail
      with_reducible refine (PS.out _).mono ?_
      rintro e v1 ⟨b2, d, c, rfl⟩
      have L1 := hide (bel_too L0.out b2)
      clear b2 L0 PS
      go_wp2_with fail
      with_reducible refine (RP.out _).mono ?_
      rintro e v2 ⟨b2, rfl⟩
      have L2 := hide (bel_too L1.out b2)
      clear b2 L1 RP
      go_wp2_with fail
      with_reducible refine (AW.out _).mono ?_
      rintro e v3 ⟨rfl, b2⟩
      have L3 := hide (bel_too L2.out b2)
      clear b2 L2 AW
      go_wp2
      go_ret
      exact ⟨rfl, L3.out⟩
    | some m =>
      rw [hp] at PS RP
      simp only at PS RP
      obtain ⟨h1, h2⟩ := parseL_iff.1 hp
      have TX := hide (fun W a c (q : RowL W a m.length m) => T.text a m.length c m W q h1)
      rw [h2] at TX
      have SM := hide (fun W b c b' c' (q : RowL W b m.length m) (q' : RowL W b' m.length m) => quietB (samelabs_any b m.length c m b' m.length c' m W q q'))
      rw [show decide (m = m) = true from decide_eq_true rfl] at SM
      have y1 : (s.toList == s.toList) = true := by simp
      clear hp N C V M T S hs h1 h2
      generalize m.length = n at *
      go_enter Try.func8, Try.ntmps8
      go_wp2_with fail
      with_reducible refine (PS.out _).mono ?_
      rintro e v1 ⟨b2, d, c, rfl, r1, _, _⟩
      have L1 := hide (bel_too L0.out b2)
      have R1 := hide r1
      clear b2 r1 L0 PS
      go_wp2_with fail
      with_reducible refine (RP.out _).mono ?_
      rintro e v2 ⟨b2, d2, c2, rfl, r2⟩
      have L2 := hide (bel_too L1.out b2)
      have R2 := hide (R1.out.below b2 (Nat.le_refl _))
      have Q2 := hide r2
      clear b2 r2 L1 R1 RP
      go_wp2_with fail
      with_reducible refine (SM.out _ _ _ _ _ R2.out Q2.out).mono ?_
      rintro e v3 ⟨rfl, b2⟩
      have L3 := hide (bel_too L2.out b2)
      have R3 := hide (R2.out.below b2 (Nat.le_refl _))
      clear b2 L2 R2 Q2 SM
      go_wp2_with fail
      with_reducible refine (TX.out _ _ _ R3.out).mono ?_
      rintro e v4 ⟨rfl, b2⟩
      have L4 := hide (bel_too L3.out b2)
      clear b2 L3 R3 TX
      go_wp2_with fail
      with_reducible refine (AW.out _).mono ?_
      rintro e v5 ⟨rfl, b2⟩
      have L5 := hide (bel_too L4.out b2)
      clear b2 L4 AW
      go_wp2
      go_ret
      exact ⟨rfl, L5.out⟩
  · have e1 : (20000 : Int) < (s.size : Int) := by omega
    clear N C V M T S hs
    go_enter Try.func8, Try.ntmps8
    go_wp2_with fail
    with_reducible refine (AW.out _).mono ?_
    rintro e v1 ⟨rfl, b2⟩
    have L1 := hide (bel_too L0.out b2)
    clear b2 L0 AW
    go_wp2
    go_ret
    exact ⟨rfl, L1.out⟩
end Go.Proofs.Ytoepdgdagjckbaa
