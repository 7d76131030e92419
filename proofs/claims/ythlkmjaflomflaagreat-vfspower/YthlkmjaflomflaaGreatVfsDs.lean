/-
  The landed file system: Arm: contracts, for every world (written by gen/vfsdq.gen.py).
  Conditions: the file system lies in memory; as each theorem says.
-/
import Derived.Test.YthlkmjaflomflaaGreatVfsDj
namespace Go.Proofs.YthlkmjaflomflaaGreat
open Go.RowKit Go.Maps
set_option maxRecDepth 20000
set_option linter.unusedVariables false

theorem armF_bad {F : Fs} {k a : Int} (h : (k ≠ 0 ∧ k ≠ 14 ∧ k ≠ 15) ∨ a < 0) : armF F k a = (F, 1) := by unfold armF; rw [if_pos h]
theorem armF_ok {F : Fs} {k a : Int} (h1 : k = 0 ∨ k = 14 ∨ k = 15) (h2 : 0 ≤ a) : armF F k a = ({ F with armed := true, kind := k, after := a }, 0) := by unfold armF; rw [if_neg (by omega)]

set_option maxHeartbeats 4000000 in
theorem larm_any (g : Nat) (S : Nat → Prop) (F : Fs) (k a : Int) (w : World) (hF : LAt w g S F) (hk : (Lit.int .i64 k).wf = true) (ha : (Lit.int .i64 a).wf = true) :
    Calls Tryz.prog 14 #[.pointer (some ⟨g, 0, none⟩), .int .i64 k, .int .i64 a] w fun e w' => e = .returned (.int .i64 (armF F k a).2) ∧ StepV LAt w w' g S (armF F k a).1 := by
  obtain ⟨hV, hN, fb, fh, bn, bc, at', ct, B⟩ := hF
  have HG := hide B.own
  obtain ⟨a0, a1⟩ := i64_of_wf ha
  have HS : Hid (StepV LAt w w g S F) := stepL_same ⟨hV, hN, fb, fh, bn, bc, at', ct, B⟩ (Ch.refl _ _) B.own
  by_cases h2 : a < 0
  · rw [armF_bad (Or.inr h2)]
    have d2 : decide (a < 0) = true := decide_eq_true h2
    by_cases h0 : k = 0
    · subst h0
      clear B hV hN
      go_enter Tryz.func14, Tryz.ntmps14
      go_wp2
      go_ret
      exact ⟨rfl, HS.out⟩
    · have e0 : (k != 0) = true := by simpa using h0
      by_cases h14 : k = 14
      · subst h14
        clear B hV hN
        go_enter Tryz.func14, Tryz.ntmps14
        go_wp2
        go_ret
        exact ⟨rfl, HS.out⟩
      · have e14 : (k != 14) = true := by simpa using h14
        by_cases h15 : k = 15
        · subst h15
          clear B hV hN
          go_enter Tryz.func14, Tryz.ntmps14
          go_wp2
          go_ret
          exact ⟨rfl, HS.out⟩
        · have e15 : (k != 15) = true := by simpa using h15
          clear B hV hN
          go_enter Tryz.func14, Tryz.ntmps14
          go_wp2
          go_ret
          exact ⟨rfl, HS.out⟩
  · have d2 : decide (a < 0) = false := decide_eq_false h2
    by_cases hk3 : k = 0 ∨ k = 14 ∨ k = 15
    · rw [armF_ok hk3 (by omega)]
      have c5 := B.c5
      have c6 := B.c6
      have c7 := B.c7
      have c8 := B.c8
      have f5 := B.fz 5
      have f6 := B.fz 6
      have f7 := B.fz 7
      have f8 := B.fz 8
      have x5 := B.setArmed true
      have x6 := x5.setKind k
      have x7 := x6.setAfter a
      have x8 := x7.setDark F.dark
      have K : Hid (Ch (fun j => j = g) w ((((w.setCell ⟨g, 5, none⟩ (.bool true)).setCell ⟨g, 6, none⟩ (.int .i64 k)).setCell ⟨g, 7, none⟩ (.int .i64 a)).setCell ⟨g, 8, none⟩ (.bool F.dark))) := (((ch_set w g 5 _).trans (ch_set _ g 6 _)).trans (ch_set _ g 7 _)).trans (ch_set _ g 8 _)
      have FIN := hide (stepL_same (w := w) ⟨(⟨hV.sure, hV.turns, hV.cuts, hV.byte, ⟨by dsimp only; omega, a1⟩, hk3⟩ : GoodV { F with armed := true, kind := k, after := a }), (⟨hN.sure, hN.turns⟩ : GoodN { F with armed := true, kind := k, after := a }), _, _, _, _, _, _, x8⟩ K.out HG.out)
      clear B hV hN x5 x6 x7 x8 K HS
      rcases hk3 with rfl | rfl | rfl
      · go_enter Tryz.func14, Tryz.ntmps14
        go_wp2
        go_ret
        exact ⟨rfl, FIN.out⟩
      · go_enter Tryz.func14, Tryz.ntmps14
        go_wp2
        go_ret
        exact ⟨rfl, FIN.out⟩
      · go_enter Tryz.func14, Tryz.ntmps14
        go_wp2
        go_ret
        exact ⟨rfl, FIN.out⟩
    · rw [armF_bad (Or.inl (by omega))]
      have e0 : (k != 0) = true := by simp; omega
      have e14 : (k != 14) = true := by simp; omega
      have e15 : (k != 15) = true := by simp; omega
      clear B hV hN
      go_enter Tryz.func14, Tryz.ntmps14
      go_wp2
      go_ret
      exact ⟨rfl, HS.out⟩

end Go.Proofs.YthlkmjaflomflaaGreat
