/-
  For any word and any shift from -1900 to 1900 one shift more makes flo.Units twice as many, or one more than that; what is Below, None or Above stays so; the document's examples hold. The call returns true, and its arguments read as they did.
  Conditions: none: every value of the parameters' types.
-/
import Derived.Test.YtiobojdkjnaolabFloE
import Derived.ProofKit
import Derived.OpenShut
namespace Go.Proofs.Ytiobojdkjnaolab
open Go.RowKit

/-- What units at one shift have to do with those at the next. -/
theorem shift_facts {x s : Int} (hx : Word x) (h0 : -1900 ≤ s) (h1 : s ≤ 1900) :
    ∃ X K Y J : Int, unitV x s = X ∧ unitK x s = K ∧ unitV x (s + 1) = Y ∧ unitK x (s + 1) = J ∧ 0 ≤ X ∧ X < 18446744073709551616 ∧
      ((K = 1 ∧ J = 1) ∨ (K = 3 ∧ J = 3) ∨ (K = 2 ∧ J = 2) ∨ (K = 0 ∧ 9223372036854775808 ≤ X ∧ J = 2) ∨ (K = 0 ∧ X < 9223372036854775808 ∧ J = 0 ∧ (Y = 2 * X ∨ Y = 2 * X + 1))) := by
  obtain ⟨x0, x1⟩ := hx
  have c0 : clampS s = s := by unfold clampS; rw [if_neg (by omega), if_neg (by omega)]
  have c1 : clampS (s + 1) = s + 1 := by unfold clampS; rw [if_neg (by omega), if_neg (by omega)]
  have u := Fl.un_succ (r := x.toNat) (s := s) (by omega)
  refine ⟨_, _, _, _, rfl, rfl, rfl, rfl, ?_⟩
  by_cases k : 0 < x ∧ x < 9218868437227405312
  · obtain ⟨a1, a2⟩ := units_of s k.1 k.2
    obtain ⟨b1, b2⟩ := units_of (s + 1) k.1 k.2
    rw [a1, a2, b1, b2, c0, c1]
    generalize Fl.un x.toNat s = p at *
    generalize Fl.un x.toNat (s + 1) = q at *
    split <;> split <;> omega
  · by_cases kn : 9218868437227405312 < x % 9223372036854775808
    · unfold unitV unitK
      rw [if_pos kn, if_pos kn, if_pos kn, if_pos kn]; omega
    · by_cases k1 : 9223372036854775808 < x
      · have g1 : ∀ s, unitV x s = 0 := fun s => by unfold unitV; rw [if_neg kn, if_pos (by omega)]
        have g2 : ∀ s, unitK x s = 1 := fun s => by unfold unitK; rw [if_neg kn, if_pos k1]
        rw [g1, g1, g2, g2]; omega
      · by_cases ki : x = 9218868437227405312
        · have g1 : ∀ s, unitV x s = 18446744073709551615 := fun s => by unfold unitV; rw [if_neg kn, if_neg (by omega), if_pos ki]
          have g2 : ∀ s, unitK x s = 2 := fun s => by unfold unitK; rw [if_neg kn, if_neg k1, if_neg (by omega), if_pos ki]
          rw [g1, g1, g2, g2]; omega
        · have k2 : x = 0 ∨ x = 9223372036854775808 := by omega
          have g1 : ∀ s, unitV x s = 0 := fun s => by
            unfold unitV; rw [if_neg kn]
            rcases k2 with rfl | rfl
            · rw [if_neg (by omega), if_neg (by omega)]
              rw [show (0 : Int).toNat = 0 from rfl, Fl.un_zero]; rfl
            · rw [if_pos (by omega)]
          have g2 : ∀ s, unitK x s = 0 := fun s => by
            unfold unitK; rw [if_neg kn, if_neg k1]
            rcases k2 with rfl | rfl
            · rw [if_neg (by omega), if_neg (by omega)]
              rw [show (0 : Int).toNat = 0 from rfl, Fl.un_zero]; rfl
            · rw [if_pos rfl]
          rw [g1, g1, g2, g2]; omega

set_option maxHeartbeats 1000000 in
theorem walk_shifts (x s : Int) (h : Word x) (_hs : (Lit.int .i64 s).wf = true) (w : World) :
    Calls Try.prog 6 #[.int .u64 x, .int .i64 s] w fun e w' => e = .returned (.bool true) ∧ Grown w w' := by
  clear _hs
  rcases (show s < -1900 ∨ 1900 < s ∨ (-1900 ≤ s ∧ s ≤ 1900) by omega) with k | k | ⟨k0, k1⟩
  · go_enter Try.func6, Try.ntmps6
    go_wp2_with fail
    refine (awake_any _).mono ?_
    rintro e w1 ⟨rfl, rfl⟩
    go_wp2
    go_ret
    exact ⟨rfl, Grown.refl _⟩
  · go_enter Try.func6, Try.ntmps6
    go_wp2_with fail
    refine (awake_any _).mono ?_
    rintro e w1 ⟨rfl, rfl⟩
    go_wp2
    go_ret
    exact ⟨rfl, Grown.refl _⟩
  · have A := hide (fun w => units_any x s h w)
    have B := hide (fun w => units_any x (s + 1) h w)
    obtain ⟨X, K, Y, J, e1, e2, e3, e4, x0, x1, f⟩ := shift_facts h k0 k1
    rw [e1, e2] at A
    rw [e3, e4] at B
    clear e1 e2 e3 e4 h
    rcases f with ⟨rfl, rfl⟩ | ⟨rfl, rfl⟩ | ⟨rfl, rfl⟩ | ⟨rfl, y0, rfl⟩ | ⟨rfl, y0, rfl, rfl | rfl⟩
    all_goals
      go_enter Try.func6, Try.ntmps6
      go_wp2_with fail
      refine (A.out _).mono ?_
      rintro e w1 ⟨rfl, rfl⟩
      go_wp2_with fail
      refine (B.out _).mono ?_
      rintro e w1 ⟨rfl, rfl⟩
      go_wp2_with fail
      refine (awake_any _).mono ?_
      rintro e w1 ⟨rfl, rfl⟩
      go_wp2
      go_ret
      exact ⟨rfl, Grown.refl _⟩
end Go.Proofs.Ytiobojdkjnaolab

namespace Go.Proofs.Ytiobojdkjnaolab.floShifts
open Go.ChangeShapes Go.WideShapes Go.ChangeAt Go.RowKit
set_option linter.unusedVariables false

theorem own : ownKnob Try.prog.godebug = none := by kernel_rfl

theorem walk (a0 : Int) (a1 : Int) (w0 : (Lit.int .u64 a0).wf = true) (w1 : (Lit.int .i64 a1).wf = true) (w : World) :
    Calls Try.prog 6 #[.int .u64 a0, .int .i64 a1] w fun e w' => e = .returned (.bool true) ∧ Grown w w' :=
  walk_shifts a0 a1 (word_of_wf w0) w1 w

set_option maxRecDepth 100000 in
theorem lifted (os : Os) (started : os.Started) (H : Type) (enc : TypeId × Value → H) :
    ReturnsInHanded {} Try.checked os 6 .any (Rows.floShiftsSpec.pre6 enc Try.prog Try.f6 Rows.floShiftsRow.domain false) (Rows.floShiftsSpec.post enc Try.prog Try.f6 false true false false) := by
  refine returnsInHanded_of_change (C := Try.checked) own started (by kernel_rfl) Try.func6
    (ChangeSpec.witness6 (enc := enc) (C := Try.checked) false ⟨#[], #[.int .u64 0, .int .i64 0], []⟩ 8 (by kernel_rfl) (by kernel_rfl) (by kernel_rfl) (by kernel_rfl)) ?_
  intro W base args ds gs before hval0 hW hcnd _
  have hval : ∀ (j : Nat) t v, Try.f6.params[j]? = some t → args[j]? = some v → Value.okWide Try.prog W .any base t v := hval0
  have hW' := hW
  obtain ⟨p, q, hA0, hV, rfl, hfz, hnd⟩ := hW
  have hA : DataW.TrodAll enc Try.prog W 0 (fun _ => true) true Try.f6.params.toList args.toList ds p := hA0
  rw [Try.params6] at hA hval
  obtain ⟨v0, vs0, d0, ds0, p0, q0, hargs, rfl, rfl, h0, r0⟩ := trodAll_cons hA
  obtain ⟨v1, vs1, d1, ds1, p1, q1, rfl, rfl, rfl, h1, r1⟩ := trodAll_cons r0
  obtain ⟨rfl, rfl, rfl⟩ := trodAll_nil r1
  obtain rfl : args = #[v0, v1] := by cases args; simp_all
  obtain ⟨rfl, rfl⟩ := trodVars_none hV
  obtain ⟨a0, rfl, rfl, rfl, w0⟩ := open_int Try.underlying22 (hval 0 22 v0 rfl rfl) h0
  obtain ⟨a1, rfl, rfl, rfl, w1⟩ := open_int Try.underlying3 (hval 1 3 v1 rfl rfl) h1
  clear hA0 hval0
  simp only [List.append_nil] at hW'
  refine (walk a0 a1 w0 w1 W).mono fun e W' ⟨he, hg⟩ => ?_
  subst he
  exact ⟨_, rfl, post_of_same (pa := []) (pv := []) hW' (fun _ _ _ => (trodAll_cons_mk (shut_bool Try.underlying4 _) trodAll_mk0)) (fun sp _ => (trodAll_cons_mk (shut_int Try.underlying22 w0) (trodAll_cons_mk (shut_int Try.underlying3 w1) trodAll_mk0))) (fun _ _ => rfl) rfl
    (hg.frame _) hg.2.1 (ok_one (by kernel_rfl) rfl (okWide_bool_mk Try.underlying4 _))⟩

theorem over : Rows.floShiftsRow.holds Try.pinned (OpenSpec.ofChange Rows.floShiftsSpec) :=
  OpenClaim.holds_of_wide 6 Try.f6 rfl rfl rfl rfl rfl rfl rfl ⟨rfl, rfl, rfl, rfl, rfl⟩ rfl rfl rfl rfl rfl (by kernel_rfl) Try.func6 (by kernel_rfl)
    (of_decide_eq_true (by kernel_rfl)) (by unfold Func.isWrapper; first | (rw [if_pos (by decide +kernel)]; kernel_rfl) | (rw [if_neg (by decide +kernel)]; exact ⟨rfl, rfl⟩))
    (fun os started H enc _ => lifted os started H enc)

theorem proved : Rows.FloShiftsSaid :=
  over
#print axioms proved
end Go.Proofs.Ytiobojdkjnaolab.floShifts
