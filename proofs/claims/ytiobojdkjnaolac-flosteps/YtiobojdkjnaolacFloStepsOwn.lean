/-
  For any word and any number flo.Next, taken as often as the number's last five bits say, comes so many places behind by flo.Key, and no farther than +Inf; of a NaN it stays; the document's examples hold. The call returns true, and its arguments read as they did.
  Conditions: none: every value of the parameters' types.
-/
import Derived.Test.YtiobojdkjnaolacFloX
import Derived.Test.YtiobojdkjnaolacFloW
import Derived.ProofKit
import Derived.OpenShut
namespace Go.Proofs.Ytiobojdkjnaolac
open Go.RowKit

set_option maxHeartbeats 1000000 in
theorem walk_steps (b n : Int) (hb : Word b) (_hn : (Lit.int .i64 n).wf = true) (w : World) :
    Calls Try.prog 3 #[.int .u64 b, .int .i64 n] w fun e w' => e = .returned (.bool true) ∧ Grown w w' := by
  clear _hn
  obtain ⟨K, KE⟩ : ∃ K, bits .and .i64 n 31 = K := ⟨_, rfl⟩
  have kb := and_31 n
  rw [KE] at kb
  obtain ⟨k0, k1⟩ := kb
  go_enter Try.func3, Try.ntmps3
  go_wp2_with fail
  go_loop [6, 7] (fun x i => ∃ X I : Int, x = .int .u64 X ∧ i = .int .i64 I ∧ 0 ≤ I ∧ I ≤ K ∧ Hid (Word X ∧ (nanI b = true → X = b) ∧ (nanI b = false → keyS X = placeS b I))) (fun _ i => (40 - intOf i).toNat)
  case atStart =>
    refine ⟨b, 0, rfl, rfl, by omega, by omega, hb, fun _ => rfl, fun c => ?_⟩
    have := (nan_key hb).1 (of_decide_eq_false c)
    unfold placeS
    split <;> omega
  case round =>
    obtain ⟨X, I, rfl, rfl, i0, i1, HX⟩ := hrel
    by_cases k : I < K
    · have N := hide (fun w => next_any X HX.out.1 w)
      have G : Hid (Word (nextS X) ∧ (nanI b = true → nextS X = b) ∧ (nanI b = false → keyS (nextS X) = placeS b (I + 1))) := by
        refine ⟨nextS_word HX.out.1, fun c => ?_, fun c => ?_⟩
        · rw [HX.out.2.1 c, next_same (Or.inl (of_decide_eq_true c))]
        · exact step_place hb (of_decide_eq_false c) HX.out.1 i0 (HX.out.2.2 c)
      clear HX
      go_wp2_with (go_at_call 4; refine (N.out _).mono ?_; rintro e w' ⟨rfl, rfl⟩)
      exact ⟨⟨nextS X, I + 1, rfl, rfl, by omega, by omega, G⟩, by simp only [intOf]; omega⟩
    · have ek : I = K := by omega
      subst ek
      have KB := hide (fun w => kind_any b hb w)
      have k1 := kindnan b
      cases cn : nanI b
      · rw [cn] at k1
        have kx : Hid (keyS X = placeS b I) := HX.out.2.2 cn
        have T := hide (fun w => key_any 9218868437227405312 (word_lit (by omega) (by omega)) w)
        rw [show keyS 9218868437227405312 = 18442240474082181120 by decide] at T
        have A := hide (fun w => key_any b hb w)
        have B := hide (fun w => key_any X HX.out.1 w)
        obtain ⟨q0, q1⟩ := (nan_key hb).1 (of_decide_eq_false cn)
        clear HX cn k
        by_cases c : 18442240474082181120 < keyS b + I
        · have e1 : (keyS X == 18442240474082181120) = true := beq_iff_eq.2 (by rw [kx.out]; unfold placeS; rw [if_neg (by omega)])
          clear kx hb
          go_wp2_with fail
          refine (KB.out _).mono ?_
          rintro e w1 ⟨rfl, rfl⟩
          go_wp2_with fail
          refine (T.out _).mono ?_
          rintro e w1 ⟨rfl, rfl⟩
          go_wp2_with fail
          refine (A.out _).mono ?_
          rintro e w1 ⟨rfl, rfl⟩
          go_wp2_with fail
          refine (B.out _).mono ?_
          rintro e w1 ⟨rfl, rfl⟩
          go_wp2_with fail
          refine (awake_any _).mono ?_
          rintro e w1 ⟨rfl, rfl⟩
          go_wp2
          go_ret
          exact ⟨rfl, Grown.refl _⟩
        · have e1 : (keyS X == keyS b + I) = true := beq_iff_eq.2 (by rw [kx.out]; unfold placeS; split <;> omega)
          clear kx hb
          go_wp2_with fail
          refine (KB.out _).mono ?_
          rintro e w1 ⟨rfl, rfl⟩
          go_wp2_with fail
          refine (T.out _).mono ?_
          rintro e w1 ⟨rfl, rfl⟩
          go_wp2_with fail
          refine (A.out _).mono ?_
          rintro e w1 ⟨rfl, rfl⟩
          go_wp2_with fail
          refine (B.out _).mono ?_
          rintro e w1 ⟨rfl, rfl⟩
          go_wp2_with fail
          refine (awake_any _).mono ?_
          rintro e w1 ⟨rfl, rfl⟩
          go_wp2
          go_ret
          exact ⟨rfl, Grown.refl _⟩
      · rw [cn] at k1
        have e1 : (X == b) = true := beq_iff_eq.2 (HX.out.2.1 cn)
        clear HX cn k hb
        go_wp2_with fail
        refine (KB.out _).mono ?_
        rintro e w1 ⟨rfl, rfl⟩
        go_wp2_with fail
        refine (awake_any _).mono ?_
        rintro e w1 ⟨rfl, rfl⟩
        go_wp2
        go_ret
        exact ⟨rfl, Grown.refl _⟩
end Go.Proofs.Ytiobojdkjnaolac

namespace Go.Proofs.Ytiobojdkjnaolac.floSteps
open Go.ChangeShapes Go.WideShapes Go.ChangeAt Go.RowKit
set_option linter.unusedVariables false

theorem own : ownKnob Try.prog.godebug = none := by kernel_rfl

theorem walk (a0 : Int) (a1 : Int) (w0 : (Lit.int .u64 a0).wf = true) (w1 : (Lit.int .i64 a1).wf = true) (w : World) :
    Calls Try.prog 3 #[.int .u64 a0, .int .i64 a1] w fun e w' => e = .returned (.bool true) ∧ Grown w w' :=
  walk_steps a0 a1 (word_of_wf w0) w1 w

set_option maxRecDepth 100000 in
theorem lifted (os : Os) (started : os.Started) (H : Type) (enc : TypeId × Value → H) :
    ReturnsInHanded {} Try.checked os 3 .any (Rows.floStepsSpec.pre6 enc Try.prog Try.f3 Rows.floStepsRow.domain false) (Rows.floStepsSpec.post enc Try.prog Try.f3 false true false false) := by
  refine returnsInHanded_of_change (C := Try.checked) own started (by kernel_rfl) Try.func3
    (ChangeSpec.witness6 (enc := enc) (C := Try.checked) false ⟨#[], #[.int .u64 0, .int .i64 0], []⟩ 8 (by kernel_rfl) (by kernel_rfl) (by kernel_rfl) (by kernel_rfl)) ?_
  intro W base args ds gs before hval0 hW hcnd _
  have hval : ∀ (j : Nat) t v, Try.f3.params[j]? = some t → args[j]? = some v → Value.okWide Try.prog W .any base t v := hval0
  have hW' := hW
  obtain ⟨p, q, hA0, hV, rfl, hfz, hnd⟩ := hW
  have hA : DataW.TrodAll enc Try.prog W 0 (fun _ => true) true Try.f3.params.toList args.toList ds p := hA0
  rw [Try.params3] at hA hval
  obtain ⟨v0, vs0, d0, ds0, p0, q0, hargs, rfl, rfl, h0, r0⟩ := trodAll_cons hA
  obtain ⟨v1, vs1, d1, ds1, p1, q1, rfl, rfl, rfl, h1, r1⟩ := trodAll_cons r0
  obtain ⟨rfl, rfl, rfl⟩ := trodAll_nil r1
  obtain rfl : args = #[v0, v1] := by cases args; simp_all
  obtain ⟨rfl, rfl⟩ := trodVars_none hV
  obtain ⟨a0, rfl, rfl, rfl, w0⟩ := open_int Try.underlying22 (hval 0 22 v0 rfl rfl) h0
  obtain ⟨a1, rfl, rfl, rfl, w1⟩ := open_int Try.underlying3 (hval 1 3 v1 rfl rfl) h1
  clear hA0 hval0
  simp only [List.append_nil] at hW'
  refine (walk a0 a1 w0 w1 W).mono fun e W' ⟨he, hg⟩ => ?_
  subst he
  exact ⟨_, rfl, post_of_same (pa := []) (pv := []) hW' (fun _ _ _ => (trodAll_cons_mk (shut_bool Try.underlying4 _) trodAll_mk0)) (fun sp _ => (trodAll_cons_mk (shut_int Try.underlying22 w0) (trodAll_cons_mk (shut_int Try.underlying3 w1) trodAll_mk0))) (fun _ _ => rfl) rfl
    (hg.frame _) hg.2.1 (ok_one (by kernel_rfl) rfl (okWide_bool_mk Try.underlying4 _))⟩

theorem over : Rows.floStepsRow.holds Try.pinned (OpenSpec.ofChange Rows.floStepsSpec) :=
  OpenClaim.holds_of_wide 3 Try.f3 rfl rfl rfl rfl rfl rfl rfl ⟨rfl, rfl, rfl, rfl, rfl⟩ rfl rfl rfl rfl rfl (by kernel_rfl) Try.func3 (by kernel_rfl)
    (of_decide_eq_true (by kernel_rfl)) (by unfold Func.isWrapper; first | (rw [if_pos (by decide +kernel)]; kernel_rfl) | (rw [if_neg (by decide +kernel)]; exact ⟨rfl, rfl⟩))
    (fun os started H enc _ => lifted os started H enc)

theorem proved : Rows.FloStepsSaid :=
  over
#print axioms proved
end Go.Proofs.Ytiobojdkjnaolac.floSteps
