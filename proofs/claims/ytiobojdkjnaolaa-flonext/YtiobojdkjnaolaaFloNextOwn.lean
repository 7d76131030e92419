/-
  For any word flo.Next answers as the document does; it is the word itself just of a NaN and of +Inf, and else comes behind it; the document's examples hold. The call returns true, and its argument reads as it did.
  Conditions: none: every value of the parameter's type.
-/
import Derived.Test.YtiobojdkjnaolaaFloR
import Derived.ProofKit
import Derived.OpenShut
namespace Go.Proofs.Ytiobojdkjnaolaa
open Go.RowKit

theorem next_less {x : Int} (h : Word x) (k : ¬ (9218868437227405312 < x % 9223372036854775808 ∨ x = 9218868437227405312)) : lessB x (nextS x) = true := by
  have e := next_key h k
  obtain ⟨_, b1, b2⟩ := key_room h k
  refine (less_iff _ _).2 ⟨fun c => k (Or.inl c), (nan_key (nextS_word h)).2 ⟨by omega, by omega⟩, by omega⟩

set_option maxHeartbeats 400000 in
theorem walk_next (x : Int) (h : Word x) (w : World) :
    Calls Try.prog 5 #[.int .u64 x] w fun e w' => e = .returned (.bool true) ∧ Grown w w' := by
  have N := hide (fun w => next_any x h w)
  have R := hide (fun w => refnext_any x h w)
  have K := hide (fun w => kind_any x h w)
  have L := hide (fun w => less_any x (nextS x) h (nextS_word h) w)
  by_cases k : 9218868437227405312 < x % 9223372036854775808 ∨ x = 9218868437227405312
  · rw [next_same k] at N R
    cases kn : nanI x
    · have ki : x = 9218868437227405312 := by
        rcases k with k | k
        · rw [nanI, decide_eq_true k] at kn; cases kn
        · exact k
      have e1 : (kindS x == 4) = false := by rw [kind_nan, kn]
      have e2 : (x == 9218868437227405312) = true := beq_iff_eq.2 ki
      clear k kn ki h L
      go_enter Try.func5, Try.ntmps5
      go_wp2_with fail
      refine (N.out _).mono ?_
      rintro e w1 ⟨rfl, rfl⟩
      go_wp2_with fail
      refine (R.out _).mono ?_
      rintro e w1 ⟨rfl, rfl⟩
      go_wp2_with fail
      refine (K.out _).mono ?_
      rintro e w1 ⟨rfl, rfl⟩
      go_wp2_with fail
      refine (awake_any _).mono ?_
      rintro e w1 ⟨rfl, rfl⟩
      go_wp2
      go_ret
      exact ⟨rfl, Grown.refl _⟩
    · have e1 : (kindS x == 4) = true := by rw [kind_nan, kn]
      clear k kn h L
      go_enter Try.func5, Try.ntmps5
      go_wp2_with fail
      refine (N.out _).mono ?_
      rintro e w1 ⟨rfl, rfl⟩
      go_wp2_with fail
      refine (R.out _).mono ?_
      rintro e w1 ⟨rfl, rfl⟩
      go_wp2_with fail
      refine (K.out _).mono ?_
      rintro e w1 ⟨rfl, rfl⟩
      go_wp2_with fail
      refine (awake_any _).mono ?_
      rintro e w1 ⟨rfl, rfl⟩
      go_wp2
      go_ret
      exact ⟨rfl, Grown.refl _⟩
  · rw [next_less h k] at L
    have e1 : (nextS x == x) = false := by
      refine beq_eq_false_iff_ne.2 (fun c => ?_)
      have := next_key h k
      rw [c] at this; omega
    clear k
    go_enter Try.func5, Try.ntmps5
    go_wp2_with fail
    refine (N.out _).mono ?_
    rintro e w1 ⟨rfl, rfl⟩
    go_wp2_with fail
    refine (R.out _).mono ?_
    rintro e w1 ⟨rfl, rfl⟩
    go_wp2_with fail
    refine (L.out _).mono ?_
    rintro e w1 ⟨rfl, rfl⟩
    go_wp2_with fail
    refine (awake_any _).mono ?_
    rintro e w1 ⟨rfl, rfl⟩
    go_wp2
    go_ret
    exact ⟨rfl, Grown.refl _⟩
end Go.Proofs.Ytiobojdkjnaolaa

namespace Go.Proofs.Ytiobojdkjnaolaa.floNext
open Go.ChangeShapes Go.WideShapes Go.ChangeAt Go.RowKit
set_option linter.unusedVariables false

theorem own : ownKnob Try.prog.godebug = none := by kernel_rfl

theorem walk (a0 : Int) (w0 : (Lit.int .u64 a0).wf = true) (w : World) :
    Calls Try.prog 5 #[.int .u64 a0] w fun e w' => e = .returned (.bool true) ∧ Grown w w' :=
  walk_next a0 (word_of_wf w0) w

set_option maxRecDepth 100000 in
theorem lifted (os : Os) (started : os.Started) (H : Type) (enc : TypeId × Value → H) :
    ReturnsInHanded {} Try.checked os 5 .any (Rows.floNextSpec.pre6 enc Try.prog Try.f5 Rows.floNextRow.domain false) (Rows.floNextSpec.post enc Try.prog Try.f5 false true false false) := by
  refine returnsInHanded_of_change (C := Try.checked) own started (by kernel_rfl) Try.func5
    (ChangeSpec.witness6 (enc := enc) (C := Try.checked) false ⟨#[], #[.int .u64 0], []⟩ 8 (by kernel_rfl) (by kernel_rfl) (by kernel_rfl) (by kernel_rfl)) ?_
  intro W base args ds gs before hval0 hW hcnd _
  have hval : ∀ (j : Nat) t v, Try.f5.params[j]? = some t → args[j]? = some v → Value.okWide Try.prog W .any base t v := hval0
  have hW' := hW
  obtain ⟨p, q, hA0, hV, rfl, hfz, hnd⟩ := hW
  have hA : DataW.TrodAll enc Try.prog W 0 (fun _ => true) true Try.f5.params.toList args.toList ds p := hA0
  rw [Try.params5] at hA hval
  obtain ⟨v0, vs0, d0, ds0, p0, q0, hargs, rfl, rfl, h0, r0⟩ := trodAll_cons hA
  obtain ⟨rfl, rfl, rfl⟩ := trodAll_nil r0
  obtain rfl : args = #[v0] := by cases args; simp_all
  obtain ⟨rfl, rfl⟩ := trodVars_none hV
  obtain ⟨a0, rfl, rfl, rfl, w0⟩ := open_int Try.underlying22 (hval 0 22 v0 rfl rfl) h0
  clear hA0 hval0
  simp only [List.append_nil] at hW'
  refine (walk a0 w0 W).mono fun e W' ⟨he, hg⟩ => ?_
  subst he
  exact ⟨_, rfl, post_of_same (pa := []) (pv := []) hW' (fun _ _ _ => (trodAll_cons_mk (shut_bool Try.underlying4 _) trodAll_mk0)) (fun sp _ => (trodAll_cons_mk (shut_int Try.underlying22 w0) trodAll_mk0)) (fun _ _ => rfl) rfl
    (hg.frame _) hg.2.1 (ok_one (by kernel_rfl) rfl (okWide_bool_mk Try.underlying4 _))⟩

theorem over : Rows.floNextRow.holds Try.pinned (OpenSpec.ofChange Rows.floNextSpec) :=
  OpenClaim.holds_of_wide 5 Try.f5 rfl rfl rfl rfl rfl rfl rfl ⟨rfl, rfl, rfl, rfl, rfl⟩ rfl rfl rfl rfl rfl (by kernel_rfl) Try.func5 (by kernel_rfl)
    (of_decide_eq_true (by kernel_rfl)) (by unfold Func.isWrapper; first | (rw [if_pos (by decide +kernel)]; kernel_rfl) | (rw [if_neg (by decide +kernel)]; exact ⟨rfl, rfl⟩))
    (fun os started H enc _ => lifted os started H enc)

theorem proved : Rows.FloNextSaid :=
  over
#print axioms proved
end Go.Proofs.Ytiobojdkjnaolaa.floNext
