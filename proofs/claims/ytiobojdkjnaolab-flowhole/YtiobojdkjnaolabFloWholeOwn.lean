/-
  For any two words whole units of flo.From of the first are the number itself up to 2^53, and more never makes fewer units; they are never Below nor None; the document's examples hold. The call returns true, and its arguments read as they did.
  Conditions: none: every value of the parameters' types.
-/
import Derived.Test.YtiobojdkjnaolabFloT
import Derived.ProofKit
import Derived.OpenShut
namespace Go.Proofs.Ytiobojdkjnaolab
open Go.RowKit

theorem units_from {v : Int} (h : Word v) :
    unitV (fromS v) 0 = (if Fl.un (Fl.fr v.toNat) 0 < 18446744073709551616 then (Fl.un (Fl.fr v.toNat) 0 : Int) else 18446744073709551615) ∧ unitK (fromS v) 0 = (if Fl.un (Fl.fr v.toNat) 0 < 18446744073709551616 then 0 else 2) := by
  obtain ⟨b0, b1⟩ := fromS_bounds h
  have e : (fromS v).toNat = Fl.fr v.toNat := by unfold fromS; exact Int.toNat_natCast _
  by_cases k : fromS v = 0
  · have z : Fl.fr v.toNat = 0 := by rw [← e, k]; rfl
    rw [k, z, Fl.un_zero]
    refine ⟨?_, ?_⟩
    · unfold unitV; rw [if_neg (by omega), if_neg (by omega), if_neg (by omega), show (0 : Int).toNat = 0 from rfl, Fl.un_zero]
    · unfold unitK; rw [if_neg (by omega), if_neg (by omega), if_neg (by omega), if_neg (by omega), show (0 : Int).toNat = 0 from rfl, Fl.un_zero]
  · have u := units_of 0 (show 0 < fromS v by omega) b1
    rw [e, show clampS 0 = 0 from rfl] at u
    exact u

/-- What the units of two numbers have to do with them. -/
theorem whole_facts {v u : Int} (hv : Word v) (hu : Word u) :
    ∃ X H Y I : Int, unitV (fromS v) 0 = X ∧ unitK (fromS v) 0 = H ∧ unitV (fromS u) 0 = Y ∧ unitK (fromS u) 0 = I ∧
      (v ≤ 9007199254740992 → X = v ∧ H = 0) ∧ (v ≤ u → X ≤ Y ∧ H ≤ I) ∧ (H = 0 ∨ H = 2) := by
  obtain ⟨a1, a2⟩ := units_from hv
  obtain ⟨c1, c2⟩ := units_from hu
  obtain ⟨v0, v1⟩ := hv
  obtain ⟨u0, u1⟩ := hu
  refine ⟨_, _, _, _, rfl, rfl, rfl, rfl, fun k => ?_, fun k => ?_, ?_⟩
  · have e := Fl.un_fr_small (v := v.toNat) (by omega)
    rw [a1, a2, e, if_pos (by omega), if_pos (by omega)]
    exact ⟨by omega, rfl⟩
  · have m := Fl.un_mono 0 (Fl.fr_mono (show v.toNat ≤ u.toNat by omega))
    rw [a1, a2, c1, c2]
    generalize Fl.un (Fl.fr v.toNat) 0 = p at *
    generalize Fl.un (Fl.fr u.toNat) 0 = q at *
    constructor <;> split <;> split <;> omega
  · rw [a2]; split
    · exact Or.inl rfl
    · exact Or.inr rfl

set_option maxHeartbeats 1000000 in
theorem walk_whole (v u : Int) (hv : Word v) (hu : Word u) (w : World) :
    Calls Try.prog 5 #[.int .u64 v, .int .u64 u] w fun e w' => e = .returned (.bool true) ∧ Grown w w' := by
  have A := hide (fun w => from_any v hv w)
  have B := hide (fun w => from_any u hu w)
  have C := hide (fun w => units_any (fromS v) 0 (word_lit (fromS_bounds hv).1 (by have := (fromS_bounds hv).2; omega)) w)
  have D := hide (fun w => units_any (fromS u) 0 (word_lit (fromS_bounds hu).1 (by have := (fromS_bounds hu).2; omega)) w)
  obtain ⟨X, H, Y, I, e1, e2, e3, e4, f1, f2, f3⟩ := whole_facts hv hu
  rw [e1, e2] at C
  rw [e3, e4] at D
  clear e1 e2 e3 e4
  rcases f3 with rfl | rfl
  · by_cases k1 : v ≤ 9007199254740992
    · have x1 := (f1 k1).1
      subst x1
      by_cases k2 : X ≤ u
      · have x2 := (f2 k2).1
        have x3 := (f2 k2).2
        clear f1 f2
        go_enter Try.func5, Try.ntmps5
        go_wp2_with fail
        refine (A.out _).mono ?_
        rintro e w1 ⟨rfl, rfl⟩
        go_wp2_with fail
        refine (C.out _).mono ?_
        rintro e w1 ⟨rfl, rfl⟩
        go_wp2_with fail
        refine (B.out _).mono ?_
        rintro e w1 ⟨rfl, rfl⟩
        go_wp2_with fail
        refine (D.out _).mono ?_
        rintro e w1 ⟨rfl, rfl⟩
        go_wp2_with fail
        refine (awake_any _).mono ?_
        rintro e w1 ⟨rfl, rfl⟩
        go_wp2
        go_ret
        exact ⟨rfl, Grown.refl _⟩
      · clear f1 f2
        go_enter Try.func5, Try.ntmps5
        go_wp2_with fail
        refine (A.out _).mono ?_
        rintro e w1 ⟨rfl, rfl⟩
        go_wp2_with fail
        refine (C.out _).mono ?_
        rintro e w1 ⟨rfl, rfl⟩
        go_wp2_with fail
        refine (B.out _).mono ?_
        rintro e w1 ⟨rfl, rfl⟩
        go_wp2_with fail
        refine (D.out _).mono ?_
        rintro e w1 ⟨rfl, rfl⟩
        go_wp2_with fail
        refine (awake_any _).mono ?_
        rintro e w1 ⟨rfl, rfl⟩
        go_wp2
        go_ret
        exact ⟨rfl, Grown.refl _⟩
    · by_cases k2 : v ≤ u
      · have x2 := (f2 k2).1
        have x3 := (f2 k2).2
        clear f1 f2
        go_enter Try.func5, Try.ntmps5
        go_wp2_with fail
        refine (A.out _).mono ?_
        rintro e w1 ⟨rfl, rfl⟩
        go_wp2_with fail
        refine (C.out _).mono ?_
        rintro e w1 ⟨rfl, rfl⟩
        go_wp2_with fail
        refine (B.out _).mono ?_
        rintro e w1 ⟨rfl, rfl⟩
        go_wp2_with fail
        refine (D.out _).mono ?_
        rintro e w1 ⟨rfl, rfl⟩
        go_wp2_with fail
        refine (awake_any _).mono ?_
        rintro e w1 ⟨rfl, rfl⟩
        go_wp2
        go_ret
        exact ⟨rfl, Grown.refl _⟩
      · clear f1 f2
        go_enter Try.func5, Try.ntmps5
        go_wp2_with fail
        refine (A.out _).mono ?_
        rintro e w1 ⟨rfl, rfl⟩
        go_wp2_with fail
        refine (C.out _).mono ?_
        rintro e w1 ⟨rfl, rfl⟩
        go_wp2_with fail
        refine (B.out _).mono ?_
        rintro e w1 ⟨rfl, rfl⟩
        go_wp2_with fail
        refine (D.out _).mono ?_
        rintro e w1 ⟨rfl, rfl⟩
        go_wp2_with fail
        refine (awake_any _).mono ?_
        rintro e w1 ⟨rfl, rfl⟩
        go_wp2
        go_ret
        exact ⟨rfl, Grown.refl _⟩
  · have k1 : ¬ v ≤ 9007199254740992 := fun c => by have := (f1 c).2; omega
    by_cases k2 : v ≤ u
    · have x2 := (f2 k2).1
      have x3 := (f2 k2).2
      clear f1 f2
      go_enter Try.func5, Try.ntmps5
      go_wp2_with fail
      refine (A.out _).mono ?_
      rintro e w1 ⟨rfl, rfl⟩
      go_wp2_with fail
      refine (C.out _).mono ?_
      rintro e w1 ⟨rfl, rfl⟩
      go_wp2_with fail
      refine (B.out _).mono ?_
      rintro e w1 ⟨rfl, rfl⟩
      go_wp2_with fail
      refine (D.out _).mono ?_
      rintro e w1 ⟨rfl, rfl⟩
      go_wp2_with fail
      refine (awake_any _).mono ?_
      rintro e w1 ⟨rfl, rfl⟩
      go_wp2
      go_ret
      exact ⟨rfl, Grown.refl _⟩
    · clear f1 f2
      go_enter Try.func5, Try.ntmps5
      go_wp2_with fail
      refine (A.out _).mono ?_
      rintro e w1 ⟨rfl, rfl⟩
      go_wp2_with fail
      refine (C.out _).mono ?_
      rintro e w1 ⟨rfl, rfl⟩
      go_wp2_with fail
      refine (B.out _).mono ?_
      rintro e w1 ⟨rfl, rfl⟩
      go_wp2_with fail
      refine (D.out _).mono ?_
      rintro e w1 ⟨rfl, rfl⟩
      go_wp2_with fail
      refine (awake_any _).mono ?_
      rintro e w1 ⟨rfl, rfl⟩
      go_wp2
      go_ret
      exact ⟨rfl, Grown.refl _⟩
end Go.Proofs.Ytiobojdkjnaolab

namespace Go.Proofs.Ytiobojdkjnaolab.floWhole
open Go.ChangeShapes Go.WideShapes Go.ChangeAt Go.RowKit
set_option linter.unusedVariables false

theorem own : ownKnob Try.prog.godebug = none := by kernel_rfl

theorem walk (a0 : Int) (a1 : Int) (w0 : (Lit.int .u64 a0).wf = true) (w1 : (Lit.int .u64 a1).wf = true) (w : World) :
    Calls Try.prog 5 #[.int .u64 a0, .int .u64 a1] w fun e w' => e = .returned (.bool true) ∧ Grown w w' :=
  walk_whole a0 a1 (word_of_wf w0) (word_of_wf w1) w

set_option maxRecDepth 100000 in
theorem lifted (os : Os) (started : os.Started) (H : Type) (enc : TypeId × Value → H) :
    ReturnsInHanded {} Try.checked os 5 .any (Rows.floWholeSpec.pre6 enc Try.prog Try.f5 Rows.floWholeRow.domain false) (Rows.floWholeSpec.post enc Try.prog Try.f5 false true false false) := by
  refine returnsInHanded_of_change (C := Try.checked) own started (by kernel_rfl) Try.func5
    (ChangeSpec.witness6 (enc := enc) (C := Try.checked) false ⟨#[], #[.int .u64 0, .int .u64 0], []⟩ 8 (by kernel_rfl) (by kernel_rfl) (by kernel_rfl) (by kernel_rfl)) ?_
  intro W base args ds gs before hval0 hW hcnd _
  have hval : ∀ (j : Nat) t v, Try.f5.params[j]? = some t → args[j]? = some v → Value.okWide Try.prog W .any base t v := hval0
  have hW' := hW
  obtain ⟨p, q, hA0, hV, rfl, hfz, hnd⟩ := hW
  have hA : DataW.TrodAll enc Try.prog W 0 (fun _ => true) true Try.f5.params.toList args.toList ds p := hA0
  rw [Try.params5] at hA hval
  obtain ⟨v0, vs0, d0, ds0, p0, q0, hargs, rfl, rfl, h0, r0⟩ := trodAll_cons hA
  obtain ⟨v1, vs1, d1, ds1, p1, q1, rfl, rfl, rfl, h1, r1⟩ := trodAll_cons r0
  obtain ⟨rfl, rfl, rfl⟩ := trodAll_nil r1
  obtain rfl : args = #[v0, v1] := by cases args; simp_all
  obtain ⟨rfl, rfl⟩ := trodVars_none hV
  obtain ⟨a0, rfl, rfl, rfl, w0⟩ := open_int Try.underlying22 (hval 0 22 v0 rfl rfl) h0
  obtain ⟨a1, rfl, rfl, rfl, w1⟩ := open_int Try.underlying22 (hval 1 22 v1 rfl rfl) h1
  clear hA0 hval0
  simp only [List.append_nil] at hW'
  refine (walk a0 a1 w0 w1 W).mono fun e W' ⟨he, hg⟩ => ?_
  subst he
  exact ⟨_, rfl, post_of_same (pa := []) (pv := []) hW' (fun _ _ _ => (trodAll_cons_mk (shut_bool Try.underlying4 _) trodAll_mk0)) (fun sp _ => (trodAll_cons_mk (shut_int Try.underlying22 w0) (trodAll_cons_mk (shut_int Try.underlying22 w1) trodAll_mk0))) (fun _ _ => rfl) rfl
    (hg.frame _) hg.2.1 (ok_one (by kernel_rfl) rfl (okWide_bool_mk Try.underlying4 _))⟩

theorem over : Rows.floWholeRow.holds Try.pinned (OpenSpec.ofChange Rows.floWholeSpec) :=
  OpenClaim.holds_of_wide 5 Try.f5 rfl rfl rfl rfl rfl rfl rfl ⟨rfl, rfl, rfl, rfl, rfl⟩ rfl rfl rfl rfl rfl (by kernel_rfl) Try.func5 (by kernel_rfl)
    (of_decide_eq_true (by kernel_rfl)) (by unfold Func.isWrapper; first | (rw [if_pos (by decide +kernel)]; kernel_rfl) | (rw [if_neg (by decide +kernel)]; exact ⟨rfl, rfl⟩))
    (fun os started H enc _ => lifted os started H enc)

theorem proved : Rows.FloWholeSaid :=
  over
#print axioms proved
end Go.Proofs.Ytiobojdkjnaolab.floWhole
