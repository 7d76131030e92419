/-
  For any word flo.Add of a number and of the same with the other sign is +0, of a NaN or an infinity the one NaN; -0 and -0 come to -0, noughts of unlike signs to +0, and -0 changes nothing; the document's examples hold. The call returns true, and its argument reads as it did.
  Conditions: none: every value of the parameter's type.
-/
import Derived.Test.YtiobojdkjnaolabFloU
import Derived.Test.YtiobojdkjnaolabFloW
import Derived.ProofKit
import Derived.OpenShut
namespace Go.Proofs.Ytiobojdkjnaolab
open Go.RowKit

def flipS (x : Int) : Int := if 9223372036854775808 ≤ x then x - 9223372036854775808 else x + 9223372036854775808
theorem flipS_word {x : Int} (h : Word x) : Word (flipS x) := by obtain ⟨_, _⟩ := h; unfold flipS Word; split <;> omega
theorem flipS_nat {x : Int} (h : Word x) : (flipS x).toNat = Fl.flip x.toNat := by
  obtain ⟨_, _⟩ := h; unfold flipS Fl.flip; split <;> split <;> omega
theorem rg_int {x : Int} (h : Word x) : (Fl.rg x.toNat : Int) = x % 9223372036854775808 := by
  obtain ⟨_, _⟩ := h; unfold Fl.rg; omega

theorem adds_flip {x : Int} (h : Word x) (k : x % 9223372036854775808 < 9218868437227405312) : addS x (flipS x) = 0 := by
  have e := rg_int h
  unfold addS
  rw [flipS_nat h, Fl.add_flip (by obtain ⟨_, _⟩ := h; omega) (by omega)]; rfl
theorem adds_flip_none {x : Int} (h : Word x) (k : 9218868437227405312 ≤ x % 9223372036854775808) : addS x (flipS x) = 9221120237041090561 := by
  have e := rg_int h
  unfold addS
  rw [flipS_nat h, Fl.add_flip_none (by obtain ⟨_, _⟩ := h; omega) (by omega)]
theorem adds_nought {x : Int} (h : Word x) (k : x % 9223372036854775808 < 9218868437227405312) : addS x 9223372036854775808 = x := by
  have e := rg_int h
  obtain ⟨h0, h1⟩ := h
  unfold addS
  rw [show (9223372036854775808 : Int).toNat = 9223372036854775808 from rfl, Fl.add_nought (by omega) (by omega)]
  show (x.toNat : Int) = x
  omega

set_option maxHeartbeats 1000000 in
theorem walk_noughts (x : Int) (h : Word x) (w : World) :
    Calls Try.prog 7 #[.int .u64 x] w fun e w' => e = .returned (.bool true) ∧ Grown w w' := by
  have K := hide (fun w => kind_any x h w)
  have A := hide (fun w => add_any x (flipS x) h (flipS_word h) w)
  have B := hide (fun w => add_any 9223372036854775808 9223372036854775808 (word_lit (by omega) (by omega)) (word_lit (by omega) (by omega)) w)
  have C := hide (fun w => add_any 0 9223372036854775808 (word_lit (by omega) (by omega)) (word_lit (by omega) (by omega)) w)
  have D := hide (fun w => add_any x 9223372036854775808 h (word_lit (by omega) (by omega)) w)
  rw [adds_nought (word_lit (by omega) (by omega)) (by omega)] at B
  rw [adds_nought (word_lit (by omega) (by omega)) (by omega)] at C
  have X : bits .xor .u64 x 9223372036854775808 = flipS x := Fl.xor_sign h.1 h.2
  have k1 := kindnan x
  have k2 := kindinf x
  by_cases kf : x % 9223372036854775808 < 9218868437227405312
  · rw [adds_flip h kf] at A
    rw [adds_nought h kf] at D
    rw [show nanI x = false from decide_eq_false (by omega)] at k1
    rw [show infB x = false from decide_eq_false (by omega)] at k2
    clear kf h
    go_enter Try.func7, Try.ntmps7
    go_wp2_with fail
    refine (K.out _).mono ?_
    rintro e w1 ⟨rfl, rfl⟩
    go_wp2_with fail
    refine (K.out _).mono ?_
    rintro e w1 ⟨rfl, rfl⟩
    go_wp2_with fail
    refine (A.out _).mono ?_
    rintro e w1 ⟨rfl, hg1⟩
    go_wp2_with fail
    refine (B.out _).mono ?_
    rintro e w2 ⟨rfl, hg2⟩
    go_wp2_with fail
    refine (C.out _).mono ?_
    rintro e w3 ⟨rfl, hg3⟩
    go_wp2_with fail
    refine (D.out _).mono ?_
    rintro e w4 ⟨rfl, hg4⟩
    go_wp2_with fail
    refine (awake_any _).mono ?_
    rintro e w5 ⟨rfl, rfl⟩
    go_wp2
    go_ret
    exact ⟨rfl, grown_trans (grown_trans (grown_trans hg1 hg2) hg3) hg4⟩
  · rw [adds_flip_none h (by omega)] at A
    cases cn : nanI x
    · rw [cn] at k1
      rw [show infB x = true from decide_eq_true (by have := of_decide_eq_false cn; omega)] at k2
      clear kf h cn B C D
      go_enter Try.func7, Try.ntmps7
      go_wp2_with fail
      refine (K.out _).mono ?_
      rintro e w1 ⟨rfl, rfl⟩
      go_wp2_with fail
      refine (K.out _).mono ?_
      rintro e w1 ⟨rfl, rfl⟩
      go_wp2_with fail
      refine (A.out _).mono ?_
      rintro e w1 ⟨rfl, hg1⟩
      go_wp2_with fail
      refine (awake_any _).mono ?_
      rintro e w5 ⟨rfl, rfl⟩
      go_wp2
      go_ret
      exact ⟨rfl, hg1⟩
    · rw [cn] at k1
      clear kf h cn B C D k2
      go_enter Try.func7, Try.ntmps7
      go_wp2_with fail
      refine (K.out _).mono ?_
      rintro e w1 ⟨rfl, rfl⟩
      go_wp2_with fail
      refine (A.out _).mono ?_
      rintro e w1 ⟨rfl, hg1⟩
      go_wp2_with fail
      refine (awake_any _).mono ?_
      rintro e w5 ⟨rfl, rfl⟩
      go_wp2
      go_ret
      exact ⟨rfl, hg1⟩
end Go.Proofs.Ytiobojdkjnaolab

namespace Go.Proofs.Ytiobojdkjnaolab.floNoughts
open Go.ChangeShapes Go.WideShapes Go.ChangeAt Go.RowKit
set_option linter.unusedVariables false

theorem own : ownKnob Try.prog.godebug = none := by kernel_rfl

theorem walk (a0 : Int) (w0 : (Lit.int .u64 a0).wf = true) (w : World) :
    Calls Try.prog 7 #[.int .u64 a0] w fun e w' => e = .returned (.bool true) ∧ Grown w w' :=
  walk_noughts a0 (word_of_wf w0) w

set_option maxRecDepth 100000 in
theorem lifted (os : Os) (started : os.Started) (H : Type) (enc : TypeId × Value → H) :
    ReturnsInHanded {} Try.checked os 7 .any (Rows.floNoughtsSpec.pre6 enc Try.prog Try.f7 Rows.floNoughtsRow.domain false) (Rows.floNoughtsSpec.post enc Try.prog Try.f7 false true false false) := by
  refine returnsInHanded_of_change (C := Try.checked) own started (by kernel_rfl) Try.func7
    (ChangeSpec.witness6 (enc := enc) (C := Try.checked) false ⟨#[], #[.int .u64 0], []⟩ 8 (by kernel_rfl) (by kernel_rfl) (by kernel_rfl) (by kernel_rfl)) ?_
  intro W base args ds gs before hval0 hW hcnd _
  have hval : ∀ (j : Nat) t v, Try.f7.params[j]? = some t → args[j]? = some v → Value.okWide Try.prog W .any base t v := hval0
  have hW' := hW
  obtain ⟨p, q, hA0, hV, rfl, hfz, hnd⟩ := hW
  have hA : DataW.TrodAll enc Try.prog W 0 (fun _ => true) true Try.f7.params.toList args.toList ds p := hA0
  rw [Try.params7] at hA hval
  obtain ⟨v0, vs0, d0, ds0, p0, q0, hargs, rfl, rfl, h0, r0⟩ := trodAll_cons hA
  obtain ⟨rfl, rfl, rfl⟩ := trodAll_nil r0
  obtain rfl : args = #[v0] := by cases args; simp_all
  obtain ⟨rfl, rfl⟩ := trodVars_none hV
  obtain ⟨a0, rfl, rfl, rfl, w0⟩ := open_int Try.underlying22 (hval 0 22 v0 rfl rfl) h0
  clear hA0 hval0
  simp only [List.append_nil] at hW'
  refine (walk a0 w0 W).mono fun e W' ⟨he, hg⟩ => ?_
  subst he
  exact ⟨_, rfl, post_of_same (pa := []) (pv := []) hW' (fun _ _ _ => (trodAll_cons_mk (shut_bool Try.underlying4 _) trodAll_mk0)) (fun sp _ => (trodAll_cons_mk (shut_int Try.underlying22 w0) trodAll_mk0)) (fun _ _ => rfl) rfl
    (hg.frame _) hg.2.1 (ok_one (by kernel_rfl) rfl (okWide_bool_mk Try.underlying4 _))⟩

theorem over : Rows.floNoughtsRow.holds Try.pinned (OpenSpec.ofChange Rows.floNoughtsSpec) :=
  OpenClaim.holds_of_wide 7 Try.f7 rfl rfl rfl rfl rfl rfl rfl ⟨rfl, rfl, rfl, rfl, rfl⟩ rfl rfl rfl rfl rfl (by kernel_rfl) Try.func7 (by kernel_rfl)
    (of_decide_eq_true (by kernel_rfl)) (by unfold Func.isWrapper; first | (rw [if_pos (by decide +kernel)]; kernel_rfl) | (rw [if_neg (by decide +kernel)]; exact ⟨rfl, rfl⟩))
    (fun os started H enc _ => lifted os started H enc)

theorem proved : Rows.FloNoughtsSaid :=
  over
#print axioms proved
end Go.Proofs.Ytiobojdkjnaolab.floNoughts
