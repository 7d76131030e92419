/-
  For any two words a times b, divided by b, is a, rounded down and up, and there is none just where b is 0; a fraction is the same as itself, and a with nothing added, less a, is 0; the document's examples hold. The call returns true, and its arguments read as they did.
  Conditions: none: every value of the parameters' types.
-/
import Derived.Test.YthgpidalegnjgabWideG
import Derived.Test.YthgpidalegnjgabWideH
import Derived.ProofKit
import Derived.OpenShut
namespace Go.Proofs.Ythgpidalegnjgab
open Go.RowKit

theorem ones_quo {a b : Int} (h : 0 < b) : quoS (hiS a b) (loS a b) b = a ∧ remS (hiS a b) (loS a b) b = 0 := by
  unfold quoS remS
  rw [whole]
  exact ⟨Int.mul_ediv_cancel _ (by omega), Int.mul_emod_left a b⟩
theorem ones_hi {a b : Int} (ha : Word a) (h : 0 < b) : hiS a b < b := by
  unfold hiS
  rw [Int.ediv_lt_iff_lt_mul (by omega), Int.mul_comm b]
  exact Int.mul_lt_mul_of_pos_right ha.2 h

set_option maxHeartbeats 1000000 in
theorem walk_ones (a b : Int) (ha : Word a) (hb : Word b) (w : World) :
    Calls Try.prog 7 #[.int .u64 a, .int .u64 b] w fun e w' => e = .returned (.bool true) ∧ Grown w w' := by
  by_cases h : b = 0
  · have e1 : (b == 0) = true := beq_iff_eq.2 h
    have hz : b ≤ hiS a b := by have := (hiS_word ha hb).1; omega
    have F := hide (fun w => floor_no a b b ha hb hz w)
    have C := hide (fun w => ceil_no a b b ha hb hz w)
    clear h hz
    go_enter Try.func7, Try.ntmps7
    go_wp2_with (first
      | (go_at_call 11; refine (F.out _).mono ?_; rintro e w1 ⟨rfl, hg1⟩)
      | (go_at_call 12; refine (C.out _).mono ?_; rintro e w2 ⟨rfl, hg2⟩)
      | (go_at_call 9; refine (awake_any _).mono ?_; rintro e w9 ⟨rfl, hg9⟩))
    go_ret
    exact ⟨rfl, grown_trans (grown_trans hg1 hg2) hg9⟩
  · have e1 : (b == 0) = false := beq_eq_false_iff_ne.2 h
    have hp : 0 < b := by have := hb.1; omega
    obtain ⟨q1, q2⟩ := ones_quo (a := a) hp
    have F := hide (fun w => floor_yes a b b ha hb hb (ones_hi ha hp) w)
    have C := hide (fun w => ceil_even a b b ha hb hb (ones_hi ha hp) q2 w)
    rw [q1] at F C
    have M := hide (fun w => cmp_any a b a b ha hb ha hb w)
    rw [cmp_self] at M
    have A := hide (fun w => add_any a 0 ha ⟨by omega, by omega⟩ w)
    have ea : addS a 0 = a := by unfold addS; obtain ⟨_, _⟩ := ha; rw [if_pos (by omega)]; omega
    rw [ea] at A
    have S := hide (fun w => sub_any a a ha ha w)
    have es : subS a a = 0 := by unfold subS; rw [if_neg (by omega)]; omega
    rw [es] at S
    clear q1 q2 ea es h hp
    go_enter Try.func7, Try.ntmps7
    go_wp2_with (first
      | (go_at_call 11; refine (F.out _).mono ?_; rintro e w1 ⟨rfl, hg1⟩)
      | (go_at_call 12; refine (C.out _).mono ?_; rintro e w2 ⟨rfl, hg2⟩)
      | (go_at_call 13; refine (M.out _).mono ?_; rintro e w3 ⟨rfl, hg3⟩)
      | (go_at_call 17; refine (A.out _).mono ?_; rintro e w4 ⟨rfl, rfl⟩)
      | (go_at_call 16; refine (S.out _).mono ?_; rintro e w5 ⟨rfl, rfl⟩)
      | (go_at_call 9; refine (awake_any _).mono ?_; rintro e w9 ⟨rfl, hg9⟩))
    go_ret
    exact ⟨rfl, grown_trans (grown_trans (grown_trans hg1 hg2) hg3) hg9⟩
end Go.Proofs.Ythgpidalegnjgab

namespace Go.Proofs.Ythgpidalegnjgab.wideOnes
open Go.ChangeShapes Go.WideShapes Go.ChangeAt Go.RowKit
set_option linter.unusedVariables false

theorem own : ownKnob Try.prog.godebug = none := by kernel_rfl

theorem walk (a0 : Int) (a1 : Int) (w0 : (Lit.int .u64 a0).wf = true) (w1 : (Lit.int .u64 a1).wf = true) (w : World) :
    Calls Try.prog 7 #[.int .u64 a0, .int .u64 a1] w fun e w' => e = .returned (.bool true) ∧ Grown w w' :=
  walk_ones a0 a1 (word_of_wf w0) (word_of_wf w1) w

set_option maxRecDepth 100000 in
theorem lifted (os : Os) (started : os.Started) (H : Type) (enc : TypeId × Value → H) :
    ReturnsInHanded {} Try.checked os 7 .any (Rows.wideOnesSpec.pre6 enc Try.prog Try.f7 Rows.wideOnesRow.domain false) (Rows.wideOnesSpec.post enc Try.prog Try.f7 false true false false) := by
  refine returnsInHanded_of_change (C := Try.checked) own started (by kernel_rfl) Try.func7
    (ChangeSpec.witness6 (enc := enc) (C := Try.checked) false ⟨#[], #[.int .u64 0, .int .u64 0], []⟩ 8 (by kernel_rfl) (by kernel_rfl) (by kernel_rfl) (by kernel_rfl)) ?_
  intro W base args ds gs before hval0 hW hcnd _
  have hval : ∀ (j : Nat) t v, Try.f7.params[j]? = some t → args[j]? = some v → Value.okWide Try.prog W .any base t v := hval0
  have hW' := hW
  obtain ⟨p, q, hA0, hV, rfl, hfz, hnd⟩ := hW
  have hA : DataW.TrodAll enc Try.prog W 0 (fun _ => true) true Try.f7.params.toList args.toList ds p := hA0
  rw [Try.params7] at hA hval
  obtain ⟨v0, vs0, d0, ds0, p0, q0, hargs, rfl, rfl, h0, r0⟩ := trodAll_cons hA
  obtain ⟨v1, vs1, d1, ds1, p1, q1, rfl, rfl, rfl, h1, r1⟩ := trodAll_cons r0
  obtain ⟨rfl, rfl, rfl⟩ := trodAll_nil r1
  obtain rfl : args = #[v0, v1] := by cases args; simp_all
  obtain ⟨rfl, rfl⟩ := trodVars_none hV
  obtain ⟨a0, rfl, rfl, rfl, w0⟩ := open_int Try.underlying22 (hval 0 22 v0 rfl rfl) h0
  obtain ⟨a1, rfl, rfl, rfl, w1⟩ := open_int Try.underlying22 (hval 1 22 v1 rfl rfl) h1
  clear hA0 hval0
  simp only [List.append_nil] at hW'
  refine (walk a0 a1 w0 w1 W).mono fun e W' ⟨he, hg⟩ => ?_
  subst he
  exact ⟨_, rfl, post_of_same (pa := []) (pv := []) hW' (fun _ _ _ => (trodAll_cons_mk (shut_bool Try.underlying4 _) trodAll_mk0)) (fun sp _ => (trodAll_cons_mk (shut_int Try.underlying22 w0) (trodAll_cons_mk (shut_int Try.underlying22 w1) trodAll_mk0))) (fun _ _ => rfl) rfl
    (hg.frame _) hg.2.1 (ok_one (by kernel_rfl) rfl (okWide_bool_mk Try.underlying4 _))⟩

theorem over : Rows.wideOnesRow.holds Try.pinned (OpenSpec.ofChange Rows.wideOnesSpec) :=
  OpenClaim.holds_of_wide 7 Try.f7 rfl rfl rfl rfl rfl rfl rfl ⟨rfl, rfl, rfl, rfl, rfl⟩ rfl rfl rfl rfl rfl (by kernel_rfl) Try.func7 (by kernel_rfl)
    (of_decide_eq_true (by kernel_rfl)) (by unfold Func.isWrapper; first | (rw [if_pos (by decide +kernel)]; kernel_rfl) | (rw [if_neg (by decide +kernel)]; exact ⟨rfl, rfl⟩))
    (fun os started H enc _ => lifted os started H enc)

theorem proved : Rows.WideOnesSaid :=
  over
#print axioms proved
end Go.Proofs.Ythgpidalegnjgab.wideOnes
