/-
  For any three words the quotient that wide.Div tells times the divisor, and what is left, is the number of 128 bits that there was, and what is left is below the divisor; there is none just where the divisor is 0 or at most the upper half; the document's examples hold. The call returns true, and its arguments read as they did.
  Conditions: none: every value of the parameters' types.
-/
import Derived.Test.YthgpidalegnjgabWideG
import Derived.Test.YthgpidalegnjgabWideH
import Derived.ProofKit
import Derived.OpenShut
namespace Go.Proofs.Ythgpidalegnjgab
open Go.RowKit

theorem back_sum (p q d : Int) :
    hiS (quoS p q d) d * 18446744073709551616 + loS (quoS p q d) d + remS p q d = p * 18446744073709551616 + q := by
  have := Int.mul_ediv_add_emod (p * 18446744073709551616 + q) d
  have e := whole (quoS p q d) d
  unfold quoS remS at *
  rw [Int.mul_comm d] at this
  omega

set_option maxHeartbeats 1000000 in
theorem walk_back (p q d : Int) (hp : Word p) (hq : Word q) (hd : Word d) (w : World) :
    Calls Try.prog 3 #[.int .u64 p, .int .u64 q, .int .u64 d] w fun e w' => e = .returned (.bool true) ∧ Grown w w' := by
  by_cases h : p < d
  · obtain ⟨hq', r0, r1⟩ := quo_bounds hp hq h
    have hs := back_sum p q d
    have hl := loS_word (quoS p q d) d
    have hw := hq'
    obtain ⟨x0, x1⟩ := hl
    obtain ⟨p0, p1⟩ := id hp
    obtain ⟨q0, q1⟩ := id hq
    obtain ⟨d0, d1⟩ := id hd
    have hh := hiS_word hq' hd
    obtain ⟨y0, y1⟩ := hh
    have D := hide (fun w => div_yes p q d hp hq hd h w)
    have F := hide (fun w => full_any (quoS p q d) d hw hd w)
    have e1 : decide (remS p q d < d) = true := by simp; omega
    by_cases hc : 18446744073709551615 - remS p q d < loS (quoS p q d) d
    · have e2 : (hiS (quoS p q d) d + 1 == p) = true := beq_iff_eq.2 (by omega)
      have e3 : (IntKind.u64.wrap (loS (quoS p q d) d + remS p q d) == q) = true := beq_iff_eq.2 (by rw [IntKind.wrap_u64]; omega)
      have e4 : hiS (quoS p q d) d + 1 < 18446744073709551616 := by omega
      clear hs
      go_enter Try.func3, Try.ntmps3
      go_wp2_with (first
        | (go_at_call 8; refine (D.out _).mono ?_; rintro e w1 ⟨rfl, hg1⟩)
        | (go_at_call 10; refine (F.out _).mono ?_; rintro e w2 ⟨rfl, hg2⟩)
        | (go_at_call 9; refine (awake_any _).mono ?_; rintro e w9 ⟨rfl, hg9⟩))
      go_ret
      exact ⟨rfl, grown_trans (grown_trans hg1 hg2) hg9⟩
    · have e2 : (hiS (quoS p q d) d == p) = true := beq_iff_eq.2 (by omega)
      have e3 : (loS (quoS p q d) d + remS p q d == q) = true := beq_iff_eq.2 (by omega)
      clear hs
      go_enter Try.func3, Try.ntmps3
      go_wp2_with (first
        | (go_at_call 8; refine (D.out _).mono ?_; rintro e w1 ⟨rfl, hg1⟩)
        | (go_at_call 10; refine (F.out _).mono ?_; rintro e w2 ⟨rfl, hg2⟩)
        | (go_at_call 9; refine (awake_any _).mono ?_; rintro e w9 ⟨rfl, hg9⟩))
      go_ret
      exact ⟨rfl, grown_trans (grown_trans hg1 hg2) hg9⟩
  · by_cases h0 : d = 0
    · have e1 : (d == 0) = true := beq_iff_eq.2 h0
      have D := hide (fun w => div_no p q d (by omega) w)
      clear h0 h
      go_enter Try.func3, Try.ntmps3
      go_wp2_with (first
        | (go_at_call 8; refine (D.out _).mono ?_; rintro e w1 ⟨rfl, hg1⟩)
        | (go_at_call 9; refine (awake_any _).mono ?_; rintro e w9 ⟨rfl, hg9⟩))
      go_ret
      exact ⟨rfl, grown_trans hg1 hg9⟩
    · have e1 : (d == 0) = false := beq_eq_false_iff_ne.2 h0
      have e2 : decide (d ≤ p) = true := by simp; omega
      have D := hide (fun w => div_no p q d (by omega) w)
      clear h0 h
      go_enter Try.func3, Try.ntmps3
      go_wp2_with (first
        | (go_at_call 8; refine (D.out _).mono ?_; rintro e w1 ⟨rfl, hg1⟩)
        | (go_at_call 9; refine (awake_any _).mono ?_; rintro e w9 ⟨rfl, hg9⟩))
      go_ret
      exact ⟨rfl, grown_trans hg1 hg9⟩
end Go.Proofs.Ythgpidalegnjgab

namespace Go.Proofs.Ythgpidalegnjgab.wideBack
open Go.ChangeShapes Go.WideShapes Go.ChangeAt Go.RowKit
set_option linter.unusedVariables false

theorem own : ownKnob Try.prog.godebug = none := by kernel_rfl

theorem walk (a0 : Int) (a1 : Int) (a2 : Int) (w0 : (Lit.int .u64 a0).wf = true) (w1 : (Lit.int .u64 a1).wf = true) (w2 : (Lit.int .u64 a2).wf = true) (w : World) :
    Calls Try.prog 3 #[.int .u64 a0, .int .u64 a1, .int .u64 a2] w fun e w' => e = .returned (.bool true) ∧ Grown w w' :=
  walk_back a0 a1 a2 (word_of_wf w0) (word_of_wf w1) (word_of_wf w2) w

set_option maxRecDepth 100000 in
theorem lifted (os : Os) (started : os.Started) (H : Type) (enc : TypeId × Value → H) :
    ReturnsInHanded {} Try.checked os 3 .any (Rows.wideBackSpec.pre6 enc Try.prog Try.f3 Rows.wideBackRow.domain false) (Rows.wideBackSpec.post enc Try.prog Try.f3 false true false false) := by
  refine returnsInHanded_of_change (C := Try.checked) own started (by kernel_rfl) Try.func3
    (ChangeSpec.witness6 (enc := enc) (C := Try.checked) false ⟨#[], #[.int .u64 0, .int .u64 0, .int .u64 0], []⟩ 8 (by kernel_rfl) (by kernel_rfl) (by kernel_rfl) (by kernel_rfl)) ?_
  intro W base args ds gs before hval0 hW hcnd _
  have hval : ∀ (j : Nat) t v, Try.f3.params[j]? = some t → args[j]? = some v → Value.okWide Try.prog W .any base t v := hval0
  have hW' := hW
  obtain ⟨p, q, hA0, hV, rfl, hfz, hnd⟩ := hW
  have hA : DataW.TrodAll enc Try.prog W 0 (fun _ => true) true Try.f3.params.toList args.toList ds p := hA0
  rw [Try.params3] at hA hval
  obtain ⟨v0, vs0, d0, ds0, p0, q0, hargs, rfl, rfl, h0, r0⟩ := trodAll_cons hA
  obtain ⟨v1, vs1, d1, ds1, p1, q1, rfl, rfl, rfl, h1, r1⟩ := trodAll_cons r0
  obtain ⟨v2, vs2, d2, ds2, p2, q2, rfl, rfl, rfl, h2, r2⟩ := trodAll_cons r1
  obtain ⟨rfl, rfl, rfl⟩ := trodAll_nil r2
  obtain rfl : args = #[v0, v1, v2] := by cases args; simp_all
  obtain ⟨rfl, rfl⟩ := trodVars_none hV
  obtain ⟨a0, rfl, rfl, rfl, w0⟩ := open_int Try.underlying22 (hval 0 22 v0 rfl rfl) h0
  obtain ⟨a1, rfl, rfl, rfl, w1⟩ := open_int Try.underlying22 (hval 1 22 v1 rfl rfl) h1
  obtain ⟨a2, rfl, rfl, rfl, w2⟩ := open_int Try.underlying22 (hval 2 22 v2 rfl rfl) h2
  clear hA0 hval0
  simp only [List.append_nil] at hW'
  refine (walk a0 a1 a2 w0 w1 w2 W).mono fun e W' ⟨he, hg⟩ => ?_
  subst he
  exact ⟨_, rfl, post_of_same (pa := []) (pv := []) hW' (fun _ _ _ => (trodAll_cons_mk (shut_bool Try.underlying4 _) trodAll_mk0)) (fun sp _ => (trodAll_cons_mk (shut_int Try.underlying22 w0) (trodAll_cons_mk (shut_int Try.underlying22 w1) (trodAll_cons_mk (shut_int Try.underlying22 w2) trodAll_mk0)))) (fun _ _ => rfl) rfl
    (hg.frame _) hg.2.1 (ok_one (by kernel_rfl) rfl (okWide_bool_mk Try.underlying4 _))⟩

theorem over : Rows.wideBackRow.holds Try.pinned (OpenSpec.ofChange Rows.wideBackSpec) :=
  OpenClaim.holds_of_wide 3 Try.f3 rfl rfl rfl rfl rfl rfl rfl ⟨rfl, rfl, rfl, rfl, rfl⟩ rfl rfl rfl rfl rfl (by kernel_rfl) Try.func3 (by kernel_rfl)
    (of_decide_eq_true (by kernel_rfl)) (by unfold Func.isWrapper; first | (rw [if_pos (by decide +kernel)]; kernel_rfl) | (rw [if_neg (by decide +kernel)]; exact ⟨rfl, rfl⟩))
    (fun os started H enc _ => lifted os started H enc)

theorem proved : Rows.WideBackSaid :=
  over
#print axioms proved
end Go.Proofs.Ythgpidalegnjgab.wideBack
