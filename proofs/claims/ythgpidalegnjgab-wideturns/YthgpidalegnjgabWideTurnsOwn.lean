/-
  For any six words: of three fractions with divisors above 0, if wide.Cmp says that the first is at most the second and the second at most the third, it says that the first is at most the third; the document's examples hold. The call returns true, and its arguments read as they did.
  Conditions: none: every value of the parameters' types.
-/
import Derived.Test.YthgpidalegnjgabWideG
import Derived.Test.YthgpidalegnjgabWideH
import Derived.ProofKit
import Derived.OpenShut
namespace Go.Proofs.Ythgpidalegnjgab
open Go.RowKit

set_option maxHeartbeats 1000000 in
theorem walk_turns (a b c d e f : Int) (ha : Word a) (hb : Word b) (hc : Word c) (hd : Word d) (he : Word e) (hf : Word f) (w : World) :
    Calls Try.prog 5 #[.int .u64 a, .int .u64 b, .int .u64 c, .int .u64 d, .int .u64 e, .int .u64 f] w fun e w' => e = .returned (.bool true) ∧ Grown w w' := by
  by_cases hz : b = 0 ∨ d = 0 ∨ f = 0
  · by_cases z1 : b = 0
    · have e1 : (b == 0) = true := beq_iff_eq.2 z1
      clear z1 hz
      go_enter Try.func5, Try.ntmps5
      go_wp2_with (first | (go_at_call 9; refine (awake_any _).mono ?_; rintro _ w9 ⟨rfl, hg9⟩))
      go_ret
      exact ⟨rfl, hg9⟩
    · have e1 : (b == 0) = false := beq_eq_false_iff_ne.2 z1
      by_cases z2 : d = 0
      · have e2 : (d == 0) = true := beq_iff_eq.2 z2
        clear z1 z2 hz
        go_enter Try.func5, Try.ntmps5
        go_wp2_with (first | (go_at_call 9; refine (awake_any _).mono ?_; rintro _ w9 ⟨rfl, hg9⟩))
        go_ret
        exact ⟨rfl, hg9⟩
      · have e2 : (d == 0) = false := beq_eq_false_iff_ne.2 z2
        have e3 : (f == 0) = true := beq_iff_eq.2 (by omega)
        clear z1 z2 hz
        go_enter Try.func5, Try.ntmps5
        go_wp2_with (first | (go_at_call 9; refine (awake_any _).mono ?_; rintro _ w9 ⟨rfl, hg9⟩))
        go_ret
        exact ⟨rfl, hg9⟩
  · have e1 : (b == 0) = false := beq_eq_false_iff_ne.2 (by omega)
    have e2 : (d == 0) = false := beq_eq_false_iff_ne.2 (by omega)
    have e3 : (f == 0) = false := beq_eq_false_iff_ne.2 (by omega)
    have b0 := hb.1
    have d0 := hd.1
    have f0 := hf.1
    have T := hide (fun h1 h2 => cmp_trans (a := a) (b := b) (c := c) (d := d) (e := e) (f := f) (by omega) (by omega) (by omega) h1 h2)
    clear hz
    by_cases t1 : cmpS a b c d ≤ 0
    · by_cases t2 : cmpS c d e f ≤ 0
      · have t3 := T.out t1 t2
        go_enter Try.func5, Try.ntmps5
        go_wp2_with fail
        refine (cmp_any a b c d ha hb hc hd _).mono ?_
        rintro _ w1 ⟨rfl, hg1⟩
        go_wp2_with fail
        refine (cmp_any c d e f hc hd he hf _).mono ?_
        rintro _ w2 ⟨rfl, hg2⟩
        go_wp2_with fail
        refine (cmp_any a b e f ha hb he hf _).mono ?_
        rintro _ w3 ⟨rfl, hg3⟩
        go_wp2_with (first | (go_at_call 9; refine (awake_any _).mono ?_; rintro _ w9 ⟨rfl, hg9⟩))
        go_ret
        exact ⟨rfl, grown_trans (grown_trans (grown_trans hg1 hg2) hg3) hg9⟩
      · have t2' : decide (cmpS c d e f ≤ 0) = false := by simp; omega
        go_enter Try.func5, Try.ntmps5
        go_wp2_with fail
        refine (cmp_any a b c d ha hb hc hd _).mono ?_
        rintro _ w1 ⟨rfl, hg1⟩
        go_wp2_with fail
        refine (cmp_any c d e f hc hd he hf _).mono ?_
        rintro _ w2 ⟨rfl, hg2⟩
        go_wp2_with (first | (go_at_call 9; refine (awake_any _).mono ?_; rintro _ w9 ⟨rfl, hg9⟩))
        go_ret
        exact ⟨rfl, grown_trans (grown_trans hg1 hg2) hg9⟩
    · have t1' : decide (cmpS a b c d ≤ 0) = false := by simp; omega
      go_enter Try.func5, Try.ntmps5
      go_wp2_with fail
      refine (cmp_any a b c d ha hb hc hd _).mono ?_
      rintro _ w1 ⟨rfl, hg1⟩
      go_wp2_with (first | (go_at_call 9; refine (awake_any _).mono ?_; rintro _ w9 ⟨rfl, hg9⟩))
      go_ret
      exact ⟨rfl, grown_trans hg1 hg9⟩
end Go.Proofs.Ythgpidalegnjgab

namespace Go.Proofs.Ythgpidalegnjgab.wideTurns
open Go.ChangeShapes Go.WideShapes Go.ChangeAt Go.RowKit
set_option linter.unusedVariables false

theorem own : ownKnob Try.prog.godebug = none := by kernel_rfl

theorem walk (a0 : Int) (a1 : Int) (a2 : Int) (a3 : Int) (a4 : Int) (a5 : Int) (w0 : (Lit.int .u64 a0).wf = true) (w1 : (Lit.int .u64 a1).wf = true) (w2 : (Lit.int .u64 a2).wf = true) (w3 : (Lit.int .u64 a3).wf = true) (w4 : (Lit.int .u64 a4).wf = true) (w5 : (Lit.int .u64 a5).wf = true) (w : World) :
    Calls Try.prog 5 #[.int .u64 a0, .int .u64 a1, .int .u64 a2, .int .u64 a3, .int .u64 a4, .int .u64 a5] w fun e w' => e = .returned (.bool true) ∧ Grown w w' :=
  walk_turns a0 a1 a2 a3 a4 a5 (word_of_wf w0) (word_of_wf w1) (word_of_wf w2) (word_of_wf w3) (word_of_wf w4) (word_of_wf w5) w

set_option maxRecDepth 100000 in
theorem lifted (os : Os) (started : os.Started) (H : Type) (enc : TypeId × Value → H) :
    ReturnsInHanded {} Try.checked os 5 .any (Rows.wideTurnsSpec.pre6 enc Try.prog Try.f5 Rows.wideTurnsRow.domain false) (Rows.wideTurnsSpec.post enc Try.prog Try.f5 false true false false) := by
  refine returnsInHanded_of_change (C := Try.checked) own started (by kernel_rfl) Try.func5
    (ChangeSpec.witness6 (enc := enc) (C := Try.checked) false ⟨#[], #[.int .u64 0, .int .u64 0, .int .u64 0, .int .u64 0, .int .u64 0, .int .u64 0], []⟩ 8 (by kernel_rfl) (by kernel_rfl) (by kernel_rfl) (by kernel_rfl)) ?_
  intro W base args ds gs before hval0 hW hcnd _
  have hval : ∀ (j : Nat) t v, Try.f5.params[j]? = some t → args[j]? = some v → Value.okWide Try.prog W .any base t v := hval0
  have hW' := hW
  obtain ⟨p, q, hA0, hV, rfl, hfz, hnd⟩ := hW
  have hA : DataW.TrodAll enc Try.prog W 0 (fun _ => true) true Try.f5.params.toList args.toList ds p := hA0
  rw [Try.params5] at hA hval
  obtain ⟨v0, vs0, d0, ds0, p0, q0, hargs, rfl, rfl, h0, r0⟩ := trodAll_cons hA
  obtain ⟨v1, vs1, d1, ds1, p1, q1, rfl, rfl, rfl, h1, r1⟩ := trodAll_cons r0
  obtain ⟨v2, vs2, d2, ds2, p2, q2, rfl, rfl, rfl, h2, r2⟩ := trodAll_cons r1
  obtain ⟨v3, vs3, d3, ds3, p3, q3, rfl, rfl, rfl, h3, r3⟩ := trodAll_cons r2
  obtain ⟨v4, vs4, d4, ds4, p4, q4, rfl, rfl, rfl, h4, r4⟩ := trodAll_cons r3
  obtain ⟨v5, vs5, d5, ds5, p5, q5, rfl, rfl, rfl, h5, r5⟩ := trodAll_cons r4
  obtain ⟨rfl, rfl, rfl⟩ := trodAll_nil r5
  obtain rfl : args = #[v0, v1, v2, v3, v4, v5] := by cases args; simp_all
  obtain ⟨rfl, rfl⟩ := trodVars_none hV
  obtain ⟨a0, rfl, rfl, rfl, w0⟩ := open_int Try.underlying22 (hval 0 22 v0 rfl rfl) h0
  obtain ⟨a1, rfl, rfl, rfl, w1⟩ := open_int Try.underlying22 (hval 1 22 v1 rfl rfl) h1
  obtain ⟨a2, rfl, rfl, rfl, w2⟩ := open_int Try.underlying22 (hval 2 22 v2 rfl rfl) h2
  obtain ⟨a3, rfl, rfl, rfl, w3⟩ := open_int Try.underlying22 (hval 3 22 v3 rfl rfl) h3
  obtain ⟨a4, rfl, rfl, rfl, w4⟩ := open_int Try.underlying22 (hval 4 22 v4 rfl rfl) h4
  obtain ⟨a5, rfl, rfl, rfl, w5⟩ := open_int Try.underlying22 (hval 5 22 v5 rfl rfl) h5
  clear hA0 hval0
  simp only [List.append_nil] at hW'
  refine (walk a0 a1 a2 a3 a4 a5 w0 w1 w2 w3 w4 w5 W).mono fun e W' ⟨he, hg⟩ => ?_
  subst he
  exact ⟨_, rfl, post_of_same (pa := []) (pv := []) hW' (fun _ _ _ => (trodAll_cons_mk (shut_bool Try.underlying4 _) trodAll_mk0)) (fun sp _ => (trodAll_cons_mk (shut_int Try.underlying22 w0) (trodAll_cons_mk (shut_int Try.underlying22 w1) (trodAll_cons_mk (shut_int Try.underlying22 w2) (trodAll_cons_mk (shut_int Try.underlying22 w3) (trodAll_cons_mk (shut_int Try.underlying22 w4) (trodAll_cons_mk (shut_int Try.underlying22 w5) trodAll_mk0))))))) (fun _ _ => rfl) rfl
    (hg.frame _) hg.2.1 (ok_one (by kernel_rfl) rfl (okWide_bool_mk Try.underlying4 _))⟩

theorem over : Rows.wideTurnsRow.holds Try.pinned (OpenSpec.ofChange Rows.wideTurnsSpec) :=
  OpenClaim.holds_of_wide 5 Try.f5 rfl rfl rfl rfl rfl rfl rfl ⟨rfl, rfl, rfl, rfl, rfl⟩ rfl rfl rfl rfl rfl (by kernel_rfl) Try.func5 (by kernel_rfl)
    (of_decide_eq_true (by kernel_rfl)) (by unfold Func.isWrapper; first | (rw [if_pos (by decide +kernel)]; kernel_rfl) | (rw [if_neg (by decide +kernel)]; exact ⟨rfl, rfl⟩))
    (fun os started H enc _ => lifted os started H enc)

theorem proved : Rows.WideTurnsSaid :=
  over
#print axioms proved
end Go.Proofs.Ythgpidalegnjgab.wideTurns
