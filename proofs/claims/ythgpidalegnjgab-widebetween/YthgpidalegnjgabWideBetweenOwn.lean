/-
  For any three words what wide.Ceil tells is what wide.Floor tells, where nothing is left, and one more, where something is; there is no Ceil only where there is no Floor, or Floor is the greatest word and something is left; the document's examples hold. The call returns true, and its arguments read as they did.
  Conditions: none: every value of the parameters' types.
-/
import Derived.Test.YthgpidalegnjgabWideG
import Derived.Test.YthgpidalegnjgabWideH
import Derived.ProofKit
import Derived.OpenShut
namespace Go.Proofs.Ythgpidalegnjgab
open Go.RowKit

set_option maxHeartbeats 1000000 in
theorem walk_between (a b d : Int) (ha : Word a) (hb : Word b) (hd : Word d) (w : World) :
    Calls Try.prog 4 #[.int .u64 a, .int .u64 b, .int .u64 d] w fun e w' => e = .returned (.bool true) ∧ Grown w w' := by
  have G := hide (fun w => full_any a b ha hb w)
  by_cases h : hiS a b < d
  · obtain ⟨⟨k1, k2⟩, k3, k4⟩ := quo_bounds (hiS_word ha hb) (loS_word a b) h
    have F := hide (fun w => floor_yes a b d ha hb hd h w)
    have D := hide (fun w => div_yes _ _ d (hiS_word ha hb) (loS_word a b) hd h w)
    by_cases hr : remS (hiS a b) (loS a b) d = 0
    · have C := hide (fun w => ceil_even a b d ha hb hd h hr w)
      rw [hr] at D
      clear hr k3 k4
      go_enter Try.func4, Try.ntmps4
      go_wp2_with (first
        | (go_at_call 11; refine (F.out _).mono ?_; rintro e w1 ⟨rfl, hg1⟩)
        | (go_at_call 12; refine (C.out _).mono ?_; rintro e w2 ⟨rfl, hg2⟩)
        | (go_at_call 10; refine (G.out _).mono ?_; rintro e w3 ⟨rfl, hg3⟩)
        | (go_at_call 8; refine (D.out _).mono ?_; rintro e w4 ⟨rfl, hg4⟩)
        | (go_at_call 9; refine (awake_any _).mono ?_; rintro e w9 ⟨rfl, hg9⟩)); go_ret; exact ⟨rfl, grown_trans (grown_trans (grown_trans (grown_trans hg1 hg2) hg3) hg4) hg9⟩
    · by_cases hq : quoS (hiS a b) (loS a b) d < 18446744073709551615
      · have C := hide (fun w => ceil_more a b d ha hb hd h (by omega) hq w)
        have e1 : (remS (hiS a b) (loS a b) d == 0) = false := beq_eq_false_iff_ne.2 hr
        clear hr
        go_enter Try.func4, Try.ntmps4
        go_wp2_with (first
        | (go_at_call 11; refine (F.out _).mono ?_; rintro e w1 ⟨rfl, hg1⟩)
        | (go_at_call 12; refine (C.out _).mono ?_; rintro e w2 ⟨rfl, hg2⟩)
        | (go_at_call 10; refine (G.out _).mono ?_; rintro e w3 ⟨rfl, hg3⟩)
        | (go_at_call 8; refine (D.out _).mono ?_; rintro e w4 ⟨rfl, hg4⟩)
        | (go_at_call 9; refine (awake_any _).mono ?_; rintro e w9 ⟨rfl, hg9⟩)); go_ret; exact ⟨rfl, grown_trans (grown_trans (grown_trans (grown_trans hg1 hg2) hg3) hg4) hg9⟩
      · have e0 : quoS (hiS a b) (loS a b) d = 18446744073709551615 := by omega
        have C := hide (fun w => ceil_most a b d ha hb hd h (by omega) e0 w)
        have e1 : decide (0 < remS (hiS a b) (loS a b) d) = true := by simp; omega
        rw [e0] at F
        clear hr hq e0 k1 k2
        go_enter Try.func4, Try.ntmps4
        go_wp2_with (first
        | (go_at_call 11; refine (F.out _).mono ?_; rintro e w1 ⟨rfl, hg1⟩)
        | (go_at_call 12; refine (C.out _).mono ?_; rintro e w2 ⟨rfl, hg2⟩)
        | (go_at_call 10; refine (G.out _).mono ?_; rintro e w3 ⟨rfl, hg3⟩)
        | (go_at_call 8; refine (D.out _).mono ?_; rintro e w4 ⟨rfl, hg4⟩)
        | (go_at_call 9; refine (awake_any _).mono ?_; rintro e w9 ⟨rfl, hg9⟩)); go_ret; exact ⟨rfl, grown_trans (grown_trans (grown_trans (grown_trans hg1 hg2) hg3) hg4) hg9⟩
  · have F := hide (fun w => floor_no a b d ha hb (by omega) w)
    have C := hide (fun w => ceil_no a b d ha hb (by omega) w)
    have D := hide (fun w => div_no (hiS a b) (loS a b) d (by omega) w)
    clear h
    go_enter Try.func4, Try.ntmps4
    go_wp2_with (first
        | (go_at_call 11; refine (F.out _).mono ?_; rintro e w1 ⟨rfl, hg1⟩)
        | (go_at_call 12; refine (C.out _).mono ?_; rintro e w2 ⟨rfl, hg2⟩)
        | (go_at_call 10; refine (G.out _).mono ?_; rintro e w3 ⟨rfl, hg3⟩)
        | (go_at_call 8; refine (D.out _).mono ?_; rintro e w4 ⟨rfl, hg4⟩)
        | (go_at_call 9; refine (awake_any _).mono ?_; rintro e w9 ⟨rfl, hg9⟩)); go_ret; exact ⟨rfl, grown_trans (grown_trans (grown_trans (grown_trans hg1 hg2) hg3) hg4) hg9⟩
end Go.Proofs.Ythgpidalegnjgab

namespace Go.Proofs.Ythgpidalegnjgab.wideBetween
open Go.ChangeShapes Go.WideShapes Go.ChangeAt Go.RowKit
set_option linter.unusedVariables false

theorem own : ownKnob Try.prog.godebug = none := by kernel_rfl

theorem walk (a0 : Int) (a1 : Int) (a2 : Int) (w0 : (Lit.int .u64 a0).wf = true) (w1 : (Lit.int .u64 a1).wf = true) (w2 : (Lit.int .u64 a2).wf = true) (w : World) :
    Calls Try.prog 4 #[.int .u64 a0, .int .u64 a1, .int .u64 a2] w fun e w' => e = .returned (.bool true) ∧ Grown w w' :=
  walk_between a0 a1 a2 (word_of_wf w0) (word_of_wf w1) (word_of_wf w2) w

set_option maxRecDepth 100000 in
theorem lifted (os : Os) (started : os.Started) (H : Type) (enc : TypeId × Value → H) :
    ReturnsInHanded {} Try.checked os 4 .any (Rows.wideBetweenSpec.pre6 enc Try.prog Try.f4 Rows.wideBetweenRow.domain false) (Rows.wideBetweenSpec.post enc Try.prog Try.f4 false true false false) := by
  refine returnsInHanded_of_change (C := Try.checked) own started (by kernel_rfl) Try.func4
    (ChangeSpec.witness6 (enc := enc) (C := Try.checked) false ⟨#[], #[.int .u64 0, .int .u64 0, .int .u64 0], []⟩ 8 (by kernel_rfl) (by kernel_rfl) (by kernel_rfl) (by kernel_rfl)) ?_
  intro W base args ds gs before hval0 hW hcnd _
  have hval : ∀ (j : Nat) t v, Try.f4.params[j]? = some t → args[j]? = some v → Value.okWide Try.prog W .any base t v := hval0
  have hW' := hW
  obtain ⟨p, q, hA0, hV, rfl, hfz, hnd⟩ := hW
  have hA : DataW.TrodAll enc Try.prog W 0 (fun _ => true) true Try.f4.params.toList args.toList ds p := hA0
  rw [Try.params4] at hA hval
  obtain ⟨v0, vs0, d0, ds0, p0, q0, hargs, rfl, rfl, h0, r0⟩ := trodAll_cons hA
  obtain ⟨v1, vs1, d1, ds1, p1, q1, rfl, rfl, rfl, h1, r1⟩ := trodAll_cons r0
  obtain ⟨v2, vs2, d2, ds2, p2, q2, rfl, rfl, rfl, h2, r2⟩ := trodAll_cons r1
  obtain ⟨rfl, rfl, rfl⟩ := trodAll_nil r2
  obtain rfl : args = #[v0, v1, v2] := by cases args; simp_all
  obtain ⟨rfl, rfl⟩ := trodVars_none hV
  obtain ⟨a0, rfl, rfl, rfl, w0⟩ := open_int Try.underlying22 (hval 0 22 v0 rfl rfl) h0
  obtain ⟨a1, rfl, rfl, rfl, w1⟩ := open_int Try.underlying22 (hval 1 22 v1 rfl rfl) h1
  obtain ⟨a2, rfl, rfl, rfl, w2⟩ := open_int Try.underlying22 (hval 2 22 v2 rfl rfl) h2
  clear hA0 hval0
  simp only [List.append_nil] at hW'
  refine (walk a0 a1 a2 w0 w1 w2 W).mono fun e W' ⟨he, hg⟩ => ?_
  subst he
  exact ⟨_, rfl, post_of_same (pa := []) (pv := []) hW' (fun _ _ _ => (trodAll_cons_mk (shut_bool Try.underlying4 _) trodAll_mk0)) (fun sp _ => (trodAll_cons_mk (shut_int Try.underlying22 w0) (trodAll_cons_mk (shut_int Try.underlying22 w1) (trodAll_cons_mk (shut_int Try.underlying22 w2) trodAll_mk0)))) (fun _ _ => rfl) rfl
    (hg.frame _) hg.2.1 (ok_one (by kernel_rfl) rfl (okWide_bool_mk Try.underlying4 _))⟩

theorem over : Rows.wideBetweenRow.holds Try.pinned (OpenSpec.ofChange Rows.wideBetweenSpec) :=
  OpenClaim.holds_of_wide 4 Try.f4 rfl rfl rfl rfl rfl rfl rfl ⟨rfl, rfl, rfl, rfl, rfl⟩ rfl rfl rfl rfl rfl (by kernel_rfl) Try.func4 (by kernel_rfl)
    (of_decide_eq_true (by kernel_rfl)) (by unfold Func.isWrapper; first | (rw [if_pos (by decide +kernel)]; kernel_rfl) | (rw [if_neg (by decide +kernel)]; exact ⟨rfl, rfl⟩))
    (fun os started H enc _ => lifted os started H enc)

theorem proved : Rows.WideBetweenSaid :=
  over
#print axioms proved
end Go.Proofs.Ythgpidalegnjgab.wideBetween
