/-
  For any word and any place k of 64 the product by 2^k is the word moved up by k bits, over both halves, and wide.Mul is the lower half just where the upper one is 0 or the lower one is the greatest word; the document's examples hold. The call returns true, and its arguments read as they did.
  Conditions: none: every value of the parameters' types.
-/
import Derived.Test.YthgpidalegnjgabPlace
import Derived.Test.YthgpidalegnjgabWideG
import Derived.Test.YthgpidalegnjgabWideH
import Derived.ProofKit
import Derived.OpenShut
namespace Go.Proofs.Ythgpidalegnjgab
open Go.RowKit

theorem pow_word (k : Nat) (hk : k ≤ 63) : IntKind.u64.wrap (2 ^ k) = 2 ^ k ∧ Word (2 ^ k) := by
  have h0 : (0 : Int) < 2 ^ k := Int.pow_pos (by omega)
  have h2 : (2 : Nat) ^ k ≤ 2 ^ 63 := Nat.pow_le_pow_right (by omega) hk
  have h3 : (2 : Nat) ^ 63 = 9223372036854775808 := by decide +kernel
  have h4 : ((2 ^ k : Nat) : Int) = (2 : Int) ^ k := by simp
  have hw : Word (2 ^ k) := ⟨by omega, by omega⟩
  exact ⟨Kn.wrap_id hw.1 hw.2, hw⟩

theorem shift_hi {a : Int} (k : Nat) (hk : k ≤ 63) : hiS a (2 ^ k) = a / 2 ^ (64 - k) := by
  unfold hiS
  have e : (2 : Int) ^ (64 - k) * 2 ^ k = 18446744073709551616 := by
    rw [← Int.pow_add, show 64 - k + k = 64 by omega]; decide +kernel
  rw [← e]
  exact Int.mul_ediv_mul_of_pos_left _ _ (Int.pow_pos (by omega))

set_option maxHeartbeats 1000000 in
theorem walk_shifts (a v : Int) (ha : Word a) (_hv : (Lit.int .i64 v).wf = true) (w : World) :
    Calls Try.prog 6 #[.int .u64 a, .int .i64 v] w fun e w' => e = .returned (.bool true) ∧ Grown w w' := by
  obtain ⟨k, hk⟩ : ∃ k : Nat, v % 64 = k := ⟨(v % 64).toNat, by omega⟩
  have k0 : 0 ≤ (k : Int) := by omega
  have k1 : (k : Int) ≤ 63 := by omega
  have P := hide (fun w => place_any v 64 (by omega) (by omega) w)
  rw [hk] at P
  clear hk
  obtain ⟨hpw, hm⟩ := pow_word k (by omega)
  have s1 : hiS a (IntKind.u64.wrap (2 ^ k)) = a / 2 ^ (64 - k) := by rw [hpw]; exact shift_hi k (by omega)
  have e2 : (loS a (IntKind.u64.wrap (2 ^ k)) == IntKind.u64.wrap (a * 2 ^ k)) = true := beq_iff_eq.2 (by rw [hpw, IntKind.wrap_u64]; rfl)
  have hx : 0 ≤ a * 2 ^ k := Int.mul_nonneg ha.1 hm.1
  have hA : a * 2 ^ k < 18446744073709551616 → hiS a (IntKind.u64.wrap (2 ^ k)) = 0 ∧ mulS a (IntKind.u64.wrap (2 ^ k)) = loS a (IntKind.u64.wrap (2 ^ k)) := by
    intro h
    rw [hpw]; unfold hiS loS mulS; rw [if_pos h]; exact ⟨by omega, by omega⟩
  have hB : ¬ a * 2 ^ k < 18446744073709551616 → hiS a (IntKind.u64.wrap (2 ^ k)) ≠ 0 ∧ mulS a (IntKind.u64.wrap (2 ^ k)) = 18446744073709551615 := by
    intro h
    rw [hpw]; unfold hiS mulS; rw [if_neg h]; exact ⟨by omega, rfl⟩
  have hlw := loS_word a (IntKind.u64.wrap (2 ^ k))
  rw [← hpw] at hm
  clear hpw hx
  by_cases hz : 0 < k
  · have kp : 0 < (k : Int) := by omega
    have e1 : (hiS a (IntKind.u64.wrap (2 ^ k)) == a / 2 ^ (64 - k)) = true := beq_iff_eq.2 s1
    clear s1
    by_cases hc : a * 2 ^ k < 18446744073709551616
    · have e3 : (mulS a (IntKind.u64.wrap (2 ^ k)) == loS a (IntKind.u64.wrap (2 ^ k))) = true := beq_iff_eq.2 (hA hc).2
      have e4 : (hiS a (IntKind.u64.wrap (2 ^ k)) == 0) = true := beq_iff_eq.2 (hA hc).1
      clear hA hB hc
      go_enter Try.func6, Try.ntmps6
      go_wp2_with (first
        | (go_at_call 14; refine (P.out _).mono ?_; rintro e w1 ⟨rfl, rfl⟩)
        | (go_at_call 10; refine (full_any a _ ha hm _).mono ?_; rintro e w2 ⟨rfl, hg2⟩)
        | (go_at_call 15; refine (mul_any a _ ha hm _).mono ?_; rintro e w3 ⟨rfl, hg3⟩)
        | (go_at_call 9; refine (awake_any _).mono ?_; rintro e w9 ⟨rfl, hg9⟩))
      go_ret
      exact ⟨rfl, grown_trans (grown_trans hg2 hg3) hg9⟩
    · have e4 : (hiS a (IntKind.u64.wrap (2 ^ k)) == 0) = false := beq_eq_false_iff_ne.2 (hB hc).1
      by_cases hl : loS a (IntKind.u64.wrap (2 ^ k)) = 18446744073709551615
      · have e3 : (mulS a (IntKind.u64.wrap (2 ^ k)) == loS a (IntKind.u64.wrap (2 ^ k))) = true := beq_iff_eq.2 ((hB hc).2.trans hl.symm)
        have e5 : (loS a (IntKind.u64.wrap (2 ^ k)) == 18446744073709551615) = true := beq_iff_eq.2 hl
        clear hA hB hc hl
        go_enter Try.func6, Try.ntmps6
        go_wp2_with (first
          | (go_at_call 14; refine (P.out _).mono ?_; rintro e w1 ⟨rfl, rfl⟩)
          | (go_at_call 10; refine (full_any a _ ha hm _).mono ?_; rintro e w2 ⟨rfl, hg2⟩)
          | (go_at_call 15; refine (mul_any a _ ha hm _).mono ?_; rintro e w3 ⟨rfl, hg3⟩)
          | (go_at_call 9; refine (awake_any _).mono ?_; rintro e w9 ⟨rfl, hg9⟩))
        go_ret
        exact ⟨rfl, grown_trans (grown_trans hg2 hg3) hg9⟩
      · have e3 : (mulS a (IntKind.u64.wrap (2 ^ k)) == loS a (IntKind.u64.wrap (2 ^ k))) = false := beq_eq_false_iff_ne.2 (by rw [(hB hc).2]; exact fun h => hl h.symm)
        have e5 : (loS a (IntKind.u64.wrap (2 ^ k)) == 18446744073709551615) = false := beq_eq_false_iff_ne.2 hl
        clear hA hB hc hl
        go_enter Try.func6, Try.ntmps6
        go_wp2_with (first
          | (go_at_call 14; refine (P.out _).mono ?_; rintro e w1 ⟨rfl, rfl⟩)
          | (go_at_call 10; refine (full_any a _ ha hm _).mono ?_; rintro e w2 ⟨rfl, hg2⟩)
          | (go_at_call 15; refine (mul_any a _ ha hm _).mono ?_; rintro e w3 ⟨rfl, hg3⟩)
          | (go_at_call 9; refine (awake_any _).mono ?_; rintro e w9 ⟨rfl, hg9⟩))
        go_ret
        exact ⟨rfl, grown_trans (grown_trans hg2 hg3) hg9⟩
  · obtain rfl : k = 0 := by omega
    have hc : a * 2 ^ 0 < 18446744073709551616 := by have := ha.2; simp; omega
    have e0 := (hA hc).1
    have e3 := (hA hc).2
    clear s1 e2 hA hB hc hz
    have w1 : IntKind.u64.wrap (2 ^ 0) = 1 := by rw [IntKind.wrap_u64]; decide
    rw [w1] at e0 e3 hm hlw
    have e4 : (loS a 1 == IntKind.u64.wrap a) = true := beq_iff_eq.2 (by rw [IntKind.wrap_u64]; unfold loS; omega)
    have e5 : (mulS a 1 == loS a 1) = true := beq_iff_eq.2 e3
    have e6 : (hiS a 1 == 0) = true := beq_iff_eq.2 e0
    clear e0 e3 w1
    go_enter Try.func6, Try.ntmps6
    go_wp2_with (first
      | (go_at_call 14; refine (P.out _).mono ?_; rintro e w1 ⟨rfl, rfl⟩)
      | (go_at_call 10; refine (full_any a _ ha hm _).mono ?_; rintro e w2 ⟨rfl, hg2⟩)
      | (go_at_call 15; refine (mul_any a _ ha hm _).mono ?_; rintro e w3 ⟨rfl, hg3⟩)
      | (go_at_call 9; refine (awake_any _).mono ?_; rintro e w9 ⟨rfl, hg9⟩))
    go_ret
    exact ⟨rfl, grown_trans (grown_trans hg2 hg3) hg9⟩
end Go.Proofs.Ythgpidalegnjgab

namespace Go.Proofs.Ythgpidalegnjgab.wideShifts
open Go.ChangeShapes Go.WideShapes Go.ChangeAt Go.RowKit
set_option linter.unusedVariables false

theorem own : ownKnob Try.prog.godebug = none := by kernel_rfl

theorem walk (a0 : Int) (a1 : Int) (w0 : (Lit.int .u64 a0).wf = true) (w1 : (Lit.int .i64 a1).wf = true) (w : World) :
    Calls Try.prog 6 #[.int .u64 a0, .int .i64 a1] w fun e w' => e = .returned (.bool true) ∧ Grown w w' :=
  walk_shifts a0 a1 (word_of_wf w0) w1 w

set_option maxRecDepth 100000 in
theorem lifted (os : Os) (started : os.Started) (H : Type) (enc : TypeId × Value → H) :
    ReturnsInHanded {} Try.checked os 6 .any (Rows.wideShiftsSpec.pre6 enc Try.prog Try.f6 Rows.wideShiftsRow.domain false) (Rows.wideShiftsSpec.post enc Try.prog Try.f6 false true false false) := by
  refine returnsInHanded_of_change (C := Try.checked) own started (by kernel_rfl) Try.func6
    (ChangeSpec.witness6 (enc := enc) (C := Try.checked) false ⟨#[], #[.int .u64 0, .int .i64 0], []⟩ 8 (by kernel_rfl) (by kernel_rfl) (by kernel_rfl) (by kernel_rfl)) ?_
  intro W base args ds gs before hval0 hW hcnd _
  have hval : ∀ (j : Nat) t v, Try.f6.params[j]? = some t → args[j]? = some v → Value.okWide Try.prog W .any base t v := hval0
  have hW' := hW
  obtain ⟨p, q, hA0, hV, rfl, hfz, hnd⟩ := hW
  have hA : DataW.TrodAll enc Try.prog W 0 (fun _ => true) true Try.f6.params.toList args.toList ds p := hA0
  rw [Try.params6] at hA hval
  obtain ⟨v0, vs0, d0, ds0, p0, q0, hargs, rfl, rfl, h0, r0⟩ := trodAll_cons hA
  obtain ⟨v1, vs1, d1, ds1, p1, q1, rfl, rfl, rfl, h1, r1⟩ := trodAll_cons r0
  obtain ⟨rfl, rfl, rfl⟩ := trodAll_nil r1
  obtain rfl : args = #[v0, v1] := by cases args; simp_all
  obtain ⟨rfl, rfl⟩ := trodVars_none hV
  obtain ⟨a0, rfl, rfl, rfl, w0⟩ := open_int Try.underlying22 (hval 0 22 v0 rfl rfl) h0
  obtain ⟨a1, rfl, rfl, rfl, w1⟩ := open_int Try.underlying3 (hval 1 3 v1 rfl rfl) h1
  clear hA0 hval0
  simp only [List.append_nil] at hW'
  refine (walk a0 a1 w0 w1 W).mono fun e W' ⟨he, hg⟩ => ?_
  subst he
  exact ⟨_, rfl, post_of_same (pa := []) (pv := []) hW' (fun _ _ _ => (trodAll_cons_mk (shut_bool Try.underlying4 _) trodAll_mk0)) (fun sp _ => (trodAll_cons_mk (shut_int Try.underlying22 w0) (trodAll_cons_mk (shut_int Try.underlying3 w1) trodAll_mk0))) (fun _ _ => rfl) rfl
    (hg.frame _) hg.2.1 (ok_one (by kernel_rfl) rfl (okWide_bool_mk Try.underlying4 _))⟩

theorem over : Rows.wideShiftsRow.holds Try.pinned (OpenSpec.ofChange Rows.wideShiftsSpec) :=
  OpenClaim.holds_of_wide 6 Try.f6 rfl rfl rfl rfl rfl rfl rfl ⟨rfl, rfl, rfl, rfl, rfl⟩ rfl rfl rfl rfl rfl (by kernel_rfl) Try.func6 (by kernel_rfl)
    (of_decide_eq_true (by kernel_rfl)) (by unfold Func.isWrapper; first | (rw [if_pos (by decide +kernel)]; kernel_rfl) | (rw [if_neg (by decide +kernel)]; exact ⟨rfl, rfl⟩))
    (fun os started H enc _ => lifted os started H enc)

theorem proved : Rows.WideShiftsSaid :=
  over
#print axioms proved
end Go.Proofs.Ythgpidalegnjgab.wideShifts
