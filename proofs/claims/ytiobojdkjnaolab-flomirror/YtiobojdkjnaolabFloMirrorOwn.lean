/-
  For any two words the kind stays with the other sign, and order turns round; of the mirrored one the next is the one ahead, mirrored; the document's examples hold. The call returns true, and its arguments read as they did.
  Conditions: none: every value of the parameters' types.
-/
import Derived.Test.YtiobojdkjnaolabFloW
import Derived.ProofKit
import Derived.OpenShut
namespace Go.Proofs.Ytiobojdkjnaolab
open Go.RowKit

def flipS (x : Int) : Int := if 9223372036854775808 ≤ x then x - 9223372036854775808 else x + 9223372036854775808
theorem flipS_word {x : Int} (h : Word x) : Word (flipS x) := by obtain ⟨_, _⟩ := h; unfold flipS Word; split <;> omega
theorem flip_mod {x : Int} (h : Word x) : flipS x % 9223372036854775808 = x % 9223372036854775808 := by
  obtain ⟨_, _⟩ := h; unfold flipS; split <;> omega
theorem flip_kind {x : Int} (h : Word x) : kindS (flipS x) = kindS x := by unfold kindS; rw [flip_mod h]
theorem flip_key {x : Int} (h : Word x) : keyS (flipS x) = 18446744073709551615 - keyS x := by
  obtain ⟨_, _⟩ := h; unfold flipS keyS; split <;> split <;> omega
theorem flip_less {x y : Int} (hx : Word x) (hy : Word y) : lessB (flipS y) (flipS x) = lessB x y := by
  rw [Bool.eq_iff_iff, less_iff, less_iff, flip_mod hx, flip_mod hy, flip_key hx, flip_key hy]
  omega
theorem key_inj {x y : Int} (hx : Word x) (hy : Word y) (h : keyS x = keyS y) : x = y := by
  rw [← of_key hx, ← of_key hy, h]

/-- Back by one and on by one. -/
theorem mirror_next {x : Int} (h : Word x) (kn : ¬ 9218868437227405312 < x % 9223372036854775808) (k1 : x ≠ 18442240474082181120) (k2 : x ≠ 9218868437227405312) :
    nextS (flipS (nextS (flipS x))) = x := by
  have hf := flipS_word h
  have m := flip_mod h
  have a : ¬ (9218868437227405312 < flipS x % 9223372036854775808 ∨ flipS x = 9218868437227405312) := by
    rw [m]
    rintro (c | c)
    · exact kn c
    · obtain ⟨_, _⟩ := h; unfold flipS at c; split at c <;> omega
  have hn := nextS_word hf
  have hfn := flipS_word hn
  have e1 := next_key hf a
  have e2 := flip_key h
  have e3 := flip_key hn
  have b0 := (nan_key h).1 kn
  have b1 : keyS x ≠ 4503599627370495 := by
    intro c; apply k1; obtain ⟨_, _⟩ := h; unfold keyS at c; split at c <;> omega
  have b2 : keyS x ≠ 18442240474082181120 := by
    intro c; apply k2; obtain ⟨_, _⟩ := h; unfold keyS at c; split at c <;> omega
  have kf : keyS (flipS (nextS (flipS x))) = keyS x - 1 := by omega
  have a2 : ¬ (9218868437227405312 < flipS (nextS (flipS x)) % 9223372036854775808 ∨ flipS (nextS (flipS x)) = 9218868437227405312) := by
    rintro (c | c)
    · exact (nan_key hfn).2 ⟨by omega, by omega⟩ c
    · rw [c] at kf
      have : keyS 9218868437227405312 = 18442240474082181120 := by decide
      omega
  have e4 := next_key hfn a2
  exact key_inj (nextS_word hfn) h (by omega)

set_option maxHeartbeats 1000000 in
theorem walk_mirror (x y : Int) (hx : Word x) (hy : Word y) (w : World) :
    Calls Try.prog 8 #[.int .u64 x, .int .u64 y] w fun e w' => e = .returned (.bool true) ∧ Grown w w' := by
  have X : bits .xor .u64 x 9223372036854775808 = flipS x := Fl.xor_sign hx.1 hx.2
  have Y : bits .xor .u64 y 9223372036854775808 = flipS y := Fl.xor_sign hy.1 hy.2
  have hn := nextS_word (flipS_word hx)
  have Z : bits .xor .u64 (nextS (flipS x)) 9223372036854775808 = flipS (nextS (flipS x)) := Fl.xor_sign hn.1 hn.2
  have K := hide (fun w => kind_any x hx w)
  have KF := hide (fun w => kind_any (flipS x) (flipS_word hx) w)
  rw [flip_kind hx] at KF
  have L := hide (fun w => less_any x y hx hy w)
  have LF := hide (fun w => less_any (flipS y) (flipS x) (flipS_word hy) (flipS_word hx) w)
  rw [flip_less hx hy] at LF
  have NX := hide (fun w => next_any (flipS x) (flipS_word hx) w)
  have NN := hide (fun w => next_any (flipS (nextS (flipS x))) (flipS_word hn) w)
  have k1 := kindnan x
  by_cases kn : 9218868437227405312 < x % 9223372036854775808
  · rw [show nanI x = true from decide_eq_true kn] at k1
    clear kn NX NN hx hy hn Z
    go_enter Try.func8, Try.ntmps8
    go_wp2_with fail
    refine (K.out _).mono ?_
    rintro e w1 ⟨rfl, rfl⟩
    go_wp2_with fail
    refine (KF.out _).mono ?_
    rintro e w1 ⟨rfl, rfl⟩
    go_wp2_with fail
    refine (L.out _).mono ?_
    rintro e w1 ⟨rfl, rfl⟩
    go_wp2_with fail
    refine (LF.out _).mono ?_
    rintro e w1 ⟨rfl, rfl⟩
    go_wp2_with fail
    refine (K.out _).mono ?_
    rintro e w1 ⟨rfl, rfl⟩
    go_wp2_with fail
    refine (awake_any _).mono ?_
    rintro e w1 ⟨rfl, rfl⟩
    go_wp2
    go_ret
    exact ⟨rfl, Grown.refl _⟩
  · rw [show nanI x = false from decide_eq_false kn] at k1
    by_cases c1 : x = 18442240474082181120
    · have e1 : (x == 18442240474082181120) = true := beq_iff_eq.2 c1
      clear c1 kn NX NN hx hy hn Z
      go_enter Try.func8, Try.ntmps8
      go_wp2_with fail
      refine (K.out _).mono ?_
      rintro e w1 ⟨rfl, rfl⟩
      go_wp2_with fail
      refine (KF.out _).mono ?_
      rintro e w1 ⟨rfl, rfl⟩
      go_wp2_with fail
      refine (L.out _).mono ?_
      rintro e w1 ⟨rfl, rfl⟩
      go_wp2_with fail
      refine (LF.out _).mono ?_
      rintro e w1 ⟨rfl, rfl⟩
      go_wp2_with fail
      refine (K.out _).mono ?_
      rintro e w1 ⟨rfl, rfl⟩
      go_wp2_with fail
      refine (awake_any _).mono ?_
      rintro e w1 ⟨rfl, rfl⟩
      go_wp2
      go_ret
      exact ⟨rfl, Grown.refl _⟩
    · have e1 : (x == 18442240474082181120) = false := beq_eq_false_iff_ne.2 c1
      by_cases c2 : x = 9218868437227405312
      · have e2 : (flipS x == 18442240474082181120) = true := by rw [c2]; decide
        clear c1 c2 kn NX NN hx hy hn Z
        go_enter Try.func8, Try.ntmps8
        go_wp2_with fail
        refine (K.out _).mono ?_
        rintro e w1 ⟨rfl, rfl⟩
        go_wp2_with fail
        refine (KF.out _).mono ?_
        rintro e w1 ⟨rfl, rfl⟩
        go_wp2_with fail
        refine (L.out _).mono ?_
        rintro e w1 ⟨rfl, rfl⟩
        go_wp2_with fail
        refine (LF.out _).mono ?_
        rintro e w1 ⟨rfl, rfl⟩
        go_wp2_with fail
        refine (K.out _).mono ?_
        rintro e w1 ⟨rfl, rfl⟩
        go_wp2_with fail
        refine (awake_any _).mono ?_
        rintro e w1 ⟨rfl, rfl⟩
        go_wp2
        go_ret
        exact ⟨rfl, Grown.refl _⟩
      · have e2 : (flipS x == 18442240474082181120) = false := by
          refine beq_eq_false_iff_ne.2 (fun c => ?_)
          obtain ⟨_, _⟩ := hx; unfold flipS at c; split at c <;> omega
        rw [mirror_next hx kn c1 c2] at NN
        clear c1 c2 kn hx hy hn
        go_enter Try.func8, Try.ntmps8
        go_wp2_with fail
        refine (K.out _).mono ?_
        rintro e w1 ⟨rfl, rfl⟩
        go_wp2_with fail
        refine (KF.out _).mono ?_
        rintro e w1 ⟨rfl, rfl⟩
        go_wp2_with fail
        refine (L.out _).mono ?_
        rintro e w1 ⟨rfl, rfl⟩
        go_wp2_with fail
        refine (LF.out _).mono ?_
        rintro e w1 ⟨rfl, rfl⟩
        go_wp2_with fail
        refine (K.out _).mono ?_
        rintro e w1 ⟨rfl, rfl⟩
        go_wp2_with fail
        refine (NX.out _).mono ?_
        rintro e w1 ⟨rfl, rfl⟩
        go_wp2_with fail
        refine (NN.out _).mono ?_
        rintro e w1 ⟨rfl, rfl⟩
        go_wp2_with fail
        refine (awake_any _).mono ?_
        rintro e w1 ⟨rfl, rfl⟩
        go_wp2
        go_ret
        exact ⟨rfl, Grown.refl _⟩
end Go.Proofs.Ytiobojdkjnaolab

namespace Go.Proofs.Ytiobojdkjnaolab.floMirror
open Go.ChangeShapes Go.WideShapes Go.ChangeAt Go.RowKit
set_option linter.unusedVariables false

theorem own : ownKnob Try.prog.godebug = none := by kernel_rfl

theorem walk (a0 : Int) (a1 : Int) (w0 : (Lit.int .u64 a0).wf = true) (w1 : (Lit.int .u64 a1).wf = true) (w : World) :
    Calls Try.prog 8 #[.int .u64 a0, .int .u64 a1] w fun e w' => e = .returned (.bool true) ∧ Grown w w' :=
  walk_mirror a0 a1 (word_of_wf w0) (word_of_wf w1) w

set_option maxRecDepth 100000 in
theorem lifted (os : Os) (started : os.Started) (H : Type) (enc : TypeId × Value → H) :
    ReturnsInHanded {} Try.checked os 8 .any (Rows.floMirrorSpec.pre6 enc Try.prog Try.f8 Rows.floMirrorRow.domain false) (Rows.floMirrorSpec.post enc Try.prog Try.f8 false true false false) := by
  refine returnsInHanded_of_change (C := Try.checked) own started (by kernel_rfl) Try.func8
    (ChangeSpec.witness6 (enc := enc) (C := Try.checked) false ⟨#[], #[.int .u64 0, .int .u64 0], []⟩ 8 (by kernel_rfl) (by kernel_rfl) (by kernel_rfl) (by kernel_rfl)) ?_
  intro W base args ds gs before hval0 hW hcnd _
  have hval : ∀ (j : Nat) t v, Try.f8.params[j]? = some t → args[j]? = some v → Value.okWide Try.prog W .any base t v := hval0
  have hW' := hW
  obtain ⟨p, q, hA0, hV, rfl, hfz, hnd⟩ := hW
  have hA : DataW.TrodAll enc Try.prog W 0 (fun _ => true) true Try.f8.params.toList args.toList ds p := hA0
  rw [Try.params8] at hA hval
  obtain ⟨v0, vs0, d0, ds0, p0, q0, hargs, rfl, rfl, h0, r0⟩ := trodAll_cons hA
  obtain ⟨v1, vs1, d1, ds1, p1, q1, rfl, rfl, rfl, h1, r1⟩ := trodAll_cons r0
  obtain ⟨rfl, rfl, rfl⟩ := trodAll_nil r1
  obtain rfl : args = #[v0, v1] := by cases args; simp_all
  obtain ⟨rfl, rfl⟩ := trodVars_none hV
  obtain ⟨a0, rfl, rfl, rfl, w0⟩ := open_int Try.underlying22 (hval 0 22 v0 rfl rfl) h0
  obtain ⟨a1, rfl, rfl, rfl, w1⟩ := open_int Try.underlying22 (hval 1 22 v1 rfl rfl) h1
  clear hA0 hval0
  simp only [List.append_nil] at hW'
  refine (walk a0 a1 w0 w1 W).mono fun e W' ⟨he, hg⟩ => ?_
  subst he
  exact ⟨_, rfl, post_of_same (pa := []) (pv := []) hW' (fun _ _ _ => (trodAll_cons_mk (shut_bool Try.underlying4 _) trodAll_mk0)) (fun sp _ => (trodAll_cons_mk (shut_int Try.underlying22 w0) (trodAll_cons_mk (shut_int Try.underlying22 w1) trodAll_mk0))) (fun _ _ => rfl) rfl
    (hg.frame _) hg.2.1 (ok_one (by kernel_rfl) rfl (okWide_bool_mk Try.underlying4 _))⟩

theorem over : Rows.floMirrorRow.holds Try.pinned (OpenSpec.ofChange Rows.floMirrorSpec) :=
  OpenClaim.holds_of_wide 8 Try.f8 rfl rfl rfl rfl rfl rfl rfl ⟨rfl, rfl, rfl, rfl, rfl⟩ rfl rfl rfl rfl rfl (by kernel_rfl) Try.func8 (by kernel_rfl)
    (of_decide_eq_true (by kernel_rfl)) (by unfold Func.isWrapper; first | (rw [if_pos (by decide +kernel)]; kernel_rfl) | (rw [if_neg (by decide +kernel)]; exact ⟨rfl, rfl⟩))
    (fun os started H enc _ => lifted os started H enc)

theorem proved : Rows.FloMirrorSaid :=
  over
#print axioms proved
end Go.Proofs.Ytiobojdkjnaolab.floMirror
