/-
  A greater number never has fewer bytes; there are one to ten, and one just below 128; the document's examples hold. The call returns true, and its arguments read as they did.
  Conditions: none: every value of the parameters' types.
-/
import Derived.Test.YtemgapgggeanjabVintE
import Derived.ProofKit
import Derived.OpenShut
import Derived.ShutString
import Derived.ChangeOld
import Derived.SizedLaws
namespace Go.Proofs.Ytemgapgggeanjab
open Go.RowKit

set_option maxHeartbeats 1000000 in
theorem walk_sizes (a b : Int) (w : World) (w0 : (Lit.int .u64 a).wf = true) (w1 : (Lit.int .u64 b).wf = true) :
    Calls Try.prog 3 #[.int .u64 a, .int .u64 b] w fun e w' => e = .returned (.bool true) ∧ Below w.heap.size w w' := by
  have ha := u64_of_wf w0
  have hb := u64_of_wf w1
  have P1 := hide (put_any a none 0 0 [] w ha (by omega) (by omega) (nil_row .u8 _ none))
  have P2 := hide (fun w' => put_any b none 0 0 [] w' hb (by omega) (by omega) (nil_row .u8 _ none))
  have l1 := putS_len a
  have l2 := putS_len b
  have m1 : a ≤ b → (putS a).length ≤ (putS b).length := fun h => putS_mono h ha.1
  have m2 : b ≤ a → (putS b).length ≤ (putS a).length := fun h => putS_mono h hb.1
  obtain ⟨eb, k1, k2⟩ : ∃ eb, (((putS a).length : Int) == 1) = eb ∧ decide (a < 128) = eb := by
    have := putS_one (v := a)
    refine ⟨decide (a < 128), ?_, rfl⟩
    by_cases h : a < 128
    · have := this.2 h; simp [h, this]
    · have : ¬ (putS a).length = 1 := fun e => h (this.1 e)
      simp [h]; omega
  have a0 := ha.1
  have b0 := hb.1
  clear ha hb w0 w1
  generalize (putS a).length = x at *
  generalize (putS b).length = y at *
  go_enter Try.func3, Try.ntmps3
  go_wp2_with fail
  refine P1.out.mono ?_
  rintro e w1 ⟨a1, c1, rfl, _, b1⟩
  go_wp2_with fail
  refine (P2.out _).mono ?_
  rintro e w2 ⟨a2, c2, rfl, _, b2⟩
  have B : Hid (Below w.heap.size w w2) := bel_to b1 (Nat.le_refl _) b2
  clear b1 b2 P1 P2
  rcases (show a < b ∨ a = b ∨ b < a by omega) with h | h | h
  · have h1 := m1 (by omega)
    clear m1 m2
    go_wp2_with fail
    refine (awake_any _).mono ?_
    rintro e w3 ⟨rfl, b3⟩
    go_wp2
    go_ret
    exact ⟨rfl, bel_to B.out (Nat.le_refl _) b3⟩
  · have h1 := m1 (by omega)
    have h2 := m2 (by omega)
    subst h
    clear m1 m2
    go_wp2_with fail
    refine (awake_any _).mono ?_
    rintro e w3 ⟨rfl, b3⟩
    go_wp2
    go_ret
    exact ⟨rfl, bel_to B.out (Nat.le_refl _) b3⟩
  · have h1 := m2 (by omega)
    clear m1 m2
    go_wp2_with fail
    refine (awake_any _).mono ?_
    rintro e w3 ⟨rfl, b3⟩
    go_wp2
    go_ret
    exact ⟨rfl, bel_to B.out (Nat.le_refl _) b3⟩
end Go.Proofs.Ytemgapgggeanjab

namespace Go.Proofs.Ytemgapgggeanjab.vintSizes
open Go.ChangeShapes Go.WideShapes Go.ChangeAt Go.RowKit
open Go.ChangeMaps (open_string shut_string)
set_option linter.unusedVariables false

theorem own : ownKnob Try.prog.godebug = none := by kernel_rfl

set_option maxRecDepth 100000 in
theorem lifted (os : Os) (started : os.Started) (H : Type) (enc : TypeId × Value → H) :
    ReturnsInHanded {} Try.checked os 3 .any (Rows.vintSizesSpec.pre6 enc Try.prog Try.f3 Rows.vintSizesRow.domain false) (Rows.vintSizesSpec.post enc Try.prog Try.f3 false true false false) := by
  refine returnsInHanded_of_change_sized (C := Try.checked) own started (by kernel_rfl) Try.func3
    (ChangeSpec.witness6 (enc := enc) (C := Try.checked) false ⟨#[], #[.int .u64 0, .int .u64 0], []⟩ 8 (by kernel_rfl) (by kernel_rfl) (by kernel_rfl) (by kernel_rfl)) ?_
  intro W base args ds gs before hval0 hW hcnd hsz0 _
  have hsz : (DataW.weightsEach Try.prog (Try.f3.params.toList ++ Rows.vintSizesSpec.plain.varTypes Try.prog) (ds ++ gs)).all (· ≤ reachBytes) = true := hsz0
  have hval : ∀ (j : Nat) t v, Try.f3.params[j]? = some t → args[j]? = some v → Value.okWide Try.prog W .any base t v := hval0
  have hW' := hW
  obtain ⟨p, q, hA0, hV, rfl, hfz, hnd⟩ := hW
  have hA : DataW.TrodAll enc Try.prog W 0 (fun _ => true) true Try.f3.params.toList args.toList ds p := hA0
  rw [Try.params3] at hA hval hsz
  obtain ⟨v0, vs0, d0, ds0, p0, q0, hargs, rfl, rfl, h0, r0⟩ := trodAll_cons hA
  obtain ⟨v1, vs1, d1, ds1, p1, q1, rfl, rfl, rfl, h1, r1⟩ := trodAll_cons r0
  obtain ⟨rfl, rfl, rfl⟩ := trodAll_nil r1
  obtain rfl : args = #[v0, v1] := by cases args; simp_all
  obtain ⟨rfl, rfl⟩ := trodVars_none hV
  obtain ⟨a0, rfl, rfl, rfl, w0⟩ := open_int Try.underlying22 (hval 0 22 v0 rfl rfl) h0
  obtain ⟨a1, rfl, rfl, rfl, w1⟩ := open_int Try.underlying22 (hval 1 22 v1 rfl rfl) h1
  clear hA0 hval0 hsz0 hsz
  refine (walk_sizes a0 a1 W w0 w1).mono fun e W' ⟨he, bel⟩ => ?_
  subst he
  exact ⟨_, rfl, _, _, _, [], _, [], hW', trodAll_mk1 (shut_bool Try.underlying4 _), (trodAll_cons_mk (shut_int Try.underlying22 w0) (trodAll_cons_mk (shut_int Try.underlying22 w1) trodAll_mk0)), rfl, bel.frame _, fun h => by cases h⟩

theorem proved : Rows.VintSizesSaid :=
  OpenClaim.holds_of_wide 3 Try.f3 rfl rfl rfl rfl rfl rfl rfl ⟨rfl, rfl, rfl, rfl, rfl⟩ rfl rfl rfl rfl rfl (by kernel_rfl) Try.func3 (by kernel_rfl)
    (of_decide_eq_true (by kernel_rfl)) (by unfold Func.isWrapper; first | (rw [if_pos (by decide +kernel)]; kernel_rfl) | (rw [if_neg (by decide +kernel)]; exact ⟨rfl, rfl⟩))
    (fun os started H enc _ => lifted os started H enc)
end Go.Proofs.Ytemgapgggeanjab.vintSizes
