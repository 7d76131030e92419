/-
  Two texts that part in their last byte alone have the same number only where that byte is the same; the document's examples hold. The call returns true, and its arguments read as they did.
  Conditions: none: every value of the parameters' types.
-/
import Derived.Test.YtllipocbaknkpaaFnvP
import Derived.Deep.RegionWith
import Derived.Deep.DrawnRows
import Derived.ProofKit
import Derived.OpenShut
import Derived.ShutString
import Derived.ChangeOld
import Derived.SizedLaws
namespace Go.Proofs.Ytllipocbaknkpaa
open Go.RowKit
attribute [local go_sem ↓] Go.wp_at_zero Go.wp_at_succ

theorem conv_one (z : Int) (hz : (Lit.int .u8 z).wf = true) (w : World) (g : Nat) (h : w.cell? ⟨g, 0, none⟩ = some (.int .u8 z)) :
    (convert 37 9 (.slice (some ⟨g, 0, none⟩) 1 1)).run Try.prog w = .ok (.string (strOfNums [z])) w := by
  have hr : Row .u8 w (some ⟨g, 0, none⟩) 1 [z] := by
    refine ⟨rfl, by omega, by simpa using hz, Or.inr ⟨g, 0, rfl, fun i hi => ?_⟩⟩
    have : i = 0 := by omega
    subst this
    exact h
  obtain ⟨h1, _, _, h0 | ⟨b, off, e, hc⟩⟩ := hr
  · omega
  · rw [e]
    exact run_convert_bytes_arg w _ _ Try.underlying37 Try.underlying5 b off 1 1 [z] h1 hc _ Try.underlying9

set_option maxHeartbeats 2000000 in
theorem walk_last (s : ByteArray) (a b : Int) (w : World) (hs : s.size ≤ 140737488351232) (w1 : (Lit.int .u8 a).wf = true) (w2 : (Lit.int .u8 b).wf = true) :
    Calls Try.prog 6 #[.string s, .int .u8 a, .int .u8 b] w fun e w' => e = .returned (.bool true) ∧ Below w.heap.size w w' := by
  have c1 := conv_one a w1
  have c2 := conv_one b w2
  have hsz : ∀ z : Int, (strOfNums [z]).size = 1 := fun z => rfl
  have C1 := hide (fun w1 => fnvOf_any (s ++ strOfNums [a]) w1 (by rw [ByteArray.size_append, hsz]; omega))
  have C2 := hide (fun w1 => fnvOf_any (s ++ strOfNums [b]) w1 (by rw [ByteArray.size_append, hsz]; omega))
  have C4 := hide fnvAwake_any
  rw [nums_append, nums_strOf (by simpa using w1)] at C1
  rw [nums_append, nums_strOf (by simpa using w2)] at C2
  have he := fnvOf_last (numsOf s) (a := a) (b := b) (byte_word (u8_of_wf w1)) (byte_word (u8_of_wf w2))
  have a1 := fun w1 => run_string_add_sum (P := Try.prog) w1 s (strOfNums [a]) (by rw [hsz]; omega)
  have a2 := fun w1 => run_string_add_sum (P := Try.prog) w1 s (strOfNums [b]) (by rw [hsz]; omega)
  generalize fnvOf (numsOf s ++ [a]) = S1 at C1 he
  generalize fnvOf (numsOf s ++ [b]) = S2 at C2 he
  obtain ⟨eb, e1, e2⟩ : ∃ eb, (S1 == S2) = eb ∧ (a == b) = eb := by
    by_cases hab : a = b
    · exact ⟨true, by simpa using he.2 hab, by simpa using hab⟩
    · exact ⟨false, by simpa using fun h => hab (he.1 h), by simpa using hab⟩
  clear he hsz w1 w2
  generalize s ++ strOfNums [a] = X1 at *
  generalize s ++ strOfNums [b] = X2 at *
  generalize strOfNums [a] = Y1 at *
  generalize strOfNums [b] = Y2 at *
  go_enter Try.func6, Try.ntmps6
  go_wp2_with fail
  go_region_with (first
    | (go_at_call_of 7 (Value.string X1); refine (C1.out _).mono ?_; rintro e w' ⟨rfl, rfl⟩)
    | (go_at_call_of 7 (Value.string X2); refine (C2.out _).mono ?_; rintro e w' ⟨rfl, rfl⟩)
    | (go_at_call 11; refine (C4.out _).mono ?_; rintro e w' ⟨rfl, rfl⟩))
  all_goals go_wp2
  all_goals go_ret
  all_goals exact ⟨rfl, by repeat (first | exact Below.refl _ _ | exact Nat.le_refl _ | apply Below.drew | apply bel_al)⟩
end Go.Proofs.Ytllipocbaknkpaa

namespace Go.Proofs.Ytllipocbaknkpaa.fnvLast
open Go.ChangeShapes Go.WideShapes Go.ChangeAt Go.RowKit
open Go.ChangeMaps (open_string shut_string)
set_option linter.unusedVariables false

theorem own : ownKnob Try.prog.godebug = none := by kernel_rfl

set_option maxRecDepth 100000 in
theorem lifted (os : Os) (started : os.Started) (H : Type) (enc : TypeId × Value → H) :
    ReturnsInHanded {} Try.checked os 6 .any (Rows.fnvLastSpec.pre6 enc Try.prog Try.f6 Rows.fnvLastRow.domain false) (Rows.fnvLastSpec.post enc Try.prog Try.f6 false true false false) := by
  refine returnsInHanded_of_change_sized (C := Try.checked) own started (by kernel_rfl) Try.func6
    (ChangeSpec.witness6 (enc := enc) (C := Try.checked) false ⟨#[], #[.string .empty, .int .u8 0, .int .u8 0], []⟩ 8 (by kernel_rfl) (by kernel_rfl) (by kernel_rfl) (by kernel_rfl)) ?_
  intro W base args ds gs before hval0 hW hcnd hsz0 _
  have hsz : (DataW.weightsEach Try.prog (Try.f6.params.toList ++ Rows.fnvLastSpec.plain.varTypes Try.prog) (ds ++ gs)).all (· ≤ reachBytes) = true := hsz0
  have hval : ∀ (j : Nat) t v, Try.f6.params[j]? = some t → args[j]? = some v → Value.okWide Try.prog W .any base t v := hval0
  have hW' := hW
  obtain ⟨p, q, hA0, hV, rfl, hfz, hnd⟩ := hW
  have hA : DataW.TrodAll enc Try.prog W 0 (fun _ => true) true Try.f6.params.toList args.toList ds p := hA0
  rw [Try.params6] at hA hval hsz
  obtain ⟨v0, vs0, d0, ds0, p0, q0, hargs, rfl, rfl, h0, r0⟩ := trodAll_cons hA
  obtain ⟨v1, vs1, d1, ds1, p1, q1, rfl, rfl, rfl, h1, r1⟩ := trodAll_cons r0
  obtain ⟨v2, vs2, d2, ds2, p2, q2, rfl, rfl, rfl, h2, r2⟩ := trodAll_cons r1
  obtain ⟨rfl, rfl, rfl⟩ := trodAll_nil r2
  obtain rfl : args = #[v0, v1, v2] := by cases args; simp_all
  obtain ⟨rfl, rfl⟩ := trodVars_none hV
  obtain ⟨a0, rfl, rfl, rfl, w0⟩ := open_string Try.underlying9 (hval 0 9 v0 rfl rfl) h0
  have e0 : a0.data.toList.length = a0.size := by rw [Array.length_toList]; rfl
  have s0 : a0.size ≤ 140737488351232 := by
    have hs := sized_string hsz (j := 0) (t := 9) rfl rfl
    rw [e0] at hs
    simpa only [reachBytes] using hs
  obtain ⟨a1, rfl, rfl, rfl, w1⟩ := open_int Try.underlying5 (hval 1 5 v1 rfl rfl) h1
  obtain ⟨a2, rfl, rfl, rfl, w2⟩ := open_int Try.underlying5 (hval 2 5 v2 rfl rfl) h2
  clear hA0 hval0 hsz0 hsz
  refine (walk_last a0 a1 a2 W s0 w1 w2).mono fun e W' ⟨he, bel⟩ => ?_
  subst he
  exact ⟨_, rfl, _, _, _, [], _, [], hW', trodAll_mk1 (shut_bool Try.underlying4 _), (trodAll_cons_mk (shut_string Try.underlying9 w0) (trodAll_cons_mk (shut_int Try.underlying5 w1) (trodAll_cons_mk (shut_int Try.underlying5 w2) trodAll_mk0))), rfl, bel.frame _, fun h => by cases h⟩

theorem proved : Rows.FnvLastSaid :=
  OpenClaim.holds_of_wide 6 Try.f6 rfl rfl rfl rfl rfl rfl rfl ⟨rfl, rfl, rfl, rfl, rfl⟩ rfl rfl rfl rfl rfl (by kernel_rfl) Try.func6 (by kernel_rfl)
    (of_decide_eq_true (by kernel_rfl)) (by unfold Func.isWrapper; first | (rw [if_pos (by decide +kernel)]; kernel_rfl) | (rw [if_neg (by decide +kernel)]; exact ⟨rfl, rfl⟩))
    (fun os started H enc _ => lifted os started H enc)
end Go.Proofs.Ytllipocbaknkpaa.fnvLast
