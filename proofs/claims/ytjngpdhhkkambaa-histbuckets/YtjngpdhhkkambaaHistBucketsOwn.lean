/-
  Any number's bucket and any bucket's ends are the document's; the document's examples hold. The call returns true, and its arguments read as they did.
  Conditions: none: every value of the parameters' types.
-/
import Derived.Test.YtjngpdhhkkambaaHistAg
import Derived.Test.YtjngpdhhkkambaaHistR
import Derived.Deep.RegionWith
import Derived.Deep.DrawnRows
import Derived.ProofKit
import Derived.OpenShut
import Derived.ShutString
import Derived.ChangeOld
import Derived.SizedLaws
namespace Go.Proofs.Ytjngpdhhkkambaa
open Go.RowKit

set_option maxHeartbeats 2000000 in
theorem walk_buckets (v k : Int) (w : World) (hv : (Lit.int .u64 v).wf = true) (_hk : (Lit.int .i64 k).wf = true) :
    Calls Try.prog 3 #[.int .u64 v, .int .i64 k] w fun e w' => e = .returned (.bool true) ∧ Below w.heap.size w w' := by
  have hv := u64_of_wf hv
  have hx : ∃ (L U : Int) (B : Bool), (∀ w, Calls Try.prog 9 #[.int .i64 k] w fun e w' => e = .returned (.tuple #[.int .u64 L, .bool B]) ∧ w' = w) ∧
      (∀ w, Calls Try.prog 10 #[.int .i64 k] w fun e w' => e = .returned (.tuple #[.int .u64 U, .bool B]) ∧ w' = w) ∧
      (∀ w, Calls Try.prog 11 #[.int .i64 k] w fun e w' => e = .returned (.tuple #[.int .u64 L, .bool B]) ∧ w' = w) ∧
      (∀ w, Calls Try.prog 12 #[.int .i64 k] w fun e w' => e = .returned (.tuple #[.int .u64 U, .bool B]) ∧ w' = w) := by
    by_cases h : k < 0 ∨ 7424 ≤ k
    · exact ⟨0, 0, false, fun w => low_out k w h, fun w => high_out k w h, fun w => reflow_out k w h, fun w => refhigh_out k w h⟩
    · exact ⟨lowS k, highS k, true, fun w => low_in k w (by omega) (by omega), fun w => high_in k w (by omega) (by omega), fun w => reflow_in k w (by omega) (by omega), fun w => refhigh_in k w (by omega) (by omega)⟩
  obtain ⟨L, U, B, h1, h2, h3, h4⟩ := hx
  have C1 := hide h1
  have C2 := hide h2
  have C3 := hide h3
  have C4 := hide h4
  have C5 := hide (fun w => bucket_any v w hv)
  have C6 := hide (fun w => refbucket_any v w hv)
  have C7 := hide awake_any
  clear h1 h2 h3 h4 hv
  generalize bucketS v = bk at *
  have t1 : (bk == bk) = true := by simp
  have t2 : (L == L) = true := by simp
  have t3 : (U == U) = true := by simp
  have t4 : (B == B) = true := by simp
  go_enter Try.func3, Try.ntmps3
  go_wp2_with fail
  refine (C1.out _).mono ?_
  rintro e w1 ⟨rfl, rfl⟩
  go_wp2_with fail
  refine (C2.out _).mono ?_
  rintro e w1 ⟨rfl, rfl⟩
  go_wp2_with fail
  refine (C3.out _).mono ?_
  rintro e w1 ⟨rfl, rfl⟩
  go_wp2_with fail
  refine (C4.out _).mono ?_
  rintro e w1 ⟨rfl, rfl⟩
  go_wp2_with fail
  refine (C5.out _).mono ?_
  rintro e w1 ⟨rfl, rfl⟩
  go_wp2_with fail
  refine (C6.out _).mono ?_
  rintro e w1 ⟨rfl, rfl⟩
  go_wp2_with fail
  refine (C7.out _).mono ?_
  rintro e w2 ⟨rfl, hb⟩
  have HB := hide hb
  clear hb
  go_wp2
  go_ret
  exact ⟨rfl, HB.out⟩
end Go.Proofs.Ytjngpdhhkkambaa

namespace Go.Proofs.Ytjngpdhhkkambaa.histBuckets
open Go.ChangeShapes Go.WideShapes Go.ChangeAt Go.RowKit
open Go.ChangeMaps (open_string shut_string)
set_option linter.unusedVariables false

theorem own : ownKnob Try.prog.godebug = none := by kernel_rfl

set_option maxRecDepth 100000 in
theorem lifted (os : Os) (started : os.Started) (H : Type) (enc : TypeId × Value → H) :
    ReturnsInHanded {} Try.checked os 3 .any (Rows.histBucketsSpec.pre6 enc Try.prog Try.f3 Rows.histBucketsRow.domain false) (Rows.histBucketsSpec.post enc Try.prog Try.f3 false true false false) := by
  refine returnsInHanded_of_change_sized (C := Try.checked) own started (by kernel_rfl) Try.func3
    (ChangeSpec.witness6 (enc := enc) (C := Try.checked) false ⟨#[], #[.int .u64 0, .int .i64 0], []⟩ 8 (by kernel_rfl) (by kernel_rfl) (by kernel_rfl) (by kernel_rfl)) ?_
  intro W base args ds gs before hval0 hW hcnd hsz0 _
  have hsz : (DataW.weightsEach Try.prog (Try.f3.params.toList ++ Rows.histBucketsSpec.plain.varTypes Try.prog) (ds ++ gs)).all (· ≤ reachBytes) = true := hsz0
  have hval : ∀ (j : Nat) t v, Try.f3.params[j]? = some t → args[j]? = some v → Value.okWide Try.prog W .any base t v := hval0
  have hW' := hW
  obtain ⟨p, q, hA0, hV, rfl, hfz, hnd⟩ := hW
  have hA : DataW.TrodAll enc Try.prog W 0 (fun _ => true) true Try.f3.params.toList args.toList ds p := hA0
  rw [Try.params3] at hA hval hsz
  obtain ⟨v0, vs0, d0, ds0, p0, q0, hargs, rfl, rfl, h0, r0⟩ := trodAll_cons hA
  obtain ⟨v1, vs1, d1, ds1, p1, q1, rfl, rfl, rfl, h1, r1⟩ := trodAll_cons r0
  obtain ⟨rfl, rfl, rfl⟩ := trodAll_nil r1
  obtain rfl : args = #[v0, v1] := by cases args; simp_all
  obtain ⟨rfl, rfl⟩ := trodVars_none hV
  obtain ⟨a0, rfl, rfl, rfl, w0⟩ := open_int Try.underlying22 (hval 0 22 v0 rfl rfl) h0
  obtain ⟨a1, rfl, rfl, rfl, w1⟩ := open_int Try.underlying3 (hval 1 3 v1 rfl rfl) h1
  clear hA0 hval0 hsz0 hsz
  refine (walk_buckets a0 a1 W w0 w1).mono fun e W' ⟨he, bel⟩ => ?_
  subst he
  exact ⟨_, rfl, _, _, _, [], _, [], hW', trodAll_mk1 (shut_bool Try.underlying4 _), (trodAll_cons_mk (shut_int Try.underlying22 w0) (trodAll_cons_mk (shut_int Try.underlying3 w1) trodAll_mk0)), rfl, bel.frame _, fun h => by cases h⟩

theorem proved : Rows.HistBucketsSaid :=
  OpenClaim.holds_of_wide 3 Try.f3 rfl rfl rfl rfl rfl rfl rfl ⟨rfl, rfl, rfl, rfl, rfl⟩ rfl rfl rfl rfl rfl (by kernel_rfl) Try.func3 (by kernel_rfl)
    (of_decide_eq_true (by kernel_rfl)) (by unfold Func.isWrapper; first | (rw [if_pos (by decide +kernel)]; kernel_rfl) | (rw [if_neg (by decide +kernel)]; exact ⟨rfl, rfl⟩))
    (fun os started H enc _ => lifted os started H enc)
end Go.Proofs.Ytjngpdhhkkambaa.histBuckets
