/-
  A number lies between its bucket's ends, no more than a 128th of it above the lower one; the ends lie in the bucket; buckets rise and follow upon each other; the document's examples hold. The call returns true, and its arguments read as they did.
  Conditions: none: every value of the parameters' types.
-/
import Derived.Test.YtjngpdhhkkambaaHistAg
import Derived.Deep.RegionWith
import Derived.Deep.DrawnRows
import Derived.ProofKit
import Derived.OpenShut
import Derived.ShutString
import Derived.ChangeOld
import Derived.SizedLaws
namespace Go.Proofs.Ytjngpdhhkkambaa
open Go.RowKit

set_option maxHeartbeats 4000000 in
theorem walk_near (v u : Int) (w : World) (hv : (Lit.int .u64 v).wf = true) (hu : (Lit.int .u64 u).wf = true) :
    Calls Try.prog 4 #[.int .u64 v, .int .u64 u] w fun e w' => e = .returned (.bool true) ∧ Below w.heap.size w w' := by
  have hv := u64_of_wf hv
  have hu := u64_of_wf hu
  obtain ⟨v0, v1⟩ := hv
  obtain ⟨u0, u1⟩ := hu
  obtain ⟨b0, b1⟩ := bucketS_range v0 v1
  obtain ⟨l1, l2⟩ := bucketS_between v0 v1
  have l3 := bucketS_near v0 v1
  obtain ⟨l4, l5⟩ := lowS_word b0 b1
  obtain ⟨l6, l7⟩ := highS_word b0 b1
  have l8 : highS (bucketS v) = lowS (bucketS v + 1) - 1 := rfl
  have BV := hide (fun w => bucket_any v w ⟨v0, v1⟩)
  have LO := hide (fun w => low_in (bucketS v) w b0 b1)
  have HI := hide (fun w => high_in (bucketS v) w b0 b1)
  have BL := hide (fun w => bucket_any (lowS (bucketS v)) w ⟨l4, l5⟩)
  have BH := hide (fun w => bucket_any (highS (bucketS v)) w ⟨by omega, l7⟩)
  rw [bucketS_low b0 b1] at BL
  rw [bucketS_high b0 b1] at BH
  have BU := hide (fun w => bucket_any u w ⟨u0, u1⟩)
  have hmono : v ≤ u → bucketS v ≤ bucketS u := fun h => bucketS_mono v0 h u1
  have HTop : Hid (bucketS v = 7423 → highS (bucketS v) = 18446744073709551615) := fun h => by rw [h]; exact highS_top
  have HNx : Hid (bucketS v + 1 ≤ 7423 → ∀ w, Calls Try.prog 9 #[.int .i64 (bucketS v + 1)] w fun e w' => e = .returned (.tuple #[.int .u64 (lowS (bucketS v + 1)), .bool true]) ∧ w' = w) := fun h w => low_in _ w (by omega) h
  have HXW : Hid (bucketS v + 1 ≤ 7423 → lowS (bucketS v + 1) < 18446744073709551616) := fun h => (lowS_word (by omega) h).2
  have AW := hide awake_any
  generalize highS (bucketS v) = U at *
  generalize lowS (bucketS v + 1) = X at *
  generalize lowS (bucketS v) = L at *
  generalize bucketS v = bk at *
  generalize bucketS u = bu at *
  have q1 : v.tdiv 128 = v / 128 := Int.tdiv_eq_ediv_of_nonneg v0
  have hvu : v ≤ U := by omega
  have HX : Hid (X = U + 1) := by show _ = _; omega
  clear l2 l8
  have t1 : (bk != bk) = false := by simp
  have s1 : decide (bk < 0) = false := decide_eq_false (by omega)
  have s2 : decide (7424 ≤ bk) = false := decide_eq_false (by omega)
  have s3 : decide (v < L) = false := decide_eq_false (by omega)
  have s4 : decide (U < v) = false := decide_eq_false (by omega)
  have s5 : decide (v / 128 < v - L) = false := decide_eq_false (by omega)
  have s6 : v / 128 < 18446744073709551616 := by omega
  have s7 : 0 ≤ v / 128 := by omega
  have HM := hide hmono
  clear hmono
  go_enter Try.func4, Try.ntmps4
  go_wp2_with fail
  refine (BV.out _).mono ?_
  rintro e w1 ⟨rfl, rfl⟩
  go_wp2_with fail
  refine (LO.out _).mono ?_
  rintro e w1 ⟨rfl, rfl⟩
  go_wp2_with fail
  refine (HI.out _).mono ?_
  rintro e w1 ⟨rfl, rfl⟩
  go_wp2_with fail
  refine (BL.out _).mono ?_
  rintro e w1 ⟨rfl, rfl⟩
  go_wp2_with fail
  refine (BH.out _).mono ?_
  rintro e w1 ⟨rfl, rfl⟩
  clear BV LO HI BL BH
  have AWD : ∀ w, Hid (Calls Try.prog 15 #[] w fun e w' => e = .returned (.bool true) ∧ Below w.heap.size w w') := fun w => AW.out w
  by_cases c1 : v ≤ u
  · have c2 := HM.out c1
    have s8 : decide (bu < bk) = false := decide_eq_false (by omega)
    go_wp2_with fail
    refine (BU.out _).mono ?_
    rintro e w1 ⟨rfl, rfl⟩
    by_cases c3 : bk + 1 ≤ 7423
    · have LX := hide (HNx.out c3)
      have t2 : (X == U + 1) = true := by rw [HX.out]; simp
      have t3 : U + 1 < 18446744073709551616 := by rw [← HX.out]; exact HXW.out c3
      go_wp2_with fail
      refine (LX.out _).mono ?_
      rintro e w1 ⟨rfl, rfl⟩
      go_wp2_with fail
      refine (AWD _).out.mono ?_
      rintro e w2 ⟨rfl, hb⟩
      have HB := hide hb
      clear hb
      go_wp2
      go_ret
      exact ⟨rfl, HB.out⟩
    · have hU := HTop.out (by omega)
      have t2 : (U == 18446744073709551615) = true := by simpa using hU
      clear hU
      go_wp2_with fail
      refine (AWD _).out.mono ?_
      rintro e w2 ⟨rfl, hb⟩
      have HB := hide hb
      clear hb
      go_wp2
      go_ret
      exact ⟨rfl, HB.out⟩
  · by_cases c3 : bk + 1 ≤ 7423
    · have LX := hide (HNx.out c3)
      have t2 : (X == U + 1) = true := by rw [HX.out]; simp
      have t3 : U + 1 < 18446744073709551616 := by rw [← HX.out]; exact HXW.out c3
      go_wp2_with fail
      refine (LX.out _).mono ?_
      rintro e w1 ⟨rfl, rfl⟩
      go_wp2_with fail
      refine (AWD _).out.mono ?_
      rintro e w2 ⟨rfl, hb⟩
      have HB := hide hb
      clear hb
      go_wp2
      go_ret
      exact ⟨rfl, HB.out⟩
    · have hU := HTop.out (by omega)
      have t2 : (U == 18446744073709551615) = true := by simpa using hU
      clear hU
      go_wp2_with fail
      refine (AWD _).out.mono ?_
      rintro e w2 ⟨rfl, hb⟩
      have HB := hide hb
      clear hb
      go_wp2
      go_ret
      exact ⟨rfl, HB.out⟩
end Go.Proofs.Ytjngpdhhkkambaa

namespace Go.Proofs.Ytjngpdhhkkambaa.histNear
open Go.ChangeShapes Go.WideShapes Go.ChangeAt Go.RowKit
open Go.ChangeMaps (open_string shut_string)
set_option linter.unusedVariables false

theorem own : ownKnob Try.prog.godebug = none := by kernel_rfl

set_option maxRecDepth 100000 in
theorem lifted (os : Os) (started : os.Started) (H : Type) (enc : TypeId × Value → H) :
    ReturnsInHanded {} Try.checked os 4 .any (Rows.histNearSpec.pre6 enc Try.prog Try.f4 Rows.histNearRow.domain false) (Rows.histNearSpec.post enc Try.prog Try.f4 false true false false) := by
  refine returnsInHanded_of_change_sized (C := Try.checked) own started (by kernel_rfl) Try.func4
    (ChangeSpec.witness6 (enc := enc) (C := Try.checked) false ⟨#[], #[.int .u64 0, .int .u64 0], []⟩ 8 (by kernel_rfl) (by kernel_rfl) (by kernel_rfl) (by kernel_rfl)) ?_
  intro W base args ds gs before hval0 hW hcnd hsz0 _
  have hsz : (DataW.weightsEach Try.prog (Try.f4.params.toList ++ Rows.histNearSpec.plain.varTypes Try.prog) (ds ++ gs)).all (· ≤ reachBytes) = true := hsz0
  have hval : ∀ (j : Nat) t v, Try.f4.params[j]? = some t → args[j]? = some v → Value.okWide Try.prog W .any base t v := hval0
  have hW' := hW
  obtain ⟨p, q, hA0, hV, rfl, hfz, hnd⟩ := hW
  have hA : DataW.TrodAll enc Try.prog W 0 (fun _ => true) true Try.f4.params.toList args.toList ds p := hA0
  rw [Try.params4] at hA hval hsz
  obtain ⟨v0, vs0, d0, ds0, p0, q0, hargs, rfl, rfl, h0, r0⟩ := trodAll_cons hA
  obtain ⟨v1, vs1, d1, ds1, p1, q1, rfl, rfl, rfl, h1, r1⟩ := trodAll_cons r0
  obtain ⟨rfl, rfl, rfl⟩ := trodAll_nil r1
  obtain rfl : args = #[v0, v1] := by cases args; simp_all
  obtain ⟨rfl, rfl⟩ := trodVars_none hV
  obtain ⟨a0, rfl, rfl, rfl, w0⟩ := open_int Try.underlying22 (hval 0 22 v0 rfl rfl) h0
  obtain ⟨a1, rfl, rfl, rfl, w1⟩ := open_int Try.underlying22 (hval 1 22 v1 rfl rfl) h1
  clear hA0 hval0 hsz0 hsz
  refine (walk_near a0 a1 W w0 w1).mono fun e W' ⟨he, bel⟩ => ?_
  subst he
  exact ⟨_, rfl, _, _, _, [], _, [], hW', trodAll_mk1 (shut_bool Try.underlying4 _), (trodAll_cons_mk (shut_int Try.underlying22 w0) (trodAll_cons_mk (shut_int Try.underlying22 w1) trodAll_mk0)), rfl, bel.frame _, fun h => by cases h⟩

theorem proved : Rows.HistNearSaid :=
  OpenClaim.holds_of_wide 4 Try.f4 rfl rfl rfl rfl rfl rfl rfl ⟨rfl, rfl, rfl, rfl, rfl⟩ rfl rfl rfl rfl rfl (by kernel_rfl) Try.func4 (by kernel_rfl)
    (of_decide_eq_true (by kernel_rfl)) (by unfold Func.isWrapper; first | (rw [if_pos (by decide +kernel)]; kernel_rfl) | (rw [if_neg (by decide +kernel)]; exact ⟨rfl, rfl⟩))
    (fun os started H enc _ => lifted os started H enc)
end Go.Proofs.Ytjngpdhhkkambaa.histNear
