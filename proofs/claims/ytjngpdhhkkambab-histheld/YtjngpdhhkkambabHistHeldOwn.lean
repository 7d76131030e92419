/-
  Counts are held at the greatest number: then there is no count, and no quantile; below it the count is the sum; the document's examples hold. The call returns true, and its arguments read as they did.
  Conditions: none: every value of the parameters' types.
-/
import Derived.Test.YtjngpdhhkkambabHistAi
import Derived.Deep.RegionWith
import Derived.Deep.DrawnRows
import Derived.ProofKit
import Derived.OpenShut
import Derived.ShutString
import Derived.ChangeOld
import Derived.SizedLaws
namespace Go.Proofs.Ytjngpdhhkkambab
open Go.RowKit

set_option maxHeartbeats 4000000 in
theorem walk_held (v n u m : Int) (w : World) (hv : (Lit.int .u64 v).wf = true) (hn : (Lit.int .u64 n).wf = true) (hu : (Lit.int .u64 u).wf = true) (hm : (Lit.int .u64 m).wf = true) :
    Calls Try.prog 5 #[.int .u64 v, .int .u64 n, .int .u64 u, .int .u64 m] w fun e w' => e = .returned (.bool true) ∧ Below w.heap.size w w' := by
  have hv := u64_of_wf hv
  have hn := u64_of_wf hn
  have hu := u64_of_wf hu
  have hm := u64_of_wf hm
  have N := hide (new_any w)
  have AW := hide awake_any
  have HV := hide hv
  have HU := hide hu
  have HNW := hide hn
  have HMW := hide hm
  obtain ⟨n0, n1⟩ := hn
  obtain ⟨m0, m1⟩ := hm
  clear hv hu
  go_enter Try.func5, Try.ntmps5
  go_wp2_with fail
  refine N.out.mono ?_
  rintro e w1 ⟨rfl, h1, b1⟩
  have B1 := hide b1
  have A1 := hide (hadd_any w.heap.size H0 v n w1 HV.out HNW.out h1)
  have E1 := hide (spS_addH h1 HV.out HNW.out)
  clear h1 b1 N
  go_wp2_with fail
  refine A1.out.mono ?_
  rintro e w2 ⟨rfl, h2, c2⟩
  have B2 : Hid (Below w.heap.size w w2) := below_ch B1.out c2 (Nat.le_refl _) (Nat.le_refl _)
  have A2 := hide (hadd_any w.heap.size _ u m w2 HU.out HMW.out h2)
  have E2 := hide (spS_addH h2 HU.out HMW.out)
  clear h2 c2 A1 B1
  go_wp2_with fail
  refine A2.out.mono ?_
  rintro e w3 ⟨rfl, h3, c3⟩
  have B3 : Hid (Below w.heap.size w w3) := below_ch B2.out c3 (Nat.le_refl _) (Nat.le_refl _)
  have G := hide h3.good
  have EC : Hid (countS (spS (addH (addH H0 v n) u m)) = satS n m) := by
    show _ = _
    have g1 : Good (addN [] (bucketS v) n) := by
      obtain ⟨b0, b1⟩ := bucketS_range HV.out.1 HV.out.2
      exact Good.nil.add b0 b1 HNW.out
    rw [E2.out, E1.out, spS_H0]
    unfold countS
    rw [addN_count HMW.out.1 g1.words, addN_count HNW.out.1 Good.nil.words]
    show satS (satS 0 n) m = _
    rw [zero_satS HNW.out.2]
  have C := hide (hcount_any w.heap.size _ w3 h3)
  have RK := hide (fun W (b : Below w3.heap.size w3 W) => hrank_any w.heap.size _ 18446744073709551615 W (h3.below b h3.lt) ⟨by omega, by omega⟩)
  have Q := hide (hquant_any w.heap.size _ 1 2 w3 h3 ⟨by omega, by omega⟩ ⟨by omega, by omega⟩)
  have ER := hide (rank_top G.out)
  rw [ER.out, EC.out] at RK
  have HQ : Hid (satS n m = 18446744073709551615 → quantS (spS (addH (addH H0 v n) u m)) 1 2 = (0, 11)) := fun h => by
    unfold quantS
    rw [if_neg (by omega), if_pos (by rw [EC.out]; exact h)]
  have HE : Hid (countE (spS (addH (addH H0 v n) u m)) = if satS n m = 18446744073709551615 then 11 else 0) := by show _ = _; unfold countE; rw [EC.out]
  rw [EC.out] at C
  have HD : Hid (satS n m = if n + m < 18446744073709551616 then n + m else 18446744073709551615) := rfl
  clear h3 c3 A2 B2 E1 E2 G ER EC
  generalize spS (addH (addH H0 v n) u m) = L at *
  generalize countE L = CE at *
  generalize satS n m = S at *
  by_cases hs : 18446744073709551615 - m ≤ n
  · have hS : S = 18446744073709551615 := by rw [HD.out]; split <;> omega
    have hq := HQ.out hS
    rw [hq] at Q
    have hCE : CE = 11 := by rw [HE.out, if_pos hS]
    subst hS hCE
    clear hq HQ HE HD
    go_wp2_with fail
    refine C.out.mono ?_
    rintro e w4 ⟨rfl, rfl⟩
    clear C
    go_wp2_with fail
    refine Q.out.mono ?_
    rintro e w5 ⟨rfl, b5⟩
    have R5 := hide (RK.out w5 b5)
    have B5 := hide (below_to B3.out b5 (Nat.le_refl _))
    clear b5 RK Q B3
    go_wp2_with fail
    refine R5.out.mono ?_
    rintro e w6 ⟨rfl, q, rfl⟩
    have B6 := hide (bel_drewN B5.out q)
    clear B5 R5
    generalize w5.drewN q = w6 at *
    go_wp2_with fail
    refine (AW.out _).mono ?_
    rintro e w7 ⟨rfl, b7⟩
    have B7 := hide (below_to B6.out b7 (Nat.le_refl _))
    clear b7 B6
    go_wp2
    go_ret
    exact ⟨rfl, B7.out⟩
  · have hS : S = n + m := by rw [HD.out]; split <;> omega
    have hCE : CE = 0 := by rw [HE.out, if_neg (by omega)]
    subst hS hCE
    have t1 : (n + m == n + m) = true := by simp
    have t2 : n + m < 18446744073709551616 := by omega
    have R5 := hide (RK.out w3 (Below.refl _ _))
    clear HQ HE HD Q RK
    go_wp2_with fail
    refine C.out.mono ?_
    rintro e w4 ⟨rfl, rfl⟩
    clear C
    go_wp2_with fail
    refine R5.out.mono ?_
    rintro e w6 ⟨rfl, q, rfl⟩
    have B6 := hide (bel_drewN B3.out q)
    clear B3 R5
    generalize w4.drewN q = w6 at *
    go_wp2_with fail
    refine (AW.out _).mono ?_
    rintro e w7 ⟨rfl, b7⟩
    have B7 := hide (below_to B6.out b7 (Nat.le_refl _))
    clear b7 B6
    go_wp2
    go_ret
    exact ⟨rfl, B7.out⟩
end Go.Proofs.Ytjngpdhhkkambab

namespace Go.Proofs.Ytjngpdhhkkambab.histHeld
open Go.ChangeShapes Go.WideShapes Go.ChangeAt Go.RowKit
open Go.ChangeMaps (open_string shut_string)
set_option linter.unusedVariables false

theorem own : ownKnob Try.prog.godebug = none := by kernel_rfl

set_option maxRecDepth 100000 in
theorem lifted (os : Os) (started : os.Started) (H : Type) (enc : TypeId × Value → H) :
    ReturnsInHanded {} Try.checked os 5 .any (Rows.histHeldSpec.pre6 enc Try.prog Try.f5 Rows.histHeldRow.domain false) (Rows.histHeldSpec.post enc Try.prog Try.f5 false true false false) := by
  refine returnsInHanded_of_change_sized (C := Try.checked) own started (by kernel_rfl) Try.func5
    (ChangeSpec.witness6 (enc := enc) (C := Try.checked) false ⟨#[], #[.int .u64 0, .int .u64 0, .int .u64 0, .int .u64 0], []⟩ 8 (by kernel_rfl) (by kernel_rfl) (by kernel_rfl) (by kernel_rfl)) ?_
  intro W base args ds gs before hval0 hW hcnd hsz0 _
  have hsz : (DataW.weightsEach Try.prog (Try.f5.params.toList ++ Rows.histHeldSpec.plain.varTypes Try.prog) (ds ++ gs)).all (· ≤ reachBytes) = true := hsz0
  have hval : ∀ (j : Nat) t v, Try.f5.params[j]? = some t → args[j]? = some v → Value.okWide Try.prog W .any base t v := hval0
  have hW' := hW
  obtain ⟨p, q, hA0, hV, rfl, hfz, hnd⟩ := hW
  have hA : DataW.TrodAll enc Try.prog W 0 (fun _ => true) true Try.f5.params.toList args.toList ds p := hA0
  rw [Try.params5] at hA hval hsz
  obtain ⟨v0, vs0, d0, ds0, p0, q0, hargs, rfl, rfl, h0, r0⟩ := trodAll_cons hA
  obtain ⟨v1, vs1, d1, ds1, p1, q1, rfl, rfl, rfl, h1, r1⟩ := trodAll_cons r0
  obtain ⟨v2, vs2, d2, ds2, p2, q2, rfl, rfl, rfl, h2, r2⟩ := trodAll_cons r1
  obtain ⟨v3, vs3, d3, ds3, p3, q3, rfl, rfl, rfl, h3, r3⟩ := trodAll_cons r2
  obtain ⟨rfl, rfl, rfl⟩ := trodAll_nil r3
  obtain rfl : args = #[v0, v1, v2, v3] := by cases args; simp_all
  obtain ⟨rfl, rfl⟩ := trodVars_none hV
  obtain ⟨a0, rfl, rfl, rfl, w0⟩ := open_int Try.underlying39 (hval 0 39 v0 rfl rfl) h0
  obtain ⟨a1, rfl, rfl, rfl, w1⟩ := open_int Try.underlying39 (hval 1 39 v1 rfl rfl) h1
  obtain ⟨a2, rfl, rfl, rfl, w2⟩ := open_int Try.underlying39 (hval 2 39 v2 rfl rfl) h2
  obtain ⟨a3, rfl, rfl, rfl, w3⟩ := open_int Try.underlying39 (hval 3 39 v3 rfl rfl) h3
  clear hA0 hval0 hsz0 hsz
  refine (walk_held a0 a1 a2 a3 W w0 w1 w2 w3).mono fun e W' ⟨he, bel⟩ => ?_
  subst he
  exact ⟨_, rfl, _, _, _, [], _, [], hW', trodAll_mk1 (shut_bool Try.underlying4 _), (trodAll_cons_mk (shut_int Try.underlying39 w0) (trodAll_cons_mk (shut_int Try.underlying39 w1) (trodAll_cons_mk (shut_int Try.underlying39 w2) (trodAll_cons_mk (shut_int Try.underlying39 w3) trodAll_mk0)))), rfl, bel.frame _, fun h => by cases h⟩

theorem proved : Rows.HistHeldSaid :=
  OpenClaim.holds_of_wide 5 Try.f5 rfl rfl rfl rfl rfl rfl rfl ⟨rfl, rfl, rfl, rfl, rfl⟩ rfl rfl rfl rfl rfl (by kernel_rfl) Try.func5 (by kernel_rfl)
    (of_decide_eq_true (by kernel_rfl)) (by unfold Func.isWrapper; first | (rw [if_pos (by decide +kernel)]; kernel_rfl) | (rw [if_neg (by decide +kernel)]; exact ⟨rfl, rfl⟩))
    (fun os started H enc _ => lifted os started H enc)
end Go.Proofs.Ytjngpdhhkkambab.histHeld
