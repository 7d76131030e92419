/-
  A number added so often at once is the number added so often one by one; the count is told; the document's examples hold. The call returns true, and its arguments read as they did.
  Conditions: none: every value of the parameters' types.
-/
import Derived.Test.YtjngpdhhkkambabHistAi
import Derived.Test.YtjngpdhhkkambabPlace
import Derived.Deep.RegionWith
import Derived.Deep.DrawnRows
import Derived.ProofKit
import Derived.OpenShut
import Derived.ShutString
import Derived.ChangeOld
import Derived.SizedLaws
namespace Go.Proofs.Ytjngpdhhkkambab
open Go.RowKit

set_option maxHeartbeats 4000000 in
theorem walk_times (v n u : Int) (w : World) (hv : (Lit.int .u64 v).wf = true) (_hn : (Lit.int .i64 n).wf = true) (hu : (Lit.int .u64 u).wf = true) :
    Calls Try.prog 8 #[.int .u64 v, .int .i64 n, .int .u64 u] w fun e w' => e = .returned (.bool true) ∧ Below w.heap.size w w' := by
  have hv := u64_of_wf hv
  have hu := u64_of_wf hu
  have HV := hide hv
  have HU := hide hu
  have N := hide new_any
  have AW := hide awake_any
  have P := hide (fun w1 => place_any n 60 (by omega) (by omega) w1)
  have p1 := Int.emod_nonneg n (b := 60) (by omega)
  have p2 := Int.emod_lt_of_pos n (b := 60) (by omega)
  generalize n % 60 = k at *
  obtain ⟨k, rfl⟩ := Int.eq_ofNat_of_zero_le p1
  have hk : k < 60 := by omega
  clear hv hu _hn
  go_enter Try.func8, Try.ntmps8
  go_wp2_with fail
  refine (N.out _).mono ?_
  rintro e w1 ⟨rfl, h1, b1⟩
  have B1 := hide b1
  have H1 := hide h1
  clear h1 b1
  obtain ⟨ga, HGA⟩ : ∃ g, Hid (w.heap.size = g) := ⟨_, rfl⟩
  rw [HGA.out] at H1 ⊢
  go_wp2_with fail
  refine (N.out _).mono ?_
  rintro e w2 ⟨rfl, h2, b2⟩
  have B2 := hide (below_to B1.out b2 (Nat.le_refl _))
  have H2 := hide h2
  have H1b := hide (H1.out.below b2 H1.out.lt)
  obtain ⟨gb, HGB⟩ : ∃ g, Hid (w1.heap.size = g) := ⟨_, rfl⟩
  have HG : Hid (w.heap.size ≤ ga ∧ ga < gb) := ⟨by rw [HGA.out]; exact Nat.le_refl _, by rw [← HGB.out]; exact H1.out.lt⟩
  rw [HGB.out] at H2 ⊢
  clear h2 b2 B1 H1 HGA HGB
  go_wp2_with fail
  refine (P.out _).mono ?_
  rintro e w2' ⟨rfl, rfl⟩
  have A := hide (hadd_any ga H0 u 1 w2' HU.out ⟨by omega, by omega⟩ H1b.out)
  have E1 := hide (spS_addH H1b.out HU.out (n := 1) ⟨by omega, by omega⟩)
  go_wp2_with fail
  refine A.out.mono ?_
  rintro e w3 ⟨rfl, h3, c3⟩
  have B3 := hide (below_ch B2.out c3 (Nat.le_refl _) HG.out.1)
  have H3 := hide h3
  have H3b := hide (H2.out.other c3 (by have := HG.out; omega))
  clear A h3 c3 H1b H2 B2
  have A := hide (hadd_any gb H0 u 1 w3 HU.out ⟨by omega, by omega⟩ H3b.out)
  go_wp2_with fail
  refine A.out.mono ?_
  rintro e w4 ⟨rfl, h4, c4⟩
  have B4 := hide (below_ch B3.out c4 (Nat.le_refl _) (by have := HG.out; omega))
  have H4b := hide h4
  have H4 := hide (H3.out.other c4 (by have := HG.out; omega))
  clear A h4 c4 H3 H3b B3
  have A := hide (hadd_any ga _ v k w4 HV.out ⟨by omega, by omega⟩ H4.out)
  have E2 := hide (spS_addH H4.out HV.out (n := k) ⟨by omega, by omega⟩)
  go_wp2_with fail
  refine A.out.mono ?_
  rintro e w5 ⟨rfl, h5, c5⟩
  have B5 := hide (below_ch B4.out c5 (Nat.le_refl _) HG.out.1)
  have H5 := hide h5
  have H5b := hide (H4b.out.other c5 (by have := HG.out; omega))
  have EA : Hid (spS (addH (addH H0 u 1) v k) = seen (u :: List.replicate k v)) := by
    show _ = _
    rw [E2.out, E1.out, spS_H0]
    exact seen_times HV.out HU.out k (by omega)
  have EB : Hid (spS (addH H0 u 1) = seen (u :: List.replicate 0 v)) := by
    show _ = _
    rw [E1.out, spS_H0]
    rfl
  clear A h5 c5 H4 H4b B4 E1 E2
  generalize addH (addH H0 u 1) v k = HA at *
  generalize addH H0 u 1 = HB at *
  go_wp2
  go_loopw [10] (fun i wr => ∃ j : Nat, j ≤ k ∧ i = .int .i64 j ∧ Hid (HistAt wr ga HA ∧ Below w.heap.size w wr ∧ ∃ H, HistAt wr gb H ∧ spS H = seen (u :: List.replicate j v))) (fun i _ => k - (intOf i).toNat)
  case atStart => exact ⟨0, by omega, rfl, H5.out, B5.out, HB, H5b.out, EB.out⟩
  case round =>
    obtain ⟨j, hj, rfl, HT⟩ := hrel
    obtain ⟨t1, t2, H, t3, t4⟩ := HT.out
    have T1 := hide t1
    have T2 := hide t2
    have T3 := hide t3
    have T4 := hide t4
    clear t1 t2 t3 t4 HT
    by_cases hlt : j < k
    · have A := hide (hadd_any gb H v 1 wr HV.out ⟨by omega, by omega⟩ T3.out)
      have E := hide (spS_addH T3.out HV.out (n := 1) ⟨by omega, by omega⟩)
      go_wp2_with fail
      refine A.out.mono ?_
      rintro e w6 ⟨rfl, h6, c6⟩
      have HN : Hid (HistAt w6 ga HA ∧ Below w.heap.size w w6 ∧ ∃ H, HistAt w6 gb H ∧ spS H = seen (u :: List.replicate (j + 1) v)) := by
        refine ⟨T1.out.other c6 (by have := HG.out; omega), below_ch T2.out c6 (Nat.le_refl _) (by have := HG.out; omega), _, h6, ?_⟩
        rw [E.out, T4.out, ← seen_snoc, List.replicate_succ']
        rfl
      clear h6 c6 A E T1 T2 T3 T4
      go_wp2
      go_roundw
      case rel => exact ⟨j + 1, by omega, by go_num, HN⟩
      case measure => simp [intOf]; omega
    · have : j = k := by omega
      subst this
      have C := hide (hcount_any ga HA wr T1.out)
      have hw : WordsH (u :: List.replicate j v) := by
        intro x hx
        rcases List.mem_cons.1 hx with rfl | hx
        · exact HU.out
        · rw [(List.mem_replicate.1 hx).2]; exact HV.out
      have hcnt := (seen_count' hw (by simp; omega))
      rw [← EA.out] at hcnt
      have hce : countE (spS HA) = 0 := by unfold countE; rw [hcnt, if_neg (by simp; omega)]
      rw [hce, hcnt] at C
      have hl : (((u :: List.replicate j v).length : Nat) : Int) = (j : Int) + 1 := by simp
      rw [hl] at C
      clear hw hcnt hce hl
      go_wp2_with fail
      refine C.out.mono ?_
      rintro e w6 ⟨rfl, rfl⟩
      have BA := hide (hbuckets_any ga HA w6 T1.out)
      have GA := hide T1.out.good
      go_wp2_with fail
      refine BA.out.mono ?_
      rintro e w7 ⟨a7, c7, rfl, o7, b7⟩
      have R7 := hide (o7.goodrow GA.out)
      have B7 := hide (below_to T2.out b7 (Nat.le_refl _))
      have BB := hide (hbuckets_any gb H w7 (T3.out.below b7 T3.out.lt))
      have GB := hide T3.out.good
      clear BA C o7 b7 T2
      go_wp2_with fail
      refine BB.out.mono ?_
      rintro e w8 ⟨a8, c8, rfl, o8, b8⟩
      have R8 := hide (o8.goodrow GB.out)
      have B8 := hide (below_to B7.out b8 (Nat.le_refl _))
      have SM := hide (samebks_any a7 _ c7 _ a8 _ c8 _ w8 (R7.out.below b8 (Nat.le_refl _)) R8.out)
      rw [show decide (spS HA = spS H) = true by rw [EA.out, T4.out]; simp] at SM
      clear BB o8 b8 B7 R7 R8
      have t1 : ((j : Int) + 1 == (j : Int) + 1) = true := by simp
      go_wp2_with fail
      refine SM.out.mono ?_
      rintro e w9 ⟨rfl, b9⟩
      have B9 := hide (below_to B8.out b9 (Nat.le_refl _))
      clear b9 B8 SM
      go_wp2_with fail
      refine (AW.out _).mono ?_
      rintro e w10 ⟨rfl, b10⟩
      have B10 := hide (below_to B9.out b10 (Nat.le_refl _))
      clear b10 B9
      go_wp2
      go_ret
      exact ⟨rfl, B10.out⟩
end Go.Proofs.Ytjngpdhhkkambab

namespace Go.Proofs.Ytjngpdhhkkambab.histTimes
open Go.ChangeShapes Go.WideShapes Go.ChangeAt Go.RowKit
open Go.ChangeMaps (open_string shut_string)
set_option linter.unusedVariables false

theorem own : ownKnob Try.prog.godebug = none := by kernel_rfl

set_option maxRecDepth 100000 in
theorem lifted (os : Os) (started : os.Started) (H : Type) (enc : TypeId × Value → H) :
    ReturnsInHanded {} Try.checked os 8 .any (Rows.histTimesSpec.pre6 enc Try.prog Try.f8 Rows.histTimesRow.domain false) (Rows.histTimesSpec.post enc Try.prog Try.f8 false true false false) := by
  refine returnsInHanded_of_change_sized (C := Try.checked) own started (by kernel_rfl) Try.func8
    (ChangeSpec.witness6 (enc := enc) (C := Try.checked) false ⟨#[], #[.int .u64 0, .int .i64 0, .int .u64 0], []⟩ 8 (by kernel_rfl) (by kernel_rfl) (by kernel_rfl) (by kernel_rfl)) ?_
  intro W base args ds gs before hval0 hW hcnd hsz0 _
  have hsz : (DataW.weightsEach Try.prog (Try.f8.params.toList ++ Rows.histTimesSpec.plain.varTypes Try.prog) (ds ++ gs)).all (· ≤ reachBytes) = true := hsz0
  have hval : ∀ (j : Nat) t v, Try.f8.params[j]? = some t → args[j]? = some v → Value.okWide Try.prog W .any base t v := hval0
  have hW' := hW
  obtain ⟨p, q, hA0, hV, rfl, hfz, hnd⟩ := hW
  have hA : DataW.TrodAll enc Try.prog W 0 (fun _ => true) true Try.f8.params.toList args.toList ds p := hA0
  rw [Try.params8] at hA hval hsz
  obtain ⟨v0, vs0, d0, ds0, p0, q0, hargs, rfl, rfl, h0, r0⟩ := trodAll_cons hA
  obtain ⟨v1, vs1, d1, ds1, p1, q1, rfl, rfl, rfl, h1, r1⟩ := trodAll_cons r0
  obtain ⟨v2, vs2, d2, ds2, p2, q2, rfl, rfl, rfl, h2, r2⟩ := trodAll_cons r1
  obtain ⟨rfl, rfl, rfl⟩ := trodAll_nil r2
  obtain rfl : args = #[v0, v1, v2] := by cases args; simp_all
  obtain ⟨rfl, rfl⟩ := trodVars_none hV
  obtain ⟨a0, rfl, rfl, rfl, w0⟩ := open_int Try.underlying39 (hval 0 39 v0 rfl rfl) h0
  obtain ⟨a1, rfl, rfl, rfl, w1⟩ := open_int Try.underlying3 (hval 1 3 v1 rfl rfl) h1
  obtain ⟨a2, rfl, rfl, rfl, w2⟩ := open_int Try.underlying39 (hval 2 39 v2 rfl rfl) h2
  clear hA0 hval0 hsz0 hsz
  refine (walk_times a0 a1 a2 W w0 w1 w2).mono fun e W' ⟨he, bel⟩ => ?_
  subst he
  exact ⟨_, rfl, _, _, _, [], _, [], hW', trodAll_mk1 (shut_bool Try.underlying4 _), (trodAll_cons_mk (shut_int Try.underlying39 w0) (trodAll_cons_mk (shut_int Try.underlying3 w1) (trodAll_cons_mk (shut_int Try.underlying39 w2) trodAll_mk0))), rfl, bel.frame _, fun h => by cases h⟩

theorem proved : Rows.HistTimesSaid :=
  OpenClaim.holds_of_wide 8 Try.f8 rfl rfl rfl rfl rfl rfl rfl ⟨rfl, rfl, rfl, rfl, rfl⟩ rfl rfl rfl rfl rfl (by kernel_rfl) Try.func8 (by kernel_rfl)
    (of_decide_eq_true (by kernel_rfl)) (by unfold Func.isWrapper; first | (rw [if_pos (by decide +kernel)]; kernel_rfl) | (rw [if_neg (by decide +kernel)]; exact ⟨rfl, rfl⟩))
    (fun os started H enc _ => lifted os started H enc)
end Go.Proofs.Ytjngpdhhkkambab.histTimes
