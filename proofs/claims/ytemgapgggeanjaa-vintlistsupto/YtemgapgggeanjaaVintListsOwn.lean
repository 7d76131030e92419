/-
  A list that rises comes back, whatever stands around it; one that does not never comes; the document's examples hold. The call returns true, and its arguments read as they did.
  Conditions: the input is of bulk at most 1048576 (the second form).
-/
import Derived.Test.YtemgapgggeanjaaVintE
import Derived.Test.YtemgapgggeanjaaVintF
import Derived.Test.YtemgapgggeanjaaVintN
import Derived.Test.YtemgapgggeanjaaVintS
import Derived.Test.YtemgapgggeanjaaVintU
import Derived.Test.YtemgapgggeanjaaVintV
import Derived.Test.YtemgapgggeanjaaVintW
import Derived.Deep.CondSized
import Derived.ProofKit
import Derived.OpenShut
import Derived.ShutString
import Derived.ChangeOld
import Derived.SizedLaws
namespace Go.Proofs.Ytemgapgggeanjaa
open Go.RowKit

theorem putR_len (l : List Int) : (putR l).length ≤ 10 * l.length + 10 := by
  have h1 := (putS_len (l.length : Int)).2
  have h2 := (riseB_len 18446744073709551615 l).2
  unfold putR
  rw [List.length_append]; omega

set_option maxRecDepth 100000 in
set_option maxHeartbeats 4000000 in
theorem walk_lists (al : Option Addr) (nl cl : Nat) (zl : List Int) (ab : Option Addr) (nb cb : Nat) (zb : List Int) (am : Option Addr) (nm cm : Nat) (zm : List Int) (w : World)
    (w0 : IsRow .u64 w al nl cl zl) (b0 : cl ≤ 1048576) (w1 : IsRow .u8 w ab nb cb zb) (b1 : cb ≤ 1048576) (w2 : IsRow .u8 w am nm cm zm) (b2 : cm ≤ 1048576) :
    Calls Try.prog 8 #[.slice al nl cl, .slice ab nb cb, .slice am nm cm] w fun e w' => e = .returned (.bool true) ∧ Below w.heap.size w w' := by
  obtain ⟨hl1, _, hl3, rl⟩ := row_of w0
  obtain ⟨hb1, _, hb3, rb⟩ := row_of w1
  obtain ⟨hm1, _, hm3, rm⟩ := row_of w2
  clear w0 w1 w2
  generalize zl.take nl = ls at *
  generalize zb.take nb = bs at *
  generalize zm.take nm = ms at *
  have C1 := hide (bytes_any ab nb cb bs w rb hb3 (by omega))
  have LL := hide rl.1
  have LB := hide rb.1
  have LM := hide rm.1
  have WL := hide rl.words
  have BB := hide rb.bytes
  have BM := hide rm.bytes
  have RL := hide rl
  have RM := hide rm
  have HP := hide (putR_len ls)
  obtain ⟨i0, hi, hz0, hz1, hz2⟩ := info_parts Try.info5
  clear rl rb rm hb3
  go_enter Try.func8, Try.ntmps8
  go_wp2_with fail
  refine C1.out.mono ?_
  rintro e w1 ⟨a1, c1, rfl, o1, k1⟩
  have R1 := hide (o1.row (by omega) (fits_wf BB.out))
  have cap1 := o1.capped.1
  have C2 := hide (nums_any al nl cl ls w1 (RL.out.below k1 (Nat.le_refl _)) hl3 (by omega))
  have K1 := hide k1
  clear o1 k1 C1 hl3
  go_wp2_with fail
  refine C2.out.mono ?_
  rintro e w2 ⟨a2, c2, rfl, o2, k2⟩
  have R2 := hide (o2.row (by omega) (words_wf WL.out))
  have R1' := hide (R1.out.below k2 (Nat.le_refl _))
  have K2 : Hid (Below w.heap.size w w2) := bel_to K1.out (Nat.le_refl _) k2
  clear o2 k2 C2 R1 K1
  have C3 := hide (putrise_any a1 nb c1 bs a2 nl c2 ls w2 (by omega) cap1 R1'.out R2.out)
  clear R1' R2
  go_wp2_with fail
  refine C3.out.mono ?_
  rintro e w3 ⟨a3, c3, rfl, o3, k3⟩
  have RM' := hide ((RM.out.below K2.out (Nat.le_refl _)).below k3 (Nat.le_refl _))
  have hk3 : w2.heap.size ≤ w3.heap.size := k3.size
  have K3 : Hid (Below w.heap.size w w3) := bel_to K2.out (Nat.le_refl _) k3
  have O3 := hide o3
  have hPL := HP.out
  rw [LL.out] at hPL
  clear o3 k3 C3
  go_wp2_with (at_builtin; refine wpList_append_row _ rfl _ _ 23 rfl w2.heap.size 5 i0 Try.underlying23 hi hz0 hz1 hz2 a3 _ c3 _ rfl O3.out am nm cm ms rfl RM'.out hm3 (by omega) hk3 ?_)
  intro a4 c4 w4 o4 k4
  have K4 : Hid (Below w.heap.size w w4) := K3.out.trans (k4.mono K2.out.size)
  have hBX : Hid (Bytes8 (bs ++ (putR ls ++ ms))) := Bytes8.append BB.out (Bytes8.append (putR_byte (by rw [LL.out]; omega)) BM.out)
  have R4 : Hid (Row .u8 w4 a4 (nb + (putR ls).length + nm) (bs ++ (putR ls ++ ms))) := by
    exact o4.row (by omega) (fits_wf hBX.out)
  have cap4 := o4.capped.1
  clear o4 k4 O3 RM' RM K3 K2 hk3
  have C5 := hide (getrise_var (nb : Int) (nl : Int) a4 _ c4 _ w4 (i64_wf (by omega) (by omega)) (i64_wf (by omega) (by omega)) cap4 R4.out (Or.inl (by omega)))
  generalize hX : nb + (putR ls).length + nm = X at *
  have HX := hide hX
  clear hX
  go_wp2_with fail
  refine C5.out.mono ?_
  rintro e w5 ⟨a5, m5, c5, x5, ok5, rfl, k5, hg⟩
  have K5 : Hid (Below w.heap.size w w5) := bel_to K4.out (Nat.le_refl _) k5
  have RL5 := hide (RL.out.below K5.out (Nat.le_refl _))
  have HG := hide hg
  clear hg k5 C5 K4 RL hi hz0 hz1 hz2
  have hX2 : X ≤ 20000000 := by rw [← HX.out]; omega
  go_wp2
  go_loopw [11, 12] (fun r i wr => ∃ (j : Nat) (rv : Bool), i = .int .i64 ((j : Int) + 1) ∧ r = .bool rv ∧ (j = 0 ∨ j + 1 ≤ nl) ∧ Hid (rv = true ↔ RisesTo ls (j + 1)) ∧ Hid (Below w5.heap.size w5 wr)) (fun _ i _ => nl + 1 - (intOf i).toNat)
  case atStart => exact ⟨0, true, rfl, rfl, Or.inl rfl, ⟨fun _ => risesTo_one ls, fun _ => rfl⟩, Below.refl _ _⟩
  case round =>
    obtain ⟨j, rv, rfl, rfl, hj, HV, HW⟩ := hrel
    by_cases hlt : j + 1 < nl
    · have q := RL5.out.below HW.out (Nat.le_refl _)
      obtain ⟨_, _, _, h | ⟨xb, xo, rfl, hcell⟩⟩ := q
      · omega
      have g0 := hcell j (by omega)
      have g1 := hcell (j + 1) (by omega)
      have HS := hide (risesTo_succ (l := ls) (k := j))
      have i1 : (0 : Int) ≤ (j : Int) := by omega
      have i2 : (j : Int) < (nl : Int) := by omega
      have i3 : (j : Int) + 1 < (nl : Int) := by omega
      clear hcell
      generalize ls.getD j 0 = p at *
      generalize ls.getD (j + 1) 0 = q at *
      cases rv
      · have HV2 : Hid ((false = true) ↔ RisesTo ls (j + 1 + 1)) := by
          refine ⟨fun h => by simp at h, fun h => ?_⟩
          exact HV.out.2 (HS.out.1 h).1
        clear g0 g1
        go_wp2
        go_region
        go_wp2
        go_roundw
        case rel => exact ⟨j + 1, false, by go_num, rfl, Or.inr (by omega), HV2, HW.out.drew⟩
        case measure => simp [intOf]; omega
      · have HV2 : Hid ((decide (p < q) = true) ↔ RisesTo ls (j + 1 + 1)) := by
          rw [HS.out]
          simp only [decide_eq_true_eq]
          exact ⟨fun h => ⟨HV.out.1 rfl, h⟩, fun h => h.2⟩
        go_wp2
        go_region
        go_wp2
        go_roundw
        case rel => exact ⟨j + 1, decide (p < q), by go_num, rfl, Or.inr (by omega), HV2, HW.out.drew⟩
        case measure => simp [intOf]; omega
    · have HI : Hid (Rises (-1) ls ↔ RisesTo ls (j + 1)) := rises_iff WL.out (j + 1) (by rw [LL.out]; omega) (by rw [LL.out]; omega)
      have K6 : Hid (Below w.heap.size w wr) := bel_to K5.out (Nat.le_refl _) HW.out
      have RL6 := hide (RL5.out.below HW.out (Nat.le_refl _))
      cases rv
      · have hnr : Hid (¬ Rises (-1) ls) := fun h => by simpa using HV.out.2 (HI.out.1 h)
        rcases HG.out with ⟨rfl, l5, hl5, hg, hm5⟩ | ⟨rfl, e1, e2, hg⟩
        · have hb := riseS_back hBX.out hg
          have hne : Hid (decide (l5 = ls) = false) := by
            show _ = _
            simp only [decide_eq_false_iff_not]
            rintro rfl
            exact hnr.out hb.1
          have hl5s : l5.length ≤ nl := by have := hb.2.2.1; omega
          have R5 := hide ((hm5.row (by omega) (words_wf hb.2.1)).below HW.out (Nat.le_refl _))
          have S := hide (same_any a5 m5 c5 l5 al nl cl ls wr R5.out RL6.out)
          rw [hne.out] at S
          clear hb hg hm5 hl5 hl5s
          go_wp2_with fail
          refine S.out.mono ?_
          rintro e w7 ⟨rfl, k7⟩
          go_wp2_with fail
          refine (awake_any _).mono ?_
          rintro e w8 ⟨rfl, k8⟩
          go_wp2
          go_ret
          exact ⟨rfl, bel_to (bel_to K6.out (Nat.le_refl _) k7) (Nat.le_refl _) k8⟩
        · clear e1 e2 hg
          go_wp2_with fail
          refine (awake_any _).mono ?_
          rintro e w8 ⟨rfl, k8⟩
          go_wp2
          go_ret
          exact ⟨rfl, bel_to K6.out (Nat.le_refl _) k8⟩
      · have hri : Rises (-1) ls := HI.out.2 (HV.out.1 rfl)
        have hat := riseS_at (by rw [LL.out]; omega) hri WL.out bs ms
        rw [LL.out, LB.out] at hat
        rcases HG.out with ⟨rfl, l5, hl5, hg, hm5⟩ | ⟨rfl, e1, e2, hg⟩
        · rw [hat] at hg
          simp only [Option.some.injEq, Prod.mk.injEq] at hg
          obtain ⟨rfl, hx⟩ := hg
          have R5 := hide ((hm5.row (by rw [hl5, LL.out]; omega) (words_wf WL.out)).below HW.out (Nat.le_refl _))
          have S := hide (same_any a5 m5 c5 ls al nl cl ls wr R5.out RL6.out)
          have hd : decide (ls = ls) = true := by simp
          rw [hd] at S
          have hXe := HX.out
          have hx5 : x5 = (X : Int) - (nm : Int) := by omega
          have tx : (x5 == (X : Int) - (nm : Int)) = true := by simp [hx5]
          clear hx hm5 hl5 hat hri hXe hx5 hd
          go_wp2_with fail
          refine S.out.mono ?_
          rintro e w7 ⟨rfl, k7⟩
          go_wp2_with fail
          refine (awake_any _).mono ?_
          rintro e w8 ⟨rfl, k8⟩
          go_wp2
          go_ret
          exact ⟨rfl, bel_to (bel_to K6.out (Nat.le_refl _) k7) (Nat.le_refl _) k8⟩
        · rw [hat] at hg
          simp at hg
end Go.Proofs.Ytemgapgggeanjaa

namespace Go.Proofs.Ytemgapgggeanjaa.vintLists
open Go.ChangeShapes Go.WideShapes Go.ChangeAt Go.RowKit
open Go.ChangeMaps (open_string shut_string)
set_option linter.unusedVariables false

theorem own : ownKnob Try.prog.godebug = none := by kernel_rfl
theorem laidOut : laidOutB Try.prog = true := by kernel_rfl

set_option maxRecDepth 100000 in
theorem lifted (os : Os) (started : os.Started) (H : Type) (enc : TypeId × Value → H) (F : Stop.Interp) :
    ReturnsInHanded {} Try.checked os 8 .any ((Rows.OpenSpec.upto Rows.vintListsSpec).pre6 enc Try.prog Try.f8 Rows.vintListsUptoRow.domain false) (((Rows.OpenSpec.upto Rows.vintListsSpec).at F).post enc Try.prog Try.f8 false true false false) := by
  refine returnsInHanded_of_cond_sized (C := Try.checked) (s := Rows.OpenSpec.upto Rows.vintListsSpec) (k := Rows.uptoSmall) rfl own started (by kernel_rfl) Try.func8
    (OpenSpec.witness (enc := enc) (C := Try.checked) (s := Rows.OpenSpec.upto Rows.vintListsSpec) (k := Rows.uptoSmall) rfl false ⟨#[], #[.slice none 0 0, .slice none 0 0, .slice none 0 0], []⟩ 8 (by kernel_rfl) (by kernel_rfl) (by kernel_rfl)
      (x := ([.nil, .nil, .nil], [], [])) (by kernel_rfl) rfl (by kernel_rfl)) ?_
  intro W base args ds gs before hval0 hW _ hk0 hsz0 _
  have hk : Rows.uptoSmall H (ds ++ gs) = true := hk0
  have hsz : (DataW.weightsEach Try.prog (Try.f8.params.toList ++ Rows.vintListsSpec.plain.varTypes Try.prog) (ds ++ gs)).all (· ≤ reachBytes) = true := hsz0
  have hval : ∀ (j : Nat) t v, Try.f8.params[j]? = some t → args[j]? = some v → Value.okWide Try.prog W .any base t v := hval0
  have hW' := hW
  obtain ⟨p, q, hA0, hV, rfl, hfz, hnd⟩ := hW
  have hA : DataW.TrodAll enc Try.prog W 0 (fun _ => true) true Try.f8.params.toList args.toList ds p := hA0
  rw [Try.params8] at hA hval hsz
  obtain ⟨v0, vs0, d0, ds0, p0, q0, hargs, rfl, rfl, h0, r0⟩ := trodAll_cons hA
  obtain ⟨v1, vs1, d1, ds1, p1, q1, rfl, rfl, rfl, h1, r1⟩ := trodAll_cons r0
  obtain ⟨v2, vs2, d2, ds2, p2, q2, rfl, rfl, rfl, h2, r2⟩ := trodAll_cons r1
  obtain ⟨rfl, rfl, rfl⟩ := trodAll_nil r2
  obtain rfl : args = #[v0, v1, v2] := by cases args; simp_all
  obtain ⟨rfl, rfl⟩ := trodVars_none hV
  obtain ⟨a0, len0, cap0, rfl⟩ := okWide_slice Try.underlying47 (hval 0 47 v0 rfl rfl)
  have k0 := h0
  have lt0 : ∀ x ∈ p0, x.block < W.heap.size := by obtain ⟨m, hm⟩ := k0; exact DataW.trod_lt m _ _ _ hm
  obtain ⟨z0, w0, b0⟩ : ∃ zs, IsRow .u64 W a0 len0 cap0 zs ∧ cap0 ≤ 1048576 := by
    obtain ⟨fuel, hf⟩ := h0
    rcases open_ints Try.underlying47 Try.underlying22 (by kernel_rfl) hf with ⟨hcs, _⟩ | ⟨x, l, c, zs, hcs, _, hl, hm, hz, hx, hcell, hwz⟩
    · simp [Value.cells] at hcs
      obtain ⟨rfl, rfl, rfl⟩ := hcs
      exact ⟨[], ⟨by decide, .inl ⟨rfl, rfl, rfl, rfl⟩⟩, by decide⟩
    · simp [Value.cells] at hcs
      obtain ⟨rfl, rfl, rfl⟩ := hcs
      have hd := congrArg Prod.fst hx
      simp only at hd
      have hs := sized_slice hsz (j := 0) (t := 47) (e := 22) rfl (by rw [hd]; rfl) Try.underlying47
      rw [show Try.prog.bytesOf 22 = 8 from by kernel_rfl] at hs
      simp only [lits, List.length_map, List.length_take, List.length_drop, reachBytes] at hs
      have hzc : zs.length = cap0 := by simpa using hz
      have hs2 := small_slice hk (j := 0) (by rw [hd]; rfl)
      simp only [lits, List.length_map, List.length_take, List.length_drop] at hs2
      exact ⟨zs, ⟨by show cap0 * 8 ≤ _; omega, .inr ⟨_, rfl, hl, hm, hzc, hcell, hwz⟩⟩, by omega⟩
  obtain ⟨a1, len1, cap1, rfl⟩ := okWide_slice Try.underlying23 (hval 1 23 v1 rfl rfl)
  have k1 := h1
  have lt1 : ∀ x ∈ p1, x.block < W.heap.size := by obtain ⟨m, hm⟩ := k1; exact DataW.trod_lt m _ _ _ hm
  obtain ⟨z1, w1, b1⟩ : ∃ zs, IsRow .u8 W a1 len1 cap1 zs ∧ cap1 ≤ 1048576 := by
    obtain ⟨fuel, hf⟩ := h1
    rcases open_ints Try.underlying23 Try.underlying5 (by kernel_rfl) hf with ⟨hcs, _⟩ | ⟨x, l, c, zs, hcs, _, hl, hm, hz, hx, hcell, hwz⟩
    · simp [Value.cells] at hcs
      obtain ⟨rfl, rfl, rfl⟩ := hcs
      exact ⟨[], ⟨by decide, .inl ⟨rfl, rfl, rfl, rfl⟩⟩, by decide⟩
    · simp [Value.cells] at hcs
      obtain ⟨rfl, rfl, rfl⟩ := hcs
      have hd := congrArg Prod.fst hx
      simp only at hd
      have hs := sized_slice hsz (j := 1) (t := 23) (e := 5) rfl (by rw [hd]; rfl) Try.underlying23
      rw [show Try.prog.bytesOf 5 = 1 from by kernel_rfl] at hs
      simp only [lits, List.length_map, List.length_take, List.length_drop, reachBytes] at hs
      have hzc : zs.length = cap1 := by simpa using hz
      have hs2 := small_slice hk (j := 1) (by rw [hd]; rfl)
      simp only [lits, List.length_map, List.length_take, List.length_drop] at hs2
      exact ⟨zs, ⟨by show cap1 * 1 ≤ _; omega, .inr ⟨_, rfl, hl, hm, hzc, hcell, hwz⟩⟩, by omega⟩
  obtain ⟨a2, len2, cap2, rfl⟩ := okWide_slice Try.underlying23 (hval 2 23 v2 rfl rfl)
  have k2 := h2
  have lt2 : ∀ x ∈ p2, x.block < W.heap.size := by obtain ⟨m, hm⟩ := k2; exact DataW.trod_lt m _ _ _ hm
  obtain ⟨z2, w2, b2⟩ : ∃ zs, IsRow .u8 W a2 len2 cap2 zs ∧ cap2 ≤ 1048576 := by
    obtain ⟨fuel, hf⟩ := h2
    rcases open_ints Try.underlying23 Try.underlying5 (by kernel_rfl) hf with ⟨hcs, _⟩ | ⟨x, l, c, zs, hcs, _, hl, hm, hz, hx, hcell, hwz⟩
    · simp [Value.cells] at hcs
      obtain ⟨rfl, rfl, rfl⟩ := hcs
      exact ⟨[], ⟨by decide, .inl ⟨rfl, rfl, rfl, rfl⟩⟩, by decide⟩
    · simp [Value.cells] at hcs
      obtain ⟨rfl, rfl, rfl⟩ := hcs
      have hd := congrArg Prod.fst hx
      simp only at hd
      have hs := sized_slice hsz (j := 2) (t := 23) (e := 5) rfl (by rw [hd]; rfl) Try.underlying23
      rw [show Try.prog.bytesOf 5 = 1 from by kernel_rfl] at hs
      simp only [lits, List.length_map, List.length_take, List.length_drop, reachBytes] at hs
      have hzc : zs.length = cap2 := by simpa using hz
      have hs2 := small_slice hk (j := 2) (by rw [hd]; rfl)
      simp only [lits, List.length_map, List.length_take, List.length_drop] at hs2
      exact ⟨zs, ⟨by show cap2 * 1 ≤ _; omega, .inr ⟨_, rfl, hl, hm, hzc, hcell, hwz⟩⟩, by omega⟩
  clear hA0 hval0 hsz0 hsz
  refine (walk_lists a0 len0 cap0 z0 a1 len1 cap1 z1 a2 len2 cap2 z2 W w0 b0 w1 b1 w2 b2).mono fun e W' ⟨he, bel⟩ => ?_
  subst he
  exact ⟨_, rfl, _, _, _, [], _, [], hW', trodAll_mk1 (shut_bool Try.underlying4 _), (trodAll_cons_mk (Below.trod laidOut (by kernel_rfl) (of_decide_eq_true (by kernel_rfl)) k0 bel lt0) (trodAll_cons_mk (Below.trod laidOut (by kernel_rfl) (of_decide_eq_true (by kernel_rfl)) k1 bel lt1) (trodAll_cons_mk (Below.trod laidOut (by kernel_rfl) (of_decide_eq_true (by kernel_rfl)) k2 bel lt2) trodAll_mk0))), rfl, bel.frame _, fun h => by cases h⟩

theorem proved : Rows.VintListsUptoSaid :=
  OpenClaim.holds_of_cond 8 Try.f8 rfl rfl rfl rfl rfl rfl rfl ⟨rfl, rfl, rfl, rfl, rfl⟩ rfl rfl rfl rfl rfl (by kernel_rfl) Try.func8 (by kernel_rfl)
    (of_decide_eq_true (by kernel_rfl)) (by unfold Func.isWrapper; first | (rw [if_pos (by decide +kernel)]; kernel_rfl) | (rw [if_neg (by decide +kernel)]; exact ⟨rfl, rfl⟩))
    (fun os started H enc _ F => lifted os started H enc F)
end Go.Proofs.Ytemgapgggeanjaa.vintLists
