/-
  Numbers in two parts, merged, are the numbers in one; the document's examples hold. The call returns true, and its arguments read as they did.
  Conditions: none: every value of the parameters' types.
-/
import Derived.Test.YtjngpdhhkkambabHistAi
import Derived.Test.YtjngpdhhkkambabPlace
import Derived.Deep.RegionWith
import Derived.Deep.DrawnRows
import Derived.ProofKit
import Derived.OpenShut
import Derived.ShutString
import Derived.ChangeOld
import Derived.SizedLaws
namespace Go.Proofs.Ytjngpdhhkkambab
open Go.RowKit

theorem take_split {zs : List Int} {k j : Nat} (hj : j < zs.length) : (zs.take (j + 1)).take k = if j < k then (zs.take j).take k ++ [zs.getD j 0] else (zs.take j).take k := by
  rw [take_ints hj, List.take_append]
  have hl : (zs.take j).length = j := by rw [List.length_take]; omega
  rw [hl]
  split
  · obtain ⟨d, hd⟩ : ∃ d, k - j = d + 1 := ⟨k - j - 1, by omega⟩
    rw [hd]
    simp
  · rw [show k - j = 0 by omega]
    simp
theorem drop_split {zs : List Int} {k j : Nat} (hj : j < zs.length) : (zs.take (j + 1)).drop k = if j < k then (zs.take j).drop k else (zs.take j).drop k ++ [zs.getD j 0] := by
  rw [take_ints hj, List.drop_append]
  have hl : (zs.take j).length = j := by rw [List.length_take]; omega
  rw [hl]
  split
  · rw [List.drop_of_length_le (l := [zs.getD j 0]) (by simp; omega)]
    simp
  · rw [show k - j = 0 by omega]
    simp

/-- Three histograms of the law's: of the first part, of the second one, of all. -/
structure Three (w wr : World) (ga gb gc : Nat) (zs : List Int) (k j : Nat) : Prop where
  low : Below w.heap.size w wr
  a : ∃ H, HistAt wr ga H ∧ spS H = seen ((zs.take j).take k)
  b : ∃ H, HistAt wr gb H ∧ spS H = seen ((zs.take j).drop k)
  c : ∃ H, HistAt wr gc H ∧ spS H = seen (zs.take j)

set_option maxHeartbeats 8000000 in
theorem walk_split (ad : Option Addr) (n cap : Nat) (ys : List Int) (at_ : Int) (w : World) (hl : IsRow .u64 w ad n cap ys) (_ha : (Lit.int .i64 at_).wf = true) :
    Calls Try.prog 7 #[.slice ad n cap, .int .i64 at_] w fun e w' => e = .returned (.bool true) ∧ Below w.heap.size w w' := by
  obtain ⟨hnc, hcap, hnone, hrow⟩ := row_of hl
  generalize ys.take n = zs at hrow
  have HR := hide hrow
  have HL := hide hrow.1
  have hn := hrow.2.1
  have N := hide new_any
  have AW := hide awake_any
  have P := hide (fun w1 => place_any at_ ((n : Int) + 1) (by omega) (by omega) w1)
  have p1 := Int.emod_nonneg at_ (b := (n : Int) + 1) (by omega)
  have p2 := Int.emod_lt_of_pos at_ (b := (n : Int) + 1) (by omega)
  generalize at_ % ((n : Int) + 1) = k at *
  obtain ⟨k, rfl⟩ := Int.eq_ofNat_of_zero_le p1
  have hk : k ≤ n := by omega
  clear _ha hl hrow hnone hcap
  go_enter Try.func7, Try.ntmps7
  go_wp2_with fail
  refine (N.out _).mono ?_
  rintro e w1 ⟨rfl, h1, b1⟩
  obtain ⟨ga, HGA⟩ : ∃ g, Hid (w.heap.size = g) := ⟨_, rfl⟩
  have H1 := hide h1
  have B1 := hide b1
  rw [HGA.out] at H1 ⊢
  clear h1 b1
  go_wp2_with fail
  refine (N.out _).mono ?_
  rintro e w2 ⟨rfl, h2, b2⟩
  obtain ⟨gb, HGB⟩ : ∃ g, Hid (w1.heap.size = g) := ⟨_, rfl⟩
  have H2 := hide h2
  have H2a := hide (H1.out.below b2 H1.out.lt)
  have B2 := hide (below_to B1.out b2 (Nat.le_refl _))
  have HG1 : Hid (w.heap.size ≤ ga ∧ ga < gb) := ⟨by rw [HGA.out]; exact Nat.le_refl _, by rw [← HGB.out]; exact H1.out.lt⟩
  rw [HGB.out] at H2 ⊢
  clear h2 b2 B1 H1 HGA HGB
  go_wp2_with fail
  refine (N.out _).mono ?_
  rintro e w3 ⟨rfl, h3, b3⟩
  obtain ⟨gc, HGC⟩ : ∃ g, Hid (w2.heap.size = g) := ⟨_, rfl⟩
  have B3 := hide (below_to B2.out b3 (Nat.le_refl _))
  have HG : Hid (w.heap.size ≤ ga ∧ ga < gb ∧ gb < gc) := ⟨HG1.out.1, HG1.out.2, by rw [← HGC.out]; exact H2.out.lt⟩
  have T0 : Hid (Three w w3 ga gb gc zs k 0) := by
    refine ⟨B3.out, ⟨H0, H2a.out.below b3 H2a.out.lt, ?_⟩, ⟨H0, H2.out.below b3 H2.out.lt, ?_⟩, ⟨H0, by rw [← HGC.out]; exact h3, ?_⟩⟩
    · rw [spS_H0]; simp [seen]
    · rw [spS_H0]; simp [seen]
    · rw [spS_H0]; simp [seen]
  rw [HGC.out]
  clear h3 b3 B2 H2 H2a HGC HG1
  by_cases hbig : 300 < n
  · have d0 : decide ((300 : Int) < (n : Int)) = true := decide_eq_true (by omega)
    clear P
    go_wp2_with fail
    refine (AW.out _).mono ?_
    rintro e w4 ⟨rfl, b4⟩
    have B4 := hide (below_to B3.out b4 (Nat.le_refl _))
    clear b4 B3 T0
    go_wp2
    go_ret
    exact ⟨rfl, B4.out⟩
  have d0 : decide ((300 : Int) < (n : Int)) = false := decide_eq_false (by omega)
  clear B3
  go_wp2_with fail
  refine (P.out _).mono ?_
  rintro e w3' ⟨rfl, rfl⟩
  clear P N
  go_wp2
  go_loopw [9] (fun i wr => ∃ j : Nat, j ≤ n ∧ i = .int .i64 j ∧ Hid (Three w wr ga gb gc zs k j)) (fun i _ => n - (intOf i).toNat)
  case atStart => exact ⟨0, by omega, rfl, T0⟩
  case round =>
    obtain ⟨j, hj, rfl, HT⟩ := hrel
    obtain ⟨tl, ⟨HA, ha, ea⟩, ⟨HB, hb, eb⟩, ⟨HC, hc, ec⟩⟩ := HT.out
    have TL := hide tl
    have TA := hide ha
    have TB := hide hb
    have TC := hide hc
    have EA := hide ea
    have EB := hide eb
    have EC := hide ec
    clear tl ha hb hc ea eb ec HT
    by_cases hlt : j < n
    · have HRW : Hid (∀ W, Below w.heap.size w W → ∃ b off, ad = some ⟨b, off, none⟩ ∧ W.cell? ⟨b, off + j, none⟩ = some (.int .u64 (zs.getD j 0))) := by
        intro W hW
        obtain ⟨_, _, _, h | ⟨b, off, rfl, hcell⟩⟩ := HR.out.below hW (Nat.le_refl _)
        · omega
        · exact ⟨b, off, rfl, hcell j hlt⟩
      obtain ⟨b, off, rfl, f0⟩ := HRW.out wr TL.out
      have hy := HR.out.word j
      have HTK := hide (take_ints (l := zs) (k := j) (by rw [HL.out]; exact hlt))
      have HSA := hide (take_split (zs := zs) (k := k) (j := j) (by rw [HL.out]; exact hlt))
      have HSB := hide (drop_split (zs := zs) (k := k) (j := j) (by rw [HL.out]; exact hlt))
      have i1 : (0 : Int) ≤ (j : Int) := by omega
      have i2 : (j : Int) < (n : Int) := by omega
      generalize zs.getD j 0 = y at *
      have HY := hide hy
      clear hy
      have A1 := hide (hadd_any gc HC y 1 wr HY.out ⟨by omega, by omega⟩ TC.out)
      have E1 := hide (spS_addH TC.out HY.out (n := 1) ⟨by omega, by omega⟩)
      go_wp2_with fail
      refine A1.out.mono ?_
      rintro e w4 ⟨rfl, h4, c4⟩
      have B4 := hide (below_ch TL.out c4 (Nat.le_refl _) (by have := HG.out; omega))
      have H4 := hide h4
      have H4a := hide (TA.out.other c4 (by have := HG.out; omega))
      have H4b := hide (TB.out.other c4 (by have := HG.out; omega))
      obtain ⟨b', off', hbo, f1⟩ := HRW.out w4 B4.out
      simp only [Option.some.injEq, Addr.mk.injEq, and_true] at hbo
      obtain ⟨rfl, rfl⟩ := hbo
      have NC : Hid (spS (addH HC y 1) = seen (zs.take (j + 1))) := by
        show _ = _
        rw [E1.out, EC.out, HTK.out, seen_snoc]
      clear h4 c4 A1 E1 TL TA TB TC f0 HRW EC HTK
      by_cases hjk : j < k
      · have A2 := hide (hadd_any ga HA y 1 w4 HY.out ⟨by omega, by omega⟩ H4a.out)
        have E2 := hide (spS_addH H4a.out HY.out (n := 1) ⟨by omega, by omega⟩)
        go_wp2_with fail
        refine A2.out.mono ?_
        rintro e w5 ⟨rfl, h5, c5⟩
        have T : Hid (Three w w5 ga gb gc zs k (j + 1)) := by
          refine ⟨below_ch B4.out c5 (Nat.le_refl _) HG.out.1, ⟨_, h5, ?_⟩, ⟨_, H4b.out.other c5 (by have := HG.out; omega), ?_⟩, ⟨_, H4.out.other c5 (by have := HG.out; omega), NC.out⟩⟩
          · rw [E2.out, EA.out, HSA.out, if_pos hjk, seen_snoc]
          · rw [EB.out, HSB.out, if_pos hjk]
        clear h5 c5 A2 E2 H4 H4a H4b B4 EA EB NC HSA HSB
        go_wp2
        go_roundw
        case rel => exact ⟨j + 1, by omega, by go_num, T⟩
        case measure => simp [intOf]; omega
      · have A2 := hide (hadd_any gb HB y 1 w4 HY.out ⟨by omega, by omega⟩ H4b.out)
        have E2 := hide (spS_addH H4b.out HY.out (n := 1) ⟨by omega, by omega⟩)
        go_wp2_with fail
        refine A2.out.mono ?_
        rintro e w5 ⟨rfl, h5, c5⟩
        have T : Hid (Three w w5 ga gb gc zs k (j + 1)) := by
          refine ⟨below_ch B4.out c5 (Nat.le_refl _) (by have := HG.out; omega), ⟨_, H4a.out.other c5 (by have := HG.out; omega), ?_⟩, ⟨_, h5, ?_⟩, ⟨_, H4.out.other c5 (by have := HG.out; omega), NC.out⟩⟩
          · rw [EA.out, HSA.out, if_neg hjk]
          · rw [E2.out, EB.out, HSB.out, if_neg hjk, seen_snoc]
        clear h5 c5 A2 E2 H4 H4a H4b B4 EA EB NC HSA HSB
        go_wp2
        go_roundw
        case rel => exact ⟨j + 1, by omega, by go_num, T⟩
        case measure => simp [intOf]; omega
    · have : j = n := by omega
      subst this
      rw [List.take_of_length_le (l := zs) (by rw [HL.out]; omega)] at EA EB EC
      have HWZ : Hid (WordsH zs) := HR.out.words
      have BA := hide (hbuckets_any ga HA wr TA.out)
      have GA := hide TA.out.good
      go_wp2_with fail
      refine BA.out.mono ?_
      rintro e w7 ⟨a7, c7, rfl, o7, b7⟩
      have R7 := hide (o7.goodrow GA.out)
      have B7 := hide (below_to TL.out b7 (Nat.le_refl _))
      have H7b := hide (TB.out.below b7 TB.out.lt)
      have H7c := hide (TC.out.below b7 TC.out.lt)
      have M := hide (hmerge_ok gb HB a7 _ c7 (spS HA) w7 R7.out (o7.apart TB.out.lt) H7b.out GA.out.check)
      have EM := hide (spS_more TB.out GA.out)
      clear BA o7 b7 TL TA TB TC
      go_wp2_with fail
      refine M.out.mono ?_
      rintro e w8 ⟨rfl, h8, c8⟩
      have B8 := hide (below_ch B7.out c8 (Nat.le_refl _) (by have := HG.out; omega))
      have H8 := hide h8
      have H8c := hide (H7c.out.other c8 (by have := HG.out; omega))
      have BB := hide (hbuckets_any gb _ w8 H8.out)
      have GB := hide H8.out.good
      clear M h8 c8 B7 H7b H7c R7
      go_wp2_with fail
      refine BB.out.mono ?_
      rintro e w9 ⟨a9, c9, rfl, o9, b9⟩
      have R9 := hide (o9.goodrow GB.out)
      have B9 := hide (below_to B8.out b9 (Nat.le_refl _))
      have BC := hide (hbuckets_any gc HC w9 (H8c.out.below b9 H8c.out.lt))
      have GC := hide H8c.out.good
      clear BB o9 b9 B8
      go_wp2_with fail
      refine BC.out.mono ?_
      rintro e w10 ⟨a10, c10, rfl, o10, b10⟩
      have R10 := hide (o10.goodrow GC.out)
      have B10 := hide (below_to B9.out b10 (Nat.le_refl _))
      have SM := hide (samebks_any a9 _ c9 _ a10 _ c10 _ w10 (R9.out.below b10 (Nat.le_refl _)) R10.out)
      have hsame : spS (addAll HB (spS HA)) = spS HC := by
        rw [EM.out, EA.out, EB.out, EC.out, seen_split (fun x hx => HWZ.out x (List.mem_of_mem_take hx)) (fun x hx => HWZ.out x (List.mem_of_mem_drop hx)) (by rw [List.length_take, List.length_drop, HL.out]; omega), List.take_append_drop]
      rw [show decide (spS (addAll HB (spS HA)) = spS HC) = true by simpa using hsame] at SM
      clear BC o10 b10 B9 R9 R10 hsame
      go_wp2_with fail
      refine SM.out.mono ?_
      rintro e w11 ⟨rfl, b11⟩
      have B11 := hide (below_to B10.out b11 (Nat.le_refl _))
      clear b11 B10 SM
      go_wp2_with fail
      refine (AW.out _).mono ?_
      rintro e w12 ⟨rfl, b12⟩
      have B12 := hide (below_to B11.out b12 (Nat.le_refl _))
      clear b12 B11
      go_wp2
      go_ret
      exact ⟨rfl, B12.out⟩
end Go.Proofs.Ytjngpdhhkkambab

namespace Go.Proofs.Ytjngpdhhkkambab.histSplit
open Go.ChangeShapes Go.WideShapes Go.ChangeAt Go.RowKit
open Go.ChangeMaps (open_string shut_string)
set_option linter.unusedVariables false

theorem own : ownKnob Try.prog.godebug = none := by kernel_rfl
theorem laidOut : laidOutB Try.prog = true := by kernel_rfl

set_option maxRecDepth 100000 in
theorem lifted (os : Os) (started : os.Started) (H : Type) (enc : TypeId × Value → H) :
    ReturnsInHanded {} Try.checked os 7 .any (Rows.histSplitSpec.pre6 enc Try.prog Try.f7 Rows.histSplitRow.domain false) (Rows.histSplitSpec.post enc Try.prog Try.f7 false true false false) := by
  refine returnsInHanded_of_change_sized (C := Try.checked) own started (by kernel_rfl) Try.func7
    (ChangeSpec.witness6 (enc := enc) (C := Try.checked) false ⟨#[], #[.slice none 0 0, .int .i64 0], []⟩ 8 (by kernel_rfl) (by kernel_rfl) (by kernel_rfl) (by kernel_rfl)) ?_
  intro W base args ds gs before hval0 hW hcnd hsz0 _
  have hsz : (DataW.weightsEach Try.prog (Try.f7.params.toList ++ Rows.histSplitSpec.plain.varTypes Try.prog) (ds ++ gs)).all (· ≤ reachBytes) = true := hsz0
  have hval : ∀ (j : Nat) t v, Try.f7.params[j]? = some t → args[j]? = some v → Value.okWide Try.prog W .any base t v := hval0
  have hW' := hW
  obtain ⟨p, q, hA0, hV, rfl, hfz, hnd⟩ := hW
  have hA : DataW.TrodAll enc Try.prog W 0 (fun _ => true) true Try.f7.params.toList args.toList ds p := hA0
  rw [Try.params7] at hA hval hsz
  obtain ⟨v0, vs0, d0, ds0, p0, q0, hargs, rfl, rfl, h0, r0⟩ := trodAll_cons hA
  obtain ⟨v1, vs1, d1, ds1, p1, q1, rfl, rfl, rfl, h1, r1⟩ := trodAll_cons r0
  obtain ⟨rfl, rfl, rfl⟩ := trodAll_nil r1
  obtain rfl : args = #[v0, v1] := by cases args; simp_all
  obtain ⟨rfl, rfl⟩ := trodVars_none hV
  obtain ⟨a0, len0, cap0, rfl⟩ := okWide_slice Try.underlying56 (hval 0 56 v0 rfl rfl)
  have k0 := h0
  have lt0 : ∀ x ∈ p0, x.block < W.heap.size := by obtain ⟨m, hm⟩ := k0; exact DataW.trod_lt m _ _ _ hm
  obtain ⟨z0, w0⟩ : ∃ zs, IsRow .u64 W a0 len0 cap0 zs := by
    obtain ⟨fuel, hf⟩ := h0
    rcases open_ints Try.underlying56 Try.underlying39 (by kernel_rfl) hf with ⟨hcs, _⟩ | ⟨x, l, c, zs, hcs, _, hl, hm, hz, hx, hcell, hwz⟩
    · simp [Value.cells] at hcs
      obtain ⟨rfl, rfl, rfl⟩ := hcs
      exact ⟨[], by decide, .inl ⟨rfl, rfl, rfl, rfl⟩⟩
    · simp [Value.cells] at hcs
      obtain ⟨rfl, rfl, rfl⟩ := hcs
      have hd := congrArg Prod.fst hx
      simp only at hd
      have hs := sized_slice hsz (j := 0) (t := 56) (e := 39) rfl (by rw [hd]; rfl) Try.underlying56
      rw [show Try.prog.bytesOf 39 = 8 from by kernel_rfl] at hs
      simp only [lits, List.length_map, List.length_take, List.length_drop, reachBytes] at hs
      have hzc : zs.length = cap0 := by simpa using hz
      exact ⟨zs, by show cap0 * 8 ≤ _; omega, .inr ⟨_, rfl, hl, hm, hzc, hcell, hwz⟩⟩
  obtain ⟨a1, rfl, rfl, rfl, w1⟩ := open_int Try.underlying3 (hval 1 3 v1 rfl rfl) h1
  clear hA0 hval0 hsz0 hsz
  refine (walk_split a0 len0 cap0 z0 a1 W w0 w1).mono fun e W' ⟨he, bel⟩ => ?_
  subst he
  exact ⟨_, rfl, _, _, _, [], _, [], hW', trodAll_mk1 (shut_bool Try.underlying4 _), (trodAll_cons_mk (Below.trod laidOut (by kernel_rfl) (of_decide_eq_true (by kernel_rfl)) k0 bel lt0) (trodAll_cons_mk (shut_int Try.underlying3 w1) trodAll_mk0)), rfl, bel.frame _, fun h => by cases h⟩

theorem proved : Rows.HistSplitSaid :=
  OpenClaim.holds_of_wide 7 Try.f7 rfl rfl rfl rfl rfl rfl rfl ⟨rfl, rfl, rfl, rfl, rfl⟩ rfl rfl rfl rfl rfl (by kernel_rfl) Try.func7 (by kernel_rfl)
    (of_decide_eq_true (by kernel_rfl)) (by unfold Func.isWrapper; first | (rw [if_pos (by decide +kernel)]; kernel_rfl) | (rw [if_neg (by decide +kernel)]; exact ⟨rfl, rfl⟩))
    (fun os started H enc _ => lifted os started H enc)
end Go.Proofs.Ytjngpdhhkkambab.histSplit
