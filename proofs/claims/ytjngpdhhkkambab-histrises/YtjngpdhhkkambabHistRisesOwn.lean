/-
  A greater part of the numbers never ends at a lower one; all of them end at the last bucket, none at the first; the document's examples hold. The call returns true, and its arguments read as they did.
  Conditions: none: every value of the parameters' types.
-/
import Derived.Test.YtjngpdhhkkambabHistAi
import Derived.Test.YtjngpdhhkkambabHistR
import Derived.Deep.RegionWith
import Derived.Deep.DrawnRows
import Derived.ProofKit
import Derived.OpenShut
import Derived.ShutString
import Derived.ChangeOld
import Derived.SizedLaws
namespace Go.Proofs.Ytjngpdhhkkambab
open Go.RowKit

theorem lastD_getD {last : Int} {l : Bks} (h : l ≠ []) : lastD last l = (l.getD (l.length - 1) (0, 0)).1 := by
  induction l generalizing last with
  | nil => exact absurd rfl h
  | cons x t ih =>
    obtain ⟨k, c⟩ := x
    rw [lastD]
    cases t with
    | nil => rfl
    | cons y t =>
      rw [ih (by simp)]
      simp only [List.length_cons, Nat.add_sub_cancel, List.getD_cons_succ]

set_option maxHeartbeats 8000000 in
theorem walk_rises (ad : Option Addr) (n cap : Nat) (l : Bks) (a b c : Int) (w : World) (hl : IsBks w ad n cap l) (ha : (Lit.int .u64 a).wf = true) (hb : (Lit.int .u64 b).wf = true) (hc : (Lit.int .u64 c).wf = true) :
    Calls Try.prog 6 #[.slice ad n cap, .int .u64 a, .int .u64 b, .int .u64 c] w fun e w' => e = .returned (.bool true) ∧ Below w.heap.size w w' := by
  have ha := u64_of_wf ha
  have hb := u64_of_wf hb
  have hc := u64_of_wf hc
  obtain ⟨hcap, hnc, hnone, hrow⟩ := hl
  have HA := hide ha
  have HB := hide hb
  have HC := hide hc
  obtain ⟨a0, a1⟩ := ha
  obtain ⟨b0, b1⟩ := hb
  obtain ⟨c0, c1⟩ := hc
  have HR := hide hrow
  have hn := hrow.2.1
  have HL := hide hrow.1
  have K := hide (refcheck_any ad n cap l w hrow)
  have AW := hide awake_any
  have HN := hide hnone
  clear hrow hnone
  by_cases hck : checkS l = false
  · rw [hck] at K
    clear hck
    go_enter Try.func6, Try.ntmps6
    go_wp2_with fail
    refine K.out.mono ?_
    rintro e w1 ⟨rfl, q, rfl⟩
    have B1 := hide (bel_drewN (Below.refl w.heap.size w) q)
    clear K
    generalize w.drewN q = w1 at *
    go_wp2_with fail
    refine (AW.out _).mono ?_
    rintro e w2 ⟨rfl, b2⟩
    have B2 := hide (below_to B1.out b2 (Nat.le_refl _))
    clear b2 B1
    go_wp2
    go_ret
    exact ⟨rfl, B2.out⟩
  have hck : checkS l = true := by simpa using hck
  by_cases hbad : n = 0 ∨ c = 0 ∨ b < a ∨ c < b
  · rw [hck] at K
    have hz : (((n : Int) == 0) || ((c == 0) || (decide (b < a) || decide (c < b)))) = true := by
      simp only [Bool.or_eq_true, beq_iff_eq, decide_eq_true_eq]
      omega
    clear hck hbad
    obtain ⟨z1, hz1⟩ : ∃ z, ((n : Int) == 0) = z := ⟨_, rfl⟩
    obtain ⟨z2, hz2⟩ : ∃ z, (c == 0) = z := ⟨_, rfl⟩
    obtain ⟨z3, hz3⟩ : ∃ z, decide (b < a) = z := ⟨_, rfl⟩
    obtain ⟨z4, hz4⟩ : ∃ z, decide (c < b) = z := ⟨_, rfl⟩
    rw [hz1, hz2, hz3, hz4] at hz
    cases z1 <;> cases z2 <;> cases z3 <;> cases z4 <;> simp at hz
    all_goals
      go_enter Try.func6, Try.ntmps6
      go_wp2_with fail
      refine K.out.mono ?_
      rintro e w1 ⟨rfl, q, rfl⟩
      have B1 := hide (bel_drewN (Below.refl w.heap.size w) q)
      generalize w.drewN q = w1 at *
      go_wp2_with fail
      refine (AW.out _).mono ?_
      rintro e w2 ⟨rfl, b2⟩
      have B2 := hide (below_to B1.out b2 (Nat.le_refl _))
      clear b2 B1
      go_wp2
      go_ret
      exact ⟨rfl, B2.out⟩
  have G := hide (good_from hck HR.out.2.2.1)
  have HCK := hide hck
  rw [hck] at K
  have z1 : ((n : Int) == 0) = false := by simp; omega
  have z2 : (c == 0) = false := by simp; omega
  have z3 : decide (b < a) = false := decide_eq_false (by omega)
  have z4 : decide (c < b) = false := decide_eq_false (by omega)
  have hn1 : 1 ≤ n := by omega
  have hab : a ≤ b := by omega
  have hbc : b ≤ c := by omega
  have hc1 : 0 < c := by omega
  clear hck hbad
  go_enter Try.func6, Try.ntmps6
  go_wp2_with fail
  refine K.out.mono ?_
  rintro e w1 ⟨rfl, q, rfl⟩
  have B1 := hide (bel_drewN (Below.refl w.heap.size w) q)
  clear K
  generalize w.drewN q = w1 at *
  have BK := hide (buckets_any ad n cap l w1 (HR.out.below B1.out (Nat.le_refl _)) (fun h => (HN.out h).2) (by omega))
  go_wp2_with fail
  refine BK.out.mono ?_
  rintro e w2 ⟨a2, c2, rfl, o2, b2⟩
  have B2 := hide (below_to B1.out b2 (Nat.le_refl _))
  have F := hide (hfrom_ok a2 n c2 l w2 (o2.row hn HR.out.2.2.1) HCK.out)
  clear BK o2 b2 B1
  go_wp2_with fail
  refine F.out.mono ?_
  rintro e w3 ⟨rfl, h3, b3⟩
  have H3 := hide h3
  have B3 := hide (below_to B2.out b3 (Nat.le_refl _))
  have HG : Hid (w.heap.size ≤ w2.heap.size) := B2.out.size
  have EL := hide (spS_made G.out)
  clear F h3 b3 B2
  obtain ⟨g, hg⟩ : ∃ g, g = w2.heap.size := ⟨_, rfl⟩
  rw [← hg] at H3 HG ⊢
  clear hg
  generalize addAll H0 l = H at *
  have QA := hide (fun W (h : HistAt W g H) => hquant_any g H a c W h HA.out HC.out)
  have QB := hide (fun W (h : HistAt W g H) => hquant_any g H b c W h HB.out HC.out)
  have QC := hide (fun W (h : HistAt W g H) => hquant_any g H c c W h HC.out HC.out)
  have QD := hide (fun W (h : HistAt W g H) => hquant_any g H 0 c W h ⟨by omega, by omega⟩ HC.out)
  rw [EL.out] at QA QB QC QD
  have Q1 := hide (QA.out w3 H3.out)
  by_cases hs : countS l = 18446744073709551615
  · have hq : ∀ x, 0 ≤ x → x ≤ c → quantS l x c = (0, 11) := fun x h0 h1 => by
      unfold quantS
      rw [if_neg (by omega), if_pos hs]
    rw [hq a (by omega) (by omega)] at Q1
    rw [hq b (by omega) (by omega)] at QB
    rw [hq c (by omega) (by omega)] at QC
    clear hq hs QA QD
    go_wp2_with fail
    refine Q1.out.mono ?_
    rintro e w4 ⟨rfl, b4⟩
    have Q2 := hide (QB.out w4 (H3.out.below b4 H3.out.lt))
    have H4 := hide (H3.out.below b4 H3.out.lt)
    have B4 := hide (below_to B3.out b4 (Nat.le_refl _))
    clear b4 B3 H3 Q1 QB
    go_wp2_with fail
    refine Q2.out.mono ?_
    rintro e w5 ⟨rfl, b5⟩
    have Q3 := hide (QC.out w5 (H4.out.below b5 H4.out.lt))
    have B5 := hide (below_to B4.out b5 (Nat.le_refl _))
    clear b5 B4 H4 Q2 QC
    go_wp2_with fail
    refine Q3.out.mono ?_
    rintro e w6 ⟨rfl, b6⟩
    have B6 := hide (below_to B5.out b6 (Nat.le_refl _))
    clear b6 B5 Q3
    go_wp2_with fail
    refine (AW.out _).mono ?_
    rintro e w7 ⟨rfl, b7⟩
    have B7 := hide (below_to B6.out b7 (Nat.le_refl _))
    clear b7 B6
    go_wp2
    go_ret
    exact ⟨rfl, B7.out⟩
  have hcn : countS l ≠ 0 := by
    have h1 := (countS_sum G.out.words hs).1
    have hln := HL.out
    intro h0
    rw [h0] at h1
    cases l with
    | nil => simp at hln; omega
    | cons x t =>
      obtain ⟨k, d⟩ := x
      have h2 := checkF_cons.1 G.out.check
      have h3 := sum_nonneg (wordsB_snd (l := t) (fun z hz => G.out.words z (List.mem_cons_of_mem _ hz)))
      rw [List.map_cons, List.sum_cons] at h1
      simp only at h1
      omega
  obtain ⟨e1, e2, e3, e4, e5, e6, e7⟩ := quant_rises G.out HA.out HB.out HC.out hc1 hab hbc hs hcn
  have hne : l ≠ [] := by intro h; have := HL.out; rw [h] at this; simp at this; omega
  rw [lastD_getD hne, HL.out] at e6
  obtain ⟨r0, r1⟩ := checkF_range (Int.le_refl _) G.out.check (k := n - 1) (by rw [HL.out]; omega)
  obtain ⟨s0, s1⟩ := checkF_range (Int.le_refl _) G.out.check (k := 0) (by rw [HL.out]; omega)
  have LX := hide (fun w => low_in _ w r0 r1)
  have LY := hide (fun w => low_in _ w s0 s1)
  rw [← e6] at LX
  rw [← e7] at LY
  rw [e1] at Q1
  rw [e2] at QB
  rw [e3] at QC
  obtain ⟨e8, hQD⟩ : ∃ z, (quantS l 0 c).2 = z := ⟨_, rfl⟩
  rw [hQD] at QD
  have HCell : Hid (∀ W, Below w.heap.size w W → ∃ bb off, ad = some ⟨bb, off, none⟩ ∧ W.cell? ⟨bb, off + (n - 1) * 2, none⟩ = some (.int .i64 (l.getD (n - 1) (0, 0)).1) ∧ W.cell? ⟨bb, off + 0 * 2, none⟩ = some (.int .i64 (l.getD 0 (0, 0)).1)) := by
    intro W hW
    obtain ⟨bb, off, h1, h2⟩ := HR.out.at' (j := n - 1) (by omega)
    obtain ⟨bb', off', h1', h2'⟩ := HR.out.at' (j := 0) (by omega)
    rw [h1] at h1'
    simp only [Option.some.injEq, Addr.mk.injEq, and_true] at h1'
    obtain ⟨rfl, rfl⟩ := h1'
    exact ⟨bb, off, h1, (h2 W hW).1, (h2' W hW).1⟩
  generalize (l.getD (n - 1) (0, 0)).1 = X1 at *
  generalize (l.getD 0 (0, 0)).1 = X0 at *
  clear hs hcn e1 e2 e3 e6 e7 hne hQD QA
  generalize (quantS l a c).1 = qa at *
  generalize (quantS l b c).1 = qb at *
  generalize (quantS l c c).1 = qc at *
  generalize (quantS l 0 c).1 = qd at *
  go_wp2_with fail
  refine Q1.out.mono ?_
  rintro e w4 ⟨rfl, b4⟩
  have Q2 := hide (QB.out w4 (H3.out.below b4 H3.out.lt))
  have H4 := hide (H3.out.below b4 H3.out.lt)
  have B4 := hide (below_to B3.out b4 (Nat.le_refl _))
  clear b4 B3 H3 Q1 QB
  go_wp2_with fail
  refine Q2.out.mono ?_
  rintro e w5 ⟨rfl, b5⟩
  have Q3 := hide (QC.out w5 (H4.out.below b5 H4.out.lt))
  have H5 := hide (H4.out.below b5 H4.out.lt)
  have B5 := hide (below_to B4.out b5 (Nat.le_refl _))
  clear b5 B4 H4 Q2 QC
  go_wp2_with fail
  refine Q3.out.mono ?_
  rintro e w6 ⟨rfl, b6⟩
  have Q4 := hide (QD.out w6 (H5.out.below b6 H5.out.lt))
  have B6 := hide (below_to B5.out b6 (Nat.le_refl _))
  obtain ⟨bb, off, rfl, f1, f0⟩ := HCell.out w6 B6.out
  rw [Nat.zero_mul, Nat.add_zero] at f0
  have i1 : (0 : Int) ≤ (n : Int) - 1 := by omega
  have i2 : ((n : Int) - 1).toNat = n - 1 := by omega
  have i3 : (0 : Int) < (n : Int) := by omega
  clear b6 B5 Q3 QD H5 HCell
  go_wp2_with fail
  refine (LX.out _).mono ?_
  rintro e w7 ⟨rfl, rfl⟩
  go_wp2_with fail
  refine (LY.out _).mono ?_
  rintro e w7 ⟨rfl, rfl⟩
  go_wp2_with fail
  refine Q4.out.mono ?_
  rintro e w8 ⟨rfl, b8⟩
  have B8 := hide (below_to B6.out b8 (Nat.le_refl _))
  have t1 : (qc == qc) = true := by simp
  have t2 : (qd == qd) = true := by simp
  have t3 : decide (qa ≤ qb) = true := decide_eq_true e4
  have t4 : decide (qb ≤ qc) = true := decide_eq_true e5
  clear b8 B6 Q4 f0 f1
  go_wp2_with fail
  refine (AW.out _).mono ?_
  rintro e w9 ⟨rfl, b9⟩
  have B9 := hide (below_to B8.out b9 (Nat.le_refl _))
  clear b9 B8
  go_wp2
  go_ret
  exact ⟨rfl, B9.out⟩
end Go.Proofs.Ytjngpdhhkkambab

namespace Go.Proofs.Ytjngpdhhkkambab.histRises
open Go.ChangeShapes Go.WideShapes Go.ChangeAt Go.RowKit
open Go.ChangeMaps (open_string shut_string)
set_option linter.unusedVariables false

theorem own : ownKnob Try.prog.godebug = none := by kernel_rfl
theorem laidOut : laidOutB Try.prog = true := by kernel_rfl

set_option maxRecDepth 100000 in
theorem lifted (os : Os) (started : os.Started) (H : Type) (enc : TypeId × Value → H) :
    ReturnsInHanded {} Try.checked os 6 .any (Rows.histRisesSpec.pre6 enc Try.prog Try.f6 Rows.histRisesRow.domain false) (Rows.histRisesSpec.post enc Try.prog Try.f6 false true false false) := by
  refine returnsInHanded_of_change_sized (C := Try.checked) own started (by kernel_rfl) Try.func6
    (ChangeSpec.witness6 (enc := enc) (C := Try.checked) false ⟨#[], #[.slice none 0 0, .int .u64 0, .int .u64 0, .int .u64 0], []⟩ 8 (by kernel_rfl) (by kernel_rfl) (by kernel_rfl) (by kernel_rfl)) ?_
  intro W base args ds gs before hval0 hW hcnd hsz0 _
  have hsz : (DataW.weightsEach Try.prog (Try.f6.params.toList ++ Rows.histRisesSpec.plain.varTypes Try.prog) (ds ++ gs)).all (· ≤ reachBytes) = true := hsz0
  have hval : ∀ (j : Nat) t v, Try.f6.params[j]? = some t → args[j]? = some v → Value.okWide Try.prog W .any base t v := hval0
  have hW' := hW
  obtain ⟨p, q, hA0, hV, rfl, hfz, hnd⟩ := hW
  have hA : DataW.TrodAll enc Try.prog W 0 (fun _ => true) true Try.f6.params.toList args.toList ds p := hA0
  rw [Try.params6] at hA hval hsz
  obtain ⟨v0, vs0, d0, ds0, p0, q0, hargs, rfl, rfl, h0, r0⟩ := trodAll_cons hA
  obtain ⟨v1, vs1, d1, ds1, p1, q1, rfl, rfl, rfl, h1, r1⟩ := trodAll_cons r0
  obtain ⟨v2, vs2, d2, ds2, p2, q2, rfl, rfl, rfl, h2, r2⟩ := trodAll_cons r1
  obtain ⟨v3, vs3, d3, ds3, p3, q3, rfl, rfl, rfl, h3, r3⟩ := trodAll_cons r2
  obtain ⟨rfl, rfl, rfl⟩ := trodAll_nil r3
  obtain rfl : args = #[v0, v1, v2, v3] := by cases args; simp_all
  obtain ⟨rfl, rfl⟩ := trodVars_none hV
  obtain ⟨a0, len0, cap0, rfl⟩ := okWide_slice Try.underlying22 (hval 0 22 v0 rfl rfl)
  have k0 := h0
  have lt0 : ∀ x ∈ p0, x.block < W.heap.size := by obtain ⟨m, hm⟩ := k0; exact DataW.trod_lt m _ _ _ hm
  obtain ⟨z0, w0⟩ : ∃ l, IsBks W a0 len0 cap0 l := by
    obtain ⟨fuel, hf⟩ := h0
    rcases bks_trod hf with ⟨rfl, rfl, rfl⟩ | ⟨ad, l, elems, spare, rfl, hl, h1, h2, hd, hm, hc⟩
    · exact ⟨[], by decide, by decide, fun _ => ⟨rfl, rfl⟩, rfl, by decide, by simp, Or.inl rfl⟩
    · simp only at hd hm
      have hs := sized_slice hsz (j := 0) (t := 22) (e := 54) rfl (by rw [hd]; rfl) Try.underlying22
      rw [show Try.prog.bytesOf 54 = 16 from by kernel_rfl, hm] at hs
      simp only [if_true, reachBytes] at hs
      exact ⟨l, by omega, hl, fun h => by simp at h, bks_row h1 (by omega) h2 hc⟩
  obtain ⟨a1, rfl, rfl, rfl, w1⟩ := open_int Try.underlying39 (hval 1 39 v1 rfl rfl) h1
  obtain ⟨a2, rfl, rfl, rfl, w2⟩ := open_int Try.underlying39 (hval 2 39 v2 rfl rfl) h2
  obtain ⟨a3, rfl, rfl, rfl, w3⟩ := open_int Try.underlying39 (hval 3 39 v3 rfl rfl) h3
  clear hA0 hval0 hsz0 hsz
  refine (walk_rises a0 len0 cap0 z0 a1 a2 a3 W w0 w1 w2 w3).mono fun e W' ⟨he, bel⟩ => ?_
  subst he
  exact ⟨_, rfl, _, _, _, [], _, [], hW', trodAll_mk1 (shut_bool Try.underlying4 _), (trodAll_cons_mk (Below.trod laidOut (by kernel_rfl) (of_decide_eq_true (by kernel_rfl)) k0 bel lt0) (trodAll_cons_mk (shut_int Try.underlying39 w1) (trodAll_cons_mk (shut_int Try.underlying39 w2) (trodAll_cons_mk (shut_int Try.underlying39 w3) trodAll_mk0)))), rfl, bel.frame _, fun h => by cases h⟩

theorem proved : Rows.HistRisesSaid :=
  OpenClaim.holds_of_wide 6 Try.f6 rfl rfl rfl rfl rfl rfl rfl ⟨rfl, rfl, rfl, rfl, rfl⟩ rfl rfl rfl rfl rfl (by kernel_rfl) Try.func6 (by kernel_rfl)
    (of_decide_eq_true (by kernel_rfl)) (by unfold Func.isWrapper; first | (rw [if_pos (by decide +kernel)]; kernel_rfl) | (rw [if_neg (by decide +kernel)]; exact ⟨rfl, rfl⟩))
    (fun os started H enc _ => lifted os started H enc)
end Go.Proofs.Ytjngpdhhkkambab.histRises
