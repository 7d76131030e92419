/-
  The rank of a quantile is at least its part; below it there are fewer than all; the document's examples hold. The call returns true, and its arguments read as they did.
  Conditions: none: every value of the parameters' types.
-/
import Derived.Test.YtjngpdhhkkambacHistAi
import Derived.Test.YtjngpdhhkkambacHistR
import Derived.Deep.RegionWith
import Derived.Deep.DrawnRows
import Derived.ProofKit
import Derived.OpenShut
import Derived.ShutString
import Derived.ChangeOld
import Derived.SizedLaws
namespace Go.Proofs.Ytjngpdhhkkambac
open Go.RowKit

theorem quantS_word {l : Bks} (hg : Good l) {a b : Int} (ha : Word a) (hb : Word b) : Word (quantS l a b).1 := by
  by_cases h : b = 0 ∨ b < a
  · unfold quantS; rw [if_pos h]; exact ⟨by decide, by decide⟩
  · by_cases h2 : countS l = 18446744073709551615
    · unfold quantS; rw [if_neg h, if_pos h2]; exact ⟨by decide, by decide⟩
    · by_cases h3 : countS l = 0
      · unfold quantS; rw [if_neg h, if_neg h2, if_pos h3]; exact ⟨by decide, by decide⟩
      · have := hb.1
        obtain ⟨l1, j, c, l2, -, q1, -, j0, j1, -, -⟩ := quant_some hg ha hb (by omega) (by omega) h2 h3
        rw [q1]
        exact lowS_word j0 j1
theorem rankS_word {l : Bks} (hg : Good l) (v : Int) : Word (rankS l v) := by
  refine satAll_word (s := 0) ⟨by omega, by omega⟩ (wordsB_snd ?_)
  intro x hx
  exact hg.words x (List.takeWhile_subset _ hx)

set_option maxHeartbeats 8000000 in
theorem walk_ranks (ad : Option Addr) (n cap : Nat) (l : Bks) (a b : Int) (w : World) (hl : IsBks w ad n cap l) (ha : (Lit.int .u64 a).wf = true) (hb : (Lit.int .u64 b).wf = true) :
    Calls Try.prog 3 #[.slice ad n cap, .int .u64 a, .int .u64 b] w fun e w' => e = .returned (.bool true) ∧ Below w.heap.size w w' := by
  have ha := u64_of_wf ha
  have hb := u64_of_wf hb
  obtain ⟨hcap, hnc, hnone, hrow⟩ := hl
  have HA := hide ha
  have HB := hide hb
  obtain ⟨a0, a1⟩ := ha
  obtain ⟨b0, b1⟩ := hb
  have HR := hide hrow
  have hn := hrow.2.1
  have K := hide (refcheck_any ad n cap l w hrow)
  have AW := hide awake_any
  have HN := hide hnone
  clear hrow hnone
  by_cases hck : checkS l = false
  · rw [hck] at K
    clear hck
    go_enter Try.func3, Try.ntmps3
    go_wp2_with fail
    refine K.out.mono ?_
    rintro e w1 ⟨rfl, q, rfl⟩
    have B1 := hide (bel_drewN (Below.refl w.heap.size w) q)
    clear K
    generalize w.drewN q = w1 at *
    go_wp2_with fail
    refine (AW.out _).mono ?_
    rintro e w2 ⟨rfl, b2⟩
    have B2 := hide (below_to B1.out b2 (Nat.le_refl _))
    clear b2 B1
    go_wp2
    go_ret
    exact ⟨rfl, B2.out⟩
  have hck : checkS l = true := by simpa using hck
  by_cases hbad : b = 0 ∨ b < a
  · rw [hck] at K
    have hz : ((b == 0) || decide (b < a)) = true := by
      simp only [Bool.or_eq_true, beq_iff_eq, decide_eq_true_eq]
      omega
    clear hck hbad
    obtain ⟨z2, hz2⟩ : ∃ z, (b == 0) = z := ⟨_, rfl⟩
    obtain ⟨z3, hz3⟩ : ∃ z, decide (b < a) = z := ⟨_, rfl⟩
    rw [hz2, hz3] at hz
    cases z2 <;> cases z3 <;> simp at hz
    all_goals
      go_enter Try.func3, Try.ntmps3
      go_wp2_with fail
      refine K.out.mono ?_
      rintro e w1 ⟨rfl, q, rfl⟩
      have B1 := hide (bel_drewN (Below.refl w.heap.size w) q)
      generalize w.drewN q = w1 at *
      go_wp2_with fail
      refine (AW.out _).mono ?_
      rintro e w2 ⟨rfl, b2⟩
      have B2 := hide (below_to B1.out b2 (Nat.le_refl _))
      clear b2 B1
      go_wp2
      go_ret
      exact ⟨rfl, B2.out⟩
  have G := hide (good_from hck HR.out.2.2.1)
  have HCK := hide hck
  rw [hck] at K
  have z2 : (b == 0) = false := by simp; omega
  have z3 : decide (b < a) = false := decide_eq_false (by omega)
  have hab : a ≤ b := by omega
  have hb1 : 0 < b := by omega
  clear hck
  have HBad := hide hbad
  clear hbad
  go_enter Try.func3, Try.ntmps3
  go_wp2_with fail
  refine K.out.mono ?_
  rintro e w1 ⟨rfl, q, rfl⟩
  have B1 := hide (bel_drewN (Below.refl w.heap.size w) q)
  clear K
  generalize w.drewN q = w1 at *
  have BK := hide (buckets_any ad n cap l w1 (HR.out.below B1.out (Nat.le_refl _)) (fun h => (HN.out h).2) (by omega))
  go_wp2_with fail
  refine BK.out.mono ?_
  rintro e w2 ⟨a2, c2, rfl, o2, b2⟩
  have B2 := hide (below_to B1.out b2 (Nat.le_refl _))
  have F := hide (hfrom_ok a2 n c2 l w2 (o2.row hn HR.out.2.2.1) HCK.out)
  clear BK o2 b2 B1
  go_wp2_with fail
  refine F.out.mono ?_
  rintro e w3 ⟨rfl, h3, b3⟩
  have H3 := hide h3
  have B3 := hide (below_to B2.out b3 (Nat.le_refl _))
  have EL := hide (spS_made G.out)
  clear F h3 b3
  obtain ⟨g, HGE⟩ : ∃ g, Hid (w2.heap.size = g) := ⟨_, rfl⟩
  rw [HGE.out] at H3 ⊢
  clear HGE B2
  generalize addAll H0 l = H at *
  have Q := hide (hquant_any g H a b w3 H3.out HA.out HB.out)
  have C := hide (fun W (h : HistAt W g H) => hcount_any g H W h)
  have R := hide (fun v (hv : W64 v) W (h : HistAt W g H) => hrank_any g H v W h hv)
  have QW := hide (quantS_word G.out HA.out HB.out)
  rw [EL.out] at Q C R
  by_cases hs : countS l = 18446744073709551615 ∨ countS l = 0
  · have hq : ∃ x, quantS l a b = (0, x) ∧ x ≠ 0 := by
      have hbad := HBad.out
      unfold quantS
      rw [if_neg hbad]
      by_cases h1 : countS l = 18446744073709551615
      · rw [if_pos h1]; exact ⟨11, rfl, by decide⟩
      · rw [if_neg h1, if_pos (by omega)]; exact ⟨3, rfl, by decide⟩
    obtain ⟨x, hq, hx⟩ := hq
    rw [hq] at Q
    have t1 : (x != 0) = true := by simpa using hx
    clear hq hs hx C R QW
    go_wp2_with fail
    refine Q.out.mono ?_
    rintro e w4 ⟨rfl, b4⟩
    have B4 := hide (below_to B3.out b4 (Nat.le_refl _))
    clear b4 B3 Q
    go_wp2_with fail
    refine (AW.out _).mono ?_
    rintro e w7 ⟨rfl, b7⟩
    have B7 := hide (below_to B4.out b7 (Nat.le_refl _))
    clear b7 B4
    go_wp2
    go_ret
    exact ⟨rfl, B7.out⟩
  have hs1 : countS l ≠ 18446744073709551615 := fun h => hs (Or.inl h)
  have hs2 : countS l ≠ 0 := fun h => hs (Or.inr h)
  obtain ⟨e1, e2, e3, e4⟩ := quant_ranks G.out HA.out HB.out hb1 hab hs1 hs2
  rw [e1] at Q
  have hw := good_words G.out
  have hce : countE l = 0 := by unfold countE; rw [if_neg hs1]
  rw [hce] at C
  have R1 := hide (fun W (h : HistAt W g H) => R.out (quantS l a b).1 QW.out W h)
  have RW1 := rankS_word G.out (quantS l a b).1
  have R2 : Hid ((quantS l a b).1 ≠ 0 → ∀ W (_h : HistAt W g H), Calls Try.prog 11 #[.pointer (some ⟨g, 0, none⟩), .int .u64 ((quantS l a b).1 - 1)] W fun e w' => e = .returned (.int .u64 (rankS l ((quantS l a b).1 - 1))) ∧ ∃ q, w' = W.drewN q) := fun h W hW => R.out _ ⟨by have := QW.out.1; omega, by have := QW.out.2; omega⟩ W hW
  have q0 := QW.out.1
  have q1 := QW.out.2
  clear hs hs1 hs2 hce e1 R QW HBad
  generalize hqv : (quantS l a b).1 = v at *
  clear hqv
  generalize rankS l v = r1 at *
  generalize rankS l (v - 1) = r2 at *
  generalize countS l = N at *
  obtain ⟨n0, n1⟩ := hw
  obtain ⟨m0, m1⟩ := RW1
  go_wp2_with fail
  refine Q.out.mono ?_
  rintro e w4 ⟨rfl, b4⟩
  have B4 := hide (below_to B3.out b4 (Nat.le_refl _))
  have H4 := hide (H3.out.below b4 H3.out.lt)
  have C1 := hide (C.out w4 H4.out)
  have S1 := hide (R1.out w4 H4.out)
  clear b4 B3 Q H3 C R1
  have S2 : Hid (v ≠ 0 → ∀ j, Calls Try.prog 11 #[.pointer (some ⟨g, 0, none⟩), .int .u64 (v - 1)] (w4.drewN j) fun e w' => e = .returned (.int .u64 r2) ∧ ∃ q, w' = (w4.drewN j).drewN q) := fun h j => R2.out h _ ⟨H4.out.heap, H4.out.len, H4.out.words⟩
  clear R2 H4
  by_cases hv : v = 0
  · have t1 : (v == 0) = true := by simpa using hv
    by_cases hab2 : a = b
    · have t2 : (a == b) = true := by simpa using hab2
      have t3 : decide (N ≤ r1) = true := decide_eq_true (e3 hab2)
      clear hab2 hv e2 e3 e4 S2
      go_wp2_with fail
      refine C1.out.mono ?_
      rintro e w5 ⟨rfl, rfl⟩
      go_wp2_with fail
      refine S1.out.mono ?_
      rintro e w6 ⟨rfl, q, rfl⟩
      have B6 := hide (bel_drewN B4.out q)
      clear C1 S1 B4
      generalize w5.drewN q = w6 at *
      go_wp2_with fail
      refine (AW.out _).mono ?_
      rintro e w7 ⟨rfl, b7⟩
      have B7 := hide (below_to B6.out b7 (Nat.le_refl _))
      clear b7 B6
      go_wp2
      go_ret
      exact ⟨rfl, B7.out⟩
    · have t2 : (a == b) = false := by simpa using hab2
      have t3 : decide (1 ≤ r1) = true := decide_eq_true e2
      clear hab2 hv e3 e4 S2
      go_wp2_with fail
      refine C1.out.mono ?_
      rintro e w5 ⟨rfl, rfl⟩
      go_wp2_with fail
      refine S1.out.mono ?_
      rintro e w6 ⟨rfl, q, rfl⟩
      have B6 := hide (bel_drewN B4.out q)
      clear C1 S1 B4
      generalize w5.drewN q = w6 at *
      go_wp2_with fail
      refine (AW.out _).mono ?_
      rintro e w7 ⟨rfl, b7⟩
      have B7 := hide (below_to B6.out b7 (Nat.le_refl _))
      clear b7 B6
      go_wp2
      go_ret
      exact ⟨rfl, B7.out⟩
  · have t1 : (v == 0) = false := by simpa using hv
    have t4 : decide (r2 < N) = true := decide_eq_true (e4.resolve_left hv)
    have S3 := hide (S2.out hv)
    have v1 : 1 ≤ v := by omega
    by_cases hab2 : a = b
    · have t2 : (a == b) = true := by simpa using hab2
      have t3 : decide (N ≤ r1) = true := decide_eq_true (e3 hab2)
      clear hab2 hv e2 e3 e4 S2
      go_wp2_with fail
      refine C1.out.mono ?_
      rintro e w5 ⟨rfl, rfl⟩
      go_wp2_with fail
      refine S1.out.mono ?_
      rintro e w6 ⟨rfl, q, rfl⟩
      have B6 := hide (bel_drewN B4.out q)
      have S4 := hide (S3.out q)
      clear C1 S1 B4 S3
      generalize w5.drewN q = w6 at *
      go_wp2_with fail
      refine S4.out.mono ?_
      rintro e w6' ⟨rfl, q, rfl⟩
      have B6' := hide (bel_drewN B6.out q)
      clear S4 B6
      generalize w6.drewN q = w6' at *
      go_wp2_with fail
      refine (AW.out _).mono ?_
      rintro e w7 ⟨rfl, b7⟩
      have B7 := hide (below_to B6'.out b7 (Nat.le_refl _))
      clear b7 B6'
      go_wp2
      go_ret
      exact ⟨rfl, B7.out⟩
    · have t2 : (a == b) = false := by simpa using hab2
      have t3 : decide (1 ≤ r1) = true := decide_eq_true e2
      clear hab2 hv e3 e4 S2
      go_wp2_with fail
      refine C1.out.mono ?_
      rintro e w5 ⟨rfl, rfl⟩
      go_wp2_with fail
      refine S1.out.mono ?_
      rintro e w6 ⟨rfl, q, rfl⟩
      have B6 := hide (bel_drewN B4.out q)
      have S4 := hide (S3.out q)
      clear C1 S1 B4 S3
      generalize w5.drewN q = w6 at *
      go_wp2_with fail
      refine S4.out.mono ?_
      rintro e w6' ⟨rfl, q, rfl⟩
      have B6' := hide (bel_drewN B6.out q)
      clear S4 B6
      generalize w6.drewN q = w6' at *
      go_wp2_with fail
      refine (AW.out _).mono ?_
      rintro e w7 ⟨rfl, b7⟩
      have B7 := hide (below_to B6'.out b7 (Nat.le_refl _))
      clear b7 B6'
      go_wp2
      go_ret
      exact ⟨rfl, B7.out⟩
end Go.Proofs.Ytjngpdhhkkambac

namespace Go.Proofs.Ytjngpdhhkkambac.histRanks
open Go.ChangeShapes Go.WideShapes Go.ChangeAt Go.RowKit
open Go.ChangeMaps (open_string shut_string)
set_option linter.unusedVariables false

theorem own : ownKnob Try.prog.godebug = none := by kernel_rfl
theorem laidOut : laidOutB Try.prog = true := by kernel_rfl

set_option maxRecDepth 100000 in
theorem lifted (os : Os) (started : os.Started) (H : Type) (enc : TypeId × Value → H) :
    ReturnsInHanded {} Try.checked os 3 .any (Rows.histRanksSpec.pre6 enc Try.prog Try.f3 Rows.histRanksRow.domain false) (Rows.histRanksSpec.post enc Try.prog Try.f3 false true false false) := by
  refine returnsInHanded_of_change_sized (C := Try.checked) own started (by kernel_rfl) Try.func3
    (ChangeSpec.witness6 (enc := enc) (C := Try.checked) false ⟨#[], #[.slice none 0 0, .int .u64 0, .int .u64 0], []⟩ 8 (by kernel_rfl) (by kernel_rfl) (by kernel_rfl) (by kernel_rfl)) ?_
  intro W base args ds gs before hval0 hW hcnd hsz0 _
  have hsz : (DataW.weightsEach Try.prog (Try.f3.params.toList ++ Rows.histRanksSpec.plain.varTypes Try.prog) (ds ++ gs)).all (· ≤ reachBytes) = true := hsz0
  have hval : ∀ (j : Nat) t v, Try.f3.params[j]? = some t → args[j]? = some v → Value.okWide Try.prog W .any base t v := hval0
  have hW' := hW
  obtain ⟨p, q, hA0, hV, rfl, hfz, hnd⟩ := hW
  have hA : DataW.TrodAll enc Try.prog W 0 (fun _ => true) true Try.f3.params.toList args.toList ds p := hA0
  rw [Try.params3] at hA hval hsz
  obtain ⟨v0, vs0, d0, ds0, p0, q0, hargs, rfl, rfl, h0, r0⟩ := trodAll_cons hA
  obtain ⟨v1, vs1, d1, ds1, p1, q1, rfl, rfl, rfl, h1, r1⟩ := trodAll_cons r0
  obtain ⟨v2, vs2, d2, ds2, p2, q2, rfl, rfl, rfl, h2, r2⟩ := trodAll_cons r1
  obtain ⟨rfl, rfl, rfl⟩ := trodAll_nil r2
  obtain rfl : args = #[v0, v1, v2] := by cases args; simp_all
  obtain ⟨rfl, rfl⟩ := trodVars_none hV
  obtain ⟨a0, len0, cap0, rfl⟩ := okWide_slice Try.underlying22 (hval 0 22 v0 rfl rfl)
  have k0 := h0
  have lt0 : ∀ x ∈ p0, x.block < W.heap.size := by obtain ⟨m, hm⟩ := k0; exact DataW.trod_lt m _ _ _ hm
  obtain ⟨z0, w0⟩ : ∃ l, IsBks W a0 len0 cap0 l := by
    obtain ⟨fuel, hf⟩ := h0
    rcases bks_trod hf with ⟨rfl, rfl, rfl⟩ | ⟨ad, l, elems, spare, rfl, hl, h1, h2, hd, hm, hc⟩
    · exact ⟨[], by decide, by decide, fun _ => ⟨rfl, rfl⟩, rfl, by decide, by simp, Or.inl rfl⟩
    · simp only at hd hm
      have hs := sized_slice hsz (j := 0) (t := 22) (e := 42) rfl (by rw [hd]; rfl) Try.underlying22
      rw [show Try.prog.bytesOf 42 = 16 from by kernel_rfl, hm] at hs
      simp only [if_true, reachBytes] at hs
      exact ⟨l, by omega, hl, fun h => by simp at h, bks_row h1 (by omega) h2 hc⟩
  obtain ⟨a1, rfl, rfl, rfl, w1⟩ := open_int Try.underlying23 (hval 1 23 v1 rfl rfl) h1
  obtain ⟨a2, rfl, rfl, rfl, w2⟩ := open_int Try.underlying23 (hval 2 23 v2 rfl rfl) h2
  clear hA0 hval0 hsz0 hsz
  refine (walk_ranks a0 len0 cap0 z0 a1 a2 W w0 w1 w2).mono fun e W' ⟨he, bel⟩ => ?_
  subst he
  exact ⟨_, rfl, _, _, _, [], _, [], hW', trodAll_mk1 (shut_bool Try.underlying4 _), (trodAll_cons_mk (Below.trod laidOut (by kernel_rfl) (of_decide_eq_true (by kernel_rfl)) k0 bel lt0) (trodAll_cons_mk (shut_int Try.underlying23 w1) (trodAll_cons_mk (shut_int Try.underlying23 w2) trodAll_mk0))), rfl, bel.frame _, fun h => by cases h⟩

theorem proved : Rows.HistRanksSaid :=
  OpenClaim.holds_of_wide 3 Try.f3 rfl rfl rfl rfl rfl rfl rfl ⟨rfl, rfl, rfl, rfl, rfl⟩ rfl rfl rfl rfl rfl (by kernel_rfl) Try.func3 (by kernel_rfl)
    (of_decide_eq_true (by kernel_rfl)) (by unfold Func.isWrapper; first | (rw [if_pos (by decide +kernel)]; kernel_rfl) | (rw [if_neg (by decide +kernel)]; exact ⟨rfl, rfl⟩))
    (fun os started H enc _ => lifted os started H enc)
end Go.Proofs.Ytjngpdhhkkambac.histRanks
