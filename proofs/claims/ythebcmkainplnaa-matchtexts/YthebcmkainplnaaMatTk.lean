/-
  The law MatchTexts, walked: the text of a matcher that may be is the document's, and is read back as that matcher; the document's examples hold (written by gen/mattk.gen.py).
  Conditions: none.
-/
import Derived.Test.YthebcmkainplnaaMatJ
import Derived.Test.YthebcmkainplnaaMatH
import Derived.Test.YthebcmkainplnaaMatTz
import Derived.Test.YthebcmkainplnaaMatS
namespace Go.Proofs.Ythebcmkainplnaa
open Go.RowKit
set_option maxRecDepth 20000

theorem psP_of {m : Mt} (hc : chkM m = true) {w w' : World} {e : Ending} (h : PsP (textM m) w e w') : Below w.heap.size w w' ∧ ∃ h : Hm, e = .returned (.tuple #[.agg #[.int .i64 h.op, .string h.nm, .string h.vl, .slice h.va h.vn h.vc, .slice h.ka h.kn h.kc], .int .i64 0]) ∧ SeeM (fun b => w.heap.size ≤ b) w' m h := by
  obtain ⟨hb, h, m', er, he, hs, hh⟩ := h
  have h1 := text_flat hc
  have h2 := parseM_iff.2 ⟨hc, rfl⟩
  refine ⟨hb, ?_⟩
  rcases hh with ⟨h3, -, -⟩ | ⟨-, h3, -, -⟩ | ⟨-, h3, rfl⟩
  · rw [h1] at h3
    cases h3
  · rw [h2] at h3
    cases h3
  · rw [h2] at h3
    simp only [Option.some.injEq] at h3
    subst h3
    exact ⟨h, he, hs⟩
set_option maxHeartbeats 4000000 in
theorem textsM_any (m : Mt) (h : Hm) (w : World) (q : SeeM (fun _ => True) w m h) :
    Calls Try.prog 5 #[.agg #[.int .i64 h.op, .string h.nm, .string h.vl, .slice h.va h.vn h.vc, .slice h.ka h.kn h.kc]] w fun e w' => e = .returned (.bool true) ∧ Below w.heap.size w w' := by
  obtain ⟨op, nm, vl, va, vn, vc, ka, kn, kc⟩ := h
  dsimp only
  obtain ⟨W, hW⟩ : ∃ W, Hid (w.alloc (.cells #[.int .i64 op, .string nm, .string vl, .slice va vn vc, .slice ka kn kc] 25) = W) := ⟨_, rfl⟩
  have LW : Hid (Below w.heap.size w W) := by rw [← hW.out]; exact (Below.refl _ _).alloc (Nat.le_refl _) _
  have B : Hid (BoxM W w.heap.size ⟨op, nm, vl, va, vn, vc, ka, kn, kc⟩) := by rw [← hW.out]; exact boxM_new w ⟨op, nm, vl, va, vn, vc, ka, kn, kc⟩
  have T1 := hide (tinyT_any (fun _ => True) m _ W (q.below LW.out))
  have T2 := hide (fun u (hu : Below w.heap.size w u) => refchkM_any (fun _ => True) m ⟨op, nm, vl, va, vn, vc, ka, kn, kc⟩ u (q.below hu))
  dsimp only at T1 T2
  have AW := hide awakeM_any
  obtain ⟨b0, b1, b2, b3, b4, _⟩ := B.out.all
  dsimp only at b0 b1 b2 b3 b4
  have HQ := hide q
  clear q
  go_enter Try.func5, Try.ntmps5
  go_upto_region 1 with fail
  rw [hW.out]
  clear hW
  go_wp2_with fail
  with_reducible refine T1.out.mono ?_
  rintro e v1 ⟨rfl, k1⟩
  have L1 : Hid (Below w.heap.size w v1) := bel_to LW.out (Nat.le_refl _) k1
  have B1 := hide (B.out.block (k1.block _ B.out.lt))
  clear T1 k1 b0 b1 b2 b3 b4 B LW
  obtain ⟨b0, b1, b2, b3, b4, _⟩ := B1.out.all
  dsimp only at b0 b1 b2 b3 b4
  cases ht : tinyM m with
  | false =>
    go_wp2_with fail
    with_reducible refine (AW.out _).mono ?_
    rintro e v2 ⟨rfl, k2⟩
    have L2 := hide (bel_to L1.out (Nat.le_refl _) k2)
    clear k2
    go_wp2
    go_ret
    exact ⟨rfl, L2.out⟩
  | true =>
    go_wp2_with fail
    with_reducible refine (T2.out _ L1.out).mono ?_
    rintro e v2 ⟨rfl, k2⟩
    have L2 := hide (bel_to L1.out (Nat.le_refl _) k2)
    have B2 := hide (B1.out.block (k2.block _ B1.out.lt))
    clear T2 k2 b0 b1 b2 b3 b4 B1 L1
    obtain ⟨b0, b1, b2, b3, b4, _⟩ := B2.out.all
    dsimp only at b0 b1 b2 b3 b4
    cases hc : chkM m with
    | false =>
      go_wp2_with fail
      with_reducible refine (AW.out _).mono ?_
      rintro e v3 ⟨rfl, k2⟩
      have L3 := hide (bel_to L2.out (Nat.le_refl _) k2)
      clear k2
      go_wp2
      go_ret
      exact ⟨rfl, L3.out⟩
    | true =>
      have TM := hide (fun u (hu : Below w.heap.size w u) => copyM_any (fun _ => True) m ⟨op, nm, vl, va, vn, vc, ka, kn, kc⟩ u (HQ.out.below hu) ht)
      have TT := hide (fun S h2 u (q2 : SeeM S u m h2) => textT_any S m h2 u q2 hc)
      have hsz : (bar (textM m)).size ≤ 20000 := by rw [bar_size]; have := (okM_of hc).len; omega
      have TP := hide (fun u => (parseT_any (bar (textM m)) u hsz).mono fun e w' h => psP_of hc (by rw [bar_list] at h; exact h))
      have TR := hide (fun u (hu : Below w.heap.size w u) => rtextP_any m (fun _ => True) ⟨op, nm, vl, va, vn, vc, ka, kn, kc⟩ u (HQ.out.below hu) (okM_of hc))
      have TS := hide (fun S h2 u (q2 : SeeM S u m h2) (hu : Below w.heap.size w u) => same_any m S h2 m (fun _ => True) ⟨op, nm, vl, va, vn, vc, ka, kn, kc⟩ u q2 (HQ.out.below hu))
      rw [sameB_self] at TS
      dsimp only at TM TR TS
      generalize bar (textM m) = tx at *
      have et : (tx.toList == tx.toList) = true := by simp
      clear ht hc
      go_wp2_with fail
      with_reducible refine (TM.out _ L2.out).mono ?_
      rintro e v3 ⟨⟨op2, nm2, vl2, va2, vn2, vc2, ka2, kn2, kc2⟩, rfl, s2, k3⟩
      dsimp only
      have L3 := hide (bel_to L2.out (Nat.le_refl _) k3)
      have B3 := hide (B2.out.block (k3.block _ B2.out.lt))
      have X3 := hide (TT.out _ ⟨op2, nm2, vl2, va2, vn2, vc2, ka2, kn2, kc2⟩ v3 s2)
      dsimp only at X3
      clear k3 s2 b0 b1 b2 b3 b4 B2 L2 TM TT
      go_wp2_with fail
      with_reducible refine X3.out.mono ?_
      rintro e v4 ⟨rfl, k4⟩
      have L4 := hide (bel_to L3.out (Nat.le_refl _) k4)
      have B4 := hide (B3.out.block (k4.block _ B3.out.lt))
      clear k4 X3 B3 L3
      go_wp2_with fail
      with_reducible refine (TP.out _).mono ?_
      rintro e v5 ⟨k5, ⟨op3, nm3, vl3, va3, vn3, vc3, ka3, kn3, kc3⟩, rfl, s5⟩
      dsimp only
      obtain ⟨v6, hv6⟩ : ∃ v6, Hid (v5.alloc (.cells #[.int .i64 op3, .string nm3, .string vl3, .slice va3 vn3 vc3, .slice ka3 kn3 kc3] 25) = v6) := ⟨_, rfl⟩
      have A6 : Hid (Below v5.heap.size v5 v6) := by rw [← hv6.out]; exact (Below.refl _ _).alloc (Nat.le_refl _) _
      have X6 : Hid (BoxM v6 v5.heap.size ⟨op3, nm3, vl3, va3, vn3, vc3, ka3, kn3, kc3⟩) := by rw [← hv6.out]; exact boxM_new v5 ⟨op3, nm3, vl3, va3, vn3, vc3, ka3, kn3, kc3⟩
      have L5 := hide (bel_to L4.out (Nat.le_refl _) k5)
      have L6 := hide (bel_to L5.out (Nat.le_refl _) A6.out)
      have B5 := hide (B4.out.block (k5.block _ B4.out.lt))
      have B6 := hide (B5.out.block (A6.out.block _ B5.out.lt))
      have S6 := hide (s5.below A6.out)
      clear k5 s5 B4 L4 TP B5 L5
      go_upto_region 5 with fail
      rw [hv6.out]
      clear hv6
      obtain ⟨b0, b1, b2, b3, b4, _⟩ := B6.out.all
      dsimp only at b0 b1 b2 b3 b4
      go_wp2_with fail
      with_reducible refine (TR.out _ L6.out).mono ?_
      rintro e v7 ⟨rfl, k7⟩
      have L7 := hide (bel_to L6.out (Nat.le_refl _) k7)
      have B7 := hide (B6.out.block (k7.block _ B6.out.lt))
      have X7 := hide (X6.out.block (k7.block _ X6.out.lt))
      have S7 := hide (S6.out.below k7)
      clear k7 b0 b1 b2 b3 b4 B6 X6 S6 L6 TR A6
      obtain ⟨b0, b1, b2, b3, b4, _⟩ := B7.out.all
      obtain ⟨c0, c1, c2, c3, c4, _⟩ := X7.out.all
      dsimp only at b0 b1 b2 b3 b4 c0 c1 c2 c3 c4
      have Z7 := hide (TS.out _ ⟨op3, nm3, vl3, va3, vn3, vc3, ka3, kn3, kc3⟩ v7 S7.out L7.out)
      dsimp only at Z7
      go_wp2_with fail
      with_reducible refine Z7.out.mono ?_
      rintro e v8 ⟨rfl, k8⟩
      have L8 := hide (bel_to L7.out (Nat.le_refl _) k8)
      clear k8 b0 b1 b2 b3 b4 c0 c1 c2 c3 c4 Z7
      go_wp2_with fail
      with_reducible refine (AW.out _).mono ?_
      rintro e v9 ⟨rfl, k9⟩
      have L9 := hide (bel_to L8.out (Nat.le_refl _) k9)
      clear k9
      go_wp2
      go_ret
      exact ⟨rfl, L9.out⟩
end Go.Proofs.Ythebcmkainplnaa
