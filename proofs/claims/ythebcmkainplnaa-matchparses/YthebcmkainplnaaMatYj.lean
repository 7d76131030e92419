/-
  The document's read, all of it, and its Parse: contracts, for every world (written by gen/matyj.gen.py).
  Conditions: the text has at most 20,000 bytes.
-/
import Derived.Test.YthebcmkainplnaaMatYe
import Derived.Test.YthebcmkainplnaaMatYf
import Derived.Test.YthebcmkainplnaaMatYg
import Derived.Test.YthebcmkainplnaaMatYh
import Derived.Test.YthebcmkainplnaaMatYi
import Derived.Test.YthebcmkainplnaaMatYb
import Derived.Test.YthebcmkainplnaaMatTz
import Derived.Test.YthebcmkainplnaaMatH
import Derived.Test.YthebcmkainplnaaMatLz
namespace Go.Proofs.Ythebcmkainplnaa
open Go.RowKit
set_option maxRecDepth 20000

theorem readR_any (f : Nat) : RdF f := by
  refine Nat.strongRecOn f (fun f ih => ?_)
  intro g g2 n s k w h hb hgg hk hs hn hf
  obtain ⟨f, rfl⟩ : ∃ f', f = f' + 1 := ⟨f - 1, by omega⟩
  by_cases h64 : n = 64
  · exact read_64 f g g2 n s k w h hb hgg hk h64
  · have hn' : n < 64 := by omega
    cases h42 : isS s k false 42 with
    | true => exact read_all f g g2 n s k w h hb hgg hk hs hn' h42
    | false =>
      cases h38 : isS s k false 38 with
      | true => exact read_5 f (fun F hF => ih F hF) g g2 n s k w h hb hgg hk hs hn' hf h42 h38
      | false =>
        cases h124 : isS s k false 124 with
        | true => exact read_6 f (fun F hF => ih F hF) g g2 n s k w h hb hgg hk hs hn' hf h42 h38 h124
        | false =>
          cases h33 : isS s k false 33 with
          | true => exact read_7 f (fun F hF => ih F hF) g g2 n s k w h hb hgg hk hs hn' hf h42 h38 h124 h33
          | false => exact read_nm f g g2 n s k w h hb hgg hk hs hn' h42 h38 h124 h33

set_option maxHeartbeats 8000000 in
theorem parseR_any (s : ByteArray) (w : World) (hs : s.size ≤ 20000) :
    Calls Try.prog 21 #[.string s] w fun e w' => PsP s.toList w e w' := by
  obtain ⟨W, hW⟩ : ∃ W, Hid (w.alloc (.cells #[.int .i64 0, .string ⟨#[]⟩, .string ⟨#[]⟩, .slice none 0 0, .slice none 0 0] 25) = W) := ⟨_, rfl⟩
  have LW : Hid (Below w.heap.size w W) := by rw [← hW.out]; exact (Below.refl _ _).alloc (Nat.le_refl _) _
  have B0 : Hid (BoxM W w.heap.size hm0) := by rw [← hW.out]; exact BoxM.zero w
  have SZ : Hid (W.heap.size = w.heap.size + 1) := by rw [← hW.out]; show _ = _; simp
  have ID := hide (refdeep_any s W hs)
  have Z0 : Hid (∀ u h', Below w.heap.size w u → Below w.heap.size w (put5 u w.heap.size h')) := fun u h' hb => hb.trans ((ch_put5 u w.heap.size h').below hb.size (fun k hk e => by omega))
  cases hd : dpS 0 0 s.toList with
  | true =>
    rw [hd] at ID
    have DN : Hid (PsP s.toList w (.returned (.tuple #[.agg #[.int .i64 0, .string ⟨#[]⟩, .string ⟨#[]⟩, .slice none 0 0, .slice none 0 0], .int .i64 18])) (put5 W w.heap.size hm0)) :=
      ⟨Z0.out W hm0 LW.out, hm0, zeroM, 18, rfl, seeM_zero _ _, Or.inl ⟨hd, rfl, rfl⟩⟩
    clear hd
    go_enter Try.func21, Try.ntmps21
    go_upto_region 1 with fail
    rw [hW.out]
    clear hW
    go_wp2_with fail
    with_reducible refine ID.out.mono ?_
    rintro e w' ⟨rfl, hw⟩
    rw [hw]
    clear hw ID
    have BZ := hide (B0.out)
    obtain ⟨d0, d1, d2, d3, d4, df⟩ := BZ.out.all
    have f0 := df 0
    have f1 := df 1
    have f2 := df 2
    have f3 := df 3
    have f4 := df 4
    dsimp only [hm0] at d0 d1 d2 d3 d4
    have FP := hide (BZ.out.put hm0)
    clear df
    go_wp2
    obtain ⟨e0, e1, e2, e3, e4, _⟩ := FP.out.all
    unfold put5 at e0 e1 e2 e3 e4
    dsimp only [hm0] at e0 e1 e2 e3 e4
    exact bodyPost_ret (v := .tuple #[.agg #[.int .i64 0, .string ⟨#[]⟩, .string ⟨#[]⟩, .slice none 0 0, .slice none 0 0], .int .i64 18]) (by simp [results, Try.results21, go_sem, e0, e1, e2, e3, e4]) rfl DN.out
  | false =>
    rw [hd] at ID
    obtain ⟨W1, hW1⟩ : ∃ W1, Hid (W.alloc (.cells #[.string s, .int .i64 0, .bool false] 73) = W1) := ⟨_, rfl⟩
    obtain ⟨W2, hW2⟩ : ∃ W2, Hid (W1.alloc (.cells #[.int .i64 0] 3) = W2) := ⟨_, rfl⟩
    have S1 : Hid (W1.heap.size = W.heap.size + 1) := by rw [← hW1.out]; show _ = _; simp
    have A1 : Hid (Below W.heap.size W W1) := by rw [← hW1.out]; exact (Below.refl _ _).alloc (Nat.le_refl _) _
    have A2 : Hid (Below W1.heap.size W1 W2) := by rw [← hW2.out]; exact (Below.refl _ _).alloc (Nat.le_refl _) _
    have L2 : Hid (Below w.heap.size w W2) := bel_to (bel_to LW.out (Nat.le_refl _) A1.out) (Nat.le_refl _) A2.out
    have B2 : Hid (BoxM W2 w.heap.size hm0) := (B0.out.block (A1.out.block _ B0.out.lt)).block (A2.out.block _ (by have := B0.out.lt; have := A1.out.size; omega))
    have T1 : Hid (SB W1 W.heap.size s 0 false) := by rw [← hW1.out]; exact heap_alloc_new W _
    have T2 : Hid (SB W2 W.heap.size s 0 false) := T1.out.keep (A2.out.block _ T1.out.lt)
    have N2 : Hid (BX W2 W1.heap.size ((0 : Nat) : Int)) := by rw [← hW2.out]; exact bx_new W1 0
    have RD := hide (readR_any 300 W.heap.size W1.heap.size 0 s 0 W2 T2.out N2.out (by have := S1.out; omega) (Nat.zero_le _) hs (by decide) (by decide))
    rw [Nat.sub_zero, List.drop_zero] at RD
    go_enter Try.func21, Try.ntmps21
    go_upto_region 1 with fail
    rw [hW.out]
    clear hW
    go_wp2_with fail
    with_reducible refine ID.out.mono ?_
    rintro e w' ⟨rfl, hw⟩
    rw [hw]
    clear hw ID
    go_upto_region 4 with fail
    rw [hW1.out]
    go_upto_region 5 with fail
    rw [hW2.out]
    clear hW1 hW2
    go_wp2_with fail
    with_reducible refine RD.out.mono ?_
    rintro e u1 ⟨c1, h1, k1, rfl, hk1, p1⟩
    obtain ⟨op1, nm1, vl1, va1, vn1, vc1, ka1, kn1, kc1⟩ := h1
    dsimp only
    have HB1 : Hid (Below w.heap.size w u1) := L2.out.trans (c1.below L2.out.size (fun k hk e => by have := SZ.out; have := S1.out; omega))
    have BX1 := hide (B2.out.block (c1.block _ B2.out.lt (by have := SZ.out; have := S1.out; omega)))
    obtain ⟨u2, hu2⟩ : ∃ u2, Hid (u1.alloc (.cells #[.int .i64 op1, .string nm1, .string vl1, .slice va1 vn1 vc1, .slice ka1 kn1 kc1] 25) = u2) := ⟨_, rfl⟩
    have A3 : Hid (Below u1.heap.size u1 u2) := by rw [← hu2.out]; exact (Below.refl _ _).alloc (Nat.le_refl _) _
    have X2 : Hid (BoxM u2 u1.heap.size ⟨op1, nm1, vl1, va1, vn1, vc1, ka1, kn1, kc1⟩) := by rw [← hu2.out]; exact boxM_new u1 ⟨op1, nm1, vl1, va1, vn1, vc1, ka1, kn1, kc1⟩
    have BX2 := hide (BX1.out.block (A3.out.block _ BX1.out.lt))
    have L3 := hide (bel_to HB1.out (Nat.le_refl _) A3.out)
    have S2 : Hid (w.heap.size + 1 ≤ W2.heap.size) := by have := B2.out.lt; show _ ≤ _; omega
    go_upto_region 6 with fail
    rw [hu2.out]
    clear hu2 RD LW B0 T1 N2 T2 B2
    obtain ⟨x0, x1, x2, x3, x4, _⟩ := X2.out.all
    dsimp only at x0 x1 x2 x3 x4
    cases hu : lxM 300 64 s.toList with
    | none =>
      rw [hu] at p1
      have t1 : SB u1 W.heap.size s k1 true := p1
      have t2 := t1.keep (A3.out.block _ t1.lt)
      obtain ⟨s0, s1, s2, _⟩ := t2.cell
      have HP : Hid (parseM s.toList = none) := by
        show _ = _
        cases hp : parseM s.toList with
        | none => rfl
        | some m =>
          obtain ⟨left, hl⟩ := lx_parse.1 m hp
          rw [hu] at hl
          cases hl
      have DN : Hid (PsP s.toList w (.returned (.tuple #[.agg #[.int .i64 0, .string ⟨#[]⟩, .string ⟨#[]⟩, .slice none 0 0, .slice none 0 0], .int .i64 17])) (put5 u2 w.heap.size hm0)) :=
        ⟨Z0.out _ hm0 L3.out, hm0, zeroM, 17, rfl, seeM_zero _ _, Or.inr (Or.inl ⟨hd, HP.out, rfl, rfl⟩)⟩
      clear c1 p1 t1 t2 hd hu
      have BZ := hide (BX2.out)
      obtain ⟨d0, d1, d2, d3, d4, df⟩ := BZ.out.all
      have f0 := df 0
      have f1 := df 1
      have f2 := df 2
      have f3 := df 3
      have f4 := df 4
      dsimp only [hm0] at d0 d1 d2 d3 d4
      have FP := hide (BZ.out.put hm0)
      clear df
      go_wp2
      obtain ⟨e0, e1, e2, e3, e4, _⟩ := FP.out.all
      unfold put5 at e0 e1 e2 e3 e4
      dsimp only [hm0] at e0 e1 e2 e3 e4
      exact bodyPost_ret (v := .tuple #[.agg #[.int .i64 0, .string ⟨#[]⟩, .string ⟨#[]⟩, .slice none 0 0, .slice none 0 0], .int .i64 17]) (by simp [results, Try.results21, go_sem, e0, e1, e2, e3, e4]) rfl DN.out
    | some q =>
      obtain ⟨m, r, left⟩ := q
      rw [hu] at p1
      obtain ⟨t1, hd1, q1, -⟩ : SB u1 W.heap.size s k1 false ∧ s.toList.drop k1 = r ∧ SeeM (fun b => W2.heap.size ≤ b) u1 m ⟨op1, nm1, vl1, va1, vn1, vc1, ka1, kn1, kc1⟩ ∧ ∃ n' : Nat, BX u1 W1.heap.size n' ∧ n' ≤ 64 ∧ 64 - n' = left ∧ 0 < n' := p1
      have t2 := t1.keep (A3.out.block _ t1.lt)
      obtain ⟨s0, s1, s2, _⟩ := t2.cell
      have Q2 := hide (q1.below A3.out)
      have LP := hide (lx_parse.2 m r left hu)
      have HLX : Hid (∀ m2 left2, lxM 300 64 s.toList = some (m2, [], left2) → m2 = m) := fun m2 left2 h2 => by
        rw [hu] at h2
        simp only [Option.some.injEq, Prod.mk.injEq] at h2
        exact h2.1.symm
      have TC := hide (refchkM_any _ m ⟨op1, nm1, vl1, va1, vn1, vc1, ka1, kn1, kc1⟩ u2 Q2.out)
      dsimp only at TC
      clear c1 t1 t2 hu q1
      go_wp2_with fail
      with_reducible refine TC.out.mono ?_
      rintro e u3 ⟨rfl, k3⟩
      have L4 := hide (bel_to L3.out (Nat.le_refl _) k3)
      have BX3 := hide (BX2.out.block (k3.block _ BX2.out.lt))
      have X3 := hide (X2.out.block (k3.block _ X2.out.lt))
      have Q3 := hide (Q2.out.below k3)
      clear TC k3 x0 x1 x2 x3 x4 s0 s1 s2 L3 BX2 X2 Q2
      obtain ⟨x0, x1, x2, x3, x4, _⟩ := X3.out.all
      dsimp only at x0 x1 x2 x3 x4
      cases hc : chkM m with
      | false =>
        have HP : Hid (parseM s.toList = none) := by
          show _ = _
          cases hp : parseM s.toList with
          | none => rfl
          | some m2 =>
            obtain ⟨hc2, ht2⟩ := parseM_iff.1 hp
            obtain ⟨left2, hl2⟩ := lx_parse.1 m2 hp
            exact absurd (HLX.out m2 left2 hl2) (fun e => by subst e; exact (by rw [hc] at hc2; cases hc2))
        have DN : Hid (PsP s.toList w (.returned (.tuple #[.agg #[.int .i64 0, .string ⟨#[]⟩, .string ⟨#[]⟩, .slice none 0 0, .slice none 0 0], .int .i64 17])) (put5 u3 w.heap.size hm0)) :=
          ⟨Z0.out _ hm0 L4.out, hm0, zeroM, 17, rfl, seeM_zero _ _, Or.inr (Or.inl ⟨hd, HP.out, rfl, rfl⟩)⟩
        clear hc hd LP HLX
        have BZ := hide (BX3.out)
        obtain ⟨d0, d1, d2, d3, d4, df⟩ := BZ.out.all
        have f0 := df 0
        have f1 := df 1
        have f2 := df 2
        have f3 := df 3
        have f4 := df 4
        dsimp only [hm0] at d0 d1 d2 d3 d4
        have FP := hide (BZ.out.put hm0)
        clear df
        go_wp2
        obtain ⟨e0, e1, e2, e3, e4, _⟩ := FP.out.all
        unfold put5 at e0 e1 e2 e3 e4
        dsimp only [hm0] at e0 e1 e2 e3 e4
        exact bodyPost_ret (v := .tuple #[.agg #[.int .i64 0, .string ⟨#[]⟩, .string ⟨#[]⟩, .slice none 0 0, .slice none 0 0], .int .i64 17]) (by simp [results, Try.results21, go_sem, e0, e1, e2, e3, e4]) rfl DN.out
      | true =>
        have TX := hide (rtextP_any m _ ⟨op1, nm1, vl1, va1, vn1, vc1, ka1, kn1, kc1⟩ u3 Q3.out (okM_of hc))
        dsimp only at TX
        go_wp2_with fail
        with_reducible refine TX.out.mono ?_
        rintro e u4 ⟨rfl, k4⟩
        have L5 := hide (bel_to L4.out (Nat.le_refl _) k4)
        have BX4 := hide (BX3.out.block (k4.block _ BX3.out.lt))
        have X4 := hide (X3.out.block (k4.block _ X3.out.lt))
        have Q4 := hide (Q3.out.below k4)
        clear TX k4 x0 x1 x2 x3 x4 L4 BX3 X3 Q3
        obtain ⟨x0, x1, x2, x3, x4, _⟩ := X4.out.all
        dsimp only at x0 x1 x2 x3 x4
        by_cases he : textM m = s.toList
        · have hs2 : bar (textM m) = s := ba_ext (by rw [bar_list]; exact he)
          have et : (s.toList == s.toList) = true := by simp
          have en : (s.toList != s.toList) = false := by simp
          have HP : Hid (parseM s.toList = some m) := LP.out.1 ⟨hc, he⟩
          have DN : Hid (PsP s.toList w (.returned (.tuple #[.agg #[.int .i64 op1, .string nm1, .string vl1, .slice va1 vn1 vc1, .slice ka1 kn1 kc1], .int .i64 0])) (put5 u4 w.heap.size ⟨op1, nm1, vl1, va1, vn1, vc1, ka1, kn1, kc1⟩)) :=
            ⟨Z0.out _ _ L5.out, ⟨op1, nm1, vl1, va1, vn1, vc1, ka1, kn1, kc1⟩, m, 0, rfl, see_box (Q4.out.mono (fun b _ hb => Nat.le_trans S2.out hb)) rfl, Or.inr (Or.inr ⟨hd, HP.out, rfl⟩)⟩
          rw [hs2]
          clear hc hd he hs2 LP HLX
          have BZ := hide (BX4.out)
          obtain ⟨d0, d1, d2, d3, d4, df⟩ := BZ.out.all
          have f0 := df 0
          have f1 := df 1
          have f2 := df 2
          have f3 := df 3
          have f4 := df 4
          dsimp only [hm0] at d0 d1 d2 d3 d4
          have FP := hide (BZ.out.put ⟨op1, nm1, vl1, va1, vn1, vc1, ka1, kn1, kc1⟩)
          clear df
          go_wp2
          obtain ⟨e0, e1, e2, e3, e4, _⟩ := FP.out.all
          unfold put5 at e0 e1 e2 e3 e4
          dsimp only [hm0] at e0 e1 e2 e3 e4
          exact bodyPost_ret (v := .tuple #[.agg #[.int .i64 op1, .string nm1, .string vl1, .slice va1 vn1 vc1, .slice ka1 kn1 kc1], .int .i64 0]) (by simp [results, Try.results21, go_sem, e0, e1, e2, e3, e4]) rfl DN.out
        · have et : ((bar (textM m)).toList == s.toList) = false := by
            rw [bar_list, beq_eq_false_iff_ne]
            exact he
          have en : ((bar (textM m)).toList != s.toList) = true := by rw [bne, et]; rfl
          have HP : Hid (parseM s.toList = none) := by
            show _ = _
            cases hp : parseM s.toList with
            | none => rfl
            | some m2 =>
              obtain ⟨hc2, ht2⟩ := parseM_iff.1 hp
              obtain ⟨left2, hl2⟩ := lx_parse.1 m2 hp
              exact absurd (HLX.out m2 left2 hl2) (fun e => by subst e; exact he ht2)
          have DN : Hid (PsP s.toList w (.returned (.tuple #[.agg #[.int .i64 0, .string ⟨#[]⟩, .string ⟨#[]⟩, .slice none 0 0, .slice none 0 0], .int .i64 17])) (put5 u4 w.heap.size hm0)) :=
            ⟨Z0.out _ hm0 L5.out, hm0, zeroM, 17, rfl, seeM_zero _ _, Or.inr (Or.inl ⟨hd, HP.out, rfl, rfl⟩)⟩
          clear hc hd LP HLX
          generalize bar (textM m) = tx at *
          have BZ := hide (BX4.out)
          obtain ⟨d0, d1, d2, d3, d4, df⟩ := BZ.out.all
          have f0 := df 0
          have f1 := df 1
          have f2 := df 2
          have f3 := df 3
          have f4 := df 4
          dsimp only [hm0] at d0 d1 d2 d3 d4
          have FP := hide (BZ.out.put hm0)
          clear df
          go_wp2
          obtain ⟨e0, e1, e2, e3, e4, _⟩ := FP.out.all
          unfold put5 at e0 e1 e2 e3 e4
          dsimp only [hm0] at e0 e1 e2 e3 e4
          exact bodyPost_ret (v := .tuple #[.agg #[.int .i64 0, .string ⟨#[]⟩, .string ⟨#[]⟩, .slice none 0 0, .slice none 0 0], .int .i64 17]) (by simp [results, Try.results21, go_sem, e0, e1, e2, e3, e4]) rfl DN.out
end Go.Proofs.Ythebcmkainplnaa
