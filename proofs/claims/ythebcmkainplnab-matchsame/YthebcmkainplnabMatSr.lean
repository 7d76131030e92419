/-
  The law MatchSame, walked: two matchers are the same just where their texts are; a copy is the same; the document's examples hold (written by gen/matsr.gen.py).
  Conditions: none.
-/
import Derived.Test.YthebcmkainplnabMatJ
import Derived.Test.YthebcmkainplnabMatSa
namespace Go.Proofs.Ythebcmkainplnab
open Go.RowKit
set_option maxRecDepth 20000

theorem keep10c {w v v' : World} {B : Nat} {p0 p1 p2 p3 p4 q0 q1 q2 q3 q4 : Addr} {xp0 xp1 xp2 xp3 xp4 xq0 xq1 xq2 xq3 xq4 : Value} (hb : Below v.heap.size v v')
    (h : (v.cell? p0 = some xp0 ∧ v.cell? p1 = some xp1 ∧ v.cell? p2 = some xp2 ∧ v.cell? p3 = some xp3 ∧ v.cell? p4 = some xp4) ∧ (v.cell? q0 = some xq0 ∧ v.cell? q1 = some xq1 ∧ v.cell? q2 = some xq2 ∧ v.cell? q3 = some xq3 ∧ v.cell? q4 = some xq4) ∧ Hid (B ≤ v.heap.size ∧ Below B w v)) : (v'.cell? p0 = some xp0 ∧ v'.cell? p1 = some xp1 ∧ v'.cell? p2 = some xp2 ∧ v'.cell? p3 = some xp3 ∧ v'.cell? p4 = some xp4) ∧ (v'.cell? q0 = some xq0 ∧ v'.cell? q1 = some xq1 ∧ v'.cell? q2 = some xq2 ∧ v'.cell? q3 = some xq3 ∧ v'.cell? q4 = some xq4) ∧ Hid (B ≤ v'.heap.size ∧ Below B w v') := by
  have k : ∀ {p : Addr} {x : Value}, v.cell? p = some x → v'.cell? p = some x := fun {p x} e => by
    rw [hb.cell (World.block_lt_of_cell? v _ e)]; exact e
  obtain ⟨⟨a0, a1, a2, a3, a4⟩, ⟨c0, c1, c2, c3, c4⟩, l1, l2⟩ := h
  exact ⟨⟨k a0, k a1, k a2, k a3, k a4⟩, ⟨k c0, k c1, k c2, k c3, k c4⟩, Nat.le_trans l1 hb.size, l2.trans (hb.mono l1)⟩
theorem same_text {m n : Mt} (h1 : chkM m = true) (h2 : chkM n = true) : ((bar (textM m)).toList == (bar (textM n)).toList) = sameB m n := by
  rw [bar_list, bar_list, Bool.eq_iff_iff, beq_iff_eq, sameB_iff]
  exact ⟨fun e => textM_inj h1 h2 e, fun e => by rw [e]⟩

set_option maxHeartbeats 8000000 in
theorem sameL_any (m n : Mt) (h1 h2 : Hm) (w : World) (q1 : SeeM (fun _ => True) w m h1) (q2 : SeeM (fun _ => True) w n h2) :
    Calls Try.prog 3 #[.agg #[.int .i64 h1.op, .string h1.nm, .string h1.vl, .slice h1.va h1.vn h1.vc, .slice h1.ka h1.kn h1.kc], .agg #[.int .i64 h2.op, .string h2.nm, .string h2.vl, .slice h2.va h2.vn h2.vc, .slice h2.ka h2.kn h2.kc]] w fun e w' => e = .returned (.bool true) ∧ Below w.heap.size w w' := by
  obtain ⟨op1, nm1, vl1, va1, vn1, vc1, ka1, kn1, kc1⟩ := h1
  obtain ⟨op2, nm2, vl2, va2, vn2, vc2, ka2, kn2, kc2⟩ := h2
  dsimp only
  obtain ⟨W, hW⟩ : ∃ W, Hid ((w.alloc (.cells #[.int .i64 op1, .string nm1, .string vl1, .slice va1 vn1 vc1, .slice ka1 kn1 kc1] 25)).alloc (.cells #[.int .i64 op2, .string nm2, .string vl2, .slice va2 vn2 vc2, .slice ka2 kn2 kc2] 25) = W) := ⟨_, rfl⟩
  have LW : Hid (Below w.heap.size w W) := by rw [← hW.out]; exact bel_al (bel_al (Below.refl _ _) (Nat.le_refl _) _) (Nat.le_refl _) _
  have BM : Hid (BoxM W w.heap.size ⟨op1, nm1, vl1, va1, vn1, vc1, ka1, kn1, kc1⟩) := by
    rw [← hW.out]
    exact (boxM_new w ⟨op1, nm1, vl1, va1, vn1, vc1, ka1, kn1, kc1⟩).block (Below.heap_alloc _ _ _ (by simp))
  have BN : Hid (BoxM W (w.heap.size + 1) ⟨op2, nm2, vl2, va2, vn2, vc2, ka2, kn2, kc2⟩) := by
    rw [← hW.out]
    have := boxM_new (w.alloc (.cells #[.int .i64 op1, .string nm1, .string vl1, .slice va1 vn1 vc1, .slice ka1 kn1 kc1] 25)) ⟨op2, nm2, vl2, va2, vn2, vc2, ka2, kn2, kc2⟩
    rwa [show (w.alloc (.cells #[.int .i64 op1, .string nm1, .string vl1, .slice va1 vn1 vc1, .slice ka1 kn1 kc1] 25)).heap.size = w.heap.size + 1 by simp] at this
  have T1 := hide (fun u (hu : Below w.heap.size w u) => tinyT_any (fun _ => True) m ⟨op1, nm1, vl1, va1, vn1, vc1, ka1, kn1, kc1⟩ u (q1.below hu))
  have T2 := hide (fun u (hu : Below w.heap.size w u) => tinyT_any (fun _ => True) n ⟨op2, nm2, vl2, va2, vn2, vc2, ka2, kn2, kc2⟩ u (q2.below hu))
  have C1 := hide (fun u (hu : Below w.heap.size w u) => refchkM_any (fun _ => True) m ⟨op1, nm1, vl1, va1, vn1, vc1, ka1, kn1, kc1⟩ u (q1.below hu))
  have C2 := hide (fun u (hu : Below w.heap.size w u) => refchkM_any (fun _ => True) n ⟨op2, nm2, vl2, va2, vn2, vc2, ka2, kn2, kc2⟩ u (q2.below hu))
  dsimp only at T1 T2 C1 C2
  have AW := hide awakeM_any
  have Q1 := hide q1
  have Q2 := hide q2
  clear q1 q2
  obtain ⟨b0, b1, b2, b3, b4, _⟩ := BM.out.all
  obtain ⟨c0, c1, c2, c3, c4, _⟩ := BN.out.all
  dsimp only at b0 b1 b2 b3 b4 c0 c1 c2 c3 c4
  go_enter Try.func3, Try.ntmps3
  go_upto_region 1 with fail
  rw [hW.out]
  clear hW
  go_wp2_with fail
  with_reducible refine (T1.out _ LW.out).mono ?_
  rintro e v1 ⟨rfl, kk1⟩
  have L1 := hide (bel_to LW.out (Nat.le_refl _) kk1)
  have BM1 := hide (BM.out.block (kk1.block _ BM.out.lt))
  have BN1 := hide (BN.out.block (kk1.block _ BN.out.lt))
  clear kk1 b0 b1 b2 b3 b4 c0 c1 c2 c3 c4 BM BN
  obtain ⟨b0, b1, b2, b3, b4, _⟩ := BM1.out.all
  obtain ⟨c0, c1, c2, c3, c4, _⟩ := BN1.out.all
  dsimp only at b0 b1 b2 b3 b4 c0 c1 c2 c3 c4
  cases ht1 : tinyM m with
  | false =>
    go_wp2_with fail
    with_reducible refine (AW.out _).mono ?_
    rintro e vz ⟨rfl, kz⟩
    have LZ := hide (bel_to L1.out (Nat.le_refl _) kz)
    clear kz
    go_wp2
    go_ret
    exact ⟨rfl, LZ.out⟩
  | true =>
    go_wp2_with fail
    with_reducible refine (T2.out _ L1.out).mono ?_
    rintro e v2 ⟨rfl, kk2⟩
    have L2 := hide (bel_to L1.out (Nat.le_refl _) kk2)
    have BM2 := hide (BM1.out.block (kk2.block _ BM1.out.lt))
    have BN2 := hide (BN1.out.block (kk2.block _ BN1.out.lt))
    clear kk2 b0 b1 b2 b3 b4 c0 c1 c2 c3 c4 BM1 BN1 L1
    obtain ⟨b0, b1, b2, b3, b4, _⟩ := BM2.out.all
    obtain ⟨c0, c1, c2, c3, c4, _⟩ := BN2.out.all
    dsimp only at b0 b1 b2 b3 b4 c0 c1 c2 c3 c4
    cases ht2 : tinyM n with
    | false =>
      go_wp2_with fail
      with_reducible refine (AW.out _).mono ?_
      rintro e vz ⟨rfl, kz⟩
      have LZ := hide (bel_to L2.out (Nat.le_refl _) kz)
      clear kz
      go_wp2
      go_ret
      exact ⟨rfl, LZ.out⟩
    | true =>
      go_wp2_with fail
      with_reducible refine (C1.out _ L2.out).mono ?_
      rintro e v3 ⟨rfl, kk3⟩
      have L3 := hide (bel_to L2.out (Nat.le_refl _) kk3)
      have BM3 := hide (BM2.out.block (kk3.block _ BM2.out.lt))
      have BN3 := hide (BN2.out.block (kk3.block _ BN2.out.lt))
      clear kk3 b0 b1 b2 b3 b4 c0 c1 c2 c3 c4 BM2 BN2 L2
      obtain ⟨b0, b1, b2, b3, b4, _⟩ := BM3.out.all
      obtain ⟨c0, c1, c2, c3, c4, _⟩ := BN3.out.all
      dsimp only at b0 b1 b2 b3 b4 c0 c1 c2 c3 c4
      cases hc1 : chkM m with
      | false =>
        go_wp2_with fail
        with_reducible refine (AW.out _).mono ?_
        rintro e vz ⟨rfl, kz⟩
        have LZ := hide (bel_to L3.out (Nat.le_refl _) kz)
        clear kz
        go_wp2
        go_ret
        exact ⟨rfl, LZ.out⟩
      | true =>
        go_wp2_with fail
        with_reducible refine (C2.out _ L3.out).mono ?_
        rintro e v4 ⟨rfl, kk4⟩
        have L4 := hide (bel_to L3.out (Nat.le_refl _) kk4)
        have BM4 := hide (BM3.out.block (kk4.block _ BM3.out.lt))
        have BN4 := hide (BN3.out.block (kk4.block _ BN3.out.lt))
        clear kk4 b0 b1 b2 b3 b4 c0 c1 c2 c3 c4 BM3 BN3 L3
        obtain ⟨b0, b1, b2, b3, b4, _⟩ := BM4.out.all
        obtain ⟨c0, c1, c2, c3, c4, _⟩ := BN4.out.all
        dsimp only at b0 b1 b2 b3 b4 c0 c1 c2 c3 c4
        cases hc2 : chkM n with
        | false =>
          go_wp2_with fail
          with_reducible refine (AW.out _).mono ?_
          rintro e vz ⟨rfl, kz⟩
          have LZ := hide (bel_to L4.out (Nat.le_refl _) kz)
          clear kz
          go_wp2
          go_ret
          exact ⟨rfl, LZ.out⟩
        | true =>
          have TS := hide (fun u (hu : (u.cell? ⟨w.heap.size, 0, none⟩ = some (.int .i64 op1) ∧ u.cell? ⟨w.heap.size, 1, none⟩ = some (.string nm1) ∧ u.cell? ⟨w.heap.size, 2, none⟩ = some (.string vl1) ∧ u.cell? ⟨w.heap.size, 3, none⟩ = some (.slice va1 vn1 vc1) ∧ u.cell? ⟨w.heap.size, 4, none⟩ = some (.slice ka1 kn1 kc1)) ∧ (u.cell? ⟨w.heap.size + 1, 0, none⟩ = some (.int .i64 op2) ∧ u.cell? ⟨w.heap.size + 1, 1, none⟩ = some (.string nm2) ∧ u.cell? ⟨w.heap.size + 1, 2, none⟩ = some (.string vl2) ∧ u.cell? ⟨w.heap.size + 1, 3, none⟩ = some (.slice va2 vn2 vc2) ∧ u.cell? ⟨w.heap.size + 1, 4, none⟩ = some (.slice ka2 kn2 kc2)) ∧ Hid (w.heap.size ≤ u.heap.size ∧ Below w.heap.size w u)) => sameT_any m (fun _ => True) ⟨op1, nm1, vl1, va1, vn1, vc1, ka1, kn1, kc1⟩ n (fun _ => True) ⟨op2, nm2, vl2, va2, vn2, vc2, ka2, kn2, kc2⟩ u (Q1.out.below hu.2.2.out.2) (Q2.out.below hu.2.2.out.2) hc1)
          have TX := hide (fun u (hu : (u.cell? ⟨w.heap.size, 0, none⟩ = some (.int .i64 op1) ∧ u.cell? ⟨w.heap.size, 1, none⟩ = some (.string nm1) ∧ u.cell? ⟨w.heap.size, 2, none⟩ = some (.string vl1) ∧ u.cell? ⟨w.heap.size, 3, none⟩ = some (.slice va1 vn1 vc1) ∧ u.cell? ⟨w.heap.size, 4, none⟩ = some (.slice ka1 kn1 kc1)) ∧ (u.cell? ⟨w.heap.size + 1, 0, none⟩ = some (.int .i64 op2) ∧ u.cell? ⟨w.heap.size + 1, 1, none⟩ = some (.string nm2) ∧ u.cell? ⟨w.heap.size + 1, 2, none⟩ = some (.string vl2) ∧ u.cell? ⟨w.heap.size + 1, 3, none⟩ = some (.slice va2 vn2 vc2) ∧ u.cell? ⟨w.heap.size + 1, 4, none⟩ = some (.slice ka2 kn2 kc2)) ∧ Hid (w.heap.size ≤ u.heap.size ∧ Below w.heap.size w u)) => textT_any (fun _ => True) m ⟨op1, nm1, vl1, va1, vn1, vc1, ka1, kn1, kc1⟩ u (Q1.out.below hu.2.2.out.2) hc1)
          have TY := hide (fun u (hu : (u.cell? ⟨w.heap.size, 0, none⟩ = some (.int .i64 op1) ∧ u.cell? ⟨w.heap.size, 1, none⟩ = some (.string nm1) ∧ u.cell? ⟨w.heap.size, 2, none⟩ = some (.string vl1) ∧ u.cell? ⟨w.heap.size, 3, none⟩ = some (.slice va1 vn1 vc1) ∧ u.cell? ⟨w.heap.size, 4, none⟩ = some (.slice ka1 kn1 kc1)) ∧ (u.cell? ⟨w.heap.size + 1, 0, none⟩ = some (.int .i64 op2) ∧ u.cell? ⟨w.heap.size + 1, 1, none⟩ = some (.string nm2) ∧ u.cell? ⟨w.heap.size + 1, 2, none⟩ = some (.string vl2) ∧ u.cell? ⟨w.heap.size + 1, 3, none⟩ = some (.slice va2 vn2 vc2) ∧ u.cell? ⟨w.heap.size + 1, 4, none⟩ = some (.slice ka2 kn2 kc2)) ∧ Hid (w.heap.size ≤ u.heap.size ∧ Below w.heap.size w u)) => textT_any (fun _ => True) n ⟨op2, nm2, vl2, va2, vn2, vc2, ka2, kn2, kc2⟩ u (Q2.out.below hu.2.2.out.2) hc2)
          have TM := hide (fun u (hu : (u.cell? ⟨w.heap.size, 0, none⟩ = some (.int .i64 op1) ∧ u.cell? ⟨w.heap.size, 1, none⟩ = some (.string nm1) ∧ u.cell? ⟨w.heap.size, 2, none⟩ = some (.string vl1) ∧ u.cell? ⟨w.heap.size, 3, none⟩ = some (.slice va1 vn1 vc1) ∧ u.cell? ⟨w.heap.size, 4, none⟩ = some (.slice ka1 kn1 kc1)) ∧ (u.cell? ⟨w.heap.size + 1, 0, none⟩ = some (.int .i64 op2) ∧ u.cell? ⟨w.heap.size + 1, 1, none⟩ = some (.string nm2) ∧ u.cell? ⟨w.heap.size + 1, 2, none⟩ = some (.string vl2) ∧ u.cell? ⟨w.heap.size + 1, 3, none⟩ = some (.slice va2 vn2 vc2) ∧ u.cell? ⟨w.heap.size + 1, 4, none⟩ = some (.slice ka2 kn2 kc2)) ∧ Hid (w.heap.size ≤ u.heap.size ∧ Below w.heap.size w u)) => copyM_any (fun _ => True) m ⟨op1, nm1, vl1, va1, vn1, vc1, ka1, kn1, kc1⟩ u (Q1.out.below hu.2.2.out.2) ht1)
          have TZ := hide (fun S h2 u (hu : (u.cell? ⟨w.heap.size, 0, none⟩ = some (.int .i64 op1) ∧ u.cell? ⟨w.heap.size, 1, none⟩ = some (.string nm1) ∧ u.cell? ⟨w.heap.size, 2, none⟩ = some (.string vl1) ∧ u.cell? ⟨w.heap.size, 3, none⟩ = some (.slice va1 vn1 vc1) ∧ u.cell? ⟨w.heap.size, 4, none⟩ = some (.slice ka1 kn1 kc1)) ∧ (u.cell? ⟨w.heap.size + 1, 0, none⟩ = some (.int .i64 op2) ∧ u.cell? ⟨w.heap.size + 1, 1, none⟩ = some (.string nm2) ∧ u.cell? ⟨w.heap.size + 1, 2, none⟩ = some (.string vl2) ∧ u.cell? ⟨w.heap.size + 1, 3, none⟩ = some (.slice va2 vn2 vc2) ∧ u.cell? ⟨w.heap.size + 1, 4, none⟩ = some (.slice ka2 kn2 kc2)) ∧ Hid (w.heap.size ≤ u.heap.size ∧ Below w.heap.size w u)) (s : SeeM S u m h2) => sameT_any m (fun _ => True) ⟨op1, nm1, vl1, va1, vn1, vc1, ka1, kn1, kc1⟩ m S h2 u (Q1.out.below hu.2.2.out.2) s hc1)
          rw [sameB_self] at TZ
          dsimp only at TS TX TY TM TZ
          have ex := same_text hc1 hc2
          generalize sameB m n = x at *
          generalize bar (textM m) = tm at *
          generalize bar (textM n) = tn at *
          have ea : (x == x) = true := by simp
          have S0 : Hid ((v4.drew.cell? ⟨w.heap.size, 0, none⟩ = some (.int .i64 op1) ∧ v4.drew.cell? ⟨w.heap.size, 1, none⟩ = some (.string nm1) ∧ v4.drew.cell? ⟨w.heap.size, 2, none⟩ = some (.string vl1) ∧ v4.drew.cell? ⟨w.heap.size, 3, none⟩ = some (.slice va1 vn1 vc1) ∧ v4.drew.cell? ⟨w.heap.size, 4, none⟩ = some (.slice ka1 kn1 kc1)) ∧ (v4.drew.cell? ⟨w.heap.size + 1, 0, none⟩ = some (.int .i64 op2) ∧ v4.drew.cell? ⟨w.heap.size + 1, 1, none⟩ = some (.string nm2) ∧ v4.drew.cell? ⟨w.heap.size + 1, 2, none⟩ = some (.string vl2) ∧ v4.drew.cell? ⟨w.heap.size + 1, 3, none⟩ = some (.slice va2 vn2 vc2) ∧ v4.drew.cell? ⟨w.heap.size + 1, 4, none⟩ = some (.slice ka2 kn2 kc2)) ∧ Hid (w.heap.size ≤ v4.drew.heap.size ∧ Below w.heap.size w v4.drew)) := ⟨⟨b0, b1, b2, b3, b4⟩, ⟨c0, c1, c2, c3, c4⟩, L4.out.size, L4.out.drew⟩
          clear ht1 ht2 hc1 hc2
          go_upto_region 3 with fail
          clear b0 b1 b2 b3 b4 c0 c1 c2 c3 c4
          go_region_held3 (fun w' => (w'.cell? ⟨w.heap.size, 0, none⟩ = some (.int .i64 op1) ∧ w'.cell? ⟨w.heap.size, 1, none⟩ = some (.string nm1) ∧ w'.cell? ⟨w.heap.size, 2, none⟩ = some (.string vl1) ∧ w'.cell? ⟨w.heap.size, 3, none⟩ = some (.slice va1 vn1 vc1) ∧ w'.cell? ⟨w.heap.size, 4, none⟩ = some (.slice ka1 kn1 kc1)) ∧ (w'.cell? ⟨w.heap.size + 1, 0, none⟩ = some (.int .i64 op2) ∧ w'.cell? ⟨w.heap.size + 1, 1, none⟩ = some (.string nm2) ∧ w'.cell? ⟨w.heap.size + 1, 2, none⟩ = some (.string vl2) ∧ w'.cell? ⟨w.heap.size + 1, 3, none⟩ = some (.slice va2 vn2 vc2) ∧ w'.cell? ⟨w.heap.size + 1, 4, none⟩ = some (.slice ka2 kn2 kc2)) ∧ Hid (w.heap.size ≤ w'.heap.size ∧ Below w.heap.size w w')) (first | with_reducible exact S0.out | with_reducible exact keep10c (by assumption) (by assumption)) (first
            | (go_at_call 10; (with_reducible refine (TS.out _ (by assumption)).mono ?_); rintro e u1 ⟨rfl, bv1⟩)
            | (go_at_call 11; (with_reducible refine (TX.out _ (by assumption)).mono ?_); rintro e u2 ⟨rfl, bv2⟩)
            | (go_at_call 11; (with_reducible refine (TY.out _ (by assumption)).mono ?_); rintro e u3 ⟨rfl, bv3⟩)
            | (go_at_call 12; (with_reducible refine (TM.out _ (by assumption)).mono ?_); rintro e u4 ⟨⟨op3, nm3, vl3, va3, vn3, vc3, ka3, kn3, kc3⟩, rfl, s2, bv4⟩; have SM := hide s2; clear s2)
            | (go_at_call 10; (with_reducible refine (TZ.out _ ⟨op3, nm3, vl3, va3, vn3, vc3, ka3, kn3, kc3⟩ _ (by assumption) SM.out).mono ?_); rintro e u5 ⟨rfl, bv5⟩)
            | (go_at_call 9; (with_reducible refine (AW.out _).mono ?_); rintro e u6 ⟨rfl, bv6⟩))
          rename_i hh
          have FF := hide hh.2.2.out.2
          clear hh
          go_wp2
          go_ret
          exact ⟨rfl, FF.out⟩
end Go.Proofs.Ythebcmkainplnab
