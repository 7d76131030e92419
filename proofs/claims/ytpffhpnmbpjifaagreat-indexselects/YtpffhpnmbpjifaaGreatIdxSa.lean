/-
  Statement IndexSelects over what is asked: any matcher over any sets: a contract, for every world.
  Conditions: the index does what is asked.
-/
import Derived.Test.YtpffhpnmbpjifaaGreatIdxA
import Derived.Test.YtpffhpnmbpjifaaGreatIdxS
import Derived.Test.YtpffhpnmbpjifaaGreatMatG
import Derived.Test.YtpffhpnmbpjifaaGreatMatC
import Derived.Test.YtpffhpnmbpjifaaGreatLabZa
namespace Go.Proofs.YtpffhpnmbpjifaaGreat
open Go.RowKit
set_option maxRecDepth 20000

/-- The document's Eval does what is asked. -/
theorem evD (m : Mt) : EvD m := fun l S h al nl cl w q hc hr => reval_any l m S h al nl cl w q (okM_of hc) hr

set_option maxHeartbeats 8000000 in
theorem selects_of {At : World → Nat → (Nat → Prop) → Lx → Prop} (I : IxI At) (IS : IxS At) (a : Option Addr) (n c : Nat) (sets : Lx) (S : Nat → Prop) (m : Mt) (h : Hm) (w : World) (hs : RowLL w a n sets) (q : SeeM S w m h) :
    Calls Tryz.prog 3 #[.slice a n c, .agg #[.int .i64 h.op, .string h.nm, .string h.vl, .slice h.va h.vn h.vc, .slice h.ka h.kn h.kc]] w fun e w' => e = .returned (.bool true) ∧ Below w.heap.size w w' := by
  obtain ⟨op, nm, vl, va, vn, vc, ka, kn, kc⟩ := h
  dsimp only
  have HI := hide I
  have HS := hide IS
  obtain ⟨wb, hwb⟩ : ∃ wb, Hid (w.alloc (.cells #[.int .i64 op, .string nm, .string vl, .slice va vn vc, .slice ka kn kc] 26) = wb) := ⟨_, rfl⟩
  have BA : Hid (Below w.heap.size w wb) := by rw [← hwb.out]; exact (Below.refl _ _).alloc (Nat.le_refl _) _
  have BX : Hid (BoxM wb w.heap.size ⟨op, nm, vl, va, vn, vc, ka, kn, kc⟩) := by rw [← hwb.out]; exact boxM_new w ⟨op, nm, vl, va, vn, vc, ka, kn, kc⟩
  have CL : Hid (∀ W, Below wb.heap.size wb W → W.cell? ⟨w.heap.size, 0, none⟩ = some (.int .i64 op) ∧ W.cell? ⟨w.heap.size, 1, none⟩ = some (.string nm) ∧ W.cell? ⟨w.heap.size, 2, none⟩ = some (.string vl) ∧ W.cell? ⟨w.heap.size, 3, none⟩ = some (.slice va vn vc) ∧ W.cell? ⟨w.heap.size, 4, none⟩ = some (.slice ka kn kc)) := fun W hb => by
    obtain ⟨d0, d1, d2, d3, d4, -⟩ := BoxM.all (BX.out.block (hb.block w.heap.size (BoxM.lt BX.out)))
    exact ⟨d0, d1, d2, d3, d4⟩
  have SM : Hid (∀ W, Below wb.heap.size wb W → SeeM S W m ⟨op, nm, vl, va, vn, vc, ka, kn, kc⟩) := fun W hb => (q.below BA.out).below hb
  have LD := hide (laid_of I a n c sets wb (hs.below BA.out (Nat.le_refl _)))
  obtain ⟨L, hLd⟩ : ∃ L, Hid (laidX (sets.take 60) = L) := ⟨_, rfl⟩
  have GL := laidX_good (sets.take 60)
  rw [hLd.out] at LD GL
  have hL60 : L.length ≤ 60 := by have := GL.2; rw [List.length_take] at this; omega
  have MSL : Hid (∀ (W : World) base x n1 c1, MineI W base x n1 c1 (selX L m) → SlI W x n1 c1 (selX L m)) := fun W base x n1 c1 q => MineI.sl q (by
    have h1 := q.len
    have h2 := idxs_len (evalP m) 0 L
    unfold selX at h1
    omega) (idx_wf (by omega))
  clear hs q I IS hLd BX
  go_enter Tryz.func3, Tryz.ntmps3
  go_wp2_with fail
  rw [hwb.out]
  with_reducible refine LD.out.mono ?_
  rintro e u1 ⟨g1, g2, rfl, ⟨S1, S2, t1, t2, -, -, -⟩, b1⟩
  have B1 := hide b1
  have T1 := hide t1
  have T2 := hide t2
  have TN := hide (tinyT_any S m ⟨op, nm, vl, va, vn, vc, ka, kn, kc⟩ u1 (SM.out u1 b1))
  obtain ⟨d0, d1, d2, d3, d4⟩ := CL.out u1 b1
  dsimp only at TN
  clear t1 t2 b1 LD hwb
  go_wp2_with fail
  with_reducible refine TN.out.mono ?_
  rintro e u2 ⟨rfl, b2⟩
  have B2 := hide (bel_to B1.out (Nat.le_refl _) b2)
  have X2 := hide (HI.out.below T1.out b2)
  have Y2 := hide (T2.out.below b2)
  clear d0 d1 d2 d3 d4 b2 TN T1 T2 B1
  cases ht : tinyM m with
  | false =>
    have AW := hide (awakeX_of HI.out u2)
    go_wp2_with fail
    with_reducible refine AW.out.mono ?_
    rintro e v9 ⟨rfl, b9⟩
    have B9 := hide (BA.out.trans ((bel_to B2.out (Nat.le_refl _) b9).mono BA.out.size))
    clear b9 AW
    go_wp2
    go_ret
    exact ⟨rfl, B9.out⟩
  | true =>
    obtain ⟨d0, d1, d2, d3, d4⟩ := CL.out u2 B2.out
    have CM := hide (copyM_any S m ⟨op, nm, vl, va, vn, vc, ka, kn, kc⟩ u2 (SM.out u2 B2.out) ht)
    dsimp only at CM
    clear ht
    go_wp2_with fail
    with_reducible refine CM.out.mono ?_
    rintro e u3 ⟨⟨op3, nm3, vl3, va3, vn3, vc3, ka3, kn3, kc3⟩, rfl, s3, b3⟩
    have B3 := hide (bel_to B2.out (Nat.le_refl _) b3)
    have SX := hide (HS.out.sel g1 S1 _ L m _ u3 (HI.out.below X2.out b3) s3)
    have Y3 := hide (Y2.out.below b3)
    dsimp only at SX
    clear d0 d1 d2 d3 d4 s3 b3 CM B2 X2 Y2
    go_wp2_with fail
    with_reducible refine SX.out.mono ?_
    rintro e u4 ⟨b4, p4⟩
    have B4 := hide (bel_to B3.out (Nat.le_refl _) b4)
    have RX := hide (rselect_of g2 S2 S L m ⟨op, nm, vl, va, vn, vc, ka, kn, kc⟩ u4 (Y3.out.below b4) (by omega) (SM.out u4 B4.out) (evD m))
    obtain ⟨d0, d1, d2, d3, d4⟩ := CL.out u4 B4.out
    dsimp only at RX
    clear b4 SX B3 Y3
    cases hck : chkM m with
    | true =>
      rw [if_pos hck] at p4
      obtain ⟨a4, n4, c4, rfl, o4⟩ := p4
      have O4 := hide o4
      clear o4
      go_wp2_with fail
      with_reducible refine RX.out.mono ?_
      rintro e u5 ⟨b5, p5⟩
      rw [if_pos hck] at p5
      obtain ⟨a5, n5, c5, rfl, o5⟩ := p5
      have SI := hide (samei_any a4 n4 c4 _ a5 n5 c5 _ u5 ((MSL.out _ _ _ _ _ O4.out).below b5 (Nat.le_refl _)) (MSL.out _ _ _ _ _ o5))
      rw [decide_eq_true (rfl : selX L m = selX L m)] at SI
      have B5 := hide (bel_to B4.out (Nat.le_refl _) b5)
      clear o5 b5 O4 RX B4 d0 d1 d2 d3 d4 hck
      go_wp2_with fail
      with_reducible refine SI.out.mono ?_
      rintro e u6 ⟨rfl, b6⟩
      have B6 := hide (bel_to B5.out (Nat.le_refl _) b6)
      clear b6 SI B5
      have AW := hide (awakeX_of HI.out u6)
      go_wp2_with fail
      with_reducible refine AW.out.mono ?_
      rintro e v9 ⟨rfl, b9⟩
      have B9 := hide (BA.out.trans ((bel_to B6.out (Nat.le_refl _) b9).mono BA.out.size))
      clear b9 AW
      go_wp2
      go_ret
      exact ⟨rfl, B9.out⟩
    | false =>
      rw [if_neg (by rw [hck]; decide)] at p4
      obtain ⟨a4, c4, rfl, h4⟩ := p4
      go_wp2_with fail
      with_reducible refine RX.out.mono ?_
      rintro e u5 ⟨b5, p5⟩
      rw [if_neg (by rw [hck]; decide)] at p5
      obtain ⟨a5, c5, rfl, h5⟩ := p5
      have SI := hide (samei_any a4 0 c4 [] a5 0 c5 [] u5 ⟨nil_row _ _ _, Nat.zero_le _, h4⟩ ⟨nil_row _ _ _, Nat.zero_le _, h5⟩)
      rw [decide_eq_true (rfl : ([] : List Int) = [])] at SI
      have B5 := hide (bel_to B4.out (Nat.le_refl _) b5)
      clear b5 RX B4 d0 d1 d2 d3 d4 hck h4 h5
      go_wp2_with fail
      with_reducible refine SI.out.mono ?_
      rintro e u6 ⟨rfl, b6⟩
      have B6 := hide (bel_to B5.out (Nat.le_refl _) b6)
      clear b6 SI B5
      have AW := hide (awakeX_of HI.out u6)
      go_wp2_with fail
      with_reducible refine AW.out.mono ?_
      rintro e v9 ⟨rfl, b9⟩
      have B9 := hide (BA.out.trans ((bel_to B6.out (Nat.le_refl _) b9).mono BA.out.size))
      clear b9 AW
      go_wp2
      go_ret
      exact ⟨rfl, B9.out⟩
end Go.Proofs.YtpffhpnmbpjifaaGreat
