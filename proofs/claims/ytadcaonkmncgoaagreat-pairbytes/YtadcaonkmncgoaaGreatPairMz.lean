/-
  The document's own answers of sketches: may it be one, is it empty, are two the same, two put together; the laws' own copy of one: contracts, for every world. The document's own answer whether two sketches are the same: a contract, for every world. The laws' own copy of a sketch, and the document's own two put together: contracts, for every world: the lists lie in new memory. Sketches that may be, put together: plain laws of turning, grouping and of none; and the document's own two put together: a contract, for every world.
  Conditions: the sketches lie in memory; put together: both may be ones; the sketches lie in memory; the sketches may be ones ('chkP'), and lie in memory.
-/
import Derived.Test.YtadcaonkmncgoaaGreatPairK
import Derived.Test.YtadcaonkmncgoaaGreatGaugeAz
import Derived.Test.YtadcaonkmncgoaaGreatHistR
import Derived.Test.YtadcaonkmncgoaaGreatHistV
import Derived.Test.YtadcaonkmncgoaaGreatKmvAz
import Derived.Test.YtadcaonkmncgoaaGreatNumK
import Derived.Deep.RegionHeld3
import Derived.Deep.DeepCutAuto
import Derived.Test.YtadcaonkmncgoaaGreatNumS
import Derived.Deep.QuietTactic
import Derived.BigQuiet
import Derived.Test.YtadcaonkmncgoaaGreatGoodK
namespace Go.Proofs.YtadcaonkmncgoaaGreat
open Go.RowKit
set_option maxRecDepth 20000

set_option maxHeartbeats 2000000 in
theorem refpchk_any (h : Hd) (s : Sp) (w : World) (q : SeeP w h s) :
    Calls Tryz.prog 4 #[(Value.agg #[.slice (Hd.a h) (Hd.n h) (Hd.c h), .slice (Hd.k h) (Hd.m h) (Hd.d h), .int .u64 (Gz.n s.g), .int .u64 (Gz.nans s.g), .int .u64 (Gz.lo s.g), .int .u64 (Gz.hi s.g)])] w fun e w' => e = .returned (.bool (chkP s)) ∧ Below w.heap.size w w' := by
  obtain ⟨w0, hw0⟩ : ∃ w0, Hid (w.alloc (.cells #[.slice h.a h.n h.c, .slice h.k h.m h.d, .int .u64 s.g.n, .int .u64 s.g.nans, .int .u64 s.g.lo, .int .u64 s.g.hi] 28) = w0) := ⟨_, rfl⟩
  have B : Hid (SBox w0 w.heap.size h s.g) := by rw [← hw0.out]; exact SBox.new w _ _ _
  have Q : Hid (SeeP w0 h s) := by rw [← hw0.out]; exact q.alloc _
  have L : Hid (Below w.heap.size w w0) := by rw [← hw0.out]; exact (Below.refl _ _).alloc (Nat.le_refl _) _
  have C1 := hide (fun W (x : SeeP W h s) => refcheck_any h.a h.n h.c s.hist W x.rh)
  have C2 := hide (fun W (x : SeeP W h s) => refchk_any h.k h.m h.d s.keys W x.rk)
  have C3 := hide (fun W => refgchk_any s.g q.g W)
  unfold chkP
  generalize checkS s.hist = b1 at C1 ⊢
  generalize chkK s.keys = b2 at C2 ⊢
  generalize chkG s.g = b3 at C3 ⊢
  clear q
  go_enter Tryz.func4, Tryz.ntmps4
  go_upto_region 1 with fail
  rw [hw0.out]
  clear hw0
  obtain ⟨k, hk⟩ : ∃ k, Hid (w.heap.size = k) := ⟨_, rfl⟩
  rw [hk.out] at B
  rw [hk.out]
  obtain ⟨_, ⟨c0, c1, c2, c3, c4, c5⟩, _⟩ := B.out
  go_wp2_with fail
  with_reducible refine (C1.out _ Q.out).mono ?_
  rintro e w1 ⟨rfl, j1, rfl⟩
  have D1 : Hid (Below w0.heap.size w0 (w0.drewN j1)) := bel_drewN (Below.refl _ _) j1
  have B1 := hide (B.out.below D1.out B.out.lt)
  have Q1 := hide (Q.out.below D1.out (Nat.le_refl _))
  have L1 : Hid (Below w.heap.size w (w0.drewN j1)) := bel_to L.out (Nat.le_refl _) D1.out
  generalize w0.drewN j1 = w1 at B1 Q1 L1 ⊢
  clear D1 c0 c1 c2 c3 c4 c5 B Q L C1
  obtain ⟨_, ⟨c0, c1, c2, c3, c4, c5⟩, _⟩ := B1.out
  cases b1
  · go_wp2
    go_ret
    exact ⟨rfl, L1.out⟩
  go_wp2_with fail
  with_reducible refine (C2.out _ Q1.out).mono ?_
  rintro e w2 ⟨rfl, j2, rfl⟩
  have D2 : Hid (Below w1.heap.size w1 (w1.drewN j2)) := bel_drewN (Below.refl _ _) j2
  have B2 := hide (B1.out.below D2.out B1.out.lt)
  have L2 : Hid (Below w.heap.size w (w1.drewN j2)) := bel_to L1.out (Nat.le_refl _) D2.out
  generalize w1.drewN j2 = w2 at B2 L2 ⊢
  clear D2 c0 c1 c2 c3 c4 c5 B1 Q1 L1 C2
  obtain ⟨_, ⟨c0, c1, c2, c3, c4, c5⟩, _⟩ := B2.out
  cases b2
  · go_wp2
    go_ret
    exact ⟨rfl, L2.out⟩
  go_wp2_with fail
  with_reducible refine (C3.out _).mono ?_
  rintro e w3 ⟨rfl, k3⟩
  have L3 : Hid (Below w.heap.size w w3) := bel_to L2.out (Nat.le_refl _) k3
  clear k3
  go_wp2
  go_ret
  exact ⟨rfl, L3.out⟩

end Go.Proofs.YtadcaonkmncgoaaGreat

namespace Go.Proofs.YtadcaonkmncgoaaGreat
open Go.RowKit
set_option maxRecDepth 20000

set_option maxHeartbeats 2000000 in
theorem refpsame_any (h : Hd) (s : Sp) (h' : Hd) (s' : Sp) (w : World) (q : SeeP w h s) (q' : SeeP w h' s') :
    Calls Tryz.prog 10 #[(Value.agg #[.slice (Hd.a h) (Hd.n h) (Hd.c h), .slice (Hd.k h) (Hd.m h) (Hd.d h), .int .u64 (Gz.n s.g), .int .u64 (Gz.nans s.g), .int .u64 (Gz.lo s.g), .int .u64 (Gz.hi s.g)]), (Value.agg #[.slice (Hd.a h') (Hd.n h') (Hd.c h'), .slice (Hd.k h') (Hd.m h') (Hd.d h'), .int .u64 (Gz.n s'.g), .int .u64 (Gz.nans s'.g), .int .u64 (Gz.lo s'.g), .int .u64 (Gz.hi s'.g)])] w fun e w' => e = .returned (.bool (decide (s = s'))) ∧ Below w.heap.size w w' := by
  obtain ⟨w0, hw0⟩ : ∃ w0, Hid ((w.alloc (.cells #[.slice h.a h.n h.c, .slice h.k h.m h.d, .int .u64 s.g.n, .int .u64 s.g.nans, .int .u64 s.g.lo, .int .u64 s.g.hi] 28)).alloc (.cells #[.slice h'.a h'.n h'.c, .slice h'.k h'.m h'.d, .int .u64 s'.g.n, .int .u64 s'.g.nans, .int .u64 s'.g.lo, .int .u64 s'.g.hi] 28) = w0) := ⟨_, rfl⟩
  have B : Hid (SBox w0 w.heap.size h s.g) := by rw [← hw0.out]; exact (SBox.new w _ _ _).alloc _
  have B' : Hid (SBox w0 (w.heap.size + 1) h' s'.g) := by
    rw [← hw0.out]
    have := SBox.new (w.alloc (.cells #[.slice h.a h.n h.c, .slice h.k h.m h.d, .int .u64 s.g.n, .int .u64 s.g.nans, .int .u64 s.g.lo, .int .u64 s.g.hi] 28)) 28 h' s'.g
    rwa [size_al] at this
  have HX : Hid (RowB w0 h.a h.n s.hist) := by rw [← hw0.out]; exact ((q.alloc _).alloc _).rh
  have HY : Hid (RowB w0 h'.a h'.n s'.hist) := by rw [← hw0.out]; exact ((q'.alloc _).alloc _).rh
  have KX : Hid (Row .u64 w0 h.k h.m s.keys) := by rw [← hw0.out]; exact ((q.alloc _).alloc _).rk
  have KY : Hid (Row .u64 w0 h'.k h'.m s'.keys) := by rw [← hw0.out]; exact ((q'.alloc _).alloc _).rk
  have L : Hid (Below w.heap.size w w0) := by rw [← hw0.out]; exact bel2 _ _ _
  have hl := HX.out.1
  have hl' := HY.out.1
  have hm := KX.out.1
  have hm' := KY.out.1
  have hn := HX.out.2.1
  have hkn := KX.out.2.1
  clear q q'
  obtain ⟨k, hk⟩ : ∃ k, Hid (w.heap.size = k) := ⟨_, rfl⟩
  obtain ⟨k', hk'⟩ : ∃ k', Hid (k + 1 = k') := ⟨_, rfl⟩
  rw [hk.out] at B B'
  rw [hk'.out] at B'
  have NO : Hid (s ≠ s' → decide (s = s') = false) := fun x => decide_eq_false x
  by_cases hnn : h.n = h'.n
  · by_cases hmm : h.m = h'.m
    · by_cases hgg : s.g = s'.g
      · have t1 : ((h.n : Int) != (h'.n : Int)) = false := by simp [hnn]
        have t2 : ((h.m : Int) != (h'.m : Int)) = false := by simp [hmm]
        have YES : Hid (s.hist = s'.hist → s.keys = s'.keys → decide (s = s') = true) := fun x y => decide_eq_true (by
          obtain ⟨_, _, _⟩ := s
          obtain ⟨_, _, _⟩ := s'
          simp only at x y hgg
          rw [x, y, hgg])
        have NOH : Hid (s.hist ≠ s'.hist → decide (s = s') = false) := fun x => decide_eq_false (fun y => x (by rw [y]))
        have NOK : Hid (s.keys ≠ s'.keys → decide (s = s') = false) := fun x => decide_eq_false (fun y => x (by rw [y]))
        have hgg' := hgg.symm
        rw [hgg'] at B' hw0 ⊢
        generalize decide (s = s') = ans at *
        rw [← hnn] at HY hl'
        rw [← hmm] at KY hm'
        have HNN := hide hnn
        have HMM := hide hmm
        clear hnn hmm
        generalize s.g = g at *
        generalize s.hist = l at *
        generalize s'.hist = l' at *
        generalize s.keys = z at *
        generalize s'.keys = z' at *
        have HL := hide hl
        have HM := hide hl'
        have ZL := hide hm
        have ZM := hide hm'
        have SZ := hide B.out.lt
        have SZ' := hide B'.out.lt
        clear NO hgg hgg' hl hl' hm hm'
        obtain ⟨_, ⟨c0, c1, c2, c3, c4, c5⟩, _⟩ := B.out
        obtain ⟨_, ⟨d0, d1, d2, d3, d4, d5⟩, _⟩ := B'.out
        go_enter Tryz.func10, Tryz.ntmps10
        go_upto_region 1 with fail
        rw [hw0.out, hk.out, hk'.out]
        go_wp2_with fail
        clear c0 c1 c2 c3 c4 c5 d0 d1 d2 d3 d4 d5
        go_loopw [5] (fun i wr => ∃ j : Nat, j ≤ h.n ∧ i = .int .i64 j ∧ Hid (l.take j = l'.take j) ∧ Hid (Below w0.heap.size w0 wr)) (fun i _ => h.n - (intOf i).toNat)
        case atStart => exact ⟨0, by omega, rfl, by show _ = _; simp, Below.refl _ _⟩
        case round =>
          obtain ⟨j, hj, rfl, HT, HW⟩ := hrel
          obtain ⟨_, ⟨c0, c1, c2, c3, c4, c5⟩, _⟩ := B.out.below HW.out SZ.out
          obtain ⟨_, ⟨d0, d1, d2, d3, d4, d5⟩, _⟩ := B'.out.below HW.out SZ'.out
          have LW : Hid (Below w.heap.size w wr) := bel_to L.out (Nat.le_refl _) HW.out
          by_cases hlt : j < h.n
          · obtain ⟨_, _, _, hz | ⟨x0, o0, ha, f0⟩⟩ := HX.out.below HW.out (Nat.le_refl _)
            · omega
            obtain ⟨_, _, _, hz | ⟨x1, o1, ha', f1⟩⟩ := HY.out.below HW.out (Nat.le_refl _)
            · omega
            rw [ha] at c0
            rw [ha'] at d0
            obtain ⟨g0, g0'⟩ := f0 j hlt
            obtain ⟨g1, g1'⟩ := f1 j hlt
            have S0 := hide (take_bks (l := l) (k := j) (by rw [HL.out]; exact hlt))
            have S1 := hide (take_bks (l := l') (k := j) (by rw [HM.out]; exact hlt))
            have i1 : (0 : Int) ≤ (j : Int) := by omega
            have i2 : (j : Int) < (h.n : Int) := by omega
            have i3 : (j : Int) < (h'.n : Int) := by rw [← HNN.out]; omega
            have HG : Hid (l.getD j (0, 0) ≠ l'.getD j (0, 0) → ans = false) := fun x => NOH.out (fun e => x (by rw [e]))
            clear f0 f1 ha ha'
            generalize l.getD j (0, 0) = p at *
            generalize l'.getD j (0, 0) = q at *
            obtain ⟨p1, p2⟩ := p
            obtain ⟨q1, q2⟩ := q
            simp only at g0 g0' g1 g1'
            by_cases hpq : p1 = q1 ∧ p2 = q2
            · obtain ⟨rfl, rfl⟩ := hpq
              have HT2 : Hid (l.take (j + 1) = l'.take (j + 1)) := by show _ = _; rw [S0.out, S1.out, HT.out]
              have t3 : (p1 == p1) = true := by simp
              have t4 : (p2 == p2) = true := by simp
              go_wp2
              go_quiet (fail)
              go_wp2
              go_roundw
              case rel => exact ⟨j + 1, by omega, by go_num, HT2, bel_drewN HW.out _⟩
              case measure => simp [intOf]; omega
            · have HN := HG.out (fun e => hpq (by simpa using e))
              subst HN
              by_cases h1 : p1 = q1
              · have t3 : (p1 == q1) = true := by simpa using h1
                have t4 : (p2 == q2) = false := by simpa using fun x => hpq ⟨h1, x⟩
                clear hpq HG h1
                go_wp2
                go_quiet (fail)
                go_wp2
                go_ret
                exact ⟨rfl, bel_drewN LW.out _⟩
              · have t3 : (p1 == q1) = false := by simpa using h1
                clear hpq HG h1
                go_wp2
                go_quiet (fail)
                go_wp2
                go_ret
                exact ⟨rfl, bel_drewN LW.out _⟩
          · have hjn : j = h.n := by omega
            have HE : Hid (l = l') := by
              have := HT.out
              rw [List.take_of_length_le (by rw [HL.out]; omega), List.take_of_length_le (by rw [HM.out]; omega)] at this
              exact this
            have i3 : ¬ (j : Int) < (h.n : Int) := by omega
            go_wp2_with fail
            clear c0 c1 c2 c3 c4 c5 d0 d1 d2 d3 d4 d5 hjn i3 hj hlt
            go_loopw [6] (fun i wr => ∃ j : Nat, j ≤ h.m ∧ i = .int .i64 j ∧ Hid (z.take j = z'.take j) ∧ Hid (Below w0.heap.size w0 wr)) (fun i _ => h.m - (intOf i).toNat)
            case atStart => exact ⟨0, by omega, rfl, by show _ = _; simp, HW⟩
            case round =>
              obtain ⟨j, hj, rfl, HT, HW⟩ := hrel
              obtain ⟨_, ⟨c0, c1, c2, c3, c4, c5⟩, _⟩ := B.out.below HW.out SZ.out
              obtain ⟨_, ⟨d0, d1, d2, d3, d4, d5⟩, _⟩ := B'.out.below HW.out SZ'.out
              have LW : Hid (Below w.heap.size w wr) := bel_to L.out (Nat.le_refl _) HW.out
              by_cases hlt : j < h.m
              · obtain ⟨_, _, _, hz | ⟨x0, o0, ha, f0⟩⟩ := KX.out.below HW.out (Nat.le_refl _)
                · omega
                obtain ⟨_, _, _, hz | ⟨x1, o1, ha', f1⟩⟩ := KY.out.below HW.out (Nat.le_refl _)
                · omega
                rw [ha] at c1
                rw [ha'] at d1
                have g0 := f0 j hlt
                have g1 := f1 j hlt
                have S0 := hide (take_step (ls := z) (k := j) (by rw [ZL.out]; exact hlt))
                have S1 := hide (take_step (ls := z') (k := j) (by rw [ZM.out]; exact hlt))
                have i1 : (0 : Int) ≤ (j : Int) := by omega
                have i2 : (j : Int) < (h.m : Int) := by omega
                have i3 : (j : Int) < (h'.m : Int) := by rw [← HMM.out]; omega
                have HG : Hid (z.getD j 0 ≠ z'.getD j 0 → ans = false) := fun x => NOK.out (fun e => x (by rw [e]))
                clear f0 f1 ha ha'
                generalize z.getD j 0 = p at *
                generalize z'.getD j 0 = q at *
                by_cases hpq : p = q
                · subst hpq
                  have HT2 : Hid (z.take (j + 1) = z'.take (j + 1)) := by show _ = _; rw [S0.out, S1.out, HT.out]
                  have t3 : (p != p) = false := by simp
                  go_wp2
                  go_quiet (fail)
                  go_wp2
                  go_roundw
                  case rel => exact ⟨j + 1, by omega, by go_num, HT2, bel_drewN HW.out _⟩
                  case measure => simp [intOf]; omega
                · have HN := HG.out hpq
                  subst HN
                  have t3 : (p != q) = true := by simpa using hpq
                  clear hpq HG
                  go_wp2
                  go_quiet (fail)
                  go_wp2
                  go_ret
                  exact ⟨rfl, bel_drewN LW.out _⟩
              · have hjn : j = h.m := by omega
                have HE2 : z = z' := by
                  have := HT.out
                  rw [List.take_of_length_le (by rw [ZL.out]; omega), List.take_of_length_le (by rw [ZM.out]; omega)] at this
                  exact this
                have HN := YES.out HE.out HE2
                subst HN
                have i3 : ¬ (j : Int) < (h.m : Int) := by omega
                clear HE2 HT
                go_wp2
                go_ret
                exact ⟨rfl, LW.out⟩
      · rw [NO.out (fun x => hgg (by rw [x]))]
        have hq : ¬ (s.g.n = s'.g.n ∧ s.g.nans = s'.g.nans ∧ s.g.lo = s'.g.lo ∧ s.g.hi = s'.g.hi) := fun x => hgg (Gz.ext' x.1 x.2.1 x.2.2.1 x.2.2.2)
        have t1 : ((h.n : Int) != (h'.n : Int)) = false := by simp [hnn]
        have t2 : ((h.m : Int) != (h'.m : Int)) = false := by simp [hmm]
        obtain ⟨_, ⟨c0, c1, c2, c3, c4, c5⟩, _⟩ := B.out
        obtain ⟨_, ⟨d0, d1, d2, d3, d4, d5⟩, _⟩ := B'.out
        clear NO hnn hmm hgg
        generalize s.g = g at *
        generalize s'.g = g' at *
        cases b0 : (g.n == g'.n)
        · clear hq
          go_enter Tryz.func10, Tryz.ntmps10
          go_upto_region 1 with fail
          rw [hw0.out, hk.out, hk'.out]
          go_wp2
          go_ret
          exact ⟨rfl, L.out⟩
        cases b1 : (g.nans == g'.nans)
        · clear hq
          go_enter Tryz.func10, Tryz.ntmps10
          go_upto_region 1 with fail
          rw [hw0.out, hk.out, hk'.out]
          go_wp2
          go_ret
          exact ⟨rfl, L.out⟩
        cases b2 : (g.lo == g'.lo)
        · clear hq
          go_enter Tryz.func10, Tryz.ntmps10
          go_upto_region 1 with fail
          rw [hw0.out, hk.out, hk'.out]
          go_wp2
          go_ret
          exact ⟨rfl, L.out⟩
        cases b3 : (g.hi == g'.hi)
        · clear hq
          go_enter Tryz.func10, Tryz.ntmps10
          go_upto_region 1 with fail
          rw [hw0.out, hk.out, hk'.out]
          go_wp2
          go_ret
          exact ⟨rfl, L.out⟩
        exact absurd ⟨by simpa using b0, by simpa using b1, by simpa using b2, by simpa using b3⟩ hq
    · have t1 : ((h.n : Int) != (h'.n : Int)) = false := by simp [hnn]
      have t2 : ((h.m : Int) != (h'.m : Int)) = true := by simp; omega
      rw [NO.out (fun x => hmm (by rw [← hm, ← hm', x]))]
      obtain ⟨_, ⟨c0, c1, c2, c3, c4, c5⟩, _⟩ := B.out
      obtain ⟨_, ⟨d0, d1, d2, d3, d4, d5⟩, _⟩ := B'.out
      clear NO hnn hmm
      go_enter Tryz.func10, Tryz.ntmps10
      go_upto_region 1 with fail
      rw [hw0.out, hk.out, hk'.out]
      go_wp2
      go_ret
      exact ⟨rfl, L.out⟩
  · have t1 : ((h.n : Int) != (h'.n : Int)) = true := by simp; omega
    rw [NO.out (fun x => hnn (by rw [← hl, ← hl', x]))]
    obtain ⟨_, ⟨c0, c1, c2, c3, c4, c5⟩, _⟩ := B.out
    obtain ⟨_, ⟨d0, d1, d2, d3, d4, d5⟩, _⟩ := B'.out
    clear NO hnn
    go_enter Tryz.func10, Tryz.ntmps10
    go_upto_region 1 with fail
    rw [hw0.out, hk.out, hk'.out]
    go_wp2
    go_ret
    exact ⟨rfl, L.out⟩
end Go.Proofs.YtadcaonkmncgoaaGreat

namespace Go.Proofs.YtadcaonkmncgoaaGreat
open Go.RowKit
set_option maxRecDepth 20000

theorem OwnB.set {w : World} {base n cap : Nat} {a : Option Addr} {l : Bks} (h : OwnB w base a n cap l) {b : Nat} (hb : b < base) (o : Nat) (v : Value) : OwnB (w.setCell ⟨b, o, none⟩ v) base a n cap l :=
  h.ch (ch_set w b o v) (fun g hg e => by have := h.block g hg; omega)
theorem OwnU.set {w : World} {base n cap : Nat} {a : Option Addr} {l : List Int} (h : OwnU w base a n cap l) {b : Nat} (hb : b < base) (o : Nat) (v : Value) : OwnU (w.setCell ⟨b, o, none⟩ v) base a n cap l :=
  row_ch h (ch_set w b o v) (fun g hg e => by have := own_block h g hg; omega)
section
variable {w : World} {b : Nat} {h : Hd} {g : Gz}
theorem SBox.seth (q : SBox w b h g) (a : Option Addr) (n c : Nat) : SBox (w.setCell ⟨b, 0, none⟩ (.slice a n c)) b ⟨a, n, c, h.k, h.m, h.d⟩ g := by
  obtain ⟨l, ⟨c0, c1, c2, c3, c4, c5⟩, f⟩ := q
  exact ⟨by simp [go_sem, l], ⟨by simp [go_sem, c0], by simp [go_sem, c1], by simp [go_sem, c2], by simp [go_sem, c3], by simp [go_sem, c4], by simp [go_sem, c5]⟩, fun i => by simp [go_sem, f]⟩
theorem SBox.setk (q : SBox w b h g) (a : Option Addr) (n c : Nat) : SBox (w.setCell ⟨b, 1, none⟩ (.slice a n c)) b ⟨h.a, h.n, h.c, a, n, c⟩ g := by
  obtain ⟨l, ⟨c0, c1, c2, c3, c4, c5⟩, f⟩ := q
  exact ⟨by simp [go_sem, l], ⟨by simp [go_sem, c0], by simp [go_sem, c1], by simp [go_sem, c2], by simp [go_sem, c3], by simp [go_sem, c4], by simp [go_sem, c5]⟩, fun i => by simp [go_sem, f]⟩
theorem SBox.far (q : SBox w b h g) {p : Addr} (hp : p.block ≠ b) (v : Value) : SBox (w.setCell p v) b h g := by
  obtain ⟨l, ⟨c0, c1, c2, c3, c4, c5⟩, f⟩ := q
  have c : ∀ i, (w.setCell p v).cell? ⟨b, i, none⟩ = w.cell? ⟨b, i, none⟩ := fun i => World.cell?_of_block (w := w) (Below.heap_setCell w p v b (Ne.symm hp))
  have e : ∀ i, (w.setCell p v).frozen? ⟨b, i, none⟩ = w.frozen? ⟨b, i, none⟩ := fun i => World.frozen?_of_block (w := w) (Below.heap_setCell w p v b (Ne.symm hp))
  exact ⟨by simpa using l, ⟨(c 0).trans c0, (c 1).trans c1, (c 2).trans c2, (c 3).trans c3, (c 4).trans c4, (c 5).trans c5⟩, fun i => (e i).trans (f i)⟩
end
/-- Six cells written. -/
def put6 (w : World) (b : Nat) (h : Hd) (g : Gz) : World :=
  (((((w.setCell ⟨b, 0, none⟩ (.slice h.a h.n h.c)).setCell ⟨b, 1, none⟩ (.slice h.k h.m h.d)).setCell ⟨b, 2, none⟩ (.int .u64 g.n)).setCell ⟨b, 3, none⟩ (.int .u64 g.nans)).setCell ⟨b, 4, none⟩ (.int .u64 g.lo)).setCell ⟨b, 5, none⟩ (.int .u64 g.hi)
section
variable {w w0 : World} {b base B : Nat} {h h' : Hd} {g g' : Gz}
theorem SBox.put (q : SBox w b h' g') (h : Hd) (g : Gz) : SBox (put6 w b h g) b h g := by
  obtain ⟨l, ⟨c0, c1, c2, c3, c4, c5⟩, f⟩ := q
  exact ⟨by simp [put6, go_sem, l], ⟨by simp [put6, go_sem, c0], by simp [put6, go_sem, c1], by simp [put6, go_sem, c2], by simp [put6, go_sem, c3], by simp [put6, go_sem, c4], by simp [put6, go_sem, c5]⟩, fun i => by simp [put6, go_sem, f]⟩
theorem below_put (q : Below B w0 w) (hB : B ≤ b) (h : Hd) (g : Gz) : Below B w0 (put6 w b h g) :=
  (((((q.setCell (p := ⟨b, 0, none⟩) hB _).setCell (p := ⟨b, 1, none⟩) hB _).setCell (p := ⟨b, 2, none⟩) hB _).setCell (p := ⟨b, 3, none⟩) hB _).setCell (p := ⟨b, 4, none⟩) hB _).setCell (p := ⟨b, 5, none⟩) hB _
theorem ownb_put {a : Option Addr} {n c : Nat} {l : Bks} (q : OwnB w base a n c l) (hb : b < base) (h : Hd) (g : Gz) : OwnB (put6 w b h g) base a n c l :=
  (((((q.set hb 0 _).set hb 1 _).set hb 2 _).set hb 3 _).set hb 4 _).set hb 5 _
theorem ownu_put {a : Option Addr} {n c : Nat} {l : List Int} (q : OwnU w base a n c l) (hb : b < base) (h : Hd) (g : Gz) : OwnU (put6 w b h g) base a n c l :=
  OwnU.set (OwnU.set (OwnU.set (OwnU.set (OwnU.set (OwnU.set q hb 0 _) hb 1 _) hb 2 _) hb 3 _) hb 4 _) hb 5 _
/-- A sketch made of two lists of the call's own. -/
theorem made_of {s : Sp} (oh : OwnB w base h.a h.n h.c s.hist) (ok : OwnU w base h.k h.m h.d s.keys) (hf : ∀ x ∈ s.hist, fitB x) (hw : ∀ x ∈ s.keys, W64 x) (hg : GW s.g) (sh : h.n * 16 ≤ 140737488355328) (sk : h.m * 8 ≤ 140737488355328) : MadeP w base h s :=
  ⟨oh, ok, oh.row (by omega) hf, OwnU.rowU ok (by omega) hw, hg, oh.capped.1, (Own.capped ok).1, fun x => (oh.capped.2 x).2, (Own.capped ok).2, sh, sk⟩
end

set_option maxHeartbeats 2000000 in
theorem sketch_any (h : Hd) (s : Sp) (w : World) (q : SeeP w h s) :
    Calls Tryz.prog 7 #[(Value.agg #[.slice (Hd.a h) (Hd.n h) (Hd.c h), .slice (Hd.k h) (Hd.m h) (Hd.d h), .int .u64 (Gz.n s.g), .int .u64 (Gz.nans s.g), .int .u64 (Gz.lo s.g), .int .u64 (Gz.hi s.g)])] w fun e w' => ∃ h2, e = .returned (Value.agg #[.slice (Hd.a h2) (Hd.n h2) (Hd.c h2), .slice (Hd.k h2) (Hd.m h2) (Hd.d h2), .int .u64 (Gz.n s.g), .int .u64 (Gz.nans s.g), .int .u64 (Gz.lo s.g), .int .u64 (Gz.hi s.g)]) ∧ MadeP w' w.heap.size h2 s ∧ Below w.heap.size w w' := by
  obtain ⟨w0, hw0⟩ : ∃ w0, Hid ((w.alloc (.cells #[.slice h.a h.n h.c, .slice h.k h.m h.d, .int .u64 s.g.n, .int .u64 s.g.nans, .int .u64 s.g.lo, .int .u64 s.g.hi] 28)).alloc (.cells #[.slice none 0 0, .slice none 0 0, .int .u64 0, .int .u64 0, .int .u64 0, .int .u64 0] 28) = w0) := ⟨_, rfl⟩
  have B : Hid (SBox w0 w.heap.size h s.g) := by rw [← hw0.out]; exact (SBox.new w _ _ _).alloc _
  have A : Hid (SBox w0 (w.heap.size + 1) hd0 g0) := by
    rw [← hw0.out]
    have := SBox.new (w.alloc (.cells #[.slice h.a h.n h.c, .slice h.k h.m h.d, .int .u64 s.g.n, .int .u64 s.g.nans, .int .u64 s.g.lo, .int .u64 s.g.hi] 28)) 28 hd0 g0
    rwa [size_al] at this
  have L : Hid (Below w.heap.size w w0) := by rw [← hw0.out]; exact bel2 _ _ _
  have Q := hide q
  have C1 := hide (fun W (x : SeeP W h s) => buckets_any h.a h.n h.c s.hist W x.rh x.nh x.sh)
  have C2 := hide (fun W (x : SeeP W h s) => numsK_any h.k h.m h.d s.keys W x.rk x.nk x.sk)
  obtain ⟨k, hk⟩ : ∃ k, Hid (w.heap.size = k) := ⟨_, rfl⟩
  obtain ⟨k', hk'⟩ : ∃ k', Hid (k + 1 = k') := ⟨_, rfl⟩
  rw [hk.out] at B A
  rw [hk'.out] at A
  have ZA : Hid (k < w0.heap.size ∧ k' < w0.heap.size ∧ w.heap.size ≤ k ∧ w.heap.size ≤ k' ∧ k ≠ k') := ⟨B.out.lt, A.out.lt, by rw [hk.out]; exact Nat.le_refl _, by rw [← hk'.out, hk.out]; omega, by rw [← hk'.out]; omega⟩
  clear q
  obtain ⟨_, ⟨c0, c1, c2, c3, c4, c5⟩, bf⟩ := B.out
  go_enter Tryz.func7, Tryz.ntmps7
  go_upto_region 1 with fail
  rw [hw0.out, hk.out, hk'.out]
  clear hw0
  go_wp2_with fail
  with_reducible refine (C1.out _ (Q.out.below L.out (Nat.le_refl _))).mono ?_
  rintro e v1 ⟨a1, n1, rfl, o1, b1⟩
  have B1 := hide (B.out.below b1 ZA.out.1)
  have A1 := hide ((A.out.below b1 ZA.out.2.1).far (p := ⟨k, 0, none⟩) ZA.out.2.2.2.2 (.slice a1 h.n n1))
  have B2 := hide (B1.out.seth a1 h.n n1)
  have O1 := hide (o1.set ZA.out.1 0 (.slice a1 h.n n1))
  have L1 : Hid (Below w.heap.size w (v1.setCell ⟨k, 0, none⟩ (.slice a1 h.n n1))) := (bel_to L.out (Nat.le_refl _) b1).setCell (p := ⟨k, 0, none⟩) ZA.out.2.2.1 _
  have Z1 : Hid (w0.heap.size ≤ (v1.setCell ⟨k, 0, none⟩ (.slice a1 h.n n1)).heap.size) := by
    have := b1.size
    show _ ≤ _
    simpa [World.setCell] using this
  clear c0 c1 c2 c3 c4 c5 bf o1 b1 C1 A B L
  obtain ⟨_, ⟨c0, c1, c2, c3, c4, c5⟩, bf⟩ := B1.out
  have bf0 := bf 0
  go_upto_region 2 with fail
  generalize v1.setCell ⟨k, 0, none⟩ (.slice a1 h.n n1) = u1 at A1 B2 O1 L1 Z1 ⊢
  clear c0 c1 c2 c3 c4 c5 bf bf0 B1
  obtain ⟨_, ⟨c0, c1, c2, c3, c4, c5⟩, _⟩ := B2.out
  dsimp only at c0 c1 c2 c3 c4 c5
  go_wp2_with fail
  with_reducible refine (C2.out _ (Q.out.below L1.out (Nat.le_refl _))).mono ?_
  rintro e v2 ⟨a2, n2, rfl, o2, b2⟩
  have B3 := hide (B2.out.below b2 (Nat.lt_of_lt_of_le ZA.out.1 Z1.out))
  have A3 := hide ((A1.out.below b2 (Nat.lt_of_lt_of_le ZA.out.2.1 Z1.out)).far (p := ⟨k, 1, none⟩) ZA.out.2.2.2.2 (.slice a2 h.m n2))
  have B4 := hide (B3.out.setk a2 h.m n2)
  have O3 := hide ((O1.out.below b2 (Nat.le_refl _)).set ZA.out.1 1 (.slice a2 h.m n2))
  have O4 := hide (OwnU.set (b := k) o2 (Nat.lt_of_lt_of_le ZA.out.1 Z1.out) 1 (.slice a2 h.m n2))
  have L2 : Hid (Below w.heap.size w (v2.setCell ⟨k, 1, none⟩ (.slice a2 h.m n2))) := (bel_to L1.out (Nat.le_refl _) b2).setCell (p := ⟨k, 1, none⟩) ZA.out.2.2.1 _
  clear c0 c1 c2 c3 c4 c5 o2 b2 C2 A1 B2 L1 O1
  obtain ⟨_, ⟨c0, c1, c2, c3, c4, c5⟩, bf⟩ := B3.out
  have bf1 := bf 1
  dsimp only at c0 c1 c2 c3 c4 c5
  go_upto_region 3 with fail
  generalize v2.setCell ⟨k, 1, none⟩ (.slice a2 h.m n2) = u2 at A3 B4 O3 O4 L2 ⊢
  clear c0 c1 c2 c3 c4 c5 bf bf1 B3
  obtain ⟨_, ⟨c0, c1, c2, c3, c4, c5⟩, _⟩ := B4.out
  obtain ⟨_, ⟨d0, d1, d2, d3, d4, d5⟩, df⟩ := A3.out
  have f0 := df 0
  have f1 := df 1
  have f2 := df 2
  have f3 := df 3
  have f4 := df 4
  have f5 := df 5
  dsimp only [hd0, g0] at c0 c1 c2 c3 c4 c5 d0 d1 d2 d3 d4 d5
  have F := hide (A3.out.put ⟨a1, h.n, n1, a2, h.m, n2⟩ s.g)
  have M : Hid (MadeP (put6 u2 k' ⟨a1, h.n, n1, a2, h.m, n2⟩ s.g) w.heap.size ⟨a1, h.n, n1, a2, h.m, n2⟩ s) :=
    made_of ((ownb_put O3.out ZA.out.2.1 _ _).mono (Nat.le_trans ZA.out.2.2.1 (Nat.le_of_lt ZA.out.1))) (Own.mono (ownu_put O4.out (Nat.lt_of_lt_of_le ZA.out.2.1 Z1.out) _ _) (Nat.le_trans (Nat.le_trans ZA.out.2.2.1 (Nat.le_of_lt ZA.out.1)) Z1.out)) Q.out.rh.2.2.1 Q.out.rk.words Q.out.g Q.out.sh Q.out.sk
  have L3 := hide (below_put L2.out ZA.out.2.2.2.1 ⟨a1, h.n, n1, a2, h.m, n2⟩ s.g)
  clear df
  go_wp2
  obtain ⟨_, ⟨e0, e1, e2, e3, e4, e5⟩, _⟩ := F.out
  unfold put6 at e0 e1 e2 e3 e4 e5
  dsimp only at e0 e1 e2 e3 e4 e5
  exact bodyPost_ret (v := .agg #[.slice a1 h.n n1, .slice a2 h.m n2, .int .u64 s.g.n, .int .u64 s.g.nans, .int .u64 s.g.lo, .int .u64 s.g.hi]) (by simp [results, Tryz.results7, go_sem, e0, e1, e2, e3, e4, e5]) rfl ⟨⟨a1, h.n, n1, a2, h.m, n2⟩, rfl, M.out, L3.out⟩
end Go.Proofs.YtadcaonkmncgoaaGreat

namespace Go.Proofs.YtadcaonkmncgoaaGreat
open Go.RowKit
set_option maxRecDepth 20000

/-- A sketch that may be. -/
structure Ok (s : Sp) : Prop where
  h : Good s.hist
  k : chkK s.keys = true
  w : ∀ x ∈ s.keys, W64 x
  g : GW s.g
  c : chkG s.g = true
theorem ok_of {w : World} {h : Hd} {s : Sp} (q : SeeP w h s) (c : chkP s = true) : Ok s := by
  unfold chkP at c
  simp only [Bool.and_eq_true] at c
  exact ⟨good_from c.1 q.rh.2.2.1, c.2.1, q.rk.words, q.g, c.2.2⟩
theorem Ok.chk {s : Sp} (h : Ok s) : chkP s = true := by
  unfold chkP
  have h1 : checkS s.hist = true := h.h.check
  rw [h1, h.k, h.c]; rfl
theorem mem_take_uni {a b : List Int} {n : Nat} {x : Int} (h : x ∈ (uni a b).take n) : x ∈ a ∨ x ∈ b := mem_uni.1 (List.mem_of_mem_take h)

theorem keep2s {w0 v v' : World} {k k' B : Nat} {h h' : Hd} {g g' : Gz} (hb : Below v.heap.size v v') (q : ((World.cell? v ⟨k, 0, none⟩ = some (.slice (Hd.a h) (Hd.n h) (Hd.c h))) ∧ (World.cell? v ⟨k, 1, none⟩ = some (.slice (Hd.k h) (Hd.m h) (Hd.d h))) ∧ (World.cell? v ⟨k, 2, none⟩ = some (.int .u64 (Gz.n g))) ∧ (World.cell? v ⟨k, 3, none⟩ = some (.int .u64 (Gz.nans g))) ∧ (World.cell? v ⟨k, 4, none⟩ = some (.int .u64 (Gz.lo g))) ∧ (World.cell? v ⟨k, 5, none⟩ = some (.int .u64 (Gz.hi g)))) ∧ ((World.cell? v ⟨k', 0, none⟩ = some (.slice (Hd.a h') (Hd.n h') (Hd.c h'))) ∧ (World.cell? v ⟨k', 1, none⟩ = some (.slice (Hd.k h') (Hd.m h') (Hd.d h'))) ∧ (World.cell? v ⟨k', 2, none⟩ = some (.int .u64 (Gz.n g'))) ∧ (World.cell? v ⟨k', 3, none⟩ = some (.int .u64 (Gz.nans g'))) ∧ (World.cell? v ⟨k', 4, none⟩ = some (.int .u64 (Gz.lo g'))) ∧ (World.cell? v ⟨k', 5, none⟩ = some (.int .u64 (Gz.hi g')))) ∧ Hid (k < v.heap.size ∧ k' < v.heap.size ∧ B ≤ v.heap.size ∧ Below B w0 v)) :
    ((World.cell? v' ⟨k, 0, none⟩ = some (.slice (Hd.a h) (Hd.n h) (Hd.c h))) ∧ (World.cell? v' ⟨k, 1, none⟩ = some (.slice (Hd.k h) (Hd.m h) (Hd.d h))) ∧ (World.cell? v' ⟨k, 2, none⟩ = some (.int .u64 (Gz.n g))) ∧ (World.cell? v' ⟨k, 3, none⟩ = some (.int .u64 (Gz.nans g))) ∧ (World.cell? v' ⟨k, 4, none⟩ = some (.int .u64 (Gz.lo g))) ∧ (World.cell? v' ⟨k, 5, none⟩ = some (.int .u64 (Gz.hi g)))) ∧ ((World.cell? v' ⟨k', 0, none⟩ = some (.slice (Hd.a h') (Hd.n h') (Hd.c h'))) ∧ (World.cell? v' ⟨k', 1, none⟩ = some (.slice (Hd.k h') (Hd.m h') (Hd.d h'))) ∧ (World.cell? v' ⟨k', 2, none⟩ = some (.int .u64 (Gz.n g'))) ∧ (World.cell? v' ⟨k', 3, none⟩ = some (.int .u64 (Gz.nans g'))) ∧ (World.cell? v' ⟨k', 4, none⟩ = some (.int .u64 (Gz.lo g'))) ∧ (World.cell? v' ⟨k', 5, none⟩ = some (.int .u64 (Gz.hi g')))) ∧ Hid (k < v'.heap.size ∧ k' < v'.heap.size ∧ B ≤ v'.heap.size ∧ Below B w0 v') := by
  obtain ⟨⟨c0, c1, c2, c3, c4, c5⟩, ⟨d0, d1, d2, d3, d4, d5⟩, l1, l2, l3, l4⟩ := q
  have s := hb.size
  exact ⟨⟨(hb.cell l1).trans c0, (hb.cell l1).trans c1, (hb.cell l1).trans c2, (hb.cell l1).trans c3, (hb.cell l1).trans c4, (hb.cell l1).trans c5⟩, ⟨(hb.cell l2).trans d0, (hb.cell l2).trans d1, (hb.cell l2).trans d2, (hb.cell l2).trans d3, (hb.cell l2).trans d4, (hb.cell l2).trans d5⟩, Nat.lt_of_lt_of_le l1 s, Nat.lt_of_lt_of_le l2 s, Nat.le_trans l3 s, l4.trans (hb.mono l3)⟩
theorem keep2p {w0 v : World} {k k' b B : Nat} {h h' : Hd} {g g' : Gz} (hne : Hid (k ≠ b ∧ k' ≠ b ∧ B ≤ b)) (hh : Hd) (gg : Gz) (q : ((World.cell? v ⟨k, 0, none⟩ = some (.slice (Hd.a h) (Hd.n h) (Hd.c h))) ∧ (World.cell? v ⟨k, 1, none⟩ = some (.slice (Hd.k h) (Hd.m h) (Hd.d h))) ∧ (World.cell? v ⟨k, 2, none⟩ = some (.int .u64 (Gz.n g))) ∧ (World.cell? v ⟨k, 3, none⟩ = some (.int .u64 (Gz.nans g))) ∧ (World.cell? v ⟨k, 4, none⟩ = some (.int .u64 (Gz.lo g))) ∧ (World.cell? v ⟨k, 5, none⟩ = some (.int .u64 (Gz.hi g)))) ∧ ((World.cell? v ⟨k', 0, none⟩ = some (.slice (Hd.a h') (Hd.n h') (Hd.c h'))) ∧ (World.cell? v ⟨k', 1, none⟩ = some (.slice (Hd.k h') (Hd.m h') (Hd.d h'))) ∧ (World.cell? v ⟨k', 2, none⟩ = some (.int .u64 (Gz.n g'))) ∧ (World.cell? v ⟨k', 3, none⟩ = some (.int .u64 (Gz.nans g'))) ∧ (World.cell? v ⟨k', 4, none⟩ = some (.int .u64 (Gz.lo g'))) ∧ (World.cell? v ⟨k', 5, none⟩ = some (.int .u64 (Gz.hi g')))) ∧ Hid (k < v.heap.size ∧ k' < v.heap.size ∧ B ≤ v.heap.size ∧ Below B w0 v)) :
    ((World.cell? ((put6 v b hh gg)) ⟨k, 0, none⟩ = some (.slice (Hd.a h) (Hd.n h) (Hd.c h))) ∧ (World.cell? ((put6 v b hh gg)) ⟨k, 1, none⟩ = some (.slice (Hd.k h) (Hd.m h) (Hd.d h))) ∧ (World.cell? ((put6 v b hh gg)) ⟨k, 2, none⟩ = some (.int .u64 (Gz.n g))) ∧ (World.cell? ((put6 v b hh gg)) ⟨k, 3, none⟩ = some (.int .u64 (Gz.nans g))) ∧ (World.cell? ((put6 v b hh gg)) ⟨k, 4, none⟩ = some (.int .u64 (Gz.lo g))) ∧ (World.cell? ((put6 v b hh gg)) ⟨k, 5, none⟩ = some (.int .u64 (Gz.hi g)))) ∧ ((World.cell? ((put6 v b hh gg)) ⟨k', 0, none⟩ = some (.slice (Hd.a h') (Hd.n h') (Hd.c h'))) ∧ (World.cell? ((put6 v b hh gg)) ⟨k', 1, none⟩ = some (.slice (Hd.k h') (Hd.m h') (Hd.d h'))) ∧ (World.cell? ((put6 v b hh gg)) ⟨k', 2, none⟩ = some (.int .u64 (Gz.n g'))) ∧ (World.cell? ((put6 v b hh gg)) ⟨k', 3, none⟩ = some (.int .u64 (Gz.nans g'))) ∧ (World.cell? ((put6 v b hh gg)) ⟨k', 4, none⟩ = some (.int .u64 (Gz.lo g'))) ∧ (World.cell? ((put6 v b hh gg)) ⟨k', 5, none⟩ = some (.int .u64 (Gz.hi g')))) ∧ Hid (k < (put6 v b hh gg).heap.size ∧ k' < (put6 v b hh gg).heap.size ∧ B ≤ (put6 v b hh gg).heap.size ∧ Below B w0 (put6 v b hh gg)) := by
  obtain ⟨⟨c0, c1, c2, c3, c4, c5⟩, ⟨d0, d1, d2, d3, d4, d5⟩, l1, l2, l3, l4⟩ := q
  obtain ⟨n1, n2, n3⟩ := hne.out
  have hz : (put6 v b hh gg).heap.size = v.heap.size := by simp [put6, World.setCell]
  have e : ∀ x, x ≠ b → ∀ i, (put6 v b hh gg).cell? ⟨x, i, none⟩ = v.cell? ⟨x, i, none⟩ := by
    intro x hx i
    refine World.cell?_of_block (w := v) ?_
    unfold put6
    rw [Below.heap_setCell _ _ _ x hx, Below.heap_setCell _ _ _ x hx, Below.heap_setCell _ _ _ x hx, Below.heap_setCell _ _ _ x hx, Below.heap_setCell _ _ _ x hx, Below.heap_setCell _ _ _ x hx]
  exact ⟨⟨(e k n1 0).trans c0, (e k n1 1).trans c1, (e k n1 2).trans c2, (e k n1 3).trans c3, (e k n1 4).trans c4, (e k n1 5).trans c5⟩, ⟨(e k' n2 0).trans d0, (e k' n2 1).trans d1, (e k' n2 2).trans d2, (e k' n2 3).trans d3, (e k' n2 4).trans d4, (e k' n2 5).trans d5⟩, by rw [hz]; exact l1, by rw [hz]; exact l2, by rw [hz]; exact l3, below_put l4 n3 _ _⟩

end Go.Proofs.YtadcaonkmncgoaaGreat
