/-
  The document's own answer whether two sketches are the same: a contract, for every world.
  Conditions: the sketches lie in memory.
-/
import Derived.Test.YtadcaonkmncgoaaPairK
import Derived.Test.YtadcaonkmncgoaaNumS
import Derived.Deep.QuietTactic
import Derived.BigQuiet
namespace Go.Proofs.Ytadcaonkmncgoaa
open Go.RowKit
set_option maxRecDepth 20000

set_option maxHeartbeats 2000000 in
theorem refpsame_any (h : Hd) (s : Sp) (h' : Hd) (s' : Sp) (w : World) (q : SeeP w h s) (q' : SeeP w h' s') :
    Calls Try.prog 10 #[(Value.agg #[.slice (Hd.a h) (Hd.n h) (Hd.c h), .slice (Hd.k h) (Hd.m h) (Hd.d h), .int .u64 (Gz.n s.g), .int .u64 (Gz.nans s.g), .int .u64 (Gz.lo s.g), .int .u64 (Gz.hi s.g)]), (Value.agg #[.slice (Hd.a h') (Hd.n h') (Hd.c h'), .slice (Hd.k h') (Hd.m h') (Hd.d h'), .int .u64 (Gz.n s'.g), .int .u64 (Gz.nans s'.g), .int .u64 (Gz.lo s'.g), .int .u64 (Gz.hi s'.g)])] w fun e w' => e = .returned (.bool (decide (s = s'))) ∧ Below w.heap.size w w' := by
  obtain ⟨w0, hw0⟩ : ∃ w0, Hid ((w.alloc (.cells #[.slice h.a h.n h.c, .slice h.k h.m h.d, .int .u64 s.g.n, .int .u64 s.g.nans, .int .u64 s.g.lo, .int .u64 s.g.hi] 30)).alloc (.cells #[.slice h'.a h'.n h'.c, .slice h'.k h'.m h'.d, .int .u64 s'.g.n, .int .u64 s'.g.nans, .int .u64 s'.g.lo, .int .u64 s'.g.hi] 30) = w0) := ⟨_, rfl⟩
  have B : Hid (SBox w0 w.heap.size h s.g) := by rw [← hw0.out]; exact (SBox.new w _ _ _).alloc _
  have B' : Hid (SBox w0 (w.heap.size + 1) h' s'.g) := by
    rw [← hw0.out]
    have := SBox.new (w.alloc (.cells #[.slice h.a h.n h.c, .slice h.k h.m h.d, .int .u64 s.g.n, .int .u64 s.g.nans, .int .u64 s.g.lo, .int .u64 s.g.hi] 30)) 30 h' s'.g
    rwa [size_al] at this
  have HX : Hid (RowB w0 h.a h.n s.hist) := by rw [← hw0.out]; exact ((q.alloc _).alloc _).rh
  have HY : Hid (RowB w0 h'.a h'.n s'.hist) := by rw [← hw0.out]; exact ((q'.alloc _).alloc _).rh
  have KX : Hid (Row .u64 w0 h.k h.m s.keys) := by rw [← hw0.out]; exact ((q.alloc _).alloc _).rk
  have KY : Hid (Row .u64 w0 h'.k h'.m s'.keys) := by rw [← hw0.out]; exact ((q'.alloc _).alloc _).rk
  have L : Hid (Below w.heap.size w w0) := by rw [← hw0.out]; exact bel2 _ _ _
  have hl := HX.out.1
  have hl' := HY.out.1
  have hm := KX.out.1
  have hm' := KY.out.1
  have hn := HX.out.2.1
  have hkn := KX.out.2.1
  clear q q'
  obtain ⟨k, hk⟩ : ∃ k, Hid (w.heap.size = k) := ⟨_, rfl⟩
  obtain ⟨k', hk'⟩ : ∃ k', Hid (k + 1 = k') := ⟨_, rfl⟩
  rw [hk.out] at B B'
  rw [hk'.out] at B'
  have NO : Hid (s ≠ s' → decide (s = s') = false) := fun x => decide_eq_false x
  by_cases hnn : h.n = h'.n
  · by_cases hmm : h.m = h'.m
    · by_cases hgg : s.g = s'.g
      · have t1 : ((h.n : Int) != (h'.n : Int)) = false := by simp [hnn]
        have t2 : ((h.m : Int) != (h'.m : Int)) = false := by simp [hmm]
        have YES : Hid (s.hist = s'.hist → s.keys = s'.keys → decide (s = s') = true) := fun x y => decide_eq_true (by
          obtain ⟨_, _, _⟩ := s
          obtain ⟨_, _, _⟩ := s'
          simp only at x y hgg
          rw [x, y, hgg])
        have NOH : Hid (s.hist ≠ s'.hist → decide (s = s') = false) := fun x => decide_eq_false (fun y => x (by rw [y]))
        have NOK : Hid (s.keys ≠ s'.keys → decide (s = s') = false) := fun x => decide_eq_false (fun y => x (by rw [y]))
        have hgg' := hgg.symm
        rw [hgg'] at B' hw0 ⊢
        generalize decide (s = s') = ans at *
        rw [← hnn] at HY hl'
        rw [← hmm] at KY hm'
        have HNN := hide hnn
        have HMM := hide hmm
        clear hnn hmm
        generalize s.g = g at *
        generalize s.hist = l at *
        generalize s'.hist = l' at *
        generalize s.keys = z at *
        generalize s'.keys = z' at *
        have HL := hide hl
        have HM := hide hl'
        have ZL := hide hm
        have ZM := hide hm'
        have SZ := hide B.out.lt
        have SZ' := hide B'.out.lt
        clear NO hgg hgg' hl hl' hm hm'
        obtain ⟨_, ⟨c0, c1, c2, c3, c4, c5⟩, _⟩ := B.out
        obtain ⟨_, ⟨d0, d1, d2, d3, d4, d5⟩, _⟩ := B'.out
        go_enter Try.func10, Try.ntmps10
        go_upto_region 1 with fail
        rw [hw0.out, hk.out, hk'.out]
        go_wp2_with fail
        clear c0 c1 c2 c3 c4 c5 d0 d1 d2 d3 d4 d5
        go_loopw [5] (fun i wr => ∃ j : Nat, j ≤ h.n ∧ i = .int .i64 j ∧ Hid (l.take j = l'.take j) ∧ Hid (Below w0.heap.size w0 wr)) (fun i _ => h.n - (intOf i).toNat)
        case atStart => exact ⟨0, by omega, rfl, by show _ = _; simp, Below.refl _ _⟩
        case round =>
          obtain ⟨j, hj, rfl, HT, HW⟩ := hrel
          obtain ⟨_, ⟨c0, c1, c2, c3, c4, c5⟩, _⟩ := B.out.below HW.out SZ.out
          obtain ⟨_, ⟨d0, d1, d2, d3, d4, d5⟩, _⟩ := B'.out.below HW.out SZ'.out
          have LW : Hid (Below w.heap.size w wr) := bel_to L.out (Nat.le_refl _) HW.out
          by_cases hlt : j < h.n
          · obtain ⟨_, _, _, hz | ⟨x0, o0, ha, f0⟩⟩ := HX.out.below HW.out (Nat.le_refl _)
            · omega
            obtain ⟨_, _, _, hz | ⟨x1, o1, ha', f1⟩⟩ := HY.out.below HW.out (Nat.le_refl _)
            · omega
            rw [ha] at c0
            rw [ha'] at d0
            obtain ⟨g0, g0'⟩ := f0 j hlt
            obtain ⟨g1, g1'⟩ := f1 j hlt
            have S0 := hide (take_bks (l := l) (k := j) (by rw [HL.out]; exact hlt))
            have S1 := hide (take_bks (l := l') (k := j) (by rw [HM.out]; exact hlt))
            have i1 : (0 : Int) ≤ (j : Int) := by omega
            have i2 : (j : Int) < (h.n : Int) := by omega
            have i3 : (j : Int) < (h'.n : Int) := by rw [← HNN.out]; omega
            have HG : Hid (l.getD j (0, 0) ≠ l'.getD j (0, 0) → ans = false) := fun x => NOH.out (fun e => x (by rw [e]))
            clear f0 f1 ha ha'
            generalize l.getD j (0, 0) = p at *
            generalize l'.getD j (0, 0) = q at *
            obtain ⟨p1, p2⟩ := p
            obtain ⟨q1, q2⟩ := q
            simp only at g0 g0' g1 g1'
            by_cases hpq : p1 = q1 ∧ p2 = q2
            · obtain ⟨rfl, rfl⟩ := hpq
              have HT2 : Hid (l.take (j + 1) = l'.take (j + 1)) := by show _ = _; rw [S0.out, S1.out, HT.out]
              have t3 : (p1 == p1) = true := by simp
              have t4 : (p2 == p2) = true := by simp
              go_wp2
              go_quiet (fail)
              go_wp2
              go_roundw
              case rel => exact ⟨j + 1, by omega, by go_num, HT2, bel_drewN HW.out _⟩
              case measure => simp [intOf]; omega
            · have HN := HG.out (fun e => hpq (by simpa using e))
              subst HN
              by_cases h1 : p1 = q1
              · have t3 : (p1 == q1) = true := by simpa using h1
                have t4 : (p2 == q2) = false := by simpa using fun x => hpq ⟨h1, x⟩
                clear hpq HG h1
                go_wp2
                go_quiet (fail)
                go_wp2
                go_ret
                exact ⟨rfl, bel_drewN LW.out _⟩
              · have t3 : (p1 == q1) = false := by simpa using h1
                clear hpq HG h1
                go_wp2
                go_quiet (fail)
                go_wp2
                go_ret
                exact ⟨rfl, bel_drewN LW.out _⟩
          · have hjn : j = h.n := by omega
            have HE : Hid (l = l') := by
              have := HT.out
              rw [List.take_of_length_le (by rw [HL.out]; omega), List.take_of_length_le (by rw [HM.out]; omega)] at this
              exact this
            have i3 : ¬ (j : Int) < (h.n : Int) := by omega
            go_wp2_with fail
            clear c0 c1 c2 c3 c4 c5 d0 d1 d2 d3 d4 d5 hjn i3 hj hlt
            go_loopw [6] (fun i wr => ∃ j : Nat, j ≤ h.m ∧ i = .int .i64 j ∧ Hid (z.take j = z'.take j) ∧ Hid (Below w0.heap.size w0 wr)) (fun i _ => h.m - (intOf i).toNat)
            case atStart => exact ⟨0, by omega, rfl, by show _ = _; simp, HW⟩
            case round =>
              obtain ⟨j, hj, rfl, HT, HW⟩ := hrel
              obtain ⟨_, ⟨c0, c1, c2, c3, c4, c5⟩, _⟩ := B.out.below HW.out SZ.out
              obtain ⟨_, ⟨d0, d1, d2, d3, d4, d5⟩, _⟩ := B'.out.below HW.out SZ'.out
              have LW : Hid (Below w.heap.size w wr) := bel_to L.out (Nat.le_refl _) HW.out
              by_cases hlt : j < h.m
              · obtain ⟨_, _, _, hz | ⟨x0, o0, ha, f0⟩⟩ := KX.out.below HW.out (Nat.le_refl _)
                · omega
                obtain ⟨_, _, _, hz | ⟨x1, o1, ha', f1⟩⟩ := KY.out.below HW.out (Nat.le_refl _)
                · omega
                rw [ha] at c1
                rw [ha'] at d1
                have g0 := f0 j hlt
                have g1 := f1 j hlt
                have S0 := hide (take_step (ls := z) (k := j) (by rw [ZL.out]; exact hlt))
                have S1 := hide (take_step (ls := z') (k := j) (by rw [ZM.out]; exact hlt))
                have i1 : (0 : Int) ≤ (j : Int) := by omega
                have i2 : (j : Int) < (h.m : Int) := by omega
                have i3 : (j : Int) < (h'.m : Int) := by rw [← HMM.out]; omega
                have HG : Hid (z.getD j 0 ≠ z'.getD j 0 → ans = false) := fun x => NOK.out (fun e => x (by rw [e]))
                clear f0 f1 ha ha'
                generalize z.getD j 0 = p at *
                generalize z'.getD j 0 = q at *
                by_cases hpq : p = q
                · subst hpq
                  have HT2 : Hid (z.take (j + 1) = z'.take (j + 1)) := by show _ = _; rw [S0.out, S1.out, HT.out]
                  have t3 : (p != p) = false := by simp
                  go_wp2
                  go_quiet (fail)
                  go_wp2
                  go_roundw
                  case rel => exact ⟨j + 1, by omega, by go_num, HT2, bel_drewN HW.out _⟩
                  case measure => simp [intOf]; omega
                · have HN := HG.out hpq
                  subst HN
                  have t3 : (p != q) = true := by simpa using hpq
                  clear hpq HG
                  go_wp2
                  go_quiet (fail)
                  go_wp2
                  go_ret
                  exact ⟨rfl, bel_drewN LW.out _⟩
              · have hjn : j = h.m := by omega
                have HE2 : z = z' := by
                  have := HT.out
                  rw [List.take_of_length_le (by rw [ZL.out]; omega), List.take_of_length_le (by rw [ZM.out]; omega)] at this
                  exact this
                have HN := YES.out HE.out HE2
                subst HN
                have i3 : ¬ (j : Int) < (h.m : Int) := by omega
                clear HE2 HT
                go_wp2
                go_ret
                exact ⟨rfl, LW.out⟩
      · rw [NO.out (fun x => hgg (by rw [x]))]
        have hq : ¬ (s.g.n = s'.g.n ∧ s.g.nans = s'.g.nans ∧ s.g.lo = s'.g.lo ∧ s.g.hi = s'.g.hi) := fun x => hgg (Gz.ext' x.1 x.2.1 x.2.2.1 x.2.2.2)
        have t1 : ((h.n : Int) != (h'.n : Int)) = false := by simp [hnn]
        have t2 : ((h.m : Int) != (h'.m : Int)) = false := by simp [hmm]
        obtain ⟨_, ⟨c0, c1, c2, c3, c4, c5⟩, _⟩ := B.out
        obtain ⟨_, ⟨d0, d1, d2, d3, d4, d5⟩, _⟩ := B'.out
        clear NO hnn hmm hgg
        generalize s.g = g at *
        generalize s'.g = g' at *
        cases b0 : (g.n == g'.n)
        · clear hq
          go_enter Try.func10, Try.ntmps10
          go_upto_region 1 with fail
          rw [hw0.out, hk.out, hk'.out]
          go_wp2
          go_ret
          exact ⟨rfl, L.out⟩
        cases b1 : (g.nans == g'.nans)
        · clear hq
          go_enter Try.func10, Try.ntmps10
          go_upto_region 1 with fail
          rw [hw0.out, hk.out, hk'.out]
          go_wp2
          go_ret
          exact ⟨rfl, L.out⟩
        cases b2 : (g.lo == g'.lo)
        · clear hq
          go_enter Try.func10, Try.ntmps10
          go_upto_region 1 with fail
          rw [hw0.out, hk.out, hk'.out]
          go_wp2
          go_ret
          exact ⟨rfl, L.out⟩
        cases b3 : (g.hi == g'.hi)
        · clear hq
          go_enter Try.func10, Try.ntmps10
          go_upto_region 1 with fail
          rw [hw0.out, hk.out, hk'.out]
          go_wp2
          go_ret
          exact ⟨rfl, L.out⟩
        exact absurd ⟨by simpa using b0, by simpa using b1, by simpa using b2, by simpa using b3⟩ hq
    · have t1 : ((h.n : Int) != (h'.n : Int)) = false := by simp [hnn]
      have t2 : ((h.m : Int) != (h'.m : Int)) = true := by simp; omega
      rw [NO.out (fun x => hmm (by rw [← hm, ← hm', x]))]
      obtain ⟨_, ⟨c0, c1, c2, c3, c4, c5⟩, _⟩ := B.out
      obtain ⟨_, ⟨d0, d1, d2, d3, d4, d5⟩, _⟩ := B'.out
      clear NO hnn hmm
      go_enter Try.func10, Try.ntmps10
      go_upto_region 1 with fail
      rw [hw0.out, hk.out, hk'.out]
      go_wp2
      go_ret
      exact ⟨rfl, L.out⟩
  · have t1 : ((h.n : Int) != (h'.n : Int)) = true := by simp; omega
    rw [NO.out (fun x => hnn (by rw [← hl, ← hl', x]))]
    obtain ⟨_, ⟨c0, c1, c2, c3, c4, c5⟩, _⟩ := B.out
    obtain ⟨_, ⟨d0, d1, d2, d3, d4, d5⟩, _⟩ := B'.out
    clear NO hnn
    go_enter Try.func10, Try.ntmps10
    go_upto_region 1 with fail
    rw [hw0.out, hk.out, hk'.out]
    go_wp2
    go_ret
    exact ⟨rfl, L.out⟩
end Go.Proofs.Ytadcaonkmncgoaa
