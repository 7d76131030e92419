/-
  What the landed code says of sketches: may it be one, is it empty, are two the same: contracts, for every world.
  Conditions: the sketches lie in memory.
-/
import Derived.Test.YtadcaonkmncgoaaPairI
import Derived.Test.YtadcaonkmncgoaaHistAz
import Derived.Test.YtadcaonkmncgoaaKmvNz
import Derived.Test.YtadcaonkmncgoaaGaugeD
import Derived.Deep.RegionHeld3
import Derived.Deep.DeepCutAuto
import Derived.Deep.LoopGhost
import Derived.Deep.Draws
import Derived.Shelf.RegionOpenPlain
namespace Go.Proofs.Ytadcaonkmncgoaa
open Go.RowKit Go.Shelf
set_option maxRecDepth 20000

theorem ends_ints {xs ys : List Int} {n : Nat} (hx : xs.length = n) (hy : ys.length = n) (h : ∀ j, j < n → xs.getD j 0 = ys.getD j 0) : xs = ys := by
  refine List.ext_getElem (by omega) fun i h1 h2 => ?_
  have := h i (by omega)
  rw [List.getD_eq_getElem?_getD, List.getD_eq_getElem?_getD, List.getElem?_eq_getElem h1, List.getElem?_eq_getElem h2] at this
  simpa using this
theorem ends_bks {xs ys : Bks} {n : Nat} (hx : xs.length = n) (hy : ys.length = n) (h : ∀ j, j < n → xs.getD j (0, 0) = ys.getD j (0, 0)) : xs = ys := by
  refine List.ext_getElem (by omega) fun i h1 h2 => ?_
  have := h i (by omega)
  rw [List.getD_eq_getElem?_getD, List.getD_eq_getElem?_getD, List.getElem?_eq_getElem h1, List.getElem?_eq_getElem h2] at this
  simpa using this

set_option maxHeartbeats 2000000 in
set_option maxRecDepth 100000 in
theorem equalU_any (a : Option Addr) (n cap : Nat) (xs : List Int) (b : Option Addr) (m capb : Nat) (ys : List Int) (w : World) (hr : Row .u64 w a n xs) (hs : Row .u64 w b m ys) :
    Calls Try.prog 38 #[.slice a n cap, .slice b m capb] w fun e w' => e = .returned (.bool (decide (xs = ys))) ∧ ∃ q, w' = w.drewN q := by
  have mixed : Try.prog.follows .mixedOrders = true := by kernel_rfl
  have hn := hr.2.1
  have HX := hide hr
  have HY := hide hs
  by_cases hnm : n = m
  · subst hnm
    clear hr hs
    go_enter Try.func38, Try.ntmps38
    go_wp2
    go_loopg [13] n (fun g s13 wr => ∃ k q : Nat, k ≤ n ∧ n - k ≤ g ∧ s13 = .int .i64 k ∧ wr = w.drewN q ∧ Hid (∀ j, j < k → xs.getD j 0 = ys.getD j 0))
    case atStart => exact ⟨0, 0, Nat.zero_le _, by omega, rfl, rfl, fun j hj => absurd hj (Nat.not_lt_zero _)⟩
    case round =>
      obtain ⟨k, q, hk, hg, rfl, rfl, A⟩ := hrel
      by_cases hlt : k < n
      · obtain ⟨_, _, _, h0 | ⟨b1, o1, rfl, hc1⟩⟩ := HX.out
        · omega
        obtain ⟨_, _, _, h0 | ⟨b2, o2, rfl, hc2⟩⟩ := HY.out
        · omega
        have g1 := hc1 k hlt
        have g2 := hc2 k hlt
        clear hc1 hc2
        generalize hxk : xs.getD k 0 = x at g1
        generalize hyk : ys.getD k 0 = y at g2
        have B : Hid (xs.getD k 0 = x ∧ ys.getD k 0 = y) := ⟨hxk, hyk⟩
        clear hxk hyk
        by_cases hxy : x = y
        · subst hxy
          go_wp2_with fail
          go_region_o
          go_wp2
          go_roundg (n - (k + 1))
          case measure => omega
          case rel =>
            refine ⟨k + 1, q + 1, by omega, by omega, by go_num, rfl, fun j hj => ?_⟩
            by_cases e : j = k
            · subst e
              rw [B.out.1, B.out.2]
            · exact A.out j (by omega)
        · go_wp2_with fail
          go_region_o
          go_wp2
          go_ret
          refine ⟨?_, q + 1, rfl⟩
          rw [decide_eq_false (fun e => hxy (by rw [← B.out.1, ← B.out.2, e]))]; rfl
      · have : k = n := by omega
        subst this
        go_wp2
        go_ret
        refine ⟨?_, q, rfl⟩
        rw [decide_eq_true (ends_ints HX.out.1 HY.out.1 A.out)]; rfl
  · have t1 : ((n : Int) != (m : Int)) = true := by simp; omega
    have E : decide (xs = ys) = false := decide_eq_false (fun e => hnm (by rw [← hr.1, ← hs.1, e]))
    rw [E]
    clear hr hs hnm E
    go_enter Try.func38, Try.ntmps38
    go_wp2
    go_ret
    exact ⟨rfl, 0, rfl⟩

set_option maxHeartbeats 2000000 in
set_option maxRecDepth 100000 in
theorem equalB_any (a : Option Addr) (n cap : Nat) (xs : Bks) (b : Option Addr) (m capb : Nat) (ys : Bks) (w : World) (hr : RowB w a n xs) (hs : RowB w b m ys) :
    Calls Try.prog 37 #[.slice a n cap, .slice b m capb] w fun e w' => e = .returned (.bool (decide (xs = ys))) ∧ ∃ q, w' = w.drewN q := by
  have hn := hr.2.1
  have HX := hide hr
  have HY := hide hs
  by_cases hnm : n = m
  · subst hnm
    clear hr hs
    go_enter Try.func37, Try.ntmps37
    go_wp2
    go_loopg [13] n (fun g s13 wr => ∃ k q : Nat, k ≤ n ∧ n - k ≤ g ∧ s13 = .int .i64 k ∧ wr = w.drewN q ∧ Hid (∀ j, j < k → xs.getD j (0, 0) = ys.getD j (0, 0)))
    case atStart => exact ⟨0, 0, Nat.zero_le _, by omega, rfl, rfl, fun j hj => absurd hj (Nat.not_lt_zero _)⟩
    case round =>
      obtain ⟨k, q, hk, hg, rfl, rfl, A⟩ := hrel
      by_cases hlt : k < n
      · obtain ⟨_, _, _, h0 | ⟨b1, o1, rfl, hc1⟩⟩ := HX.out
        · omega
        obtain ⟨_, _, _, h0 | ⟨b2, o2, rfl, hc2⟩⟩ := HY.out
        · omega
        obtain ⟨f0, f1⟩ := hc1 k hlt
        obtain ⟨g0, g1⟩ := hc2 k hlt
        clear hc1 hc2
        have i1 : (0 : Int) ≤ (k : Int) := by omega
        have i2 : (k : Int) < (n : Int) := by omega
        generalize hxk : xs.getD k (0, 0) = x at f0 f1
        generalize hyk : ys.getD k (0, 0) = y at g0 g1
        have B : Hid (xs.getD k (0, 0) = x ∧ ys.getD k (0, 0) = y) := ⟨hxk, hyk⟩
        clear hxk hyk
        obtain ⟨p1, p2⟩ := x
        obtain ⟨q1, q2⟩ := y
        simp only at f0 f1 g0 g1
        by_cases hpq : p1 = q1 ∧ p2 = q2
        · obtain ⟨rfl, rfl⟩ := hpq
          have t3 : (p1 == p1) = true := by simp
          have t4 : (p2 == p2) = true := by simp
          go_wp2
          go_quiet (fail)
          go_wp2
          go_roundg (n - (k + 1))
          case measure => omega
          case rel =>
            refine ⟨k + 1, _, by omega, by omega, by go_num, rfl, fun j hj => ?_⟩
            by_cases e : j = k
            · subst e
              rw [B.out.1, B.out.2]
            · exact A.out j (by omega)
        · have HN : Hid (decide (xs = ys) = false) := decide_eq_false (fun e => hpq (by
            have h1 := B.out.1
            rw [e, B.out.2] at h1
            simpa [eq_comm] using h1))
          by_cases h1 : p1 = q1
          · have t3 : (p1 == q1) = true := by simpa using h1
            have t4 : (p2 == q2) = false := by simpa using fun x => hpq ⟨h1, x⟩
            clear hpq h1
            go_wp2
            go_quiet (fail)
            go_wp2
            go_ret
            exact ⟨by rw [HN.out]; rfl, q + _, World.drewN_drewN _ _ _⟩
          · have t3 : (p1 == q1) = false := by simpa using h1
            clear hpq h1
            go_wp2
            go_quiet (fail)
            go_wp2
            go_ret
            exact ⟨by rw [HN.out]; rfl, q + _, World.drewN_drewN _ _ _⟩
      · have : k = n := by omega
        subst this
        go_wp2
        go_ret
        refine ⟨?_, q, rfl⟩
        rw [decide_eq_true (ends_bks HX.out.1 HY.out.1 A.out)]; rfl
  · have t1 : ((n : Int) != (m : Int)) = true := by simp; omega
    have E : decide (xs = ys) = false := decide_eq_false (fun e => hnm (by rw [← hr.1, ← hs.1, e]))
    rw [E]
    clear hr hs hnm E
    go_enter Try.func37, Try.ntmps37
    go_wp2
    go_ret
    exact ⟨rfl, 0, rfl⟩

set_option maxHeartbeats 2000000 in
theorem pchk_any (h : Hd) (s : Sp) (w : World) (q : SeeP w h s) :
    Calls Try.prog 12 #[(Value.agg #[.slice (Hd.a h) (Hd.n h) (Hd.c h), .slice (Hd.k h) (Hd.m h) (Hd.d h), .int .u64 (Gz.n s.g), .int .u64 (Gz.nans s.g), .int .u64 (Gz.lo s.g), .int .u64 (Gz.hi s.g)])] w fun e w' => e = .returned (.bool (chkP s)) ∧ Below w.heap.size w w' := by
  obtain ⟨w0, hw0⟩ : ∃ w0, Hid (w.alloc (.cells #[.slice h.a h.n h.c, .slice h.k h.m h.d, .int .u64 s.g.n, .int .u64 s.g.nans, .int .u64 s.g.lo, .int .u64 s.g.hi] 30) = w0) := ⟨_, rfl⟩
  have B : Hid (SBox w0 w.heap.size h s.g) := by rw [← hw0.out]; exact SBox.new w _ _ _
  have Q : Hid (SeeP w0 h s) := by rw [← hw0.out]; exact q.alloc _
  have L : Hid (Below w.heap.size w w0) := by rw [← hw0.out]; exact (Below.refl _ _).alloc (Nat.le_refl _) _
  have C1 := hide (fun W (x : SeeP W h s) => check_any h.a h.n h.c s.hist W x.rh)
  have C2 := hide (fun W (x : SeeP W h s) => kchk_any h.k h.m h.d s.keys W x.rk)
  have C3 := hide (fun W => gchk_any s.g q.g W)
  unfold chkP
  generalize checkS s.hist = b1 at C1 ⊢
  generalize chkK s.keys = b2 at C2 ⊢
  generalize chkG s.g = b3 at C3 ⊢
  clear q
  go_enter Try.func12, Try.ntmps12
  go_upto_region 1 with fail
  rw [hw0.out]
  clear hw0
  obtain ⟨k, hk⟩ : ∃ k, Hid (w.heap.size = k) := ⟨_, rfl⟩
  rw [hk.out] at B
  rw [hk.out]
  obtain ⟨_, ⟨c0, c1, c2, c3, c4, c5⟩, _⟩ := B.out
  go_wp2_with fail
  with_reducible refine (C1.out _ Q.out).mono ?_
  rintro e w1 ⟨rfl, d1⟩
  have D1 := hide d1
  have B1 := hide (B.out.below d1 B.out.lt)
  have Q1 := hide (Q.out.below d1 (Nat.le_refl _))
  have L1 : Hid (Below w.heap.size w w1) := bel_to L.out (Nat.le_refl _) d1
  clear d1
  clear D1 c0 c1 c2 c3 c4 c5 B Q L C1
  obtain ⟨_, ⟨c0, c1, c2, c3, c4, c5⟩, _⟩ := B1.out
  cases b1
  · go_wp2
    go_ret
    exact ⟨rfl, L1.out⟩
  go_wp2_with fail
  with_reducible refine (C2.out _ Q1.out).mono ?_
  rintro e w2 ⟨rfl, j2, rfl⟩
  have D2 : Hid (Below w1.heap.size w1 (w1.drewN j2)) := bel_drewN (Below.refl _ _) j2
  have B2 := hide (B1.out.below D2.out B1.out.lt)
  have L2 : Hid (Below w.heap.size w (w1.drewN j2)) := bel_to L1.out (Nat.le_refl _) D2.out
  generalize w1.drewN j2 = w2 at B2 L2 ⊢
  clear D2 c0 c1 c2 c3 c4 c5 B1 Q1 L1 C2
  obtain ⟨_, ⟨c0, c1, c2, c3, c4, c5⟩, _⟩ := B2.out
  cases b2
  · go_wp2
    go_ret
    exact ⟨rfl, L2.out⟩
  go_wp2_with fail
  with_reducible refine (C3.out _).mono ?_
  rintro e w3 ⟨rfl, k3⟩
  have L3 : Hid (Below w.heap.size w w3) := bel_to L2.out (Nat.le_refl _) k3
  clear k3
  go_wp2
  go_ret
  exact ⟨rfl, L3.out⟩

set_option maxHeartbeats 1000000 in
theorem pempty_any (h : Hd) (s : Sp) (w : World) (q : SeeP w h s) :
    Calls Try.prog 13 #[(Value.agg #[.slice (Hd.a h) (Hd.n h) (Hd.c h), .slice (Hd.k h) (Hd.m h) (Hd.d h), .int .u64 (Gz.n s.g), .int .u64 (Gz.nans s.g), .int .u64 (Gz.lo s.g), .int .u64 (Gz.hi s.g)])] w fun e w' => e = .returned (.bool (emptyP s)) ∧ Below w.heap.size w w' := by
  have L : Hid (Below w.heap.size w (w.alloc (.cells #[.slice h.a h.n h.c, .slice h.k h.m h.d, .int .u64 s.g.n, .int .u64 s.g.nans, .int .u64 s.g.lo, .int .u64 s.g.hi] 30))) := (Below.refl _ _).alloc (Nat.le_refl _) _
  have e1 : ((h.n : Int) == 0) = decide (s.hist.length = 0) := by rw [q.rh.1, Bool.eq_iff_iff]; simp
  have e2 : ((h.m : Int) == 0) = decide (s.keys.length = 0) := by rw [q.rk.1, Bool.eq_iff_iff]; simp
  unfold emptyP
  generalize decide (s.hist.length = 0) = b1 at *
  generalize decide (s.keys.length = 0) = b2 at *
  obtain ⟨b3, e3⟩ : ∃ b, (s.g.n == 0) = b := ⟨_, rfl⟩
  obtain ⟨b4, e4⟩ : ∃ b, (s.g.nans == 0) = b := ⟨_, rfl⟩
  rw [e3, e4]
  clear q
  cases b1
  · go_enter Try.func13, Try.ntmps13
    go_wp2
    go_ret
    exact ⟨rfl, L.out⟩
  cases b2
  · go_enter Try.func13, Try.ntmps13
    go_wp2
    go_ret
    exact ⟨rfl, L.out⟩
  cases b3
  · go_enter Try.func13, Try.ntmps13
    go_wp2
    go_ret
    exact ⟨rfl, L.out⟩
  · go_enter Try.func13, Try.ntmps13
    go_wp2
    go_ret
    exact ⟨rfl, L.out⟩

set_option maxHeartbeats 2000000 in
theorem psame_any (h : Hd) (s : Sp) (h' : Hd) (s' : Sp) (w : World) (q : SeeP w h s) (q' : SeeP w h' s') :
    Calls Try.prog 17 #[(Value.agg #[.slice (Hd.a h) (Hd.n h) (Hd.c h), .slice (Hd.k h) (Hd.m h) (Hd.d h), .int .u64 (Gz.n s.g), .int .u64 (Gz.nans s.g), .int .u64 (Gz.lo s.g), .int .u64 (Gz.hi s.g)]), (Value.agg #[.slice (Hd.a h') (Hd.n h') (Hd.c h'), .slice (Hd.k h') (Hd.m h') (Hd.d h'), .int .u64 (Gz.n s'.g), .int .u64 (Gz.nans s'.g), .int .u64 (Gz.lo s'.g), .int .u64 (Gz.hi s'.g)])] w fun e w' => e = .returned (.bool (decide (s = s'))) ∧ Below w.heap.size w w' := by
  obtain ⟨w0, hw0⟩ : ∃ w0, Hid ((w.alloc (.cells #[.slice h.a h.n h.c, .slice h.k h.m h.d, .int .u64 s.g.n, .int .u64 s.g.nans, .int .u64 s.g.lo, .int .u64 s.g.hi] 30)).alloc (.cells #[.slice h'.a h'.n h'.c, .slice h'.k h'.m h'.d, .int .u64 s'.g.n, .int .u64 s'.g.nans, .int .u64 s'.g.lo, .int .u64 s'.g.hi] 30) = w0) := ⟨_, rfl⟩
  have B : Hid (SBox w0 w.heap.size h s.g) := by rw [← hw0.out]; exact (SBox.new w _ _ _).alloc _
  have B' : Hid (SBox w0 (w.heap.size + 1) h' s'.g) := by
    rw [← hw0.out]
    have := SBox.new (w.alloc (.cells #[.slice h.a h.n h.c, .slice h.k h.m h.d, .int .u64 s.g.n, .int .u64 s.g.nans, .int .u64 s.g.lo, .int .u64 s.g.hi] 30)) 30 h' s'.g
    rwa [size_al] at this
  have Q : Hid (SeeP w0 h s) := by rw [← hw0.out]; exact (q.alloc _).alloc _
  have Q' : Hid (SeeP w0 h' s') := by rw [← hw0.out]; exact (q'.alloc _).alloc _
  have L : Hid (Below w.heap.size w w0) := by rw [← hw0.out]; exact bel2 _ _ _
  have C1 := hide (fun W (x : SeeP W h s) (y : SeeP W h' s') => equalB_any h.a h.n h.c s.hist h'.a h'.n h'.c s'.hist W x.rh y.rh)
  have C2 := hide (fun W (x : SeeP W h s) (y : SeeP W h' s') => equalU_any h.k h.m h.d s.keys h'.k h'.m h'.d s'.keys W x.rk y.rk)
  have DE : decide (s = s') = (decide (s.hist = s'.hist) && (decide (s.keys = s'.keys) && decide (s.g = s'.g))) := by
    rw [Bool.eq_iff_iff]
    simp only [Bool.and_eq_true, decide_eq_true_eq]
    exact ⟨fun e => by rw [e]; exact ⟨rfl, rfl, rfl⟩, fun e => by
      obtain ⟨_, _, _⟩ := s
      obtain ⟨_, _, _⟩ := s'
      simp only at e
      rw [e.1, e.2.1, e.2.2]⟩
  have DG : decide (s.g = s'.g) = (s.g.n == s'.g.n && (s.g.nans == s'.g.nans && (s.g.lo == s'.g.lo && s.g.hi == s'.g.hi))) := by
    rw [Bool.eq_iff_iff]
    simp only [Bool.and_eq_true, decide_eq_true_eq, beq_iff_eq]
    exact ⟨fun e => by rw [e]; exact ⟨rfl, rfl, rfl, rfl⟩, fun e => Gz.ext' e.1 e.2.1 e.2.2.1 e.2.2.2⟩
  rw [DE, DG]
  clear DE DG q q'
  generalize decide (s.hist = s'.hist) = b1 at C1 ⊢
  generalize decide (s.keys = s'.keys) = b2 at C2 ⊢
  obtain ⟨x1, t1⟩ : ∃ b, (s.g.n == s'.g.n) = b := ⟨_, rfl⟩
  obtain ⟨x2, t2⟩ : ∃ b, (s.g.nans == s'.g.nans) = b := ⟨_, rfl⟩
  obtain ⟨x3, t3⟩ : ∃ b, (s.g.lo == s'.g.lo) = b := ⟨_, rfl⟩
  obtain ⟨x4, t4⟩ : ∃ b, (s.g.hi == s'.g.hi) = b := ⟨_, rfl⟩
  rw [t1, t2, t3, t4]
  obtain ⟨k, hk⟩ : ∃ k, Hid (w.heap.size = k) := ⟨_, rfl⟩
  obtain ⟨k', hk'⟩ : ∃ k', Hid (k + 1 = k') := ⟨_, rfl⟩
  rw [hk.out] at B B'
  rw [hk'.out] at B'
  go_enter Try.func17, Try.ntmps17
  go_upto_region 1 with fail
  rw [hw0.out, hk.out, hk'.out]
  clear hw0 hk hk'
  obtain ⟨_, ⟨c0, c1, c2, c3, c4, c5⟩, _⟩ := B.out
  obtain ⟨_, ⟨d0, d1, d2, d3, d4, d5⟩, _⟩ := B'.out
  go_wp2_with fail
  with_reducible refine (C1.out _ Q.out Q'.out).mono ?_
  rintro e w1 ⟨rfl, j1, rfl⟩
  have D1 : Hid (Below w0.heap.size w0 (w0.drewN j1)) := bel_drewN (Below.refl _ _) j1
  have B1 := hide (B.out.below D1.out B.out.lt)
  have B1' := hide (B'.out.below D1.out B'.out.lt)
  have Q1 := hide (Q.out.below D1.out (Nat.le_refl _))
  have Q1' := hide (Q'.out.below D1.out (Nat.le_refl _))
  have L1 : Hid (Below w.heap.size w (w0.drewN j1)) := bel_to L.out (Nat.le_refl _) D1.out
  generalize w0.drewN j1 = w1 at B1 B1' Q1 Q1' L1 ⊢
  clear D1 c0 c1 c2 c3 c4 c5 d0 d1 d2 d3 d4 d5 B B' Q Q' L C1
  obtain ⟨_, ⟨c0, c1, c2, c3, c4, c5⟩, _⟩ := B1.out
  obtain ⟨_, ⟨d0, d1, d2, d3, d4, d5⟩, _⟩ := B1'.out
  cases b1
  · go_wp2
    go_ret
    exact ⟨rfl, L1.out⟩
  go_wp2_with fail
  with_reducible refine (C2.out _ Q1.out Q1'.out).mono ?_
  rintro e w2 ⟨rfl, j2, rfl⟩
  have D2 : Hid (Below w1.heap.size w1 (w1.drewN j2)) := bel_drewN (Below.refl _ _) j2
  have B2 := hide (B1.out.below D2.out B1.out.lt)
  have B2' := hide (B1'.out.below D2.out B1'.out.lt)
  have L2 : Hid (Below w.heap.size w (w1.drewN j2)) := bel_to L1.out (Nat.le_refl _) D2.out
  generalize w1.drewN j2 = w2 at B2 B2' L2 ⊢
  clear D2 c0 c1 c2 c3 c4 c5 d0 d1 d2 d3 d4 d5 B1 B1' Q1 Q1' L1 C2
  obtain ⟨_, ⟨c0, c1, c2, c3, c4, c5⟩, _⟩ := B2.out
  obtain ⟨_, ⟨d0, d1, d2, d3, d4, d5⟩, _⟩ := B2'.out
  clear B2 B2'
  cases b2
  · go_wp2
    go_ret
    exact ⟨rfl, L2.out⟩
  cases x1
  · go_wp2
    go_ret
    exact ⟨rfl, L2.out⟩
  cases x2
  · go_wp2
    go_ret
    exact ⟨rfl, L2.out⟩
  cases x3
  · go_wp2
    go_ret
    exact ⟨rfl, L2.out⟩
  cases x4
  · go_wp2
    go_ret
    exact ⟨rfl, L2.out⟩
  go_wp2
  go_ret
  exact ⟨rfl, L2.out⟩
theorem paC : PaC := ⟨pchk_any⟩
theorem paE : PaE := ⟨pempty_any⟩
theorem paS : PaS := ⟨psame_any⟩
end Go.Proofs.Ytadcaonkmncgoaa
