/-
  The document's own answers of sketches: may it be one, is it empty, are two the same, two put together; the laws' own copy of one: contracts, for every world.
  Conditions: the sketches lie in memory; put together: both may be ones.
-/
import Derived.Test.YtadcaonkmncgoaaPairK
import Derived.Test.YtadcaonkmncgoaaGaugeR
import Derived.Test.YtadcaonkmncgoaaHistR
import Derived.Test.YtadcaonkmncgoaaHistV
import Derived.Test.YtadcaonkmncgoaaKmvM
import Derived.Test.YtadcaonkmncgoaaNumK
import Derived.Deep.RegionHeld3
import Derived.Deep.DeepCutAuto
namespace Go.Proofs.Ytadcaonkmncgoaa
open Go.RowKit
set_option maxRecDepth 20000

set_option maxHeartbeats 2000000 in
theorem refpchk_any (h : Hd) (s : Sp) (w : World) (q : SeeP w h s) :
    Calls Try.prog 15 #[(Value.agg #[.slice (Hd.a h) (Hd.n h) (Hd.c h), .slice (Hd.k h) (Hd.m h) (Hd.d h), .int .u64 (Gz.n s.g), .int .u64 (Gz.nans s.g), .int .u64 (Gz.lo s.g), .int .u64 (Gz.hi s.g)])] w fun e w' => e = .returned (.bool (chkP s)) ∧ Below w.heap.size w w' := by
  obtain ⟨w0, hw0⟩ : ∃ w0, Hid (w.alloc (.cells #[.slice h.a h.n h.c, .slice h.k h.m h.d, .int .u64 s.g.n, .int .u64 s.g.nans, .int .u64 s.g.lo, .int .u64 s.g.hi] 30) = w0) := ⟨_, rfl⟩
  have B : Hid (SBox w0 w.heap.size h s.g) := by rw [← hw0.out]; exact SBox.new w _ _ _
  have Q : Hid (SeeP w0 h s) := by rw [← hw0.out]; exact q.alloc _
  have L : Hid (Below w.heap.size w w0) := by rw [← hw0.out]; exact (Below.refl _ _).alloc (Nat.le_refl _) _
  have C1 := hide (fun W (x : SeeP W h s) => refcheck_any h.a h.n h.c s.hist W x.rh)
  have C2 := hide (fun W (x : SeeP W h s) => refchk_any h.k h.m h.d s.keys W x.rk)
  have C3 := hide (fun W => refgchk_any s.g q.g W)
  unfold chkP
  generalize checkS s.hist = b1 at C1 ⊢
  generalize chkK s.keys = b2 at C2 ⊢
  generalize chkG s.g = b3 at C3 ⊢
  clear q
  go_enter Try.func15, Try.ntmps15
  go_upto_region 1 with fail
  rw [hw0.out]
  clear hw0
  obtain ⟨k, hk⟩ : ∃ k, Hid (w.heap.size = k) := ⟨_, rfl⟩
  rw [hk.out] at B
  rw [hk.out]
  obtain ⟨_, ⟨c0, c1, c2, c3, c4, c5⟩, _⟩ := B.out
  go_wp2_with fail
  with_reducible refine (C1.out _ Q.out).mono ?_
  rintro e w1 ⟨rfl, j1, rfl⟩
  have D1 : Hid (Below w0.heap.size w0 (w0.drewN j1)) := bel_drewN (Below.refl _ _) j1
  have B1 := hide (B.out.below D1.out B.out.lt)
  have Q1 := hide (Q.out.below D1.out (Nat.le_refl _))
  have L1 : Hid (Below w.heap.size w (w0.drewN j1)) := bel_to L.out (Nat.le_refl _) D1.out
  generalize w0.drewN j1 = w1 at B1 Q1 L1 ⊢
  clear D1 c0 c1 c2 c3 c4 c5 B Q L C1
  obtain ⟨_, ⟨c0, c1, c2, c3, c4, c5⟩, _⟩ := B1.out
  cases b1
  · go_wp2
    go_ret
    exact ⟨rfl, L1.out⟩
  go_wp2_with fail
  with_reducible refine (C2.out _ Q1.out).mono ?_
  rintro e w2 ⟨rfl, j2, rfl⟩
  have D2 : Hid (Below w1.heap.size w1 (w1.drewN j2)) := bel_drewN (Below.refl _ _) j2
  have B2 := hide (B1.out.below D2.out B1.out.lt)
  have L2 : Hid (Below w.heap.size w (w1.drewN j2)) := bel_to L1.out (Nat.le_refl _) D2.out
  generalize w1.drewN j2 = w2 at B2 L2 ⊢
  clear D2 c0 c1 c2 c3 c4 c5 B1 Q1 L1 C2
  obtain ⟨_, ⟨c0, c1, c2, c3, c4, c5⟩, _⟩ := B2.out
  cases b2
  · go_wp2
    go_ret
    exact ⟨rfl, L2.out⟩
  go_wp2_with fail
  with_reducible refine (C3.out _).mono ?_
  rintro e w3 ⟨rfl, k3⟩
  have L3 : Hid (Below w.heap.size w w3) := bel_to L2.out (Nat.le_refl _) k3
  clear k3
  go_wp2
  go_ret
  exact ⟨rfl, L3.out⟩

set_option maxHeartbeats 1000000 in
theorem refpempty_any (h : Hd) (s : Sp) (w : World) (q : SeeP w h s) :
    Calls Try.prog 16 #[(Value.agg #[.slice (Hd.a h) (Hd.n h) (Hd.c h), .slice (Hd.k h) (Hd.m h) (Hd.d h), .int .u64 (Gz.n s.g), .int .u64 (Gz.nans s.g), .int .u64 (Gz.lo s.g), .int .u64 (Gz.hi s.g)])] w fun e w' => e = .returned (.bool (emptyP s)) ∧ Below w.heap.size w w' := by
  have L : Hid (Below w.heap.size w (w.alloc (.cells #[.slice h.a h.n h.c, .slice h.k h.m h.d, .int .u64 s.g.n, .int .u64 s.g.nans, .int .u64 s.g.lo, .int .u64 s.g.hi] 30))) := (Below.refl _ _).alloc (Nat.le_refl _) _
  have e1 : ((h.n : Int) == 0) = decide (s.hist.length = 0) := by rw [q.rh.1, Bool.eq_iff_iff]; simp
  have e2 : ((h.m : Int) == 0) = decide (s.keys.length = 0) := by rw [q.rk.1, Bool.eq_iff_iff]; simp
  unfold emptyP
  generalize decide (s.hist.length = 0) = b1 at *
  generalize decide (s.keys.length = 0) = b2 at *
  obtain ⟨b3, e3⟩ : ∃ b, (s.g.n == 0) = b := ⟨_, rfl⟩
  obtain ⟨b4, e4⟩ : ∃ b, (s.g.nans == 0) = b := ⟨_, rfl⟩
  rw [e3, e4]
  clear q
  cases b1
  · go_enter Try.func16, Try.ntmps16
    go_wp2
    go_ret
    exact ⟨rfl, L.out⟩
  cases b2
  · go_enter Try.func16, Try.ntmps16
    go_wp2
    go_ret
    exact ⟨rfl, L.out⟩
  cases b3
  · go_enter Try.func16, Try.ntmps16
    go_wp2
    go_ret
    exact ⟨rfl, L.out⟩
  · go_enter Try.func16, Try.ntmps16
    go_wp2
    go_ret
    exact ⟨rfl, L.out⟩

end Go.Proofs.Ytadcaonkmncgoaa
