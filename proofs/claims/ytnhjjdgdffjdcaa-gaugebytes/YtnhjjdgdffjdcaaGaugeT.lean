/-
  The law 'to merge may be turned round and grouped', over what the laws ask of the program's own Merge and Add.
  Conditions: as GaM and GaA say.
-/
import Derived.Test.YtnhjjdgdffjdcaaGaugeI
import Derived.Test.YtnhjjdgdffjdcaaGaugeR
namespace Go.Proofs.Ytnhjjdgdffjdcaa
open Go.RowKit


theorem gc_below {w w' : World} {g B : Nat} {v : Gz} (hb : Below B w w') (hg : g < B) (h : ((World.cell? w ⟨g, 0, none⟩ = some (.int .u64 (Gz.n v))) ∧ (World.cell? w ⟨g, 1, none⟩ = some (.int .u64 (Gz.nans v))) ∧ (World.cell? w ⟨g, 2, none⟩ = some (.int .u64 (Gz.lo v))) ∧ (World.cell? w ⟨g, 3, none⟩ = some (.int .u64 (Gz.hi v))))) : ((World.cell? w' ⟨g, 0, none⟩ = some (.int .u64 (Gz.n v))) ∧ (World.cell? w' ⟨g, 1, none⟩ = some (.int .u64 (Gz.nans v))) ∧ (World.cell? w' ⟨g, 2, none⟩ = some (.int .u64 (Gz.lo v))) ∧ (World.cell? w' ⟨g, 3, none⟩ = some (.int .u64 (Gz.hi v)))) :=
  ⟨(hb.cell hg).trans h.1, (hb.cell hg).trans h.2.1, (hb.cell hg).trans h.2.2.1, (hb.cell hg).trans h.2.2.2⟩
theorem GBox.gc {w : World} {g : Nat} {v : Gz} (h : GBox w g v.n v.nans v.lo v.hi) : ((World.cell? w ⟨g, 0, none⟩ = some (.int .u64 (Gz.n v))) ∧ (World.cell? w ⟨g, 1, none⟩ = some (.int .u64 (Gz.nans v))) ∧ (World.cell? w ⟨g, 2, none⟩ = some (.int .u64 (Gz.lo v))) ∧ (World.cell? w ⟨g, 3, none⟩ = some (.int .u64 (Gz.hi v)))) := ⟨h.c0, h.c1, h.c2, h.c3⟩

/-- Three gauges in memory, and what was there before the call is as it was. -/
theorem keep3 {w0 w w' : World} {B g1 g2 g3 : Nat} {a b c : Gz} (hb : Below w.heap.size w w') (h : ((World.cell? w ⟨g1, 0, none⟩ = some (.int .u64 (Gz.n a))) ∧ (World.cell? w ⟨g1, 1, none⟩ = some (.int .u64 (Gz.nans a))) ∧ (World.cell? w ⟨g1, 2, none⟩ = some (.int .u64 (Gz.lo a))) ∧ (World.cell? w ⟨g1, 3, none⟩ = some (.int .u64 (Gz.hi a)))) ∧ ((World.cell? w ⟨g2, 0, none⟩ = some (.int .u64 (Gz.n b))) ∧ (World.cell? w ⟨g2, 1, none⟩ = some (.int .u64 (Gz.nans b))) ∧ (World.cell? w ⟨g2, 2, none⟩ = some (.int .u64 (Gz.lo b))) ∧ (World.cell? w ⟨g2, 3, none⟩ = some (.int .u64 (Gz.hi b)))) ∧ ((World.cell? w ⟨g3, 0, none⟩ = some (.int .u64 (Gz.n c))) ∧ (World.cell? w ⟨g3, 1, none⟩ = some (.int .u64 (Gz.nans c))) ∧ (World.cell? w ⟨g3, 2, none⟩ = some (.int .u64 (Gz.lo c))) ∧ (World.cell? w ⟨g3, 3, none⟩ = some (.int .u64 (Gz.hi c)))) ∧ Hid (g1 < w.heap.size ∧ g2 < w.heap.size ∧ g3 < w.heap.size ∧ B ≤ w.heap.size ∧ Below B w0 w)) :
    ((World.cell? w' ⟨g1, 0, none⟩ = some (.int .u64 (Gz.n a))) ∧ (World.cell? w' ⟨g1, 1, none⟩ = some (.int .u64 (Gz.nans a))) ∧ (World.cell? w' ⟨g1, 2, none⟩ = some (.int .u64 (Gz.lo a))) ∧ (World.cell? w' ⟨g1, 3, none⟩ = some (.int .u64 (Gz.hi a)))) ∧ ((World.cell? w' ⟨g2, 0, none⟩ = some (.int .u64 (Gz.n b))) ∧ (World.cell? w' ⟨g2, 1, none⟩ = some (.int .u64 (Gz.nans b))) ∧ (World.cell? w' ⟨g2, 2, none⟩ = some (.int .u64 (Gz.lo b))) ∧ (World.cell? w' ⟨g2, 3, none⟩ = some (.int .u64 (Gz.hi b)))) ∧ ((World.cell? w' ⟨g3, 0, none⟩ = some (.int .u64 (Gz.n c))) ∧ (World.cell? w' ⟨g3, 1, none⟩ = some (.int .u64 (Gz.nans c))) ∧ (World.cell? w' ⟨g3, 2, none⟩ = some (.int .u64 (Gz.lo c))) ∧ (World.cell? w' ⟨g3, 3, none⟩ = some (.int .u64 (Gz.hi c)))) ∧ Hid (g1 < w'.heap.size ∧ g2 < w'.heap.size ∧ g3 < w'.heap.size ∧ B ≤ w'.heap.size ∧ Below B w0 w') := by
  obtain ⟨h1, h2, h3, l1, l2, l3, l4, hB⟩ := h
  have s := hb.size
  exact ⟨gc_below hb l1 h1, gc_below hb l2 h2, gc_below hb l3 h3, Nat.lt_of_lt_of_le l1 s, Nat.lt_of_lt_of_le l2 s, Nat.lt_of_lt_of_le l3 s, Nat.le_trans l4 s, hB.trans (hb.mono l4)⟩

set_option maxHeartbeats 4000000 in
theorem turnsG_of (M : GaM) (A : GaA) (a b c : Gz) (w : World) (ha : GW a) (hb : GW b) (hc : GW c) :
    Calls Try.prog 5 #[(Value.agg #[.int .u64 (Gz.n a), .int .u64 (Gz.nans a), .int .u64 (Gz.lo a), .int .u64 (Gz.hi a)]), (Value.agg #[.int .u64 (Gz.n b), .int .u64 (Gz.nans b), .int .u64 (Gz.lo b), .int .u64 (Gz.hi b)]), (Value.agg #[.int .u64 (Gz.n c), .int .u64 (Gz.nans c), .int .u64 (Gz.lo c), .int .u64 (Gz.hi c)])] w fun e w' => e = .returned (.bool true) ∧ Below w.heap.size w w' := by
  have W := hide (awakeG_any A)
  have C1 := hide (fun w => refgchk_any a ha w)
  have C2 := hide (fun w => refgchk_any b hb w)
  have C3 := hide (fun w => refgchk_any c hc w)
  obtain ⟨w3, hw3⟩ : ∃ w3, Hid (((w.alloc (.cells #[.int .u64 a.n, .int .u64 a.nans, .int .u64 a.lo, .int .u64 a.hi] 24)).alloc (.cells #[.int .u64 b.n, .int .u64 b.nans, .int .u64 b.lo, .int .u64 b.hi] 24)).alloc (.cells #[.int .u64 c.n, .int .u64 c.nans, .int .u64 c.lo, .int .u64 c.hi] 24) = w3) := ⟨_, rfl⟩
  have G1 : Hid (GBox w3 w.heap.size a.n a.nans a.lo a.hi) := by
    rw [← hw3.out]; exact ((GBox.new w _ _ _ _ _).alloc _).alloc _
  have G2 : Hid (GBox w3 (w.heap.size + 1) b.n b.nans b.lo b.hi) := by
    rw [← hw3.out]; exact (GBox.new2 w _ _ _ _ _ _).alloc _
  have G3 : Hid (GBox w3 (w.heap.size + 1 + 1) c.n c.nans c.lo c.hi) := by
    rw [← hw3.out]
    have h := GBox.new2 (w.alloc (.cells #[.int .u64 a.n, .int .u64 a.nans, .int .u64 a.lo, .int .u64 a.hi] 24)) (.cells #[.int .u64 b.n, .int .u64 b.nans, .int .u64 b.lo, .int .u64 b.hi] 24) 24 c.n c.nans c.lo c.hi
    rwa [size_al] at h
  have B3 : Hid (Below w.heap.size w w3) := by
    rw [← hw3.out]; exact (bel2 w _ _).alloc (by rw [size_al, size_al]; omega) _
  have S3 : Hid (((World.cell? w3 ⟨w.heap.size, 0, none⟩ = some (.int .u64 (Gz.n a))) ∧ (World.cell? w3 ⟨w.heap.size, 1, none⟩ = some (.int .u64 (Gz.nans a))) ∧ (World.cell? w3 ⟨w.heap.size, 2, none⟩ = some (.int .u64 (Gz.lo a))) ∧ (World.cell? w3 ⟨w.heap.size, 3, none⟩ = some (.int .u64 (Gz.hi a)))) ∧ ((World.cell? w3 ⟨w.heap.size + 1, 0, none⟩ = some (.int .u64 (Gz.n b))) ∧ (World.cell? w3 ⟨w.heap.size + 1, 1, none⟩ = some (.int .u64 (Gz.nans b))) ∧ (World.cell? w3 ⟨w.heap.size + 1, 2, none⟩ = some (.int .u64 (Gz.lo b))) ∧ (World.cell? w3 ⟨w.heap.size + 1, 3, none⟩ = some (.int .u64 (Gz.hi b)))) ∧ ((World.cell? w3 ⟨w.heap.size + 1 + 1, 0, none⟩ = some (.int .u64 (Gz.n c))) ∧ (World.cell? w3 ⟨w.heap.size + 1 + 1, 1, none⟩ = some (.int .u64 (Gz.nans c))) ∧ (World.cell? w3 ⟨w.heap.size + 1 + 1, 2, none⟩ = some (.int .u64 (Gz.lo c))) ∧ (World.cell? w3 ⟨w.heap.size + 1 + 1, 3, none⟩ = some (.int .u64 (Gz.hi c)))) ∧ Hid (w.heap.size < w3.heap.size ∧ w.heap.size + 1 < w3.heap.size ∧ w.heap.size + 1 + 1 < w3.heap.size ∧ w.heap.size ≤ w3.heap.size ∧ Below w.heap.size w w3)) :=
    ⟨G1.out.gc, G2.out.gc, G3.out.gc, G1.out.lt, G2.out.lt, G3.out.lt, B3.out.size, B3.out⟩
  go_enter Try.func5, Try.ntmps5
  go_upto_region 1 with fail
  rw [hw3.out]
  clear hw3 G1 G2 G3 B3
  generalize w.heap.size + 1 + 1 = g3 at S3 ⊢
  generalize w.heap.size + 1 = g2 at S3 ⊢
  cases e1 : chkG a
  · rw [e1] at C1
    obtain ⟨⟨p0, p1, p2, p3⟩, _, _, hh⟩ := S3.out
    go_wp2_with fail
    refine (C1.out _).mono ?_
    rintro e v1 ⟨rfl, b1⟩
    have S4 := hide (keep3 b1 S3.out)
    go_wp2_with fail
    refine (W.out _).mono ?_
    rintro e v2 ⟨rfl, b2⟩
    have S5 := hide (keep3 b2 S4.out)
    go_wp2
    go_ret
    exact ⟨rfl, S5.out.2.2.2.out.2.2.2.2⟩
  rw [e1] at C1
  cases e2 : chkG b
  · rw [e2] at C2
    obtain ⟨⟨p0, p1, p2, p3⟩, _, _, hh⟩ := S3.out
    go_wp2_with fail
    refine (C1.out _).mono ?_
    rintro e v1 ⟨rfl, b1⟩
    have S4 := hide (keep3 b1 S3.out)
    obtain ⟨_, ⟨q0, q1, q2, q3⟩, _, hh4⟩ := S4.out
    go_wp2_with fail
    refine (C2.out _).mono ?_
    rintro e v2 ⟨rfl, b2⟩
    have S5 := hide (keep3 b2 S4.out)
    go_wp2_with fail
    refine (W.out _).mono ?_
    rintro e v3 ⟨rfl, b3⟩
    have S6 := hide (keep3 b3 S5.out)
    go_wp2
    go_ret
    exact ⟨rfl, S6.out.2.2.2.out.2.2.2.2⟩
  rw [e2] at C2
  cases e3 : chkG c
  · rw [e3] at C3
    obtain ⟨⟨p0, p1, p2, p3⟩, _, _, hh⟩ := S3.out
    go_wp2_with fail
    refine (C1.out _).mono ?_
    rintro e v1 ⟨rfl, b1⟩
    have S4 := hide (keep3 b1 S3.out)
    obtain ⟨_, ⟨q0, q1, q2, q3⟩, _, hh4⟩ := S4.out
    go_wp2_with fail
    refine (C2.out _).mono ?_
    rintro e v2 ⟨rfl, b2⟩
    have S5 := hide (keep3 b2 S4.out)
    obtain ⟨_, _, ⟨r0, r1, r2, r3⟩, hh5⟩ := S5.out
    go_wp2_with fail
    refine (C3.out _).mono ?_
    rintro e v3 ⟨rfl, b3⟩
    have S6 := hide (keep3 b3 S5.out)
    go_wp2_with fail
    refine (W.out _).mono ?_
    rintro e v4 ⟨rfl, b4⟩
    have S7 := hide (keep3 b4 S6.out)
    go_wp2
    go_ret
    exact ⟨rfl, S7.out.2.2.2.out.2.2.2.2⟩
  rw [e3] at C3
  obtain ⟨ab, hab⟩ : ∃ x, mergeG a b = x := ⟨_, rfl⟩
  obtain ⟨bc, hbc⟩ : ∃ x, mergeG b c = x := ⟨_, rfl⟩
  obtain ⟨abc, habc⟩ : ∃ x, mergeG ab c = x := ⟨_, rfl⟩
  have wab : GW ab := hab ▸ mergeG_word ha hb
  have wbc : GW bc := hbc ▸ mergeG_word hb hc
  have cab : chkG ab = true := hab ▸ mergeG_chk ha hb e1 e2
  have cbc : chkG bc = true := hbc ▸ mergeG_chk hb hc e2 e3
  have M1 := hide (fun w => M.merge a b ha hb e1 e2 w)
  have M2 := hide (fun w => M.merge b a hb ha e2 e1 w)
  have M3 := hide (fun w => M.merge ab c wab hc cab e3 w)
  have M4 := hide (fun w => M.merge b c hb hc e2 e3 w)
  have M5 := hide (fun w => M.merge a bc ha wbc e1 cbc w)
  have M6 := hide (fun w => M.merge a g0 ha g0W e1 chk0 w)
  rw [hab] at M1
  rw [mergeG_turn hb ha e2 e1, hab] at M2
  rw [habc] at M3
  rw [hbc] at M4
  rw [← hbc, ← mergeG_group ha hb hc e1 e2 e3, hab, habc, hbc] at M5
  rw [merge_g0 ha e1] at M6
  dsimp only [g0] at M6
  clear hab hbc habc wab wbc cab cbc ha hb hc e1 e2 e3 M A
  obtain ⟨⟨p0, p1, p2, p3⟩, _, _, hh⟩ := S3.out
  go_wp2_with fail
  refine (C1.out _).mono ?_
  rintro e v1 ⟨rfl, b1⟩
  have S4 := hide (keep3 b1 S3.out)
  obtain ⟨_, ⟨q0, q1, q2, q3⟩, _, hh4⟩ := S4.out
  go_wp2_with fail
  refine (C2.out _).mono ?_
  rintro e v2 ⟨rfl, b2⟩
  have S5 := hide (keep3 b2 S4.out)
  obtain ⟨_, _, ⟨r0, r1, r2, r3⟩, hh5⟩ := S5.out
  go_wp2_with fail
  refine (C3.out _).mono ?_
  rintro e v3 ⟨rfl, b3⟩
  have S6 := hide (keep3 b3 S5.out)
  clear S3 S4 S5 b1 b2 b3 p0 p1 p2 p3 q0 q1 q2 q3 r0 r1 r2 r3 hh hh4 hh5 C1 C2 C3
  go_upto_region 3 with fail
  have S7 : Hid (((World.cell? v3.drew ⟨w.heap.size, 0, none⟩ = some (.int .u64 (Gz.n a))) ∧ (World.cell? v3.drew ⟨w.heap.size, 1, none⟩ = some (.int .u64 (Gz.nans a))) ∧ (World.cell? v3.drew ⟨w.heap.size, 2, none⟩ = some (.int .u64 (Gz.lo a))) ∧ (World.cell? v3.drew ⟨w.heap.size, 3, none⟩ = some (.int .u64 (Gz.hi a)))) ∧ ((World.cell? v3.drew ⟨g2, 0, none⟩ = some (.int .u64 (Gz.n b))) ∧ (World.cell? v3.drew ⟨g2, 1, none⟩ = some (.int .u64 (Gz.nans b))) ∧ (World.cell? v3.drew ⟨g2, 2, none⟩ = some (.int .u64 (Gz.lo b))) ∧ (World.cell? v3.drew ⟨g2, 3, none⟩ = some (.int .u64 (Gz.hi b)))) ∧ ((World.cell? v3.drew ⟨g3, 0, none⟩ = some (.int .u64 (Gz.n c))) ∧ (World.cell? v3.drew ⟨g3, 1, none⟩ = some (.int .u64 (Gz.nans c))) ∧ (World.cell? v3.drew ⟨g3, 2, none⟩ = some (.int .u64 (Gz.lo c))) ∧ (World.cell? v3.drew ⟨g3, 3, none⟩ = some (.int .u64 (Gz.hi c)))) ∧ Hid (w.heap.size < v3.drew.heap.size ∧ g2 < v3.drew.heap.size ∧ g3 < v3.drew.heap.size ∧ w.heap.size ≤ v3.drew.heap.size ∧ Below w.heap.size w v3.drew)) := keep3 (Below.refl _ _).drew S6.out
  go_region_held3 (fun w' => ((World.cell? w' ⟨w.heap.size, 0, none⟩ = some (.int .u64 (Gz.n a))) ∧ (World.cell? w' ⟨w.heap.size, 1, none⟩ = some (.int .u64 (Gz.nans a))) ∧ (World.cell? w' ⟨w.heap.size, 2, none⟩ = some (.int .u64 (Gz.lo a))) ∧ (World.cell? w' ⟨w.heap.size, 3, none⟩ = some (.int .u64 (Gz.hi a)))) ∧ ((World.cell? w' ⟨g2, 0, none⟩ = some (.int .u64 (Gz.n b))) ∧ (World.cell? w' ⟨g2, 1, none⟩ = some (.int .u64 (Gz.nans b))) ∧ (World.cell? w' ⟨g2, 2, none⟩ = some (.int .u64 (Gz.lo b))) ∧ (World.cell? w' ⟨g2, 3, none⟩ = some (.int .u64 (Gz.hi b)))) ∧ ((World.cell? w' ⟨g3, 0, none⟩ = some (.int .u64 (Gz.n c))) ∧ (World.cell? w' ⟨g3, 1, none⟩ = some (.int .u64 (Gz.nans c))) ∧ (World.cell? w' ⟨g3, 2, none⟩ = some (.int .u64 (Gz.lo c))) ∧ (World.cell? w' ⟨g3, 3, none⟩ = some (.int .u64 (Gz.hi c)))) ∧ Hid (w.heap.size < w'.heap.size ∧ g2 < w'.heap.size ∧ g3 < w'.heap.size ∧ w.heap.size ≤ w'.heap.size ∧ Below w.heap.size w w')) (first | exact S7.out | exact keep3 (by assumption) (by assumption)) (first
    | (go_at_call 14
       first
         | (with_reducible refine (M1.out _).mono ?_)
         | (with_reducible refine (M2.out _).mono ?_)
         | (with_reducible refine (M3.out _).mono ?_)
         | (with_reducible refine (M4.out _).mono ?_)
         | (with_reducible refine (M5.out _).mono ?_)
         | (with_reducible refine (M6.out _).mono ?_)
       rintro e v4 ⟨rfl, b4⟩)
    | (go_at_call 13
       refine (W.out _).mono ?_
       rintro e v4 ⟨rfl, b4⟩))
  have F : Hid (((World.cell? v4 ⟨w.heap.size, 0, none⟩ = some (.int .u64 (Gz.n a))) ∧ (World.cell? v4 ⟨w.heap.size, 1, none⟩ = some (.int .u64 (Gz.nans a))) ∧ (World.cell? v4 ⟨w.heap.size, 2, none⟩ = some (.int .u64 (Gz.lo a))) ∧ (World.cell? v4 ⟨w.heap.size, 3, none⟩ = some (.int .u64 (Gz.hi a)))) ∧ ((World.cell? v4 ⟨g2, 0, none⟩ = some (.int .u64 (Gz.n b))) ∧ (World.cell? v4 ⟨g2, 1, none⟩ = some (.int .u64 (Gz.nans b))) ∧ (World.cell? v4 ⟨g2, 2, none⟩ = some (.int .u64 (Gz.lo b))) ∧ (World.cell? v4 ⟨g2, 3, none⟩ = some (.int .u64 (Gz.hi b)))) ∧ ((World.cell? v4 ⟨g3, 0, none⟩ = some (.int .u64 (Gz.n c))) ∧ (World.cell? v4 ⟨g3, 1, none⟩ = some (.int .u64 (Gz.nans c))) ∧ (World.cell? v4 ⟨g3, 2, none⟩ = some (.int .u64 (Gz.lo c))) ∧ (World.cell? v4 ⟨g3, 3, none⟩ = some (.int .u64 (Gz.hi c)))) ∧ Hid (w.heap.size < v4.heap.size ∧ g2 < v4.heap.size ∧ g3 < v4.heap.size ∧ w.heap.size ≤ v4.heap.size ∧ Below w.heap.size w v4)) := by assumption
  go_wp2
  go_ret
  exact ⟨rfl, F.out.2.2.2.out.2.2.2.2⟩
end Go.Proofs.Ytnhjjdgdffjdcaa
