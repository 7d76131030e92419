/-
  The law of two gauges put together, over what the laws ask of the program's own Check, Merge and Add.
  Conditions: as GaC, GaM and GaA say.
-/
import Derived.Test.YtnhjjdgdffjdcaaGaugeT
namespace Go.Proofs.Ytnhjjdgdffjdcaa
open Go.RowKit

theorem keep2 {w0 w w' : World} {B g1 g2 : Nat} {a b : Gz} (hb : Below w.heap.size w w') (h : ((World.cell? w ⟨g1, 0, none⟩ = some (.int .u64 (Gz.n a))) ∧ (World.cell? w ⟨g1, 1, none⟩ = some (.int .u64 (Gz.nans a))) ∧ (World.cell? w ⟨g1, 2, none⟩ = some (.int .u64 (Gz.lo a))) ∧ (World.cell? w ⟨g1, 3, none⟩ = some (.int .u64 (Gz.hi a)))) ∧ ((World.cell? w ⟨g2, 0, none⟩ = some (.int .u64 (Gz.n b))) ∧ (World.cell? w ⟨g2, 1, none⟩ = some (.int .u64 (Gz.nans b))) ∧ (World.cell? w ⟨g2, 2, none⟩ = some (.int .u64 (Gz.lo b))) ∧ (World.cell? w ⟨g2, 3, none⟩ = some (.int .u64 (Gz.hi b)))) ∧ Hid (g1 < w.heap.size ∧ g2 < w.heap.size ∧ B ≤ w.heap.size ∧ Below B w0 w)) :
    ((World.cell? w' ⟨g1, 0, none⟩ = some (.int .u64 (Gz.n a))) ∧ (World.cell? w' ⟨g1, 1, none⟩ = some (.int .u64 (Gz.nans a))) ∧ (World.cell? w' ⟨g1, 2, none⟩ = some (.int .u64 (Gz.lo a))) ∧ (World.cell? w' ⟨g1, 3, none⟩ = some (.int .u64 (Gz.hi a)))) ∧ ((World.cell? w' ⟨g2, 0, none⟩ = some (.int .u64 (Gz.n b))) ∧ (World.cell? w' ⟨g2, 1, none⟩ = some (.int .u64 (Gz.nans b))) ∧ (World.cell? w' ⟨g2, 2, none⟩ = some (.int .u64 (Gz.lo b))) ∧ (World.cell? w' ⟨g2, 3, none⟩ = some (.int .u64 (Gz.hi b)))) ∧ Hid (g1 < w'.heap.size ∧ g2 < w'.heap.size ∧ B ≤ w'.heap.size ∧ Below B w0 w') := by
  obtain ⟨h1, h2, l1, l2, l4, hB⟩ := h
  have s := hb.size
  exact ⟨gc_below hb l1 h1, gc_below hb l2 h2, Nat.lt_of_lt_of_le l1 s, Nat.lt_of_lt_of_le l2 s, Nat.le_trans l4 s, hB.trans (hb.mono l4)⟩
/-- One gauge more is laid behind two. -/
theorem keep23 {w0 w : World} {B g1 g2 : Nat} {a b : Gz} (v : Gz) (t : TypeId) (h : ((World.cell? w ⟨g1, 0, none⟩ = some (.int .u64 (Gz.n a))) ∧ (World.cell? w ⟨g1, 1, none⟩ = some (.int .u64 (Gz.nans a))) ∧ (World.cell? w ⟨g1, 2, none⟩ = some (.int .u64 (Gz.lo a))) ∧ (World.cell? w ⟨g1, 3, none⟩ = some (.int .u64 (Gz.hi a)))) ∧ ((World.cell? w ⟨g2, 0, none⟩ = some (.int .u64 (Gz.n b))) ∧ (World.cell? w ⟨g2, 1, none⟩ = some (.int .u64 (Gz.nans b))) ∧ (World.cell? w ⟨g2, 2, none⟩ = some (.int .u64 (Gz.lo b))) ∧ (World.cell? w ⟨g2, 3, none⟩ = some (.int .u64 (Gz.hi b)))) ∧ Hid (g1 < w.heap.size ∧ g2 < w.heap.size ∧ B ≤ w.heap.size ∧ Below B w0 w)) :
    let w' := w.alloc (.cells #[.int .u64 v.n, .int .u64 v.nans, .int .u64 v.lo, .int .u64 v.hi] t)
    ((World.cell? w' ⟨g1, 0, none⟩ = some (.int .u64 (Gz.n a))) ∧ (World.cell? w' ⟨g1, 1, none⟩ = some (.int .u64 (Gz.nans a))) ∧ (World.cell? w' ⟨g1, 2, none⟩ = some (.int .u64 (Gz.lo a))) ∧ (World.cell? w' ⟨g1, 3, none⟩ = some (.int .u64 (Gz.hi a)))) ∧ ((World.cell? w' ⟨g2, 0, none⟩ = some (.int .u64 (Gz.n b))) ∧ (World.cell? w' ⟨g2, 1, none⟩ = some (.int .u64 (Gz.nans b))) ∧ (World.cell? w' ⟨g2, 2, none⟩ = some (.int .u64 (Gz.lo b))) ∧ (World.cell? w' ⟨g2, 3, none⟩ = some (.int .u64 (Gz.hi b)))) ∧ ((World.cell? w' ⟨w.heap.size, 0, none⟩ = some (.int .u64 (Gz.n v))) ∧ (World.cell? w' ⟨w.heap.size, 1, none⟩ = some (.int .u64 (Gz.nans v))) ∧ (World.cell? w' ⟨w.heap.size, 2, none⟩ = some (.int .u64 (Gz.lo v))) ∧ (World.cell? w' ⟨w.heap.size, 3, none⟩ = some (.int .u64 (Gz.hi v)))) ∧ Hid (g1 < w'.heap.size ∧ g2 < w'.heap.size ∧ w.heap.size < w'.heap.size ∧ B ≤ w'.heap.size ∧ Below B w0 w') := by
  intro w'
  have hb : Below w.heap.size w w' := (Below.refl _ _).alloc (Nat.le_refl _) _
  obtain ⟨h1, h2, l1, l2, l4, hB⟩ := h
  have s : w'.heap.size = w.heap.size + 1 := size_al _ _
  exact ⟨gc_below hb l1 h1, gc_below hb l2 h2, (GBox.new w t v.n v.nans v.lo v.hi).gc, by omega, by omega, by omega, by omega, hB.trans (hb.mono l4)⟩

set_option maxHeartbeats 4000000 in
theorem mergesG_of (C : GaC) (M : GaM) (A : GaA) (a b : Gz) (w : World) (ha : GW a) (hb : GW b) :
    Calls Try.prog 4 #[(Value.agg #[.int .u64 (Gz.n a), .int .u64 (Gz.nans a), .int .u64 (Gz.lo a), .int .u64 (Gz.hi a)]), (Value.agg #[.int .u64 (Gz.n b), .int .u64 (Gz.nans b), .int .u64 (Gz.lo b), .int .u64 (Gz.hi b)])] w fun e w' => e = .returned (.bool true) ∧ Below w.heap.size w w' := by
  have W := hide (awakeG_any A)
  have C1 := hide (fun w => refgchk_any a ha w)
  have C2 := hide (fun w => refgchk_any b hb w)
  have D1 := hide (fun w => C.chk a ha w)
  have D2 := hide (fun w => C.chk b hb w)
  obtain ⟨w3, hw3⟩ : ∃ w3, Hid ((w.alloc (.cells #[.int .u64 a.n, .int .u64 a.nans, .int .u64 a.lo, .int .u64 a.hi] 24)).alloc (.cells #[.int .u64 b.n, .int .u64 b.nans, .int .u64 b.lo, .int .u64 b.hi] 24) = w3) := ⟨_, rfl⟩
  have G1 : Hid (GBox w3 w.heap.size a.n a.nans a.lo a.hi) := by
    rw [← hw3.out]; exact (GBox.new w _ _ _ _ _).alloc _
  have G2 : Hid (GBox w3 (w.heap.size + 1) b.n b.nans b.lo b.hi) := by
    rw [← hw3.out]; exact GBox.new2 w _ _ _ _ _ _
  have B3 : Hid (Below w.heap.size w w3) := by
    rw [← hw3.out]; exact bel2 w _ _
  have S3 : Hid (((World.cell? w3 ⟨w.heap.size, 0, none⟩ = some (.int .u64 (Gz.n a))) ∧ (World.cell? w3 ⟨w.heap.size, 1, none⟩ = some (.int .u64 (Gz.nans a))) ∧ (World.cell? w3 ⟨w.heap.size, 2, none⟩ = some (.int .u64 (Gz.lo a))) ∧ (World.cell? w3 ⟨w.heap.size, 3, none⟩ = some (.int .u64 (Gz.hi a)))) ∧ ((World.cell? w3 ⟨w.heap.size + 1, 0, none⟩ = some (.int .u64 (Gz.n b))) ∧ (World.cell? w3 ⟨w.heap.size + 1, 1, none⟩ = some (.int .u64 (Gz.nans b))) ∧ (World.cell? w3 ⟨w.heap.size + 1, 2, none⟩ = some (.int .u64 (Gz.lo b))) ∧ (World.cell? w3 ⟨w.heap.size + 1, 3, none⟩ = some (.int .u64 (Gz.hi b)))) ∧ Hid (w.heap.size < w3.heap.size ∧ w.heap.size + 1 < w3.heap.size ∧ w.heap.size ≤ w3.heap.size ∧ Below w.heap.size w w3)) :=
    ⟨G1.out.gc, G2.out.gc, G1.out.lt, G2.out.lt, B3.out.size, B3.out⟩
  go_enter Try.func4, Try.ntmps4
  go_upto_region 1 with fail
  rw [hw3.out]
  clear hw3 G1 G2 B3
  generalize w.heap.size + 1 = g2 at S3 ⊢
  cases e1 : chkG a
  · rw [e1] at C1 D1
    generalize chkG b = cb at D2 C2
    obtain ⟨⟨p0, p1, p2, p3⟩, _, hh⟩ := S3.out
    go_wp2_with fail
    refine (C1.out _).mono ?_
    rintro e v1 ⟨rfl, b1⟩
    have S4 := hide (keep2 b1 S3.out)
    clear S3 b1 p0 p1 p2 p3 hh
    cases cb
    · go_upto_region 2 with fail
      have S7 : Hid (((World.cell? v1.drew ⟨w.heap.size, 0, none⟩ = some (.int .u64 (Gz.n a))) ∧ (World.cell? v1.drew ⟨w.heap.size, 1, none⟩ = some (.int .u64 (Gz.nans a))) ∧ (World.cell? v1.drew ⟨w.heap.size, 2, none⟩ = some (.int .u64 (Gz.lo a))) ∧ (World.cell? v1.drew ⟨w.heap.size, 3, none⟩ = some (.int .u64 (Gz.hi a)))) ∧ ((World.cell? v1.drew ⟨g2, 0, none⟩ = some (.int .u64 (Gz.n b))) ∧ (World.cell? v1.drew ⟨g2, 1, none⟩ = some (.int .u64 (Gz.nans b))) ∧ (World.cell? v1.drew ⟨g2, 2, none⟩ = some (.int .u64 (Gz.lo b))) ∧ (World.cell? v1.drew ⟨g2, 3, none⟩ = some (.int .u64 (Gz.hi b)))) ∧ Hid (w.heap.size < v1.drew.heap.size ∧ g2 < v1.drew.heap.size ∧ w.heap.size ≤ v1.drew.heap.size ∧ Below w.heap.size w v1.drew)) := keep2 (Below.refl _ _).drew S4.out
      go_region_held3 (fun w' => ((World.cell? w' ⟨w.heap.size, 0, none⟩ = some (.int .u64 (Gz.n a))) ∧ (World.cell? w' ⟨w.heap.size, 1, none⟩ = some (.int .u64 (Gz.nans a))) ∧ (World.cell? w' ⟨w.heap.size, 2, none⟩ = some (.int .u64 (Gz.lo a))) ∧ (World.cell? w' ⟨w.heap.size, 3, none⟩ = some (.int .u64 (Gz.hi a)))) ∧ ((World.cell? w' ⟨g2, 0, none⟩ = some (.int .u64 (Gz.n b))) ∧ (World.cell? w' ⟨g2, 1, none⟩ = some (.int .u64 (Gz.nans b))) ∧ (World.cell? w' ⟨g2, 2, none⟩ = some (.int .u64 (Gz.lo b))) ∧ (World.cell? w' ⟨g2, 3, none⟩ = some (.int .u64 (Gz.hi b)))) ∧ Hid (w.heap.size < w'.heap.size ∧ g2 < w'.heap.size ∧ w.heap.size ≤ w'.heap.size ∧ Below w.heap.size w w')) (first | exact S7.out | exact keep2 (by assumption) (by assumption)) (first
        | (go_at_call 9
           first
             | (with_reducible refine (D1.out _).mono ?_)
             | (with_reducible refine (D2.out _).mono ?_)
           rintro e v4 ⟨rfl, b4⟩)
        | (go_at_call 10
           first
             | (with_reducible refine (C1.out _).mono ?_)
             | (with_reducible refine (C2.out _).mono ?_)
           rintro e v4 ⟨rfl, b4⟩)
        | (go_at_call 13
           refine (W.out _).mono ?_
           rintro e v4 ⟨rfl, b4⟩))
      have F : Hid (((World.cell? v4 ⟨w.heap.size, 0, none⟩ = some (.int .u64 (Gz.n a))) ∧ (World.cell? v4 ⟨w.heap.size, 1, none⟩ = some (.int .u64 (Gz.nans a))) ∧ (World.cell? v4 ⟨w.heap.size, 2, none⟩ = some (.int .u64 (Gz.lo a))) ∧ (World.cell? v4 ⟨w.heap.size, 3, none⟩ = some (.int .u64 (Gz.hi a)))) ∧ ((World.cell? v4 ⟨g2, 0, none⟩ = some (.int .u64 (Gz.n b))) ∧ (World.cell? v4 ⟨g2, 1, none⟩ = some (.int .u64 (Gz.nans b))) ∧ (World.cell? v4 ⟨g2, 2, none⟩ = some (.int .u64 (Gz.lo b))) ∧ (World.cell? v4 ⟨g2, 3, none⟩ = some (.int .u64 (Gz.hi b)))) ∧ Hid (w.heap.size < v4.heap.size ∧ g2 < v4.heap.size ∧ w.heap.size ≤ v4.heap.size ∧ Below w.heap.size w v4)) := by assumption
      go_wp2
      go_ret
      exact ⟨rfl, F.out.2.2.out.2.2.2⟩
    · go_upto_region 2 with fail
      have S7 : Hid (((World.cell? v1.drew ⟨w.heap.size, 0, none⟩ = some (.int .u64 (Gz.n a))) ∧ (World.cell? v1.drew ⟨w.heap.size, 1, none⟩ = some (.int .u64 (Gz.nans a))) ∧ (World.cell? v1.drew ⟨w.heap.size, 2, none⟩ = some (.int .u64 (Gz.lo a))) ∧ (World.cell? v1.drew ⟨w.heap.size, 3, none⟩ = some (.int .u64 (Gz.hi a)))) ∧ ((World.cell? v1.drew ⟨g2, 0, none⟩ = some (.int .u64 (Gz.n b))) ∧ (World.cell? v1.drew ⟨g2, 1, none⟩ = some (.int .u64 (Gz.nans b))) ∧ (World.cell? v1.drew ⟨g2, 2, none⟩ = some (.int .u64 (Gz.lo b))) ∧ (World.cell? v1.drew ⟨g2, 3, none⟩ = some (.int .u64 (Gz.hi b)))) ∧ Hid (w.heap.size < v1.drew.heap.size ∧ g2 < v1.drew.heap.size ∧ w.heap.size ≤ v1.drew.heap.size ∧ Below w.heap.size w v1.drew)) := keep2 (Below.refl _ _).drew S4.out
      go_region_held3 (fun w' => ((World.cell? w' ⟨w.heap.size, 0, none⟩ = some (.int .u64 (Gz.n a))) ∧ (World.cell? w' ⟨w.heap.size, 1, none⟩ = some (.int .u64 (Gz.nans a))) ∧ (World.cell? w' ⟨w.heap.size, 2, none⟩ = some (.int .u64 (Gz.lo a))) ∧ (World.cell? w' ⟨w.heap.size, 3, none⟩ = some (.int .u64 (Gz.hi a)))) ∧ ((World.cell? w' ⟨g2, 0, none⟩ = some (.int .u64 (Gz.n b))) ∧ (World.cell? w' ⟨g2, 1, none⟩ = some (.int .u64 (Gz.nans b))) ∧ (World.cell? w' ⟨g2, 2, none⟩ = some (.int .u64 (Gz.lo b))) ∧ (World.cell? w' ⟨g2, 3, none⟩ = some (.int .u64 (Gz.hi b)))) ∧ Hid (w.heap.size < w'.heap.size ∧ g2 < w'.heap.size ∧ w.heap.size ≤ w'.heap.size ∧ Below w.heap.size w w')) (first | exact S7.out | exact keep2 (by assumption) (by assumption)) (first
        | (go_at_call 9
           first
             | (with_reducible refine (D1.out _).mono ?_)
             | (with_reducible refine (D2.out _).mono ?_)
           rintro e v4 ⟨rfl, b4⟩)
        | (go_at_call 10
           first
             | (with_reducible refine (C1.out _).mono ?_)
             | (with_reducible refine (C2.out _).mono ?_)
           rintro e v4 ⟨rfl, b4⟩)
        | (go_at_call 13
           refine (W.out _).mono ?_
           rintro e v4 ⟨rfl, b4⟩))
      have F : Hid (((World.cell? v4 ⟨w.heap.size, 0, none⟩ = some (.int .u64 (Gz.n a))) ∧ (World.cell? v4 ⟨w.heap.size, 1, none⟩ = some (.int .u64 (Gz.nans a))) ∧ (World.cell? v4 ⟨w.heap.size, 2, none⟩ = some (.int .u64 (Gz.lo a))) ∧ (World.cell? v4 ⟨w.heap.size, 3, none⟩ = some (.int .u64 (Gz.hi a)))) ∧ ((World.cell? v4 ⟨g2, 0, none⟩ = some (.int .u64 (Gz.n b))) ∧ (World.cell? v4 ⟨g2, 1, none⟩ = some (.int .u64 (Gz.nans b))) ∧ (World.cell? v4 ⟨g2, 2, none⟩ = some (.int .u64 (Gz.lo b))) ∧ (World.cell? v4 ⟨g2, 3, none⟩ = some (.int .u64 (Gz.hi b)))) ∧ Hid (w.heap.size < v4.heap.size ∧ g2 < v4.heap.size ∧ w.heap.size ≤ v4.heap.size ∧ Below w.heap.size w v4)) := by assumption
      go_wp2
      go_ret
      exact ⟨rfl, F.out.2.2.out.2.2.2⟩
  rw [e1] at C1 D1
  cases e2 : chkG b
  · rw [e2] at C2 D2
    obtain ⟨⟨p0, p1, p2, p3⟩, _, hh⟩ := S3.out
    go_wp2_with fail
    refine (C1.out _).mono ?_
    rintro e v1 ⟨rfl, b1⟩
    have S4 := hide (keep2 b1 S3.out)
    obtain ⟨_, ⟨q0, q1, q2, q3⟩, hh4⟩ := S4.out
    go_wp2_with fail
    refine (C2.out _).mono ?_
    rintro e v2 ⟨rfl, b2⟩
    have S5 := hide (keep2 b2 S4.out)
    clear S3 S4 b1 b2 p0 p1 p2 p3 hh q0 q1 q2 q3 hh4
    go_upto_region 2 with fail
    have S7 : Hid (((World.cell? v2.drew ⟨w.heap.size, 0, none⟩ = some (.int .u64 (Gz.n a))) ∧ (World.cell? v2.drew ⟨w.heap.size, 1, none⟩ = some (.int .u64 (Gz.nans a))) ∧ (World.cell? v2.drew ⟨w.heap.size, 2, none⟩ = some (.int .u64 (Gz.lo a))) ∧ (World.cell? v2.drew ⟨w.heap.size, 3, none⟩ = some (.int .u64 (Gz.hi a)))) ∧ ((World.cell? v2.drew ⟨g2, 0, none⟩ = some (.int .u64 (Gz.n b))) ∧ (World.cell? v2.drew ⟨g2, 1, none⟩ = some (.int .u64 (Gz.nans b))) ∧ (World.cell? v2.drew ⟨g2, 2, none⟩ = some (.int .u64 (Gz.lo b))) ∧ (World.cell? v2.drew ⟨g2, 3, none⟩ = some (.int .u64 (Gz.hi b)))) ∧ Hid (w.heap.size < v2.drew.heap.size ∧ g2 < v2.drew.heap.size ∧ w.heap.size ≤ v2.drew.heap.size ∧ Below w.heap.size w v2.drew)) := keep2 (Below.refl _ _).drew S5.out
    go_region_held3 (fun w' => ((World.cell? w' ⟨w.heap.size, 0, none⟩ = some (.int .u64 (Gz.n a))) ∧ (World.cell? w' ⟨w.heap.size, 1, none⟩ = some (.int .u64 (Gz.nans a))) ∧ (World.cell? w' ⟨w.heap.size, 2, none⟩ = some (.int .u64 (Gz.lo a))) ∧ (World.cell? w' ⟨w.heap.size, 3, none⟩ = some (.int .u64 (Gz.hi a)))) ∧ ((World.cell? w' ⟨g2, 0, none⟩ = some (.int .u64 (Gz.n b))) ∧ (World.cell? w' ⟨g2, 1, none⟩ = some (.int .u64 (Gz.nans b))) ∧ (World.cell? w' ⟨g2, 2, none⟩ = some (.int .u64 (Gz.lo b))) ∧ (World.cell? w' ⟨g2, 3, none⟩ = some (.int .u64 (Gz.hi b)))) ∧ Hid (w.heap.size < w'.heap.size ∧ g2 < w'.heap.size ∧ w.heap.size ≤ w'.heap.size ∧ Below w.heap.size w w')) (first | exact S7.out | exact keep2 (by assumption) (by assumption)) (first
      | (go_at_call 9
         first
           | (with_reducible refine (D1.out _).mono ?_)
           | (with_reducible refine (D2.out _).mono ?_)
         rintro e v4 ⟨rfl, b4⟩)
      | (go_at_call 10
         first
           | (with_reducible refine (C1.out _).mono ?_)
           | (with_reducible refine (C2.out _).mono ?_)
         rintro e v4 ⟨rfl, b4⟩)
      | (go_at_call 13
         refine (W.out _).mono ?_
         rintro e v4 ⟨rfl, b4⟩))
    have F : Hid (((World.cell? v4 ⟨w.heap.size, 0, none⟩ = some (.int .u64 (Gz.n a))) ∧ (World.cell? v4 ⟨w.heap.size, 1, none⟩ = some (.int .u64 (Gz.nans a))) ∧ (World.cell? v4 ⟨w.heap.size, 2, none⟩ = some (.int .u64 (Gz.lo a))) ∧ (World.cell? v4 ⟨w.heap.size, 3, none⟩ = some (.int .u64 (Gz.hi a)))) ∧ ((World.cell? v4 ⟨g2, 0, none⟩ = some (.int .u64 (Gz.n b))) ∧ (World.cell? v4 ⟨g2, 1, none⟩ = some (.int .u64 (Gz.nans b))) ∧ (World.cell? v4 ⟨g2, 2, none⟩ = some (.int .u64 (Gz.lo b))) ∧ (World.cell? v4 ⟨g2, 3, none⟩ = some (.int .u64 (Gz.hi b)))) ∧ Hid (w.heap.size < v4.heap.size ∧ g2 < v4.heap.size ∧ w.heap.size ≤ v4.heap.size ∧ Below w.heap.size w v4)) := by assumption
    go_wp2
    go_ret
    exact ⟨rfl, F.out.2.2.out.2.2.2⟩
  rw [e2] at C2 D2
  obtain ⟨ab, hab⟩ : ∃ x, mergeG a b = x := ⟨_, rfl⟩
  have wab : GW ab := hab ▸ mergeG_word ha hb
  have cab : chkG ab = true := hab ▸ mergeG_chk ha hb e1 e2
  have M1 := hide (fun w => M.merge a b ha hb e1 e2 w)
  have M2 := hide (fun w => refgmerge_any a b ha hb w)
  have D3 := hide (fun w => C.chk ab wab w)
  rw [hab] at M1 M2
  rw [cab] at D3
  clear hab wab cab ha hb e1 e2 M A C D1 D2
  obtain ⟨⟨p0, p1, p2, p3⟩, _, hh⟩ := S3.out
  go_wp2_with fail
  refine (C1.out _).mono ?_
  rintro e v1 ⟨rfl, b1⟩
  have S4 := hide (keep2 b1 S3.out)
  obtain ⟨_, ⟨q0, q1, q2, q3⟩, hh4⟩ := S4.out
  go_wp2_with fail
  refine (C2.out _).mono ?_
  rintro e v2 ⟨rfl, b2⟩
  have S5 := hide (keep2 b2 S4.out)
  clear S3 S4 b1 b2 p0 p1 p2 p3 hh q0 q1 q2 q3 hh4 C1 C2
  obtain ⟨⟨p0, p1, p2, p3⟩, ⟨q0, q1, q2, q3⟩, hh⟩ := S5.out
  go_wp2_with fail
  refine (M1.out _).mono ?_
  rintro e v3 ⟨rfl, b3⟩
  have S6 := hide (keep2 b3 S5.out)
  clear S5 b3 p0 p1 p2 p3 q0 q1 q2 q3 hh M1
  have S7 := hide (keep23 ab 24 S6.out)
  clear S6
  go_upto_region 4 with fail
  obtain ⟨g3, hg3⟩ : ∃ g, v3.heap.size = g := ⟨_, rfl⟩
  rw [hg3] at S7 ⊢
  clear hg3
  generalize v3.alloc (.cells #[.int .u64 ab.n, .int .u64 ab.nans, .int .u64 ab.lo, .int .u64 ab.hi] 24) = v at S7 ⊢
  have S8 : Hid (((World.cell? v.drew ⟨w.heap.size, 0, none⟩ = some (.int .u64 (Gz.n a))) ∧ (World.cell? v.drew ⟨w.heap.size, 1, none⟩ = some (.int .u64 (Gz.nans a))) ∧ (World.cell? v.drew ⟨w.heap.size, 2, none⟩ = some (.int .u64 (Gz.lo a))) ∧ (World.cell? v.drew ⟨w.heap.size, 3, none⟩ = some (.int .u64 (Gz.hi a)))) ∧ ((World.cell? v.drew ⟨g2, 0, none⟩ = some (.int .u64 (Gz.n b))) ∧ (World.cell? v.drew ⟨g2, 1, none⟩ = some (.int .u64 (Gz.nans b))) ∧ (World.cell? v.drew ⟨g2, 2, none⟩ = some (.int .u64 (Gz.lo b))) ∧ (World.cell? v.drew ⟨g2, 3, none⟩ = some (.int .u64 (Gz.hi b)))) ∧ ((World.cell? v.drew ⟨g3, 0, none⟩ = some (.int .u64 (Gz.n ab))) ∧ (World.cell? v.drew ⟨g3, 1, none⟩ = some (.int .u64 (Gz.nans ab))) ∧ (World.cell? v.drew ⟨g3, 2, none⟩ = some (.int .u64 (Gz.lo ab))) ∧ (World.cell? v.drew ⟨g3, 3, none⟩ = some (.int .u64 (Gz.hi ab)))) ∧ Hid (w.heap.size < v.drew.heap.size ∧ g2 < v.drew.heap.size ∧ g3 < v.drew.heap.size ∧ w.heap.size ≤ v.drew.heap.size ∧ Below w.heap.size w v.drew)) := keep3 (Below.refl _ _).drew S7.out
  go_region_held3 (fun w' => ((World.cell? w' ⟨w.heap.size, 0, none⟩ = some (.int .u64 (Gz.n a))) ∧ (World.cell? w' ⟨w.heap.size, 1, none⟩ = some (.int .u64 (Gz.nans a))) ∧ (World.cell? w' ⟨w.heap.size, 2, none⟩ = some (.int .u64 (Gz.lo a))) ∧ (World.cell? w' ⟨w.heap.size, 3, none⟩ = some (.int .u64 (Gz.hi a)))) ∧ ((World.cell? w' ⟨g2, 0, none⟩ = some (.int .u64 (Gz.n b))) ∧ (World.cell? w' ⟨g2, 1, none⟩ = some (.int .u64 (Gz.nans b))) ∧ (World.cell? w' ⟨g2, 2, none⟩ = some (.int .u64 (Gz.lo b))) ∧ (World.cell? w' ⟨g2, 3, none⟩ = some (.int .u64 (Gz.hi b)))) ∧ ((World.cell? w' ⟨g3, 0, none⟩ = some (.int .u64 (Gz.n ab))) ∧ (World.cell? w' ⟨g3, 1, none⟩ = some (.int .u64 (Gz.nans ab))) ∧ (World.cell? w' ⟨g3, 2, none⟩ = some (.int .u64 (Gz.lo ab))) ∧ (World.cell? w' ⟨g3, 3, none⟩ = some (.int .u64 (Gz.hi ab)))) ∧ Hid (w.heap.size < w'.heap.size ∧ g2 < w'.heap.size ∧ g3 < w'.heap.size ∧ w.heap.size ≤ w'.heap.size ∧ Below w.heap.size w w')) (first | exact S8.out | exact keep3 (by assumption) (by assumption)) (first
    | (go_at_call 15
       refine (M2.out _).mono ?_
       rintro e v4 ⟨rfl, b4⟩)
    | (go_at_call 9
       refine (D3.out _).mono ?_
       rintro e v4 ⟨rfl, b4⟩)
    | (go_at_call 13
       refine (W.out _).mono ?_
       rintro e v4 ⟨rfl, b4⟩))
  have F : Hid (((World.cell? v4 ⟨w.heap.size, 0, none⟩ = some (.int .u64 (Gz.n a))) ∧ (World.cell? v4 ⟨w.heap.size, 1, none⟩ = some (.int .u64 (Gz.nans a))) ∧ (World.cell? v4 ⟨w.heap.size, 2, none⟩ = some (.int .u64 (Gz.lo a))) ∧ (World.cell? v4 ⟨w.heap.size, 3, none⟩ = some (.int .u64 (Gz.hi a)))) ∧ ((World.cell? v4 ⟨g2, 0, none⟩ = some (.int .u64 (Gz.n b))) ∧ (World.cell? v4 ⟨g2, 1, none⟩ = some (.int .u64 (Gz.nans b))) ∧ (World.cell? v4 ⟨g2, 2, none⟩ = some (.int .u64 (Gz.lo b))) ∧ (World.cell? v4 ⟨g2, 3, none⟩ = some (.int .u64 (Gz.hi b)))) ∧ ((World.cell? v4 ⟨g3, 0, none⟩ = some (.int .u64 (Gz.n ab))) ∧ (World.cell? v4 ⟨g3, 1, none⟩ = some (.int .u64 (Gz.nans ab))) ∧ (World.cell? v4 ⟨g3, 2, none⟩ = some (.int .u64 (Gz.lo ab))) ∧ (World.cell? v4 ⟨g3, 3, none⟩ = some (.int .u64 (Gz.hi ab)))) ∧ Hid (w.heap.size < v4.heap.size ∧ g2 < v4.heap.size ∧ g3 < v4.heap.size ∧ w.heap.size ≤ v4.heap.size ∧ Below w.heap.size w v4)) := by assumption
  go_wp2
  go_ret
  exact ⟨rfl, F.out.2.2.2.out.2.2.2.2⟩
end Go.Proofs.Ytnhjjdgdffjdcaa
