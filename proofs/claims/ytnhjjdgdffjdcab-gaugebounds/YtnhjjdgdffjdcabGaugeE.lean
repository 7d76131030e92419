/-
  The law of the ends, walked.
  Conditions: as GaA says.
-/
import Derived.Test.YtnhjjdgdffjdcabGaugeN
import Derived.Test.YtnhjjdgdffjdcabGaugeM
namespace Go.Proofs.Ytnhjjdgdffjdcab
open Go.RowKit
attribute [local go_sem] run_bits run_frombits

/-- One gauge more is laid behind one. -/
theorem keep12 {w0 w : World} {B g1 : Nat} {a : Gz} (v : Gz) (t : TypeId) (h : ((World.cell? w ⟨g1, 0, none⟩ = some (.int .u64 (Gz.n a))) ∧ (World.cell? w ⟨g1, 1, none⟩ = some (.int .u64 (Gz.nans a))) ∧ (World.cell? w ⟨g1, 2, none⟩ = some (.int .u64 (Gz.lo a))) ∧ (World.cell? w ⟨g1, 3, none⟩ = some (.int .u64 (Gz.hi a)))) ∧ Hid (g1 < w.heap.size ∧ B ≤ w.heap.size ∧ Below B w0 w)) :
    let w' := w.alloc (.cells #[.int .u64 v.n, .int .u64 v.nans, .int .u64 v.lo, .int .u64 v.hi] t)
    ((World.cell? w' ⟨g1, 0, none⟩ = some (.int .u64 (Gz.n a))) ∧ (World.cell? w' ⟨g1, 1, none⟩ = some (.int .u64 (Gz.nans a))) ∧ (World.cell? w' ⟨g1, 2, none⟩ = some (.int .u64 (Gz.lo a))) ∧ (World.cell? w' ⟨g1, 3, none⟩ = some (.int .u64 (Gz.hi a)))) ∧ ((World.cell? w' ⟨w.heap.size, 0, none⟩ = some (.int .u64 (Gz.n v))) ∧ (World.cell? w' ⟨w.heap.size, 1, none⟩ = some (.int .u64 (Gz.nans v))) ∧ (World.cell? w' ⟨w.heap.size, 2, none⟩ = some (.int .u64 (Gz.lo v))) ∧ (World.cell? w' ⟨w.heap.size, 3, none⟩ = some (.int .u64 (Gz.hi v)))) ∧ Hid (g1 < w'.heap.size ∧ w.heap.size < w'.heap.size ∧ B ≤ w'.heap.size ∧ Below B w0 w') := by
  intro w'
  have hb : Below w.heap.size w w' := (Below.refl _ _).alloc (Nat.le_refl _) _
  obtain ⟨h1, l1, l4, hB⟩ := h
  have s : w'.heap.size = w.heap.size + 1 := size_al _ _
  exact ⟨gc_below hb l1 h1, (GBox.new w t v.n v.nans v.lo v.hi).gc, by omega, by omega, by omega, hB.trans (hb.mono l4)⟩

set_option maxHeartbeats 4000000 in
theorem boundsG_of (A : GaA) (g : Gz) (x : Int) (w : World) (hg : GW g) (hx : (Lit.int .u64 x).wf = true) :
    Calls Try.prog 3 #[(Value.agg #[.int .u64 (Gz.n g), .int .u64 (Gz.nans g), .int .u64 (Gz.lo g), .int .u64 (Gz.hi g)]), .int .u64 x] w fun e w' => e = .returned (.bool true) ∧ Below w.heap.size w w' := by
  have wx := word_of_wf hx
  have W := hide (awakeG_any A)
  have C1 := hide (fun w => refgchk_any g hg w)
  have IU := hide inf_up
  have ID := hide inf_down
  have S0 := hide (keep01 g 24 (Below.refl w.heap.size w) (Nat.le_refl _))
  obtain ⟨v, hv⟩ : ∃ v, Hid (w.alloc (.cells #[.int .u64 g.n, .int .u64 g.nans, .int .u64 g.lo, .int .u64 g.hi] 24) = v) := ⟨_, rfl⟩
  go_enter Try.func3, Try.ntmps3
  go_upto_region 1 with fail
  dsimp only at S0
  rw [hv.out] at S0 ⊢
  clear hv
  obtain ⟨g1, hg1⟩ : ∃ k, Hid (w.heap.size = k) := ⟨_, rfl⟩
  have S1 : Hid (((World.cell? v ⟨g1, 0, none⟩ = some (.int .u64 (Gz.n g))) ∧ (World.cell? v ⟨g1, 1, none⟩ = some (.int .u64 (Gz.nans g))) ∧ (World.cell? v ⟨g1, 2, none⟩ = some (.int .u64 (Gz.lo g))) ∧ (World.cell? v ⟨g1, 3, none⟩ = some (.int .u64 (Gz.hi g)))) ∧ Hid (g1 < v.heap.size ∧ w.heap.size ≤ v.heap.size ∧ Below w.heap.size w v)) := by
    rw [← hg1.out]; exact S0.out
  rw [hg1.out]
  clear S0
  obtain ⟨⟨p0, p1, p2, p3⟩, hh⟩ := S1.out
  go_wp2_with fail
  refine (C1.out _).mono ?_
  rintro e v1 ⟨rfl, b1⟩
  have S2 := hide (keep1 b1 S1.out)
  clear S1 p0 p1 p2 p3 hh b1 C1
  obtain ⟨⟨p0, p1, p2, p3⟩, hh⟩ := S2.out
  cases e1 : chkG g
  · go_wp2_with fail
    refine (W.out _).mono ?_
    rintro e v2 ⟨rfl, b2⟩
    have S3 := hide (keep1 b2 S2.out)
    go_wp2
    go_ret
    exact ⟨rfl, S3.out.2.out.2.2⟩
  by_cases l1 : 9223372036854775808 < g.n
  · go_wp2_with fail
    refine (W.out _).mono ?_
    rintro e v2 ⟨rfl, b2⟩
    have S3 := hide (keep1 b2 S2.out)
    go_wp2
    go_ret
    exact ⟨rfl, S3.out.2.out.2.2⟩
  by_cases l2 : 9223372036854775808 < g.nans
  · go_wp2_with fail
    refine (W.out _).mono ?_
    rintro e v2 ⟨rfl, b2⟩
    have S3 := hide (keep1 b2 S2.out)
    go_wp2
    go_ret
    exact ⟨rfl, S3.out.2.out.2.2⟩
  have hn := hg.n.1
  have hm := hg.nans.1
  have A1 := hide (fun w => A.add g 18442240474082181120 hg wLO e1 w)
  have A2 := hide (fun w => A.add (addG g 18442240474082181120) 9218868437227405312 (addG_word hg wLO) wHI (addG_chk hg wLO e1) w)
  have A3 := hide (fun w => A.add (addG (addG g 18442240474082181120) 9218868437227405312) x (addG_word (addG_word hg wLO) wHI) wx (addG_chk (addG_word hg wLO) wHI (addG_chk hg wLO e1)) w)
  rw [ends_both hg e1 (by omega)] at A2 A3
  obtain ⟨yn, ym, hy⟩ := ends_stay (n := g.n + 2) (m := g.nans) (x := x) ⟨by omega, by omega⟩ hg.nans wx (by omega)
  rw [hy] at A3
  generalize addG g 18442240474082181120 = y at A1 A2
  have q := nan_bits (x := x % 1048576) (by omega) (by omega)
  have wq : Word (9221120237041090560 + x % 1048576) := ⟨by omega, by omega⟩
  have A4 := hide (fun w => A.add g (9221120237041090560 + x % 1048576) hg wq e1 w)
  rw [addG_none hg e1 q, show addS g.nans 1 = g.nans + 1 from by unfold addS; rw [if_pos (by omega)]] at A4
  have t1 := and_low wx.1 wx.2
  have t2 := or_quiet (x := x % 1048576) (by omega) (by omega)
  have t3 : IntKind.u64.wrap (g.n + 2) = g.n + 2 := by rw [IntKind.wrap_u64]; omega
  have t4 : IntKind.u64.wrap (g.nans + 1) = g.nans + 1 := by rw [IntKind.wrap_u64]; omega
  generalize x % 1048576 = z at A4 t1 t2
  dsimp only at A2 A3 A4
  clear hy q wq wx hx hg e1 A
  go_wp2_with fail
  refine (ID.out _).mono ?_
  rintro e u1 ⟨rfl, rfl⟩
  go_wp2_with fail
  refine (IU.out _).mono ?_
  rintro e u1 ⟨rfl, rfl⟩
  go_wp2_with fail
  refine (A1.out _).mono ?_
  rintro e v2 ⟨rfl, b2⟩
  have S3 := hide (keep1 b2 S2.out)
  clear S2 p0 p1 p2 p3 hh b2
  go_wp2_with fail
  refine (A2.out _).mono ?_
  rintro e v3 ⟨rfl, b3⟩
  have S4 := hide (keep1 b3 S3.out)
  have S5 := hide (keep12 ⟨g.n + 2, g.nans, 18442240474082181120, 9218868437227405312⟩ 24 S4.out)
  clear S3 S4 b3
  go_upto_region 6 with fail
  try dsimp only at S5
  generalize v3.heap.size = g2 at S5 ⊢
  generalize v3.alloc (.cells #[.int .u64 (g.n + 2), .int .u64 g.nans, .int .u64 18442240474082181120, .int .u64 9218868437227405312] 24) = v4 at S5 ⊢
  obtain ⟨⟨p0, p1, p2, p3⟩, ⟨q0, q1, q2, q3⟩, hh⟩ := S5.out
  go_wp2_with fail
  refine (A3.out _).mono ?_
  rintro e v5 ⟨rfl, b5⟩
  have S6 := hide (keep2 (b := ⟨g.n + 2, g.nans, 18442240474082181120, 9218868437227405312⟩) b5 S5.out)
  have S7 := hide (keep23 ⟨yn, ym, 18442240474082181120, 9218868437227405312⟩ 24 S6.out)
  clear S5 S6 p0 p1 p2 p3 q0 q1 q2 q3 hh b5
  go_upto_region 7 with fail
  try dsimp only at S7
  generalize v5.heap.size = g3 at S7 ⊢
  generalize v5.alloc (.cells #[.int .u64 yn, .int .u64 ym, .int .u64 18442240474082181120, .int .u64 9218868437227405312] 24) = v6 at S7 ⊢
  obtain ⟨⟨p0, p1, p2, p3⟩, ⟨q0, q1, q2, q3⟩, ⟨r0, r1, r2, r3⟩, hh⟩ := S7.out
  go_wp2_with fail
  refine (A4.out _).mono ?_
  rintro e v7 ⟨rfl, b7⟩
  have S8 : Hid (((World.cell? v7 ⟨g1, 0, none⟩ = some (.int .u64 (Gz.n g))) ∧ (World.cell? v7 ⟨g1, 1, none⟩ = some (.int .u64 (Gz.nans g))) ∧ (World.cell? v7 ⟨g1, 2, none⟩ = some (.int .u64 (Gz.lo g))) ∧ (World.cell? v7 ⟨g1, 3, none⟩ = some (.int .u64 (Gz.hi g)))) ∧ Hid (g1 < v7.heap.size ∧ w.heap.size ≤ v7.heap.size ∧ Below w.heap.size w v7)) := keep1 b7 ⟨S7.out.1, S7.out.2.2.2.out.1, S7.out.2.2.2.out.2.2.2.1, S7.out.2.2.2.out.2.2.2.2⟩
  have S9 := hide (keep12 ⟨g.n, g.nans + 1, g.lo, g.hi⟩ 24 S8.out)
  clear S7 S8 p0 p1 p2 p3 q0 q1 q2 q3 r0 r1 r2 r3 hh b7
  go_upto_region 10 with fail
  try dsimp only at S9
  generalize v7.heap.size = g4 at S9 ⊢
  generalize v7.alloc (.cells #[.int .u64 g.n, .int .u64 (g.nans + 1), .int .u64 g.lo, .int .u64 g.hi] 24) = v8 at S9 ⊢
  obtain ⟨⟨p0, p1, p2, p3⟩, ⟨q0, q1, q2, q3⟩, hh⟩ := S9.out
  go_wp2_with fail
  refine (W.out _).mono ?_
  rintro e v9 ⟨rfl, b9⟩
  have b10 := hide (hh.out.2.2.2.trans (b9.mono hh.out.2.2.1))
  go_wp2
  go_ret
  exact ⟨rfl, b10.out⟩
end Go.Proofs.Ytnhjjdgdffjdcab
