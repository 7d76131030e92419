/-
  The law of two gauges put together, over what the laws ask of the program's own Check, Merge and Add.
  Conditions: as GaC, GaM and GaA say.
-/
import Derived.Test.YtnhjjdgdffjdcabGaugeT
namespace Go.Proofs.Ytnhjjdgdffjdcab
open Go.RowKit

theorem keep2 {w0 w w' : World} {B g1 g2 : Nat} {a b : Gz} (hb : Below w.heap.size w w') (h : ((World.cell? w ⟨g1, 0, none⟩ = some (.int .u64 (Gz.n a))) ∧ (World.cell? w ⟨g1, 1, none⟩ = some (.int .u64 (Gz.nans a))) ∧ (World.cell? w ⟨g1, 2, none⟩ = some (.int .u64 (Gz.lo a))) ∧ (World.cell? w ⟨g1, 3, none⟩ = some (.int .u64 (Gz.hi a)))) ∧ ((World.cell? w ⟨g2, 0, none⟩ = some (.int .u64 (Gz.n b))) ∧ (World.cell? w ⟨g2, 1, none⟩ = some (.int .u64 (Gz.nans b))) ∧ (World.cell? w ⟨g2, 2, none⟩ = some (.int .u64 (Gz.lo b))) ∧ (World.cell? w ⟨g2, 3, none⟩ = some (.int .u64 (Gz.hi b)))) ∧ Hid (g1 < w.heap.size ∧ g2 < w.heap.size ∧ B ≤ w.heap.size ∧ Below B w0 w)) :
    ((World.cell? w' ⟨g1, 0, none⟩ = some (.int .u64 (Gz.n a))) ∧ (World.cell? w' ⟨g1, 1, none⟩ = some (.int .u64 (Gz.nans a))) ∧ (World.cell? w' ⟨g1, 2, none⟩ = some (.int .u64 (Gz.lo a))) ∧ (World.cell? w' ⟨g1, 3, none⟩ = some (.int .u64 (Gz.hi a)))) ∧ ((World.cell? w' ⟨g2, 0, none⟩ = some (.int .u64 (Gz.n b))) ∧ (World.cell? w' ⟨g2, 1, none⟩ = some (.int .u64 (Gz.nans b))) ∧ (World.cell? w' ⟨g2, 2, none⟩ = some (.int .u64 (Gz.lo b))) ∧ (World.cell? w' ⟨g2, 3, none⟩ = some (.int .u64 (Gz.hi b)))) ∧ Hid (g1 < w'.heap.size ∧ g2 < w'.heap.size ∧ B ≤ w'.heap.size ∧ Below B w0 w') := by
  obtain ⟨h1, h2, l1, l2, l4, hB⟩ := h
  have s := hb.size
  exact ⟨gc_below hb l1 h1, gc_below hb l2 h2, Nat.lt_of_lt_of_le l1 s, Nat.lt_of_lt_of_le l2 s, Nat.le_trans l4 s, hB.trans (hb.mono l4)⟩
/-- One gauge more is laid behind two. -/
theorem keep23 {w0 w : World} {B g1 g2 : Nat} {a b : Gz} (v : Gz) (t : TypeId) (h : ((World.cell? w ⟨g1, 0, none⟩ = some (.int .u64 (Gz.n a))) ∧ (World.cell? w ⟨g1, 1, none⟩ = some (.int .u64 (Gz.nans a))) ∧ (World.cell? w ⟨g1, 2, none⟩ = some (.int .u64 (Gz.lo a))) ∧ (World.cell? w ⟨g1, 3, none⟩ = some (.int .u64 (Gz.hi a)))) ∧ ((World.cell? w ⟨g2, 0, none⟩ = some (.int .u64 (Gz.n b))) ∧ (World.cell? w ⟨g2, 1, none⟩ = some (.int .u64 (Gz.nans b))) ∧ (World.cell? w ⟨g2, 2, none⟩ = some (.int .u64 (Gz.lo b))) ∧ (World.cell? w ⟨g2, 3, none⟩ = some (.int .u64 (Gz.hi b)))) ∧ Hid (g1 < w.heap.size ∧ g2 < w.heap.size ∧ B ≤ w.heap.size ∧ Below B w0 w)) :
    let w' := w.alloc (.cells #[.int .u64 v.n, .int .u64 v.nans, .int .u64 v.lo, .int .u64 v.hi] t)
    ((World.cell? w' ⟨g1, 0, none⟩ = some (.int .u64 (Gz.n a))) ∧ (World.cell? w' ⟨g1, 1, none⟩ = some (.int .u64 (Gz.nans a))) ∧ (World.cell? w' ⟨g1, 2, none⟩ = some (.int .u64 (Gz.lo a))) ∧ (World.cell? w' ⟨g1, 3, none⟩ = some (.int .u64 (Gz.hi a)))) ∧ ((World.cell? w' ⟨g2, 0, none⟩ = some (.int .u64 (Gz.n b))) ∧ (World.cell? w' ⟨g2, 1, none⟩ = some (.int .u64 (Gz.nans b))) ∧ (World.cell? w' ⟨g2, 2, none⟩ = some (.int .u64 (Gz.lo b))) ∧ (World.cell? w' ⟨g2, 3, none⟩ = some (.int .u64 (Gz.hi b)))) ∧ ((World.cell? w' ⟨w.heap.size, 0, none⟩ = some (.int .u64 (Gz.n v))) ∧ (World.cell? w' ⟨w.heap.size, 1, none⟩ = some (.int .u64 (Gz.nans v))) ∧ (World.cell? w' ⟨w.heap.size, 2, none⟩ = some (.int .u64 (Gz.lo v))) ∧ (World.cell? w' ⟨w.heap.size, 3, none⟩ = some (.int .u64 (Gz.hi v)))) ∧ Hid (g1 < w'.heap.size ∧ g2 < w'.heap.size ∧ w.heap.size < w'.heap.size ∧ B ≤ w'.heap.size ∧ Below B w0 w') := by
  intro w'
  have hb : Below w.heap.size w w' := (Below.refl _ _).alloc (Nat.le_refl _) _
  obtain ⟨h1, h2, l1, l2, l4, hB⟩ := h
  have s : w'.heap.size = w.heap.size + 1 := size_al _ _
  exact ⟨gc_below hb l1 h1, gc_below hb l2 h2, (GBox.new w t v.n v.nans v.lo v.hi).gc, by omega, by omega, by omega, by omega, hB.trans (hb.mono l4)⟩

end Go.Proofs.Ytnhjjdgdffjdcab
