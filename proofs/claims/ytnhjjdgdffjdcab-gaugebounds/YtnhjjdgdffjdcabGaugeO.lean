/-
  The law of one float and of two, over what the laws ask of the program's own Add.
  Conditions: as GaA says.
-/
import Derived.Test.YtnhjjdgdffjdcabGaugeT
namespace Go.Proofs.Ytnhjjdgdffjdcab
open Go.RowKit

/-- One gauge in memory. -/
theorem keep1 {w0 w w' : World} {B g1 : Nat} {a : Gz} (hb : Below w.heap.size w w') (h : ((World.cell? w ⟨g1, 0, none⟩ = some (.int .u64 (Gz.n a))) ∧ (World.cell? w ⟨g1, 1, none⟩ = some (.int .u64 (Gz.nans a))) ∧ (World.cell? w ⟨g1, 2, none⟩ = some (.int .u64 (Gz.lo a))) ∧ (World.cell? w ⟨g1, 3, none⟩ = some (.int .u64 (Gz.hi a)))) ∧ Hid (g1 < w.heap.size ∧ B ≤ w.heap.size ∧ Below B w0 w)) :
    ((World.cell? w' ⟨g1, 0, none⟩ = some (.int .u64 (Gz.n a))) ∧ (World.cell? w' ⟨g1, 1, none⟩ = some (.int .u64 (Gz.nans a))) ∧ (World.cell? w' ⟨g1, 2, none⟩ = some (.int .u64 (Gz.lo a))) ∧ (World.cell? w' ⟨g1, 3, none⟩ = some (.int .u64 (Gz.hi a)))) ∧ Hid (g1 < w'.heap.size ∧ B ≤ w'.heap.size ∧ Below B w0 w') := by
  obtain ⟨h1, l1, l4, hB⟩ := h
  have s := hb.size
  exact ⟨gc_below hb l1 h1, Nat.lt_of_lt_of_le l1 s, Nat.le_trans l4 s, hB.trans (hb.mono l4)⟩
theorem keep01 {w0 w : World} {B : Nat} (v : Gz) (t : TypeId) (hB : Below B w0 w) (l : B ≤ w.heap.size) :
    let w' := w.alloc (.cells #[.int .u64 v.n, .int .u64 v.nans, .int .u64 v.lo, .int .u64 v.hi] t)
    ((World.cell? w' ⟨w.heap.size, 0, none⟩ = some (.int .u64 (Gz.n v))) ∧ (World.cell? w' ⟨w.heap.size, 1, none⟩ = some (.int .u64 (Gz.nans v))) ∧ (World.cell? w' ⟨w.heap.size, 2, none⟩ = some (.int .u64 (Gz.lo v))) ∧ (World.cell? w' ⟨w.heap.size, 3, none⟩ = some (.int .u64 (Gz.hi v)))) ∧ Hid (w.heap.size < w'.heap.size ∧ B ≤ w'.heap.size ∧ Below B w0 w') := by
  intro w'
  have hb : Below w.heap.size w w' := (Below.refl _ _).alloc (Nat.le_refl _) _
  have s : w'.heap.size = w.heap.size + 1 := size_al _ _
  exact ⟨(GBox.new w t v.n v.nans v.lo v.hi).gc, by omega, by omega, hB.trans (hb.mono l)⟩

end Go.Proofs.Ytnhjjdgdffjdcab
