/-
  The law 'to merge may be turned round and grouped', over what the laws ask of the program's own Merge and Add.
  Conditions: as GaM and GaA say.
-/
import Derived.Test.YtnhjjdgdffjdcabGaugeI
import Derived.Test.YtnhjjdgdffjdcabGaugeR
namespace Go.Proofs.Ytnhjjdgdffjdcab
open Go.RowKit


theorem gc_below {w w' : World} {g B : Nat} {v : Gz} (hb : Below B w w') (hg : g < B) (h : ((World.cell? w ⟨g, 0, none⟩ = some (.int .u64 (Gz.n v))) ∧ (World.cell? w ⟨g, 1, none⟩ = some (.int .u64 (Gz.nans v))) ∧ (World.cell? w ⟨g, 2, none⟩ = some (.int .u64 (Gz.lo v))) ∧ (World.cell? w ⟨g, 3, none⟩ = some (.int .u64 (Gz.hi v))))) : ((World.cell? w' ⟨g, 0, none⟩ = some (.int .u64 (Gz.n v))) ∧ (World.cell? w' ⟨g, 1, none⟩ = some (.int .u64 (Gz.nans v))) ∧ (World.cell? w' ⟨g, 2, none⟩ = some (.int .u64 (Gz.lo v))) ∧ (World.cell? w' ⟨g, 3, none⟩ = some (.int .u64 (Gz.hi v)))) :=
  ⟨(hb.cell hg).trans h.1, (hb.cell hg).trans h.2.1, (hb.cell hg).trans h.2.2.1, (hb.cell hg).trans h.2.2.2⟩
theorem GBox.gc {w : World} {g : Nat} {v : Gz} (h : GBox w g v.n v.nans v.lo v.hi) : ((World.cell? w ⟨g, 0, none⟩ = some (.int .u64 (Gz.n v))) ∧ (World.cell? w ⟨g, 1, none⟩ = some (.int .u64 (Gz.nans v))) ∧ (World.cell? w ⟨g, 2, none⟩ = some (.int .u64 (Gz.lo v))) ∧ (World.cell? w ⟨g, 3, none⟩ = some (.int .u64 (Gz.hi v)))) := ⟨h.c0, h.c1, h.c2, h.c3⟩

/-- Three gauges in memory, and what was there before the call is as it was. -/
theorem keep3 {w0 w w' : World} {B g1 g2 g3 : Nat} {a b c : Gz} (hb : Below w.heap.size w w') (h : ((World.cell? w ⟨g1, 0, none⟩ = some (.int .u64 (Gz.n a))) ∧ (World.cell? w ⟨g1, 1, none⟩ = some (.int .u64 (Gz.nans a))) ∧ (World.cell? w ⟨g1, 2, none⟩ = some (.int .u64 (Gz.lo a))) ∧ (World.cell? w ⟨g1, 3, none⟩ = some (.int .u64 (Gz.hi a)))) ∧ ((World.cell? w ⟨g2, 0, none⟩ = some (.int .u64 (Gz.n b))) ∧ (World.cell? w ⟨g2, 1, none⟩ = some (.int .u64 (Gz.nans b))) ∧ (World.cell? w ⟨g2, 2, none⟩ = some (.int .u64 (Gz.lo b))) ∧ (World.cell? w ⟨g2, 3, none⟩ = some (.int .u64 (Gz.hi b)))) ∧ ((World.cell? w ⟨g3, 0, none⟩ = some (.int .u64 (Gz.n c))) ∧ (World.cell? w ⟨g3, 1, none⟩ = some (.int .u64 (Gz.nans c))) ∧ (World.cell? w ⟨g3, 2, none⟩ = some (.int .u64 (Gz.lo c))) ∧ (World.cell? w ⟨g3, 3, none⟩ = some (.int .u64 (Gz.hi c)))) ∧ Hid (g1 < w.heap.size ∧ g2 < w.heap.size ∧ g3 < w.heap.size ∧ B ≤ w.heap.size ∧ Below B w0 w)) :
    ((World.cell? w' ⟨g1, 0, none⟩ = some (.int .u64 (Gz.n a))) ∧ (World.cell? w' ⟨g1, 1, none⟩ = some (.int .u64 (Gz.nans a))) ∧ (World.cell? w' ⟨g1, 2, none⟩ = some (.int .u64 (Gz.lo a))) ∧ (World.cell? w' ⟨g1, 3, none⟩ = some (.int .u64 (Gz.hi a)))) ∧ ((World.cell? w' ⟨g2, 0, none⟩ = some (.int .u64 (Gz.n b))) ∧ (World.cell? w' ⟨g2, 1, none⟩ = some (.int .u64 (Gz.nans b))) ∧ (World.cell? w' ⟨g2, 2, none⟩ = some (.int .u64 (Gz.lo b))) ∧ (World.cell? w' ⟨g2, 3, none⟩ = some (.int .u64 (Gz.hi b)))) ∧ ((World.cell? w' ⟨g3, 0, none⟩ = some (.int .u64 (Gz.n c))) ∧ (World.cell? w' ⟨g3, 1, none⟩ = some (.int .u64 (Gz.nans c))) ∧ (World.cell? w' ⟨g3, 2, none⟩ = some (.int .u64 (Gz.lo c))) ∧ (World.cell? w' ⟨g3, 3, none⟩ = some (.int .u64 (Gz.hi c)))) ∧ Hid (g1 < w'.heap.size ∧ g2 < w'.heap.size ∧ g3 < w'.heap.size ∧ B ≤ w'.heap.size ∧ Below B w0 w') := by
  obtain ⟨h1, h2, h3, l1, l2, l3, l4, hB⟩ := h
  have s := hb.size
  exact ⟨gc_below hb l1 h1, gc_below hb l2 h2, gc_below hb l3 h3, Nat.lt_of_lt_of_le l1 s, Nat.lt_of_lt_of_le l2 s, Nat.lt_of_lt_of_le l3 s, Nat.le_trans l4 s, hB.trans (hb.mono l4)⟩

end Go.Proofs.Ytnhjjdgdffjdcab
