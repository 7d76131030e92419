/-
  The law of floats added one by one, over what the laws ask of the program's own Check and Add.
  Conditions: as GaC and GaA say.
-/
import Derived.Test.YtnhjjdgdffjdcabGaugeO
import Derived.Test.YtnhjjdgdffjdcabVintA
namespace Go.Proofs.Ytnhjjdgdffjdcab
open Go.RowKit

/-- Two gauges in memory of the call's own; what was there before the call is as it was. -/
structure TwoG (w0 w : World) (B g1 g2 : Nat) (a b : Gz) : Prop where
  box1 : GBox w g1 a.n a.nans a.lo a.hi
  box2 : GBox w g2 b.n b.nans b.lo b.hi
  ne : g1 ≠ g2
  le1 : B ≤ g1
  le2 : B ≤ g2
  low : Below B w0 w
  size : B ≤ w.heap.size
section
variable {w0 w w' : World} {B g1 g2 : Nat} {a b : Gz}
theorem TwoG.below (h : TwoG w0 w B g1 g2 a b) (hb : Below w.heap.size w w') : TwoG w0 w' B g1 g2 a b :=
  ⟨h.box1.below hb h.box1.lt, h.box2.below hb h.box2.lt, h.ne, h.le1, h.le2, h.low.trans (hb.mono h.size), Nat.le_trans h.size hb.size⟩
theorem TwoG.drew (h : TwoG w0 w B g1 g2 a b) : TwoG w0 w.drew B g1 g2 a b := h.below (Below.refl _ _).drew
theorem TwoG.set1 (h : TwoG w0 w B g1 g2 a b) (c : Gz) :
    TwoG w0 ((((w.setCell ⟨g1, 0, none⟩ (.int .u64 c.n)).setCell ⟨g1, 1, none⟩ (.int .u64 c.nans)).setCell ⟨g1, 2, none⟩ (.int .u64 c.lo)).setCell ⟨g1, 3, none⟩ (.int .u64 c.hi)) B g1 g2 c b :=
  ⟨h.box1.set c.n c.nans c.lo c.hi, (((h.box2.far h.ne _).far h.ne _).far h.ne _).far h.ne _, h.ne, h.le1, h.le2, bel_set4 h.low h.le1 _ _ _ _, by simpa [go_sem] using h.size⟩
theorem TwoG.set2 (h : TwoG w0 w B g1 g2 a b) (c : Gz) :
    TwoG w0 ((((w.setCell ⟨g2, 0, none⟩ (.int .u64 c.n)).setCell ⟨g2, 1, none⟩ (.int .u64 c.nans)).setCell ⟨g2, 2, none⟩ (.int .u64 c.lo)).setCell ⟨g2, 3, none⟩ (.int .u64 c.hi)) B g1 g2 a c :=
  ⟨(((h.box1.far h.ne.symm _).far h.ne.symm _).far h.ne.symm _).far h.ne.symm _, h.box2.set c.n c.nans c.lo c.hi, h.ne, h.le1, h.le2, bel_set4 h.low h.le2 _ _ _ _, by simpa [go_sem] using h.size⟩
theorem two_of {g : Gz} (t : TypeId) (h1 : GBox w g1 g.n g.nans g.lo g.hi) (hl : Below B w0 w) (l1 : B ≤ g1) (l : B ≤ w.heap.size) (b : Gz) :
    TwoG w0 (w.alloc (.cells #[.int .u64 b.n, .int .u64 b.nans, .int .u64 b.lo, .int .u64 b.hi] t)) B g1 w.heap.size g b :=
  ⟨h1.alloc _, GBox.new w t b.n b.nans b.lo b.hi, by have := h1.lt; omega, l1, l, hl.alloc l _, by rw [size_al]; omega⟩
theorem keepB (hb : Below w.heap.size w w') (h : ((World.cell? w ⟨g1, 0, none⟩ = some (.int .u64 (Gz.n a))) ∧ (World.cell? w ⟨g1, 1, none⟩ = some (.int .u64 (Gz.nans a))) ∧ (World.cell? w ⟨g1, 2, none⟩ = some (.int .u64 (Gz.lo a))) ∧ (World.cell? w ⟨g1, 3, none⟩ = some (.int .u64 (Gz.hi a)))) ∧ Hid (GBox w g1 a.n a.nans a.lo a.hi ∧ B ≤ w.heap.size ∧ Below B w0 w)) :
    ((World.cell? w' ⟨g1, 0, none⟩ = some (.int .u64 (Gz.n a))) ∧ (World.cell? w' ⟨g1, 1, none⟩ = some (.int .u64 (Gz.nans a))) ∧ (World.cell? w' ⟨g1, 2, none⟩ = some (.int .u64 (Gz.lo a))) ∧ (World.cell? w' ⟨g1, 3, none⟩ = some (.int .u64 (Gz.hi a)))) ∧ Hid (GBox w' g1 a.n a.nans a.lo a.hi ∧ B ≤ w'.heap.size ∧ Below B w0 w') := by
  obtain ⟨h1, l1, l4, hB⟩ := h
  exact ⟨gc_below hb l1.lt h1, l1.below hb l1.lt, Nat.le_trans l4 hb.size, hB.trans (hb.mono l4)⟩
end
theorem take_more {l : List Int} {k : Nat} (h : k < l.length) : l.take (k + 1) = l.take k ++ [l.getD k 0] := by
  rw [List.take_succ_eq_append_getElem h, List.getD_eq_getElem?_getD, List.getElem?_eq_getElem h]
  rfl

end Go.Proofs.Ytnhjjdgdffjdcab
