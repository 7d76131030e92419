/-
  The law that what was added lies within, over what the laws ask of the program's own Add.
  Conditions: as GaA says.
-/
import Derived.Test.YtnhjjdgdffjdcaaGaugeW
import Derived.Test.YtnhjjdgdffjdcaaGaugeA
import Derived.Deep.QuietTactic
import Derived.BigQuiet
namespace Go.Proofs.Ytnhjjdgdffjdcaa
open Go.RowKit

/-- One gauge in memory of the call's own; what was there before the call is as it was. -/
structure OneG (w0 w : World) (B g1 : Nat) (a : Gz) : Prop where
  box1 : GBox w g1 a.n a.nans a.lo a.hi
  le1 : B ≤ g1
  low : Below B w0 w
  size : B ≤ w.heap.size
section
variable {w0 w w' : World} {B g1 : Nat} {a : Gz}
theorem OneG.below (h : OneG w0 w B g1 a) (hb : Below w.heap.size w w') : OneG w0 w' B g1 a :=
  ⟨h.box1.below hb h.box1.lt, h.le1, h.low.trans (hb.mono h.size), Nat.le_trans h.size hb.size⟩
theorem OneG.drew (h : OneG w0 w B g1 a) : OneG w0 w.drew B g1 a := h.below (Below.refl _ _).drew
theorem OneG.drewN (h : OneG w0 w B g1 a) (k : Nat) : OneG w0 (w.drewN k) B g1 a :=
  ⟨h.box1.drewN k, h.le1, ⟨h.low.os, h.low.tape, h.low.output, h.low.size, h.low.block⟩, h.size⟩
theorem OneG.set1 (h : OneG w0 w B g1 a) (c : Gz) :
    OneG w0 ((((w.setCell ⟨g1, 0, none⟩ (.int .u64 c.n)).setCell ⟨g1, 1, none⟩ (.int .u64 c.nans)).setCell ⟨g1, 2, none⟩ (.int .u64 c.lo)).setCell ⟨g1, 3, none⟩ (.int .u64 c.hi)) B g1 c :=
  ⟨h.box1.set c.n c.nans c.lo c.hi, h.le1, bel_set4 h.low h.le1 _ _ _ _, by simpa [go_sem] using h.size⟩
theorem one_of (w : World) (t : TypeId) (b : Gz) : OneG w (w.alloc (.cells #[.int .u64 b.n, .int .u64 b.nans, .int .u64 b.lo, .int .u64 b.hi] t)) w.heap.size w.heap.size b :=
  ⟨GBox.new w t b.n b.nans b.lo b.hi, Nat.le_refl _, (Below.refl _ _).alloc (Nat.le_refl _) _, by rw [size_al]; omega⟩
end

end Go.Proofs.Ytnhjjdgdffjdcaa
