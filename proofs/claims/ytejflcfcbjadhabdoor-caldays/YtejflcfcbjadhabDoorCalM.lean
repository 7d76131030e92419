/-
  A config in memory, and what the document's Res, Floor, Horizon, Coarsest, Windows tell: contracts, for every world.
  Conditions: as each theorem says.
-/
import Derived.Test.YtejflcfcbjadhabDoorCalK
import Derived.Test.YtejflcfcbjadhabDoorChK
import Derived.Test.YtejflcfcbjadhabDoorRows
import Derived.WalkKit
import Derived.Deep.Cut
import Derived.BigQuiet
import Derived.Deep.QuietTactic
namespace Go.Proofs.YtejflcfcbjadhabDoor
open Go.RowKit
set_option maxRecDepth 20000

/-- A config as a value. -/
abbrev cfV (c : Cf) : Value := .agg #[.int .i64 c.sl, .int .i64 c.k0, .int .i64 c.k1, .int .i64 c.k2, .int .i64 c.k3]
/-- The table of slots lies in its variable. -/
def TbW (w : World) : Prop := w.cell? ⟨0, 0, none⟩ = some (.int .i64 1) ∧ w.cell? ⟨0, 1, none⟩ = some (.int .i64 6) ∧ w.cell? ⟨0, 2, none⟩ = some (.int .i64 360) ∧ w.cell? ⟨0, 3, none⟩ = some (.int .i64 8640)
theorem cell_lt {w : World} {p : Addr} {v : Value} (h : w.cell? p = some v) : p.block < w.heap.size := by
  apply Classical.byContradiction
  intro h2
  have h3 : w.heap[p.block]? = none := Array.getElem?_eq_none (by omega)
  simp [World.cell?, h3] at h
theorem TbW.bel {w u : World} (q : TbW w) (b : Below w.heap.size w u) : TbW u := by
  obtain ⟨h0, h1, h2, h3⟩ := q
  have l := cell_lt h0
  exact ⟨(b.cell l).trans h0, (b.cell (p := ⟨0, 1, none⟩) l).trans h1, (b.cell (p := ⟨0, 2, none⟩) l).trans h2, (b.cell (p := ⟨0, 3, none⟩) l).trans h3⟩
theorem TbW.alloc {w : World} (q : TbW w) (o : Obj) : TbW (w.alloc o) := q.bel ((Below.refl _ _).alloc (Nat.le_refl _) _)
/-- A config in a box. -/
def BoxC (w : World) (g : Nat) (c : Cf) : Prop := w.heap[g]? = some (.cells #[.int .i64 c.sl, .int .i64 c.k0, .int .i64 c.k1, .int .i64 c.k2, .int .i64 c.k3] 28 (0, 0))
section
variable {w w' : World} {g : Nat} {c : Cf}
theorem BoxC.all (q : BoxC w g c) : w.cell? ⟨g, 0, none⟩ = some (.int .i64 c.sl) ∧ w.cell? ⟨g, 1, none⟩ = some (.int .i64 c.k0) ∧ w.cell? ⟨g, 2, none⟩ = some (.int .i64 c.k1) ∧ w.cell? ⟨g, 3, none⟩ = some (.int .i64 c.k2) ∧ w.cell? ⟨g, 4, none⟩ = some (.int .i64 c.k3) := by
  refine ⟨?_, ?_, ?_, ?_, ?_⟩
  · rw [cell_of_row w g 0 _ _ (0, 0) q]; rfl
  · rw [cell_of_row w g 1 _ _ (0, 0) q]; rfl
  · rw [cell_of_row w g 2 _ _ (0, 0) q]; rfl
  · rw [cell_of_row w g 3 _ _ (0, 0) q]; rfl
  · rw [cell_of_row w g 4 _ _ (0, 0) q]; rfl
theorem BoxC.lt (q : BoxC w g c) : g < w.heap.size := (Array.getElem?_eq_some_iff.1 q).1
theorem BoxC.below {B : Nat} (q : BoxC w g c) (b : Below B w w') (h : g < B) : BoxC w' g c := (b.block g h).trans q
theorem boxC_new (w : World) (c : Cf) : BoxC (w.alloc (.cells #[.int .i64 c.sl, .int .i64 c.k0, .int .i64 c.k1, .int .i64 c.k2, .int .i64 c.k3] 28)) w.heap.size c := heap_alloc_new w _
end

end Go.Proofs.YtejflcfcbjadhabDoor
