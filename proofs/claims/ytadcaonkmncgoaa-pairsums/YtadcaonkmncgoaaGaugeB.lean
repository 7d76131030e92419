/-
  A gauge in memory of the call's own: its four cells, what leaves them be, what writes them; a gauge as a value.
  Conditions: the block is there.
-/
import Derived.Test.YtadcaonkmncgoaaGaugeK
import Derived.Lib.SmallJoins
import Derived.WalkKit
import Derived.WalkSpells
import Derived.RowKit3
import Derived.Below
namespace Go.Proofs.Ytadcaonkmncgoaa
open Go.RowKit
set_option maxRecDepth 20000


structure GBox (w : World) (g : Nat) (n m lo hi : Int) : Prop where
  lt : g < w.heap.size
  c0 : w.cell? ⟨g, 0, none⟩ = some (.int .u64 n)
  c1 : w.cell? ⟨g, 1, none⟩ = some (.int .u64 m)
  c2 : w.cell? ⟨g, 2, none⟩ = some (.int .u64 lo)
  c3 : w.cell? ⟨g, 3, none⟩ = some (.int .u64 hi)
  f0 : w.frozen? ⟨g, 0, none⟩ = false
  f1 : w.frozen? ⟨g, 1, none⟩ = false
  f2 : w.frozen? ⟨g, 2, none⟩ = false
  f3 : w.frozen? ⟨g, 3, none⟩ = false
theorem GBox.new (w : World) (t : TypeId) (n m lo hi : Int) : GBox (w.alloc (.cells #[.int .u64 n, .int .u64 m, .int .u64 lo, .int .u64 hi] t)) w.heap.size n m lo hi :=
  ⟨by simp [go_sem], by simp [go_sem], by simp [go_sem], by simp [go_sem], by simp [go_sem], by simp [go_sem], by simp [go_sem], by simp [go_sem], by simp [go_sem]⟩
theorem size_al (w : World) (o : Obj) : (w.alloc o).heap.size = w.heap.size + 1 := by simp [go_sem]
theorem GBox.new2 (w : World) (o : Obj) (t : TypeId) (n m lo hi : Int) : GBox ((w.alloc o).alloc (.cells #[.int .u64 n, .int .u64 m, .int .u64 lo, .int .u64 hi] t)) (w.heap.size + 1) n m lo hi := by
  have h := GBox.new (w.alloc o) t n m lo hi
  rwa [size_al] at h
section
variable {w w' : World} {g B : Nat} {n m lo hi : Int}
theorem GBox.below (h : GBox w g n m lo hi) (hb : Below B w w') (hg : g < B) : GBox w' g n m lo hi :=
  ⟨Nat.lt_of_lt_of_le h.lt hb.size, (hb.cell hg).trans h.c0, (hb.cell hg).trans h.c1, (hb.cell hg).trans h.c2, (hb.cell hg).trans h.c3, (hb.frozen hg).trans h.f0, (hb.frozen hg).trans h.f1, (hb.frozen hg).trans h.f2, (hb.frozen hg).trans h.f3⟩
theorem GBox.alloc (h : GBox w g n m lo hi) (o : Obj) : GBox (w.alloc o) g n m lo hi := h.below ((Below.refl w.heap.size w).alloc (Nat.le_refl _) o) h.lt
theorem GBox.drew (h : GBox w g n m lo hi) : GBox w.drew g n m lo hi := ⟨h.lt, h.c0, h.c1, h.c2, h.c3, h.f0, h.f1, h.f2, h.f3⟩
theorem GBox.drewN (h : GBox w g n m lo hi) (k : Nat) : GBox (w.drewN k) g n m lo hi := ⟨h.lt, h.c0, h.c1, h.c2, h.c3, h.f0, h.f1, h.f2, h.f3⟩
theorem GBox.far (h : GBox w g n m lo hi) {p : Addr} (hp : p.block ≠ g) (v : Value) : GBox (w.setCell p v) g n m lo hi := by
  have c : ∀ i, (w.setCell p v).cell? ⟨g, i, none⟩ = w.cell? ⟨g, i, none⟩ := fun i => World.cell?_of_block (w := w) (Below.heap_setCell w p v g (Ne.symm hp))
  have f : ∀ i, (w.setCell p v).frozen? ⟨g, i, none⟩ = w.frozen? ⟨g, i, none⟩ := fun i => World.frozen?_of_block (w := w) (Below.heap_setCell w p v g (Ne.symm hp))
  exact ⟨by simpa using h.lt, (c 0).trans h.c0, (c 1).trans h.c1, (c 2).trans h.c2, (c 3).trans h.c3, (f 0).trans h.f0, (f 1).trans h.f1, (f 2).trans h.f2, (f 3).trans h.f3⟩
theorem GBox.set (h : GBox w g n m lo hi) (n' m' lo' hi' : Int) :
    GBox ((((w.setCell ⟨g, 0, none⟩ (.int .u64 n')).setCell ⟨g, 1, none⟩ (.int .u64 m')).setCell ⟨g, 2, none⟩ (.int .u64 lo')).setCell ⟨g, 3, none⟩ (.int .u64 hi')) g n' m' lo' hi' := by
  obtain ⟨l, c0, c1, c2, c3, f0, f1, f2, f3⟩ := h
  exact ⟨by simp [go_sem, l], by simp [go_sem, c0], by simp [go_sem, c1], by simp [go_sem, c2], by simp [go_sem, c3], by simp [go_sem, f0], by simp [go_sem, f1], by simp [go_sem, f2], by simp [go_sem, f3]⟩
theorem bel_set4 {w0 : World} (h : Below B w0 w) (hg : B ≤ g) (v0 v1 v2 v3 : Value) : Below B w0 ((((w.setCell ⟨g, 0, none⟩ v0).setCell ⟨g, 1, none⟩ v1).setCell ⟨g, 2, none⟩ v2).setCell ⟨g, 3, none⟩ v3) :=
  (((h.setCell (p := ⟨g, 0, none⟩) hg v0).setCell (p := ⟨g, 1, none⟩) hg v1).setCell (p := ⟨g, 2, none⟩) hg v2).setCell (p := ⟨g, 3, none⟩) hg v3
end
theorem bel2 (w : World) (o1 o2 : Obj) : Below w.heap.size w ((w.alloc o1).alloc o2) := ((Below.refl _ w).alloc (Nat.le_refl _) o1).alloc (by simp [go_sem]) o2
end Go.Proofs.Ytadcaonkmncgoaa
