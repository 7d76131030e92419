/-
  A block of cells of which no more is known than how many there are: it may be written anywhere. No function is named. (PairB has these words too: not both in one environment.)
  Conditions: as each theorem says.
-/
import Derived.Test.YtpffhpnmbpjifaaChK
namespace Go.Proofs.Ytpffhpnmbpjifaa
open Go.RowKit
set_option maxRecDepth 20000

/-- At least m cells that may be written. -/
def Blk (W : World) (x m : Nat) : Prop := ∃ cur t, W.heap[x]? = some (.cells cur t (0, 0)) ∧ m ≤ cur.size
section
variable {W W' : World} {x m : Nat}
theorem Blk.lt (b : Blk W x m) : x < W.heap.size := by
  obtain ⟨cur, t, h, _⟩ := b
  exact (Array.getElem?_eq_some_iff.1 h).1
theorem Blk.cell (b : Blk W x m) {i : Nat} (hi : i < m) : ∃ v, W.cell? ⟨x, i, none⟩ = some v := by
  obtain ⟨cur, t, h, hm⟩ := b
  rw [cell_of_row W x i _ _ _ h]
  exact ⟨_, Array.getElem?_eq_getElem (by omega)⟩
theorem Blk.fz (b : Blk W x m) (i : Nat) : W.frozen? ⟨x, i, none⟩ = false := by
  obtain ⟨cur, t, h, _⟩ := b
  exact frozen_of_row W x i _ _ h
theorem Blk.set (b : Blk W x m) (y i : Nat) (v : Value) : Blk (W.setCell ⟨y, i, none⟩ v) x m := by
  obtain ⟨cur, t, h, hm⟩ := b
  by_cases e : x = y
  · subst e
    exact ⟨_, t, heap_setCell_same W x i _ _ v h, by rw [Array.size_setIfInBounds]; exact hm⟩
  · exact ⟨cur, t, by rw [Below.heap_setCell W _ v x e]; exact h, hm⟩
theorem Blk.below (b : Blk W x m) {B : Nat} (h : Below B W W') (hB : W.heap.size ≤ B) : Blk W' x m := by
  have hl := b.lt
  obtain ⟨cur, t, h1, hm⟩ := b
  exact ⟨cur, t, (h.block x (by omega)).trans h1, hm⟩
theorem Blk.of {base size n cap : Nat} {e : TypeId} {a : Option Addr} {xs : List Value} (h : W.ownsRow base e size (.slice a n cap) n xs) : n = 0 ∨ ∃ x off, a = some ⟨x, off, none⟩ ∧ base ≤ x ∧ Blk W x (off + n * size) := by
  rcases h.2 with ⟨_, h1⟩ | ⟨g, c, cur, h1, h2, h3, h4, _, h6, _⟩
  · exact Or.inl h1
  · simp only [Value.slice.injEq, true_and] at h1
    obtain ⟨rfl, rfl⟩ := h1
    exact Or.inr ⟨g, 0, rfl, h2, cur, e, h3, by rw [h6, Nat.zero_add]; exact Nat.mul_le_mul_right _ h4⟩
end
theorem Blk.ch {W W' : World} {x m : Nat} {T : Nat → Prop} (b : Blk W x m) (h : Ch T W W') (hn : ¬ T x) : Blk W' x m := by
  have hl := b.lt
  obtain ⟨cur, t, h1, hm⟩ := b
  exact ⟨cur, t, (h.block x hl hn).trans h1, hm⟩
end Go.Proofs.Ytpffhpnmbpjifaa
