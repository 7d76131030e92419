/-
  Sketches that may be, put together: plain laws of turning, grouping and of none; and the document's own two put together: a contract, for every world.
  Conditions: the sketches may be ones ('chkP'), and lie in memory.
-/
import Derived.Test.YtadcaonkmncgoabPairM
import Derived.Test.YtadcaonkmncgoabGoodK
import Derived.Deep.RegionHeld3
namespace Go.Proofs.Ytadcaonkmncgoab
open Go.RowKit
set_option maxRecDepth 20000

/-- A sketch that may be. -/
structure Ok (s : Sp) : Prop where
  h : Good s.hist
  k : chkK s.keys = true
  w : ∀ x ∈ s.keys, W64 x
  g : GW s.g
  c : chkG s.g = true
theorem ok_of {w : World} {h : Hd} {s : Sp} (q : SeeP w h s) (c : chkP s = true) : Ok s := by
  unfold chkP at c
  simp only [Bool.and_eq_true] at c
  exact ⟨good_from c.1 q.rh.2.2.1, c.2.1, q.rk.words, q.g, c.2.2⟩
theorem Ok.chk {s : Sp} (h : Ok s) : chkP s = true := by
  unfold chkP
  have h1 : checkS s.hist = true := h.h.check
  rw [h1, h.k, h.c]; rfl
theorem mem_take_uni {a b : List Int} {n : Nat} {x : Int} (h : x ∈ (uni a b).take n) : x ∈ a ∨ x ∈ b := mem_uni.1 (List.mem_of_mem_take h)

theorem keep2s {w0 v v' : World} {k k' B : Nat} {h h' : Hd} {g g' : Gz} (hb : Below v.heap.size v v') (q : ((World.cell? v ⟨k, 0, none⟩ = some (.slice (Hd.a h) (Hd.n h) (Hd.c h))) ∧ (World.cell? v ⟨k, 1, none⟩ = some (.slice (Hd.k h) (Hd.m h) (Hd.d h))) ∧ (World.cell? v ⟨k, 2, none⟩ = some (.int .u64 (Gz.n g))) ∧ (World.cell? v ⟨k, 3, none⟩ = some (.int .u64 (Gz.nans g))) ∧ (World.cell? v ⟨k, 4, none⟩ = some (.int .u64 (Gz.lo g))) ∧ (World.cell? v ⟨k, 5, none⟩ = some (.int .u64 (Gz.hi g)))) ∧ ((World.cell? v ⟨k', 0, none⟩ = some (.slice (Hd.a h') (Hd.n h') (Hd.c h'))) ∧ (World.cell? v ⟨k', 1, none⟩ = some (.slice (Hd.k h') (Hd.m h') (Hd.d h'))) ∧ (World.cell? v ⟨k', 2, none⟩ = some (.int .u64 (Gz.n g'))) ∧ (World.cell? v ⟨k', 3, none⟩ = some (.int .u64 (Gz.nans g'))) ∧ (World.cell? v ⟨k', 4, none⟩ = some (.int .u64 (Gz.lo g'))) ∧ (World.cell? v ⟨k', 5, none⟩ = some (.int .u64 (Gz.hi g')))) ∧ Hid (k < v.heap.size ∧ k' < v.heap.size ∧ B ≤ v.heap.size ∧ Below B w0 v)) :
    ((World.cell? v' ⟨k, 0, none⟩ = some (.slice (Hd.a h) (Hd.n h) (Hd.c h))) ∧ (World.cell? v' ⟨k, 1, none⟩ = some (.slice (Hd.k h) (Hd.m h) (Hd.d h))) ∧ (World.cell? v' ⟨k, 2, none⟩ = some (.int .u64 (Gz.n g))) ∧ (World.cell? v' ⟨k, 3, none⟩ = some (.int .u64 (Gz.nans g))) ∧ (World.cell? v' ⟨k, 4, none⟩ = some (.int .u64 (Gz.lo g))) ∧ (World.cell? v' ⟨k, 5, none⟩ = some (.int .u64 (Gz.hi g)))) ∧ ((World.cell? v' ⟨k', 0, none⟩ = some (.slice (Hd.a h') (Hd.n h') (Hd.c h'))) ∧ (World.cell? v' ⟨k', 1, none⟩ = some (.slice (Hd.k h') (Hd.m h') (Hd.d h'))) ∧ (World.cell? v' ⟨k', 2, none⟩ = some (.int .u64 (Gz.n g'))) ∧ (World.cell? v' ⟨k', 3, none⟩ = some (.int .u64 (Gz.nans g'))) ∧ (World.cell? v' ⟨k', 4, none⟩ = some (.int .u64 (Gz.lo g'))) ∧ (World.cell? v' ⟨k', 5, none⟩ = some (.int .u64 (Gz.hi g')))) ∧ Hid (k < v'.heap.size ∧ k' < v'.heap.size ∧ B ≤ v'.heap.size ∧ Below B w0 v') := by
  obtain ⟨⟨c0, c1, c2, c3, c4, c5⟩, ⟨d0, d1, d2, d3, d4, d5⟩, l1, l2, l3, l4⟩ := q
  have s := hb.size
  exact ⟨⟨(hb.cell l1).trans c0, (hb.cell l1).trans c1, (hb.cell l1).trans c2, (hb.cell l1).trans c3, (hb.cell l1).trans c4, (hb.cell l1).trans c5⟩, ⟨(hb.cell l2).trans d0, (hb.cell l2).trans d1, (hb.cell l2).trans d2, (hb.cell l2).trans d3, (hb.cell l2).trans d4, (hb.cell l2).trans d5⟩, Nat.lt_of_lt_of_le l1 s, Nat.lt_of_lt_of_le l2 s, Nat.le_trans l3 s, l4.trans (hb.mono l3)⟩
theorem keep2p {w0 v : World} {k k' b B : Nat} {h h' : Hd} {g g' : Gz} (hne : Hid (k ≠ b ∧ k' ≠ b ∧ B ≤ b)) (hh : Hd) (gg : Gz) (q : ((World.cell? v ⟨k, 0, none⟩ = some (.slice (Hd.a h) (Hd.n h) (Hd.c h))) ∧ (World.cell? v ⟨k, 1, none⟩ = some (.slice (Hd.k h) (Hd.m h) (Hd.d h))) ∧ (World.cell? v ⟨k, 2, none⟩ = some (.int .u64 (Gz.n g))) ∧ (World.cell? v ⟨k, 3, none⟩ = some (.int .u64 (Gz.nans g))) ∧ (World.cell? v ⟨k, 4, none⟩ = some (.int .u64 (Gz.lo g))) ∧ (World.cell? v ⟨k, 5, none⟩ = some (.int .u64 (Gz.hi g)))) ∧ ((World.cell? v ⟨k', 0, none⟩ = some (.slice (Hd.a h') (Hd.n h') (Hd.c h'))) ∧ (World.cell? v ⟨k', 1, none⟩ = some (.slice (Hd.k h') (Hd.m h') (Hd.d h'))) ∧ (World.cell? v ⟨k', 2, none⟩ = some (.int .u64 (Gz.n g'))) ∧ (World.cell? v ⟨k', 3, none⟩ = some (.int .u64 (Gz.nans g'))) ∧ (World.cell? v ⟨k', 4, none⟩ = some (.int .u64 (Gz.lo g'))) ∧ (World.cell? v ⟨k', 5, none⟩ = some (.int .u64 (Gz.hi g')))) ∧ Hid (k < v.heap.size ∧ k' < v.heap.size ∧ B ≤ v.heap.size ∧ Below B w0 v)) :
    ((World.cell? ((put6 v b hh gg)) ⟨k, 0, none⟩ = some (.slice (Hd.a h) (Hd.n h) (Hd.c h))) ∧ (World.cell? ((put6 v b hh gg)) ⟨k, 1, none⟩ = some (.slice (Hd.k h) (Hd.m h) (Hd.d h))) ∧ (World.cell? ((put6 v b hh gg)) ⟨k, 2, none⟩ = some (.int .u64 (Gz.n g))) ∧ (World.cell? ((put6 v b hh gg)) ⟨k, 3, none⟩ = some (.int .u64 (Gz.nans g))) ∧ (World.cell? ((put6 v b hh gg)) ⟨k, 4, none⟩ = some (.int .u64 (Gz.lo g))) ∧ (World.cell? ((put6 v b hh gg)) ⟨k, 5, none⟩ = some (.int .u64 (Gz.hi g)))) ∧ ((World.cell? ((put6 v b hh gg)) ⟨k', 0, none⟩ = some (.slice (Hd.a h') (Hd.n h') (Hd.c h'))) ∧ (World.cell? ((put6 v b hh gg)) ⟨k', 1, none⟩ = some (.slice (Hd.k h') (Hd.m h') (Hd.d h'))) ∧ (World.cell? ((put6 v b hh gg)) ⟨k', 2, none⟩ = some (.int .u64 (Gz.n g'))) ∧ (World.cell? ((put6 v b hh gg)) ⟨k', 3, none⟩ = some (.int .u64 (Gz.nans g'))) ∧ (World.cell? ((put6 v b hh gg)) ⟨k', 4, none⟩ = some (.int .u64 (Gz.lo g'))) ∧ (World.cell? ((put6 v b hh gg)) ⟨k', 5, none⟩ = some (.int .u64 (Gz.hi g')))) ∧ Hid (k < (put6 v b hh gg).heap.size ∧ k' < (put6 v b hh gg).heap.size ∧ B ≤ (put6 v b hh gg).heap.size ∧ Below B w0 (put6 v b hh gg)) := by
  obtain ⟨⟨c0, c1, c2, c3, c4, c5⟩, ⟨d0, d1, d2, d3, d4, d5⟩, l1, l2, l3, l4⟩ := q
  obtain ⟨n1, n2, n3⟩ := hne.out
  have hz : (put6 v b hh gg).heap.size = v.heap.size := by simp [put6, World.setCell]
  have e : ∀ x, x ≠ b → ∀ i, (put6 v b hh gg).cell? ⟨x, i, none⟩ = v.cell? ⟨x, i, none⟩ := by
    intro x hx i
    refine World.cell?_of_block (w := v) ?_
    unfold put6
    rw [Below.heap_setCell _ _ _ x hx, Below.heap_setCell _ _ _ x hx, Below.heap_setCell _ _ _ x hx, Below.heap_setCell _ _ _ x hx, Below.heap_setCell _ _ _ x hx, Below.heap_setCell _ _ _ x hx]
  exact ⟨⟨(e k n1 0).trans c0, (e k n1 1).trans c1, (e k n1 2).trans c2, (e k n1 3).trans c3, (e k n1 4).trans c4, (e k n1 5).trans c5⟩, ⟨(e k' n2 0).trans d0, (e k' n2 1).trans d1, (e k' n2 2).trans d2, (e k' n2 3).trans d3, (e k' n2 4).trans d4, (e k' n2 5).trans d5⟩, by rw [hz]; exact l1, by rw [hz]; exact l2, by rw [hz]; exact l3, below_put l4 n3 _ _⟩

end Go.Proofs.Ytadcaonkmncgoab
