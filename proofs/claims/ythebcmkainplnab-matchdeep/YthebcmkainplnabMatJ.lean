/-
  The law MatchChecks, walked: the program's Check of a copy and the document's Check agree; the document's examples hold.
  Conditions: none.
-/
import Derived.Test.YthebcmkainplnabMatI
import Derived.Test.YthebcmkainplnabMatLz
import Derived.Test.YthebcmkainplnabMatC
namespace Go.Proofs.Ythebcmkainplnab
open Go.RowKit
set_option maxRecDepth 20000

theorem keep5c {w v v' : World} {B : Nat} {p1 p2 p3 p4 p5 : Addr} {x1 x2 x3 x4 x5 : Value} (hb : Below v.heap.size v v')
    (h : v.cell? p1 = some x1 ∧ v.cell? p2 = some x2 ∧ v.cell? p3 = some x3 ∧ v.cell? p4 = some x4 ∧ v.cell? p5 = some x5 ∧ Hid (B ≤ v.heap.size ∧ Below B w v)) : v'.cell? p1 = some x1 ∧ v'.cell? p2 = some x2 ∧ v'.cell? p3 = some x3 ∧ v'.cell? p4 = some x4 ∧ v'.cell? p5 = some x5 ∧ Hid (B ≤ v'.heap.size ∧ Below B w v') := by
  obtain ⟨c1, c2, c3, c4, c5, l1, l2⟩ := h
  refine ⟨?_, ?_, ?_, ?_, ?_, Nat.le_trans l1 hb.size, l2.trans (hb.mono l1)⟩
  · rw [hb.cell (World.block_lt_of_cell? v _ c1)]; exact c1
  · rw [hb.cell (World.block_lt_of_cell? v _ c2)]; exact c2
  · rw [hb.cell (World.block_lt_of_cell? v _ c3)]; exact c3
  · rw [hb.cell (World.block_lt_of_cell? v _ c4)]; exact c4
  · rw [hb.cell (World.block_lt_of_cell? v _ c5)]; exact c5

end Go.Proofs.Ythebcmkainplnab
