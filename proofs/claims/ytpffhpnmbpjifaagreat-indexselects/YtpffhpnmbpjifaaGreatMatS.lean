/-
  The document's Same: whether two matchers are the same, part by part: a contract, for every world.
  Conditions: they lie in memory.
-/
import Derived.Test.YtpffhpnmbpjifaaGreatMatX
import Derived.Deep.QuietTactic
import Derived.Deep.RegionHeld3
namespace Go.Proofs.YtpffhpnmbpjifaaGreat
open Go.RowKit
set_option maxRecDepth 20000

open Classical in
/-- The same? -/
noncomputable def sameB (m n : Mt) : Bool := decide (m = n)
theorem sameB_self (m : Mt) : sameB m m = true := by simp [sameB]
theorem sameB_no {m n : Mt} (h : m ≠ n) : sameB m n = false := by simp [sameB, h]
theorem sameB_iff {m n : Mt} : sameB m n = true ↔ m = n := by simp [sameB]
theorem ends_take {α : Type} {l r : List α} (hl : l.length = r.length) (h : ∀ j, j < l.length → l[j]? = r[j]?) : l = r := by
  refine List.ext_getElem? fun i => ?_
  by_cases hi : i < l.length
  · exact h i hi
  · rw [List.getElem?_eq_none (by omega), List.getElem?_eq_none (by omega)]
theorem BoxM.drewN {w : World} {g : Nat} {h : Hm} (q : BoxM w g h) (j : Nat) : BoxM (w.drewN j) g h := q
theorem BoxM.drew {w : World} {g : Nat} {h : Hm} (q : BoxM w g h) : BoxM w.drew g h := q
theorem TxR.below {S : Nat → Prop} {w w' : World} {a : Option Addr} {n : Nat} {ss : List ByteArray} (q : TxR S w a n ss) (hb : Below w.heap.size w w') : TxR S w' a n ss := q.ch (Ch.of_below hb) (fun _ _ => id)

theorem keepS {w v v' : World} {B g1 g2 b1 o1 b2 o2 : Nat} {x1 x2 p0 p1 p2 p3 p4 q0 q1 q2 q3 q4 : Value} (hb : Below v.heap.size v v')
    (h : (v.cell? ⟨g1, 4, none⟩ = some x1 ∧ v.cell? ⟨g2, 4, none⟩ = some x2) ∧ (v.cell? ⟨b1, o1, none⟩ = some p0 ∧ v.cell? ⟨b1, o1 + 1, none⟩ = some p1 ∧ v.cell? ⟨b1, o1 + 2, none⟩ = some p2 ∧ v.cell? ⟨b1, o1 + 3, none⟩ = some p3 ∧ v.cell? ⟨b1, o1 + 4, none⟩ = some p4) ∧ (v.cell? ⟨b2, o2, none⟩ = some q0 ∧ v.cell? ⟨b2, o2 + 1, none⟩ = some q1 ∧ v.cell? ⟨b2, o2 + 2, none⟩ = some q2 ∧ v.cell? ⟨b2, o2 + 3, none⟩ = some q3 ∧ v.cell? ⟨b2, o2 + 4, none⟩ = some q4) ∧ Hid (B ≤ v.heap.size ∧ Below B w v)) :
    (v'.cell? ⟨g1, 4, none⟩ = some x1 ∧ v'.cell? ⟨g2, 4, none⟩ = some x2) ∧ (v'.cell? ⟨b1, o1, none⟩ = some p0 ∧ v'.cell? ⟨b1, o1 + 1, none⟩ = some p1 ∧ v'.cell? ⟨b1, o1 + 2, none⟩ = some p2 ∧ v'.cell? ⟨b1, o1 + 3, none⟩ = some p3 ∧ v'.cell? ⟨b1, o1 + 4, none⟩ = some p4) ∧ (v'.cell? ⟨b2, o2, none⟩ = some q0 ∧ v'.cell? ⟨b2, o2 + 1, none⟩ = some q1 ∧ v'.cell? ⟨b2, o2 + 2, none⟩ = some q2 ∧ v'.cell? ⟨b2, o2 + 3, none⟩ = some q3 ∧ v'.cell? ⟨b2, o2 + 4, none⟩ = some q4) ∧ Hid (B ≤ v'.heap.size ∧ Below B w v') := by
  have k : ∀ {b o : Nat} {x : Value}, v.cell? ⟨b, o, none⟩ = some x → v'.cell? ⟨b, o, none⟩ = some x := fun {b o x} e => by
    rw [hb.cell (p := ⟨b, o, none⟩) (World.block_lt_of_cell? v _ e)]; exact e
  obtain ⟨⟨a1, a2⟩, ⟨c0, c1, c2, c3, c4⟩, ⟨d0, d1, d2, d3, d4⟩, l1, l2⟩ := h
  exact ⟨⟨k a1, k a2⟩, ⟨k c0, k c1, k c2, k c3, k c4⟩, ⟨k d0, k d1, k d2, k d3, k d4⟩, Nat.le_trans l1 hb.size, l2.trans (hb.mono l1)⟩

end Go.Proofs.YtpffhpnmbpjifaaGreat
