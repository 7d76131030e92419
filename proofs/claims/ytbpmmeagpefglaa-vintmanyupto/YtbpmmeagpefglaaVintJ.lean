/-
  What the walks are told of a slice of texts: a row of texts, each of at most 1048576 bytes.
  Conditions: the input is of bulk at most 1048576.
-/
import Derived.Test.YtbpmmeagpefglaaVintM
import Derived.Test.YtbpmmeagpefglaaVintA
namespace Go.Proofs.Ytbpmmeagpefglaa
open Go.RowKit Go.ChangeShapes

/-- A slice of n texts that shows ss. -/
def RowT (w : World) (a : Option Addr) (n : Nat) (ss : List ByteArray) : Prop :=
  ss.length = n ∧ (∀ s ∈ ss, s.size ≤ 1048576) ∧ (n = 0 ∨ ∃ b off, a = some ⟨b, off, none⟩ ∧ ∀ i, i < n → w.cell? ⟨b, off + i, none⟩ = some (.string (ss.getD i ByteArray.empty)))

theorem texts_of {w : World} {a : Option Addr} {len cap : Nat} {ss : List ByteArray} (h : IsTexts w a len cap ss) : len ≤ cap ∧ cap ≤ 1048576 ∧ RowT w a len (ss.take len) := by
  obtain ⟨hc, hs, ⟨rfl, rfl, rfl, rfl⟩ | ⟨x, rfl, hl, hz, hcell⟩⟩ := h
  · exact ⟨by omega, by omega, rfl, by simp, Or.inl rfl⟩
  · refine ⟨hl, hc, by rw [List.length_take]; omega, fun s h => hs s (List.mem_of_mem_take h), ?_⟩
    by_cases h0 : len = 0
    · exact Or.inl h0
    · right
      obtain ⟨b, off, spot⟩ := x
      have hs : spot = none := by simpa [Addr.add] using World.cell?_spot (hcell 0 (by omega))
      subst hs
      refine ⟨b, off, rfl, fun i hi => ?_⟩
      have := hcell i (by omega)
      rw [Addr.add_lit] at this
      rw [this]
      simp [hi]
theorem RowT.below {B : Nat} {w w' : World} {a : Option Addr} {n : Nat} {ss : List ByteArray} (h : RowT w a n ss) (hb : Below B w w') (hB : w.heap.size ≤ B) : RowT w' a n ss := by
  obtain ⟨h1, h3, h4⟩ := h
  refine ⟨h1, h3, ?_⟩
  rcases h4 with h4 | ⟨b, off, rfl, hc⟩
  · exact Or.inl h4
  · right
    refine ⟨b, off, rfl, fun i hi => ?_⟩
    have hlt : b < w.heap.size := World.block_lt_of_cell? w _ (hc i hi)
    rw [hb.cell (p := ⟨b, off + i, none⟩) (Nat.lt_of_lt_of_le hlt hB)]
    exact hc i hi
theorem RowT.small {w : World} {a : Option Addr} {n : Nat} {ss : List ByteArray} (h : RowT w a n ss) (i : Nat) : (ss.getD i ByteArray.empty).size ≤ 1048576 := by
  by_cases hi : i < ss.length
  · rw [List.getD_eq_getElem?_getD, List.getElem?_eq_getElem hi]
    exact h.2.1 _ (List.getElem_mem hi)
  · rw [List.getD_eq_getElem?_getD, List.getElem?_eq_none (by omega)]
    decide
end Go.Proofs.Ytbpmmeagpefglaa
