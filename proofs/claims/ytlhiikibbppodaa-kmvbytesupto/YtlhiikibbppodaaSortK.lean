/-
  A row of words of the call's own that is put in order: what the walks of the library's sort are told of it, and what an exchange of two words makes of it.
  Conditions: as each theorem says.
-/
import Derived.Test.YtlhiikibbppodaaKmvA
import Derived.Test.YtlhiikibbppodaaChK
import Derived.BigQuiet
import Derived.Deep.QuietTactic
import Derived.Sort.LotA
import Derived.Sort.LotB
import Derived.Sort.LotC
import Derived.Sort.LotD3
namespace Go.Proofs.Ytlhiikibbppodaa
open Go.RowKit

/-- Block g holds c cells, of which the first show the words d. -/
structure SRow (w : World) (g c : Nat) (d : Array Int) : Prop where
  fits : d.size ≤ c
  room : d.size ≤ 281474976710656
  heap : ∃ cur, w.heap[g]? = some (.cells cur 31 (0, 0)) ∧ cur.size = c ∧ ∀ i, i < d.size → cur[i]? = some (.int .u64 d[i]!)

section
variable {w w' : World} {g c : Nat} {d : Array Int}
theorem SRow.lt (h : SRow w g c d) : g < w.heap.size := by
  obtain ⟨cur, h1, _⟩ := h.heap
  exact (Array.getElem?_eq_some_iff.1 h1).1
theorem SRow.cell (h : SRow w g c d) {i : Nat} (hi : i < d.size) : w.cell? ⟨g, i, none⟩ = some (.int .u64 d[i]!) := by
  obtain ⟨cur, h1, _, h3⟩ := h.heap
  rw [cell_of_row w g i _ _ (0, 0) h1]
  exact h3 i hi
theorem SRow.frozen (h : SRow w g c d) (i : Nat) : w.frozen? ⟨g, i, none⟩ = false := by
  obtain ⟨cur, h1, _⟩ := h.heap
  exact frozen_of_row w g i _ _ h1
theorem SRow.block (h : SRow w g c d) (e : w'.heap[g]? = w.heap[g]?) : SRow w' g c d := by
  obtain ⟨cur, h1, h2⟩ := h.heap
  exact ⟨h.fits, h.room, cur, e.trans h1, h2⟩
theorem SRow.drew (h : SRow w g c d) : SRow w.drew g c d := h.block rfl
theorem SRow.drewN (h : SRow w g c d) (q : Nat) : SRow (w.drewN q) g c d := h.block rfl
theorem SRow.ch {S : Nat → Prop} (h : SRow w g c d) (k : Ch S w w') (hn : ¬ S g) : SRow w' g c d := h.block (k.block g h.lt hn)
theorem SRow.alloc (h : SRow w g c d) (o : Obj) : SRow (w.alloc o) g c d := h.block (Below.heap_alloc w o g h.lt)
theorem SRow.set (h : SRow w g c d) {i : Nat} (hi : i < d.size) (x : Int) : SRow (w.setCell ⟨g, i, none⟩ (.int .u64 x)) g c (d.setIfInBounds i x) := by
  obtain ⟨cur, h1, h2, h3⟩ := h.heap
  refine ⟨by simpa using h.fits, by simpa using h.room, cur.setIfInBounds i (.int .u64 x), heap_setCell_same w g i _ _ _ h1, by simpa using h2, fun k hk => ?_⟩
  have hk' : k < d.size := by simpa using hk
  by_cases e : i = k
  · subst e
    have hic : i < cur.size := by have := h.fits; omega
    rw [Array.getElem?_setIfInBounds, if_pos rfl, if_pos hic]
    simp [hi]
  · rw [Array.getElem?_setIfInBounds, if_neg e, h3 k hk']
    simp [getElem!_pos, hk', e]
theorem ch_set (w : World) (g i : Nat) (v : Value) : Ch (fun k => k = g) w (w.setCell ⟨g, i, none⟩ v) :=
  ⟨rfl, rfl, rfl, (KeepsWalks.setCell w _ v).size, fun k _ hn => Below.heap_setCell _ _ _ k hn⟩
/-- Two words exchanged, the left one written first. -/
theorem SRow.swap (h : SRow w g c d) {i j : Nat} (hi : i < d.size) (hj : j < d.size) :
    SRow ((w.setCell ⟨g, i, none⟩ (.int .u64 d[j]!)).setCell ⟨g, j, none⟩ (.int .u64 d[i]!)) g c (Go.Sort.swp d i j) := by
  unfold Go.Sort.swp
  exact (h.set hi _).set (by simpa using hj) _
theorem Ch.step {S : Nat → Prop} {a b : World} (h : Ch S a b) {w' : World} (k : Ch S b w') : Ch S a w' := h.trans k
theorem Ch.drew {S : Nat → Prop} {a b : World} (h : Ch S a b) : Ch S a b.drew := ⟨h.os, h.tape, h.output, h.size, h.block⟩
theorem Ch.drewN {S : Nat → Prop} {a b : World} (h : Ch S a b) (q : Nat) : Ch S a (b.drewN q) := ⟨h.os, h.tape, h.output, h.size, h.block⟩
theorem ch_swap (h : Ch (fun k => k = g) w w') (i j : Nat) (u v : Value) : Ch (fun k => k = g) w ((w'.setCell ⟨g, i, none⟩ u).setCell ⟨g, j, none⟩ v) := h.trans ((ch_set w' g i u).trans (ch_set _ g j v))
/-- What a walk wants of an exchange: both words, both cells free, the second one there behind the first store. -/
theorem SRow.two (h : SRow w g c d) {i j : Nat} (hi : i < d.size) (hj : j < d.size) :
    w.cell? ⟨g, i, none⟩ = some (.int .u64 d[i]!) ∧ w.cell? ⟨g, j, none⟩ = some (.int .u64 d[j]!) ∧ w.frozen? ⟨g, i, none⟩ = false ∧ w.frozen? ⟨g, j, none⟩ = false ∧ ∃ v, (w.setCell ⟨g, i, none⟩ (.int .u64 d[j]!)).cell? ⟨g, j, none⟩ = some v :=
  ⟨h.cell hi, h.cell hj, h.frozen i, h.frozen j, cell?_setCell_some (h.cell hj)⟩
theorem size_swp (d : Array Int) (i j : Nat) : (Go.Sort.swp d i j).size = d.size := Go.Sort.size_swp d i j
end
end Go.Proofs.Ytlhiikibbppodaa
