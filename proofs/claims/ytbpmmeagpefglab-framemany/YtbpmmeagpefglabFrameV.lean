/-
  What the laws over texts share: what the law's shell hands on of a slice of texts; a row of whole numbers of the call's own; the counter of frames.
  Conditions: as each theorem says.
-/
import Derived.Test.YtbpmmeagpefglabFrameN
import Derived.Test.YtbpmmeagpefglabFrameQ
import Derived.Test.YtbpmmeagpefglabFrameE
import Derived.SliceStrings
import Derived.OpenShut
namespace Go.Proofs.Ytbpmmeagpefglab
open Go.RowKit Go.ChangeShapes

/-- What the walk is told of a slice of texts. -/
def IsTextsF (w : World) (a : Option Addr) (len cap : Nat) (ss : List ByteArray) : Prop :=
  cap * 16 ≤ 140737488351232 ∧ ((a = none ∧ len = 0 ∧ cap = 0 ∧ ss = []) ∨
  ∃ x, a = some x ∧ len ≤ cap ∧ ss.length = cap ∧ ∀ i, i < ss.length → w.cell? (x.add i) = some (.string (ss.getD i ByteArray.empty)))
theorem textsF_of {w : World} {a : Option Addr} {len cap : Nat} {ss : List ByteArray} (h : IsTextsF w a len cap ss) : RowX w a len (ss.take len) := by
  obtain ⟨hc, ⟨rfl, rfl, rfl, rfl⟩ | ⟨x, rfl, hl, hz, hcell⟩⟩ := h
  · exact ⟨rfl, by omega, Or.inl rfl⟩
  · refine ⟨by rw [List.length_take]; omega, by omega, ?_⟩
    by_cases h0 : len = 0
    · exact Or.inl h0
    · right
      obtain ⟨b, off, spot⟩ := x
      have hs : spot = none := by simpa [Addr.add] using World.cell?_spot (hcell 0 (by omega))
      subst hs
      refine ⟨b, off, rfl, fun i hi => ?_⟩
      have := hcell i (by omega)
      rw [Addr.add_lit] at this
      rw [this]
      simp [hi]

theorem ends_fit {gs : List (List Int)} (h : (laidS gs).length ≤ 40280) : ∀ z ∈ endsS gs, (Lit.int .i64 z).wf = true := by
  intro z hz
  obtain ⟨j, hj, rfl⟩ := List.mem_iff_getElem.1 hz
  have hl : (endsS gs).length = gs.length := endsFrom_len gs 0
  have e := endsS_get gs j (by omega)
  rw [List.getD_eq_getElem?_getD, List.getElem?_eq_getElem hj] at e
  simp only [Option.getD_some] at e
  rw [e]
  have : (laidS (gs.take (j + 1))).length ≤ (laidS gs).length := by
    conv => rhs; rw [← List.take_append_drop (j + 1) gs, laidS_append, List.length_append]
    omega
  exact i64_wf (by omega) (by omega)
theorem laid_le (gs : List (List Int)) (n : Nat) : (laidS (gs.take n)).length ≤ (laidS gs).length := by
  conv => rhs; rw [← List.take_append_drop n gs, laidS_append, List.length_append]
  omega
theorem posS_few {gs : List (List Int)} (h : gs.length ≤ 20) (k : Nat) : (posS k gs).take (1000 : Int).toNat = posS k gs := List.take_of_length_le (by rw [posS_len]; show gs.length ≤ 1000; omega)
end Go.Proofs.Ytbpmmeagpefglab
