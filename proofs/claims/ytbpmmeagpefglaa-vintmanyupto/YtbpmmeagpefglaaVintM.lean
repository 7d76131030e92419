/-
  What the law's shell hands on of a slice of texts that came in, in the second form: nil, or a row of texts, each of at most 1048576 bytes.
  Conditions: the input is of bulk at most 1048576.
-/
import Derived.Test.YtbpmmeagpefglaaVintU
import Derived.SliceStrings
import Derived.OpenShut
namespace Go.Proofs.Ytbpmmeagpefglaa
open Go.RowKit Go.ChangeShapes

/-- What the walk is told of a slice of texts. -/
def IsTexts (w : World) (a : Option Addr) (len cap : Nat) (ss : List ByteArray) : Prop :=
  cap ≤ 1048576 ∧ (∀ s ∈ ss, s.size ≤ 1048576) ∧ ((a = none ∧ len = 0 ∧ cap = 0 ∧ ss = []) ∨
  ∃ x, a = some x ∧ len ≤ cap ∧ ss.length = cap ∧ ∀ i, i < ss.length → w.cell? (x.add i) = some (.string (ss.getD i ByteArray.empty)))

theorem small_texts {H : Type} {ds : List (DataW H)} (hk : Rows.uptoSmall H ds = true) {j len : Nat} {ss : List ByteArray} (hd : ds[j]? = some (.slice (strs (ss.take len)) (strs (ss.drop len)))) : ∀ s ∈ ss, s.size ≤ 1048576 := by
  intro s hs
  have h := small_part hk hd
  simp only [Rows.uptoBulk] at h
  have hm : DataW.lit (H := H) (.string s.data.toList) ∈ strs (H := H) (ss.take len) ∨ DataW.lit (H := H) (.string s.data.toList) ∈ strs (H := H) (ss.drop len) := by
    rw [← List.take_append_drop len ss] at hs
    rcases List.mem_append.1 hs with h1 | h1
    · exact Or.inl (List.mem_map.2 ⟨s, h1, rfl⟩)
    · exact Or.inr (List.mem_map.2 ⟨s, h1, rfl⟩)
  have hb : Rows.uptoBulk (DataW.lit (H := H) (.string s.data.toList)) = s.size + 1 := by
    simp only [Rows.uptoBulk, Array.length_toList]
    rfl
  rcases hm with h1 | h1
  · have := bulk_part h1; omega
  · have := bulk_part h1; omega
end Go.Proofs.Ytbpmmeagpefglaa
