/-
  Lists of buckets that may be: how long, that each fits, where they lie: plain.
  Conditions: as each theorem says.
-/
import Derived.Test.YtadcaonkmncgoaaGreatHistB
import Derived.Test.YtadcaonkmncgoaaGreatHistPz
namespace Go.Proofs.YtadcaonkmncgoaaGreat
open Go.RowKit
set_option maxRecDepth 20000

theorem good_fit {l : Bks} (h : Good l) : ∀ x ∈ l, fitB x := by
  intro x hx
  obtain ⟨k, hk, rfl⟩ := List.getElem_of_mem hx
  have h1 := checkF_range (Int.le_refl _) h.check hk
  rw [List.getD_eq_getElem?_getD, List.getElem?_eq_getElem hk] at h1
  have h2 := h.words _ (List.getElem_mem hk)
  simp only [Option.getD_some] at h1
  refine ⟨?_, wf_of_u64 h2⟩
  simp [Lit.wf, IntKind.min, IntKind.max, IntKind.signed, IntKind.bits]
  omega
theorem good_size {l : Bks} (h : Good l) : l.length ≤ 7424 := by
  rcases checkF_len h.check with h1 | h1
  · omega
  · subst h1; simp
theorem OwnB.goodrow {w : World} {base cap : Nat} {a : Option Addr} {l : Bks} (h : OwnB w base a l.length cap l) (hg : Good l) : RowB w a l.length l := h.row (by have := good_size hg; omega) (good_fit hg)
theorem good_from {l : Bks} (hck : checkS l = true) (hf : ∀ x ∈ l, fitB x) : Good l := ⟨hck, fit_words hf⟩
end Go.Proofs.YtadcaonkmncgoaaGreat
