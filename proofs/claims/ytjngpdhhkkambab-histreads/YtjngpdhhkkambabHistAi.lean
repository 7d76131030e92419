/-
  What the laws of package hist share: histograms that lie beside one another, the lists that they tell, ranks of all.
  Conditions: as each theorem says.
-/
import Derived.Test.YtjngpdhhkkambabHistAf
import Derived.Test.YtjngpdhhkkambabHistAg
import Derived.Test.YtjngpdhhkkambabHistW
import Derived.Test.YtjngpdhhkkambabHistX
namespace Go.Proofs.Ytjngpdhhkkambab
open Go.RowKit

theorem good_fit {l : Bks} (h : Good l) : ∀ x ∈ l, fitB x := by
  intro x hx
  obtain ⟨k, hk, rfl⟩ := List.getElem_of_mem hx
  have h1 := checkF_range (Int.le_refl _) h.check hk
  rw [List.getD_eq_getElem?_getD, List.getElem?_eq_getElem hk] at h1
  have h2 := h.words _ (List.getElem_mem hk)
  simp only [Option.getD_some] at h1
  refine ⟨?_, wf_of_u64 h2⟩
  simp [Lit.wf, IntKind.min, IntKind.max, IntKind.signed, IntKind.bits]
  omega
theorem good_size {l : Bks} (h : Good l) : l.length ≤ 7424 := by
  rcases checkF_len h.check with h1 | h1
  · omega
  · subst h1; simp
theorem OwnB.goodrow {w : World} {base cap : Nat} {a : Option Addr} {l : Bks} (h : OwnB w base a l.length cap l) (hg : Good l) : RowB w a l.length l := h.row (by have := good_size hg; omega) (good_fit hg)
theorem OwnB.apart {w : World} {base n cap : Nat} {a : Option Addr} {l : Bks} (h : OwnB w base a n cap l) {g : Nat} (hg : g < base) : 0 < n → ∀ x, a = some x → x.block ≠ g := by
  rintro - x rfl
  have hb := h.block x.block
  unfold OwnB at h
  rcases h.2 with ⟨h1, _⟩ | ⟨g', c, cur, h1, h2, _⟩
  · simp at h1
  · simp only [Value.slice.injEq, Option.some.injEq] at h1
    rw [h1.1]
    simp only
    omega
theorem HistAt.good {w : World} {g : Nat} {H : List Int} (h : HistAt w g H) : Good (spS H) := good_spS h.len h.words
theorem HistAt.other {w w' : World} {g g' : Nat} {H : List Int} (h : HistAt w g H) (c : Ch (fun k => k = g') w w') (hn : g ≠ g') : HistAt w' g H := h.ch c hn
theorem below_ch {B g : Nat} {w w1 w2 : World} (h : Below B w w1) (c : Ch (fun k => k = g) w1 w2) (hB : B ≤ w.heap.size) (hg : B ≤ g) : Below B w w2 := h.trans (c.below (Nat.le_trans hB h.size) (fun k hk e => by omega))
theorem below_to {B : Nat} {w w1 w2 : World} (h : Below B w w1) (c : Below w1.heap.size w1 w2) (hB : B ≤ w.heap.size) : Below B w w2 := h.trans (c.mono (Nat.le_trans hB h.size))
theorem upB_most {last : Int} {l : Bks} (h : checkF last l = true) : upB l 7423 = l := by
  induction l generalizing last with
  | nil => rfl
  | cons x t ih =>
    obtain ⟨k, c⟩ := x
    have h1 := checkF_cons.1 h
    rw [upB_cons_le (by omega), ih h1.2.2.2]
theorem rank_top {l : Bks} (h : Good l) : rankS l 18446744073709551615 = countS l := by
  unfold rankS countS
  rw [show bucketS 18446744073709551615 = 7423 by decide +kernel, upB_most h.check]
theorem good_words {l : Bks} (h : Good l) : 0 ≤ countS l ∧ countS l < 18446744073709551616 := satAll_word (s := 0) ⟨by omega, by omega⟩ (wordsB_snd h.words)
theorem good_from {l : Bks} (hck : checkS l = true) (hf : ∀ x ∈ l, fitB x) : Good l := ⟨hck, fit_words hf⟩
theorem spS_made {l : Bks} (h : Good l) : spS (addAll H0 l) = l := spS_from h.words h.check
theorem spS_more {w : World} {g : Nat} {H : List Int} (hH : HistAt w g H) {l : Bks} (h : Good l) : spS (addAll H l) = mrg (spS H) l := spS_addAll hH.len hH.words h.words h.check
theorem seen_count' {l : List Int} (hl : WordsH l) (hn : l.length ≤ 1000000) : countS (seen l) = ((l.length : Nat) : Int) := (seen_count hl hn).1
end Go.Proofs.Ytjngpdhhkkambab
