/-
  Rows of slices of labels in memory; the document's index in memory, with the blocks that are its own: how it is read and what it abides.
  Conditions: as each theorem says.
-/
import Derived.Test.YtpffhpnmbpjifaaGreatIdxK
import Derived.Test.YtpffhpnmbpjifaaGreatLabZb
import Derived.Test.YtpffhpnmbpjifaaGreatVintZa
namespace Go.Proofs.YtpffhpnmbpjifaaGreat
open Go.RowKit
set_option maxRecDepth 20000

/-- A slice by its three words. -/
abbrev Hl := Option Addr × Nat × Nat
def hlV (h : Hl) : Value := .slice h.1 h.2.1 h.2.2
/-- A slice of labels, as a slice may be. -/
def SlL (w : World) (h : Hl) (l : List Lb) : Prop := RowL w h.1 h.2.1 l ∧ h.2.1 ≤ h.2.2 ∧ (h.1 = none → h.2.2 = 0)
/-- A row of slices of labels. -/
def RowLL (w : World) (a : Option Addr) (n : Nat) (ls : Lx) : Prop :=
  ls.length = n ∧ n * 24 ≤ 140737488355328 ∧ (n = 0 ∨ ∃ b off, a = some ⟨b, off, none⟩ ∧ ∀ i l, ls[i]? = some l → ∃ h, w.cell? ⟨b, off + i, none⟩ = some (hlV h) ∧ SlL w h l)
section
variable {w w' : World} {a : Option Addr} {n : Nat} {ls : Lx} {h : Hl} {l : List Lb}
theorem SlL.below {B : Nat} (q : SlL w h l) (hb : Below B w w') (hB : w.heap.size ≤ B) : SlL w' h l := ⟨q.1.below hb hB, q.2⟩
theorem SlL.len (q : SlL w h l) : l.length = h.2.1 := q.1.1
theorem RowLL.below {B : Nat} (q : RowLL w a n ls) (hb : Below B w w') (hB : w.heap.size ≤ B) : RowLL w' a n ls := by
  obtain ⟨h1, h2, h3⟩ := q
  refine ⟨h1, h2, ?_⟩
  rcases h3 with h3 | ⟨b, off, rfl, hc⟩
  · exact Or.inl h3
  · refine Or.inr ⟨b, off, rfl, fun i l hi => ?_⟩
    obtain ⟨h, q1, q2⟩ := hc i l hi
    have hlt : b < w.heap.size := World.block_lt_of_cell? w _ q1
    refine ⟨h, ?_, q2.below hb hB⟩
    rw [hb.cell (p := ⟨b, off + i, none⟩) (show b < B by omega)]
    exact q1
theorem RowLL.at' (q : RowLL w a n ls) {i : Nat} (hi : i < n) : ∃ b off a' n' c' l, a = some ⟨b, off, none⟩ ∧ ls[i]? = some l ∧ w.cell? ⟨b, off + i, none⟩ = some (.slice a' n' c') ∧ SlL w (a', n', c') l := by
  obtain ⟨h1, h2, h3 | ⟨b, off, rfl, hc⟩⟩ := q
  · omega
  · have hx : ls[i]? = some ls[i] := List.getElem?_eq_getElem (by omega)
    obtain ⟨⟨a', n', c'⟩, q1, q2⟩ := hc i _ hx
    exact ⟨b, off, a', n', c', _, rfl, hx, q1, q2⟩
/-- Labels stay while their block does. -/
theorem RowL.keep {T : Nat → Prop} (q : RowL w a n l) (k : Ch T w w') (hn : ∀ b off, a = some ⟨b, off, none⟩ → n ≠ 0 → ¬ T b) : RowL w' a n l := by
  obtain ⟨h1, h2, h3, h4⟩ := q
  refine ⟨h1, h2, h3, ?_⟩
  rcases h4 with h4 | ⟨b, off, rfl, hc⟩
  · exact Or.inl h4
  · by_cases hz : n = 0
    · exact Or.inl hz
    · right
      refine ⟨b, off, rfl, fun i x hi => ?_⟩
      obtain ⟨g1, g2⟩ := hc i x hi
      have hlt : b < w.heap.size := World.block_lt_of_cell? w _ g1
      have e := k.block b hlt (hn b off rfl hz)
      simp only [World.cell?] at g1 g2 ⊢
      rw [e]
      exact ⟨g1, g2⟩
end
/-- Behind a call that may turn these blocks alone. -/
def StepX {α : Type} (At : World → Nat → (Nat → Prop) → α → Prop) (w w' : World) (g : Nat) (S : Nat → Prop) (L : α) : Prop :=
  ∃ S', At w' g S' L ∧ (∀ k, S' k → S k ∨ w.heap.size ≤ k) ∧ Ch S w w'
/-- One that is made. -/
def MadeX {α : Type} (At : World → Nat → (Nat → Prop) → α → Prop) (w w' : World) (g : Nat) (L : α) : Prop :=
  ∃ S, At w' g S L ∧ (∀ k, S k → w.heap.size ≤ k) ∧ Below w.heap.size w w'
/-- The document's index: its slice, its row of slices, each one's labels, all in blocks of its own. -/
structure XAt (w : World) (g : Nat) (S : Nat → Prop) (L : Lx) : Prop where
  own : S g
  lt : ∀ k, S k → k < w.heap.size
  body : ∃ (a : Option Addr) (c : Nat) (hs : List Hl), Boxed w g 41 (.slice a L.length c) ∧ hs.length = L.length ∧ w.ownsRow 0 42 1 (.slice a L.length c) L.length (hs.map hlV) ∧ (∀ b, (Value.slice a L.length c).ownBlock = some b → S b) ∧
    ∀ (i : Nat) (h : Hl) (l : List Lb), hs[i]? = some h → L[i]? = some l → SlL w h l ∧ ∀ b off, h.1 = some ⟨b, off, none⟩ → h.2.1 ≠ 0 → S b ∧ CellsT w b 52
theorem CellsT.keep {T : Nat → Prop} {w w' : World} {b : Nat} {t : TypeId} (h : CellsT w b t) (k : Ch T w w') (hn : ¬ T b) : CellsT w' b t := by
  obtain ⟨cur, mk, e⟩ := h
  exact ⟨cur, mk, (k.block b (Array.getElem?_eq_some_iff.1 e).1 hn).trans e⟩
theorem XAt.keep {w w' : World} {g : Nat} {S T : Nat → Prop} {L : Lx} (h : XAt w g S L) (k : Ch T w w') (hn : ∀ j, S j → ¬ T j) : XAt w' g S L := by
  obtain ⟨a, c, hs, h1, h2, h3, h4, h5⟩ := h.body
  refine ⟨h.own, fun j hj => Nat.lt_of_lt_of_le (h.lt j hj) k.size, a, c, hs, boxed_ch h1 k (hn g h.own), h2, row_ch h3 k (fun b hb => hn b (h4 b hb)), h4, fun i x l hi hl => ?_⟩
  obtain ⟨q1, q2⟩ := h5 i x l hi hl
  exact ⟨⟨q1.1.keep k (fun b off e hz => hn b (q2 b off e hz).1), q1.2⟩, fun b off e hz => ⟨(q2 b off e hz).1, (q2 b off e hz).2.keep k (hn b (q2 b off e hz).1)⟩⟩
theorem XAt.below {w w' : World} {g : Nat} {S : Nat → Prop} {L : Lx} (h : XAt w g S L) (b : Below w.heap.size w w') : XAt w' g S L := h.keep (Ch.of_below b) (fun _ _ => id)
/-- What a walk reads of it: its slice; the one at a place. -/
theorem XAt.open' {w : World} {g : Nat} {S : Nat → Prop} {L : Lx} (h : XAt w g S L) : ∃ (a : Option Addr) (c : Nat), w.cell? ⟨g, 0, none⟩ = some (.slice a L.length c) ∧ w.frozen? ⟨g, 0, none⟩ = false ∧
    ∀ i, i < L.length → ∃ (b : Nat) (a' : Option Addr) (n' c' : Nat) (l : List Lb), a = some ⟨b, 0, none⟩ ∧ L[i]? = some l ∧ w.cell? ⟨b, i, none⟩ = some (.slice a' n' c') ∧ SlL w (a', n', c') l := by
  obtain ⟨a, c, hs, h1, h2, h3, h4, h5⟩ := h.body
  refine ⟨a, c, h1.cell, h1.frozen, fun i hi => ?_⟩
  rcases id h3.2 with ⟨e1, e2⟩ | ⟨b, cap, cur, e1, _⟩
  · omega
  · simp only [Value.slice.injEq, true_and] at e1
    obtain ⟨rfl, rfl⟩ := e1
    have hx : hs[i]? = some (hs[i]'(by omega)) := List.getElem?_eq_getElem (by omega)
    have hl : L[i]? = some L[i] := List.getElem?_eq_getElem hi
    obtain ⟨q1, q2⟩ := h5 i _ _ hx hl
    have hc := h3.cellAt i (by omega)
    rw [List.getElem?_map, hx] at hc
    generalize hs[i]'(by omega) = y at *
    obtain ⟨a', n', c'⟩ := y
    exact ⟨b, a', n', c', _, rfl, hl, hc, q1⟩
/-- The same, and in which blocks the labels lie. -/
theorem XAt.open2 {w : World} {g : Nat} {S : Nat → Prop} {L : Lx} (h : XAt w g S L) : ∃ (a : Option Addr) (c : Nat), w.cell? ⟨g, 0, none⟩ = some (.slice a L.length c) ∧
    ∀ i, i < L.length → ∃ (b : Nat) (a' : Option Addr) (n' c' : Nat) (l : List Lb), a = some ⟨b, 0, none⟩ ∧ L[i]? = some l ∧ w.cell? ⟨b, i, none⟩ = some (.slice a' n' c') ∧ SlL w (a', n', c') l ∧ ∀ b off, a' = some ⟨b, off, none⟩ → n' ≠ 0 → S b := by
  obtain ⟨a, c, hs, h1, h2, h3, h4, h5⟩ := h.body
  refine ⟨a, c, h1.cell, fun i hi => ?_⟩
  rcases id h3.2 with ⟨e1, e2⟩ | ⟨b, cap, cur, e1, _⟩
  · omega
  · simp only [Value.slice.injEq, true_and] at e1
    obtain ⟨rfl, rfl⟩ := e1
    have hx : hs[i]? = some (hs[i]'(by omega)) := List.getElem?_eq_getElem (by omega)
    have hl : L[i]? = some L[i] := List.getElem?_eq_getElem hi
    obtain ⟨q1, q2⟩ := h5 i _ _ hx hl
    have hc := h3.cellAt i (by omega)
    rw [List.getElem?_map, hx] at hc
    generalize hs[i]'(by omega) = y at *
    obtain ⟨a', n', c'⟩ := y
    exact ⟨b, a', n', c', _, rfl, hl, hc, q1, fun b off e hz => (q2 b off e hz).1⟩
theorem xat_new (w : World) : XAt (w.alloc (.cells #[.slice none 0 0] 41)) w.heap.size (fun k => k = w.heap.size) [] := by
  refine ⟨rfl, fun k hk => by simp; omega, none, 0, [], Boxed.new w _ _, rfl, World.ownsRow_nil _ _ _ _, fun b hb => by simp [Value.ownBlock] at hb, fun i h l hi => by simp at hi⟩
end Go.Proofs.YtpffhpnmbpjifaaGreat
