/-
  Which blocks of memory may have turned; one element put behind a row of the call's own, and where the longer row lies; a slice of texts as a list: what the texts of later layers share. No function is named.
  Conditions: as each theorem says.
-/
import Derived.Test.YthlkmjaflomflaaVintA
import Derived.RangeFuncBox
import Derived.WalkKit
import Derived.OwnWalk
import Derived.Laws.OwnMore
import Derived.SliceStrings
namespace Go.Proofs.Ythlkmjaflomflaa
open Go.RowKit Go.ChangeShapes

theorem below_grown {w w' : World} (h : Below w.heap.size w w') : w.grownBy w' none := ⟨h.os, h.tape, h.output, h.size, fun k hk _ => h.block k hk⟩
theorem boxed_below {w w' : World} {B : Nat} {t : TypeId} {v : Value} (h : Boxed w B t v) (k : Below w.heap.size w w') : Boxed w' B t v := (k.block B h.lt).trans h

/-- These blocks alone may have turned. -/
structure Ch (S : Nat → Prop) (w w' : World) : Prop where
  os : w'.os = w.os
  tape : w'.tape = w.tape
  output : w'.output = w.output
  size : w.heap.size ≤ w'.heap.size
  block : ∀ k, k < w.heap.size → ¬ S k → w'.heap[k]? = w.heap[k]?

theorem Ch.refl (S : Nat → Prop) (w : World) : Ch S w w := ⟨rfl, rfl, rfl, Nat.le_refl _, fun _ _ _ => rfl⟩
theorem Ch.trans {S : Nat → Prop} {a b c : World} (h : Ch S a b) (k : Ch S b c) : Ch S a c :=
  ⟨k.os.trans h.os, k.tape.trans h.tape, k.output.trans h.output, Nat.le_trans h.size k.size, fun i hi hs => (k.block i (Nat.lt_of_lt_of_le hi h.size) hs).trans (h.block i hi hs)⟩
theorem Ch.more {S S' : Nat → Prop} {a b : World} (h : Ch S a b) (hs : ∀ k, k < a.heap.size → S k → S' k) : Ch S' a b :=
  ⟨h.os, h.tape, h.output, h.size, fun k hk hn => h.block k hk (fun h' => hn (hs k hk h'))⟩
theorem Ch.grown {w w' : World} {row : Option Nat} (h : w.grownBy w' row) : Ch (fun k => row = some k) w w' :=
  ⟨h.os, h.tape, h.output, h.size, fun k hk hn => h.block k hk (fun e => hn e.symm)⟩
theorem Ch.alloc {S : Nat → Prop} {a w : World} (h : Ch S a w) (o : Obj) : Ch S a (w.alloc o) :=
  ⟨h.os, h.tape, h.output, by simp; exact Nat.le_trans h.size (by omega), fun k hk hn => (Below.heap_alloc w o k (Nat.lt_of_lt_of_le hk h.size)).trans (h.block k hk hn)⟩
theorem Ch.set (w : World) (b : Nat) (v : Value) : Ch (fun k => k = b) w (w.setCell ⟨b, 0, none⟩ v) :=
  ⟨rfl, rfl, rfl, (KeepsWalks.setCell w _ v).size, fun k _ hn => Below.heap_setCell _ _ _ k hn⟩
theorem ch_set (w : World) (g i : Nat) (v : Value) : Ch (fun k => k = g) w (w.setCell ⟨g, i, none⟩ v) :=
  ⟨rfl, rfl, rfl, by simp [World.setCell], fun k _ hn => Below.heap_setCell w _ v k hn⟩
theorem Ch.of_below {w w' : World} (h : Below w.heap.size w w') : Ch (fun _ => False) w w' := ⟨h.os, h.tape, h.output, h.size, fun k hk _ => h.block k hk⟩
theorem Ch.below {S : Nat → Prop} {w w' : World} {B : Nat} (h : Ch S w w') (hB : B ≤ w.heap.size) (hs : ∀ k, k < B → ¬ S k) : Below B w w' :=
  ⟨h.os, h.tape, h.output, h.size, fun k hk => h.block k (by omega) (hs k hk)⟩

/-- A block of cells of a type. -/
def CellsT (w : World) (g : Nat) (t : TypeId) : Prop := ∃ cur mk, w.heap[g]? = some (.cells cur t mk)
theorem CellsT.lt {w : World} {g : Nat} {t : TypeId} (h : CellsT w g t) : g < w.heap.size := by
  obtain ⟨_, _, h⟩ := h
  exact (Array.getElem?_eq_some_iff.1 h).1
theorem CellsT.ne {w : World} {g g' : Nat} {t t' : TypeId} (h : CellsT w g t) (k : CellsT w g' t') (hn : t ≠ t') : g ≠ g' := by
  rintro rfl
  obtain ⟨_, _, h⟩ := h
  obtain ⟨_, _, k⟩ := k
  rw [h] at k
  simp at k
  exact hn k.2.1
theorem boxed_cells {w : World} {B : Nat} {t : TypeId} {v : Value} (h : Boxed w B t v) : CellsT w B t := ⟨_, _, h⟩
theorem row_cells {w : World} {base : Nat} {e : TypeId} {size : Nat} {v : Value} {n : Nat} {xs : List Value} (h : w.ownsRow base e size v n xs) {g : Nat} (hg : v.ownBlock = some g) : CellsT w g e ∧ base ≤ g := by
  rcases h.2 with ⟨rfl, _⟩ | ⟨g', cap, cur, rfl, hb, hgb, _⟩
  · simp [Value.ownBlock] at hg
  · obtain rfl : g' = g := by simpa [Value.ownBlock] using hg
    exact ⟨⟨_, _, hgb⟩, hb⟩
theorem boxed_ch {S : Nat → Prop} {w w' : World} {B : Nat} {t : TypeId} {v : Value} (h : Boxed w B t v) (c : Ch S w w') (hn : ¬ S B) : Boxed w' B t v := (c.block B h.lt hn).trans h
theorem row_ch {S : Nat → Prop} {w w' : World} {base : Nat} {e : TypeId} {size : Nat} {v : Value} {n : Nat} {xs : List Value} (h : w.ownsRow base e size v n xs) (c : Ch S w w') (hn : ∀ g, v.ownBlock = some g → ¬ S g) : w'.ownsRow base e size v n xs := by
  refine ⟨h.1, ?_⟩
  rcases h.2 with h1 | ⟨g, cap, cur, rfl, hb, hgb, hr⟩
  · exact .inl h1
  · exact .inr ⟨g, cap, cur, rfl, hb, (c.block g (Array.getElem?_eq_some_iff.1 hgb).1 (hn g rfl)).trans hgb, hr⟩

theorem row_form {w : World} {base : Nat} {e : TypeId} {v : Value} {n : Nat} {xs : List Value} (h : w.ownsRow base e 1 v n xs) : ∃ a cap, v = .slice a n cap := by
  rcases h.2 with ⟨rfl, rfl⟩ | ⟨g, cap, cur, rfl, _⟩
  · exact ⟨none, 0, rfl⟩
  · exact ⟨_, _, rfl⟩

/-- One element behind a row of the call's own: where the longer row lies. -/
theorem wpList_push {P : Program} (w : World) {ops : Array Oper} {rest : List Oper} {o : Oper} {a : Act} {Q : Exit → Act → World → Prop} (hgd : o.guard = none) (s x : Operand) (t : TypeId)
    (ho : o.op = .call { callee := .builtin .append, args := #[s, x], argTypes := #[t, t] })
    (base : Nat) (e : TypeId) (i : TypeInfo) (z : Value) (bytes : Nat) (ht : P.underlying t = some (.slice e)) (hi : P.info? e = some i) (hz : i.zero = some z) (hsize : i.size = 1) (hby : i.bytes = bytes) (hzs : z.cells.size = 1)
    (ao : Option Addr) (n cap : Nat) (xs : List Value) (hs : a.eval s = .slice ao n cap) (hown : w.ownsRow base e 1 (.slice ao n cap) n xs)
    (ad : Addr) (c : Nat) (u : Value) (hx : a.eval x = .slice (some ad) 1 c) (hc : ∀ j u', [u][j]? = some u' → w.cell? (ad.add j) = some u') (h1 : u.oneCell' = true)
    (h63 : n + 1 ≤ maxLen) (hbytes : (n + 1) * bytes ≤ 140737488355328) (hbase : base ≤ w.heap.size)
    (h : ∀ g' cap' w', w'.ownsRow base e 1 (.slice (some ⟨g', 0, none⟩) (n + 1) cap') (n + 1) (xs ++ [u]) → w.grownBy w' (Value.slice ao n cap).ownBlock → ((Value.slice ao n cap).ownBlock = some g' ∨ w.heap.size ≤ g') → wpList P ops Q rest (a.put o.dst (.slice (some ⟨g', 0, none⟩) (n + 1) cap')) w') : wpList P ops Q (o :: rest) a w := by
  have hlen : xs.length = n := by simpa using hown.1
  have h1' : ∀ u' ∈ [u], u'.oneCell' = true := by intro u' hu'; simp at hu'; rw [hu']; exact h1
  have grow : cap < n + 1 → (ao = none → n = 0 ∧ cap = 0) → (∀ b, ao = some b → ∀ j u', xs[j]? = some u' → w.cell? (b.add j) = some u') → wpList P ops Q (o :: rest) a w := by
    intro hf hnone hcells
    refine wpList_append_grows w hgd s x t ho e i z 1 bytes ht hi hz hsize hby hzs (by decide) ao n cap xs hs hnone (by omega) hcells ad 1 c [u] hx rfl hc h1' hf h63 hbytes ?_
    intro v' w' h2 h3
    obtain ⟨g', cap', rfl⟩ := ownsRow_succ h2
    have hg := (row_cells h2 (g := g') rfl).2
    have h4 : w'.ownsRow base e 1 (.slice (some ⟨g', 0, none⟩) (n + 1) cap') (n + 1) (xs ++ [u]) := by
      refine ⟨h2.1, ?_⟩
      rcases h2.2 with h5 | ⟨g, c', cur, h5, h6, h7⟩
      · exact .inl h5
      · exact .inr ⟨g, c', cur, h5, by omega, h7⟩
    exact h g' cap' w' h4 ⟨h3.os, h3.tape, h3.output, h3.size, fun k hk _ => h3.block k hk (by simp)⟩ (Or.inr hg)
  rcases id hown.2 with ⟨h2, h3⟩ | ⟨g, c', cur, h2, h3, h4, h5, _⟩
  · simp only [Value.slice.injEq] at h2
    obtain ⟨rfl, rfl, rfl⟩ := h2
    exact grow (by omega) (fun _ => ⟨rfl, rfl⟩) (fun b hb => by simp at hb)
  · simp only [Value.slice.injEq, true_and] at h2
    obtain ⟨rfl, rfl⟩ := h2
    by_cases hroom : n + 1 ≤ cap
    · refine wpList_append_fits w hgd s x t ho base e i 1 ht hi hsize g n cap xs hs hown ad 1 c [u] hx rfl hc h1' hroom ?_
      intro w' h6 h7
      exact h g cap w' h6 h7 (Or.inl rfl)
    · exact grow (by omega) (fun hb => by simp at hb) (fun b hb => by simp at hb; subst hb; exact hown.cells (g := g) rfl)

theorem one_strcell (w : World) (s : ByteArray) (e : TypeId) (j : Nat) (u : Value) (h : [Value.string s][j]? = some u) : (w.alloc (.cells #[.string s] e)).cell? ((⟨w.heap.size, 0, none⟩ : Addr).add j) = some u := by
  match j, h with
  | 0, h => simp at h; subst h; rw [Addr.add_lit, World.cell?_alloc_mark]; rfl
theorem one_intcell (w : World) (k : Int) (e : TypeId) (j : Nat) (u : Value) (h : [Value.int .i64 k][j]? = some u) : (w.alloc (.cells #[.int .i64 k] e)).cell? ((⟨w.heap.size, 0, none⟩ : Addr).add j) = some u := by
  match j, h with
  | 0, h => simp at h; subst h; rw [Addr.add_lit, World.cell?_alloc_mark]; rfl

theorem row_mono {w : World} {base base' : Nat} {e : TypeId} {v : Value} {n : Nat} {xs : List Value} (h : w.ownsRow base e 1 v n xs) (hb : base' ≤ base) : w.ownsRow base' e 1 v n xs := by
  refine ⟨h.1, ?_⟩
  rcases h.2 with h1 | ⟨g, c, cur, h1, h2, h3⟩
  · exact Or.inl h1
  · exact Or.inr ⟨g, c, cur, h1, Nat.le_trans hb h2, h3⟩

/-- A slice of n texts. -/
def RowX (w : World) (a : Option Addr) (n : Nat) (ss : List ByteArray) : Prop :=
  ss.length = n ∧ n ≤ 140737488355328 ∧ (n = 0 ∨ ∃ b off, a = some ⟨b, off, none⟩ ∧ ∀ i, i < n → w.cell? ⟨b, off + i, none⟩ = some (.string (ss.getD i ByteArray.empty)))
theorem RowX.below {B : Nat} {w w' : World} {a : Option Addr} {n : Nat} {ss : List ByteArray} (h : RowX w a n ss) (hb : Below B w w') (hB : w.heap.size ≤ B) : RowX w' a n ss := by
  obtain ⟨h1, h3, h4⟩ := h
  refine ⟨h1, h3, ?_⟩
  rcases h4 with h4 | ⟨b, off, rfl, hc⟩
  · exact Or.inl h4
  · right
    refine ⟨b, off, rfl, fun i hi => ?_⟩
    have hlt : b < w.heap.size := World.block_lt_of_cell? w _ (hc i hi)
    rw [hb.cell (p := ⟨b, off + i, none⟩) (Nat.lt_of_lt_of_le hlt hB)]
    exact hc i hi

/-- What the walk is told of a slice of texts. -/
def IsTextsF (w : World) (a : Option Addr) (len cap : Nat) (ss : List ByteArray) : Prop :=
  cap * 16 ≤ 140737488351232 ∧ ((a = none ∧ len = 0 ∧ cap = 0 ∧ ss = []) ∨
  ∃ x, a = some x ∧ len ≤ cap ∧ ss.length = cap ∧ ∀ i, i < ss.length → w.cell? (x.add i) = some (.string (ss.getD i ByteArray.empty)))
theorem textsF_of {w : World} {a : Option Addr} {len cap : Nat} {ss : List ByteArray} (h : IsTextsF w a len cap ss) : RowX w a len (ss.take len) := by
  obtain ⟨hc, ⟨rfl, rfl, rfl, rfl⟩ | ⟨x, rfl, hl, hz, hcell⟩⟩ := h
  · exact ⟨rfl, by omega, Or.inl rfl⟩
  · refine ⟨by rw [List.length_take]; omega, by omega, ?_⟩
    by_cases h0 : len = 0
    · exact Or.inl h0
    · right
      obtain ⟨b, off, spot⟩ := x
      have hs : spot = none := by simpa [Addr.add] using World.cell?_spot (hcell 0 (by omega))
      subst hs
      refine ⟨b, off, rfl, fun i hi => ?_⟩
      have := hcell i (by omega)
      rw [Addr.add_lit] at this
      rw [this]
      simp [hi]

/-- The same, each text as long as a text may be. -/
def IsTextsZ (w : World) (a : Option Addr) (len cap : Nat) (ss : List ByteArray) : Prop := IsTextsF w a len cap ss ∧ ∀ s ∈ ss, s.size ≤ maxLen
theorem getD_text {p : ByteArray → Prop} {ss : List ByteArray} (h : ∀ s ∈ ss, p s) {i : Nat} (hi : i < ss.length) : p (ss.getD i ByteArray.empty) := by
  rw [List.getD_eq_getElem?_getD, List.getElem?_eq_getElem hi]
  exact h _ (List.getElem_mem hi)
theorem take_text {ss : List ByteArray} {k : Nat} (h : k < ss.length) : ss.take (k + 1) = ss.take k ++ [ss.getD k ByteArray.empty] := by
  rw [List.take_succ_eq_append_getElem h, List.getD_eq_getElem?_getD, List.getElem?_eq_getElem h]
  rfl
theorem RowX.cells {w : World} {ad : Addr} {n : Nat} {ss : List ByteArray} (h : RowX w (some ad) n ss) (j : Nat) (u : Value) (hj : (ss.map Value.string)[j]? = some u) : w.cell? (ad.add j) = some u := by
  rw [List.getElem?_map] at hj
  by_cases hl : j < ss.length
  · rw [List.getElem?_eq_getElem hl] at hj
    obtain ⟨h1, _, h0 | ⟨b, off, he, hcell⟩⟩ := h
    · omega
    · simp only [Option.some.injEq] at he
      subst he
      rw [Addr.add_lit, hcell j (by omega), List.getD_eq_getElem?_getD, List.getElem?_eq_getElem hl]
      simpa using hj
  · rw [List.getElem?_eq_none (by omega)] at hj
    simp at hj
theorem texts_oneCell (ss : List ByteArray) : ∀ u ∈ ss.map Value.string, u.oneCell' = true := by
  intro u hu
  obtain ⟨z, _, rfl⟩ := List.mem_map.1 hu
  rfl
/-- A sketch's blocks and its list behind a call that may turn its blocks alone. -/
def StepK (At : World → Nat → (Nat → Prop) → List Int → Prop) (w w' : World) (g : Nat) (S : Nat → Prop) (l : List Int) : Prop :=
  ∃ S', At w' g S' l ∧ (∀ k, S' k → S k ∨ w.heap.size ≤ k) ∧ Ch S w w'
/-- A sketch that is made. -/
def MadeK (At : World → Nat → (Nat → Prop) → List Int → Prop) (w w' : World) (g : Nat) (l : List Int) : Prop :=
  ∃ S, At w' g S l ∧ (∀ k, S k → w.heap.size ≤ k) ∧ Below w.heap.size w w'
end Go.Proofs.Ythlkmjaflomflaa
