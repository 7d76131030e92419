/-
  Slices of buckets as lists of pairs: how they are read; one more behind a list of the call's own; the laws' own copy (Buckets), and whether two are the same (SameBuckets): contracts, for every world. The least hashes of what came, as lists that rise: one more, two lists put together, the first n of them: plain laws. Rows of words: numbers of a row, of none too, behind numbers of the call's own; lists that rise told one by one. The document's own answer of layer 8 (the laws' reference): whether hashes may be, one more hash: contracts, for every world. The document's own answer of layer 8 (the laws' reference): plain facts of two lists put together. The document's own answer of layer 8 (the laws' reference): two lists put together, how many unlike things: contracts, for every world. The document's own answer of layer 7 (the laws' reference): a number's bucket, a bucket's ends: contracts, for every world. A region that draws its order and holds one call whose answer it reads again: all that stands before the call is taken first, then the call, then the rest in the one world that the call left. Laws for the walk, of the library's own (Derived.OrdersHeld). Lists of buckets that may be: how long, that each fits, where they lie: plain. A thing's number as plain arithmetic: byte by byte, each put in by 'xor' and the whole multiplied by an odd factor, within 2^64; a text cut anywhere; two texts that part in their last byte alone. What vint.apart, vint.number, vint.Put and vint.Get com
  Conditions: as each theorem says.
-/
import Derived.Test.YtknghoecjobkiaaGreatDoorZua
import Derived.Test.YtknghoecjobkiaaGreatDoorRows
import Derived.Laws.AppendOwnNone
import Derived.Deep.QuietTactic
import Derived.BigQuiet
import Derived.OrdersHeld
import Derived.Deep.RegionHeld
import Derived.WalkKit
import Derived.BigRegion
import Derived.WalkLawsBesides
namespace Go.Proofs.YtknghoecjobkiaaGreatDoor
open Go.RowKit
set_option maxRecDepth 20000
theorem Tryz.infoB : (Tryz.prog.info? 269).map (fun i => (i.zero, i.size, i.bytes)) = some (some (.agg #[.int .i64 0, .int .u64 0]), 2, 16) := by kernel_rfl

def fitB (x : Int × Int) : Prop := (Lit.int .i64 x.1).wf = true ∧ (Lit.int .u64 x.2).wf = true
/-- A slice of n buckets. -/
def RowB (w : World) (a : Option Addr) (n : Nat) (l : Bks) : Prop :=
  l.length = n ∧ n ≤ 17592186044416 ∧ (∀ x ∈ l, fitB x) ∧
  (n = 0 ∨ ∃ b off, a = some ⟨b, off, none⟩ ∧ ∀ i, i < n → w.cell? ⟨b, off + i * 2, none⟩ = some (.int .i64 (l.getD i (0, 0)).1) ∧ w.cell? ⟨b, off + i * 2 + 1, none⟩ = some (.int .u64 (l.getD i (0, 0)).2))
theorem RowB.below {B : Nat} {w w' : World} {a : Option Addr} {n : Nat} {l : Bks} (h : RowB w a n l) (hb : Below B w w') (hB : w.heap.size ≤ B) : RowB w' a n l := by
  obtain ⟨h1, h2, h3, h4⟩ := h
  refine ⟨h1, h2, h3, ?_⟩
  rcases h4 with h4 | ⟨b, off, rfl, hc⟩
  · exact Or.inl h4
  · right
    refine ⟨b, off, rfl, fun i hi => ?_⟩
    have hlt : b < w.heap.size := World.block_lt_of_cell? w _ (hc i hi).1
    rw [hb.cell (p := ⟨b, off + i * 2, none⟩) (Nat.lt_of_lt_of_le hlt hB), hb.cell (p := ⟨b, off + i * 2 + 1, none⟩) (Nat.lt_of_lt_of_le hlt hB)]
    exact hc i hi
theorem getD_fit {l : Bks} (h : ∀ x ∈ l, fitB x) (i : Nat) : fitB (l.getD i (0, 0)) := by
  by_cases hi : i < l.length
  · rw [List.getD_eq_getElem?_getD, List.getElem?_eq_getElem hi]
    exact h _ (List.getElem_mem hi)
  · rw [List.getD_eq_getElem?_getD, List.getElem?_eq_none (by omega)]
    exact ⟨by decide, by decide⟩
theorem fit_words {l : Bks} (h : ∀ x ∈ l, fitB x) : WordsB l := fun x hx => u64_of_wf (h x hx).2
theorem take_bks {l : Bks} {k : Nat} (h : k < l.length) : l.take (k + 1) = l.take k ++ [l.getD k (0, 0)] := by
  rw [List.take_succ_eq_append_getElem h, List.getD_eq_getElem?_getD, List.getElem?_eq_getElem h]
  rfl

/-- A bucket's two cells, in every world that keeps what lay below. -/
theorem RowB.at' {w : World} {a : Option Addr} {n : Nat} {l : Bks} (h : RowB w a n l) {j : Nat} (hj : j < n) :
    ∃ b off, a = some ⟨b, off, none⟩ ∧ ∀ W, Below w.heap.size w W → W.cell? ⟨b, off + j * 2, none⟩ = some (.int .i64 (l.getD j (0, 0)).1) ∧ W.cell? ⟨b, off + j * 2 + 1, none⟩ = some (.int .u64 (l.getD j (0, 0)).2) := by
  obtain ⟨-, -, -, h0 | ⟨b, off, rfl, hc⟩⟩ := id h
  · omega
  · refine ⟨b, off, rfl, fun W hW => ?_⟩
    obtain ⟨-, -, -, h0 | ⟨b', off', e', hc'⟩⟩ := h.below hW (Nat.le_refl _)
    · omega
    · simp only [Option.some.injEq, Addr.mk.injEq, and_true] at e'
      obtain ⟨rfl, rfl⟩ := e'
      exact hc' j hj

theorem drop_bks {l : Bks} {k : Nat} (h : k < l.length) : l.drop k = l.getD k (0, 0) :: l.drop (k + 1) := by
  rw [List.drop_eq_getElem_cons h, List.getD_eq_getElem?_getD, List.getElem?_eq_getElem h]
  rfl

/-- Buckets as cells of memory. -/
def flatB (l : Bks) : List Value := l.flatMap fun x => [.int .i64 x.1, .int .u64 x.2]
theorem flatB_cons (x : Int × Int) (l : Bks) : flatB (x :: l) = [.int .i64 x.1, .int .u64 x.2] ++ flatB l := by simp [flatB]
theorem flatB_append (l m : Bks) : flatB (l ++ m) = flatB l ++ flatB m := by simp [flatB]
theorem flatB_len (l : Bks) : (flatB l).length = l.length * 2 := by
  induction l with
  | nil => rfl
  | cons x t ih => rw [flatB_cons, List.length_append, ih]; simp only [List.length_cons, List.length_nil]; omega
theorem flatB_get (l : Bks) (i : Nat) (h : i < l.length) : (flatB l)[i * 2]? = some (.int .i64 (l.getD i (0, 0)).1) ∧ (flatB l)[i * 2 + 1]? = some (.int .u64 (l.getD i (0, 0)).2) := by
  induction l generalizing i with
  | nil => simp at h
  | cons x t ih =>
    rw [flatB_cons]
    cases i with
    | zero => simp
    | succ i =>
      simp only [List.length_cons] at h
      obtain ⟨h1, h2⟩ := ih i (by omega)
      rw [List.getElem?_append_right (by simp; omega), List.getElem?_append_right (by simp; omega), List.getD_cons_succ]
      simp only [List.length_cons, List.length_nil]
      rw [show (i + 1) * 2 - (0 + 1 + 1) = i * 2 by omega, show (i + 1) * 2 + 1 - (0 + 1 + 1) = i * 2 + 1 by omega]
      exact ⟨h1, h2⟩
theorem flatB_one (l : Bks) : ∀ u ∈ flatB l, u.oneCell' = true := by
  intro u hu
  obtain ⟨x, _, hx⟩ := List.mem_flatMap.1 hu
  simp at hx
  rcases hx with rfl | rfl <;> rfl
/-- Buckets in memory of the call's own. -/
def OwnB (w : World) (base : Nat) (a : Option Addr) (n cap : Nat) (l : Bks) : Prop := w.ownsRow base 269 2 (.slice a n cap) n (flatB l)
theorem ownB_nil (w : World) (base : Nat) : OwnB w base none 0 0 [] := World.ownsRow_nil _ _ _ _
theorem ownB_form {w : World} {base n : Nat} {v : Value} {l : Bks} (h : w.ownsRow base 269 2 v n (flatB l)) : ∃ a cap, v = .slice a n cap ∧ OwnB w base a n cap l := by
  have h0 := h
  rcases h.2 with ⟨rfl, rfl⟩ | ⟨g, cap, cur, rfl, _⟩
  · exact ⟨none, 0, rfl, h0⟩
  · exact ⟨_, _, rfl, h0⟩
theorem OwnB.len {w : World} {base n cap : Nat} {a : Option Addr} {l : Bks} (h : OwnB w base a n cap l) : l.length = n := by
  have := h.1
  rw [flatB_len] at this
  omega
theorem OwnB.capped {w : World} {base n cap : Nat} {a : Option Addr} {l : Bks} (h : OwnB w base a n cap l) : n ≤ cap ∧ (a = none → n = 0 ∧ cap = 0) := by
  unfold OwnB at h
  rcases h.2 with ⟨h1, h2⟩ | ⟨g, c, cur, h1, _, _, h4, _⟩
  · simp only [Value.slice.injEq] at h1
    exact ⟨by omega, fun _ => ⟨by omega, by omega⟩⟩
  · simp only [Value.slice.injEq, true_and] at h1
    obtain ⟨rfl, rfl⟩ := h1
    exact ⟨h4, fun h => by simp at h⟩
theorem OwnB.row {w : World} {base n cap : Nat} {a : Option Addr} {l : Bks} (h : OwnB w base a n cap l) (hn : n ≤ 17592186044416) (hf : ∀ x ∈ l, fitB x) : RowB w a n l := by
  have hl := h.len
  refine ⟨hl, hn, hf, ?_⟩
  unfold OwnB at h
  rcases id h.2 with ⟨h1, h2⟩ | ⟨g, c, cur, h1, _⟩
  · exact Or.inl h2
  · right
    simp only [Value.slice.injEq, true_and] at h1
    obtain ⟨rfl, rfl⟩ := h1
    refine ⟨g, 0, rfl, fun i hi => ?_⟩
    obtain ⟨g1, g2⟩ := flatB_get l i (by omega)
    rw [Nat.zero_add, h.cellAt (i * 2) (by omega), h.cellAt (i * 2 + 1) (by omega)]
    exact ⟨g1, g2⟩
theorem OwnB.mono {w : World} {base base' n cap : Nat} {a : Option Addr} {l : Bks} (h : OwnB w base a n cap l) (hb : base' ≤ base) : OwnB w base' a n cap l := by
  unfold OwnB at *
  refine ⟨h.1, ?_⟩
  rcases h.2 with h1 | ⟨g, c, cur, h1, h2, h3⟩
  · exact Or.inl h1
  · exact Or.inr ⟨g, c, cur, h1, Nat.le_trans hb h2, h3⟩
theorem OwnB.ch {S : Nat → Prop} {w w' : World} {base n cap : Nat} {a : Option Addr} {l : Bks} (h : OwnB w base a n cap l) (c : Ch S w w') (hn : ∀ g, (Value.slice a n cap).ownBlock = some g → ¬ S g) : OwnB w' base a n cap l := row_ch h c hn
theorem OwnB.below {B : Nat} {w w' : World} {base n cap : Nat} {a : Option Addr} {l : Bks} (h : OwnB w base a n cap l) (hb : Below B w w') (hB : w.heap.size ≤ B) : OwnB w' base a n cap l := h.ch (Ch.of_below (hb.mono hB)) (fun _ _ => id)
theorem OwnB.alloc {w : World} {base n cap : Nat} {a : Option Addr} {l : Bks} (h : OwnB w base a n cap l) (o : Obj) : OwnB (w.alloc o) base a n cap l := h.below ((Below.refl _ _).alloc (Nat.le_refl _) _) (Nat.le_refl _)
theorem OwnB.block {w : World} {base n cap : Nat} {a : Option Addr} {l : Bks} (h : OwnB w base a n cap l) : ∀ g, (Value.slice a n cap).ownBlock = some g → base ≤ g := fun _ hg => (row_cells h hg).2
theorem two_cells (w : World) (x : Int × Int) (e : TypeId) (j : Nat) (u : Value) (h : (flatB [x])[j]? = some u) : (w.alloc (.cells #[.int .i64 x.1, .int .u64 x.2] e)).cell? ((⟨w.heap.size, 0, none⟩ : Addr).add j) = some u := by
  rw [Addr.add_lit, World.cell?_alloc_mark]
  match j, h with
  | 0, h => simpa [flatB] using h
  | 1, h => simpa [flatB] using h

/-- Buckets behind a list of the call's own. -/
theorem wpList_append_bks {P : Program} (w : World) {ops : Array Oper} {rest : List Oper} {o : Oper} {a : Act} {Q : Exit → Act → World → Prop} (hgd : o.guard = none) (s x : Operand) (t : TypeId)
    (ho : o.op = .call { callee := .builtin .append, args := #[s, x], argTypes := #[t, t] })
    (base : Nat) (i : TypeInfo) (ht : P.underlying t = some (.slice 269)) (hi : P.info? 269 = some i) (hz : i.zero = some (.agg #[.int .i64 0, .int .u64 0])) (hsize : i.size = 2) (hby : i.bytes = 16)
    (ao : Option Addr) (n cap : Nat) (l : Bks) (hs : a.eval s = .slice ao n cap) (hown : OwnB w base ao n cap l)
    (ad : Addr) (m c : Nat) (news : Bks) (hx : a.eval x = .slice (some ad) m c) (hm : news.length = m) (hc : ∀ j u, (flatB news)[j]? = some u → w.cell? (ad.add j) = some u)
    (hbytes : (n + m) * 16 ≤ 140737488355328) (hbase : base ≤ w.heap.size)
    (h : ∀ a' cap' w', OwnB w' base a' (n + m) cap' (l ++ news) → Below base w w' → wpList P ops Q rest (a.put o.dst (.slice a' (n + m) cap')) w') : wpList P ops Q (o :: rest) a w := by
  refine wpList_append_own w hgd s x t ho base 269 i (.agg #[.int .i64 0, .int .u64 0]) 2 16 ht hi hz hsize hby rfl (by decide) _ n (flatB l) hs hown ad m c (flatB news) hx (by rw [flatB_len, hm]) hc (flatB_one news) (by unfold maxLen; omega) hbytes hbase ?_
  intro v' w' h1 h2 _
  rw [← flatB_append] at h1
  obtain ⟨a', cap', rfl, h3⟩ := ownB_form h1
  exact h a' cap' w' h3 ((Below.refl _ _).grown h2 hbase hown.block)

end Go.Proofs.YtknghoecjobkiaaGreatDoor

namespace Go.Proofs.YtknghoecjobkiaaGreatDoor
/-- Each above the one ahead. -/
def Up (l : List Int) : Prop := l.Pairwise (· < ·)
/-- One more. -/
def insK (h : Int) : List Int → List Int
  | [] => [h]
  | x :: t => if h < x then h :: x :: t else if h = x then x :: t else x :: insK h t
/-- Two lists put together. -/
def uni (a : List Int) : List Int → List Int
  | [] => a
  | h :: t => uni (insK h a) t

theorem mem_insK {h x : Int} {l : List Int} : x ∈ insK h l ↔ x = h ∨ x ∈ l := by
  induction l with
  | nil => simp [insK]
  | cons y t ih =>
    rw [insK]
    split
    · simp
    · split
      · rename_i e; subst e; simp
      · simp only [List.mem_cons, ih]
        constructor
        · rintro (h | h | h)
          · exact Or.inr (Or.inl h)
          · exact Or.inl h
          · exact Or.inr (Or.inr h)
        · rintro (h | h | h)
          · exact Or.inr (Or.inl h)
          · exact Or.inl h
          · exact Or.inr (Or.inr h)
theorem up_insK {h : Int} {l : List Int} (hl : Up l) : Up (insK h l) := by
  unfold Up at *
  induction l with
  | nil => simp [insK]
  | cons y t ih =>
    have h1 := List.pairwise_cons.1 hl
    rw [insK]
    split
    · rename_i hy
      refine List.pairwise_cons.2 ⟨fun z hz => ?_, hl⟩
      rcases List.mem_cons.1 hz with rfl | hz
      · exact hy
      · exact Int.lt_trans hy (h1.1 z hz)
    · split
      · exact hl
      · refine List.pairwise_cons.2 ⟨fun z hz => ?_, ih h1.2⟩
        rcases mem_insK.1 hz with rfl | hz
        · omega
        · exact h1.1 z hz
theorem mem_uni {x : Int} {a b : List Int} : x ∈ uni a b ↔ x ∈ a ∨ x ∈ b := by
  induction b generalizing a with
  | nil => simp [uni]
  | cons h t ih =>
    rw [uni, ih, mem_insK, List.mem_cons]
    constructor
    · rintro ((h | h) | h)
      · exact Or.inr (Or.inl h)
      · exact Or.inl h
      · exact Or.inr (Or.inr h)
    · rintro (h | h | h)
      · exact Or.inl (Or.inr h)
      · exact Or.inl (Or.inl h)
      · exact Or.inr h
theorem up_uni {a b : List Int} (ha : Up a) : Up (uni a b) := by
  induction b generalizing a with
  | nil => exact ha
  | cons h t ih => exact ih (up_insK ha)
/-- Two lists that rise and hold the same are one. -/
theorem up_ext {l m : List Int} (hl : Up l) (hm : Up m) (h : ∀ x, x ∈ l ↔ x ∈ m) : l = m := by
  unfold Up at *
  induction l generalizing m with
  | nil =>
    cases m with
    | nil => rfl
    | cons y t => exact absurd ((h y).2 (List.mem_cons_self ..)) (by simp)
  | cons x s ih =>
    cases m with
    | nil => exact absurd ((h x).1 (List.mem_cons_self ..)) (by simp)
    | cons y t =>
      have h1 := List.pairwise_cons.1 hl
      have h2 := List.pairwise_cons.1 hm
      have e : x = y := by
        rcases List.mem_cons.1 ((h x).1 (List.mem_cons_self ..)) with e | e
        · exact e
        · rcases List.mem_cons.1 ((h y).2 (List.mem_cons_self ..)) with e' | e'
          · exact e'.symm
          · have := h1.1 y e'
            have := h2.1 x e
            omega
      subst e
      congr 1
      refine ih h1.2 h2.2 (fun z => ?_)
      constructor
      · intro hz
        rcases List.mem_cons.1 ((h z).1 (List.mem_cons_of_mem _ hz)) with e | e
        · have := h1.1 z hz; omega
        · exact e
      · intro hz
        rcases List.mem_cons.1 ((h z).2 (List.mem_cons_of_mem _ hz)) with e | e
        · have := h2.1 z hz; omega
        · exact e
theorem up_take {l : List Int} (hl : Up l) (n : Nat) : Up (l.take n) := List.Pairwise.sublist (List.take_sublist n l) hl
theorem insK_there {h : Int} {l : List Int} (hl : Up l) (hm : h ∈ l) : insK h l = l := up_ext (up_insK hl) hl (fun x => by rw [mem_insK]; exact ⟨fun h' => h'.elim (fun e => e ▸ hm) id, Or.inr⟩)

/-- A hash is taken; of more than n the greatest one is dropped. -/
def hashK (n : Nat) (l : List Int) (h : Int) : List Int := (insK h l).take n
theorem hashK_up {n : Nat} {l : List Int} {h : Int} (hl : Up l) : Up (hashK n l h) := up_take (up_insK hl) n
theorem hashK_len (n : Nat) (l : List Int) (h : Int) : (hashK n l h).length ≤ n := by unfold hashK; rw [List.length_take]; omega
end Go.Proofs.YtknghoecjobkiaaGreatDoor

namespace Go.Proofs.YtknghoecjobkiaaGreatDoor
open Go.RowKit
set_option maxRecDepth 20000
theorem Tryz.infoU : (Tryz.prog.info? 25).map (fun i => (i.zero, i.size, i.bytes)) = some (some (.int .u64 0), 1, 8) := by kernel_rfl
/-- Words in memory of the call's own. -/
abbrev OwnU (w : World) (base : Nat) (a : Option Addr) (n cap : Nat) (zs : List Int) : Prop := Own 25 .u64 w base a n cap zs
theorem wfs_of {l : List Int} (h : ∀ x ∈ l, W64 x) : ∀ x ∈ l, (Lit.int .u64 x).wf = true := fun x hx => wf_of_u64 (h x hx)
theorem OwnU.rowU {w : World} {base n cap : Nat} {a : Option Addr} {zs : List Int} (h : OwnU w base a n cap zs) (hn : n ≤ 281474976710656) (hz : ∀ x ∈ zs, W64 x) : Row .u64 w a n zs := Own.row h hn (wfs_of hz)
theorem take_num {l : List Int} {k : Nat} (h : k < l.length) : l.take (k + 1) = l.take k ++ [l.getD k 0] := by
  rw [List.take_succ_eq_append_getElem h, List.getD_eq_getElem?_getD, List.getElem?_eq_getElem h]
  rfl
theorem drop_num {l : List Int} {k : Nat} (h : k < l.length) : l.drop k = l.getD k 0 :: l.drop (k + 1) := by
  rw [List.drop_eq_getElem_cons h, List.getD_eq_getElem?_getD, List.getElem?_eq_getElem h]
  rfl

/-- The append of a row's words, of none too, behind words of the call's own. -/
theorem wpList_append_words {P : Program} (w : World) {ops : Array Oper} {rest : List Oper} {o : Oper} {a : Act} {Q : Exit → Act → World → Prop} (hgd : o.guard = none) (s x : Operand) (t : TypeId)
    (ho : o.op = .call { callee := .builtin .append, args := #[s, x], argTypes := #[t, t] })
    (base : Nat) (e : TypeId) (i : TypeInfo) (ht : P.underlying t = some (.slice e)) (hi : P.info? e = some i) (hz : i.zero = some (.int .u64 0)) (hsize : i.size = 1) (hby : i.bytes = 8)
    (ao : Option Addr) (n cap : Nat) (zs : List Int) (hs : a.eval s = .slice ao n cap) (hown : Own e .u64 w base ao n cap zs)
    (bo : Option Addr) (m c : Nat) (news : List Int) (hx : a.eval x = .slice bo m c) (hrow : Row .u64 w bo m news) (hbo : bo = none → c = 0)
    (hbytes : (n + m) * 8 ≤ 140737488355328) (hbase : base ≤ w.heap.size)
    (h : ∀ a' cap' w', Own e .u64 w' base a' (n + m) cap' (zs ++ news) → Below base w w' → wpList P ops Q rest (a.put o.dst (.slice a' (n + m) cap')) w') : wpList P ops Q (o :: rest) a w := by
  cases bo with
  | none =>
    have h0 := hrow.nz rfl
    subst h0
    obtain rfl := hbo rfl
    have hz : news = [] := List.length_eq_zero_iff.1 hrow.1
    subst hz
    refine wpList_append_own_none hgd s x t ho base e i 1 ht hi _ n (zs.map (Value.int .u64)) hs hown hx ?_
    have := h ao cap w (by rw [List.append_nil]; exact hown) (Below.refl _ _)
    exact this
  | some ad =>
    refine wpList_append_own w hgd s x t ho base e i (.int .u64 0) 1 8 ht hi hz hsize hby rfl (by decide) _ n (zs.map (Value.int .u64)) hs hown ad m c (news.map (Value.int .u64)) hx (by simp [hrow.1]) hrow.cells (one_cell .u64 news) (by unfold maxLen; omega) (by omega) hbase ?_
    intro v' w' h1 h2 _
    rw [← List.map_append] at h1
    obtain ⟨a', cap', rfl, h3⟩ := own_form h1
    exact h a' cap' w' h3 ((Below.refl _ _).grown h2 hbase (own_block hown))

/-- Whether each is above the one ahead, behind p. -/
def upT : Int → List Int → Bool
  | _, [] => true
  | p, x :: t => decide (p < x) && upT x t
def chkK (l : List Int) : Bool := upT (-1) l && decide (l.length ≤ 1024)
def endK (p : Int) (l : List Int) : Int := l.foldl (fun _ x => x) p
theorem upT_snoc (p : Int) (l : List Int) (x : Int) : upT p (l ++ [x]) = (upT p l && decide (endK p l < x)) := by
  induction l generalizing p with
  | nil => show (decide (p < x) && true) = (true && decide (p < x)); rw [Bool.and_true, Bool.true_and]
  | cons y t ih => rw [List.cons_append, upT, upT, ih, Bool.and_assoc]; rfl
theorem endK_snoc (p : Int) (l : List Int) (x : Int) : endK p (l ++ [x]) = x := by unfold endK; rw [List.foldl_append]; rfl
theorem upT_append (p : Int) (l m : List Int) : upT p (l ++ m) = (upT p l && upT (endK p l) m) := by
  induction l generalizing p with
  | nil => simp [upT, endK]
  | cons y t ih => rw [List.cons_append, upT, upT, ih, Bool.and_assoc]; rfl
theorem upT_prefix {p : Int} {l : List Int} (k : Nat) (h : upT p (l.take k) = false) : upT p l = false := by
  rw [← List.take_append_drop k l, upT_append, h, Bool.false_and]
theorem upT_up {p : Int} {l : List Int} (h : upT p l = true) : Up l ∧ ∀ x ∈ l, p < x := by
  unfold Up
  induction l generalizing p with
  | nil => exact ⟨List.Pairwise.nil, by simp⟩
  | cons y t ih =>
    rw [upT, Bool.and_eq_true, decide_eq_true_eq] at h
    obtain ⟨h1, h2⟩ := ih h.2
    refine ⟨List.pairwise_cons.2 ⟨h2, h1⟩, fun x hx => ?_⟩
    rcases List.mem_cons.1 hx with rfl | hx
    · exact h.1
    · have := h2 x hx; omega
theorem up_upT {p : Int} {l : List Int} (h : Up l) (hp : ∀ x ∈ l, p < x) : upT p l = true := by
  unfold Up at h
  induction l generalizing p with
  | nil => rfl
  | cons y t ih =>
    have h1 := List.pairwise_cons.1 h
    rw [upT, Bool.and_eq_true, decide_eq_true_eq]
    exact ⟨hp y (List.mem_cons_self ..), ih h1.2 h1.1⟩
theorem chk_up {l : List Int} (h : chkK l = true) : Up l ∧ l.length ≤ 1024 := by
  unfold chkK at h
  rw [Bool.and_eq_true, decide_eq_true_eq] at h
  exact ⟨(upT_up h.1).1, h.2⟩
theorem up_chk {l : List Int} (h : Up l) (hl : l.length ≤ 1024) (hw : ∀ x ∈ l, W64 x) : chkK l = true := by
  unfold chkK
  rw [Bool.and_eq_true, decide_eq_true_eq]
  exact ⟨up_upT h (fun x hx => by have := (hw x hx).1; omega), hl⟩
theorem words_insK {h : Int} {l : List Int} (hh : W64 h) (hl : ∀ x ∈ l, W64 x) : ∀ x ∈ insK h l, W64 x := fun x hx => (mem_insK.1 hx).elim (fun e => e ▸ hh) (hl x)
/-- Where a hash would stand: so many are below it. -/
theorem insK_at {h : Int} {l : List Int} {k : Nat} (h1 : ∀ x ∈ l.take k, x < h) (h2 : k = l.length ∨ (k < l.length ∧ h < l.getD k 0)) : insK h l = l.take k ++ h :: l.drop k := by
  induction l generalizing k with
  | nil => simp [insK]
  | cons x t ih =>
    cases k with
    | zero =>
      rcases h2 with h2 | ⟨_, h2⟩
      · simp at h2
      · rw [insK, if_pos (by simpa using h2)]; rfl
    | succ k =>
      have hx := h1 x (by simp)
      rw [insK, if_neg (by omega), if_neg (by omega), ih (k := k) (fun z hz => h1 z (by simp [hz])) (by
        rcases h2 with h2 | ⟨h2, h3⟩
        · left; simpa using h2
        · right; exact ⟨by simpa using h2, by simpa using h3⟩)]
      rfl
theorem row_at {k : IntKind} {w : World} {a : Option Addr} {n : Nat} {zs : List Int} (h : Row k w a n zs) {j : Nat} (hj : j < n) :
    ∃ b off, a = some ⟨b, off, none⟩ ∧ ∀ i, i < n → ∀ W, Below w.heap.size w W → W.cell? ⟨b, off + i, none⟩ = some (.int k (zs.getD i 0)) := by
  obtain ⟨-, -, -, h0 | ⟨b, off, rfl, hc⟩⟩ := id h
  · omega
  · refine ⟨b, off, rfl, fun i hi W hW => ?_⟩
    have hlt : b < w.heap.size := World.block_lt_of_cell? w _ (hc i hi)
    rw [hW.cell (p := ⟨b, off + i, none⟩) hlt]
    exact hc i hi

set_option maxHeartbeats 2000000 in
theorem refchk_any (a : Option Addr) (n cap : Nat) (l : List Int) (w : World) (hr : Row .u64 w a n l) :
    Calls Tryz.prog 113 #[.slice a n cap] w fun e w' => e = .returned (.bool (chkK l)) ∧ ∃ q, w' = w.drewN q := by
  have HR := hide hr
  have HL := hide hr.1
  have hn := hr.2.1
  have HWd := hide (fun i => hr.word i)
  clear hr
  have HU1 : Hid (upT (-1) (l.take 1) = true) := by
    show _ = _
    cases l with
    | nil => rfl
    | cons x t =>
      have := (HWd.out 0).1
      simp only [List.getD_cons_zero] at this
      simp only [List.take_succ_cons, List.take_zero, upT, Bool.and_true, decide_eq_true_eq]
      omega
  go_enter Tryz.func113, Tryz.ntmps113
  go_wp2
  go_loopw [3] (fun i wr => ∃ k : Nat, 1 ≤ k ∧ (k ≤ n ∨ k = 1) ∧ i = .int .i64 k ∧ Hid (upT (-1) (l.take k) = true) ∧ Hid (∃ q, wr = w.drewN q)) (fun i _ => n - (intOf i).toNat)
  case atStart => exact ⟨1, by omega, Or.inr rfl, rfl, HU1, ⟨0, rfl⟩⟩
  case round =>
    obtain ⟨k, k1, hk, rfl, HT, HW⟩ := hrel
    obtain ⟨q, hq⟩ := HW.out
    have HQ : Hid (∀ j, ∃ q, wr.drewN j = w.drewN q) := fun j => ⟨q + j, by rw [hq]; simp [World.drewN, Nat.add_assoc]⟩
    by_cases hlt : k < n
    · obtain ⟨j, rfl⟩ : ∃ j, k = j + 1 := ⟨k - 1, by omega⟩
      obtain ⟨b, off, rfl, hcc⟩ := row_at HR.out (j := j) (by omega)
      have hwr : Below w.heap.size w wr := by rw [hq]; exact ⟨rfl, rfl, rfl, Nat.le_refl _, fun _ _ => rfl⟩
      have f1 := hcc (j + 1) hlt wr hwr
      have f0 := hcc j (by omega) wr hwr
      have HTK : Hid (upT (-1) (l.take (j + 1 + 1)) = decide (l.getD j 0 < l.getD (j + 1) 0)) := by
        show _ = _
        rw [take_num (by rw [HL.out]; exact hlt), upT_snoc, HT.out, Bool.true_and, take_num (k := j) (by rw [HL.out]; omega), endK_snoc]
      clear hcc hwr hq
      generalize l.getD (j + 1) 0 = x at *
      generalize l.getD j 0 = y at *
      have i1 : (0 : Int) ≤ (j : Int) := by omega
      have i2 : (j : Int) < (n : Int) := by omega
      have i3 : (j : Int) + 1 < (n : Int) := by omega
      by_cases hxy : x ≤ y
      · have HF : Hid (chkK l = false) := by
          show _ = _
          unfold chkK
          rw [upT_prefix (j + 1 + 1) (by rw [HTK.out]; exact decide_eq_false (by omega)), Bool.false_and]
        have d1 : decide (x ≤ y) = true := decide_eq_true hxy
        clear HT HTK
        go_wp2
        go_quiet (fail)
        go_wp2
        go_ret
        rw [HF.out]
        exact ⟨rfl, HQ.out _⟩
      · have HN : Hid (upT (-1) (l.take (j + 1 + 1)) = true) := by
          show _ = _
          rw [HTK.out]; exact decide_eq_true (by omega)
        have d1 : decide (x ≤ y) = false := decide_eq_false hxy
        clear HT HTK
        go_wp2
        go_quiet (fail)
        go_wp2
        go_roundw
        case rel => exact ⟨j + 1 + 1, by omega, by omega, by go_num, HN, HQ.out _⟩
        case measure => simp [intOf]; omega
    · have HE : Hid (chkK l = decide ((n : Int) ≤ 1024)) := by
        show _ = _
        have h := HT.out
        rw [List.take_of_length_le (by rw [HL.out]; omega)] at h
        unfold chkK
        rw [h, Bool.true_and, HL.out]
        simp only [decide_eq_decide]
        omega
      have i3 : ¬ (k : Int) < (n : Int) := by omega
      clear hq
      go_wp2
      go_ret
      rw [HE.out]
      exact ⟨rfl, HW.out⟩

set_option maxRecDepth 20000 in
theorem slice_toU (a : Option Addr) (n cap k : Nat) (hk : k ≤ cap) (w : World) :
    (Instr.slice 24 (.slice a n cap) none (some (.int .i64 (k : Int))) none).run Tryz.prog w = .ok (.slice a k cap) w := by
  rw [run_slice_h (P := Tryz.prog) w 24 a n cap Tryz.underlying24 .i64 (k : Int) (by omega) (by omega)]
  have hs : (sizeOf (Tryz.prog.elem 24)).run Tryz.prog w = .ok 1 w := by kernel_rfl
  rw [hs]
  simp only [Result.andThen, sliced, Int.toNat_natCast, Nat.zero_mul, Nat.sub_zero]
  cases a with
  | none => simp
  | some x => simp [Addr.add]
set_option maxRecDepth 20000 in
theorem slice_fromU (a : Option Addr) (n cap k : Nat) (hk : k ≤ n) (w : World) :
    (Instr.slice 24 (.slice a n cap) (some (.int .i64 (k : Int))) none none).run Tryz.prog w = .ok (.slice (if cap = k then a else a.map (·.add k)) (n - k) (cap - k)) w := by
  rw [run_slice_l (P := Tryz.prog) w 24 a n cap Tryz.underlying24 .i64 (k : Int) (by omega) (by omega)]
  have hs : (sizeOf (Tryz.prog.elem 24)).run Tryz.prog w = .ok 1 w := by kernel_rfl
  rw [hs]
  simp only [Result.andThen, sliced, Int.toNat_natCast, Nat.mul_one]

/-- Where a row of the call's own lies. -/
theorem own_lies {e : TypeId} {k : IntKind} {w : World} {base n cap : Nat} {a : Option Addr} {zs : List Int} (h : Own e k w base a n cap zs) {x : Addr} (hx : a = some x) : base ≤ x.block ∧ x.block < w.heap.size := by
  have := row_cells h (g := x.block) (by rw [hx]; rfl)
  exact ⟨this.2, this.1.lt⟩
/-- A list of words that a call hands back: the one that it was given, or one in new memory. -/
def BackU (w w' : World) (e : Ending) (a : Option Addr) (l : List Int) : Prop := ∃ a' c', e = .returned (.slice a' l.length c') ∧ Row .u64 w' a' l.length l ∧ l.length ≤ c' ∧ (a' = none → c' = 0) ∧ Below w.heap.size w w' ∧ (a' = a ∨ ∀ x, a' = some x → w.heap.size ≤ x.block ∧ x.block < w'.heap.size)

set_option maxRecDepth 20000 in
set_option maxHeartbeats 4000000 in
theorem refhash_any (a : Option Addr) (n cap : Nat) (l : List Int) (h : Int) (w : World) (hr : Row .u64 w a n l) (hup : Up l) (hn : n ≤ 1024) (hc : n ≤ cap) (hnil : a = none → cap = 0) (hh : W64 h) :
    Calls Tryz.prog 228 #[.slice a n cap, .int .u64 h] w fun e w' => BackU w w' e a (hashK 1024 l h) := by
  obtain ⟨i0, hi0⟩ := info_parts Tryz.infoU
  have HI := hide hi0
  have HR := hide hr
  have HL := hide hr.1
  have HWd := hide (fun i => hr.word i)
  have HWs := hide hr.words
  have HUp := hide hup
  have HHW := hide hh
  obtain ⟨h0, h1⟩ := hh
  clear hr hup hi0
  go_enter Tryz.func228, Tryz.ntmps228
  go_wp2
  go_loop [5] (fun i => ∃ k : Nat, k ≤ n ∧ i = .int .i64 k ∧ Hid (∀ x ∈ l.take k, x < h)) (fun i => n - (intOf i).toNat)
  case atStart => exact ⟨0, by omega, rfl, fun x hx => by simp at hx⟩
  case round =>
    obtain ⟨k, hk, rfl, HT⟩ := hrel
    by_cases hlt : k < n
    · obtain ⟨b, off, rfl, hcc⟩ := row_at HR.out hlt
      have f0 := hcc k hlt w (Below.refl _ _)
      have hy := HWd.out k
      have HTK := hide (take_num (l := l) (k := k) (by rw [HL.out]; exact hlt))
      have HDR := hide (drop_num (l := l) (k := k) (by rw [HL.out]; exact hlt))
      have HGT : Hid (l.getD k 0 = l.getD k 0) := rfl
      clear hcc
      obtain ⟨y, HYE⟩ : ∃ y, Hid (l.getD k 0 = y) := ⟨_, rfl⟩
      rw [HYE.out] at f0 hy HTK
      obtain ⟨y0, y1⟩ := hy
      have i1 : (0 : Int) ≤ (k : Int) := by omega
      have i2 : (k : Int) < (n : Int) := by omega
      by_cases hyh : y < h
      · have HN : Hid (∀ x ∈ l.take (k + 1), x < h) := by
          intro x hx
          rw [HTK.out] at hx
          rcases List.mem_append.1 hx with hx | hx
          · exact HT.out x hx
          · simp only [List.mem_singleton] at hx; subst hx; exact hyh
        have d1 : decide (y < h) = true := decide_eq_true hyh
        clear HT
        go_wp2
        exact ⟨⟨k + 1, by omega, by go_num, HN⟩, by simp [intOf]; omega⟩
      · have d1 : decide (y < h) = false := decide_eq_false hyh
        by_cases hye : y = h
        · have d2 : (y == h) = true := by simpa using hye
          have HE : Hid (hashK 1024 l h = l) := by
            show _ = _
            have hm : h ∈ l := by
              rw [← hye, ← HYE.out, List.getD_eq_getElem?_getD, List.getElem?_eq_getElem (by rw [HL.out]; exact hlt)]
              exact List.getElem_mem _
            unfold hashK
            rw [insK_there HUp.out hm, List.take_of_length_le (by rw [HL.out]; exact hn)]
          clear hye HYE hyh
          go_wp2
          go_ret
          rw [HE.out]
          exact ⟨_, cap, by rw [HL.out]; rfl, by rw [HL.out]; exact HR.out, by rw [HL.out]; exact hc, hnil, Below.refl _ _, Or.inl rfl⟩
        · have d2 : (y == h) = false := by simpa using hye
          have hk2 : k < 1024 := by omega
          have HIA : Hid (insK h l = l.take k ++ h :: l.drop k) := insK_at HT.out (Or.inr ⟨by rw [HL.out]; exact hlt, by rw [HYE.out]; omega⟩)
          clear hye HYE hyh HT
          have f1 := slice_toU (some ⟨b, off, none⟩) n cap k (by omega)
          have f2 := slice_fromU (some ⟨b, off, none⟩) n cap k (by omega)
          generalize hD : (if cap = k then (some (⟨b, off, none⟩ : Addr)) else Option.map (·.add k) (some (⟨b, off, none⟩ : Addr))) = D at f2
          have RT := hide (HR.out.to k (by omega))
          have RF : Hid (Row .u64 w D (n - k) (l.drop k)) := by rw [← hD]; exact HR.out.from k (by omega) hc
          have HDN : Hid (D = none → cap - k = 0) := by
            rw [← hD]
            intro hdn
            by_cases hck : cap = k
            · omega
            · rw [if_neg hck] at hdn; cases hdn
          clear hD
          go_wp2_with (at_builtin; refine wpList_append_words _ rfl _ _ 24 rfl w.heap.size 25 i0 Tryz.underlying24 HI.out.1 HI.out.2.1 HI.out.2.2.1 HI.out.2.2.2 none 0 0 [] rfl (own_nil _ _ _ _) (some ⟨b, off, none⟩) k cap (l.take k) rfl RT.out (fun e => by cases e) (by omega) (Nat.le_refl _) ?_)
          intro a2 c2 w2 o2 b2
          try rw [Nat.zero_add] at o2
          try rw [List.nil_append] at o2
          try rw [Nat.zero_add]
          have O2 := hide o2
          have B2 := hide b2
          have HBW : Hid (w.heap.size ≤ w2.heap.size) := b2.size
          clear o2 b2
          go_wp2_with (at_builtin; refine wpList_append_words _ rfl _ _ 24 rfl w.heap.size 25 i0 Tryz.underlying24 HI.out.1 HI.out.2.1 HI.out.2.2.1 HI.out.2.2.2 a2 k c2 (l.take k) rfl (O2.out.alloc _) (some ⟨w2.heap.size, 0, none⟩) 1 1 [h] rfl (one_row w2 h (wf_of_u64 HHW.out) _ _) (fun e => by cases e) (by omega) (by have := HBW.out; simp; omega) ?_)
          intro a3 c3 w3 o3 b3
          have O3 := hide o3
          have B3 : Hid (Below w.heap.size w w3) := (bel_al B2.out (Nat.le_refl _) _).trans b3
          have HBW3 : Hid (w.heap.size ≤ w3.heap.size) := B3.out.size
          clear o3 b3 O2 B2 HBW
          go_wp2_with (at_builtin; refine wpList_append_words _ rfl _ _ 24 rfl w.heap.size 25 i0 Tryz.underlying24 HI.out.1 HI.out.2.1 HI.out.2.2.1 HI.out.2.2.2 a3 (k + 1) c3 (l.take k ++ [h]) rfl O3.out D (n - k) (cap - k) (l.drop k) rfl (RF.out.below B3.out (Nat.le_refl _)) HDN.out (by omega) HBW3.out ?_)
          intro a4 c4 w4 o4 b4
          rw [← HIA.out, show k + 1 + (n - k) = n + 1 by omega] at o4
          rw [show k + 1 + (n - k) = n + 1 by omega]
          have O4 := hide o4
          have B4 : Hid (Below w.heap.size w w4) := B3.out.trans b4
          have hcap4 := o4.capped
          have HNW : Hid (∀ x, a4 = some x → w.heap.size ≤ x.block ∧ x.block < w4.heap.size) := fun x hx => own_lies o4 hx
          have R4 := hide (OwnU.rowU o4 (by omega) (words_insK HHW.out HWs.out))
          have f3 := slice_toU a4 (n + 1) c4 1024
          clear o4 b4 O3 B3 HBW3 f1 f2 RT RF HDN HIA
          by_cases hm : n = 1024
          · have d3 : (1024 : Int) < (n : Int) + 1 := by omega
            have HE : Hid (hashK 1024 l h = (insK h l).take 1024) := rfl
            have hlen : ((insK h l).take 1024).length = 1024 := by rw [List.length_take, O4.out.len]; omega
            have f4 := f3 (by omega)
            have HLen := hide hlen
            clear hlen f3
            go_wp2
            go_ret
            rw [HE.out]
            exact ⟨a4, c4, by rw [HLen.out]; rfl, by rw [HLen.out]; exact R4.out.to 1024 (by omega), by rw [HLen.out]; omega, hcap4.2, B4.out, Or.inr HNW.out⟩
          · have d3 : ¬ (1024 : Int) < (n : Int) + 1 := by omega
            have HE : Hid (hashK 1024 l h = insK h l) := by
              show _ = _
              unfold hashK
              exact List.take_of_length_le (by rw [O4.out.len]; omega)
            have HLen := hide O4.out.len
            clear f3
            go_wp2
            go_ret
            rw [HE.out]
            exact ⟨a4, c4, by rw [HLen.out]; rfl, by rw [HLen.out]; exact R4.out, by rw [HLen.out]; exact hcap4.1, hcap4.2, B4.out, Or.inr HNW.out⟩
    · have hkn : k = n := by omega
      by_cases hbig : 1024 ≤ n
      · have HE : Hid (hashK 1024 l h = l) := by
          show _ = _
          have e : n = 1024 := by omega
          unfold hashK
          rw [insK_at HT.out (Or.inl (by rw [HL.out]; exact hkn)), List.take_append_of_le_length (by rw [List.length_take, HL.out]; omega), List.take_take, List.take_of_length_le (by rw [HL.out]; omega)]
        have i3 : ¬ (k : Int) < (n : Int) := by omega
        have i4 : (1024 : Int) ≤ (k : Int) := by omega
        clear HT
        go_wp2
        go_ret
        rw [HE.out]
        exact ⟨_, cap, by rw [HL.out]; rfl, by rw [HL.out]; exact HR.out, by rw [HL.out]; exact hc, hnil, Below.refl _ _, Or.inl rfl⟩
      · have HIA : Hid (insK h l = l.take k ++ h :: l.drop k) := insK_at HT.out (Or.inl (by rw [HL.out]; exact hkn))
        have hk2 : k < 1024 := by omega
        have i3 : ¬ (k : Int) < (n : Int) := by omega
        have i4 : ¬ (1024 : Int) ≤ (k : Int) := by omega
        clear HT hkn
        have f1 := slice_toU a n cap k (by omega)
        have f2 := slice_fromU a n cap k (by omega)
        generalize hD : (if cap = k then a else Option.map (·.add k) a) = D at f2
        have RT := hide (HR.out.to k (by omega))
        have RF : Hid (Row .u64 w D (n - k) (l.drop k)) := by rw [← hD]; exact HR.out.from k (by omega) hc
        have HDN : Hid (D = none → cap - k = 0) := by
          rw [← hD]
          intro hdn
          cases a with
          | none => have := hnil rfl; omega
          | some x =>
            by_cases hck : cap = k
            · omega
            · rw [if_neg hck] at hdn; cases hdn
        clear hD
        go_wp2_with (at_builtin; go_must (refine wpList_append_words _ rfl _ _ 24 rfl w.heap.size 25 i0 Tryz.underlying24 HI.out.1 HI.out.2.1 HI.out.2.2.1 HI.out.2.2.2 none 0 0 [] rfl (own_nil _ _ _ _) a k cap (l.take k) rfl RT.out hnil (by omega) (Nat.le_refl _) ?_))
        intro a2 c2 w2 o2 b2
        try rw [Nat.zero_add] at o2
        try rw [List.nil_append] at o2
        try rw [Nat.zero_add]
        have O2 := hide o2
        have B2 := hide b2
        have HBW : Hid (w.heap.size ≤ w2.heap.size) := b2.size
        clear o2 b2
        go_wp2_with (at_builtin; refine wpList_append_words _ rfl _ _ 24 rfl w.heap.size 25 i0 Tryz.underlying24 HI.out.1 HI.out.2.1 HI.out.2.2.1 HI.out.2.2.2 a2 k c2 (l.take k) rfl (O2.out.alloc _) (some ⟨w2.heap.size, 0, none⟩) 1 1 [h] rfl (one_row w2 h (wf_of_u64 HHW.out) _ _) (fun e => by cases e) (by omega) (by have := HBW.out; simp; omega) ?_)
        intro a3 c3 w3 o3 b3
        have O3 := hide o3
        have B3 : Hid (Below w.heap.size w w3) := (bel_al B2.out (Nat.le_refl _) _).trans b3
        have HBW3 : Hid (w.heap.size ≤ w3.heap.size) := B3.out.size
        clear o3 b3 O2 B2 HBW
        go_wp2_with (at_builtin; refine wpList_append_words _ rfl _ _ 24 rfl w.heap.size 25 i0 Tryz.underlying24 HI.out.1 HI.out.2.1 HI.out.2.2.1 HI.out.2.2.2 a3 (k + 1) c3 (l.take k ++ [h]) rfl O3.out D (n - k) (cap - k) (l.drop k) rfl (RF.out.below B3.out (Nat.le_refl _)) HDN.out (by omega) HBW3.out ?_)
        intro a4 c4 w4 o4 b4
        rw [← HIA.out, show k + 1 + (n - k) = n + 1 by omega] at o4
        rw [show k + 1 + (n - k) = n + 1 by omega]
        have O4 := hide o4
        have B4 : Hid (Below w.heap.size w w4) := B3.out.trans b4
        have hcap4 := o4.capped
        have HNW : Hid (∀ x, a4 = some x → w.heap.size ≤ x.block ∧ x.block < w4.heap.size) := fun x hx => own_lies o4 hx
        have R4 := hide (OwnU.rowU o4 (by omega) (words_insK HHW.out HWs.out))
        have f3 := slice_toU a4 (n + 1) c4 1024
        clear o4 b4 O3 B3 HBW3 f1 f2 RT RF HDN HIA
        by_cases hm : n = 1024
        · have d3 : (1024 : Int) < (n : Int) + 1 := by omega
          have HE : Hid (hashK 1024 l h = (insK h l).take 1024) := rfl
          have hlen : ((insK h l).take 1024).length = 1024 := by rw [List.length_take, O4.out.len]; omega
          have f4 := f3 (by omega)
          have HLen := hide hlen
          clear hlen f3
          go_wp2
          go_ret
          rw [HE.out]
          exact ⟨a4, c4, by rw [HLen.out]; rfl, by rw [HLen.out]; exact R4.out.to 1024 (by omega), by rw [HLen.out]; omega, hcap4.2, B4.out, Or.inr HNW.out⟩
        · have d3 : ¬ (1024 : Int) < (n : Int) + 1 := by omega
          have HE : Hid (hashK 1024 l h = insK h l) := by
            show _ = _
            unfold hashK
            exact List.take_of_length_le (by rw [O4.out.len]; omega)
          have HLen := hide O4.out.len
          clear f3
          go_wp2
          go_ret
          rw [HE.out]
          exact ⟨a4, c4, by rw [HLen.out]; rfl, by rw [HLen.out]; exact R4.out, by rw [HLen.out]; exact hcap4.1, hcap4.2, B4.out, Or.inr HNW.out⟩
set_option maxHeartbeats 1000000 in
theorem refbucket_any (v : Int) (w : World) (hv : W64 v) :
    Calls Tryz.prog 170 #[.int .u64 v] w fun e w' => e = .returned (.int .i64 (bucketS v)) ∧ w' = w := by
  have HV := hide hv
  clear hv
  go_enter Tryz.func170, Tryz.ntmps170
  go_wp2
  go_loop [0, 3] (fun x y => ∃ (u : Int) (k f : Nat), x = .int .u64 u ∧ y = .int .i64 k ∧ 0 ≤ u ∧ u < 18446744073709551616 ∧ k + f = 56 ∧ Hid (u < 256 * 2 ^ f ∧ 128 * (k : Int) + bkt f u = bucketS v)) (fun x _ => (intOf x).toNat)
  case atStart => exact ⟨v, 0, 56, rfl, rfl, HV.out.1, HV.out.2, rfl, ⟨by have := HV.out.2; omega, by unfold bucketS; omega⟩⟩
  case round =>
    obtain ⟨u, k, f, rfl, rfl, u0, u1, hkf, HP⟩ := hrel
    by_cases hu : u < 256
    · have HE : Hid (128 * (k : Int) + u = bucketS v) := by
        have h2 := HP.out.2
        show _ = _
        rw [← h2]
        cases f with
        | zero => rfl
        | succ f => simp [bkt, hu]
      go_wp2
      go_ret
      rw [← HE.out]
      exact ⟨by go_num, rfl⟩
    · have HF : Hid (∃ g, f = g + 1 ∧ u / 2 < 256 * 2 ^ g ∧ 128 * ((k + 1 : Nat) : Int) + bkt g (u / 2) = bucketS v) := by
        obtain ⟨h1, h2⟩ := HP.out
        cases f with
        | zero => simp at h1; omega
        | succ g =>
          rw [two_succ] at h1
          refine ⟨g, rfl, by omega, ?_⟩
          rw [← h2, bkt, if_neg hu]
          omega
      go_wp2
      obtain ⟨g, rfl, h1, h2⟩ := HF.out
      exact ⟨⟨u / 2, k + 1, g, by go_num, by go_num, by omega, by omega, by omega, ⟨h1, h2⟩⟩, by simp [intOf]; omega⟩

set_option maxHeartbeats 4000000 in
theorem refcheck_any (a : Option Addr) (n cap : Nat) (l : Bks) (w : World) (hr : RowB w a n l) :
    Calls Tryz.prog 112 #[.slice a n cap] w fun e w' => e = .returned (.bool (checkS l)) ∧ ∃ q, w' = w.drewN q := by
  have HR := hide hr
  have HL := hide hr.1
  have hn := hr.2.1
  clear hr
  go_enter Tryz.func112, Tryz.ntmps112
  go_wp2
  go_loopw [3] (fun i wr => ∃ k : Nat, k ≤ n ∧ i = .int .i64 k ∧ Hid (checkF (-1) (l.take k) = true) ∧ Hid (∃ q, wr = w.drewN q)) (fun i _ => n - (intOf i).toNat)
  case atStart => exact ⟨0, by omega, rfl, rfl, ⟨0, rfl⟩⟩
  case round =>
    obtain ⟨k, hk, rfl, HT, HW⟩ := hrel
    by_cases hlt : k < n
    · obtain ⟨q, hq⟩ := HW.out
      have HFit := hide (getD_fit HR.out.2.2.1 k)
      obtain ⟨_, _, _, h | ⟨b, off, rfl, hc⟩⟩ := HR.out
      · omega
      obtain ⟨g0, g0'⟩ := hc k hlt
      have f0 : wr.cell? ⟨b, off + k * 2, none⟩ = some (.int .i64 (l.getD k (0, 0)).1) := by rw [hq]; exact g0
      have f1 : wr.cell? ⟨b, off + k * 2 + 1, none⟩ = some (.int .u64 (l.getD k (0, 0)).2) := by rw [hq]; exact g0'
      have HS := hide (take_bks (l := l) (k := k) (by rw [HL.out]; exact hlt))
      have i1 : (0 : Int) ≤ (k : Int) := by omega
      have i2 : (k : Int) < (n : Int) := by omega
      have HP : Hid (0 < k → l.getD (k - 1) (0, 0) = ((lastD (-1) (l.take k)), (l.getD (k - 1) (0, 0)).2)) := by
        intro h0
        obtain ⟨j, rfl⟩ : ∃ j, k = j + 1 := ⟨k - 1, by omega⟩
        have := take_bks (l := l) (k := j) (by rw [HL.out]; omega)
        rw [this]
        rw [Nat.add_sub_cancel]
        generalize l.getD j (0, 0) = y
        obtain ⟨y1, y2⟩ := y
        rw [lastD_snoc]
      have HZ : Hid (k = 0 → lastD (-1) (l.take k) = -1) := by rintro rfl; rfl
      have HC2 : Hid (∀ (x y : Int), l.getD k (0, 0) = (x, y) → checkF (-1) (l.take (k + 1)) = decide (lastD (-1) (l.take k) < x ∧ x ≤ 7423 ∧ 0 < y)) := by
        intro x y hxy
        rw [HS.out, hxy, checkF_snoc, HT.out, Bool.true_and]
      have HP2 : Hid (0 < k → wr.cell? ⟨b, off + (k - 1) * 2, none⟩ = some (.int .i64 (lastD (-1) (l.take k)))) := by
        intro h0
        have g1 := (hc (k - 1) (by omega)).1
        rw [HP.out h0] at g1
        rw [hq]; exact g1
      have HGE := (checkF_lastD HT.out).1
      have HGE0 := hide HGE
      have HD : Hid (checkF (-1) (l.take (k + 1)) = false → checkS l = false) := fun h => checkF_prefix (k + 1) h
      have HQ : Hid (∀ j, ∃ q, wr.drewN j = w.drewN q) := fun j => ⟨q + j, by rw [hq]; simp [World.drewN, Nat.add_assoc]⟩
      clear hc g0 g0' HP hq
      generalize l.getD k (0, 0) = x at *
      obtain ⟨x, y⟩ := x
      simp only at f0 f1
      have hw := u64_of_wf HFit.out.2
      have y0 := hw.1
      simp only at y0
      have HCK := hide (HC2.out x y rfl)
      clear HC2 hw HFit HS
      generalize lastD (-1) (l.take k) = L at *
      clear HGE0
      by_cases c1 : x < 0
      · have d1 : decide (x < 0) = true := decide_eq_true c1
        have HF : Hid (checkS l = false) := HD.out (by rw [HCK.out]; simp only [decide_eq_false_iff_not]; omega)
        clear HP2 HCK HD HT
        go_wp2
        go_quiet (fail)
        go_wp2
        go_ret
        rw [HF.out]
        exact ⟨rfl, HQ.out _⟩
      have d1 : decide (x < 0) = false := decide_eq_false c1
      by_cases c2 : 7424 ≤ x
      · have d2 : decide (7424 ≤ x) = true := decide_eq_true c2
        have HF : Hid (checkS l = false) := HD.out (by rw [HCK.out]; simp only [decide_eq_false_iff_not]; omega)
        clear HP2 HCK HD HT
        go_wp2
        go_quiet (fail)
        go_wp2
        go_ret
        rw [HF.out]
        exact ⟨rfl, HQ.out _⟩
      have d2 : decide (7424 ≤ x) = false := decide_eq_false c2
      by_cases c3 : y = 0
      · have d3 : (y == 0) = true := by simpa using c3
        have HF : Hid (checkS l = false) := HD.out (by rw [HCK.out]; simp only [decide_eq_false_iff_not]; omega)
        clear HP2 HCK HD HT
        go_wp2
        go_quiet (fail)
        go_wp2
        go_ret
        rw [HF.out]
        exact ⟨rfl, HQ.out _⟩
      have d3 : (y == 0) = false := by simpa using c3
      by_cases c4 : k = 0
      · have HF : Hid (checkF (-1) (l.take (k + 1)) = true) := by
          have := HZ.out c4
          show _ = _
          rw [HCK.out]; simp only [decide_eq_true_eq]; omega
        subst c4
        clear HZ
        rw [Nat.zero_mul, Nat.add_zero] at f0 f1
        clear HP2 HCK HD HT
        go_wp2
        go_quiet (fail)
        go_wp2
        go_roundw
        case rel => exact ⟨0 + 1, by omega, by go_num, HF, HQ.out _⟩
        case measure => simp [intOf]; omega
      obtain ⟨j, rfl⟩ : ∃ j, k = j + 1 := ⟨k - 1, by omega⟩
      have f2 := HP2.out (by omega)
      rw [Nat.add_sub_cancel] at f2
      have d4 : decide ((0 : Int) < (j : Int) + 1) = true := decide_eq_true (by omega)
      have i3 : (0 : Int) ≤ (j : Int) := by omega
      have i4 : (j : Int) < (n : Int) := by omega
      by_cases c5 : x ≤ L
      · have d5 : decide (x ≤ L) = true := decide_eq_true c5
        have HF : Hid (checkS l = false) := HD.out (by rw [HCK.out]; simp only [decide_eq_false_iff_not]; omega)
        clear HP2 HCK HD HT
        go_wp2
        go_quiet (fail)
        go_wp2
        go_ret
        rw [HF.out]
        exact ⟨rfl, HQ.out _⟩
      · have d5 : decide (x ≤ L) = false := decide_eq_false c5
        have HF : Hid (checkF (-1) (l.take (j + 1 + 1)) = true) := by
          show _ = _
          rw [HCK.out]; simp only [decide_eq_true_eq]; omega
        clear HP2 HCK HD HT
        go_wp2
        go_quiet (fail)
        go_wp2
        go_roundw
        case rel => exact ⟨j + 1 + 1, by omega, by go_num, HF, HQ.out _⟩
        case measure => simp [intOf]; omega
    · have : k = n := by omega
      subst this
      have HE : Hid (checkS l = true) := by
        have := HT.out
        rw [List.take_of_length_le (by rw [HL.out]; omega)] at this
        exact this
      go_wp2
      go_ret
      rw [HE.out]
      exact ⟨rfl, HW.out⟩
end Go.Proofs.YtknghoecjobkiaaGreatDoor

namespace Go.Proofs.YtknghoecjobkiaaGreatDoor
section
variable {P : Program} {ops : Array Oper} {Q : Exit → Act → World → Prop} {md : Region.Mode} {S : World → Prop}

theorem held_take {i : Nat} {oi : Oper} {d : Option Tmp} {v : Value} {fuel : Nat} {listed : Array Bool} {a : Act} {w : World} (hi : ops[i]? = some oi) (hd : oi.dst = d)
    (hs : Region.noSelect ops = true) (hf : Region.free md ops listed i = true) (hr : (Region.ready md ops listed).contains i = true)
    (hQ : ∀ c a w, Q (.panic c) (a.put d v) w → Q (.panic c) a w) (hy : YieldsIf P ops S oi v a) (hS : S w)
    (h : wpAnyH P md ops Q S fuel (listed.setIfInBounds i true) (a.put d v) w) : wpAnyH P md ops Q S (fuel + 1) listed a w := by
  subst hd
  exact wpAnyH_take hi hs hf hr hQ hy hS h

theorem held_mono {S' : World → Prop} (hS : ∀ w, S' w → S w) : ∀ (fuel : Nat) (listed : Array Bool) (a : Act) (w : World), wpAnyH P md ops Q S' fuel listed a w → wpAnyH P md ops Q S fuel listed a w
  | 0, _, _, _, h => h
  | fuel + 1, _, _, _, h => ⟨h.1, fun i hi => wpOp_mono (fun _ _ h' => ⟨hS _ h'.1, held_mono hS fuel _ _ _ h'.2⟩) (h.2 i hi)⟩

theorem held_call {i : Nat} {o : Oper} {fuel : Nat} {listed : Array Bool} {a : Act} {w : World} (hr : Region.ready md ops listed = [i]) (ho : ops[i]? = some o) (hw : Region.wanted o (yielded ops a.tmps) = true)
    (h : ∀ K' : Act → World → Prop, Shut (∀ a w, S w → wpAnyH P md ops Q (fun w' => w' = w) fuel (listed.setIfInBounds i true) a w → K' a w) → Oper.wp P o a w K' Q) : wpAnyH P md ops Q S (fuel + 1) listed a w := by
  refine wpAnyH_all hr (by simp) ?_
  intro j hj
  have : j = i := by simpa using hj
  subst this
  unfold wpOp
  simp only [ho]
  rw [if_pos hw]
  refine Or.inl (h _ ?_)
  intro a' w' hS h'
  exact ⟨hS, held_mono (by rintro _ rfl; exact hS) _ _ _ _ h'⟩

/-- The same, where the condition stays as it was. -/
theorem held_next {i : Nat} {o : Oper} {fuel : Nat} {listed : Array Bool} {a : Act} {w : World} (hr : Region.ready md ops listed = [i]) (ho : ops[i]? = some o) (hw : Region.wanted o (yielded ops a.tmps) = true)
    (h : ∀ K' : Act → World → Prop, Shut (∀ a w, S w → wpAnyH P md ops Q S fuel (listed.setIfInBounds i true) a w → K' a w) → Oper.wp P o a w K' Q) : wpAnyH P md ops Q S (fuel + 1) listed a w := by
  refine wpAnyH_all hr (by simp) ?_
  intro j hj
  have : j = i := by simpa using hj
  subst this
  unfold wpOp
  simp only [ho]
  rw [if_pos hw]
  refine Or.inl (h _ ?_)
  intro a' w' hS h'
  exact ⟨hS, h'⟩
end

/-! The same in one row: the side goals are settled in place. -/
theorem held_tk {P : Program} {ops : Array Oper} {Q : Exit → Act → World → Prop} {md : Region.Mode} {S : World → Prop} (i : Nat) (d : Option Tmp) {oi : Oper} {v : Value} {fuel : Nat} {listed listed' : Array Bool} {a a' : Act} {w : World} (hi : ops[i]? = some oi) (hd : oi.dst = d)
    (h : wpAnyH P md ops Q S fuel listed' a' w)
    (hs : Region.noSelect ops = true := by kernel_rfl) (hf : Region.free md ops listed i = true := by kernel_rfl) (hr : (Region.ready md ops listed).contains i = true := by kernel_rfl)
    (hw : Region.wanted oi (yielded ops a.tmps) = true := by rfl)
    (hy : ∀ w, S w → (execOp a.eval oi).run P w = .ok (.value v) w := by (intro w hSw; (try dsimp only at hSw); (try subst hSw); go_simp; try with_reducible rfl))
    (hQ : ∀ c a w, Q (.panic c) (a.put d v) w → Q (.panic c) a w := by exact fun _ _ _ h => h)
    (hS : S w := by first | assumption | rfl | trivial)
    (hl : listed.setIfInBounds i true = listed' := by (first | (simp only [List.setIfInBounds_toArray, List.set_cons_zero, List.set_cons_succ]; with_reducible rfl) | with_reducible rfl))
    (ha : a.put d v = a' := by (first | (simp only [Act.put, List.setIfInBounds_toArray, List.set_cons_zero, List.set_cons_succ]; with_reducible rfl) | with_reducible rfl)) : wpAnyH P md ops Q S (fuel + 1) listed a w := by
  subst hd hl ha
  exact wpAnyH_take hi hs hf hr hQ (Or.inl ⟨hw, hy⟩) hS h
end Go.Proofs.YtknghoecjobkiaaGreatDoor

namespace Go.Proofs.YtknghoecjobkiaaGreatDoor
open Go.RowKit
set_option maxRecDepth 20000
theorem good_fit {l : Bks} (h : Good l) : ∀ x ∈ l, fitB x := by
  intro x hx
  obtain ⟨k, hk, rfl⟩ := List.getElem_of_mem hx
  have h1 := checkF_range (Int.le_refl _) h.check hk
  rw [List.getD_eq_getElem?_getD, List.getElem?_eq_getElem hk] at h1
  have h2 := h.words _ (List.getElem_mem hk)
  simp only [Option.getD_some] at h1
  refine ⟨?_, wf_of_u64 h2⟩
  simp [Lit.wf, IntKind.min, IntKind.max, IntKind.signed, IntKind.bits]
  omega
theorem good_size {l : Bks} (h : Good l) : l.length ≤ 7424 := by
  rcases checkF_len h.check with h1 | h1
  · omega
  · subst h1; simp
theorem good_from {l : Bks} (hck : checkS l = true) (hf : ∀ x ∈ l, fitB x) : Good l := ⟨hck, fit_words hf⟩
end Go.Proofs.YtknghoecjobkiaaGreatDoor

namespace Go.Proofs.YtknghoecjobkiaaGreatDoor
/-- Two words' bits, those that one of them alone has. -/
def fxor (a b : Int) : Int := ((a.toNat ^^^ b.toNat : Nat) : Int)
/-- One byte more. -/
def fnv1 (h b : Int) : Int := fxor h b * 1099511628211 % 18446744073709551616
/-- More bytes behind a number. -/
def fnvS (h : Int) (l : List Int) : Int := l.foldl fnv1 h
/-- A thing's number. -/
def fnvOf (l : List Int) : Int := fnvS 14695981039346656037 l

theorem fxor_word {a b : Int} (ha : W64 a) (hb : W64 b) : W64 (fxor a b) := by
  unfold W64 at *
  have h : a.toNat ^^^ b.toNat < 2 ^ 64 := Nat.xor_lt_two_pow (by omega) (by omega)
  unfold fxor
  exact ⟨by omega, by omega⟩
theorem fnv1_word (h b : Int) : W64 (fnv1 h b) := by unfold fnv1 W64; exact ⟨by omega, by omega⟩
theorem fnvS_word {h : Int} (hh : W64 h) (l : List Int) : W64 (fnvS h l) := by
  unfold fnvS
  induction l generalizing h with
  | nil => exact hh
  | cons x r ih => exact ih (fnv1_word h x)
theorem fnvS_append (h : Int) (a b : List Int) : fnvS h (a ++ b) = fnvS (fnvS h a) b := by unfold fnvS; rw [List.foldl_append]
theorem fnvS_one (h z : Int) (l : List Int) : fnvS h (l ++ [z]) = fnv1 (fnvS h l) z := by rw [fnvS_append]; rfl
theorem fnvOf_word (l : List Int) : W64 (fnvOf l) := fnvS_word ⟨by decide, by decide⟩ l
/-- The product as a sum of shifts. -/
theorem fnv1_shifts (x : Int) : ((((((x * 1099511627776 % 18446744073709551616 + x * 256 % 18446744073709551616) % 18446744073709551616 + x * 128 % 18446744073709551616) % 18446744073709551616 + x * 32 % 18446744073709551616) % 18446744073709551616 + x * 16 % 18446744073709551616) % 18446744073709551616 + x * 2 % 18446744073709551616) % 18446744073709551616 + x) % 18446744073709551616 = x * 1099511628211 % 18446744073709551616 := by omega
end Go.Proofs.YtknghoecjobkiaaGreatDoor

namespace Go.Proofs.YtknghoecjobkiaaGreatDoor
open Go.RowKit
set_option maxRecDepth 20000
theorem Tryz.info5 : (Tryz.prog.info? 5).map (fun i => (i.zero, i.size, i.bytes)) = some (some (.int .u8 0), 1, 1) := by kernel_rfl

/-- Bytes of the call's own. -/
abbrev Mine (w : World) (base : Nat) (a : Option Addr) (n cap : Nat) (zs : List Int) : Prop := Own 5 .u8 w base a n cap zs

theorem slice_full (a : Option Addr) (n cap : Nat) (hk : n ≤ cap) (w : World) :
    (Instr.slice 40 (.slice a n cap) none (some (.int .i64 (n : Int))) (some (.int .i64 (n : Int)))).run Tryz.prog w = .ok (.slice a n n) w := by
  rw [run_slice_hm (P := Tryz.prog) w 40 a n cap Tryz.underlying40 .i64 .i64 (n : Int) (n : Int) (by omega) (by omega) (by omega)]
  have hs : (sizeOf (Tryz.prog.elem 40)).run Tryz.prog w = .ok 1 w := by kernel_rfl
  rw [hs]
  simp only [Result.andThen, sliced, Int.toNat_natCast, Nat.zero_mul, Nat.sub_zero]
  cases a with
  | none => simp
  | some x => simp [Addr.add]

theorem slice_to (a : Option Addr) (n cap k : Nat) (hk : k ≤ cap) (w : World) :
    (Instr.slice 40 (.slice a n cap) none (some (.int .i64 (k : Int))) none).run Tryz.prog w = .ok (.slice a k cap) w := by
  rw [run_slice_h (P := Tryz.prog) w 40 a n cap Tryz.underlying40 .i64 (k : Int) (by omega) (by omega)]
  have hs : (sizeOf (Tryz.prog.elem 40)).run Tryz.prog w = .ok 1 w := by kernel_rfl
  rw [hs]
  simp only [Result.andThen, sliced, Int.toNat_natCast, Nat.zero_mul, Nat.sub_zero]
  cases a with
  | none => simp
  | some x => simp [Addr.add]

theorem slice_from (a : Option Addr) (n cap k : Nat) (hk : k ≤ n) (w : World) :
    (Instr.slice 40 (.slice a n cap) (some (.int .i64 (k : Int))) none none).run Tryz.prog w = .ok (.slice (if cap = k then a else a.map (·.add k)) (n - k) (cap - k)) w := by
  rw [run_slice_l (P := Tryz.prog) w 40 a n cap Tryz.underlying40 .i64 (k : Int) (by omega) (by omega)]
  have hs : (sizeOf (Tryz.prog.elem 40)).run Tryz.prog w = .ok 1 w := by kernel_rfl
  rw [hs]
  simp only [Result.andThen, sliced, Int.toNat_natCast, Nat.mul_one]

theorem slice_mid (a : Option Addr) (n cap l h : Nat) (h1 : l ≤ h) (h2 : h ≤ cap) (w : World) :
    (Instr.slice 40 (.slice a n cap) (some (.int .i64 (l : Int))) (some (.int .i64 (h : Int))) none).run Tryz.prog w = .ok (.slice (if cap = l then a else a.map (·.add l)) (h - l) (cap - l)) w := by
  rw [run_slice_lh (P := Tryz.prog) w 40 a n cap Tryz.underlying40 .i64 .i64 (l : Int) (h : Int) (by omega) (by omega) (by omega)]
  have hs : (sizeOf (Tryz.prog.elem 40)).run Tryz.prog w = .ok 1 w := by kernel_rfl
  rw [hs]
  simp only [Result.andThen, sliced, Int.toNat_natCast, Nat.mul_one]

theorem apart_any (a : Option Addr) (n cap : Nat) (hk : n ≤ cap) (w : World) :
    Calls Tryz.prog 118 #[.slice a n cap] w fun e w' => e = .returned (.slice a n n) ∧ w' = w := by
  have hs := slice_full a n cap hk
  go_enter Tryz.func118, Tryz.ntmps118
  go_wp2
  go_ret
  exact ⟨rfl, rfl⟩

set_option maxHeartbeats 1000000 in
theorem number_any (v : Int) (base : Nat) (a : Option Addr) (n cap : Nat) (zs : List Int) (w : World) (hv : W64 v) (hn : n ≤ 211106232532980) (hB : base ≤ w.heap.size) (hs : Src 5 .u8 w base a n cap zs) :
    Calls Tryz.prog 117 #[.slice a n cap, .int .u64 v] w fun e w' => ∃ a' cap', e = .returned (.slice a' (n + (putS v).length) cap') ∧ Mine w' base a' (n + (putS v).length) cap' (zs ++ putS v) ∧ Below base w w' := by
  obtain ⟨i0, hi, hz0, hz1, hz2⟩ := info_parts Tryz.info5
  have HS := hide hs
  have HB := hide hB
  have HV : Hid (v < 2 * 128 ^ 9) := (w64_two.2 hv).2
  obtain ⟨v0, v1⟩ := hv
  clear hs hB
  go_enter Tryz.func117, Tryz.ntmps117
  go_wp2
  go_loopw [0, 1] (fun b x wr => ∃ (ar : Option Addr) (nr capr : Nat) (pre : List Int) (f : Nat) (u : Int), b = .slice ar nr capr ∧ x = .int .u64 u ∧ 0 ≤ u ∧ u ≤ 18446744073709551615 ∧ nr ≤ 211106232532989 ∧ f ≤ 9 ∧ Hid (nr = n + pre.length ∧ pre.length + f = 9 ∧ u < 2 * 128 ^ f ∧ putS v = pre ++ putF f u) ∧ Hid (Src 5 .u8 wr base ar nr capr (zs ++ pre)) ∧ Hid (Below base w wr)) (fun _ x _ => (intOf x).toNat)
  case atStart => exact ⟨a, n, cap, [], 9, v, rfl, rfl, v0, by omega, by omega, by omega, ⟨rfl, rfl, HV.out, rfl⟩, by rw [List.append_nil]; exact HS, Below.refl _ _⟩
  case round =>
    obtain ⟨ar, nr, capr, pre, f, u, rfl, rfl, u0, u1, hnr, hf, HP, HR, HW⟩ := hrel
    by_cases hu : u < 128
    · have e1 : u % 256 = u := by omega
      have HO := hide (one_row (k := .u8) wr u (wf_of_u8 u0 (by omega)) 5 (0, 0))
      have HSA := hide (HR.out.alloc (.cells #[.int .u8 u] 5))
      have HBW : Hid (base ≤ (wr.alloc (.cells #[.int .u8 u] 5)).heap.size) := by
        have := Nat.le_trans HB.out HW.out.size
        show _ ≤ _
        simp; omega
      go_wp2_with (at_builtin; refine wpList_append_one _ rfl _ _ 40 rfl base 5 i0 Tryz.underlying40 hi hz0 hz1 hz2 ar nr capr _ rfl HSA.out _ 1 u rfl HO.out (by omega) HBW.out ?_)
      intro a' cap' w' h1 h2
      obtain ⟨p1, p2, p3, p4⟩ := HP.out
      have HF : Hid (nr + 1 = n + (putS v).length ∧ zs ++ (pre ++ [u]) = zs ++ putS v ∧ Below base w w') := by
        refine ⟨?_, ?_, (HW.out.alloc (Nat.le_trans HB.out HW.out.size) _).trans h2⟩
        · rw [p4, putF_one hu, List.length_append, List.length_singleton]; omega
        · rw [p4, putF_one hu]
      have H1 := hide h1
      clear h1 h2 p1 p2 p3 p4 HP HR HW HSA HO HBW
      go_wp2
      go_ret
      rw [HF.out.1, HF.out.2.1] at H1
      rw [HF.out.1]
      exact ⟨a', cap', rfl, H1, HF.out.2.2⟩
    · have hor := or128_u8 (a := u % 256) (by omega) (by omega)
      rw [show u % 256 % 128 = u % 128 by omega] at hor
      have HO := hide (one_row (k := .u8) wr (u % 128 + 128) (wf_of_u8 (by omega) (by omega)) 5 (0, 0))
      have HSA := hide (HR.out.alloc (.cells #[.int .u8 (u % 128 + 128)] 5))
      have HBW : Hid (base ≤ (wr.alloc (.cells #[.int .u8 (u % 128 + 128)] 5)).heap.size) := by
        have := Nat.le_trans HB.out HW.out.size
        show _ ≤ _
        simp; omega
      go_wp2_with (at_builtin; refine wpList_append_one _ rfl _ _ 40 rfl base 5 i0 Tryz.underlying40 hi hz0 hz1 hz2 ar nr capr _ rfl HSA.out _ 1 (u % 128 + 128) rfl HO.out (by omega) HBW.out ?_)
      intro a' cap' w' h1 h2
      have HF : Hid (∃ f', f = f' + 1 ∧ nr + 1 = n + (pre ++ [u % 128 + 128]).length ∧ (pre ++ [u % 128 + 128]).length + f' = 9 ∧ u / 128 < 2 * 128 ^ f' ∧ putS v = (pre ++ [u % 128 + 128]) ++ putF f' (u / 128) ∧ Below base w w') := by
        obtain ⟨p1, p2, p3, p4⟩ := HP.out
        cases f with
        | zero => simp at p3; omega
        | succ f =>
          refine ⟨f, rfl, by simp; omega, by simp; omega, ?_, ?_, (HW.out.alloc (Nat.le_trans HB.out HW.out.size) _).trans h2⟩
          · rw [pw_succ] at p3; omega
          · rw [p4, putF_more (by omega), List.append_assoc]; rfl
      have H1 := hide h1
      clear h1 h2 HR HW HSA HO HBW
      go_wp2
      go_roundw
      case rel =>
        obtain ⟨f', e1, e2, e3, e4, e5, e6⟩ := HF.out
        obtain ⟨p1, p2, p3, p4⟩ := HP.out
        refine ⟨a', nr + 1, cap', pre ++ [u % 128 + 128], f', u / 128, rfl, by go_num, by omega, by omega, by omega, by omega, ⟨e2, e3, e4, e5⟩, Or.inl H1, e6⟩
      case measure => simp [intOf]; omega

theorem put_any (v : Int) (a : Option Addr) (n cap : Nat) (zs : List Int) (w : World) (hv : W64 v) (hn : n ≤ 211106232532980) (hc : n ≤ cap) (hr : Row .u8 w a n zs) :
    Calls Tryz.prog 46 #[.slice a n cap, .int .u64 v] w fun e w' => ∃ a' cap', e = .returned (.slice a' (n + (putS v).length) cap') ∧ Mine w' w.heap.size a' (n + (putS v).length) cap' (zs ++ putS v) ∧ Below w.heap.size w w' := by
  have A := hide (fun w1 => apart_any a n cap hc w1)
  have B := hide (number_any v w.heap.size a n n zs w hv hn (Nat.le_refl _) (Or.inr ⟨rfl, hr⟩))
  clear hr hn hv
  go_enter Tryz.func46, Tryz.ntmps46
  go_wp2_with fail
  refine (A.out _).mono ?_
  rintro e w1 ⟨rfl, rfl⟩
  go_wp2_with fail
  refine B.out.mono ?_
  rintro e w' ⟨a', cap', rfl, h1, h2⟩
  have H1 := hide h1
  clear h1
  go_wp2
  go_ret
  exact ⟨a', cap', rfl, H1, h2⟩

/-- What Get answers. -/
def gotE (r : Option (Int × Int)) : Ending :=
  match r with
  | none => .returned (.tuple #[.int .u64 0, .int .i64 0, .bool false])
  | some p => .returned (.tuple #[.int .u64 p.1, .int .i64 p.2, .bool true])

set_option maxHeartbeats 1000000 in
theorem get_any (at' : Int) (a : Option Addr) (n cap : Nat) (zs : List Int) (w : World) (ha : (Lit.int .i64 at').wf = true) (hc : n ≤ cap) (hr : Row .u8 w a n zs) :
    Calls Tryz.prog 54 #[.slice a n cap, .int .i64 at'] w fun e w' => e = gotE (getS zs at') ∧ w' = w := by
  obtain ⟨a0, a1⟩ := i64_of_wf ha
  have hl := hr.1
  have hn := hr.2.1
  clear ha
  by_cases h0 : 0 ≤ at' ∧ at' < n
  · obtain ⟨k, rfl⟩ := Int.eq_ofNat_of_zero_le h0.1
    have hkn : k < n := by omega
    have hS : Hid (getS zs (k : Int) = (getA 0 0 (zs.drop k)).map fun p => (p.1, (k : Int) + p.2)) := by
      show _ = _
      unfold getS
      rw [if_pos (by omega)]
      rfl
    have HR := hide (hr.from k (by omega) hc)
    have hsl := slice_from a n cap k (by omega)
    generalize (if cap = k then a else a.map (·.add k)) = a2 at HR hsl
    generalize hm : n - k = m at HR hsl
    have hm' : m + k = n := by omega
    clear hm
    generalize hrs : zs.drop k = rs at HR hS
    clear hrs hl hr
    have h1 := h0.1
    have h2 := h0.2
    clear h0
    go_enter Tryz.func54, Tryz.ntmps54
    go_wp2
    go_loop [7, 22] (fun x i => ∃ (j : Nat) (V : Int), j ≤ m ∧ j ≤ 9 ∧ i = .int .i64 j ∧ x = .int .u64 V ∧ 0 ≤ V ∧ V < 2 ^ (7 * j) ∧ Hid (getA 0 0 rs = getA j V (rs.drop j))) (fun _ i => m - (intOf i).toNat)
    case atStart => exact ⟨0, 0, by omega, by omega, rfl, rfl, by omega, by decide, rfl⟩
    case round =>
      obtain ⟨j, V, hj, hj9, rfl, rfl, V0, V1, HG⟩ := hrel
      by_cases hlt : j < m
      · have hrow := HR.out
        have hb := hrow.byte j
        obtain ⟨hl, _, _, h0 | ⟨b, off, rfl, hcell⟩⟩ := hrow
        · omega
        have hck := hcell j hlt
        have HD : Hid (getA 0 0 rs = getA j V (rs.getD j 0 :: rs.drop (j + 1))) := by
          show _ = _
          rw [HG.out, List.drop_eq_getElem_cons (by omega), List.getD_eq_getElem?_getD, List.getElem?_eq_getElem (by omega)]
          rfl
        clear hcell hl HG
        generalize rs.getD j 0 = z at *
        obtain ⟨z0, z1⟩ := hb
        have hand := and127_u8 z0 z1
        obtain ⟨t9, ht9⟩ : ∃ t9, ((j : Int) == 9) = t9 := ⟨_, rfl⟩
        obtain ⟨tz, htz⟩ : ∃ tz, (z == 0) = tz := ⟨_, rfl⟩
        by_cases q1 : j = 9 ∧ 1 < z
        · have hE : Hid (gotE (getS zs (k : Int)) = .returned (.tuple #[.int .u64 0, .int .i64 0, .bool false])) := by
            show _ = _
            rw [hS.out, HD.out, getA, if_pos q1]
            rfl
          have h9 : t9 = true := by rw [← ht9]; simp; omega
          subst h9
          have q2 := q1.2
          clear q1 htz V1
          go_wp2
          go_ret3
          exact ⟨hE.out.symm, rfl⟩
        · obtain ⟨X, x1, x2, x3, x4, x5⟩ := or_step j (by omega) V0 V1 (c := z % 128) (by omega) (by omega) (by omega)
          by_cases q2 : 128 ≤ z
          · have HX : Hid (getA 0 0 rs = getA (j + 1) X (rs.drop (j + 1))) := by
              show _ = _
              rw [HD.out, getA, if_neg q1, if_pos q2, x5]
            have HX4 := hide x4
            have h9 : t9 = false := by rw [← ht9]; simp; omega
            have hj8 : j < 9 := by omega
            subst h9
            clear x5 x4 HD V1 htz
            go_wp2
            exact ⟨⟨j + 1, X, by omega, by omega, by go_num, rfl, x2, HX4, HX⟩, by simp [intOf]; omega⟩
          · by_cases q3 : z = 0 ∧ 0 < j
            · have hE : Hid (gotE (getS zs (k : Int)) = .returned (.tuple #[.int .u64 0, .int .i64 0, .bool false])) := by
                show _ = _
                rw [hS.out, HD.out, getA, if_neg q1, if_neg q2, if_pos q3]
                rfl
              have h0 : tz = true := by rw [← htz]; simp; omega
              have q4 := q3.2
              have q5 : z ≤ 1 := by omega
              subst h0
              clear HD V1 q3 x4 x5
              cases t9
              all_goals
                go_wp2
                go_ret3
                exact ⟨hE.out.symm, rfl⟩
            · have hE : Hid (gotE (getS zs (k : Int)) = .returned (.tuple #[.int .u64 X, .int .i64 ((k : Int) + (j : Int) + 1), .bool true])) := by
                show _ = _
                rw [hS.out, HD.out, getA, if_neg q1, if_neg q2, if_neg q3, x5]
                simp only [Option.map_some, gotE]
                rw [show ((j + 1 : Nat) : Int) = (j : Int) + 1 from rfl, Int.add_assoc]
              have h9 : t9 = true → z ≤ 1 := by
                rintro rfl
                simp at ht9
                omega
              have h0 : tz = true → j ≤ 0 := by
                rintro rfl
                simp at htz
                omega
              clear x5 x4 HD V1 q3
              cases t9
              · clear h9
                cases tz
                · clear h0
                  go_wp2
                  go_ret3
                  exact ⟨hE.out.symm, rfl⟩
                · have h1 := h0 rfl
                  clear h0
                  go_wp2
                  go_ret3
                  exact ⟨hE.out.symm, rfl⟩
              · have q9 := h9 rfl
                clear h9
                cases tz
                · clear h0
                  go_wp2
                  go_ret3
                  exact ⟨hE.out.symm, rfl⟩
                · have h1 := h0 rfl
                  simp at ht9
                  omega
      · have : j = m := by omega
        subst this
        have hE : Hid (gotE (getS zs (k : Int)) = .returned (.tuple #[.int .u64 0, .int .i64 0, .bool false])) := by
          have hl := HR.out.1
          show _ = _
          rw [hS.out, HG.out, List.drop_eq_nil_of_le (by omega)]
          rfl
        go_wp2
        go_ret3
        exact ⟨hE.out.symm, rfl⟩
  · have hE : Hid (gotE (getS zs at') = .returned (.tuple #[.int .u64 0, .int .i64 0, .bool false])) := by
      show _ = _
      unfold getS
      rw [hl, if_neg h0]
      rfl
    have h1 : at' < 0 ∨ (n : Int) ≤ at' := by omega
    clear h0 hr hl
    rcases h1 with h1 | h1
    · go_enter Tryz.func54, Tryz.ntmps54
      go_wp2
      go_ret3
      exact ⟨hE.out.symm, rfl⟩
    · have h2 : 0 ≤ at' := by omega
      go_enter Tryz.func54, Tryz.ntmps54
      go_wp2
      go_ret3
      exact ⟨hE.out.symm, rfl⟩
set_option maxHeartbeats 400000 in
theorem puttext_any (s : ByteArray) (a : Option Addr) (n cap : Nat) (zs : List Int) (w : World) (hn : n + s.size ≤ 140737488355318) (hc : n ≤ cap) (hr : Row .u8 w a n zs) :
    Calls Tryz.prog 190 #[.slice a n cap, .string s] w fun e w' => ∃ a' cap', e = .returned (.slice a' (n + (putT (numsOf s)).length) cap') ∧ Mine w' w.heap.size a' (n + (putT (numsOf s)).length) cap' (zs ++ putT (numsOf s)) ∧ Below w.heap.size w w' := by
  obtain ⟨i0, hi, hz0, hz1, hz2⟩ := info_parts Tryz.info5
  have A := hide (fun w1 => apart_any a n cap hc w1)
  have hsz : s.size ≤ 140737488355318 := by omega
  have B := hide (number_any (s.size : Int) w.heap.size a n n zs w (w64_len (by omega)) (by omega) (Nat.le_refl _) (Or.inr ⟨rfl, hr⟩))
  have HL : Hid (n + (putS (s.size : Int)).length + s.size = n + (putT (numsOf s)).length ∧ zs ++ (putS (s.size : Int) ++ numsOf s) = zs ++ putT (numsOf s) ∧ (putS (s.size : Int)).length ≤ 10) := by
    refine ⟨?_, ?_, (putS_len _).2⟩
    · unfold putT; rw [numsOf_len, List.length_append, numsOf_len]; omega
    · unfold putT; rw [numsOf_len]
  clear hr
  go_enter Tryz.func190, Tryz.ntmps190
  go_wp2_with fail
  refine (A.out _).mono ?_
  rintro e w1 ⟨rfl, rfl⟩
  go_wp2_with fail
  refine B.out.mono ?_
  rintro e w2 ⟨a2, cap2, rfl, h1, h2⟩
  have hle := HL.out.2.2
  have hb : w1.heap.size ≤ w2.heap.size := h2.size
  have H1 := hide h1
  have H2 := hide h2
  clear h1 h2 A B
  go_wp2_with (at_builtin; refine wpList_append_text _ rfl _ _ 40 9 rfl w1.heap.size 5 i0 Tryz.underlying40 Tryz.underlying9 hi hz0 hz1 hz2 _ _ _ _ rfl H1.out s rfl (by omega) hb ?_)
  intro a' cap' w' h1 h2
  have HF : Hid (Below w1.heap.size w1 w') := H2.out.trans h2
  rw [HL.out.2.1, HL.out.1] at h1
  have H3 := hide h1
  rw [HL.out.1]
  clear h1 h2 hle
  go_wp2
  go_ret
  exact ⟨a', cap', rfl, H3, HF⟩

/-- What size answers. -/
def sizeE (r : Option (Int × Int)) : Ending :=
  match r with
  | none => .returned (.tuple #[.int .i64 0, .int .i64 0, .bool false])
  | some p => .returned (.tuple #[.int .i64 p.1, .int .i64 p.2, .bool true])

set_option maxHeartbeats 2000000 in
theorem size_any (at' most : Int) (a : Option Addr) (n cap : Nat) (zs : List Int) (w : World) (ha : (Lit.int .i64 at').wf = true) (hm : (Lit.int .i64 most).wf = true) (hc : n ≤ cap) (hr : Row .u8 w a n zs) :
    Calls Tryz.prog 245 #[.slice a n cap, .int .i64 at', .int .i64 most] w fun e w' => e = sizeE (sizeS zs at' most) ∧ w' = w := by
  have G := hide (get_any at' a n cap zs w ha hc hr)
  have HZ := hide hr.bytes
  have hl := hr.1
  have hn := hr.2.1
  obtain ⟨m0, m1⟩ := i64_of_wf hm
  clear hr hm
  cases hg : getS zs at' with
  | none =>
    rw [hg] at G
    simp only [gotE] at G
    unfold sizeS
    rw [hg]
    simp only [sizeE]
    clear hg hl
    go_enter Tryz.func245, Tryz.ntmps245
    go_wp2_with fail
    refine G.out.mono ?_
    rintro e w' ⟨rfl, rfl⟩
    go_wp2
    go_ret3
    exact ⟨rfl, rfl⟩
  | some p =>
    obtain ⟨v, nx⟩ := p
    obtain ⟨hw, k, hk0, hk, hnx, hle, _⟩ := getS_some HZ.out hg
    have hn0 : 0 ≤ nx := by omega
    have hn1 : nx ≤ n := by omega
    rw [hg] at G
    simp only [gotE] at G
    unfold sizeS
    rw [hg]
    simp only
    rw [hl]
    have w0 := hw.1
    have w1 := hw.2
    clear hw hk0 hk hnx hle hg hl
    by_cases h1 : most < 0
    · rw [if_pos (Or.inl h1)]
      simp only [sizeE]
      go_enter Tryz.func245, Tryz.ntmps245
      go_wp2_with fail
      refine G.out.mono ?_
      rintro e w' ⟨rfl, rfl⟩
      go_wp2
      go_ret3
      exact ⟨rfl, rfl⟩
    · by_cases h2 : (n : Int) - nx < most
      · by_cases h3 : (n : Int) - nx < v
        · rw [if_pos (by omega)]
          simp only [sizeE]
          go_enter Tryz.func245, Tryz.ntmps245
          go_wp2_with fail
          refine G.out.mono ?_
          rintro e w' ⟨rfl, rfl⟩
          go_wp2
          go_ret3
          exact ⟨rfl, rfl⟩
        · rw [if_neg (by omega)]
          simp only [sizeE]
          go_enter Tryz.func245, Tryz.ntmps245
          go_wp2_with fail
          refine G.out.mono ?_
          rintro e w' ⟨rfl, rfl⟩
          go_wp2
          go_ret3
          exact ⟨rfl, rfl⟩
      · by_cases h3 : most < v
        · rw [if_pos (by omega)]
          simp only [sizeE]
          go_enter Tryz.func245, Tryz.ntmps245
          go_wp2_with fail
          refine G.out.mono ?_
          rintro e w' ⟨rfl, rfl⟩
          go_wp2
          go_ret3
          exact ⟨rfl, rfl⟩
        · rw [if_neg (by omega)]
          simp only [sizeE]
          go_enter Tryz.func245, Tryz.ntmps245
          go_wp2_with fail
          refine G.out.mono ?_
          rintro e w' ⟨rfl, rfl⟩
          go_wp2
          go_ret3
          exact ⟨rfl, rfl⟩
/-- 'string(b)' of a slice that shows its bytes. -/
theorem row_string {w : World} {a : Option Addr} {n cap : Nat} {zs : List Int} (hr : Row .u8 w a n zs) :
    (convert 40 9 (.slice a n cap)).run Tryz.prog w = .ok (.string (strOfNums zs)) w := by
  obtain ⟨h1, _, _, rfl | ⟨b, off, rfl, hc⟩⟩ := hr
  · have hz : zs = [] := List.length_eq_zero_iff.1 h1
    subst hz
    rw [run_convert_bytes_string w _ _ 5 _ 0 cap Tryz.underlying40 Tryz.underlying5 Tryz.underlying9]
    cases a <;> simp [Conv.bytesToString, loadCells] <;> rfl
  · exact run_convert_bytes_arg w _ _ Tryz.underlying40 Tryz.underlying5 b off n cap zs h1 hc _ Tryz.underlying9

/-- What GetText answers. -/
def textE (r : Option (List Int × Int)) : Ending :=
  match r with
  | none => .returned (.tuple #[.string ByteArray.empty, .int .i64 0, .bool false])
  | some p => .returned (.tuple #[.string (strOfNums p.1), .int .i64 p.2, .bool true])

theorem i64_wf {x : Int} (h0 : -9223372036854775808 ≤ x) (h1 : x ≤ 9223372036854775807) : (Lit.int .i64 x).wf = true := by
  simp [Lit.wf, IntKind.min, IntKind.max, IntKind.signed, IntKind.bits]
  omega

set_option maxHeartbeats 400000 in
theorem gettext_any (at' most : Int) (a : Option Addr) (n cap : Nat) (zs : List Int) (w : World) (ha : (Lit.int .i64 at').wf = true) (hm : (Lit.int .i64 most).wf = true) (hc : n ≤ cap) (hr : Row .u8 w a n zs) :
    Calls Tryz.prog 196 #[.slice a n cap, .int .i64 at', .int .i64 most] w fun e w' => e = textE (textS zs at' most) ∧ w' = w := by
  have G := hide (size_any at' most a n cap zs w ha hm hc hr)
  have hl := hr.1
  have hn := hr.2.1
  cases hg : sizeS zs at' most with
  | none =>
    rw [hg] at G
    simp only [sizeE] at G
    unfold textS
    rw [hg]
    simp only [textE]
    clear hg hl hr ha hm
    go_enter Tryz.func196, Tryz.ntmps196
    go_wp2_with fail
    refine G.out.mono ?_
    rintro e w' ⟨rfl, rfl⟩
    go_wp2
    go_ret3
    exact ⟨rfl, rfl⟩
  | some p =>
    obtain ⟨v, fr⟩ := p
    obtain ⟨_, v0, _, f0, hle⟩ := sizeS_some hr.bytes hg
    rw [hg] at G
    simp only [sizeE] at G
    unfold textS
    rw [hg]
    simp only [textE]
    obtain ⟨m, rfl⟩ := Int.eq_ofNat_of_zero_le v0
    obtain ⟨f, rfl⟩ := Int.eq_ofNat_of_zero_le f0
    rw [Int.toNat_natCast, Int.toNat_natCast]
    have hfm : f + m ≤ n := by omega
    have hsl := slice_mid a n cap f (f + m) (by omega) (by omega) w
    rw [show f + m - f = m from by omega] at hsl
    have hst := row_string (cap := cap - f) ((hr.from f (by omega) hc).to m (by omega))
    generalize (if cap = f then a else a.map (·.add f)) = a2 at *
    generalize strOfNums ((zs.drop f).take m) = S at *
    clear hg hl hr ha hm hle v0 f0
    rw [show ((f + m : Nat) : Int) = (f : Int) + (m : Int) from rfl] at hsl
    go_enter Tryz.func196, Tryz.ntmps196
    go_wp2_with fail
    refine G.out.mono ?_
    rintro e w' ⟨rfl, rfl⟩
    go_wp2
    go_ret3
    exact ⟨rfl, rfl⟩

theorem drop_step {ls : List Int} {k : Nat} (h : k < ls.length) : ls.drop k = ls.getD k 0 :: ls.drop (k + 1) := by
  rw [List.drop_eq_getElem_cons h, List.getD_eq_getElem?_getD, List.getElem?_eq_getElem h]
  rfl

set_option maxHeartbeats 1000000 in
theorem putrise_any (a : Option Addr) (n cap : Nat) (zs : List Int) (b : Option Addr) (m capb : Nat) (ls : List Int) (w : World) (hn : n + 10 * m ≤ 211106232532960) (hc : n ≤ cap) (hr : Row .u8 w a n zs) (hl : Row .u64 w b m ls) :
    Calls Tryz.prog 240 #[.slice a n cap, .slice b m capb] w fun e w' => ∃ a' cap', e = .returned (.slice a' (n + (putR ls).length) cap') ∧ Mine w' w.heap.size a' (n + (putR ls).length) cap' (zs ++ putR ls) ∧ Below w.heap.size w w' := by
  have A := hide (fun w1 => apart_any a n cap hc w1)
  have B := hide (number_any (m : Int) w.heap.size a n n zs w (w64_len (by omega)) (by omega) (Nat.le_refl _) (Or.inr ⟨rfl, hr⟩))
  have HLen := hide hl.1
  have HR := hide hl
  have hp := (putS_len (m : Int)).2
  have hP : Hid (zs ++ putR ls = zs ++ putS (m : Int) ++ riseB 18446744073709551615 (ls.drop 0)) := by
    show _ = _
    unfold putR
    rw [hl.1, List.drop_zero, List.append_assoc]
  have hZ : Hid (zs.length = n) := hr.1
  clear hr hl
  go_enter Tryz.func240, Tryz.ntmps240
  go_wp2_with fail
  refine (A.out _).mono ?_
  rintro e w1 ⟨rfl, rfl⟩
  go_wp2_with fail
  refine B.out.mono ?_
  rintro e w2 ⟨a2, cap2, rfl, h1, h2⟩
  have H1 := hide h1
  have H2 := hide h2
  clear h1 h2 A B
  generalize (putS (m : Int)).length = q at *
  go_wp2
  go_loopw [0, 5, 16] (fun x p i wr => ∃ (ar : Option Addr) (nr capr k : Nat) (acc : List Int) (P : Int), k ≤ m ∧ x = .slice ar nr capr ∧ p = .int .u64 P ∧ i = .int .i64 k ∧ 0 ≤ P ∧ P ≤ 18446744073709551615 ∧ nr ≤ n + 10 + 10 * k ∧ Hid (zs ++ putR ls = acc ++ riseB P (ls.drop k)) ∧ Hid (Mine wr w1.heap.size ar nr capr acc) ∧ Hid (Below w1.heap.size w1 wr)) (fun _ _ i _ => m - (intOf i).toNat)
  case atStart => exact ⟨a2, n + q, cap2, 0, _, 18446744073709551615, by omega, rfl, rfl, rfl, by omega, by omega, by omega, hP, H1, H2⟩
  case round =>
    obtain ⟨ar, nr, capr, k, acc, P, hk, rfl, rfl, rfl, P0, P1, hnr, HP, HO, HW⟩ := hrel
    clear H1 H2 hP
    by_cases hlt : k < m
    · have hrow := HR.out.below HW.out (Nat.le_refl _)
      have hb := hrow.word k
      have HD := hide (drop_step (ls := ls) (k := k) (by rw [HLen.out]; exact hlt))
      obtain ⟨_, _, _, h0 | ⟨bb, off, rfl, hcell⟩⟩ := hrow
      · omega
      have hck := hcell k hlt
      clear hcell
      generalize ls.getD k 0 = z at *
      obtain ⟨z0, z1⟩ := hb
      have hsz : w1.heap.size ≤ wr.heap.size := HW.out.size
      have C := hide (number_any ((z - P - 1) % 18446744073709551616) w1.heap.size ar nr capr acc wr (w64_mod _) (by omega) hsz (Or.inl HO.out))
      have hq := (putS_len ((z - P - 1) % 18446744073709551616)).2
      have HE : Hid (zs ++ putR ls = (acc ++ putS ((z - P - 1) % 18446744073709551616)) ++ riseB z (ls.drop (k + 1))) := by
        show _ = _
        rw [HP.out, HD.out, riseB, List.append_assoc]
      have hmod : IntKind.u64.wrap (IntKind.u64.wrap (z - P) - 1) = (z - P - 1) % 18446744073709551616 := by
        rw [IntKind.wrap_u64, IntKind.wrap_u64]; omega
      generalize (z - P - 1) % 18446744073709551616 = D at *
      clear HD
      go_wp2_with fail
      refine C.out.mono ?_
      rintro e w' ⟨a', cap', rfl, h1, h2⟩
      have H1 := hide h1
      have H2 : Hid (Below w1.heap.size w1 w') := HW.out.trans h2
      clear h1 h2 C hmod hck HO HW HP
      generalize (putS D).length = r at *
      go_wp2
      go_roundw
      case rel => exact ⟨a', nr + r, cap', k + 1, _, z, by omega, rfl, rfl, by go_num, z0, by omega, by omega, HE, H1, H2⟩
      case measure => simp [intOf]; omega
    · have : k = m := by omega
      subst this
      have HF : Hid (acc = zs ++ putR ls ∧ nr = n + (putR ls).length) := by
        have h1 := HP.out
        rw [List.drop_eq_nil_of_le (by rw [HLen.out]; omega), riseB, List.append_nil] at h1
        refine ⟨h1.symm, ?_⟩
        rw [← HO.out.len, ← h1, List.length_append, hZ.out]
      clear HP
      go_wp2
      go_ret
      obtain ⟨h1, h2⟩ := HF.out
      have HO' := HO.out
      rw [h1, h2] at HO'
      refine ⟨ar, capr, ?_, HO', HW⟩
      show Ending.returned (.slice ar nr capr) = _
      rw [h2]
theorem Tryz.info22 : (Tryz.prog.info? 25).map (fun i => (i.zero, i.size, i.bytes)) = some (some (.int .u64 0), 1, 8) := by kernel_rfl

/-- Numbers of the call's own. -/
abbrev MineL (w : World) (base : Nat) (a : Option Addr) (n cap : Nat) (zs : List Int) : Prop := Own 25 .u64 w base a n cap zs

theorem made_zero (n : Nat) : (madeCells #[Value.int .u64 0] n).toList = (List.replicate n (0 : Int)).map (Value.int .u64) := by
  rw [toList_madeCells_one, List.map_replicate]

/-- What has been laid of a list of m. -/
def sofar (pre : List Int) (m : Nat) : List Int := pre ++ List.replicate (m - pre.length) 0
theorem sofar_set {pre : List Int} {m : Nat} (h : pre.length < m) (v : Int) : (sofar pre m).set pre.length v = sofar (pre ++ [v]) m := by
  unfold sofar
  rw [List.set_append, if_neg (by omega), Nat.sub_self, show m - pre.length = (m - (pre.length + 1)) + 1 from by omega, List.replicate_succ, List.set_cons_zero, List.length_append, List.append_assoc]
  rfl
/-- What GetRise answers. -/
def RiseP (r : Option (List Int × Int)) (base : Nat) (w' : World) (e : Ending) : Prop :=
  match r with
  | none => e = .returned (.tuple #[.slice none 0 0, .int .i64 0, .bool false])
  | some p => ∃ a' cap', e = .returned (.tuple #[.slice a' p.1.length cap', .int .i64 p.2, .bool true]) ∧ MineL w' base a' p.1.length cap' p.1

theorem riseG_none {zs : List Int} {m k : Nat} {p q : Int} (h : k < m) (hg : getS zs q = none) : riseG zs (m - k) p q = none := by
  obtain ⟨c, hc⟩ : ∃ c, m - k = c + 1 := ⟨m - k - 1, by omega⟩
  rw [hc, riseG, hg]
theorem riseG_some {zs : List Int} {m k : Nat} {p q d nx : Int} (h : k < m) (hg : getS zs q = some (d, nx)) :
    riseG zs (m - k) p q = if 18446744073709551615 - p ≤ d then none else (riseG zs (m - (k + 1)) (p + d + 1) nx).map fun r => ((p + d + 1) :: r.1, r.2) := by
  obtain ⟨c, hc⟩ : ∃ c, m - k = c + 1 := ⟨m - k - 1, by omega⟩
  rw [hc, riseG, hg, show m - (k + 1) = c from by omega]
theorem map_pre {r : Option (List Int × Int)} {pre : List Int} {x : Int} : (r.map fun r => (x :: r.1, r.2)).map (fun r => (pre ++ r.1, r.2)) = r.map fun r => ((pre ++ [x]) ++ r.1, r.2) := by
  cases r <;> simp

set_option maxHeartbeats 2000000 in
theorem getrise_any (at' most : Int) (a : Option Addr) (n cap : Nat) (zs : List Int) (w : World) (ha : (Lit.int .i64 at').wf = true) (hm : (Lit.int .i64 most).wf = true) (hc : n ≤ cap) (hr : Row .u8 w a n zs)
    (h8 : most ≤ 35184372088832 ∨ n ≤ 35184372088832) :
    Calls Tryz.prog 250 #[.slice a n cap, .int .i64 at', .int .i64 most] w fun e w' => RiseP (riseS zs at' most) w.heap.size w' e ∧ Below w.heap.size w w' := by
  have G := hide (size_any at' most a n cap zs w ha hm hc hr)
  have hl := hr.1
  have hn := hr.2.1
  cases hg : sizeS zs at' most with
  | none =>
    rw [hg] at G
    simp only [sizeE] at G
    unfold riseS
    rw [hg]
    simp only [RiseP]
    clear hg hl hr ha hm h8
    go_enter Tryz.func250, Tryz.ntmps250
    go_wp2_with fail
    refine G.out.mono ?_
    rintro e w' ⟨rfl, rfl⟩
    go_wp2
    go_ret3
    exact ⟨rfl, Below.refl _ _⟩
  | some p =>
    obtain ⟨v, fr⟩ := p
    obtain ⟨_, v0, vm, f0, hle⟩ := sizeS_some hr.bytes hg
    rw [hg] at G
    simp only [sizeE] at G
    obtain ⟨m, rfl⟩ := Int.eq_ofNat_of_zero_le v0
    have hs : Hid (riseS zs at' most = riseG zs m (-1) fr) := by
      show _ = _
      unfold riseS
      rw [hg]
      rfl
    have hm8 : m ≤ 35184372088832 := by omega
    have hmn : m ≤ n := by omega
    have hfr : fr ≤ n := by omega
    have HR := hide hr
    obtain ⟨i0, hi, hz0, hz1, hz2⟩ := info_parts Tryz.info22
    clear hg hl hr ha hm h8 v0 vm hle
    go_enter Tryz.func250, Tryz.ntmps250
    go_wp2_with fail
    refine G.out.mono ?_
    rintro e w' ⟨rfl, rfl⟩
    go_wp2_with (at_make; refine wpList_make_full _ rfl _ _ 24 rfl w'.heap.size 25 i0 (.int .u64 0) 1 Tryz.underlying24 hi hz0 hz1 .i64 .i64 (m : Int) (m : Int) m rfl rfl rfl rfl (by rw [hz2]; omega) (by unfold maxLen; omega) (Nat.le_refl _) ?_)
    intro W ho hg
    rw [made_zero] at ho
    have hb : Below w'.heap.size w' W := (Below.refl _ _).grown hg (Nat.le_refl _) (fun k hk => by simp at hk)
    clear hg hi hz0 hz1 hz2 G
    have HO := hide ho
    have HB := hide hb
    clear ho hb
    go_wp2
    go_loopw [10, 29] (fun x i wr => ∃ (k : Nat) (nx p : Int) (pre : List Int), k ≤ m ∧ i = .int .i64 k ∧ x = .int .i64 nx ∧ 0 ≤ nx ∧ nx ≤ n ∧ -1 ≤ p ∧ p ≤ 18446744073709551615 ∧
      Hid (pre.length = k ∧ (k = 0 → p = -1) ∧ (0 < k → 0 ≤ p ∧ pre.getD (k - 1) 0 = p) ∧ (∀ z ∈ pre, W64 z) ∧ riseS zs at' most = (riseG zs (m - k) p nx).map fun r => (pre ++ r.1, r.2)) ∧
      Hid (wr.ownsRow w'.heap.size 25 1 (.slice (some ⟨w'.heap.size, 0, none⟩) m m) m ((sofar pre m).map (Value.int .u64))) ∧ Hid (Below w'.heap.size w' wr)) (fun _ i _ => m - (intOf i).toNat)
    case atStart =>
      refine ⟨0, fr, -1, [], by omega, rfl, rfl, f0, hfr, by omega, by omega, ⟨rfl, fun _ => rfl, fun h => absurd h (by omega), by simp, ?_⟩, ?_, HB⟩
      · rw [hs.out, Nat.sub_zero]
        cases riseG zs m (-1) fr <;> simp
      · exact HO
    case round =>
      obtain ⟨k, nx, p, pre, hk, rfl, rfl, x0, x1, p0, p1, HP, ho, hb⟩ := hrel
      clear HO HB
      by_cases hlt : k < m
      · have q := HR.out.below hb.out (Nat.le_refl _)
        have G := hide (get_any nx a n cap zs wr (i64_wf (by omega) (by omega)) hc q)
        obtain ⟨old, hold⟩ : ∃ old, wr.cell? ⟨w'.heap.size, k, none⟩ = some old := by
          have := ho.out.cellAt k (by omega)
          have hl := ho.out.1
          rw [List.getElem?_eq_getElem (by omega)] at this
          exact ⟨_, this⟩
        have hfr := ho.out.frozenAt k
        have i1 : (0 : Int) ≤ (k : Int) := by omega
        have i5 : (k : Int) < (m : Int) := by omega
        cases hg : getS zs nx with
        | none =>
          have HN : Hid (riseS zs at' most = none) := by
            show _ = _
            rw [HP.out.2.2.2.2, riseG_none hlt hg]
            rfl
          have HB2 : Hid (Below w'.heap.size w' (wr.setCell ⟨w'.heap.size, k, none⟩ (.int .u64 0))) := hb.out.setCell (Nat.le_refl _) _
          rw [hg] at G
          simp only [gotE] at G
          clear hg q
          go_wp2_with fail
          refine G.out.mono ?_
          rintro e w2 ⟨rfl, rfl⟩
          go_wp2
          go_ret3
          rw [HN.out]
          exact ⟨rfl, HB2.out⟩
        | some r =>
          obtain ⟨d, nx'⟩ := r
          have HGS := hide (riseG_some (p := p) hlt hg)
          obtain ⟨hw, kk, hk0, _, hnx, hle, _⟩ := getS_some HR.out.bytes hg
          have hzn := HR.out.1
          have y0 : 0 ≤ nx' := by omega
          have y1 : nx' ≤ n := by omega
          have d0 := hw.1
          have d1 := hw.2
          rw [hg] at G
          simp only [gotE] at G
          clear hg hk0 hnx hle hzn hw q
          by_cases hk0 : k = 0
          · have hp : p = -1 := HP.out.2.1 hk0
            have tk : ((k : Int) == 0) = true := by simp [hk0]
            have HE : Hid ((pre ++ [d]).length = k + 1 ∧ (k + 1 = 0 → d = -1) ∧ (0 < k + 1 → 0 ≤ d ∧ (pre ++ [d]).getD (k + 1 - 1) 0 = d) ∧ (∀ z ∈ pre ++ [d], W64 z) ∧ riseS zs at' most = (riseG zs (m - (k + 1)) d nx').map fun r => ((pre ++ [d]) ++ r.1, r.2)) := by
              obtain ⟨e1, _, _, e4, e5⟩ := HP.out
              refine ⟨by simp [e1], fun h => absurd h (by omega), fun _ => ⟨d0, ?_⟩, ?_, ?_⟩
              · rw [Nat.add_sub_cancel, ← e1]; simp
              · intro z hz
                rcases List.mem_append.1 hz with hz | hz
                · exact e4 z hz
                · simp at hz; subst hz; exact ⟨d0, d1⟩
              · rw [e5, HGS.out, if_neg (by omega), map_pre, show p + d + 1 = d from by omega]
            have HS : Hid ((wr.setCell ⟨w'.heap.size, k, none⟩ (.int .u64 d)).ownsRow w'.heap.size 25 1 (.slice (some ⟨w'.heap.size, 0, none⟩) m m) m ((sofar (pre ++ [d]) m).map (Value.int .u64))) := by
              have := (ho.out.stored k (.int .u64 d)).1
              rw [← List.map_set, ← HP.out.1, sofar_set (by rw [HP.out.1]; exact hlt), HP.out.1] at this
              exact this
            have HB2 : Hid (Below w'.heap.size w' (wr.setCell ⟨w'.heap.size, k, none⟩ (.int .u64 d))) := hb.out.setCell (Nat.le_refl _) _
            clear hp hk0 p0 p1
            go_wp2_with fail
            refine G.out.mono ?_
            rintro e w2 ⟨rfl, rfl⟩
            go_wp2
            go_roundw
            case rel => exact ⟨k + 1, nx', d, pre ++ [d], by omega, by go_num, rfl, y0, y1, by omega, by omega, HE, HS, HB2⟩
            case measure => simp [intOf]; omega
          · obtain ⟨j, rfl⟩ : ∃ j, k = j + 1 := ⟨k - 1, by omega⟩
            have tk : ((j : Int) + 1 == 0) = false := by simp; omega
            have j1 : (0 : Int) ≤ (j : Int) := by omega
            have j5 : (j : Int) < (m : Int) := by omega
            have j6 : (j : Int) + 1 < (m : Int) := by omega
            have hp0 : 0 ≤ p := (HP.out.2.2.1 (by omega)).1
            have hcp : wr.cell? ⟨w'.heap.size, j, none⟩ = some (.int .u64 p) := by
              have := ho.out.cellAt j (by omega)
              rw [this, List.getElem?_map]
              have e1 := HP.out.1
              have e2 := (HP.out.2.2.1 (by omega)).2
              rw [Nat.add_sub_cancel, List.getD_eq_getElem?_getD, List.getElem?_eq_getElem (by omega)] at e2
              unfold sofar
              rw [List.getElem?_append_left (by omega), List.getElem?_eq_getElem (by omega)]
              simp only [Option.getD_some] at e2
              rw [e2]
              rfl
            have HB2 : Hid (Below w'.heap.size w' (wr.setCell ⟨w'.heap.size, j + 1, none⟩ (.int .u64 d))) := hb.out.setCell (Nat.le_refl _) _
            by_cases hd : 18446744073709551615 - p ≤ d
            · have HN : Hid (riseS zs at' most = none) := by
                show _ = _
                rw [HP.out.2.2.2.2, HGS.out, if_pos hd]
                rfl
              clear hk0 p0
              go_wp2_with fail
              refine G.out.mono ?_
              rintro e w2 ⟨rfl, rfl⟩
              go_wp2
              go_ret3
              rw [HN.out]
              exact ⟨rfl, HB2.out⟩
            · have HE : Hid ((pre ++ [p + d + 1]).length = j + 1 + 1 ∧ (j + 1 + 1 = 0 → p + d + 1 = -1) ∧ (0 < j + 1 + 1 → 0 ≤ p + d + 1 ∧ (pre ++ [p + d + 1]).getD (j + 1 + 1 - 1) 0 = p + d + 1) ∧ (∀ z ∈ pre ++ [p + d + 1], W64 z) ∧ riseS zs at' most = (riseG zs (m - (j + 1 + 1)) (p + d + 1) nx').map fun r => ((pre ++ [p + d + 1]) ++ r.1, r.2)) := by
                obtain ⟨e1, _, _, e4, e5⟩ := HP.out
                refine ⟨by simp [e1], fun h => absurd h (by omega), fun _ => ⟨by omega, ?_⟩, ?_, ?_⟩
                · rw [Nat.add_sub_cancel, ← e1]; simp
                · intro z hz
                  rcases List.mem_append.1 hz with hz | hz
                  · exact e4 z hz
                  · simp at hz; subst hz; exact ⟨by omega, by omega⟩
                · rw [e5, HGS.out, if_neg hd, map_pre]
              have HS1 : Hid ((wr.setCell ⟨w'.heap.size, j + 1, none⟩ (.int .u64 d)).ownsRow w'.heap.size 25 1 (.slice (some ⟨w'.heap.size, 0, none⟩) m m) m (((sofar pre m).set (j + 1) d).map (Value.int .u64))) := by
                have := (ho.out.stored (j + 1) (.int .u64 d)).1
                rw [← List.map_set] at this
                exact this
              have hc1 : (wr.setCell ⟨w'.heap.size, j + 1, none⟩ (.int .u64 d)).cell? ⟨w'.heap.size, j, none⟩ = some (.int .u64 p) := by
                rw [World.cell?_setCell_other _ _ _ _ (by simp)]
                exact hcp
              have hc2 : (wr.setCell ⟨w'.heap.size, j + 1, none⟩ (.int .u64 d)).cell? ⟨w'.heap.size, j + 1, none⟩ = some (.int .u64 d) := World.cell?_setCell_same _ _ _ hold
              have hf2 := HS1.out.frozenAt (j + 1)
              have hs1 : p + 1 ≤ 18446744073709551615 := by omega
              have hs2 : d + (p + 1) = p + d + 1 := by omega
              have hs3 : p + d + 1 ≤ 18446744073709551615 := by omega
              have hs4 : 0 ≤ p + d + 1 := by omega
              generalize p + d + 1 = r at *
              clear hk0 p0
              go_wp2_with fail
              refine G.out.mono ?_
              rintro e w2 ⟨rfl, rfl⟩
              go_wp2
              have HS2 : Hid (((w2.setCell ⟨w'.heap.size, j + 1, none⟩ (.int .u64 d)).setCell ⟨w'.heap.size, j + 1, none⟩ (.int .u64 r)).ownsRow w'.heap.size 25 1 (.slice (some ⟨w'.heap.size, 0, none⟩) m m) m ((sofar (pre ++ [r]) m).map (Value.int .u64))) := by
                have := (HS1.out.stored (j + 1) (.int .u64 r)).1
                rw [← List.map_set, List.set_set, ← HP.out.1, sofar_set (by rw [HP.out.1]; exact hlt), HP.out.1] at this
                exact this
              have HB3 : Hid (Below w'.heap.size w' ((w2.setCell ⟨w'.heap.size, j + 1, none⟩ (.int .u64 d)).setCell ⟨w'.heap.size, j + 1, none⟩ (.int .u64 r))) := HB2.out.setCell (Nat.le_refl _) _
              clear HS1 HB2 hold hfr hcp
              generalize w2.setCell ⟨w'.heap.size, j + 1, none⟩ (.int .u64 d) = V at *
              go_region
              go_wp2
              go_roundw
              case rel => exact ⟨j + 1 + 1, nx', r, pre ++ [r], by omega, by go_num, rfl, y0, y1, by omega, by omega, HE, HS2.out.drew, HB3.out.drew⟩
              case measure => simp [intOf]; omega
      · have : k = m := by omega
        subst this
        have HF : Hid (riseS zs at' most = some (pre, nx) ∧ pre.length = k ∧ sofar pre k = pre) := by
          obtain ⟨e1, _, _, _, e5⟩ := HP.out
          refine ⟨?_, e1, ?_⟩
          · rw [e5, Nat.sub_self, riseG]; simp
          · unfold sofar; rw [e1, Nat.sub_self]; simp
        go_wp2
        go_ret3
        obtain ⟨e1, e2, e3⟩ := HF.out
        have ho' := ho.out
        rw [e3, ← e2] at ho'
        rw [e1]
        refine ⟨⟨_, _, ?_, ho'⟩, hb⟩
        show Ending.returned (.tuple #[.slice (some ⟨w'.heap.size, 0, none⟩) k k, .int .i64 nx, .bool true]) = _
        rw [e2]
end Go.Proofs.YtknghoecjobkiaaGreatDoor

namespace Go.Proofs.YtknghoecjobkiaaGreatDoor
theorem chkF_names : ∀ {p : Option ByteArray} {l : List Lb}, chkF p l = true → ∀ x ∈ l, lbB x = true
  | _, [], _, x, hx => by cases hx
  | p, y :: t, h, x, hx => by
    simp only [chkF, Bool.and_eq_true] at h
    rcases List.mem_cons.1 hx with rfl | hx
    · exact h.1.1
    · exact chkF_names h.2 x hx
theorem chkL_parts {l : List Lb} (h : chkL l = true) : 1 ≤ l.length ∧ l.length ≤ 8 ∧ ∀ x ∈ l, nameB x.1 = true ∧ 1 ≤ x.2.size ∧ x.2.size ≤ 64 := by
  unfold chkL at h
  simp only [Bool.and_eq_true, decide_eq_true_eq] at h
  refine ⟨h.2.1, h.2.2, fun x hx => ?_⟩
  have := chkF_names h.1 x hx
  unfold lbB at this
  simpa only [Bool.and_eq_true, decide_eq_true_eq] using this
/-- A matcher: its op, its name, its value, its values, its kids. -/
inductive Mt where
  | mk (op : Int) (nm vl : ByteArray) (vs : List ByteArray) (ks : List Mt)
namespace Mt
def op : Mt → Int | mk o _ _ _ _ => o
def nm : Mt → ByteArray | mk _ n _ _ _ => n
def vl : Mt → ByteArray | mk _ _ v _ _ => v
def vs : Mt → List ByteArray | mk _ _ _ s _ => s
def ks : Mt → List Mt | mk _ _ _ _ k => k
theorem eta (m : Mt) : m = mk m.op m.nm m.vl m.vs m.ks := by cases m; rfl
theorem ext {m n : Mt} (h1 : m.op = n.op) (h2 : m.nm = n.nm) (h3 : m.vl = n.vl) (h4 : m.vs = n.vs) (h5 : m.ks = n.ks) : m = n := by
  rw [eta m, eta n, h1, h2, h3, h4, h5]
theorem ks_lt {m k : Mt} (h : k ∈ m.ks) : SizeOf.sizeOf k < SizeOf.sizeOf m := by
  cases m with
  | mk o n v s t =>
    have := List.sizeOf_lt_of_mem (show k ∈ t from h)
    simp only [mk.sizeOf_spec]
    omega
/-- What holds of a matcher if it holds of its kids holds of all. -/
theorem ind {P : Mt → Prop} (h : ∀ m : Mt, (∀ k ∈ m.ks, P k) → P m) (m : Mt) : P m :=
  h m fun k _ => ind h k
termination_by SizeOf.sizeOf m
decreasing_by exact ks_lt ‹_›
end Mt
def zeroM : Mt := .mk 0 .empty .empty [] []

/-- Values that may be. -/
def risB : List ByteArray → Bool
  | [] => true
  | [v] => decide (v.size ≤ 64)
  | v :: v' :: t => decide (v.size ≤ 64) && Op.bytesLess v.toList v'.toList && risB (v' :: t)
def valsB (l : List ByteArray) : Bool := decide (1 ≤ l.length) && decide (l.length ≤ 16) && risB l
def sumB' (l : List ByteArray) : Nat := (l.map (·.size)).sum
/-- Has it nothing but what its op names, and is that as it may be (kids apart)? -/
def fitBm (m : Mt) : Bool :=
  if m.op = 0 then decide (m.vl.size = 0) && decide (m.nm.size = 0) && decide (m.vs.length = 0) && decide (m.ks.length = 0)
  else if m.op = 1 ∨ m.op = 2 ∨ m.op = 3 then decide (m.vs.length = 0) && decide (m.ks.length = 0) && nameB m.nm && decide (m.vl.size ≤ 64)
  else if m.op = 4 then decide (m.vl.size = 0) && decide (m.ks.length = 0) && nameB m.nm && valsB m.vs
  else if m.op = 5 ∨ m.op = 6 ∨ m.op = 7 then decide (m.vl.size = 0) && decide (m.nm.size = 0) && decide (m.vs.length = 0) && (decide (m.op ≠ 7) || decide (m.ks.length = 1))
  else false
/-- The bytes of its own texts. -/
def ownT (m : Mt) : Nat := m.nm.size + m.vl.size + sumB' m.vs
mutual
/-- Parts and bytes counted so far, if it may be; else none. -/
def lookF : Mt → Nat → Nat → Nat → Option (Nat × Nat)
  | .mk op nm vl vs ks, d, n, b => if 64 < n + 1 ∨ 8 < d ∨ fitBm (.mk op nm vl vs ks) = false ∨ 4096 < b + ownT (.mk op nm vl vs ks) then none else lookKs ks (d + 1) (n + 1) (b + ownT (.mk op nm vl vs ks))
def lookKs : List Mt → Nat → Nat → Nat → Option (Nat × Nat)
  | [], _, n, b => some (n, b)
  | k :: ks, d, n, b => match lookF k d n b with
    | none => none
    | some r => lookKs ks d r.1 r.2
end
def chkM (m : Mt) : Bool := (lookF m 1 0 0).isSome

theorem lookF_eq (m : Mt) (d n b : Nat) : lookF m d n b = if 64 < n + 1 ∨ 8 < d ∨ fitBm m = false ∨ 4096 < b + ownT m then none else lookKs m.ks (d + 1) (n + 1) (b + ownT m) := by
  cases m; rw [lookF]; rfl
set_option maxRecDepth 20000
theorem fit_names {m : Mt} (h : fitBm m = true) : (m.op = 0 ∧ m = zeroM) ∨ ((m.op = 1 ∨ m.op = 2 ∨ m.op = 3) ∧ nameB m.nm = true ∧ m.vs = [] ∧ m.ks = []) ∨ (m.op = 4 ∧ nameB m.nm = true ∧ m.vl = .empty ∧ valsB m.vs = true ∧ m.ks = []) ∨ ((m.op = 5 ∨ m.op = 6 ∨ m.op = 7) ∧ m.nm = .empty ∧ m.vl = .empty ∧ m.vs = [] ∧ (m.op = 7 → m.ks.length = 1)) := by
  have e0 : ∀ {s : ByteArray}, s.size = 0 → s = .empty := fun {s} h => ba_ext (by
    rw [List.length_eq_zero_iff.1 (show s.toList.length = 0 by rw [ba_len]; exact h)]
    decide +kernel)
  unfold fitBm at h
  split at h
  · rename_i ho
    simp only [Bool.and_eq_true, decide_eq_true_eq] at h
    exact Or.inl ⟨ho, Mt.ext ho (e0 h.1.1.2) (e0 h.1.1.1) (List.length_eq_zero_iff.1 h.1.2) (List.length_eq_zero_iff.1 h.2)⟩
  · split at h
    · rename_i ho
      simp only [Bool.and_eq_true, decide_eq_true_eq] at h
      exact Or.inr (Or.inl ⟨ho, h.1.2, List.length_eq_zero_iff.1 h.1.1.1, List.length_eq_zero_iff.1 h.1.1.2⟩)
    · split at h
      · rename_i ho
        simp only [Bool.and_eq_true, decide_eq_true_eq] at h
        exact Or.inr (Or.inr (Or.inl ⟨ho, h.1.2, e0 h.1.1.1, h.2, List.length_eq_zero_iff.1 h.1.1.2⟩))
      · split at h
        · rename_i ho
          simp only [Bool.and_eq_true, decide_eq_true_eq, Bool.or_eq_true] at h
          refine Or.inr (Or.inr (Or.inr ⟨ho, e0 h.1.1.2, e0 h.1.1.1, List.length_eq_zero_iff.1 h.1.2, fun h7 => ?_⟩))
          rcases h.2 with h2 | h2
          · exact absurd h7 h2
          · exact h2
        · cases h
theorem lookF_some {m : Mt} {d n b : Nat} {r : Nat × Nat} (h : lookF m d n b = some r) : n + 1 ≤ 64 ∧ d ≤ 8 ∧ fitBm m = true ∧ b + ownT m ≤ 4096 ∧ lookKs m.ks (d + 1) (n + 1) (b + ownT m) = some r := by
  rw [lookF_eq] at h
  split at h
  · cases h
  · rename_i hc
    refine ⟨by omega, by omega, ?_, by omega, h⟩
    cases hf : fitBm m with
    | true => rfl
    | false => exact absurd (Or.inr (Or.inr (Or.inl hf))) hc
theorem lookKs_cons {k : Mt} {ks : List Mt} {d n b : Nat} {r : Nat × Nat} (h : lookKs (k :: ks) d n b = some r) : ∃ r', lookF k d n b = some r' ∧ lookKs ks d r'.1 r'.2 = some r := by
  rw [lookKs] at h
  cases hk : lookF k d n b with
  | none => rw [hk] at h; cases h
  | some r' => rw [hk] at h; exact ⟨r', rfl, h⟩
end Go.Proofs.YtknghoecjobkiaaGreatDoor

namespace Go.Proofs.YtknghoecjobkiaaGreatDoor
open Go.RowKit
set_option maxRecDepth 20000
mutual
/-- Its bytes. -/
def putB : Mt → List Int
  | .mk op nm vl vs ks => putS op ++ ((if op = 1 ∨ op = 2 ∨ op = 3 then putT (numsOf nm) ++ putT (numsOf vl)
    else if op = 4 then putT (numsOf nm) ++ (putS vs.length ++ vs.flatMap fun v => putT (numsOf v))
    else if op = 5 ∨ op = 6 then putS ks.length else []) ++ putBs ks)
def putBs : List Mt → List Int
  | [] => []
  | k :: ks => putB k ++ putBs ks
end
theorem putBs_map (ks : List Mt) : putBs ks = ks.flatMap putB := by
  induction ks with
  | nil => rfl
  | cons x t ih => rw [putBs, ih, List.flatMap_cons]
theorem putB_eq (m : Mt) : putB m = putS m.op ++ ((if m.op = 1 ∨ m.op = 2 ∨ m.op = 3 then putT (numsOf m.nm) ++ putT (numsOf m.vl)
    else if m.op = 4 then putT (numsOf m.nm) ++ (putS m.vs.length ++ m.vs.flatMap fun v => putT (numsOf v))
    else if m.op = 5 ∨ m.op = 6 then putS m.ks.length else []) ++ m.ks.flatMap putB) := by
  cases m
  rw [putB, putBs_map]
  rfl
/-- How many there are, at most so many. -/
def cntZ (zs : List Int) (D : Bool) (p most : Int) : Option (Int × Int) := if D then sizeS zs p most else match getS zs p with
  | none => none
  | some r => if most < r.1 then none else some r
def gtV (zs : List Int) : Nat → Int → Option (List ByteArray × Int)
  | 0, p => some ([], p)
  | c + 1, p => match textS zs p 64 with
    | none => none
    | some r => (gtV zs c r.2).map fun x => (strOfNums r.1 :: x.1, x.2)
mutual
/-- A matcher is read; so many more may be; it lies so deep. -/
def gtM (zs : List Int) (D : Bool) : Nat → Nat → Nat → Int → Option (Mt × Int × Nat)
  | 0, _, _, _ => none
  | _ + 1, 0, _, _ => none
  | f + 1, left + 1, d, p => if D = true ∧ 8 < d then none else match getS zs p with
    | none => none
    | some r => if 7 < r.1 then none
      else if r.1 = 1 ∨ r.1 = 2 ∨ r.1 = 3 then match textS zs r.2 32 with
        | none => none
        | some n => match textS zs n.2 64 with
          | none => none
          | some v => some (.mk r.1 (strOfNums n.1) (strOfNums v.1) [] [], v.2, left)
      else if r.1 = 4 then match textS zs r.2 32 with
        | none => none
        | some n => match cntZ zs D n.2 16 with
          | none => none
          | some c => (gtV zs c.1.toNat c.2).map fun x => (.mk 4 (strOfNums n.1) .empty x.1 [], x.2, left)
      else if r.1 = 5 ∨ r.1 = 6 then match cntZ zs D r.2 64 with
        | none => none
        | some c => (gtK zs D f left (d + 1) c.1.toNat c.2).map fun x => (.mk r.1 .empty .empty [] x.1, x.2)
      else if r.1 = 7 then (gtK zs D f left (d + 1) 1 r.2).map fun x => (.mk 7 .empty .empty [] x.1, x.2)
      else some (.mk r.1 .empty .empty [] [], r.2, left)
def gtK (zs : List Int) (D : Bool) : Nat → Nat → Nat → Nat → Int → Option (List Mt × Int × Nat)
  | 0, _, _, _, _ => none
  | _ + 1, left, _, 0, p => some ([], p, left)
  | f + 1, left, d, c + 1, p => match gtM zs D f left d p with
    | none => none
    | some q => (gtK zs D f q.2.2 d c q.2.1).map fun x => (q.1 :: x.1, x.2)
end
def getZ (zs : List Int) (D : Bool) (p : Int) : Option (Mt × Int) := match gtM zs D 300 64 1 p with
  | none => none
  | some q => if chkM q.1 = true then some (q.1, q.2.1) else none

theorem textS_lt {zs : List Int} {p most e : Int} {s : List Int} (hz : Bytes8 zs) (h : textS zs p most = some (s, e)) : 0 ≤ p ∧ p + 1 ≤ e ∧ e ≤ zs.length := by
  obtain ⟨k, rfl, h1, h2, -⟩ := textS_back hz h
  exact ⟨by omega, by omega, h2⟩
theorem getS_lt {zs : List Int} {p v e : Int} (hz : Bytes8 zs) (h : getS zs p = some (v, e)) : 0 ≤ v ∧ 0 ≤ p ∧ p + 1 ≤ e ∧ e ≤ zs.length := by
  obtain ⟨hw, k, rfl, h1, rfl, h2, -⟩ := getS_some hz h
  have := (putS_len v).1
  exact ⟨hw.1, by omega, by omega, by omega⟩
theorem getS_in {zs xs ys : List Int} {v p : Int} (hv : W64 v) (hz : zs = xs ++ (putS v ++ ys)) (hp : p = (xs.length : Int)) : getS zs p = some (v, p + ((putS v).length : Int)) := by
  subst hz hp
  rw [getS_at hv xs ys]
  simp
theorem textS_in {zs xs ys : List Int} {s : ByteArray} {p most : Int} (hs : (s.size : Int) ≤ most) (hm : most ≤ 1000) (hz : zs = xs ++ (putT (numsOf s) ++ ys)) (hp : p = (xs.length : Int)) : textS zs p most = some (numsOf s, p + ((putT (numsOf s)).length : Int)) := by
  subst hz hp
  rw [textS_more (textS_at (by rw [numsOf_len]; omega) xs ys) (by rw [numsOf_len]; exact hs)]
  simp
theorem gtV_in : ∀ {vs : List ByteArray} {zs xs ys : List Int} {p : Int}, (∀ v ∈ vs, v.size ≤ 64) → zs = xs ++ ((vs.flatMap fun v => putT (numsOf v)) ++ ys) → p = (xs.length : Int) → gtV zs vs.length p = some (vs, p + ((vs.flatMap fun v => putT (numsOf v)).length : Int))
  | [], zs, xs, ys, p, _, _, _ => by simp [gtV]
  | v :: t, zs, xs, ys, p, hs, hz, hp => by
    have h1 : textS zs p 64 = some (numsOf v, p + ((putT (numsOf v)).length : Int)) := textS_in (ys := (t.flatMap fun v => putT (numsOf v)) ++ ys) (by have := hs v (by simp); omega) (by decide) (by rw [hz, List.flatMap_cons, List.append_assoc]) hp
    have h2 := gtV_in (vs := t) (zs := zs) (xs := xs ++ putT (numsOf v)) (ys := ys) (p := p + ((putT (numsOf v)).length : Int)) (fun y hy => hs y (by simp [hy])) (by rw [hz, List.flatMap_cons]; simp only [List.append_assoc]) (by rw [hp, List.length_append]; omega)
    rw [List.length_cons, gtV, h1]
    simp only
    rw [h2, Option.map_some, strOf_nums, List.flatMap_cons, List.length_append]
    congr 2
    omega
theorem ris_fit {vs : List ByteArray} (h : valsB vs = true) : vs.length ≤ 16 ∧ ∀ v ∈ vs, v.size ≤ 64 := by
  unfold valsB at h
  simp only [Bool.and_eq_true, decide_eq_true_eq] at h
  refine ⟨h.1.2, ?_⟩
  have key : ∀ l : List ByteArray, risB l = true → ∀ v ∈ l, v.size ≤ 64 := by
    intro l
    induction l with
    | nil => intro _ v hv; cases hv
    | cons x t ih =>
      intro hr v hv
      cases t with
      | nil =>
        obtain rfl := List.mem_singleton.1 hv
        simpa [risB] using hr
      | cons y u =>
        simp only [risB, Bool.and_eq_true, decide_eq_true_eq] at hr
        rcases List.mem_cons.1 hv with rfl | hv
        · exact hr.1.1
        · exact ih hr.2 v hv
  exact key vs h.2
theorem nameB_len' {s : ByteArray} (h : nameB s = true) : s.size ≤ 32 := by
  unfold nameB at h
  simp only [Bool.and_eq_true, decide_eq_true_eq] at h
  exact h.2.2
theorem w64_op {m : Mt} (h : 0 ≤ m.op ∧ m.op ≤ 7) : W64 m.op := ⟨h.1, by omega⟩
set_option maxHeartbeats 1000000 in
theorem gt_back (m : Mt) : ∀ (f d n b : Nat) (res : Nat × Nat) (zs xs ys : List Int) (p : Int), lookF m d n b = some res → 3 * (64 - n) + 1 ≤ f → zs = xs ++ (putB m ++ ys) → p = (xs.length : Int) → gtM zs false f (64 - n) d p = some (m, p + ((putB m).length : Int), 64 - res.1) ∧ n + 1 ≤ res.1 ∧ res.1 ≤ 64 := by
  refine Mt.ind (P := fun m => ∀ (f d n b : Nat) (res : Nat × Nat) (zs xs ys : List Int) (p : Int), lookF m d n b = some res → 3 * (64 - n) + 1 ≤ f → zs = xs ++ (putB m ++ ys) → p = (xs.length : Int) → gtM zs false f (64 - n) d p = some (m, p + ((putB m).length : Int), 64 - res.1) ∧ n + 1 ≤ res.1 ∧ res.1 ≤ 64) ?_ m
  intro m ih f d n b res zs xs ys p h hf hz hp
  obtain ⟨hn, hd, hfit, hb, hks⟩ := lookF_some h
  obtain ⟨f, rfl⟩ : ∃ f', f = f' + 1 := ⟨f - 1, by omega⟩
  obtain ⟨left, hleft⟩ : ∃ left, 64 - n = left + 1 := ⟨64 - n - 1, by omega⟩
  have hleft' : left = 64 - (n + 1) := by omega
  have key : ∀ (ks : List Mt) (f n b : Nat) (res : Nat × Nat) (zs xs ys : List Int) (p : Int), (∀ k ∈ ks, k ∈ m.ks) → lookKs ks (d + 1) n b = some res → n ≤ 64 → 3 * (64 - n) + 2 ≤ f → zs = xs ++ (ks.flatMap putB ++ ys) → p = (xs.length : Int) → gtK zs false f (64 - n) (d + 1) ks.length p = some (ks, p + ((ks.flatMap putB).length : Int), 64 - res.1) ∧ n + ks.length ≤ res.1 ∧ res.1 ≤ 64 := by
    intro ks
    induction ks with
    | nil =>
      intro f n b res zs xs ys p _ hl hn hf _ _
      obtain ⟨f, rfl⟩ : ∃ f', f = f' + 1 := ⟨f - 1, by omega⟩
      rw [lookKs] at hl
      simp only [Option.some.injEq] at hl
      subst hl
      exact ⟨by simp [gtK], by simp, hn⟩
    | cons x t iht =>
      intro f n b res zs xs ys p hm hl hn hf hz hp
      obtain ⟨r', hx, hl'⟩ := lookKs_cons hl
      obtain ⟨f, rfl⟩ : ∃ f', f = f' + 1 := ⟨f - 1, by omega⟩
      obtain ⟨e, e1, e2⟩ := ih x (hm x (by simp)) f (d + 1) n b r' zs xs (t.flatMap putB ++ ys) p hx (by omega) (by rw [hz, List.flatMap_cons, List.append_assoc]) hp
      obtain ⟨q, q1, q2⟩ := iht f r'.1 r'.2 res zs (xs ++ putB x) ys (p + ((putB x).length : Int)) (fun k hk => hm k (by simp [hk])) hl' e2 (by omega) (by rw [hz, List.flatMap_cons]; simp only [List.append_assoc]) (by rw [hp, List.length_append]; omega)
      rw [List.length_cons, gtK, e]
      simp only
      rw [q, Option.map_some, List.flatMap_cons, List.length_append]
      refine ⟨?_, by omega, q2⟩
      congr 2
      rw [Prod.mk.injEq]
      exact ⟨by omega, rfl⟩
  have hop : 0 ≤ m.op ∧ m.op ≤ 7 := by
    rcases fit_names hfit with ⟨ho, -⟩ | ⟨ho, -⟩ | ⟨ho, -⟩ | ⟨ho, -⟩ <;> omega
  rw [putB_eq] at hz
  have hg : getS zs p = some (m.op, p + ((putS m.op).length : Int)) := getS_in (w64_op hop) (by rw [hz, List.append_assoc]) hp
  have hq : p + ((putS m.op).length : Int) = (((xs ++ putS m.op).length : Nat) : Int) := by rw [hp, List.length_append]; omega
  rw [hleft, gtM, if_neg (by simp), hg]
  simp only
  rw [if_neg (by omega)]
  rcases fit_names hfit with ⟨ho, hzm⟩ | ⟨ho, hnm, hv, hk⟩ | ⟨ho, hnm, hvl, hv, hk⟩ | ⟨ho, h1, h2, h3, h7⟩
  · subst hzm
    rw [show zeroM.ks = [] from rfl, lookKs] at hks
    simp only [Option.some.injEq] at hks
    subst hks
    have e : putB zeroM = putS 0 := by rw [putB_eq]; simp [zeroM, Mt.op, Mt.ks]
    rw [ho, if_neg (by decide), if_neg (by decide), if_neg (by decide), if_neg (by decide), e, hleft']
    exact ⟨rfl, Nat.le_refl _, by show n + 1 ≤ 64; omega⟩
  · rw [hk, lookKs] at hks
    simp only [Option.some.injEq] at hks
    subst hks
    have hv64 : m.vl.size ≤ 64 := by
      unfold fitBm at hfit
      rw [if_neg (by omega), if_pos ho] at hfit
      simp only [Bool.and_eq_true, decide_eq_true_eq] at hfit
      exact hfit.2
    have hn32 := (nameB_len' hnm)
    rw [if_pos ho, hk, List.flatMap_nil, List.append_nil] at hz
    have t1 := textS_in (zs := zs) (xs := xs ++ putS m.op) (ys := putT (numsOf m.vl) ++ ys) (s := m.nm) (most := 32) (by omega) (by decide) (by rw [hz]; simp only [List.append_assoc]) hq
    have t2 := textS_in (zs := zs) (xs := xs ++ putS m.op ++ putT (numsOf m.nm)) (ys := ys) (s := m.vl) (p := p + ((putS m.op).length : Int) + ((putT (numsOf m.nm)).length : Int)) (most := 64) (by omega) (by decide) (by rw [hz]; simp only [List.append_assoc]) (by rw [hq, @List.length_append _ (xs ++ putS m.op)]; omega)
    have e : putB m = putS m.op ++ (putT (numsOf m.nm) ++ putT (numsOf m.vl)) := by rw [putB_eq, if_pos ho, hk]; simp
    rw [if_pos ho, t1]
    simp only
    rw [t2]
    simp only
    rw [strOf_nums, strOf_nums, e, hleft']
    refine ⟨?_, Nat.le_refl _, by show n + 1 ≤ 64; omega⟩
    congr 1
    refine Prod.ext (Mt.ext rfl rfl rfl hv.symm hk.symm) (Prod.ext ?_ rfl)
    simp only [List.length_append]
    omega
  · rw [hk, lookKs] at hks
    simp only [Option.some.injEq] at hks
    subst hks
    obtain ⟨h16, hv64⟩ := ris_fit hv
    have hn32 := (nameB_len' hnm)
    rw [if_neg (by omega), if_pos ho, hk, List.flatMap_nil, List.append_nil] at hz
    have t1 := textS_in (zs := zs) (xs := xs ++ putS m.op) (ys := putS m.vs.length ++ ((m.vs.flatMap fun v => putT (numsOf v)) ++ ys)) (s := m.nm) (most := 32) (by omega) (by decide) (by rw [hz]; simp only [List.append_assoc]) hq
    have hq2 : p + ((putS m.op).length : Int) + ((putT (numsOf m.nm)).length : Int) = (((xs ++ putS m.op ++ putT (numsOf m.nm)).length : Nat) : Int) := by rw [hq, @List.length_append _ (xs ++ putS m.op)]; omega
    have t2 := getS_in (zs := zs) (xs := xs ++ putS m.op ++ putT (numsOf m.nm)) (ys := (m.vs.flatMap fun v => putT (numsOf v)) ++ ys) (w64_len (n := m.vs.length) (by omega)) (by rw [hz]; simp only [List.append_assoc]) hq2
    have t3 := gtV_in (vs := m.vs) (zs := zs) (xs := xs ++ putS m.op ++ putT (numsOf m.nm) ++ putS m.vs.length) (ys := ys) (p := p + ((putS m.op).length : Int) + ((putT (numsOf m.nm)).length : Int) + ((putS m.vs.length).length : Int)) hv64 (by rw [hz]; simp only [List.append_assoc]) (by rw [hq2, @List.length_append _ (xs ++ putS m.op ++ putT (numsOf m.nm))]; omega)
    have e : putB m = putS m.op ++ (putT (numsOf m.nm) ++ (putS m.vs.length ++ m.vs.flatMap fun v => putT (numsOf v))) := by rw [putB_eq, if_neg (by omega), if_pos ho, hk]; simp
    rw [if_neg (by omega), if_pos ho, t1]
    simp only
    unfold cntZ
    rw [if_neg (by decide), t2]
    simp only
    rw [if_neg (by omega)]
    simp only
    rw [Int.toNat_natCast, t3, Option.map_some, strOf_nums, e, hleft']
    refine ⟨?_, Nat.le_refl _, by show n + 1 ≤ 64; omega⟩
    congr 1
    refine Prod.ext (Mt.ext ho.symm rfl hvl.symm rfl hk.symm) (Prod.ext ?_ rfl)
    simp only [List.length_append]
    omega
  · by_cases h56 : m.op = 5 ∨ m.op = 6
    · rw [if_neg (by omega), if_neg (by omega), if_pos h56] at hz
      obtain ⟨kk, k1, k2⟩ := key m.ks f (n + 1) _ res zs (xs ++ putS m.op ++ putS m.ks.length) ys (p + ((putS m.op).length : Int) + ((putS m.ks.length).length : Int)) (fun k hk => hk) hks (by omega) (by omega) (by rw [hz]; simp only [List.append_assoc]) (by rw [hq, @List.length_append _ (xs ++ putS m.op)]; omega)
      have t2 := getS_in (zs := zs) (xs := xs ++ putS m.op) (ys := m.ks.flatMap putB ++ ys) (w64_len (n := m.ks.length) (by omega)) (by rw [hz]; simp only [List.append_assoc]) hq
      have e : putB m = putS m.op ++ (putS m.ks.length ++ m.ks.flatMap putB) := by rw [putB_eq, if_neg (by omega), if_neg (by omega), if_pos h56]
      rw [if_neg (by omega), if_neg (by omega), if_pos h56]
      unfold cntZ
      rw [if_neg (by decide), t2]
      simp only
      rw [if_neg (by omega)]
      simp only
      rw [Int.toNat_natCast, hleft', kk, Option.map_some, e]
      refine ⟨?_, by omega, k2⟩
      congr 1
      refine Prod.ext (Mt.ext rfl h1.symm h2.symm h3.symm rfl) (Prod.ext ?_ rfl)
      simp only [List.length_append]
      omega
    · have ho7 : m.op = 7 := by omega
      rw [if_neg (by omega), if_neg (by omega), if_neg h56, List.nil_append] at hz
      obtain ⟨kk, k1, k2⟩ := key m.ks f (n + 1) _ res zs (xs ++ putS m.op) ys (p + ((putS m.op).length : Int)) (fun k hk => hk) hks (by omega) (by omega) (by rw [hz]; simp only [List.append_assoc]) hq
      have e : putB m = putS m.op ++ m.ks.flatMap putB := by rw [putB_eq, if_neg (by omega), if_neg (by omega), if_neg h56, List.nil_append]
      rw [h7 ho7] at kk
      rw [if_neg (by omega), if_neg (by omega), if_neg h56, if_pos ho7, hleft', kk, Option.map_some, e]
      refine ⟨?_, by omega, k2⟩
      congr 1
      refine Prod.ext (Mt.ext ho7.symm h1.symm h2.symm h3.symm rfl) (Prod.ext ?_ rfl)
      simp only [List.length_append]
      omega
/-- What was put, and may be, is got. -/
theorem getZ_back {m : Mt} (h : chkM m = true) (xs ys : List Int) : getZ (xs ++ (putB m ++ ys)) false xs.length = some (m, ((xs.length + (putB m).length : Nat) : Int)) := by
  obtain ⟨res, hres⟩ := Option.isSome_iff_exists.1 (show (lookF m 1 0 0).isSome = true from h)
  obtain ⟨e, -, -⟩ := gt_back m 300 1 0 0 res (xs ++ (putB m ++ ys)) xs ys xs.length hres (by decide) rfl rfl
  unfold getZ
  rw [Nat.sub_zero] at e
  rw [e]
  simp only
  rw [if_pos h]
  simp
end Go.Proofs.YtknghoecjobkiaaGreatDoor
