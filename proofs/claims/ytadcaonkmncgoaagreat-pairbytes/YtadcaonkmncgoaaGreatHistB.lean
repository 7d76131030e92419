/-
  Slices of buckets as lists of pairs: how they are read; one more behind a list of the call's own; the laws' own copy (Buckets), and whether two are the same (SameBuckets): contracts, for every world.
  Conditions: as each theorem says.
-/
import Derived.Test.YtadcaonkmncgoaaGreatChK
import Derived.Test.YtadcaonkmncgoaaGreatHistPz
import Derived.Test.YtadcaonkmncgoaaGreatRows
import Derived.Laws.AppendOwnNone
import Derived.Deep.QuietTactic
import Derived.BigQuiet
namespace Go.Proofs.YtadcaonkmncgoaaGreat
open Go.RowKit
set_option maxRecDepth 20000

theorem Tryz.infoB : (Tryz.prog.info? 63).map (fun i => (i.zero, i.size, i.bytes)) = some (some (.agg #[.int .i64 0, .int .u64 0]), 2, 16) := by kernel_rfl

def fitB (x : Int × Int) : Prop := (Lit.int .i64 x.1).wf = true ∧ (Lit.int .u64 x.2).wf = true
/-- A slice of n buckets. -/
def RowB (w : World) (a : Option Addr) (n : Nat) (l : Bks) : Prop :=
  l.length = n ∧ n ≤ 17592186044416 ∧ (∀ x ∈ l, fitB x) ∧
  (n = 0 ∨ ∃ b off, a = some ⟨b, off, none⟩ ∧ ∀ i, i < n → w.cell? ⟨b, off + i * 2, none⟩ = some (.int .i64 (l.getD i (0, 0)).1) ∧ w.cell? ⟨b, off + i * 2 + 1, none⟩ = some (.int .u64 (l.getD i (0, 0)).2))
theorem RowB.below {B : Nat} {w w' : World} {a : Option Addr} {n : Nat} {l : Bks} (h : RowB w a n l) (hb : Below B w w') (hB : w.heap.size ≤ B) : RowB w' a n l := by
  obtain ⟨h1, h2, h3, h4⟩ := h
  refine ⟨h1, h2, h3, ?_⟩
  rcases h4 with h4 | ⟨b, off, rfl, hc⟩
  · exact Or.inl h4
  · right
    refine ⟨b, off, rfl, fun i hi => ?_⟩
    have hlt : b < w.heap.size := World.block_lt_of_cell? w _ (hc i hi).1
    rw [hb.cell (p := ⟨b, off + i * 2, none⟩) (Nat.lt_of_lt_of_le hlt hB), hb.cell (p := ⟨b, off + i * 2 + 1, none⟩) (Nat.lt_of_lt_of_le hlt hB)]
    exact hc i hi
theorem RowB.drew {w : World} {a : Option Addr} {n : Nat} {l : Bks} (h : RowB w a n l) : RowB w.drew a n l := h.below ((Below.refl w.heap.size _).drew) (Nat.le_refl _)
theorem RowB.alloc {w : World} {a : Option Addr} {n : Nat} {l : Bks} (h : RowB w a n l) (o : Obj) : RowB (w.alloc o) a n l := h.below ((Below.refl _ _).alloc (Nat.le_refl _) _) (Nat.le_refl _)
theorem RowB.nz {w : World} {a : Option Addr} {n : Nat} {l : Bks} (h : RowB w a n l) : a = none → n = 0 := by
  rintro rfl
  obtain ⟨_, _, _, h4 | ⟨_, _, h, _⟩⟩ := h
  · exact h4
  · simp at h
theorem getD_fit {l : Bks} (h : ∀ x ∈ l, fitB x) (i : Nat) : fitB (l.getD i (0, 0)) := by
  by_cases hi : i < l.length
  · rw [List.getD_eq_getElem?_getD, List.getElem?_eq_getElem hi]
    exact h _ (List.getElem_mem hi)
  · rw [List.getD_eq_getElem?_getD, List.getElem?_eq_none (by omega)]
    exact ⟨by decide, by decide⟩
theorem fit_words {l : Bks} (h : ∀ x ∈ l, fitB x) : WordsB l := fun x hx => u64_of_wf (h x hx).2
theorem take_bks {l : Bks} {k : Nat} (h : k < l.length) : l.take (k + 1) = l.take k ++ [l.getD k (0, 0)] := by
  rw [List.take_succ_eq_append_getElem h, List.getD_eq_getElem?_getD, List.getElem?_eq_getElem h]
  rfl

/-- A bucket's two cells, in every world that keeps what lay below. -/
theorem RowB.at' {w : World} {a : Option Addr} {n : Nat} {l : Bks} (h : RowB w a n l) {j : Nat} (hj : j < n) :
    ∃ b off, a = some ⟨b, off, none⟩ ∧ ∀ W, Below w.heap.size w W → W.cell? ⟨b, off + j * 2, none⟩ = some (.int .i64 (l.getD j (0, 0)).1) ∧ W.cell? ⟨b, off + j * 2 + 1, none⟩ = some (.int .u64 (l.getD j (0, 0)).2) := by
  obtain ⟨-, -, -, h0 | ⟨b, off, rfl, hc⟩⟩ := id h
  · omega
  · refine ⟨b, off, rfl, fun W hW => ?_⟩
    obtain ⟨-, -, -, h0 | ⟨b', off', e', hc'⟩⟩ := h.below hW (Nat.le_refl _)
    · omega
    · simp only [Option.some.injEq, Addr.mk.injEq, and_true] at e'
      obtain ⟨rfl, rfl⟩ := e'
      exact hc' j hj

theorem drop_bks {l : Bks} {k : Nat} (h : k < l.length) : l.drop k = l.getD k (0, 0) :: l.drop (k + 1) := by
  rw [List.drop_eq_getElem_cons h, List.getD_eq_getElem?_getD, List.getElem?_eq_getElem h]
  rfl

/-- Buckets as cells of memory. -/
def flatB (l : Bks) : List Value := l.flatMap fun x => [.int .i64 x.1, .int .u64 x.2]
theorem flatB_cons (x : Int × Int) (l : Bks) : flatB (x :: l) = [.int .i64 x.1, .int .u64 x.2] ++ flatB l := by simp [flatB]
theorem flatB_append (l m : Bks) : flatB (l ++ m) = flatB l ++ flatB m := by simp [flatB]
theorem flatB_len (l : Bks) : (flatB l).length = l.length * 2 := by
  induction l with
  | nil => rfl
  | cons x t ih => rw [flatB_cons, List.length_append, ih]; simp only [List.length_cons, List.length_nil]; omega
theorem flatB_get (l : Bks) (i : Nat) (h : i < l.length) : (flatB l)[i * 2]? = some (.int .i64 (l.getD i (0, 0)).1) ∧ (flatB l)[i * 2 + 1]? = some (.int .u64 (l.getD i (0, 0)).2) := by
  induction l generalizing i with
  | nil => simp at h
  | cons x t ih =>
    rw [flatB_cons]
    cases i with
    | zero => simp
    | succ i =>
      simp only [List.length_cons] at h
      obtain ⟨h1, h2⟩ := ih i (by omega)
      rw [List.getElem?_append_right (by simp; omega), List.getElem?_append_right (by simp; omega), List.getD_cons_succ]
      simp only [List.length_cons, List.length_nil]
      rw [show (i + 1) * 2 - (0 + 1 + 1) = i * 2 by omega, show (i + 1) * 2 + 1 - (0 + 1 + 1) = i * 2 + 1 by omega]
      exact ⟨h1, h2⟩
theorem flatB_one (l : Bks) : ∀ u ∈ flatB l, u.oneCell' = true := by
  intro u hu
  obtain ⟨x, _, hx⟩ := List.mem_flatMap.1 hu
  simp at hx
  rcases hx with rfl | rfl <;> rfl
theorem flatB_at (l : Bks) (j : Nat) (u : Value) (h : (flatB l)[j]? = some u) : j < l.length * 2 ∧ ((∃ i, j = i * 2 ∧ i < l.length ∧ u = .int .i64 (l.getD i (0, 0)).1) ∨ ∃ i, j = i * 2 + 1 ∧ i < l.length ∧ u = .int .u64 (l.getD i (0, 0)).2) := by
  have hj : j < (flatB l).length := (List.getElem?_eq_some_iff.1 h).1
  rw [flatB_len] at hj
  refine ⟨hj, ?_⟩
  obtain ⟨g1, g2⟩ := flatB_get l (j / 2) (by omega)
  by_cases e : j % 2 = 0
  · left
    rw [show j / 2 * 2 = j by omega, h] at g1
    exact ⟨j / 2, by omega, by omega, by simpa using g1⟩
  · right
    rw [show j / 2 * 2 + 1 = j by omega, h] at g2
    exact ⟨j / 2, by omega, by omega, by simpa using g2⟩
theorem RowB.cells {w : World} {ad : Addr} {n : Nat} {l : Bks} (h : RowB w (some ad) n l) (j : Nat) (u : Value) (hj : (flatB l)[j]? = some u) : w.cell? (ad.add j) = some u := by
  obtain ⟨h1, _, _, h0 | ⟨b, off, he, hcell⟩⟩ := h
  · have := (flatB_at l j u hj).1; omega
  · simp only [Option.some.injEq] at he
    subst he
    rw [Addr.add_lit]
    obtain ⟨_, ⟨i, rfl, hi, rfl⟩ | ⟨i, rfl, hi, rfl⟩⟩ := flatB_at l j u hj
    · exact (hcell i (by omega)).1
    · exact (hcell i (by omega)).2

/-- Buckets in memory of the call's own. -/
def OwnB (w : World) (base : Nat) (a : Option Addr) (n cap : Nat) (l : Bks) : Prop := w.ownsRow base 63 2 (.slice a n cap) n (flatB l)
theorem ownB_nil (w : World) (base : Nat) : OwnB w base none 0 0 [] := World.ownsRow_nil _ _ _ _
theorem ownB_form {w : World} {base n : Nat} {v : Value} {l : Bks} (h : w.ownsRow base 63 2 v n (flatB l)) : ∃ a cap, v = .slice a n cap ∧ OwnB w base a n cap l := by
  have h0 := h
  rcases h.2 with ⟨rfl, rfl⟩ | ⟨g, cap, cur, rfl, _⟩
  · exact ⟨none, 0, rfl, h0⟩
  · exact ⟨_, _, rfl, h0⟩
theorem OwnB.len {w : World} {base n cap : Nat} {a : Option Addr} {l : Bks} (h : OwnB w base a n cap l) : l.length = n := by
  have := h.1
  rw [flatB_len] at this
  omega
theorem OwnB.capped {w : World} {base n cap : Nat} {a : Option Addr} {l : Bks} (h : OwnB w base a n cap l) : n ≤ cap ∧ (a = none → n = 0 ∧ cap = 0) := by
  unfold OwnB at h
  rcases h.2 with ⟨h1, h2⟩ | ⟨g, c, cur, h1, _, _, h4, _⟩
  · simp only [Value.slice.injEq] at h1
    exact ⟨by omega, fun _ => ⟨by omega, by omega⟩⟩
  · simp only [Value.slice.injEq, true_and] at h1
    obtain ⟨rfl, rfl⟩ := h1
    exact ⟨h4, fun h => by simp at h⟩
theorem OwnB.row {w : World} {base n cap : Nat} {a : Option Addr} {l : Bks} (h : OwnB w base a n cap l) (hn : n ≤ 17592186044416) (hf : ∀ x ∈ l, fitB x) : RowB w a n l := by
  have hl := h.len
  refine ⟨hl, hn, hf, ?_⟩
  unfold OwnB at h
  rcases id h.2 with ⟨h1, h2⟩ | ⟨g, c, cur, h1, _⟩
  · exact Or.inl h2
  · right
    simp only [Value.slice.injEq, true_and] at h1
    obtain ⟨rfl, rfl⟩ := h1
    refine ⟨g, 0, rfl, fun i hi => ?_⟩
    obtain ⟨g1, g2⟩ := flatB_get l i (by omega)
    rw [Nat.zero_add, h.cellAt (i * 2) (by omega), h.cellAt (i * 2 + 1) (by omega)]
    exact ⟨g1, g2⟩
theorem OwnB.mono {w : World} {base base' n cap : Nat} {a : Option Addr} {l : Bks} (h : OwnB w base a n cap l) (hb : base' ≤ base) : OwnB w base' a n cap l := by
  unfold OwnB at *
  refine ⟨h.1, ?_⟩
  rcases h.2 with h1 | ⟨g, c, cur, h1, h2, h3⟩
  · exact Or.inl h1
  · exact Or.inr ⟨g, c, cur, h1, Nat.le_trans hb h2, h3⟩
theorem OwnB.ch {S : Nat → Prop} {w w' : World} {base n cap : Nat} {a : Option Addr} {l : Bks} (h : OwnB w base a n cap l) (c : Ch S w w') (hn : ∀ g, (Value.slice a n cap).ownBlock = some g → ¬ S g) : OwnB w' base a n cap l := row_ch h c hn
theorem OwnB.below {B : Nat} {w w' : World} {base n cap : Nat} {a : Option Addr} {l : Bks} (h : OwnB w base a n cap l) (hb : Below B w w') (hB : w.heap.size ≤ B) : OwnB w' base a n cap l := h.ch (Ch.of_below (hb.mono hB)) (fun _ _ => id)
theorem OwnB.alloc {w : World} {base n cap : Nat} {a : Option Addr} {l : Bks} (h : OwnB w base a n cap l) (o : Obj) : OwnB (w.alloc o) base a n cap l := h.below ((Below.refl _ _).alloc (Nat.le_refl _) _) (Nat.le_refl _)
theorem OwnB.block {w : World} {base n cap : Nat} {a : Option Addr} {l : Bks} (h : OwnB w base a n cap l) : ∀ g, (Value.slice a n cap).ownBlock = some g → base ≤ g := fun _ hg => (row_cells h hg).2
theorem two_cells (w : World) (x : Int × Int) (e : TypeId) (j : Nat) (u : Value) (h : (flatB [x])[j]? = some u) : (w.alloc (.cells #[.int .i64 x.1, .int .u64 x.2] e)).cell? ((⟨w.heap.size, 0, none⟩ : Addr).add j) = some u := by
  rw [Addr.add_lit, World.cell?_alloc_mark]
  match j, h with
  | 0, h => simpa [flatB] using h
  | 1, h => simpa [flatB] using h

/-- Buckets behind a list of the call's own. -/
theorem wpList_append_bks {P : Program} (w : World) {ops : Array Oper} {rest : List Oper} {o : Oper} {a : Act} {Q : Exit → Act → World → Prop} (hgd : o.guard = none) (s x : Operand) (t : TypeId)
    (ho : o.op = .call { callee := .builtin .append, args := #[s, x], argTypes := #[t, t] })
    (base : Nat) (i : TypeInfo) (ht : P.underlying t = some (.slice 63)) (hi : P.info? 63 = some i) (hz : i.zero = some (.agg #[.int .i64 0, .int .u64 0])) (hsize : i.size = 2) (hby : i.bytes = 16)
    (ao : Option Addr) (n cap : Nat) (l : Bks) (hs : a.eval s = .slice ao n cap) (hown : OwnB w base ao n cap l)
    (ad : Addr) (m c : Nat) (news : Bks) (hx : a.eval x = .slice (some ad) m c) (hm : news.length = m) (hc : ∀ j u, (flatB news)[j]? = some u → w.cell? (ad.add j) = some u)
    (hbytes : (n + m) * 16 ≤ 140737488355328) (hbase : base ≤ w.heap.size)
    (h : ∀ a' cap' w', OwnB w' base a' (n + m) cap' (l ++ news) → Below base w w' → wpList P ops Q rest (a.put o.dst (.slice a' (n + m) cap')) w') : wpList P ops Q (o :: rest) a w := by
  refine wpList_append_own w hgd s x t ho base 63 i (.agg #[.int .i64 0, .int .u64 0]) 2 16 ht hi hz hsize hby rfl (by decide) _ n (flatB l) hs hown ad m c (flatB news) hx (by rw [flatB_len, hm]) hc (flatB_one news) (by unfold maxLen; omega) hbytes hbase ?_
  intro v' w' h1 h2 _
  rw [← flatB_append] at h1
  obtain ⟨a', cap', rfl, h3⟩ := ownB_form h1
  exact h a' cap' w' h3 ((Below.refl _ _).grown h2 hbase hown.block)

set_option maxHeartbeats 400000 in
theorem buckets_any (a : Option Addr) (n cap : Nat) (l : Bks) (w : World) (hr : RowB w a n l) (hc : a = none → cap = 0) (hn : n * 16 ≤ 140737488355328) :
    Calls Tryz.prog 20 #[.slice a n cap] w fun e w' => ∃ a' cap', e = .returned (.slice a' n cap') ∧ OwnB w' w.heap.size a' n cap' l ∧ Below w.heap.size w w' := by
  obtain ⟨i0, hi, hz0, hz1, hz2⟩ := info_parts Tryz.infoB
  have hl := hr.1
  cases a with
  | none =>
    obtain rfl := hc rfl
    have h0 := hr.nz rfl
    subst h0
    have hz : l = [] := List.length_eq_zero_iff.1 hl
    subst hz
    go_enter Tryz.func20, Tryz.ntmps20
    go_wp2_with (at_builtin; refine wpList_append_own_none rfl _ _ 22 rfl w.heap.size 63 i0 2 Tryz.underlying22 hi _ 0 [] rfl (World.ownsRow_nil _ _ _ _) rfl ?_)
    go_ret
    exact ⟨none, 0, rfl, ownB_nil _ _, Below.refl _ _⟩
  | some ad =>
    have HC := hide hr.cells
    clear hr
    go_enter Tryz.func20, Tryz.ntmps20
    go_wp2_with (at_builtin; refine wpList_append_bks _ rfl _ _ 22 rfl w.heap.size i0 Tryz.underlying22 hi hz0 hz1 hz2 none 0 0 [] rfl (ownB_nil _ _) ad n cap l rfl hl HC.out (by omega) (Nat.le_refl _) ?_)
    intro a' cap' w' h1 h2
    have H1 := hide h1
    clear h1 HC hl
    go_wp2
    go_ret
    exact ⟨a', cap', rfl, H1, h2⟩

end Go.Proofs.YtadcaonkmncgoaaGreat
