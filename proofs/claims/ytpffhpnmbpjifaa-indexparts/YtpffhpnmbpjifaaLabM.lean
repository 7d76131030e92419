/-
  Slices of labels as lists: how they are read, cut, copied (Labels), put one behind the other; whether two are the same (SameLabels): contracts, for every world; what the law's shell hands on of a slice of labels that came in.
  Conditions: as each theorem says.
-/
import Derived.Test.YtpffhpnmbpjifaaLabT
import Derived.Test.YtpffhpnmbpjifaaChK
import Derived.Test.YtpffhpnmbpjifaaRows
import Derived.Laws.AppendOwnNone
import Derived.Deep.QuietTactic
import Derived.BigQuiet
import Derived.ChangeSlices
import Derived.ChangeArms
import Derived.Deep.SlicePairs
import Derived.OpenShut
import Derived.SizedLaws
namespace Go.Proofs.Ytpffhpnmbpjifaa
open Go.RowKit Go.ChangeShapes Go.Deep
set_option maxRecDepth 20000

theorem Try.infoL : (Try.prog.info? 41).map (fun i => (i.zero, i.size, i.bytes)) = some (some (.agg #[.string .empty, .string .empty]), 2, 32) := by kernel_rfl
def LbW (x : Lb) : Prop := x.1.size ≤ 9223372036854775807 ∧ x.2.size ≤ 9223372036854775807
/-- A slice of n labels. -/
def RowL (w : World) (a : Option Addr) (n : Nat) (l : List Lb) : Prop :=
  l.length = n ∧ n * 32 ≤ 140737488355328 ∧ (∀ x ∈ l, LbW x) ∧
  (n = 0 ∨ ∃ b off, a = some ⟨b, off, none⟩ ∧ ∀ i x, l[i]? = some x → w.cell? ⟨b, off + i * 2, none⟩ = some (.string x.1) ∧ w.cell? ⟨b, off + i * 2 + 1, none⟩ = some (.string x.2))
section
variable {B : Nat} {w w' : World} {a : Option Addr} {n : Nat} {l : List Lb}
theorem RowL.below (h : RowL w a n l) (hb : Below B w w') (hB : w.heap.size ≤ B) : RowL w' a n l := by
  obtain ⟨h1, h2, h3, h4⟩ := h
  refine ⟨h1, h2, h3, ?_⟩
  rcases h4 with h4 | ⟨b, off, rfl, hc⟩
  · exact Or.inl h4
  · right
    refine ⟨b, off, rfl, fun i x hi => ?_⟩
    have hlt : b < w.heap.size := World.block_lt_of_cell? w _ (hc i x hi).1
    rw [hb.cell (p := ⟨b, off + i * 2, none⟩) (Nat.lt_of_lt_of_le hlt hB), hb.cell (p := ⟨b, off + i * 2 + 1, none⟩) (Nat.lt_of_lt_of_le hlt hB)]
    exact hc i x hi
theorem RowL.drewN (h : RowL w a n l) (q : Nat) : RowL (w.drewN q) a n l := h.below (bel_drewN (Below.refl w.heap.size w) q) (Nat.le_refl _)
theorem RowL.drew (h : RowL w a n l) : RowL w.drew a n l := h.below ((Below.refl w.heap.size _).drew) (Nat.le_refl _)
theorem RowL.alloc (h : RowL w a n l) (o : Obj) : RowL (w.alloc o) a n l := h.below ((Below.refl _ _).alloc (Nat.le_refl _) _) (Nat.le_refl _)
/-- A label's two cells, in every world that keeps what lay below. -/
theorem RowL.at' (h : RowL w a n l) {j : Nat} (hj : j < n) :
    ∃ b off x, a = some ⟨b, off, none⟩ ∧ l[j]? = some x ∧ LbW x ∧ ∀ W, Below w.heap.size w W → W.cell? ⟨b, off + j * 2, none⟩ = some (.string x.1) ∧ W.cell? ⟨b, off + j * 2 + 1, none⟩ = some (.string x.2) := by
  obtain ⟨h1, _, h3, h0 | ⟨b, off, rfl, hc⟩⟩ := h
  · omega
  · have hx : l[j]? = some l[j] := List.getElem?_eq_getElem (by omega)
    refine ⟨b, off, l[j], rfl, hx, h3 _ (List.getElem_mem _), fun W hW => ?_⟩
    have hlt : b < w.heap.size := World.block_lt_of_cell? w _ (hc j _ hx).1
    rw [hW.cell (p := ⟨b, off + j * 2, none⟩) hlt, hW.cell (p := ⟨b, off + j * 2 + 1, none⟩) hlt]
    exact hc j _ hx
theorem RowL.nz (h : RowL w a n l) : a = none → n = 0 := by
  rintro rfl
  obtain ⟨_, _, _, h4 | ⟨_, _, h, _⟩⟩ := h
  · exact h4
  · simp at h
theorem RowL.to (h : RowL w a n l) (m : Nat) (hk : m ≤ n) : RowL w a m (l.take m) := by
  obtain ⟨h1, h2, h3, h4⟩ := h
  refine ⟨by rw [List.length_take]; omega, by omega, fun z hz => h3 z (List.mem_of_mem_take hz), ?_⟩
  rcases h4 with h4 | ⟨b, off, rfl, hc⟩
  · exact Or.inl (by omega)
  · refine Or.inr ⟨b, off, rfl, fun i x hi => hc i x ?_⟩
    rw [List.getElem?_take] at hi
    split at hi
    · exact hi
    · cases hi
theorem RowL.from (h : RowL w a n l) {cap : Nat} (m : Nat) (hk : m ≤ n) (hc : n ≤ cap) : RowL w (if cap = m then a else a.map (·.add (m * 2))) (n - m) (l.drop m) := by
  obtain ⟨h1, h2, h3, h4⟩ := h
  refine ⟨by rw [List.length_drop]; omega, by omega, fun z hz => h3 z (List.mem_of_mem_drop hz), ?_⟩
  by_cases e : m = n
  · exact Or.inl (by omega)
  rcases h4 with h4 | ⟨b, off, rfl, hcell⟩
  · exact Or.inl (by omega)
  · refine Or.inr ⟨b, off + m * 2, ?_, fun i x hi => ?_⟩
    · rw [if_neg (by omega)]
      simp [Addr.add_lit]
    · rw [List.getElem?_drop] at hi
      rw [show off + m * 2 + i * 2 = off + (m + i) * 2 by omega]
      exact hcell (m + i) x hi
end
def flatL (l : List Lb) : List Value := l.flatMap fun x => [.string x.1, .string x.2]
theorem flatL_cons (x : Lb) (l : List Lb) : flatL (x :: l) = [.string x.1, .string x.2] ++ flatL l := by simp [flatL]
theorem flatL_append (l m : List Lb) : flatL (l ++ m) = flatL l ++ flatL m := by simp [flatL]
theorem flatL_len (l : List Lb) : (flatL l).length = l.length * 2 := by
  induction l with
  | nil => rfl
  | cons x t ih => rw [flatL_cons, List.length_append, ih]; simp only [List.length_cons, List.length_nil]; omega
theorem flatL_get (l : List Lb) (i : Nat) (x : Lb) (h : l[i]? = some x) : (flatL l)[i * 2]? = some (.string x.1) ∧ (flatL l)[i * 2 + 1]? = some (.string x.2) := by
  induction l generalizing i with
  | nil => simp at h
  | cons y t ih =>
    rw [flatL_cons]
    cases i with
    | zero =>
      simp only [List.getElem?_cons_zero, Option.some.injEq] at h
      subst h
      simp
    | succ i =>
      simp only [List.getElem?_cons_succ] at h
      obtain ⟨h1, h2⟩ := ih i h
      rw [List.getElem?_append_right (by simp; omega), List.getElem?_append_right (by simp; omega)]
      simp only [List.length_cons, List.length_nil]
      rw [show (i + 1) * 2 - (0 + 1 + 1) = i * 2 by omega, show (i + 1) * 2 + 1 - (0 + 1 + 1) = i * 2 + 1 by omega]
      exact ⟨h1, h2⟩
theorem flatL_one (l : List Lb) : ∀ u ∈ flatL l, u.oneCell' = true := by
  intro u hu
  obtain ⟨x, _, hx⟩ := List.mem_flatMap.1 hu
  simp at hx
  rcases hx with rfl | rfl <;> rfl
theorem RowL.cells {w : World} {ad : Addr} {n : Nat} {l : List Lb} (h : RowL w (some ad) n l) (j : Nat) (u : Value) (hj : (flatL l)[j]? = some u) : w.cell? (ad.add j) = some u := by
  have hlt : j < (flatL l).length := (List.getElem?_eq_some_iff.1 hj).1
  rw [flatL_len] at hlt
  obtain ⟨h1, _, _, h0 | ⟨b, off, he, hcell⟩⟩ := h
  · omega
  · simp only [Option.some.injEq] at he
    subst he
    rw [Addr.add_lit]
    have hx : l[j / 2]? = some (l[j / 2]'(by omega)) := List.getElem?_eq_getElem (by omega)
    obtain ⟨g1, g2⟩ := flatL_get l (j / 2) _ hx
    obtain ⟨c1, c2⟩ := hcell (j / 2) _ hx
    have e : j % 2 = 0 ∨ j % 2 = 1 := by omega
    rcases e with e | e
    · rw [show j / 2 * 2 = j by omega] at g1 c1
      rw [c1, ← g1, hj]
    · rw [show j / 2 * 2 + 1 = j by omega] at g2
      rw [show off + j / 2 * 2 + 1 = off + j by omega] at c2
      rw [c2, ← g2, hj]
/-- Labels in memory of the call's own. -/
def OwnL (w : World) (base : Nat) (a : Option Addr) (n cap : Nat) (l : List Lb) : Prop := w.ownsRow base 41 2 (.slice a n cap) n (flatL l)
theorem ownL_nil (w : World) (base : Nat) : OwnL w base none 0 0 [] := World.ownsRow_nil _ _ _ _
theorem ownL_form {w : World} {base n : Nat} {v : Value} {l : List Lb} (h : w.ownsRow base 41 2 v n (flatL l)) : ∃ a cap, v = .slice a n cap ∧ OwnL w base a n cap l := by
  have h0 := h
  rcases h.2 with ⟨rfl, rfl⟩ | ⟨g, cap, cur, rfl, _⟩
  · exact ⟨none, 0, rfl, h0⟩
  · exact ⟨_, _, rfl, h0⟩
section
variable {w w' : World} {base n cap : Nat} {a : Option Addr} {l : List Lb}
theorem OwnL.len (h : OwnL w base a n cap l) : l.length = n := by
  have := h.1
  rw [flatL_len] at this
  omega
theorem OwnL.capped (h : OwnL w base a n cap l) : n ≤ cap ∧ (a = none → n = 0 ∧ cap = 0) := by
  unfold OwnL at h
  rcases h.2 with ⟨h1, h2⟩ | ⟨g, c, cur, h1, _, _, h4, _⟩
  · simp only [Value.slice.injEq] at h1
    exact ⟨by omega, fun _ => ⟨by omega, by omega⟩⟩
  · simp only [Value.slice.injEq, true_and] at h1
    obtain ⟨rfl, rfl⟩ := h1
    exact ⟨h4, fun h => by simp at h⟩
theorem OwnL.row (h : OwnL w base a n cap l) (hn : n * 32 ≤ 140737488355328) (hf : ∀ x ∈ l, LbW x) : RowL w a n l := by
  have hl := h.len
  refine ⟨hl, hn, hf, ?_⟩
  unfold OwnL at h
  rcases id h.2 with ⟨h1, h2⟩ | ⟨g, c, cur, h1, _⟩
  · exact Or.inl h2
  · right
    simp only [Value.slice.injEq, true_and] at h1
    obtain ⟨rfl, rfl⟩ := h1
    refine ⟨g, 0, rfl, fun i x hi => ?_⟩
    have hlt : i < l.length := (List.getElem?_eq_some_iff.1 hi).1
    obtain ⟨g1, g2⟩ := flatL_get l i x hi
    rw [Nat.zero_add, h.cellAt (i * 2) (by omega), h.cellAt (i * 2 + 1) (by omega)]
    exact ⟨g1, g2⟩
theorem OwnL.ch {S : Nat → Prop} (h : OwnL w base a n cap l) (c : Ch S w w') (hn : ∀ g, (Value.slice a n cap).ownBlock = some g → ¬ S g) : OwnL w' base a n cap l := row_ch h c hn
theorem OwnL.below {B : Nat} (h : OwnL w base a n cap l) (hb : Below B w w') (hB : w.heap.size ≤ B) : OwnL w' base a n cap l := h.ch (Ch.of_below (hb.mono hB)) (fun _ _ => id)
theorem OwnL.alloc (h : OwnL w base a n cap l) (o : Obj) : OwnL (w.alloc o) base a n cap l := h.below ((Below.refl _ _).alloc (Nat.le_refl _) _) (Nat.le_refl _)
theorem OwnL.block (h : OwnL w base a n cap l) : ∀ g, (Value.slice a n cap).ownBlock = some g → base ≤ g := fun _ hg => (row_cells h hg).2
theorem OwnL.mono {base' : Nat} (h : OwnL w base a n cap l) (hb : base' ≤ base) : OwnL w base' a n cap l := by
  unfold OwnL at *
  refine ⟨h.1, ?_⟩
  rcases h.2 with h1 | ⟨g, c, cur, h1, h2, h3⟩
  · exact Or.inl h1
  · exact Or.inr ⟨g, c, cur, h1, Nat.le_trans hb h2, h3⟩
end
theorem lab_cells (w : World) (x : Lb) (e : TypeId) (j : Nat) (u : Value) (h : (flatL [x])[j]? = some u) : (w.alloc (.cells #[.string x.1, .string x.2] e)).cell? ((⟨w.heap.size, 0, none⟩ : Addr).add j) = some u := by
  rw [Addr.add_lit, World.cell?_alloc_mark]
  match j, h with
  | 0, h => simpa [flatL] using h
  | 1, h => simpa [flatL] using h

/-- Labels, of none too, behind a row of the call's own. -/
theorem wpList_append_labs {P : Program} (w : World) {ops : Array Oper} {rest : List Oper} {o : Oper} {a : Act} {Q : Exit → Act → World → Prop} (hgd : o.guard = none) (s x : Operand) (t : TypeId)
    (ho : o.op = .call { callee := .builtin .append, args := #[s, x], argTypes := #[t, t] })
    (base : Nat) (i : TypeInfo) (ht : P.underlying t = some (.slice 41)) (hi : P.info? 41 = some i) (hz : i.zero = some (.agg #[.string .empty, .string .empty])) (hsize : i.size = 2) (hby : i.bytes = 32)
    (ao : Option Addr) (n cap : Nat) (l : List Lb) (hs : a.eval s = .slice ao n cap) (hown : OwnL w base ao n cap l)
    (bo : Option Addr) (m c : Nat) (news : List Lb) (hx : a.eval x = .slice bo m c) (hm : news.length = m) (hrow : ∀ ad, bo = some ad → ∀ j u, (flatL news)[j]? = some u → w.cell? (ad.add j) = some u) (hbo : bo = none → m = 0 ∧ c = 0)
    (hbytes : (n + m) * 32 ≤ 140737488355328) (hbase : base ≤ w.heap.size)
    (h : ∀ a' cap' w', OwnL w' base a' (n + m) cap' (l ++ news) → Below base w w' → wpList P ops Q rest (a.put o.dst (.slice a' (n + m) cap')) w') : wpList P ops Q (o :: rest) a w := by
  cases bo with
  | none =>
    obtain ⟨rfl, rfl⟩ := hbo rfl
    have hz : news = [] := List.length_eq_zero_iff.1 hm
    subst hz
    refine wpList_append_own_none hgd s x t ho base 41 i 2 ht hi _ n (flatL l) hs hown hx ?_
    have := h ao cap w (by rw [List.append_nil]; exact hown) (Below.refl _ _)
    exact this
  | some ad =>
    refine wpList_append_own w hgd s x t ho base 41 i (.agg #[.string .empty, .string .empty]) 2 32 ht hi hz hsize hby rfl (by decide) _ n (flatL l) hs hown ad m c (flatL news) hx (by rw [flatL_len, hm]) (hrow ad rfl) (flatL_one news) (by unfold maxLen; omega) hbytes hbase ?_
    intro v' w' h1 h2 _
    rw [← flatL_append] at h1
    obtain ⟨a', cap', rfl, h3⟩ := ownL_form h1
    exact h a' cap' w' h3 ((Below.refl _ _).grown h2 hbase hown.block)

set_option maxHeartbeats 1000000 in
theorem labels_any (a : Option Addr) (n cap : Nat) (l : List Lb) (w : World) (hr : RowL w a n l) (hc : a = none → cap = 0) :
    Calls Try.prog 9 #[.slice a n cap] w fun e w' => ∃ a' cap', e = .returned (.slice a' n cap') ∧ OwnL w' w.heap.size a' n cap' l ∧ Below w.heap.size w w' := by
  obtain ⟨i0, hi, hz0, hz1, hz2⟩ := info_parts Try.infoL
  have HR := hide hr
  have HL := hide hr.1
  have hn := hr.2.1
  have HN : Hid (a = none → n = 0 ∧ cap = 0) := fun e => ⟨hr.nz e, hc e⟩
  have HC : Hid (∀ ad, a = some ad → ∀ j u, (flatL l)[j]? = some u → w.cell? (ad.add j) = some u) := fun ad e => by
    have h := hr
    rw [e] at h
    exact h.cells
  clear hr hc
  go_enter Try.func9, Try.ntmps9
  go_wp2_with (at_builtin; refine wpList_append_labs _ rfl _ _ 23 rfl w.heap.size i0 Try.underlying23 hi hz0 hz1 hz2 none 0 0 [] rfl (ownL_nil _ _) a n cap l rfl HL.out HC.out HN.out (by omega) (Nat.le_refl _) ?_)
  intro a2 c2 w1 o1 b1
  have O1 := hide o1
  have B1 := hide b1
  clear o1 b1
  go_wp2
  go_ret
  exact ⟨a2, c2, rfl, O1.out, B1.out⟩
end Go.Proofs.Ytpffhpnmbpjifaa
