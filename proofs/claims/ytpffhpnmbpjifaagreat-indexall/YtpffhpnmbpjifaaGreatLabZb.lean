/-
  Slices of labels as lists: how they are read, cut, copied (Labels), put one behind the other; whether two are the same (SameLabels): contracts, for every world; what the law's shell hands on of a slice of labels that came in. Whether two slices of labels are the same (SameLabels), and the document's own texts, Cmp, Value, Name: contracts, for every world; they change nothing. The document's own answers whether a text is a name, whether labels may be: contracts, for every world; they change nothing. What the laws ask of the program's own functions on labels (contracts, for every world; what was there before stays), and the laws' awake over them. The laws LabelChecks and LabelCmps, over what the laws ask of the program's own functions on labels. What the law's shell hands on of a slice of labels that came in. The document's Make of labels: its contract, for every world.
  Conditions: as each theorem says; the slices show their labels; the slice shows its labels; the labels lie in memory; as LaN, LaC, LaV, LaP, LaM, LaT say; none.
-/
import Derived.Test.YtpffhpnmbpjifaaGreatLabZa
import Derived.Test.YtpffhpnmbpjifaaGreatVintZa
import Derived.Test.YtpffhpnmbpjifaaGreatRows
import Derived.Laws.AppendOwnNone
import Derived.Deep.QuietTactic
import Derived.BigQuiet
import Derived.ChangeSlices
import Derived.ChangeArms
import Derived.Deep.SlicePairs
import Derived.OpenShut
import Derived.SizedLaws
import Derived.Deep.LoopGhost
import Derived.Laws.Cover1
namespace Go.Proofs.YtpffhpnmbpjifaaGreat
open Go.RowKit Go.ChangeShapes Go.Deep
set_option maxRecDepth 20000

theorem Tryz.infoL : (Tryz.prog.info? 52).map (fun i => (i.zero, i.size, i.bytes)) = some (some (.agg #[.string .empty, .string .empty]), 2, 32) := by kernel_rfl
def LbW (x : Lb) : Prop := x.1.size ≤ 9223372036854775807 ∧ x.2.size ≤ 9223372036854775807
/-- A slice of n labels. -/
def RowL (w : World) (a : Option Addr) (n : Nat) (l : List Lb) : Prop :=
  l.length = n ∧ n * 32 ≤ 140737488355328 ∧ (∀ x ∈ l, LbW x) ∧
  (n = 0 ∨ ∃ b off, a = some ⟨b, off, none⟩ ∧ ∀ i x, l[i]? = some x → w.cell? ⟨b, off + i * 2, none⟩ = some (.string x.1) ∧ w.cell? ⟨b, off + i * 2 + 1, none⟩ = some (.string x.2))
section
variable {B : Nat} {w w' : World} {a : Option Addr} {n : Nat} {l : List Lb}
theorem RowL.below (h : RowL w a n l) (hb : Below B w w') (hB : w.heap.size ≤ B) : RowL w' a n l := by
  obtain ⟨h1, h2, h3, h4⟩ := h
  refine ⟨h1, h2, h3, ?_⟩
  rcases h4 with h4 | ⟨b, off, rfl, hc⟩
  · exact Or.inl h4
  · right
    refine ⟨b, off, rfl, fun i x hi => ?_⟩
    have hlt : b < w.heap.size := World.block_lt_of_cell? w _ (hc i x hi).1
    rw [hb.cell (p := ⟨b, off + i * 2, none⟩) (Nat.lt_of_lt_of_le hlt hB), hb.cell (p := ⟨b, off + i * 2 + 1, none⟩) (Nat.lt_of_lt_of_le hlt hB)]
    exact hc i x hi
theorem RowL.drewN (h : RowL w a n l) (q : Nat) : RowL (w.drewN q) a n l := h.below (bel_drewN (Below.refl w.heap.size w) q) (Nat.le_refl _)
theorem RowL.drew (h : RowL w a n l) : RowL w.drew a n l := h.below ((Below.refl w.heap.size _).drew) (Nat.le_refl _)
theorem RowL.alloc (h : RowL w a n l) (o : Obj) : RowL (w.alloc o) a n l := h.below ((Below.refl _ _).alloc (Nat.le_refl _) _) (Nat.le_refl _)
/-- A label's two cells, in every world that keeps what lay below. -/
theorem RowL.at' (h : RowL w a n l) {j : Nat} (hj : j < n) :
    ∃ b off x, a = some ⟨b, off, none⟩ ∧ l[j]? = some x ∧ LbW x ∧ ∀ W, Below w.heap.size w W → W.cell? ⟨b, off + j * 2, none⟩ = some (.string x.1) ∧ W.cell? ⟨b, off + j * 2 + 1, none⟩ = some (.string x.2) := by
  obtain ⟨h1, _, h3, h0 | ⟨b, off, rfl, hc⟩⟩ := h
  · omega
  · have hx : l[j]? = some l[j] := List.getElem?_eq_getElem (by omega)
    refine ⟨b, off, l[j], rfl, hx, h3 _ (List.getElem_mem _), fun W hW => ?_⟩
    have hlt : b < w.heap.size := World.block_lt_of_cell? w _ (hc j _ hx).1
    rw [hW.cell (p := ⟨b, off + j * 2, none⟩) hlt, hW.cell (p := ⟨b, off + j * 2 + 1, none⟩) hlt]
    exact hc j _ hx
theorem RowL.nz (h : RowL w a n l) : a = none → n = 0 := by
  rintro rfl
  obtain ⟨_, _, _, h4 | ⟨_, _, h, _⟩⟩ := h
  · exact h4
  · simp at h
theorem RowL.to (h : RowL w a n l) (m : Nat) (hk : m ≤ n) : RowL w a m (l.take m) := by
  obtain ⟨h1, h2, h3, h4⟩ := h
  refine ⟨by rw [List.length_take]; omega, by omega, fun z hz => h3 z (List.mem_of_mem_take hz), ?_⟩
  rcases h4 with h4 | ⟨b, off, rfl, hc⟩
  · exact Or.inl (by omega)
  · refine Or.inr ⟨b, off, rfl, fun i x hi => hc i x ?_⟩
    rw [List.getElem?_take] at hi
    split at hi
    · exact hi
    · cases hi
theorem RowL.from (h : RowL w a n l) {cap : Nat} (m : Nat) (hk : m ≤ n) (hc : n ≤ cap) : RowL w (if cap = m then a else a.map (·.add (m * 2))) (n - m) (l.drop m) := by
  obtain ⟨h1, h2, h3, h4⟩ := h
  refine ⟨by rw [List.length_drop]; omega, by omega, fun z hz => h3 z (List.mem_of_mem_drop hz), ?_⟩
  by_cases e : m = n
  · exact Or.inl (by omega)
  rcases h4 with h4 | ⟨b, off, rfl, hcell⟩
  · exact Or.inl (by omega)
  · refine Or.inr ⟨b, off + m * 2, ?_, fun i x hi => ?_⟩
    · rw [if_neg (by omega)]
      simp [Addr.add_lit]
    · rw [List.getElem?_drop] at hi
      rw [show off + m * 2 + i * 2 = off + (m + i) * 2 by omega]
      exact hcell (m + i) x hi
end
def flatL (l : List Lb) : List Value := l.flatMap fun x => [.string x.1, .string x.2]
theorem flatL_cons (x : Lb) (l : List Lb) : flatL (x :: l) = [.string x.1, .string x.2] ++ flatL l := by simp [flatL]
theorem flatL_append (l m : List Lb) : flatL (l ++ m) = flatL l ++ flatL m := by simp [flatL]
theorem flatL_len (l : List Lb) : (flatL l).length = l.length * 2 := by
  induction l with
  | nil => rfl
  | cons x t ih => rw [flatL_cons, List.length_append, ih]; simp only [List.length_cons, List.length_nil]; omega
theorem flatL_get (l : List Lb) (i : Nat) (x : Lb) (h : l[i]? = some x) : (flatL l)[i * 2]? = some (.string x.1) ∧ (flatL l)[i * 2 + 1]? = some (.string x.2) := by
  induction l generalizing i with
  | nil => simp at h
  | cons y t ih =>
    rw [flatL_cons]
    cases i with
    | zero =>
      simp only [List.getElem?_cons_zero, Option.some.injEq] at h
      subst h
      simp
    | succ i =>
      simp only [List.getElem?_cons_succ] at h
      obtain ⟨h1, h2⟩ := ih i h
      rw [List.getElem?_append_right (by simp; omega), List.getElem?_append_right (by simp; omega)]
      simp only [List.length_cons, List.length_nil]
      rw [show (i + 1) * 2 - (0 + 1 + 1) = i * 2 by omega, show (i + 1) * 2 + 1 - (0 + 1 + 1) = i * 2 + 1 by omega]
      exact ⟨h1, h2⟩
theorem flatL_one (l : List Lb) : ∀ u ∈ flatL l, u.oneCell' = true := by
  intro u hu
  obtain ⟨x, _, hx⟩ := List.mem_flatMap.1 hu
  simp at hx
  rcases hx with rfl | rfl <;> rfl
theorem RowL.cells {w : World} {ad : Addr} {n : Nat} {l : List Lb} (h : RowL w (some ad) n l) (j : Nat) (u : Value) (hj : (flatL l)[j]? = some u) : w.cell? (ad.add j) = some u := by
  have hlt : j < (flatL l).length := (List.getElem?_eq_some_iff.1 hj).1
  rw [flatL_len] at hlt
  obtain ⟨h1, _, _, h0 | ⟨b, off, he, hcell⟩⟩ := h
  · omega
  · simp only [Option.some.injEq] at he
    subst he
    rw [Addr.add_lit]
    have hx : l[j / 2]? = some (l[j / 2]'(by omega)) := List.getElem?_eq_getElem (by omega)
    obtain ⟨g1, g2⟩ := flatL_get l (j / 2) _ hx
    obtain ⟨c1, c2⟩ := hcell (j / 2) _ hx
    have e : j % 2 = 0 ∨ j % 2 = 1 := by omega
    rcases e with e | e
    · rw [show j / 2 * 2 = j by omega] at g1 c1
      rw [c1, ← g1, hj]
    · rw [show j / 2 * 2 + 1 = j by omega] at g2
      rw [show off + j / 2 * 2 + 1 = off + j by omega] at c2
      rw [c2, ← g2, hj]
/-- Labels in memory of the call's own. -/
def OwnL (w : World) (base : Nat) (a : Option Addr) (n cap : Nat) (l : List Lb) : Prop := w.ownsRow base 52 2 (.slice a n cap) n (flatL l)
theorem ownL_nil (w : World) (base : Nat) : OwnL w base none 0 0 [] := World.ownsRow_nil _ _ _ _
theorem ownL_form {w : World} {base n : Nat} {v : Value} {l : List Lb} (h : w.ownsRow base 52 2 v n (flatL l)) : ∃ a cap, v = .slice a n cap ∧ OwnL w base a n cap l := by
  have h0 := h
  rcases h.2 with ⟨rfl, rfl⟩ | ⟨g, cap, cur, rfl, _⟩
  · exact ⟨none, 0, rfl, h0⟩
  · exact ⟨_, _, rfl, h0⟩
section
variable {w w' : World} {base n cap : Nat} {a : Option Addr} {l : List Lb}
theorem OwnL.len (h : OwnL w base a n cap l) : l.length = n := by
  have := h.1
  rw [flatL_len] at this
  omega
theorem OwnL.capped (h : OwnL w base a n cap l) : n ≤ cap ∧ (a = none → n = 0 ∧ cap = 0) := by
  unfold OwnL at h
  rcases h.2 with ⟨h1, h2⟩ | ⟨g, c, cur, h1, _, _, h4, _⟩
  · simp only [Value.slice.injEq] at h1
    exact ⟨by omega, fun _ => ⟨by omega, by omega⟩⟩
  · simp only [Value.slice.injEq, true_and] at h1
    obtain ⟨rfl, rfl⟩ := h1
    exact ⟨h4, fun h => by simp at h⟩
theorem OwnL.row (h : OwnL w base a n cap l) (hn : n * 32 ≤ 140737488355328) (hf : ∀ x ∈ l, LbW x) : RowL w a n l := by
  have hl := h.len
  refine ⟨hl, hn, hf, ?_⟩
  unfold OwnL at h
  rcases id h.2 with ⟨h1, h2⟩ | ⟨g, c, cur, h1, _⟩
  · exact Or.inl h2
  · right
    simp only [Value.slice.injEq, true_and] at h1
    obtain ⟨rfl, rfl⟩ := h1
    refine ⟨g, 0, rfl, fun i x hi => ?_⟩
    have hlt : i < l.length := (List.getElem?_eq_some_iff.1 hi).1
    obtain ⟨g1, g2⟩ := flatL_get l i x hi
    rw [Nat.zero_add, h.cellAt (i * 2) (by omega), h.cellAt (i * 2 + 1) (by omega)]
    exact ⟨g1, g2⟩
theorem OwnL.ch {S : Nat → Prop} (h : OwnL w base a n cap l) (c : Ch S w w') (hn : ∀ g, (Value.slice a n cap).ownBlock = some g → ¬ S g) : OwnL w' base a n cap l := row_ch h c hn
theorem OwnL.below {B : Nat} (h : OwnL w base a n cap l) (hb : Below B w w') (hB : w.heap.size ≤ B) : OwnL w' base a n cap l := h.ch (Ch.of_below (hb.mono hB)) (fun _ _ => id)
theorem OwnL.alloc (h : OwnL w base a n cap l) (o : Obj) : OwnL (w.alloc o) base a n cap l := h.below ((Below.refl _ _).alloc (Nat.le_refl _) _) (Nat.le_refl _)
theorem OwnL.block (h : OwnL w base a n cap l) : ∀ g, (Value.slice a n cap).ownBlock = some g → base ≤ g := fun _ hg => (row_cells h hg).2
theorem OwnL.mono {base' : Nat} (h : OwnL w base a n cap l) (hb : base' ≤ base) : OwnL w base' a n cap l := by
  unfold OwnL at *
  refine ⟨h.1, ?_⟩
  rcases h.2 with h1 | ⟨g, c, cur, h1, h2, h3⟩
  · exact Or.inl h1
  · exact Or.inr ⟨g, c, cur, h1, Nat.le_trans hb h2, h3⟩
end
theorem lab_cells (w : World) (x : Lb) (e : TypeId) (j : Nat) (u : Value) (h : (flatL [x])[j]? = some u) : (w.alloc (.cells #[.string x.1, .string x.2] e)).cell? ((⟨w.heap.size, 0, none⟩ : Addr).add j) = some u := by
  rw [Addr.add_lit, World.cell?_alloc_mark]
  match j, h with
  | 0, h => simpa [flatL] using h
  | 1, h => simpa [flatL] using h

/-- Labels, of none too, behind a row of the call's own. -/
theorem wpList_append_labs {P : Program} (w : World) {ops : Array Oper} {rest : List Oper} {o : Oper} {a : Act} {Q : Exit → Act → World → Prop} (hgd : o.guard = none) (s x : Operand) (t : TypeId)
    (ho : o.op = .call { callee := .builtin .append, args := #[s, x], argTypes := #[t, t] })
    (base : Nat) (i : TypeInfo) (ht : P.underlying t = some (.slice 52)) (hi : P.info? 52 = some i) (hz : i.zero = some (.agg #[.string .empty, .string .empty])) (hsize : i.size = 2) (hby : i.bytes = 32)
    (ao : Option Addr) (n cap : Nat) (l : List Lb) (hs : a.eval s = .slice ao n cap) (hown : OwnL w base ao n cap l)
    (bo : Option Addr) (m c : Nat) (news : List Lb) (hx : a.eval x = .slice bo m c) (hm : news.length = m) (hrow : ∀ ad, bo = some ad → ∀ j u, (flatL news)[j]? = some u → w.cell? (ad.add j) = some u) (hbo : bo = none → m = 0 ∧ c = 0)
    (hbytes : (n + m) * 32 ≤ 140737488355328) (hbase : base ≤ w.heap.size)
    (h : ∀ a' cap' w', OwnL w' base a' (n + m) cap' (l ++ news) → Below base w w' → wpList P ops Q rest (a.put o.dst (.slice a' (n + m) cap')) w') : wpList P ops Q (o :: rest) a w := by
  cases bo with
  | none =>
    obtain ⟨rfl, rfl⟩ := hbo rfl
    have hz : news = [] := List.length_eq_zero_iff.1 hm
    subst hz
    refine wpList_append_own_none hgd s x t ho base 52 i 2 ht hi _ n (flatL l) hs hown hx ?_
    have := h ao cap w (by rw [List.append_nil]; exact hown) (Below.refl _ _)
    exact this
  | some ad =>
    refine wpList_append_own w hgd s x t ho base 52 i (.agg #[.string .empty, .string .empty]) 2 32 ht hi hz hsize hby rfl (by decide) _ n (flatL l) hs hown ad m c (flatL news) hx (by rw [flatL_len, hm]) (hrow ad rfl) (flatL_one news) (by unfold maxLen; omega) hbytes hbase ?_
    intro v' w' h1 h2 _
    rw [← flatL_append] at h1
    obtain ⟨a', cap', rfl, h3⟩ := ownL_form h1
    exact h a' cap' w' h3 ((Below.refl _ _).grown h2 hbase hown.block)

set_option maxHeartbeats 1000000 in
theorem labels_any (a : Option Addr) (n cap : Nat) (l : List Lb) (w : World) (hr : RowL w a n l) (hc : a = none → cap = 0) :
    Calls Tryz.prog 16 #[.slice a n cap] w fun e w' => ∃ a' cap', e = .returned (.slice a' n cap') ∧ OwnL w' w.heap.size a' n cap' l ∧ Below w.heap.size w w' := by
  obtain ⟨i0, hi, hz0, hz1, hz2⟩ := info_parts Tryz.infoL
  have HR := hide hr
  have HL := hide hr.1
  have hn := hr.2.1
  have HN : Hid (a = none → n = 0 ∧ cap = 0) := fun e => ⟨hr.nz e, hc e⟩
  have HC : Hid (∀ ad, a = some ad → ∀ j u, (flatL l)[j]? = some u → w.cell? (ad.add j) = some u) := fun ad e => by
    have h := hr
    rw [e] at h
    exact h.cells
  clear hr hc
  go_enter Tryz.func16, Tryz.ntmps16
  go_wp2_with (at_builtin; refine wpList_append_labs _ rfl _ _ 42 rfl w.heap.size i0 Tryz.underlying42 hi hz0 hz1 hz2 none 0 0 [] rfl (ownL_nil _ _) a n cap l rfl HL.out HC.out HN.out (by omega) (Nat.le_refl _) ?_)
  intro a2 c2 w1 o1 b1
  have O1 := hide o1
  have B1 := hide b1
  clear o1 b1
  go_wp2
  go_ret
  exact ⟨a2, c2, rfl, O1.out, B1.out⟩
end Go.Proofs.YtpffhpnmbpjifaaGreat

namespace Go.Proofs.YtpffhpnmbpjifaaGreat
open Go.RowKit
set_option maxRecDepth 20000

theorem ends_labs {xs ys : List Lb} {n : Nat} (hx : xs.length = n) (hy : ys.length = n) (h : ∀ j, j < n → xs[j]? = ys[j]?) : xs = ys := by
  refine List.ext_getElem? fun i => ?_
  by_cases hi : i < n
  · exact h i hi
  · rw [List.getElem?_eq_none (by omega), List.getElem?_eq_none (by omega)]

set_option maxHeartbeats 2000000 in
theorem samelabs_any (a : Option Addr) (n cap : Nat) (xs : List Lb) (b : Option Addr) (m capb : Nat) (ys : List Lb) (w : World) (hr : RowL w a n xs) (hs : RowL w b m ys) :
    Calls Tryz.prog 19 #[.slice a n cap, .slice b m capb] w fun e w' => e = .returned (.bool (decide (xs = ys))) ∧ ∃ q, w' = w.drewN q := by
  have hn := hr.2.1
  have HX := hide hr
  have HY := hide hs
  by_cases hnm : n = m
  · subst hnm
    clear hr hs
    have t0 : ((n : Int) != (n : Int)) = false := by simp
    go_enter Tryz.func19, Tryz.ntmps19
    go_wp2
    go_loopg [5] n (fun g i wr => ∃ k q : Nat, k ≤ n ∧ n - k ≤ g ∧ i = .int .i64 k ∧ wr = w.drewN q ∧ Hid (∀ j, j < k → xs[j]? = ys[j]?))
    case atStart => exact ⟨0, 0, Nat.zero_le _, by omega, rfl, rfl, fun j hj => absurd hj (Nat.not_lt_zero _)⟩
    case round =>
      obtain ⟨k, q, hk, hg, rfl, rfl, A⟩ := hrel
      by_cases hlt : k < n
      · obtain ⟨b1, o1, x, rfl, hx, _, hc1⟩ := HX.out.at' hlt
        obtain ⟨b2, o2, y, rfl, hy, _, hc2⟩ := HY.out.at' hlt
        obtain ⟨f0, f1⟩ := hc1 w (Below.refl _ _)
        obtain ⟨g0, g1⟩ := hc2 w (Below.refl _ _)
        have B : Hid (xs[k]? = some x ∧ ys[k]? = some y) := ⟨hx, hy⟩
        have i1 : (0 : Int) ≤ (k : Int) := by omega
        have i2 : (k : Int) < (n : Int) := by omega
        clear hc1 hc2 hx hy
        obtain ⟨p1, p2⟩ := x
        obtain ⟨q1, q2⟩ := y
        simp only at f0 f1 g0 g1
        by_cases hpq : p1 = q1 ∧ p2 = q2
        · obtain ⟨rfl, rfl⟩ := hpq
          have t3 : (p1.toList == p1.toList) = true := by simp
          have t4 : (p2.toList == p2.toList) = true := by simp
          go_wp2
          go_quiet (fail)
          go_wp2
          go_roundg (n - (k + 1))
          case measure => omega
          case rel =>
            refine ⟨k + 1, _, by omega, by omega, by go_num, rfl, fun j hj => ?_⟩
            by_cases e : j = k
            · subst e
              rw [B.out.1, B.out.2]
            · exact A.out j (by omega)
        · have HN : Hid (decide (xs = ys) = false) := decide_eq_false (fun e => hpq (by
            have h1 := B.out.1
            rw [e, B.out.2] at h1
            simpa [eq_comm] using h1))
          by_cases h1 : p1 = q1
          · have t3 : (p1.toList == q1.toList) = true := by rw [ba_eq]; exact decide_eq_true h1
            have t4 : (p2.toList == q2.toList) = false := by rw [ba_eq]; exact decide_eq_false (fun x => hpq ⟨h1, x⟩)
            clear hpq h1
            go_wp2
            go_quiet (fail)
            go_wp2
            go_ret
            exact ⟨by rw [HN.out]; rfl, q + _, World.drewN_drewN _ _ _⟩
          · have t3 : (p1.toList == q1.toList) = false := by rw [ba_eq]; exact decide_eq_false h1
            clear hpq h1
            go_wp2
            go_quiet (fail)
            go_wp2
            go_ret
            exact ⟨by rw [HN.out]; rfl, q + _, World.drewN_drewN _ _ _⟩
      · have : k = n := by omega
        subst this
        go_wp2
        go_ret
        refine ⟨?_, q, rfl⟩
        rw [decide_eq_true (ends_labs HX.out.1 HY.out.1 A.out)]; rfl
  · have t1 : ((n : Int) != (m : Int)) = true := by simp; omega
    have E : decide (xs = ys) = false := decide_eq_false (fun e => hnm (by rw [← hr.1, ← hs.1, e]))
    rw [E]
    clear hr hs hnm E
    go_enter Tryz.func19, Tryz.ntmps19
    go_wp2
    go_ret
    exact ⟨rfl, 0, rfl⟩

theorem reftexts_any (a b : ByteArray) (w : World) :
    Calls Tryz.prog 74 #[.string a, .string b] w fun e w' => e = .returned (.int .i64 (cmpT a b)) ∧ w' = w := by
  unfold cmpT
  rcases less_tri a.toList b.toList with h | h | h
  · rw [if_pos h]
    go_enter Tryz.func74, Tryz.ntmps74
    go_wp2
    go_ret
    exact ⟨rfl, rfl⟩
  · have e := ba_ext h
    subst e
    have h1 := less_irrefl a.toList
    have h2 : (a.toList == a.toList) = true := by simp
    rw [if_neg (by rw [h1]; decide), if_neg (by rw [h1]; decide)]
    go_enter Tryz.func74, Tryz.ntmps74
    go_wp2
    go_ret
    exact ⟨rfl, rfl⟩
  · have h1 := less_asymm h
    have h2 : (a.toList == b.toList) = false := beq_eq_false_iff_ne.2 (fun e => by rw [e, less_irrefl] at h; cases h)
    rw [if_neg (by rw [h1]; decide), if_pos h]
    go_enter Tryz.func74, Tryz.ntmps74
    go_wp2
    go_ret
    exact ⟨rfl, rfl⟩

theorem quiet_lab {P : Program} {f : Nat} {args : Array Value} {v : Value} {wr : World} {q x : Nat} (h : ∀ w, Calls P f args w (fun e w' => e = .returned v ∧ w' = w)) : Calls P f args (wr.drewN (q + x)) fun e w' => e = .returned v ∧ ∃ n, w' = wr.drewN (q + n) :=
  (h _).mono (fun _ _ k => ⟨k.1, x, k.2⟩)
/-- A name's value, told place by place. -/
theorem valL_at {l : List Lb} {nm : ByteArray} {k : Nat} {x : Lb} (hx : l[k]? = some x) (hn : ∀ j y, j < k → l[j]? = some y → y.1 ≠ nm) (he : x.1 = nm) : valL l nm = x.2 := by
  induction l generalizing k with
  | nil => simp at hx
  | cons y t ih =>
    cases k with
    | zero =>
      simp only [List.getElem?_cons_zero, Option.some.injEq] at hx
      subst hx
      unfold valL
      rw [List.find?_cons_of_pos (by simpa using he)]
      rfl
    | succ k =>
      have h0 : y.1 ≠ nm := hn 0 y (by omega) rfl
      have := ih (k := k) (by simpa using hx) (fun j z hj hz => hn (j + 1) z (by omega) (by simpa using hz))
      unfold valL at this ⊢
      rw [List.find?_cons_of_neg (by simpa using h0)]
      exact this

set_option maxHeartbeats 1000000 in
theorem refval_any (a : Option Addr) (n cap : Nat) (l : List Lb) (nm : ByteArray) (w : World) (hr : RowL w a n l) :
    Calls Tryz.prog 47 #[.slice a n cap, .string nm] w fun e w' => e = .returned (.string (valL l nm)) ∧ ∃ q, w' = w.drewN q := by
  have hn := hr.2.1
  have HR := hide hr
  have HL := hide hr.1
  clear hr
  go_enter Tryz.func47, Tryz.ntmps47
  go_wp2
  go_loopg [5] n (fun g i wr => ∃ k q : Nat, k ≤ n ∧ n - k ≤ g ∧ i = .int .i64 k ∧ wr = w.drewN q ∧ Hid (∀ j y, j < k → l[j]? = some y → y.1 ≠ nm))
  case atStart => exact ⟨0, 0, Nat.zero_le _, by omega, rfl, rfl, fun j y hj => absurd hj (Nat.not_lt_zero _)⟩
  case round =>
    obtain ⟨k, q, hk, hg, rfl, rfl, A⟩ := hrel
    by_cases hlt : k < n
    · obtain ⟨b1, o1, x, rfl, hx, _, hc1⟩ := HR.out.at' hlt
      obtain ⟨f0, f1⟩ := hc1 w (Below.refl _ _)
      have HX := hide hx
      have i1 : (0 : Int) ≤ (k : Int) := by omega
      have i2 : (k : Int) < (n : Int) := by omega
      clear hc1 hx
      by_cases he : x.1 = nm
      · have t1 : (x.1.toList == nm.toList) = true := by rw [ba_eq]; exact decide_eq_true he
        have HV := hide (valL_at HX.out A.out he)
        clear he
        go_wp2
        go_ret
        exact ⟨by rw [HV.out]; rfl, q, rfl⟩
      · have t1 : (x.1.toList == nm.toList) = false := by rw [ba_eq]; exact decide_eq_false he
        have A2 : Hid (∀ j y, j < k + 1 → l[j]? = some y → y.1 ≠ nm) := by
          intro j y hj hy
          by_cases e : j = k
          · subst e
            rw [HX.out] at hy
            simp only [Option.some.injEq] at hy
            subst hy
            exact he
          · exact A.out j y (by omega) hy
        clear he
        go_wp2
        go_roundg (n - (k + 1))
        case measure => omega
        case rel => exact ⟨k + 1, q, by omega, by omega, by go_num, rfl, A2⟩
    · have : k = n := by omega
      subst this
      have HV : Hid (valL l nm = .empty) := valL_none (fun x hx => by
        obtain ⟨j, hj⟩ := List.mem_iff_getElem?.1 hx
        have : j < l.length := (List.getElem?_eq_some_iff.1 hj).1
        exact A.out j x (by rw [HL.out] at this; exact this) hj)
      go_wp2
      go_ret
      exact ⟨by rw [HV.out]; rfl, q, rfl⟩

theorem drop_none {l : List Lb} {k : Nat} (h : l.length ≤ k) : l.drop k = [] := List.drop_eq_nil_of_le h
theorem cmpL_drop {l m : List Lb} {k : Nat} {x y : Lb} (hx : l[k]? = some x) (hy : m[k]? = some y) : cmpL (l.drop k) (m.drop k) = if cmpT x.1 y.1 = 0 then (if cmpT x.2 y.2 = 0 then cmpL (l.drop (k + 1)) (m.drop (k + 1)) else cmpT x.2 y.2) else cmpT x.1 y.1 := by
  have h1 : k < l.length := (List.getElem?_eq_some_iff.1 hx).1
  have h2 : k < m.length := (List.getElem?_eq_some_iff.1 hy).1
  rw [List.drop_eq_getElem_cons h1, List.drop_eq_getElem_cons h2, (List.getElem?_eq_some_iff.1 hx).2, (List.getElem?_eq_some_iff.1 hy).2]
  unfold cmpL
  rw [lexL]
  unfold lexP
  by_cases e : cmpT x.1 y.1 = 0
  · rw [if_pos e, if_pos e]
  · rw [if_neg e, if_neg e, if_neg e]

set_option maxHeartbeats 2000000 in
theorem refcmp_any (a : Option Addr) (n cap : Nat) (l : List Lb) (b : Option Addr) (m capb : Nat) (r : List Lb) (w : World) (hr : RowL w a n l) (hs : RowL w b m r) :
    Calls Tryz.prog 58 #[.slice a n cap, .slice b m capb] w fun e w' => e = .returned (.int .i64 (cmpL l r)) ∧ ∃ q, w' = w.drewN q := by
  have hn := hr.2.1
  have hm := hs.2.1
  have HX := hide hr
  have HY := hide hs
  have HL := hide hr.1
  have HM := hide hs.1
  have T := hide reftexts_any
  clear hr hs
  go_enter Tryz.func58, Tryz.ntmps58
  go_wp2
  go_loopg [5] n (fun g i wr => ∃ k q : Nat, k ≤ n ∧ k ≤ m ∧ n - k ≤ g ∧ i = .int .i64 k ∧ wr = w.drewN q ∧ Hid (cmpL l r = cmpL (l.drop k) (r.drop k)))
  case atStart => exact ⟨0, 0, Nat.zero_le _, Nat.zero_le _, by omega, rfl, rfl, rfl⟩
  case round =>
    obtain ⟨k, q, hk, hk2, hg, rfl, rfl, A⟩ := hrel
    by_cases hlt : k < n
    · by_cases hlm : k < m
      · obtain ⟨b1, o1, x, rfl, hx, _, hc1⟩ := HX.out.at' hlt
        obtain ⟨b2, o2, y, rfl, hy, _, hc2⟩ := HY.out.at' hlm
        have HC : Hid (∀ W, Below w.heap.size w W → (W.cell? ⟨b1, o1 + k * 2, none⟩ = some (.string x.1) ∧ W.cell? ⟨b1, o1 + k * 2 + 1, none⟩ = some (.string x.2)) ∧ W.cell? ⟨b2, o2 + k * 2, none⟩ = some (.string y.1) ∧ W.cell? ⟨b2, o2 + k * 2 + 1, none⟩ = some (.string y.2)) := fun W hW => ⟨hc1 W hW, hc2 W hW⟩
        have CD := hide (cmpL_drop hx hy)
        have i1 : (0 : Int) ≤ (k : Int) := by omega
        have i2 : (k : Int) < (n : Int) := by omega
        have i3 : (k : Int) < (m : Int) := by omega
        clear hc1 hc2 hx hy
        obtain ⟨⟨f0, f1⟩, g0, g1⟩ := HC.out w (Below.refl _ _)
        by_cases e1 : cmpT x.1 y.1 = 0
        · have T1 := hide (T.out x.1 y.1)
          rw [e1] at T1
          by_cases e2 : cmpT x.2 y.2 = 0
          · have T2 := hide (T.out x.2 y.2)
            rw [e2] at T2
            have A2 : Hid (cmpL l r = cmpL (l.drop (k + 1)) (r.drop (k + 1))) := by show _ = _; rw [A.out, CD.out, if_pos e1, if_pos e2]
            clear e1 e2
            go_wp2
            go_quiet ((go_at_call 74; exact quiet_lab T1.out))
            go_wp2
            go_quiet ((go_at_call 74; exact quiet_lab T2.out))
            go_wp2
            go_roundg (n - (k + 1))
            case measure => omega
            case rel => exact ⟨k + 1, _, by omega, by omega, by omega, by go_num, rfl, A2⟩
          · have T2 := hide (T.out x.2 y.2)
            have t2 : (cmpT x.2 y.2 != 0) = true := by simpa using e2
            have A2 : Hid (cmpL l r = cmpT x.2 y.2) := by show _ = _; rw [A.out, CD.out, if_pos e1, if_neg e2]
            generalize cmpT x.2 y.2 = c at T2 t2 A2
            clear e1 e2
            go_wp2
            go_quiet ((go_at_call 74; exact quiet_lab T1.out))
            go_wp2
            go_quiet ((go_at_call 74; exact quiet_lab T2.out))
            go_wp2
            go_ret
            exact ⟨by rw [A2.out]; rfl, _, rfl⟩
        · have T1 := hide (T.out x.1 y.1)
          have t1 : (cmpT x.1 y.1 != 0) = true := by simpa using e1
          have A2 : Hid (cmpL l r = cmpT x.1 y.1) := by show _ = _; rw [A.out, CD.out, if_neg e1]
          generalize cmpT x.1 y.1 = c at T1 t1 A2
          clear e1
          go_wp2
          go_quiet ((go_at_call 74; exact quiet_lab T1.out))
          go_wp2
          go_ret
          exact ⟨by rw [A2.out]; rfl, _, rfl⟩
      · have hkm : k = m := by omega
        have A2 : Hid (cmpL l r = 1) := by
          show _ = _
          rw [A.out, drop_none (l := r) (by rw [HM.out]; omega), List.drop_eq_getElem_cons (by rw [HL.out]; exact hlt)]
          rfl
        have i2 : (k : Int) < (n : Int) := by omega
        have i3 : ¬ (k : Int) < (m : Int) := by omega
        have i4 : ¬ (n : Int) < (m : Int) := by omega
        have i5 : (m : Int) < (n : Int) := by omega
        clear hkm
        go_wp2
        go_ret
        exact ⟨by rw [A2.out]; rfl, q, rfl⟩
    · have hkn : k = n := by omega
      have i2 : ¬ (k : Int) < (n : Int) := by omega
      by_cases hlm : n < m
      · have A2 : Hid (cmpL l r = -1) := by
          show _ = _
          rw [A.out, drop_none (l := l) (by rw [HL.out]; omega), List.drop_eq_getElem_cons (by rw [HM.out]; omega)]
          rfl
        have i4 : (n : Int) < (m : Int) := by omega
        clear hkn
        go_wp2
        go_ret
        exact ⟨by rw [A2.out]; rfl, q, rfl⟩
      · have A2 : Hid (cmpL l r = 0) := by
          show _ = _
          rw [A.out, drop_none (l := l) (by rw [HL.out]; omega), drop_none (l := r) (by rw [HM.out]; omega)]
          rfl
        have i4 : ¬ (n : Int) < (m : Int) := by omega
        have i5 : ¬ (m : Int) < (n : Int) := by omega
        clear hkn
        go_wp2
        go_ret
        exact ⟨by rw [A2.out]; rfl, q, rfl⟩
end Go.Proofs.YtpffhpnmbpjifaaGreat

namespace Go.Proofs.YtpffhpnmbpjifaaGreat
open Go.RowKit
set_option maxRecDepth 20000

theorem nmF_append (i : Nat) (l m : List UInt8) : nmF i (l ++ m) = (nmF i l && nmF (i + l.length) m) := by
  induction l generalizing i with
  | nil => simp [nmF]
  | cons c t ih =>
    rw [List.cons_append, nmF, nmF, ih, Bool.and_assoc, List.length_cons, show i + 1 + t.length = i + (t.length + 1) by omega]
theorem nmF_step {l : List UInt8} {k : Nat} {c : UInt8} (h : l[k]? = some c) : nmF 0 (l.take (k + 1)) = (nmF 0 (l.take k) && nmC k c) := by
  have hk : k < l.length := (List.getElem?_eq_some_iff.1 h).1
  rw [List.take_succ_eq_append_getElem hk, (List.getElem?_eq_some_iff.1 h).2, nmF_append, Nat.zero_add, List.length_take, Nat.min_eq_left (Nat.le_of_lt hk)]
  simp [nmF]
theorem nmF_false {l : List UInt8} {k : Nat} (h : nmF 0 (l.take k) = false) : nmF 0 l = false := by
  have := nmF_append 0 (l.take k) (l.drop k)
  rw [List.take_append_drop, h] at this
  exact this
/-- A name's byte as a number. -/
theorem nmC_num (k : Nat) (c : UInt8) : nmC k c = true ↔ (c.toNat = 95 ∨ (97 ≤ c.toNat ∧ c.toNat ≤ 122) ∨ (48 ≤ c.toNat ∧ c.toNat ≤ 57 ∧ k ≠ 0)) := by
  unfold nmC
  simp only [Bool.or_eq_true, Bool.and_eq_true, decide_eq_true_eq, beq_iff_eq, UInt8.le_iff_toNat_le, ← UInt8.toNat_inj]
  constructor
  · rintro ((h | h) | h)
    · exact Or.inl h
    · exact Or.inr (Or.inl h)
    · exact Or.inr (Or.inr ⟨h.1.1, h.1.2, h.2⟩)
  · rintro (h | h | h)
    · exact Or.inl (Or.inl h)
    · exact Or.inl (Or.inr h)
    · exact Or.inr ⟨⟨h.1, h.2.1⟩, h.2.2⟩

set_option maxHeartbeats 4000000 in
theorem refname_any (s : ByteArray) (w : World) (hs : s.size ≤ 9223372036854775807) :
    Calls Tryz.prog 49 #[.string s] w fun e w' => e = .returned (.bool (nameB s)) ∧ w' = w := by
  have HN : Hid (nmF 0 s.toList = false → nameB s = false) := fun h => by unfold nameB; rw [h]; rfl
  have HY : Hid (nmF 0 s.toList = true → nameB s = (decide (1 ≤ s.size) && decide (s.size ≤ 32))) := fun h => by unfold nameB; rw [h]; rfl
  generalize nameB s = ans at *
  go_enter Tryz.func49, Tryz.ntmps49
  go_wp2
  go_loopg [3] s.size (fun g i wr => ∃ k : Nat, k ≤ s.size ∧ s.size - k ≤ g ∧ i = .int .i64 k ∧ wr = w ∧ Hid (nmF 0 (s.toList.take k) = true))
  case atStart => exact ⟨0, Nat.zero_le _, by omega, rfl, rfl, rfl⟩
  case round =>
    obtain ⟨k, hk, hg, rfl, rfl, A⟩ := hrel
    by_cases hlt : k < s.size
    · have hx : s.toList[k]? = some (s[k]'hlt) := by
        rw [ByteArray.toList_eq, Array.getElem?_toList]
        exact Array.getElem?_eq_getElem hlt
      have ST := hide (nmF_step hx)
      have NC := hide (nmC_num k (s[k]'hlt))
      have hbk : ∃ z : Int, Hid (((s[k]'hlt).toNat : Int) = z) := ⟨_, rfl⟩
      obtain ⟨z, hz⟩ := hbk
      have hb := hz.out
      have NZ : Hid (nmC k (s[k]'hlt) = true ↔ (z = 95 ∨ (97 ≤ z ∧ z ≤ 122) ∨ (48 ≤ z ∧ z ≤ 57 ∧ k ≠ 0))) := by
        show _ ↔ _
        rw [NC.out]
        constructor
        · rintro (h | h | h)
          · exact Or.inl (by omega)
          · exact Or.inr (Or.inl (by omega))
          · exact Or.inr (Or.inr (by omega))
        · rintro (h | h | h)
          · exact Or.inl (by omega)
          · exact Or.inr (Or.inl (by omega))
          · exact Or.inr (Or.inr (by omega))
      have i2 : (k : Int) < (s.size : Int) := by omega
      have i1 : (0 : Int) ≤ (k : Int) := by omega
      clear hx NC hz
      cases hm : nmC k (s[k]'hlt) with
      | true =>
        have A2 : Hid (nmF 0 (s.toList.take (k + 1)) = true) := by show _ = _; rw [ST.out, A.out, hm]; rfl
        have cs := NZ.out.1 hm
        clear hm ST NZ
        rcases cs with rfl | cs | cs
        · have y1 : ((95 : Int) != 95) = false := by decide
          go_wp2
          go_roundg (s.size - (k + 1))
          case measure => omega
          case rel => exact ⟨k + 1, by omega, by omega, by go_num, rfl, A2⟩
        · have y1 : (z != 95) = true := by simp; omega
          have x1 : ¬ z < 97 := by omega
          have x4 : ¬ 122 < z := by omega
          go_wp2
          go_roundg (s.size - (k + 1))
          case measure => omega
          case rel => exact ⟨k + 1, by omega, by omega, by go_num, rfl, A2⟩
        · have y1 : (z != 95) = true := by simp; omega
          have x1 : z < 97 := by omega
          have x2 : ¬ z < 48 := by omega
          have x3 : ¬ 57 < z := by omega
          have y2 : ((k : Int) == 0) = false := by simp; omega
          go_wp2
          go_roundg (s.size - (k + 1))
          case measure => omega
          case rel => exact ⟨k + 1, by omega, by omega, by go_num, rfl, A2⟩
      | false =>
        have F : Hid (ans = false) := HN.out (nmF_false (k := k + 1) (by rw [ST.out, hm, Bool.and_false]))
        have cs : ¬ (z = 95 ∨ (97 ≤ z ∧ z ≤ 122) ∨ (48 ≤ z ∧ z ≤ 57 ∧ k ≠ 0)) := fun h => by rw [NZ.out.2 h] at hm; cases hm
        have y1 : (z != 95) = true := by simp; omega
        clear hm ST NZ
        by_cases x1 : z < 97
        · by_cases x2 : z < 48
          · clear cs
            go_wp2
            go_ret
            exact ⟨by rw [F.out]; rfl, rfl⟩
          · by_cases x3 : 57 < z
            · clear cs
              go_wp2
              go_ret
              exact ⟨by rw [F.out]; rfl, rfl⟩
            · have y2 : ((k : Int) == 0) = true := by simp; omega
              clear cs
              go_wp2
              go_ret
              exact ⟨by rw [F.out]; rfl, rfl⟩
        · have x4 : 122 < z := by omega
          have x2 : ¬ z < 48 := by omega
          have x3 : 57 < z := by omega
          clear cs
          go_wp2
          go_ret
          exact ⟨by rw [F.out]; rfl, rfl⟩
    · have : k = s.size := by omega
      have F := hide (HY.out (by
        have h := A.out
        rw [List.take_of_length_le (by rw [ba_len]; omega)] at h
        exact h))
      have i2 : ¬ (k : Int) < (s.size : Int) := by omega
      clear this
      by_cases x1 : 1 ≤ (s.size : Int)
      · by_cases x2 : (s.size : Int) ≤ 32
        · go_wp2
          go_ret
          refine ⟨?_, rfl⟩
          rw [F.out, decide_eq_true (show 1 ≤ s.size by omega), decide_eq_true (show s.size ≤ 32 by omega)]; rfl
        · go_wp2
          go_ret
          refine ⟨?_, rfl⟩
          rw [F.out, decide_eq_false (show ¬ s.size ≤ 32 by omega), Bool.and_false]; rfl
      · go_wp2
        go_ret
        refine ⟨?_, rfl⟩
        rw [F.out, decide_eq_false (show ¬ 1 ≤ s.size by omega), Bool.false_and]; rfl

def lastN (p : Option ByteArray) (l : List Lb) : Option ByteArray := match l.getLast? with
  | some y => some y.1
  | none => p
def okP (p : Option ByteArray) (n : ByteArray) : Bool := match p with
  | none => true
  | some q => Op.bytesLess q.toList n.toList
theorem chkF_cons (p : Option ByteArray) (x : Lb) (t : List Lb) : chkF p (x :: t) = ((lbB x && okP p x.1) && chkF (some x.1) t) := by cases p <;> rfl
theorem chkF_append : ∀ (p : Option ByteArray) (l m : List Lb), chkF p (l ++ m) = (chkF p l && chkF (lastN p l) m)
  | p, [], m => by
    have : chkF p [] = true := by cases p <;> rfl
    rw [this, Bool.true_and]; rfl
  | p, x :: t, m => by
    rw [List.cons_append, chkF_cons, chkF_cons, chkF_append (some x.1) t m]
    have e : lastN p (x :: t) = lastN (some x.1) t := by
      unfold lastN
      cases t with
      | nil => rfl
      | cons y u => rw [List.getLast?_cons_cons]; cases h : (y :: u).getLast? with
        | none => simp at h
        | some z => rfl
    rw [e, Bool.and_assoc, Bool.and_assoc, Bool.and_assoc]
/-- One label more. -/
theorem chkF_step {l : List Lb} {k : Nat} {x : Lb} (hx : l[k]? = some x) : chkF none (l.take (k + 1)) = (chkF none (l.take k) && (lbB x && okP (lastN none (l.take k)) x.1)) := by
  have hk : k < l.length := (List.getElem?_eq_some_iff.1 hx).1
  rw [List.take_succ_eq_append_getElem hk, (List.getElem?_eq_some_iff.1 hx).2, chkF_append, chkF_cons]
  have : chkF (some x.1) [] = true := rfl
  rw [this, Bool.and_true]
theorem lastN_none (l : List Lb) : lastN none (l.take 0) = none := rfl
theorem lastN_some {l : List Lb} {k : Nat} {y : Lb} (hy : l[k]? = some y) : lastN none (l.take (k + 1)) = some y.1 := by
  have hk : k < l.length := (List.getElem?_eq_some_iff.1 hy).1
  rw [List.take_succ_eq_append_getElem hk, (List.getElem?_eq_some_iff.1 hy).2]
  unfold lastN
  rw [List.getLast?_concat]
theorem chkF_false {l : List Lb} {k : Nat} (h : chkF none (l.take k) = false) : chkL l = false := by
  have := chkF_append none (l.take k) (l.drop k)
  rw [List.take_append_drop, h, Bool.false_and] at this
  unfold chkL
  rw [this, Bool.false_and]
theorem leq_less (x y : List UInt8) : (Op.bytesLess x y || x == y) = !(Op.bytesLess y x) := by
  rw [← gtr_less x y, Bool.not_not]

set_option maxHeartbeats 8000000 in
theorem refchkl_any (a : Option Addr) (n cap : Nat) (l : List Lb) (w : World) (hr : RowL w a n l) :
    Calls Tryz.prog 33 #[.slice a n cap] w fun e w' => e = .returned (.bool (chkL l)) ∧ ∃ q, w' = w.drewN q := by
  have hn := hr.2.1
  have HR := hide hr
  have HL := hide hr.1
  have HN : Hid (∀ k, chkF none (l.take k) = false → chkL l = false) := fun k h => chkF_false h
  have HY : Hid (chkF none l = true → chkL l = (decide (1 ≤ n) && decide (n ≤ 8))) := fun h => by unfold chkL; rw [h, HL.out]; rfl
  generalize chkL l = ans at *
  clear hr
  go_enter Tryz.func33, Tryz.ntmps33
  go_wp2
  go_loopg [3] n (fun g i wr => ∃ k q : Nat, k ≤ n ∧ n - k ≤ g ∧ i = .int .i64 k ∧ wr = w.drewN q ∧ Hid (chkF none (l.take k) = true))
  case atStart => exact ⟨0, 0, Nat.zero_le _, by omega, rfl, rfl, rfl⟩
  case round =>
    obtain ⟨k, q, hk, hg, rfl, rfl, A⟩ := hrel
    by_cases hlt : k < n
    · obtain ⟨b1, o1, x, rfl, hx, hxw, hc1⟩ := HR.out.at' hlt
      obtain ⟨f0, f1⟩ := hc1 w (Below.refl _ _)
      have ST := hide (chkF_step hx)
      rw [A.out, Bool.true_and] at ST
      have CN := hide (fun W => refname_any x.1 W hxw.1)
      have LB : Hid (lbB x = (nameB x.1 && (decide (1 ≤ x.2.size) && decide (x.2.size ≤ 64)))) := rfl
      have i1 : (0 : Int) ≤ (k : Int) := by omega
      have i2 : (k : Int) < (n : Int) := by omega
      have HX := hide hx
      clear hc1 hx hxw
      cases hnm : nameB x.1 with
      | false =>
        rw [hnm] at CN
        have F : Hid (ans = false) := HN.out (k + 1) (by rw [ST.out, LB.out, hnm]; rfl)
        clear hnm ST LB
        go_wp2
        go_quiet ((go_at_call 49; exact quiet_lab CN.out))
        go_wp2
        go_ret
        exact ⟨by rw [F.out]; rfl, q + _, World.drewN_drewN _ _ _⟩
      | true =>
        rw [hnm] at CN
        rw [hnm, Bool.true_and] at LB
        clear hnm
        by_cases h1 : 1 ≤ x.2.size
        · have e1 : decide ((x.2.size : Int) < 1) = false := decide_eq_false (by omega)
          have e1' : ¬ (x.2.size : Int) < 1 := by omega
          have LB1 : Hid (lbB x = decide (x.2.size ≤ 64)) := by show _ = _; rw [LB.out, decide_eq_true h1, Bool.true_and]
          clear LB
          by_cases h2 : x.2.size ≤ 64
          · have e2 : decide ((64 : Int) < (x.2.size : Int)) = false := decide_eq_false (by omega)
            have e2' : ¬ (64 : Int) < (x.2.size : Int) := by omega
            rw [decide_eq_true h2] at LB1
            rw [LB1.out, Bool.true_and] at ST
            clear h2 LB1
            by_cases hk0 : k = 0
            · have A2 : Hid (chkF none (l.take (k + 1)) = true) := by show _ = _; rw [ST.out, hk0]; rfl
              have e3 : decide ((0 : Int) < (k : Int)) = false := decide_eq_false (by omega)
              have e3' : ¬ (0 : Int) < (k : Int) := by omega
              have e3n : decide (0 < k) = false := decide_eq_false (by omega)
              clear ST h1 hk0
              go_wp2
              go_quiet ((go_at_call 49; exact quiet_lab CN.out))
              go_wp2
              go_roundg (n - (k + 1))
              case measure => omega
              case rel => exact ⟨k + 1, _, by omega, by omega, by go_num, rfl, A2⟩
            · obtain ⟨j, rfl⟩ : ∃ j, k = j + 1 := ⟨k - 1, by omega⟩
              obtain ⟨b2, o2, y, hbo, hy, _, hc2⟩ := HR.out.at' (j := j) (by omega)
              simp only [Option.some.injEq, Addr.mk.injEq, and_true] at hbo
              obtain ⟨rfl, rfl⟩ := hbo
              obtain ⟨g0, _⟩ := hc2 w (Below.refl _ _)
              have ST2 : Hid (chkF none (l.take (j + 1 + 1)) = Op.bytesLess y.1.toList x.1.toList) := by show _ = _; rw [ST.out, lastN_some hy]; rfl
              have e3 : decide ((0 : Int) < (j : Int) + 1) = true := decide_eq_true (by omega)
              have e3' : (0 : Int) < (j : Int) + 1 := by omega
              have e4 := leq_less x.1.toList y.1.toList
              have j1 : (0 : Int) ≤ (j : Int) := by omega
              have j2 : (j : Int) < (n : Int) := by omega
              clear hc2 hy ST h1
              cases hb : Op.bytesLess y.1.toList x.1.toList with
              | false =>
                rw [hb] at ST2 e4
                have F : Hid (ans = false) := HN.out _ ST2.out
                clear hb ST2
                go_wp2
                go_quiet ((go_at_call 49; exact quiet_lab CN.out))
                go_wp2
                go_ret
                exact ⟨by rw [F.out]; rfl, q + _, World.drewN_drewN _ _ _⟩
              | true =>
                rw [hb] at ST2 e4
                clear hb
                go_wp2
                go_quiet ((go_at_call 49; exact quiet_lab CN.out))
                go_wp2
                go_roundg (n - (j + 1 + 1))
                case measure => omega
                case rel => exact ⟨j + 1 + 1, _, by omega, by omega, by go_num, rfl, ST2⟩
          · have e2 : decide ((64 : Int) < (x.2.size : Int)) = true := decide_eq_true (by omega)
            have e2' : (64 : Int) < (x.2.size : Int) := by omega
            have F : Hid (ans = false) := HN.out (k + 1) (by rw [ST.out, LB1.out, decide_eq_false h2]; rfl)
            clear h2 LB1 ST h1
            go_wp2
            go_quiet ((go_at_call 49; exact quiet_lab CN.out))
            go_wp2
            go_ret
            exact ⟨by rw [F.out]; rfl, q + _, World.drewN_drewN _ _ _⟩
        · have e1 : decide ((x.2.size : Int) < 1) = true := decide_eq_true (by omega)
          have e1' : (x.2.size : Int) < 1 := by omega
          have F : Hid (ans = false) := HN.out (k + 1) (by rw [ST.out, LB.out, decide_eq_false h1]; rfl)
          clear LB ST h1
          go_wp2
          go_quiet ((go_at_call 49; exact quiet_lab CN.out))
          go_wp2
          go_ret
          exact ⟨by rw [F.out]; rfl, q + _, World.drewN_drewN _ _ _⟩
    · have : k = n := by omega
      have F := hide (HY.out (by
        have h := A.out
        rw [List.take_of_length_le (by rw [HL.out]; omega)] at h
        exact h))
      have i2 : ¬ (k : Int) < (n : Int) := by omega
      clear this
      by_cases x1 : 1 ≤ (n : Int)
      · by_cases x2 : (n : Int) ≤ 8
        · go_wp2
          go_ret
          refine ⟨?_, q, rfl⟩
          rw [F.out, decide_eq_true (show 1 ≤ n by omega), decide_eq_true (show n ≤ 8 by omega)]; rfl
        · go_wp2
          go_ret
          refine ⟨?_, q, rfl⟩
          rw [F.out, decide_eq_false (show ¬ n ≤ 8 by omega), Bool.and_false]; rfl
      · go_wp2
        go_ret
        refine ⟨?_, q, rfl⟩
        rw [F.out, decide_eq_false (show ¬ 1 ≤ n by omega), Bool.false_and]; rfl
end Go.Proofs.YtpffhpnmbpjifaaGreat

namespace Go.Proofs.YtpffhpnmbpjifaaGreat
open Go.RowKit
set_option maxRecDepth 20000

structure LaN : Prop where
  name : ∀ s w, s.size ≤ 9223372036854775807 → Calls Tryz.prog 56 #[.string s] w fun e w' => e = .returned (.bool (nameB s)) ∧ Below w.heap.size w w'
structure LaC : Prop where
  chk : ∀ a n cap l w, RowL w a n l → Calls Tryz.prog 30 #[.slice a n cap] w fun e w' => e = .returned (.bool (chkL l)) ∧ Below w.heap.size w w'
structure LaV : Prop where
  val : ∀ a n cap l nm w, RowL w a n l → nm.size ≤ 9223372036854775807 → Calls Tryz.prog 52 #[.slice a n cap, .string nm] w fun e w' => e = .returned (.string (valL l nm)) ∧ Below w.heap.size w w'
/-- What Make tells. -/
def MadeL (r : Option (List Lb)) (err : Int) (w w' : World) (e : Ending) : Prop :=
  Below w.heap.size w w' ∧ match r with
  | none => ∃ a c, e = .returned (.tuple #[.slice a 0 c, .int .i64 err])
  | some m => ∃ a c, e = .returned (.tuple #[.slice a m.length c, .int .i64 0]) ∧ RowL w' a m.length m ∧ m.length ≤ c ∧ (a = none → c = 0)
structure LaT : Prop where
  text : ∀ a n cap l w, RowL w a n l → chkL l = true → Calls Tryz.prog 57 #[.slice a n cap] w fun e w' => e = .returned (.string (textL l)) ∧ Below w.heap.size w w'
def bB : ByteArray := ⟨#[98]⟩
def aB : ByteArray := ⟨#[97]⟩
def ex3 : List Lb := [(⟨#[98]⟩, ⟨#[50]⟩), (⟨#[97]⟩, ⟨#[49]⟩), (⟨#[99]⟩, .empty)]
def ex2 : List Lb := [(⟨#[97]⟩, ⟨#[49]⟩), (⟨#[98]⟩, ⟨#[50]⟩)]
theorem ex_make : makeL ex3 = some ex2 := by decide +kernel
theorem ex_chk : chkL ex2 = true := by decide +kernel
theorem ex_text : textL ex2 = ⟨#[97, 61, 34, 49, 34, 44, 98, 61, 34, 50, 34]⟩ := by decide +kernel
theorem ex_val : valL ex2 ⟨#[98]⟩ = ⟨#[50]⟩ := by decide +kernel
theorem ex_name : nameB ⟨#[57]⟩ = false := by decide +kernel
theorem ex_row (w : World) : RowL (w.alloc (.cells #[.string ⟨#[98]⟩, .string ⟨#[50]⟩, .string ⟨#[97]⟩, .string ⟨#[49]⟩, .string ⟨#[99]⟩, .string ⟨#[]⟩] 52)) (some ⟨w.heap.size, 0, none⟩) 3 ex3 := by
  refine ⟨rfl, by decide, ?_, Or.inr ⟨_, _, rfl, ?_⟩⟩
  · intro x hx
    simp only [ex3, List.mem_cons, List.not_mem_nil, or_false] at hx
    rcases hx with rfl | rfl | rfl <;> exact ⟨by decide, by decide⟩
  · intro i x hx
    match i, hx with
    | 0, hx => obtain rfl : _ = x := by simpa [ex3] using hx
               exact ⟨by simp [go_sem], by simp [go_sem]⟩
    | 1, hx => obtain rfl : _ = x := by simpa [ex3] using hx
               exact ⟨by simp [go_sem], by simp [go_sem]⟩
    | 2, hx => obtain rfl : _ = x := by simpa [ex3] using hx
               exact ⟨by simp [go_sem], by simp [go_sem]; rfl⟩
    | i + 3, hx => simp [ex3] at hx

end Go.Proofs.YtpffhpnmbpjifaaGreat

namespace Go.Proofs.YtpffhpnmbpjifaaGreat
open Go.RowKit
set_option maxRecDepth 20000

theorem quietB {P : Program} {f : Nat} {args : Array Value} {v : Value} {w : World} (h : Calls P f args w (fun e w' => e = .returned v ∧ ∃ q, w' = w.drewN q)) : Calls P f args w fun e w' => e = .returned v ∧ Below w.heap.size w w' :=
  h.mono fun e w' ⟨he, q, hq⟩ => ⟨he, by rw [hq]; exact bel_drewN (Below.refl _ _) q⟩
theorem quietC {P : Program} {f : Nat} {args : Array Value} {v : Value} {w : World} (h : Calls P f args w (fun e w' => e = .returned v ∧ w' = w)) : Calls P f args w fun e w' => e = .returned v ∧ Below w.heap.size w w' :=
  h.mono fun e w' ⟨he, hq⟩ => ⟨he, by rw [hq]; exact Below.refl _ _⟩
theorem bel_too {w v u : World} (h : Below w.heap.size w v) (g : Below v.heap.size v u) : Below w.heap.size w u := bel_to h (Nat.le_refl _) g

theorem cmpP_range (x y : Lb) : lexP cmpT cmpT x y = -1 ∨ lexP cmpT cmpT x y = 0 ∨ lexP cmpT cmpT x y = 1 := by
  unfold lexP
  split
  · exact cmpT_range _ _
  · exact cmpT_range _ _
theorem cmpL_range : ∀ (l r : List Lb), cmpL l r = -1 ∨ cmpL l r = 0 ∨ cmpL l r = 1
  | [], [] => Or.inr (Or.inl rfl)
  | [], _ :: _ => Or.inl rfl
  | _ :: _, [] => Or.inr (Or.inr rfl)
  | x :: a, y :: b => by
    show (if lexP cmpT cmpT x y = 0 then cmpL a b else lexP cmpT cmpT x y) = -1 ∨ (if lexP cmpT cmpT x y = 0 then cmpL a b else lexP cmpT cmpT x y) = 0 ∨ (if lexP cmpT cmpT x y = 0 then cmpL a b else lexP cmpT cmpT x y) = 1
    split
    · exact cmpL_range a b
    · exact cmpP_range x y

end Go.Proofs.YtpffhpnmbpjifaaGreat

namespace Go.Proofs.YtpffhpnmbpjifaaGreat
open Go.RowKit Go.ChangeShapes Go.Deep
set_option maxRecDepth 20000

/-- What the walk is told of a slice of labels. -/
def IsLabs (w : World) (a : Option Addr) (len cap : Nat) (l : List Lb) : Prop := cap * 32 ≤ 140737488351232 ∧ len ≤ cap ∧ (a = none → len = 0 ∧ cap = 0) ∧ RowL w a len l

theorem labs_fields : ∃ f0 f1 : Field, Tryz.prog.underlying 52 = some (.struct #[f0, f1]) ∧ f0.offset = 0 ∧ f1.offset = 1 ∧ f0.type = 9 ∧ f1.type = 9 := by
  rw [Tryz.underlying52]
  exact ⟨_, _, rfl, rfl, rfl, rfl, rfl⟩

theorem labs_open {H : Type} {enc : TypeId × Value → H} {W : World} {fuel : Nat} {a : Option Addr} {len cap : Nat} {x : DataW H × List MemPlace} {ts : List TypeId} {ds : List (DataW H)} (h : (DataW.weightsEach Tryz.prog ts ds).all (· ≤ reachBytes) = true) {j : Nat} (ht : ts[j]? = some 42) (hd : ds[j]? = some x.1)
    (hf : DataW.trod enc Tryz.prog W 0 (fun _ => true) true fuel 42 [.slice a len cap] = some x) : ∃ xs, IsLabs W a len cap xs := by
  obtain ⟨f0, f1, hu, o0, o1, t0, t1⟩ := labs_fields
  rcases open_slice Tryz.underlying42 hf with ⟨hcs, _⟩ | ⟨ad, l', c', m, n, D, Pl, hcs, _, hl, _, hm, rfl, hx⟩
  · simp at hcs
    obtain ⟨rfl, rfl, rfl⟩ := hcs
    exact ⟨[], by decide, by decide, fun _ => ⟨rfl, rfl⟩, rfl, by decide, by simp, Or.inl rfl⟩
  · simp at hcs
    obtain ⟨rfl, rfl, rfl⟩ := hcs
    simp only [if_true] at hm
    subst hm
    have hsz := sized_slice h (j := j) (t := 42) (e := 52) ht hd Tryz.underlying42
    rw [show Tryz.prog.bytesOf 52 = 32 from by kernel_rfl] at hsz
    simp only [List.length_map, List.length_range, reachBytes] at hsz
    have each : ∀ i, i < len → ∃ y : Lb, (∀ k v, [Value.string y.1, .string y.2][k]? = some v → W.cell? (ad.add (i * 2 + k)) = some v) ∧ LbW y := by
      intro i hi
      obtain ⟨cs', h1, h2⟩ := hx i (by omega)
      rw [show Tryz.prog.cellsOf 52 = 2 from by kernel_rfl] at h1
      obtain ⟨_, hlen, hcell⟩ := World.cells?_some h1
      obtain ⟨ys, k, _, hxy, _, hxl, hfl⟩ := DataW.trod_struct hu h2
      match ys, hxl, cs', hlen with
      | [y0, y1], _, [v0, v1], _ =>
        have g0 := hfl 0 f0 rfl
        have g1 := hfl 1 f1 rfl
        rw [o0, t0, show Tryz.prog.cellsOf 9 = 1 from by kernel_rfl] at g0
        rw [o1, t1, show Tryz.prog.cellsOf 9 = 1 from by kernel_rfl] at g1
        simp at g0 g1
        obtain ⟨z0, e0, _, w0⟩ := DataW.trod_string Tryz.underlying9 g0
        obtain ⟨z1, e1, _, w1⟩ := DataW.trod_string Tryz.underlying9 g1
        simp at e0 e1
        have hcells : ∀ k v, [v0, v1][k]? = some v → W.cell? (ad.add (i * 2 + k)) = some v := by
          intro k v hv
          have hk : k < 2 := (List.getElem?_eq_some_iff.1 hv).1
          have := hcell k (by omega)
          rw [add_add] at this
          rw [this, hv]
        rw [e0, e1] at hcells
        exact ⟨(z0, z1), hcells, by have : z0.size ≤ maxLen := w0; unfold maxLen at this; show z0.size ≤ _; omega, by have : z1.size ≤ maxLen := w1; unfold maxLen at this; show z1.size ≤ _; omega⟩
    have hall : ∀ k, k ≤ len → ∃ xs : List Lb, xs.length = k ∧ (∀ o ∈ xs, LbW o) ∧ ∀ i x, xs[i]? = some x → ∀ q v, [Value.string x.1, .string x.2][q]? = some v → W.cell? (ad.add (i * 2 + q)) = some v := by
      intro k
      induction k with
      | zero => intro _; exact ⟨[], rfl, by simp, fun i x hi => by simp at hi⟩
      | succ k ih =>
        intro hk
        obtain ⟨xs, h1, h2, h3⟩ := ih (by omega)
        obtain ⟨y, g1, g2⟩ := each k (by omega)
        refine ⟨xs ++ [y], by simp [h1], ?_, fun i x hi => ?_⟩
        · intro z hz
          rcases List.mem_append.1 hz with hz | hz
          · exact h2 z hz
          · simp at hz; subst hz; exact g2
        · by_cases hik : i < k
          · rw [List.getElem?_append_left (by omega)] at hi
            exact h3 i x hi
          · have hlt : i < (xs ++ [y]).length := (List.getElem?_eq_some_iff.1 hi).1
            simp [h1] at hlt
            have : i = k := by omega
            subst this
            rw [List.getElem?_append_right (by omega), h1] at hi
            simp at hi
            subst hi
            exact g1
    obtain ⟨xs, h1, h2, h3⟩ := hall len (Nat.le_refl _)
    refine ⟨xs, by omega, hl, fun h => by simp at h, h1, by omega, h2, ?_⟩
    by_cases h0 : len = 0
    · exact Or.inl h0
    · right
      obtain ⟨b, off, spot⟩ := ad
      have hs : spot = none := by simpa [Addr.add] using World.cell?_spot (h3 0 _ (List.getElem?_eq_getElem (by omega)) 0 _ rfl)
      subst hs
      refine ⟨b, off, rfl, fun i x hi => ?_⟩
      have c0 := h3 i x hi 0 _ rfl
      have c1 := h3 i x hi 1 _ rfl
      rw [Addr.add_lit] at c0 c1
      exact ⟨c0, c1⟩
end Go.Proofs.YtpffhpnmbpjifaaGreat

namespace Go.Proofs.YtpffhpnmbpjifaaGreat
open Go.RowKit
set_option maxRecDepth 20000

theorem slice_toL (a : Option Addr) (n cap k : Nat) (hk : k ≤ cap) (w : World) :
    (Instr.slice 42 (.slice a n cap) none (some (.int .i64 (k : Int))) none).run Tryz.prog w = .ok (.slice a k cap) w := by
  rw [run_slice_h (P := Tryz.prog) w 42 a n cap Tryz.underlying42 .i64 (k : Int) (by omega) (by omega)]
  have hs : (sizeOf (Tryz.prog.elem 42)).run Tryz.prog w = .ok 2 w := by kernel_rfl
  rw [hs]
  simp only [Result.andThen, sliced, Int.toNat_natCast, Nat.zero_mul, Nat.sub_zero]
  cases a with
  | none => simp
  | some x => simp [Addr.add]
theorem slice_fromL (a : Option Addr) (n cap k : Nat) (hk : k ≤ n) (w : World) :
    (Instr.slice 42 (.slice a n cap) (some (.int .i64 (k : Int))) none none).run Tryz.prog w = .ok (.slice (if cap = k then a else a.map (·.add (k * 2))) (n - k) (cap - k)) w := by
  rw [run_slice_l (P := Tryz.prog) w 42 a n cap Tryz.underlying42 .i64 (k : Int) (by omega) (by omega)]
  have hs : (sizeOf (Tryz.prog.elem 42)).run Tryz.prog w = .ok 2 w := by kernel_rfl
  rw [hs]
  simp only [Result.andThen, sliced, Int.toNat_natCast]

theorem insL_at {x : Lb} : ∀ {m : List Lb} {k : Nat}, k ≤ m.length → (∀ j y, j < k → m[j]? = some y → Op.bytesLess x.1.toList y.1.toList = false) → (∀ y, m[k]? = some y → Op.bytesLess x.1.toList y.1.toList = true) → insL x m = m.take k ++ x :: m.drop k
  | [], k, hk, _, _ => by
    have : k = 0 := by simpa using hk
    subst this
    rfl
  | y :: t, 0, _, _, h2 => by
    show (if Op.bytesLess x.1.toList y.1.toList then x :: y :: t else y :: insL x t) = _
    rw [if_pos (h2 y rfl)]
    rfl
  | y :: t, k + 1, hk, h1, h2 => by
    show (if Op.bytesLess x.1.toList y.1.toList then x :: y :: t else y :: insL x t) = _
    rw [if_neg (by rw [h1 0 y (by omega) rfl]; decide), insL_at (m := t) (k := k) (by simpa using hk) (fun j z hj hz => h1 (j + 1) z (by omega) (by simpa using hz)) (fun z hz => h2 z (by simpa using hz))]
    rfl
theorem insL_sortedAt {x y : Lb} {m : List Lb} {k : Nat} (hs : m.Pairwise notLess) (hy : m[k]? = some y) (h1 : Op.bytesLess x.1.toList y.1.toList = false) : ∀ j z, j < k + 1 → m[j]? = some z → Op.bytesLess x.1.toList z.1.toList = false := by
  intro j z hj hz
  by_cases e : j = k
  · subst e
    rw [hy] at hz
    simp only [Option.some.injEq] at hz
    subst hz
    exact h1
  · have hlt : j < m.length := (List.getElem?_eq_some_iff.1 hz).1
    have hlk : k < m.length := (List.getElem?_eq_some_iff.1 hy).1
    have hp := List.pairwise_iff_getElem.1 hs j k hlt hlk (by omega)
    rw [List.getElem?_eq_getElem hlt] at hz
    rw [List.getElem?_eq_getElem hlk] at hy
    simp only [Option.some.injEq] at hy hz
    rw [hy, hz] at hp
    exact notLess_trans hp h1
theorem fulL_step {l : List Lb} {k : Nat} {x : Lb} (hx : l[k]? = some x) : fulL (l.take (k + 1)) = if x.2 = .empty then fulL (l.take k) else fulL (l.take k) ++ [x] := by
  have e : l.take (k + 1) = l.take k ++ [x] := by
    rw [List.take_add_one, hx]
    rfl
  rw [e]
  unfold fulL
  rw [List.filter_append]
  by_cases h : x.2 = .empty
  · simp [h]
  · simp [h]
theorem ba_void {a : ByteArray} (h : a.toList = []) : a = .empty := ba_ext (by rw [h, ByteArray.toList_eq]; rfl)
theorem sortL_snoc (l : List Lb) (x : Lb) : sortL (l ++ [x]) = insL x (sortL l) := by
  unfold sortL
  rw [List.foldl_append]
  rfl
theorem makeL_many {l : List Lb} {k : Nat} (h : 8 < (sortL (fulL (l.take k))).length) : makeL l = none := by
  unfold makeL
  rw [if_neg]
  intro hc
  have h1 := (sortL_perm (fulL l)).length_eq
  have h2 := (sortL_perm (fulL (l.take k))).length_eq
  have h3 : (fulL (l.take k)).length ≤ (fulL l).length := (List.Sublist.filter _ (List.take_sublist k l)).length_le
  unfold chkL at hc
  simp only [Bool.and_eq_true, decide_eq_true_eq] at hc
  omega
theorem sortL_mem {l : List Lb} {P : Lb → Prop} (h : ∀ x ∈ l, P x) (k : Nat) : ∀ x ∈ sortL (fulL (l.take k)), P x := fun x hx =>
  h x (List.mem_of_mem_take (List.mem_filter.1 ((sortL_perm _).mem_iff.1 hx)).1)

theorem quietB0 {P : Program} {f : Nat} {args : Array Value} {v : Value} {w : World} (h : Calls P f args w (fun e w' => e = .returned v ∧ ∃ q, w' = w.drewN q)) : Calls P f args w fun e w' => e = .returned v ∧ Below w.heap.size w w' :=
  h.mono fun e w' ⟨he, q, hq⟩ => ⟨he, by rw [hq]; exact bel_drewN (Below.refl _ _) q⟩
theorem RowL.hrow {w : World} {a : Option Addr} {n : Nat} {l : List Lb} (h : RowL w a n l) : ∀ ad, a = some ad → ∀ j u, (flatL l)[j]? = some u → w.cell? (ad.add j) = some u := by
  rintro ad rfl
  exact h.cells
theorem one_hrow (w : World) (x : Lb) (e : TypeId) : ∀ ad, some (⟨w.heap.size, 0, none⟩ : Addr) = some ad → ∀ j u, (flatL [x])[j]? = some u → (w.alloc (.cells #[.string x.1, .string x.2] e)).cell? (ad.add j) = some u := by
  rintro ad h j u hu
  simp only [Option.some.injEq] at h
  subst h
  exact lab_cells w x e j u hu
/-- What the document's Make, Parse tell. -/
def DocL (r : Option (List Lb)) (w w' : World) (e : Ending) : Prop :=
  Below w.heap.size w w' ∧ match r with
  | none => e = .returned (.tuple #[.slice none 0 0, .bool false])
  | some m => ∃ a c, e = .returned (.tuple #[.slice a m.length c, .bool true]) ∧ RowL w' a m.length m

end Go.Proofs.YtpffhpnmbpjifaaGreat
