/-
  Values with their counts in memory (rows of the document's V), and the document's Values: contracts, for every world.
  Conditions: as each theorem says.
-/
import Derived.Test.YtpffhpnmbpjifaaIdxI
import Derived.Deep.Cut
import Derived.Deep.DeepCutAuto
import Derived.Deep.CutBlock
namespace Go.Proofs.Ytpffhpnmbpjifaa
open Go.RowKit
set_option maxRecDepth 20000

theorem Try.infoV : (Try.prog.info? 52).map (fun i => (i.zero, i.size, i.bytes)) = some (some (.agg #[.string .empty, .int .i64 0]), 2, 24) := by kernel_rfl
theorem flatV_cons (x : Vn) (l : List Vn) : flatV (x :: l) = [.string x.1, .int .i64 (x.2 : Int)] ++ flatV l := by simp [flatV]
theorem flatV_append (l m : List Vn) : flatV (l ++ m) = flatV l ++ flatV m := by simp [flatV]
theorem flatV_len (l : List Vn) : (flatV l).length = l.length * 2 := by
  induction l with
  | nil => rfl
  | cons x t ih => rw [flatV_cons, List.length_append, ih]; simp only [List.length_cons, List.length_nil]; omega
theorem flatV_get (l : List Vn) (i : Nat) (x : Vn) (h : l[i]? = some x) : (flatV l)[i * 2]? = some (.string x.1) ∧ (flatV l)[i * 2 + 1]? = some (.int .i64 (x.2 : Int)) := by
  induction l generalizing i with
  | nil => simp at h
  | cons y t ih =>
    rw [flatV_cons]
    cases i with
    | zero =>
      simp only [List.getElem?_cons_zero, Option.some.injEq] at h
      subst h
      simp
    | succ i =>
      simp only [List.getElem?_cons_succ] at h
      obtain ⟨h1, h2⟩ := ih i h
      rw [List.getElem?_append_right (by simp; omega), List.getElem?_append_right (by simp; omega)]
      simp only [List.length_cons, List.length_nil]
      rw [show (i + 1) * 2 - (0 + 1 + 1) = i * 2 by omega, show (i + 1) * 2 + 1 - (0 + 1 + 1) = i * 2 + 1 by omega]
      exact ⟨h1, h2⟩
theorem flatV_one (l : List Vn) : ∀ u ∈ flatV l, u.oneCell' = true := by
  intro u hu
  obtain ⟨x, _, hx⟩ := List.mem_flatMap.1 hu
  simp at hx
  rcases hx with rfl | rfl <;> rfl
theorem flatV_take (l : List Vn) (k : Nat) : flatV (l.take k) = (flatV l).take (k * 2) := by
  induction k generalizing l with
  | zero => simp [flatV]
  | succ k ih =>
    cases l with
    | nil => simp [flatV]
    | cons x t =>
      rw [List.take_succ_cons, flatV_cons, flatV_cons, ih, show (k + 1) * 2 = (k * 2 + 1) + 1 by omega]
      rfl
theorem flatV_drop (l : List Vn) (k : Nat) : flatV (l.drop k) = (flatV l).drop (k * 2) := by
  induction k generalizing l with
  | zero => simp
  | succ k ih =>
    cases l with
    | nil => simp [flatV]
    | cons x t =>
      rw [List.drop_succ_cons, flatV_cons, ih, show (k + 1) * 2 = (k * 2 + 1) + 1 by omega]
      rfl
section
variable {w w' : World} {base n cap : Nat} {a : Option Addr} {l : List Vn}
theorem OwnV.len (h : OwnV w base a n cap l) : l.length = n := by
  have := h.1
  rw [flatV_len] at this
  omega
theorem OwnV.below {B : Nat} (h : OwnV w base a n cap l) (hb : Below B w w') (hB : w.heap.size ≤ B) : OwnV w' base a n cap l := row_ch h (Ch.of_below (hb.mono hB)) (fun _ _ => id)
theorem OwnV.mono {base' : Nat} (h : OwnV w base a n cap l) (hb : base' ≤ base) : OwnV w base' a n cap l := by
  unfold OwnV at *
  refine ⟨h.1, ?_⟩
  rcases h.2 with h1 | ⟨g, c, cur, h1, h2, h3⟩
  · exact Or.inl h1
  · exact Or.inr ⟨g, c, cur, h1, Nat.le_trans hb h2, h3⟩
theorem ownV_nil (w : World) (base : Nat) : OwnV w base none 0 0 [] := World.ownsRow_nil _ _ _ _
/-- The cells of the one at a place. -/
theorem OwnV.at' (h : OwnV w base a n cap l) {j : Nat} (hj : j < n) : ∃ g x, a = some ⟨g, 0, none⟩ ∧ n ≤ cap ∧ l[j]? = some x ∧ base ≤ g ∧ w.cell? ⟨g, j * 2, none⟩ = some (.string x.1) ∧ w.cell? ⟨g, j * 2 + 1, none⟩ = some (.int .i64 (x.2 : Int)) ∧ ∀ i, w.frozen? ⟨g, i, none⟩ = false := by
  have hl := h.len
  unfold OwnV at h
  rcases id h.2 with ⟨h1, h2⟩ | ⟨g, c, cur, h1, hb, hg, hcap, _⟩
  · omega
  · simp only [Value.slice.injEq, true_and] at h1
    obtain ⟨rfl, rfl⟩ := h1
    have hx : l[j]? = some l[j] := List.getElem?_eq_getElem (by omega)
    obtain ⟨g1, g2⟩ := flatV_get l j _ hx
    refine ⟨g, l[j], rfl, hcap, hx, hb, ?_, ?_, fun i => frozen_of_row w g i _ _ hg⟩
    · rw [h.cellAt (j * 2) (by omega)]; exact g1
    · rw [h.cellAt (j * 2 + 1) (by omega)]; exact g2
end
/-- One more of a value that is there. -/
theorem OwnV.inc {w : World} {base n cap g j : Nat} {l : List Vn} {x : Vn} (h : OwnV w base (some ⟨g, 0, none⟩) n cap l) (hx : l[j]? = some x) : OwnV (w.setCell ⟨g, j * 2 + 1, none⟩ (.int .i64 ((x.2 : Int) + 1))) base (some ⟨g, 0, none⟩) n cap (l.set j (x.1, x.2 + 1)) := by
  have hl := h.len
  have hj : j < l.length := (List.getElem?_eq_some_iff.1 hx).1
  unfold OwnV at *
  refine ⟨by rw [flatV_len, List.length_set]; omega, ?_⟩
  rcases h.2 with ⟨h1, h2⟩ | ⟨g', c, cur, h1, hb, hg, h4, h5, h6, h7⟩
  · omega
  · simp only [Value.slice.injEq, Option.some.injEq, Addr.mk.injEq, and_true, true_and] at h1
    obtain ⟨rfl, rfl⟩ := h1
    refine Or.inr ⟨g, cap, cur.setIfInBounds (j * 2 + 1) (.int .i64 ((x.2 : Int) + 1)), rfl, hb, heap_setCell_same w g _ _ _ _ hg, h4, h5, by rw [Array.size_setIfInBounds]; exact h6, ?_⟩
    apply List.ext_getElem?
    intro i
    have hi0 : (cur.toList.take (n * 2))[i]? = (flatV l)[i]? := by rw [h7]
    rw [List.getElem?_take] at hi0 ⊢
    rw [Array.getElem?_toList] at hi0 ⊢
    by_cases hi : i < n * 2
    · rw [if_pos hi] at hi0 ⊢
      rw [Array.getElem?_setIfInBounds]
      by_cases e : j * 2 + 1 = i
      · subst e
        rw [if_pos rfl, if_pos (by omega)]
        have := (flatV_get (l.set j (x.1, x.2 + 1)) j (x.1, x.2 + 1) (by rw [List.getElem?_set, if_pos rfl, if_pos hj])).2
        rw [this]
        simp
      · rw [if_neg e, hi0]
        have hq : i / 2 < l.length := by omega
        by_cases e2 : i / 2 = j
        · have e3 : i = j * 2 := by omega
          subst e3
          rw [(flatV_get l j x hx).1, (flatV_get (l.set j (x.1, x.2 + 1)) j (x.1, x.2 + 1) (by rw [List.getElem?_set, if_pos rfl, if_pos hj])).1]
        · have hy : l[i / 2]? = some l[i / 2] := List.getElem?_eq_getElem hq
          have hz : (l.set j (x.1, x.2 + 1))[i / 2]? = some l[i / 2] := by rw [List.getElem?_set, if_neg (fun q => e2 q.symm)]; exact hy
          obtain ⟨p1, p2⟩ := flatV_get l _ _ hy
          obtain ⟨r1, r2⟩ := flatV_get _ _ _ hz
          rcases Nat.mod_two_eq_zero_or_one i with e4 | e4
          · rw [show i = i / 2 * 2 by omega, p1, r1]
          · rw [show i = i / 2 * 2 + 1 by omega, p2, r2]
    · rw [if_neg hi, List.getElem?_eq_none (by rw [flatV_len, List.length_set]; omega)]
/-- The place at which a value is put in. -/
theorem insV_at {v : ByteArray} {l : List Vn} {k : Nat} (h1 : ∀ x ∈ l.take k, Op.bytesLess x.1.toList v.toList = true) :
    (∀ y, l[k]? = some y → y.1 = v → insV v l = l.set k (y.1, y.2 + 1)) ∧ ((∀ y, l[k]? = some y → Op.bytesLess y.1.toList v.toList = false ∧ y.1 ≠ v) → k ≤ l.length → insV v l = l.take k ++ [(v, 1)] ++ l.drop k) := by
  induction l generalizing k with
  | nil =>
    refine ⟨fun y hy => by simp at hy, fun _ hk => ?_⟩
    have : k = 0 := by simpa using hk
    subst this
    rfl
  | cons x t ih =>
    cases k with
    | zero =>
      refine ⟨fun y hy hv => ?_, fun hy _ => ?_⟩
      · simp at hy
        subst hy
        unfold insV
        rw [if_neg (by rw [hv, less_irrefl]; decide), if_pos hv]
        rfl
      · obtain ⟨q1, q2⟩ := hy x rfl
        unfold insV
        rw [if_neg (by rw [q1]; decide), if_neg q2]
        rfl
    | succ k =>
      rw [List.take_succ_cons] at h1
      have hx := h1 x (by simp)
      obtain ⟨i1, i2⟩ := ih (k := k) (fun y hy => h1 y (by simp [hy]))
      refine ⟨fun y hy hv => ?_, fun hy hk => ?_⟩
      · unfold insV
        rw [if_pos hx, i1 y (by simpa using hy) hv]
        rfl
      · unfold insV
        rw [if_pos hx, i2 (fun y q => hy y (by simpa using q)) (by simpa using hk)]
        rfl
end Go.Proofs.Ytpffhpnmbpjifaa
