/-
  Whether two slices of labels are the same (SameLabels), and the document's own texts, Cmp, Value, Name: contracts, for every world; they change nothing.
  Conditions: the slices show their labels.
-/
import Derived.Test.YthebcmkainplnabLabM
import Derived.Deep.LoopGhost
import Derived.Laws.Cover1
namespace Go.Proofs.Ythebcmkainplnab
open Go.RowKit
set_option maxRecDepth 20000

theorem ends_labs {xs ys : List Lb} {n : Nat} (hx : xs.length = n) (hy : ys.length = n) (h : ∀ j, j < n → xs[j]? = ys[j]?) : xs = ys := by
  refine List.ext_getElem? fun i => ?_
  by_cases hi : i < n
  · exact h i hi
  · rw [List.getElem?_eq_none (by omega), List.getElem?_eq_none (by omega)]

theorem quiet_lab {P : Program} {f : Nat} {args : Array Value} {v : Value} {wr : World} {q x : Nat} (h : ∀ w, Calls P f args w (fun e w' => e = .returned v ∧ w' = w)) : Calls P f args (wr.drewN (q + x)) fun e w' => e = .returned v ∧ ∃ n, w' = wr.drewN (q + n) :=
  (h _).mono (fun _ _ k => ⟨k.1, x, k.2⟩)
/-- A name's value, told place by place. -/
theorem valL_at {l : List Lb} {nm : ByteArray} {k : Nat} {x : Lb} (hx : l[k]? = some x) (hn : ∀ j y, j < k → l[j]? = some y → y.1 ≠ nm) (he : x.1 = nm) : valL l nm = x.2 := by
  induction l generalizing k with
  | nil => simp at hx
  | cons y t ih =>
    cases k with
    | zero =>
      simp only [List.getElem?_cons_zero, Option.some.injEq] at hx
      subst hx
      unfold valL
      rw [List.find?_cons_of_pos (by simpa using he)]
      rfl
    | succ k =>
      have h0 : y.1 ≠ nm := hn 0 y (by omega) rfl
      have := ih (k := k) (by simpa using hx) (fun j z hj hz => hn (j + 1) z (by omega) (by simpa using hz))
      unfold valL at this ⊢
      rw [List.find?_cons_of_neg (by simpa using h0)]
      exact this

theorem drop_none {l : List Lb} {k : Nat} (h : l.length ≤ k) : l.drop k = [] := List.drop_eq_nil_of_le h
theorem cmpL_drop {l m : List Lb} {k : Nat} {x y : Lb} (hx : l[k]? = some x) (hy : m[k]? = some y) : cmpL (l.drop k) (m.drop k) = if cmpT x.1 y.1 = 0 then (if cmpT x.2 y.2 = 0 then cmpL (l.drop (k + 1)) (m.drop (k + 1)) else cmpT x.2 y.2) else cmpT x.1 y.1 := by
  have h1 : k < l.length := (List.getElem?_eq_some_iff.1 hx).1
  have h2 : k < m.length := (List.getElem?_eq_some_iff.1 hy).1
  rw [List.drop_eq_getElem_cons h1, List.drop_eq_getElem_cons h2, (List.getElem?_eq_some_iff.1 hx).2, (List.getElem?_eq_some_iff.1 hy).2]
  unfold cmpL
  rw [lexL]
  unfold lexP
  by_cases e : cmpT x.1 y.1 = 0
  · rw [if_pos e, if_pos e]
  · rw [if_neg e, if_neg e, if_neg e]

end Go.Proofs.Ythebcmkainplnab
