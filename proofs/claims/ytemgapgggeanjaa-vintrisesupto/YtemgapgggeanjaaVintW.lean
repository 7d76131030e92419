/-
  Bytes of a row behind bytes of the call's own; when a list rises, told place by place.
  Conditions: the slices show their bytes and numbers; there is room for them.
-/
import Derived.Test.YtemgapgggeanjaaVintD
import Derived.Laws.AppendOwnNone
namespace Go.Proofs.Ytemgapgggeanjaa
open Go.RowKit

/-- The append of a row's bytes, of none too, behind bytes of the call's own. -/
theorem wpList_append_row {P : Program} (w : World) {ops : Array Oper} {rest : List Oper} {o : Oper} {a : Act} {Q : Exit → Act → World → Prop} (hgd : o.guard = none) (s x : Operand) (t : TypeId)
    (ho : o.op = .call { callee := .builtin .append, args := #[s, x], argTypes := #[t, t] })
    (base : Nat) (e : TypeId) (i : TypeInfo) (ht : P.underlying t = some (.slice e)) (hi : P.info? e = some i) (hz : i.zero = some (.int .u8 0)) (hsize : i.size = 1) (hby : i.bytes = 1)
    (ao : Option Addr) (n cap : Nat) (zs : List Int) (hs : a.eval s = .slice ao n cap) (hown : Own e .u8 w base ao n cap zs)
    (bo : Option Addr) (m c : Nat) (news : List Int) (hx : a.eval x = .slice bo m c) (hrow : Row .u8 w bo m news) (hbo : bo = none → c = 0)
    (hbytes : n + m ≤ 140737488355328) (hbase : base ≤ w.heap.size)
    (h : ∀ a' cap' w', Own e .u8 w' base a' (n + m) cap' (zs ++ news) → Below base w w' → wpList P ops Q rest (a.put o.dst (.slice a' (n + m) cap')) w') : wpList P ops Q (o :: rest) a w := by
  cases bo with
  | none =>
    have h0 := hrow.nz rfl
    subst h0
    obtain rfl := hbo rfl
    have hz : news = [] := List.length_eq_zero_iff.1 hrow.1
    subst hz
    refine wpList_append_own_none hgd s x t ho base e i 1 ht hi _ n (zs.map (Value.int .u8)) hs hown hx ?_
    have := h ao cap w (by rw [List.append_nil]; exact hown) (Below.refl _ _)
    exact this
  | some ad =>
    refine wpList_append_own w hgd s x t ho base e i (.int .u8 0) 1 1 ht hi hz hsize hby rfl (by decide) _ n (zs.map (Value.int .u8)) hs hown ad m c (news.map (Value.int .u8)) hx (by simp [hrow.1]) hrow.cells (one_cell .u8 news) (by unfold maxLen; omega) (by omega) hbase ?_
    intro v' w' h1 h2 _
    rw [← List.map_append] at h1
    obtain ⟨a', cap', rfl, h3⟩ := own_form h1
    exact h a' cap' w' h3 ((Below.refl _ _).grown h2 hbase (own_block hown))

/-- Up to place k each is above the one ahead. -/
def RisesTo (l : List Int) (k : Nat) : Prop := ∀ j, j + 1 < k → l.getD j 0 < l.getD (j + 1) 0

theorem risesTo_one (l : List Int) : RisesTo l 1 := fun j hj => by omega
theorem risesTo_succ {l : List Int} {k : Nat} : RisesTo l (k + 1 + 1) ↔ RisesTo l (k + 1) ∧ l.getD k 0 < l.getD (k + 1) 0 := by
  constructor
  · intro h
    exact ⟨fun j hj => h j (by omega), h k (by omega)⟩
  · rintro ⟨h, h1⟩ j hj
    by_cases e : j = k
    · subst e; exact h1
    · exact h j (by omega)

theorem rises_tail (p : Int) (l : List Int) : Rises p l ↔ (l = [] ∨ p < l.getD 0 0) ∧ RisesTo l l.length := by
  induction l generalizing p with
  | nil => simp [Rises, RisesTo]
  | cons x t ih =>
    simp only [Rises]
    rw [ih x]
    constructor
    · rintro ⟨h1, h2, h3⟩
      refine ⟨Or.inr (by simpa using h1), ?_⟩
      intro j hj
      cases j with
      | zero =>
        rcases h2 with rfl | h2
        · simp at hj
        · simpa using h2
      | succ j =>
        have := h3 j (by simp at hj; omega)
        simpa using this
    · rintro ⟨h1, h2⟩
      refine ⟨by simpa using h1, ?_, ?_⟩
      · cases t with
        | nil => exact Or.inl rfl
        | cons y t => exact Or.inr (by have := h2 0 (by simp); simpa using this)
      · intro j hj
        have := h2 (j + 1) (by simp; omega)
        simpa using this

theorem rises_iff {l : List Int} (hw : ∀ z ∈ l, W64 z) (k : Nat) (hk : l.length ≤ k) (hk1 : k ≤ l.length ∨ k = 1) : Rises (-1) l ↔ RisesTo l k := by
  rw [rises_tail]
  have h0 : l = [] ∨ (-1 : Int) < l.getD 0 0 := by
    cases l with
    | nil => exact Or.inl rfl
    | cons x t => exact Or.inr (by have := (hw x (by simp)).1; simp; omega)
  constructor
  · rintro ⟨_, h⟩ j hj
    exact h j (by omega)
  · intro h
    exact ⟨h0, fun j hj => h j (by omega)⟩
end Go.Proofs.Ytemgapgggeanjaa
