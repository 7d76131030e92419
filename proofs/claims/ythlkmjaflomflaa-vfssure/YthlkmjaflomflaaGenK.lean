/-
  Rows of structs of the call's own, of any kind: how they are read and what they abide. No function is named.
  Conditions: as each theorem says.
-/
import Derived.Test.YthlkmjaflomflaaChK
import Derived.Test.YthlkmjaflomflaaHideK
import Derived.Test.YthlkmjaflomflaaVintR
import Derived.Laws.AppendOwnNone
import Derived.Deep.AppendLies
namespace Go.Proofs.Ythlkmjaflomflaa
set_option linter.unusedVariables false
open Go.RowKit

/-- A row of structs, each laid out in so many cells. -/
def OwnG {α : Type} (e : TypeId) (sz : Nat) (fl : α → List Value) (w : World) (base : Nat) (a : Option Addr) (n cap : Nat) (l : List α) : Prop := w.ownsRow base e sz (.slice a n cap) n (l.flatMap fl)
section
variable {α : Type} {e : TypeId} {sz : Nat} {fl : α → List Value}
theorem flatG_len (hf : ∀ x, (fl x).length = sz) (l : List α) : (l.flatMap fl).length = l.length * sz := by
  induction l with
  | nil => simp
  | cons x t ih => rw [List.flatMap_cons, List.length_append, ih, hf, List.length_cons, Nat.add_mul, Nat.one_mul, Nat.add_comm]
theorem flatG_at (hf : ∀ x, (fl x).length = sz) {l : List α} {i : Nat} {x : α} (h : l[i]? = some x) {j : Nat} (hj : j < sz) : (l.flatMap fl)[i * sz + j]? = (fl x)[j]? := by
  induction l generalizing i with
  | nil => simp at h
  | cons y t ih =>
    rw [List.flatMap_cons]
    cases i with
    | zero =>
      simp at h
      subst h
      rw [Nat.zero_mul, Nat.zero_add, List.getElem?_append_left (by rw [hf]; exact hj)]
    | succ i =>
      rw [List.getElem?_append_right (by rw [hf, Nat.add_mul, Nat.one_mul]; omega), hf, show (i + 1) * sz + j - sz = i * sz + j by rw [Nat.add_mul, Nat.one_mul]; omega]
      exact ih (by simpa using h)
variable {w w' : World} {base n cap : Nat} {a : Option Addr} {l : List α}
theorem ownG_nil (w : World) (base : Nat) : OwnG e sz fl w base none 0 0 [] := World.ownsRow_nil _ _ _ _
theorem OwnG.len (hf : ∀ x, (fl x).length = sz) (hz : 0 < sz) (h : OwnG e sz fl w base a n cap l) : l.length = n := by
  have := h.1
  rw [flatG_len hf] at this
  exact Nat.eq_of_mul_eq_mul_right hz this
theorem OwnG.capped (h : OwnG e sz fl w base a n cap l) : n ≤ cap ∧ (a = none → n = 0 ∧ cap = 0) := by
  unfold OwnG at h
  rcases h.2 with ⟨h1, h2⟩ | ⟨g, c, cur, h1, _, _, h4, _⟩
  · simp only [Value.slice.injEq] at h1
    exact ⟨by omega, fun _ => ⟨by omega, by omega⟩⟩
  · simp only [Value.slice.injEq, true_and] at h1
    obtain ⟨rfl, rfl⟩ := h1
    exact ⟨h4, fun h => by simp at h⟩
/-- Where an element lies. -/
theorem OwnG.at (hf : ∀ x, (fl x).length = sz) (hz : 0 < sz) (h : OwnG e sz fl w base a n cap l) {i : Nat} {x : α} (hi : l[i]? = some x) : ∃ g, a = some ⟨g, 0, none⟩ ∧ i < n ∧ n ≤ cap ∧ ∀ j v, (fl x)[j]? = some v → w.cell? ⟨g, i * sz + j, none⟩ = some v := by
  have hl := h.len hf hz
  have hlt : i < l.length := (List.getElem?_eq_some_iff.1 hi).1
  unfold OwnG at h
  rcases id h.2 with ⟨h1, h2⟩ | ⟨g, c, cur, h1, _, _, h4, _⟩
  · omega
  · simp only [Value.slice.injEq, true_and] at h1
    obtain ⟨rfl, rfl⟩ := h1
    refine ⟨g, rfl, by omega, h4, fun j v hv => ?_⟩
    have hj : j < sz := by
      have := (List.getElem?_eq_some_iff.1 hv).1
      rw [hf] at this
      exact this
    have hb : i * sz + j < n * sz := by
      have h5 : (i + 1) * sz ≤ n * sz := Nat.mul_le_mul_right sz (by omega)
      rw [Nat.add_mul, Nat.one_mul] at h5
      omega
    rw [h.cellAt (i * sz + j) hb, flatG_at hf hi hj]
    exact hv
theorem OwnG.ch {S : Nat → Prop} (h : OwnG e sz fl w base a n cap l) (c : Ch S w w') (hn : ∀ g, (Value.slice a n cap).ownBlock = some g → ¬ S g) : OwnG e sz fl w' base a n cap l := row_ch h c hn
theorem OwnG.below {B : Nat} (h : OwnG e sz fl w base a n cap l) (hb : Below B w w') (hB : w.heap.size ≤ B) : OwnG e sz fl w' base a n cap l := h.ch (Ch.of_below (hb.mono hB)) (fun _ _ => id)
theorem OwnG.alloc (h : OwnG e sz fl w base a n cap l) (o : Obj) : OwnG e sz fl (w.alloc o) base a n cap l := h.below ((Below.refl _ _).alloc (Nat.le_refl _) _) (Nat.le_refl _)
theorem OwnG.cellsT (h : OwnG e sz fl w base a n cap l) : ∀ g, (Value.slice a n cap).ownBlock = some g → CellsT w g e ∧ base ≤ g := fun _ hg => row_cells h hg
theorem OwnG.mono {base' : Nat} (h : OwnG e sz fl w base a n cap l) (hb : base' ≤ base) : OwnG e sz fl w base' a n cap l := by
  unfold OwnG at *
  refine ⟨h.1, ?_⟩
  rcases h.2 with h1 | ⟨g, c, cur, h1, h2, h3⟩
  · exact Or.inl h1
  · exact Or.inr ⟨g, c, cur, h1, Nat.le_trans hb h2, h3⟩
theorem ownG_form {v : Value} (h : w.ownsRow base e sz v n (l.flatMap fl)) : ∃ a cap, v = .slice a n cap ∧ OwnG e sz fl w base a n cap l := by
  have h0 := h
  rcases h.2 with ⟨rfl, h2⟩ | ⟨g, cap, cur, rfl, _⟩
  · subst h2; exact ⟨none, 0, rfl, h0⟩
  · exact ⟨_, _, rfl, h0⟩
theorem flatG_take (hf : ∀ x, (fl x).length = sz) (l : List α) : ∀ k, (l.flatMap fl).take (k * sz) = (l.take k).flatMap fl := by
  induction l with
  | nil => intro k; simp
  | cons x t ih =>
    intro k
    cases k with
    | zero => simp
    | succ k =>
      rw [List.take_succ_cons, List.flatMap_cons, List.flatMap_cons, List.take_append, hf, show (k + 1) * sz - sz = k * sz by rw [Nat.add_mul, Nat.one_mul]; omega, ih, List.take_of_length_le (by rw [hf, Nat.add_mul, Nat.one_mul]; omega)]
/-- Cut to its first elements. -/
theorem OwnG.cut (hf : ∀ x, (fl x).length = sz) (hz : 0 < sz) (h : OwnG e sz fl w base a n cap l) {k : Nat} (hk : k ≤ n) : OwnG e sz fl w base a k cap (l.take k) := by
  have hl := h.len hf hz
  unfold OwnG at *
  refine ⟨by rw [flatG_len hf, List.length_take, hl, Nat.min_eq_left hk], ?_⟩
  rcases h.2 with ⟨h1, h2⟩ | ⟨g, c, cur, h1, h2, h3, h4, h5, h6, h7⟩
  · subst h2
    obtain rfl : k = 0 := by omega
    exact Or.inl ⟨h1, rfl⟩
  · simp only [Value.slice.injEq, true_and] at h1
    obtain ⟨rfl, rfl⟩ := h1
    refine Or.inr ⟨g, cap, cur, rfl, h2, h3, by omega, h5, h6, ?_⟩
    rw [← flatG_take hf, ← h7, List.take_take, Nat.min_eq_left (Nat.mul_le_mul_right _ hk)]
/-- Structs put behind a row of the call's own. -/
theorem wpList_app_g {P : Program} (hf : ∀ x, (fl x).length = sz) (hsz : 0 < sz) (hone : ∀ x, ∀ u ∈ fl x, u.oneCell' = true) (w : World) {ops : Array Oper} {rest : List Oper} {o : Oper} {a : Act} {Q : Exit → Act → World → Prop} (hgd : o.guard = none) (s x : Operand) (t : TypeId)
    (ho : o.op = .call { callee := .builtin .append, args := #[s, x], argTypes := #[t, t] })
    (base : Nat) (i : TypeInfo) (z : Value) (bytes : Nat) (ht : P.underlying t = some (.slice e)) (hi : P.info? e = some i) (hz : i.zero = some z) (hsize : i.size = sz) (hby : i.bytes = bytes) (hzc : z.cells.size = sz)
    (ao : Option Addr) (n cap : Nat) (l : List α) (hs : a.eval s = .slice ao n cap) (hown : OwnG e sz fl w base ao n cap l)
    (bo : Option Addr) (m c : Nat) (news : List α) (hx : a.eval x = .slice bo m c) (hm : news.length = m) (hrow : ∀ ad, bo = some ad → ∀ j u, (news.flatMap fl)[j]? = some u → w.cell? (ad.add j) = some u) (hbo : bo = none → m = 0 ∧ c = 0)
    (h63 : n + m ≤ 1099511627776) (hbytes : (n + m) * bytes ≤ 140737488355328) (hbase : base ≤ w.heap.size)
    (h : ∀ a' cap' w', OwnG e sz fl w' base a' (n + m) cap' (l ++ news) → w.grownBy w' (Value.slice ao n cap).ownBlock → wpList P ops Q rest (a.put o.dst (.slice a' (n + m) cap')) w') : wpList P ops Q (o :: rest) a w := by
  cases bo with
  | none =>
    obtain ⟨rfl, rfl⟩ := hbo rfl
    have hz : news = [] := List.length_eq_zero_iff.1 hm
    subst hz
    refine wpList_append_own_none hgd s x t ho base e i sz ht hi _ n (l.flatMap fl) hs hown hx ?_
    exact h ao cap w (by rw [List.append_nil]; exact hown) ⟨rfl, rfl, rfl, Nat.le_refl _, fun _ _ _ => rfl⟩
  | some ad =>
    refine wpList_append_own w hgd s x t ho base e i z sz bytes ht hi hz hsize hby hzc hsz _ n (l.flatMap fl) hs hown ad m c (news.flatMap fl) hx (by rw [flatG_len hf, hm]) (hrow ad rfl) (fun u hu => by obtain ⟨y, -, hy⟩ := List.mem_flatMap.1 hu; exact hone y u hy) (by unfold maxLen; omega) hbytes hbase ?_
    intro v' w' h1 h2 _
    rw [← List.flatMap_append] at h1
    obtain ⟨a', cap', rfl, h3⟩ := ownG_form h1
    exact h a' cap' w' h3 h2
/-- Where a row's cells lie, all of them. -/
theorem OwnG.cellsAll (h : OwnG e sz fl w base a n cap l) : ∀ ad, a = some ad → ∀ j u, (l.flatMap fl)[j]? = some u → w.cell? (ad.add j) = some u := by
  intro ad ha j u hj
  unfold OwnG at h
  rcases id h.2 with ⟨h1, h2⟩ | ⟨g, c, cur, h1, _⟩
  · simp only [Value.slice.injEq] at h1
    rw [ha] at h1
    simp at h1
  · simp only [Value.slice.injEq, true_and] at h1
    obtain ⟨rfl, rfl⟩ := h1
    obtain rfl := Option.some.inj ha
    exact h.cells (g := g) rfl j u hj
/-- Blocks from base on alone have turned. -/
theorem OwnG.grown {u : World} (h : OwnG e sz fl w base a n cap l) (hb : base ≤ w.heap.size) (k : w.grownBy u (Value.slice a n cap).ownBlock) : Below base w u := (Ch.grown k).below hb (fun g hg hh => by have := (h.cellsT g hh).2; omega)
end
/-- Two operations that are ready: either may come first. -/
theorem held_pair {P : Program} {ops : Array Oper} {Q : Exit → Act → World → Prop} {md : Region.Mode} {S : World → Prop} {i j : Nat} {o o' : Oper} {fuel : Nat} {listed : Array Bool} {a : Act} {w : World} (hr : Region.ready md ops listed = [i, j]) (ho : ops[i]? = some o) (hw : Region.wanted o (yielded ops a.tmps) = true) (ho' : ops[j]? = some o') (hw' : Region.wanted o' (yielded ops a.tmps) = true)
    (h : ∀ K' : Act → World → Prop, Shut (∀ a w, S w → wpAnyH P md ops Q S fuel (listed.setIfInBounds i true) a w → K' a w) → Oper.wp P o a w K' Q)
    (h' : ∀ K' : Act → World → Prop, Shut (∀ a w, S w → wpAnyH P md ops Q S fuel (listed.setIfInBounds j true) a w → K' a w) → Oper.wp P o' a w K' Q) : wpAnyH P md ops Q S (fuel + 1) listed a w := by
  refine wpAnyH_all hr (by simp) ?_
  intro k hk
  have : k = i ∨ k = j := by simpa using hk
  rcases this with e | e
  · subst e
    unfold wpOp
    simp only [ho]
    rw [if_pos hw]
    exact Or.inl (h _ (fun a' w' hS q => ⟨hS, q⟩))
  · subst e
    unfold wpOp
    simp only [ho']
    rw [if_pos hw']
    exact Or.inl (h' _ (fun a' w' hS q => ⟨hS, q⟩))
end Go.Proofs.Ythlkmjaflomflaa
