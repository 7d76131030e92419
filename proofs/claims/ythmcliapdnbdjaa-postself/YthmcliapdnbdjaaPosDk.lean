/-
  Two rising lists gone through side by side, plainly: what holds on the way for And and for Less. No function is named.
  Conditions: as each theorem says.
-/
import Derived.Test.YthmcliapdnbdjaaPosS
namespace Go.Proofs.Ythmcliapdnbdjaa

theorem upI_tail {p : Int} {l : List Int} (h : upI (p :: l)) : upI l := (List.pairwise_cons.1 h).2
theorem upI_head {p : Int} {l : List Int} (h : upI (p :: l)) : ∀ x ∈ l, p < x := (List.pairwise_cons.1 h).1
/-- On the way of And: what is left of both, what was found. -/
structure AndI (xs ys xr yr out : List Int) : Prop where
  ux : upI xr
  uy : upI yr
  uo : upI out
  lo : ∀ x ∈ out, ∀ y ∈ xr, x < y
  mem : ∀ x, (x ∈ xs ∧ x ∈ ys) ↔ (x ∈ out ∨ (x ∈ xr ∧ x ∈ yr))
  len : out.length + xr.length ≤ xs.length
theorem andI_start {xs ys : List Int} (hx : upI xs) (hy : upI ys) : AndI xs ys xs ys [] :=
  ⟨hx, hy, upI_nil, fun x h => (by cases h), fun x => by simp, by simp⟩
theorem AndI.left {xs ys xr yr out : List Int} {p q : Int} (h : AndI xs ys (p :: xr) (q :: yr) out) (hpq : p < q) : AndI xs ys xr (q :: yr) out := by
  refine ⟨upI_tail h.ux, h.uy, h.uo, fun x hx y hy => h.lo x hx y (List.mem_cons_of_mem _ hy), fun x => ?_, by have := h.len; simp only [List.length_cons] at this; omega⟩
  rw [h.mem x]
  constructor
  · rintro (h1 | ⟨h1, h2⟩)
    · exact Or.inl h1
    · rcases List.mem_cons.1 h1 with e | e
      · subst e
        rcases List.mem_cons.1 h2 with e2 | e2
        · omega
        · have := upI_head h.uy x e2
          omega
      · exact Or.inr ⟨e, h2⟩
  · rintro (h1 | ⟨h1, h2⟩)
    · exact Or.inl h1
    · exact Or.inr ⟨List.mem_cons_of_mem _ h1, h2⟩
theorem AndI.right {xs ys xr yr out : List Int} {p q : Int} (h : AndI xs ys (p :: xr) (q :: yr) out) (hpq : q < p) : AndI xs ys (p :: xr) yr out := by
  refine ⟨h.ux, upI_tail h.uy, h.uo, h.lo, fun x => ?_, h.len⟩
  rw [h.mem x]
  constructor
  · rintro (h1 | ⟨h1, h2⟩)
    · exact Or.inl h1
    · rcases List.mem_cons.1 h2 with e | e
      · subst e
        rcases List.mem_cons.1 h1 with e2 | e2
        · omega
        · have := upI_head h.ux x e2
          omega
      · exact Or.inr ⟨h1, e⟩
  · rintro (h1 | ⟨h1, h2⟩)
    · exact Or.inl h1
    · exact Or.inr ⟨h1, List.mem_cons_of_mem _ h2⟩
theorem AndI.both {xs ys xr yr out : List Int} {p : Int} (h : AndI xs ys (p :: xr) (p :: yr) out) : AndI xs ys xr yr (out ++ [p]) := by
  refine ⟨upI_tail h.ux, upI_tail h.uy, upI_snoc.2 ⟨h.uo, fun y hy => h.lo y hy p (by simp)⟩, fun x hx y hy => ?_, fun x => ?_, by have := h.len; simp only [List.length_cons, List.length_append, List.length_nil] at this ⊢; omega⟩
  · rcases List.mem_append.1 hx with e | e
    · exact h.lo x e y (List.mem_cons_of_mem _ hy)
    · rw [List.mem_singleton] at e
      rw [e]
      exact upI_head h.ux y hy
  · rw [h.mem x, List.mem_append, List.mem_singleton]
    constructor
    · rintro (h1 | ⟨h1, h2⟩)
      · exact Or.inl (Or.inl h1)
      · rcases List.mem_cons.1 h1 with e | e
        · exact Or.inl (Or.inr e)
        · rcases List.mem_cons.1 h2 with e2 | e2
          · exact Or.inl (Or.inr e2)
          · exact Or.inr ⟨e, e2⟩
    · rintro ((h1 | h1) | ⟨h1, h2⟩)
      · exact Or.inl h1
      · rw [h1]
        exact Or.inr ⟨by simp, by simp⟩
      · exact Or.inr ⟨List.mem_cons_of_mem _ h1, List.mem_cons_of_mem _ h2⟩
theorem AndI.end' {xs ys xr yr out : List Int} (h : AndI xs ys xr yr out) (hx : upI xs) (hy : upI ys) (he : xr = [] ∨ yr = []) : out = mostS [xs, ys] 2 := by
  refine upI_ext h.uo (upI_most _ _) (fun x => ?_)
  show _ ↔ x ∈ andS xs ys
  rw [mem_and, h.mem x]
  constructor
  · intro h1
    exact ⟨⟨hx, hy⟩, Or.inl h1⟩
  · rintro ⟨-, h1 | ⟨h1, h2⟩⟩
    · exact h1
    · rcases he with e | e
      · rw [e] at h1; cases h1
      · rw [e] at h2; cases h2
theorem AndI.mine {xs ys xr yr out : List Int} (h : AndI xs ys xr yr out) {x : Int} (hx : x ∈ out) : x ∈ xs := ((h.mem x).2 (Or.inl hx)).1

/-- On the way of Less: what is left of the one list from place k on, what is left of the other. -/
structure LesI (xs ys : List Int) (k : Nat) (yr : List Int) : Prop where
  ux : upI xs
  uy : upI yr
  cut : ∃ pre, ys = pre ++ yr ∧ ∀ y ∈ pre, ∀ x ∈ xs.drop k, y < x
theorem lesI_start {xs ys : List Int} (hx : upI xs) (hy : upI ys) : LesI xs ys 0 ys := ⟨hx, hy, [], rfl, fun y h => (by cases h)⟩
theorem LesI.next {xs ys yr : List Int} {k : Nat} (h : LesI xs ys k yr) : LesI xs ys (k + 1) yr := by
  obtain ⟨h1, h2, pre, h3, h4⟩ := h
  refine ⟨h1, h2, pre, h3, fun y hy x hx => h4 y hy x ?_⟩
  rw [← List.drop_drop] at hx
  exact List.mem_of_mem_drop hx
theorem drop_least {xs : List Int} {k : Nat} (h : upI xs) (hk : k < xs.length) : ∀ x ∈ xs.drop k, xs.getD k 0 ≤ x := by
  intro x hx
  rw [drop_get hk] at hx
  have h2 : upI (xs.drop k) := h.sublist (List.drop_sublist k xs)
  rw [drop_get hk] at h2
  rcases List.mem_cons.1 hx with e | e
  · omega
  · have := upI_head h2 x e
    omega
theorem LesI.pass {xs ys yr : List Int} {k : Nat} {q : Int} (h : LesI xs ys k (q :: yr)) (hk : k < xs.length) (hq : q < xs.getD k 0) : LesI xs ys k yr := by
  obtain ⟨h1, h2, pre, h3, h4⟩ := h
  refine ⟨h1, upI_tail h2, pre ++ [q], by rw [h3]; simp, fun y hy x hx => ?_⟩
  rcases List.mem_append.1 hy with e | e
  · exact h4 y e x hx
  · rw [List.mem_singleton] at e
    have := drop_least h1 hk x hx
    omega
theorem LesI.found {xs ys yr : List Int} {k : Nat} {q : Int} (h : LesI xs ys k (q :: yr)) (hk : k < xs.length) (hq : q = xs.getD k 0) : (xs.take (k + 1)).filter (outB ys) = (xs.take k).filter (outB ys) := by
  have hin : xs.getD k 0 ∈ ys := by
    obtain ⟨pre, h3, -⟩ := h.cut
    rw [h3, ← hq]
    simp
  rw [take_get hk, List.filter_append, List.filter_cons, if_neg (by unfold outB; simp only [hin, not_true, decide_false]; decide), List.filter_nil, List.append_nil]
theorem LesI.none {xs ys yr : List Int} {k : Nat} (h : LesI xs ys k yr) (hk : k < xs.length) (hq : ∀ q ∈ yr, xs.getD k 0 < q) : (xs.take (k + 1)).filter (outB ys) = (xs.take k).filter (outB ys) ++ [xs.getD k 0] := by
  have hin : xs.getD k 0 ∉ ys := by
    obtain ⟨pre, h3, h4⟩ := h.cut
    rw [h3, List.mem_append]
    rintro (e | e)
    · have := h4 _ e (xs.getD k 0) (by rw [drop_get hk]; simp)
      omega
    · have := hq _ e
      omega
  rw [take_get hk, List.filter_append, List.filter_cons, if_pos (by unfold outB; exact decide_eq_true hin), List.filter_nil]
theorem most_none (ls : List (List Int)) (k : Int) (h : ¬ ∀ l ∈ ls, upI l) : mostS ls k = [] := by
  unfold mostS
  rw [if_pos (Or.inr h)]
theorem less_none {xs ys : List Int} (h : ¬ (upI xs ∧ upI ys)) : lessS xs ys = [] := by
  unfold lessS
  rw [if_neg h]
end Go.Proofs.Ythmcliapdnbdjaa
