/-
  The names that are told rise, each once; how many they are: in plain words. No function is named.
  Conditions: as each theorem says.
-/
import Derived.Test.YthlkmjaflomflaaVfsU
namespace Go.Proofs.Ythlkmjaflomflaa
set_option linter.unusedVariables false

/-- One text ahead of another. -/
def aheadN (x y : ByteArray) : Prop := Op.bytesLess x.toList y.toList = true
theorem getD_at {l : List ByteArray} {i : Nat} (h : i < l.length) : l.getD i ByteArray.empty ∈ l ∧ l[i]? = some (l.getD i ByteArray.empty) := by
  rw [List.getD_eq_getElem?_getD, List.getElem?_eq_getElem h]
  exact ⟨List.getElem_mem h, rfl⟩
theorem backN_behind (l : List ByteArray) (s : ByteArray) : ∀ k j, backN l s k ≤ j → j < k → aheadN s (l.getD j ByteArray.empty)
  | 0, j, _, h => by omega
  | k + 1, j, h1, h2 => by
    unfold backN at h1
    split at h1
    · rename_i e
      by_cases q : j = k
      · subst q; exact e
      · exact backN_behind l s k j h1 (by omega)
    · omega
theorem backN_ahead (l : List ByteArray) (s : ByteArray) : ∀ k j, backN l s k = j + 1 → Op.bytesLess s.toList (l.getD j ByteArray.empty).toList = false
  | 0, j, h => by simp [backN] at h
  | k + 1, j, h => by
    unfold backN at h
    split at h
    · exact backN_ahead l s k j h
    · rename_i e
      obtain rfl : k = j := by omega
      simpa using e
theorem insN_mem (l : List ByteArray) (s t : ByteArray) : t ∈ insN l s ↔ t = s ∨ t ∈ l := by
  unfold insN
  rw [List.mem_append, List.mem_cons]
  conv => rhs; rw [← List.take_append_drop (backN l s l.length) l, List.mem_append]
  constructor
  · rintro (h | h | h)
    · exact Or.inr (Or.inl h)
    · exact Or.inl h
    · exact Or.inr (Or.inr h)
  · rintro (h | h | h)
    · exact Or.inr (Or.inl h)
    · exact Or.inl h
    · exact Or.inr (Or.inr h)
theorem insN_rises {l : List ByteArray} (h : l.Pairwise aheadN) {s : ByteArray} (hs : s ∉ l) : (insN l s).Pairwise aheadN := by
  unfold insN
  have hle := backN_le l s l.length
  generalize hk : backN l s l.length = k at hle
  have hB : ∀ x ∈ l.drop k, aheadN s x := by
    intro x hx
    obtain ⟨i, hi⟩ := List.mem_iff_getElem?.1 hx
    rw [List.getElem?_drop] at hi
    have hlt := (List.getElem?_eq_some_iff.1 hi).1
    have := backN_behind l s l.length (k + i) (by omega) hlt
    have e := (getD_at hlt).2
    rw [hi] at e
    rw [← Option.some.inj e] at this
    exact this
  have hA : ∀ x ∈ l.take k, aheadN x s := by
    intro x hx
    obtain ⟨i, hi⟩ := List.mem_iff_getElem?.1 hx
    rw [List.getElem?_take] at hi
    split at hi
    · rename_i hik
      obtain ⟨m, rfl⟩ : ∃ m, k = m + 1 := ⟨k - 1, by omega⟩
      have h1 := backN_ahead l s l.length m hk
      have hm : m < l.length := by omega
      obtain ⟨g1, g2⟩ := getD_at hm
      have h2 : aheadN (l.getD m ByteArray.empty) s := by
        rcases less_tri (l.getD m ByteArray.empty).toList s.toList with e | e | e
        · exact e
        · exact absurd (ba_ext e ▸ g1) hs
        · rw [h1] at e; simp at e
      by_cases e : i = m
      · subst e
        rw [hi] at g2
        rw [Option.some.inj g2]
        exact h2
      · refine less_trans ?_ h2
        obtain ⟨a1, a2⟩ := List.getElem?_eq_some_iff.1 hi
        obtain ⟨b1, b2⟩ := List.getElem?_eq_some_iff.1 g2
        have := List.pairwise_iff_getElem.1 h i m a1 b1 (by omega)
        rw [a2, b2] at this
        exact this
    · simp at hi
  rw [List.pairwise_append]
  refine ⟨h.sublist (List.take_sublist _ _), ?_, fun x hx y hy => ?_⟩
  · rw [List.pairwise_cons]
    exact ⟨hB, h.sublist (List.drop_sublist _ _)⟩
  · rcases List.mem_cons.1 hy with rfl | hy
    · exact hA x hx
    · exact less_trans (hA x hx) (hB y hy)
theorem insN_len (l : List ByteArray) (s : ByteArray) : (insN l s).length = l.length + 1 := by
  unfold insN
  have := backN_le l s l.length
  rw [List.length_append, List.length_cons, List.length_take, List.length_drop]
  omega
theorem listD_snoc (l : List Dn) (d : Dn) : listD (l ++ [d]) = insN (listD l) d.nm := by
  unfold listD
  rw [List.foldl_append]
  rfl
theorem listD_of : ∀ {l r : List Dn}, l = r.reverse → (r.map (·.nm)).Nodup → (∀ t, t ∈ listD l ↔ t ∈ r.map (·.nm)) ∧ (listD l).Pairwise aheadN ∧ (listD l).length = l.length := by
  intro l r e
  subst e
  induction r with
  | nil => intro _; exact ⟨fun t => Iff.rfl, List.Pairwise.nil, rfl⟩
  | cons d r ih =>
    intro h
    rw [List.map_cons, List.nodup_cons] at h
    obtain ⟨h1, h2, h3⟩ := ih h.2
    rw [List.reverse_cons, listD_snoc]
    refine ⟨fun t => ?_, insN_rises h2 (fun q => h.1 ((h1 _).1 q)), ?_⟩
    · rw [insN_mem, List.map_cons, List.mem_cons, h1]
    · rw [insN_len, h3, List.length_append]; rfl
/-- The names that are told: just those, in order, as many. -/
theorem listD_names {l : List Dn} (h : NamesD l) : (∀ t, t ∈ listD l ↔ (fileD l t).isSome = true) ∧ (listD l).Pairwise aheadN ∧ (listD l).length = l.length := by
  obtain ⟨h1, h2, h3⟩ := listD_of (l := l) (r := l.reverse) (by simp) (by rw [List.map_reverse]; exact List.pairwise_reverse.2 (h.once.imp Ne.symm))
  refine ⟨fun t => ?_, h2, h3⟩
  rw [h1, List.mem_map]
  constructor
  · rintro ⟨d, hd, rfl⟩
    rw [fileD_at h (List.mem_reverse.1 hd)]
    rfl
  · intro q
    obtain ⟨f, hf⟩ := Option.isSome_iff_exists.1 q
    exact ⟨_, List.mem_reverse.2 (fileD_mem hf), rfl⟩
end Go.Proofs.Ythlkmjaflomflaa
