/-
  Rising lists of numbers, plainly: what is in at least so many of them, what is in one and not in the other. No function is named.
  Conditions: as each theorem says.
-/
import Derived.WalkKit
namespace Go.Proofs.Ytpffhpnmbpjifaa

/-- Each above the one ahead. -/
def upI (l : List Int) : Prop := l.Pairwise (· < ·)
instance (l : List Int) : Decidable (upI l) := by unfold upI; infer_instance
theorem upI_ext : ∀ {l m : List Int}, upI l → upI m → (∀ x, x ∈ l ↔ x ∈ m) → l = m
  | [], [], _, _, _ => rfl
  | [], y :: m, _, _, h => by
    have := (h y).2 (by simp)
    cases this
  | x :: l, [], _, _, h => by
    have := (h x).1 (by simp)
    cases this
  | x :: l, y :: m, hl, hm, h => by
    obtain ⟨l1, l2⟩ := List.pairwise_cons.1 hl
    obtain ⟨m1, m2⟩ := List.pairwise_cons.1 hm
    have hxy : x = y := by
      have h1 := (h x).1 (by simp)
      have h2 := (h y).2 (by simp)
      rcases List.mem_cons.1 h1 with e | e
      · exact e
      · rcases List.mem_cons.1 h2 with e' | e'
        · exact e'.symm
        · have := m1 x e
          have := l1 y e'
          omega
    subst hxy
    congr 1
    refine upI_ext l2 m2 (fun z => ?_)
    constructor
    · intro hz
      rcases List.mem_cons.1 ((h z).1 (List.mem_cons_of_mem _ hz)) with e | e
      · have := l1 z hz
        omega
      · exact e
    · intro hz
      rcases List.mem_cons.1 ((h z).2 (List.mem_cons_of_mem _ hz)) with e | e
      · have := m1 z hz
        omega
      · exact e
theorem upI_filter {l : List Int} (f : Int → Bool) (h : upI l) : upI (l.filter f) := List.Pairwise.filter f h
theorem upI_take {l : List Int} (k : Nat) (h : upI l) : upI (l.take k) := h.sublist (List.take_sublist k l)
theorem upI_nil : upI [] := List.Pairwise.nil
theorem upI_snoc {l : List Int} {x : Int} : upI (l ++ [x]) ↔ upI l ∧ ∀ y ∈ l, y < x := by
  unfold upI
  rw [List.pairwise_append]
  simp
/-- By neighbours. -/
theorem upI_step {l : List Int} {k : Nat} (hk : k + 1 < l.length) (h : upI (l.take (k + 1))) : upI (l.take (k + 2)) ↔ l[k] < l[k + 1] := by
  have e : l.take (k + 2) = l.take (k + 1) ++ [l[k + 1]] := by
    rw [List.take_succ_eq_append_getElem hk]
  have e1 : l.take (k + 1) = l.take k ++ [l[k]] := by
    rw [List.take_succ_eq_append_getElem (by omega)]
  rw [e, upI_snoc]
  constructor
  · rintro ⟨-, h2⟩
    exact h2 _ (by rw [e1]; exact List.mem_append_right _ (List.mem_singleton.2 rfl))
  · intro h2
    refine ⟨h, fun y hy => ?_⟩
    rw [e1] at hy h
    rcases List.mem_append.1 hy with h3 | h3
    · have := (upI_snoc.1 h).2 y h3
      omega
    · simp at h3
      omega
/-- One more, at its place. -/
def insI (v : Int) : List Int → List Int
  | [] => [v]
  | x :: l => if v < x then v :: x :: l else if v = x then x :: l else x :: insI v l
theorem mem_insI {v x : Int} {l : List Int} : x ∈ insI v l ↔ x = v ∨ x ∈ l := by
  induction l with
  | nil => simp [insI]
  | cons y l ih =>
    unfold insI
    split
    · simp
    · split
      · rename_i h1 h2
        subst h2
        simp
      · rw [List.mem_cons, ih, List.mem_cons]
        constructor
        · rintro (h | h | h)
          · exact Or.inr (Or.inl h)
          · exact Or.inl h
          · exact Or.inr (Or.inr h)
        · rintro (h | h | h)
          · exact Or.inr (Or.inl h)
          · exact Or.inl h
          · exact Or.inr (Or.inr h)
theorem upI_insI {v : Int} {l : List Int} (h : upI l) : upI (insI v l) := by
  induction l with
  | nil => simp [insI, upI]
  | cons y l ih =>
    obtain ⟨h1, h2⟩ := List.pairwise_cons.1 h
    unfold insI
    split
    · rename_i hv
      refine List.pairwise_cons.2 ⟨fun z hz => ?_, h⟩
      rcases List.mem_cons.1 hz with e | e
      · omega
      · have := h1 z e
        omega
    · split
      · exact h
      · rename_i hv hv2
        refine List.pairwise_cons.2 ⟨fun z hz => ?_, ih h2⟩
        rcases mem_insI.1 hz with e | e
        · omega
        · exact h1 z e
/-- All numbers of these lists. -/
def unI (ls : List (List Int)) : List Int := ls.flatten.foldl (fun l v => insI v l) []
theorem foldI {ls l : List Int} (h : upI l) : upI (ls.foldl (fun l v => insI v l) l) ∧ ∀ x, x ∈ ls.foldl (fun l v => insI v l) l ↔ x ∈ l ∨ x ∈ ls := by
  induction ls generalizing l with
  | nil => exact ⟨h, fun x => by simp⟩
  | cons v t ih =>
    obtain ⟨i1, i2⟩ := ih (l := insI v l) (upI_insI h)
    refine ⟨i1, fun x => ?_⟩
    rw [List.foldl_cons, i2, mem_insI, List.mem_cons]
    constructor
    · rintro ((h | h) | h)
      · exact Or.inr (Or.inl h)
      · exact Or.inl h
      · exact Or.inr (Or.inr h)
    · rintro (h | h | h)
      · exact Or.inl (Or.inr h)
      · exact Or.inl (Or.inl h)
      · exact Or.inr h
theorem upI_unI (ls : List (List Int)) : upI (unI ls) := (foldI upI_nil).1
theorem mem_unI {ls : List (List Int)} {x : Int} : x ∈ unI ls ↔ ∃ l ∈ ls, x ∈ l := by
  unfold unI
  rw [(foldI upI_nil).2]
  simp
/-- In how many of them. -/
def cntI (ls : List (List Int)) (x : Int) : Nat := ls.countP (fun l => decide (x ∈ l))
theorem cntI_pos {ls : List (List Int)} {x : Int} : 1 ≤ cntI ls x ↔ ∃ l ∈ ls, x ∈ l := by
  unfold cntI
  rw [Nat.one_le_iff_ne_zero, Ne, List.countP_eq_zero]
  simp
/-- What is in at least k of them, if all rise. -/
def mostS (ls : List (List Int)) (k : Int) : List Int := if k < 1 ∨ ¬ ∀ l ∈ ls, upI l then [] else (unI ls).filter (fun x => decide (k ≤ (cntI ls x : Int)))
/-- What is in the one and not in the other, if both rise. -/
def lessS (a b : List Int) : List Int := if upI a ∧ upI b then a.filter (fun x => decide (x ∉ b)) else []
theorem upI_most (ls : List (List Int)) (k : Int) : upI (mostS ls k) := by
  unfold mostS
  split
  · exact upI_nil
  · exact upI_filter _ (upI_unI ls)
theorem mem_most {ls : List (List Int)} {k x : Int} : x ∈ mostS ls k ↔ 1 ≤ k ∧ (∀ l ∈ ls, upI l) ∧ k ≤ (cntI ls x : Int) := by
  unfold mostS
  split
  · rename_i h
    constructor
    · intro h2
      cases h2
    · rintro ⟨h1, h2, -⟩
      rcases h with h | h
      · omega
      · exact absurd h2 h
  · rename_i h
    rw [List.mem_filter, mem_unI, decide_eq_true_eq]
    have h1 : 1 ≤ k := by
      by_cases hk : k < 1
      · exact absurd (Or.inl hk) h
      · omega
    have h2 : ∀ l ∈ ls, upI l := Classical.byContradiction fun hn => h (Or.inr hn)
    constructor
    · rintro ⟨-, h3⟩
      exact ⟨h1, h2, h3⟩
    · rintro ⟨-, -, h3⟩
      exact ⟨cntI_pos.1 (by omega), h3⟩
theorem upI_less (a b : List Int) : upI (lessS a b) := by
  unfold lessS
  split
  · rename_i h
    exact upI_filter _ h.1
  · exact upI_nil
theorem mem_less {a b : List Int} {x : Int} : x ∈ lessS a b ↔ (upI a ∧ upI b) ∧ x ∈ a ∧ x ∉ b := by
  unfold lessS
  split
  · rename_i h
    rw [List.mem_filter, decide_eq_true_eq]
    exact ⟨fun q => ⟨h, q⟩, fun q => q.2⟩
  · rename_i h
    exact ⟨fun q => (by cases q), fun q => absurd q.1 h⟩
theorem cntI_one (a : List Int) (x : Int) : cntI [a] x = if x ∈ a then 1 else 0 := by
  unfold cntI
  by_cases h : x ∈ a <;> simp [h]
theorem cntI_cons (a : List Int) (ls : List (List Int)) (x : Int) : cntI (a :: ls) x = cntI ls x + if x ∈ a then 1 else 0 := by
  unfold cntI
  by_cases h : x ∈ a <;> simp [h]
theorem cntI_nil (x : Int) : cntI [] x = 0 := rfl
theorem cntI_le (ls : List (List Int)) (x : Int) : cntI ls x ≤ ls.length := List.countP_le_length
/-- And, Or of two. -/
abbrev andS (a b : List Int) : List Int := mostS [a, b] 2
abbrev orS (a b : List Int) : List Int := mostS [a, b] 1
theorem mem_and {a b : List Int} {x : Int} : x ∈ andS a b ↔ (upI a ∧ upI b) ∧ x ∈ a ∧ x ∈ b := by
  unfold andS
  rw [mem_most]
  simp only [cntI_cons, cntI_nil, List.mem_cons, List.not_mem_nil, or_false, forall_eq_or_imp, forall_eq]
  by_cases h1 : x ∈ a <;> by_cases h2 : x ∈ b <;> simp [h1, h2]
theorem mem_or {a b : List Int} {x : Int} : x ∈ orS a b ↔ (upI a ∧ upI b) ∧ (x ∈ a ∨ x ∈ b) := by
  unfold orS
  rw [mem_most]
  simp only [cntI_cons, cntI_nil, List.mem_cons, List.not_mem_nil, or_false, forall_eq_or_imp, forall_eq]
  by_cases h1 : x ∈ a <;> by_cases h2 : x ∈ b <;> simp [h1, h2]
theorem most_one {a : List Int} (h : upI a) : mostS [a] 1 = a := by
  refine upI_ext (upI_most _ _) h (fun x => ?_)
  rw [mem_most, cntI_one]
  by_cases hx : x ∈ a <;> simp [hx, h]
theorem most_three {a : List Int} (h : upI a) : mostS [a, a, a] 1 = a := by
  refine upI_ext (upI_most _ _) h (fun x => ?_)
  rw [mem_most]
  simp only [cntI_cons, cntI_nil, List.mem_cons, List.not_mem_nil, or_false, forall_eq_or_imp, forall_eq]
  by_cases hx : x ∈ a <;> simp [hx, h]
theorem and_comm' (a b : List Int) : andS a b = andS b a := upI_ext (upI_most _ _) (upI_most _ _) (fun x => by
  rw [mem_and, mem_and]
  constructor
  · rintro ⟨⟨h1, h2⟩, h3, h4⟩
    exact ⟨⟨h2, h1⟩, h4, h3⟩
  · rintro ⟨⟨h1, h2⟩, h3, h4⟩
    exact ⟨⟨h2, h1⟩, h4, h3⟩)
theorem or_comm' (a b : List Int) : orS a b = orS b a := upI_ext (upI_most _ _) (upI_most _ _) (fun x => by
  rw [mem_or, mem_or]
  constructor
  · rintro ⟨⟨h1, h2⟩, h3⟩
    exact ⟨⟨h2, h1⟩, h3.symm⟩
  · rintro ⟨⟨h1, h2⟩, h3⟩
    exact ⟨⟨h2, h1⟩, h3.symm⟩)
theorem and_assoc' {a b c : List Int} (ha : upI a) (hc : upI c) : andS (andS a b) c = andS a (andS b c) := upI_ext (upI_most _ _) (upI_most _ _) (fun x => by
  have u1 : upI (andS a b) := upI_most _ _
  have u2 : upI (andS b c) := upI_most _ _
  rw [mem_and, mem_and, mem_and, mem_and]
  constructor
  · rintro ⟨-, ⟨⟨-, h2⟩, h3, h4⟩, h5⟩
    exact ⟨⟨ha, u2⟩, h3, ⟨h2, hc⟩, h4, h5⟩
  · rintro ⟨-, h3, ⟨h2, -⟩, h4, h5⟩
    exact ⟨⟨u1, hc⟩, ⟨⟨ha, h2⟩, h3, h4⟩, h5⟩)
theorem or_assoc' {a b c : List Int} (ha : upI a) (hb : upI b) (hc : upI c) : orS (orS a b) c = orS a (orS b c) := upI_ext (upI_most _ _) (upI_most _ _) (fun x => by
  have u1 : upI (orS a b) := upI_most _ _
  have u2 : upI (orS b c) := upI_most _ _
  rw [mem_or, mem_or, mem_or, mem_or]
  constructor
  · rintro ⟨-, ⟨-, h | h⟩ | h⟩
    · exact ⟨⟨ha, u2⟩, Or.inl h⟩
    · exact ⟨⟨ha, u2⟩, Or.inr ⟨⟨hb, hc⟩, Or.inl h⟩⟩
    · exact ⟨⟨ha, u2⟩, Or.inr ⟨⟨hb, hc⟩, Or.inr h⟩⟩
  · rintro ⟨-, h | ⟨-, h | h⟩⟩
    · exact ⟨⟨u1, hc⟩, Or.inl ⟨⟨ha, hb⟩, Or.inl h⟩⟩
    · exact ⟨⟨u1, hc⟩, Or.inl ⟨⟨ha, hb⟩, Or.inr h⟩⟩
    · exact ⟨⟨u1, hc⟩, Or.inr h⟩)
theorem less_and {a b : List Int} (ha : upI a) (hb : upI b) : orS (lessS a b) (andS a b) = a := upI_ext (upI_most _ _) ha (fun x => by
  rw [mem_or, mem_less, mem_and]
  constructor
  · rintro ⟨-, ⟨-, h, -⟩ | ⟨-, h, -⟩⟩
    · exact h
    · exact h
  · intro h
    refine ⟨⟨upI_less _ _, upI_most _ _⟩, ?_⟩
    by_cases h2 : x ∈ b
    · exact Or.inr ⟨⟨ha, hb⟩, h, h2⟩
    · exact Or.inl ⟨⟨ha, hb⟩, h, h2⟩)
theorem and_self' {a : List Int} (h : upI a) : andS a a = a := upI_ext (upI_most _ _) h (fun x => by
  rw [mem_and]
  exact ⟨fun q => q.2.1, fun q => ⟨⟨h, h⟩, q, q⟩⟩)
theorem less_self (a : List Int) : lessS a a = [] := upI_ext (upI_less _ _) upI_nil (fun x => by
  rw [mem_less]
  exact ⟨fun q => absurd q.2.1 q.2.2, fun q => by cases q⟩)
theorem less_nil {a : List Int} (h : upI a) : lessS a [] = a := upI_ext (upI_less _ _) h (fun x => by
  rw [mem_less]
  exact ⟨fun q => q.2.1, fun q => ⟨⟨h, upI_nil⟩, q, by simp⟩⟩)
/-- In at least k: in at least k - 1. -/
theorem most_down {ls : List (List Int)} {k : Int} (hk : 1 < k) : lessS (mostS ls k) (mostS ls (k - 1)) = [] := upI_ext (upI_less _ _) upI_nil (fun x => by
  rw [mem_less, mem_most, mem_most]
  constructor
  · rintro ⟨-, ⟨h1, h2, h3⟩, h4⟩
    exact absurd ⟨by omega, h2, by omega⟩ h4
  · intro q
    cases q)
/-- In all of them: in each. -/
theorem most_all {ls : List (List Int)} {a : List Int} (ha : a ∈ ls) : lessS (mostS ls ls.length) a = [] := upI_ext (upI_less _ _) upI_nil (fun x => by
  rw [mem_less, mem_most]
  constructor
  · rintro ⟨-, ⟨-, -, h3⟩, h4⟩
    have h5 : cntI ls x = ls.length := by
      have := cntI_le ls x
      omega
    unfold cntI at h5
    rw [List.countP_eq_length] at h5
    have := h5 a ha
    rw [decide_eq_true_eq] at this
    exact absurd this h4
  · intro q
    cases q)
theorem most_more (ls : List (List Int)) : mostS ls (ls.length + 1) = [] := upI_ext (upI_most _ _) upI_nil (fun x => by
  rw [mem_most]
  constructor
  · rintro ⟨-, -, h3⟩
    have := cntI_le ls x
    omega
  · intro q
    cases q)
/-- How many there are. -/
theorem len_ins (v : Int) (l : List Int) : (insI v l).length ≤ l.length + 1 := by
  induction l with
  | nil => simp [insI]
  | cons y l ih =>
    unfold insI
    split
    · simp
    · split
      · simp
      · simp only [List.length_cons]
        omega
theorem len_fold (ls l : List Int) : (ls.foldl (fun l v => insI v l) l).length ≤ l.length + ls.length := by
  induction ls generalizing l with
  | nil => simp
  | cons v t ih =>
    have h1 := ih (insI v l)
    have h2 := len_ins v l
    rw [List.foldl_cons, List.length_cons]
    omega
theorem len_most (ls : List (List Int)) (k : Int) : (mostS ls k).length ≤ ls.flatten.length := by
  unfold mostS
  split
  · simp
  · have h1 : ((unI ls).filter (fun x => decide (k ≤ (cntI ls x : Int)))).length ≤ (unI ls).length := List.length_filter_le _ _
    have h2 := len_fold ls.flatten []
    unfold unI at h1 ⊢
    simp only [List.length_nil, Nat.zero_add] at h2
    omega
theorem len_less (a b : List Int) : (lessS a b).length ≤ a.length := by
  unfold lessS
  split
  · exact List.length_filter_le _ _
  · simp
end Go.Proofs.Ytpffhpnmbpjifaa
