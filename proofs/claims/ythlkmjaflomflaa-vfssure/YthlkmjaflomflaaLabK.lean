/-
  Labels in plain words: names, sets that may be, a name's value, which of two sets comes first, labels put in order of their names: and that these order, and that the order in which labels come plays no part.
  Conditions: as each theorem says.
-/
import Derived.Laws.Strings
import Derived.Laws.Strings2
import Derived.Laws.Concat
namespace Go.Proofs.Ythlkmjaflomflaa

/-- A label: its name, its value. -/
abbrev Lb := ByteArray × ByteArray
theorem ba_ext {a b : ByteArray} (h : a.toList = b.toList) : a = b := by
  rw [ByteArray.toList_eq, ByteArray.toList_eq] at h
  cases a with | mk x => cases b with | mk y => congr 1; exact Array.ext' h
theorem ba_eq {a b : ByteArray} : (a.toList == b.toList) = decide (a = b) := by
  rw [Bool.eq_iff_iff, beq_iff_eq, decide_eq_true_eq]
  exact ⟨ba_ext, fun h => by rw [h]⟩
theorem ba_len (a : ByteArray) : a.toList.length = a.size := by rw [ByteArray.toList_eq, Array.length_toList]; rfl

/-- A way to hold two things against each other. -/
structure IsCmp {α : Type} (c : α → α → Int) : Prop where
  zero : ∀ x y, c x y = 0 ↔ x = y
  turn : ∀ x y, c y x = - c x y
  trans : ∀ x y z, c x y ≤ 0 → c y z ≤ 0 → c x z ≤ 0
theorem IsCmp.self {α : Type} {c : α → α → Int} (h : IsCmp c) (x : α) : c x x = 0 := (h.zero x x).2 rfl
theorem IsCmp.lt {α : Type} {c : α → α → Int} (h : IsCmp c) {x y z : α} (h1 : c x y < 0) (h2 : c y z ≤ 0) : c x z < 0 := by
  have h3 := h.trans x y z (by omega) h2
  rcases Int.lt_or_eq_of_le h3 with h4 | h4
  · exact h4
  · rw [h.zero] at h4
    subst h4
    have := h.turn x y
    omega
theorem IsCmp.lt' {α : Type} {c : α → α → Int} (h : IsCmp c) {x y z : α} (h1 : c x y ≤ 0) (h2 : c y z < 0) : c x z < 0 := by
  have h3 := h.trans x y z h1 (by omega)
  rcases Int.lt_or_eq_of_le h3 with h4 | h4
  · exact h4
  · rw [h.zero] at h4
    subst h4
    have := h.turn x y
    omega
def lexP {α β : Type} (c : α → α → Int) (d : β → β → Int) (x y : α × β) : Int := if c x.1 y.1 = 0 then d x.2 y.2 else c x.1 y.1
theorem IsCmp.pair {α β : Type} {c : α → α → Int} {d : β → β → Int} (hc : IsCmp c) (hd : IsCmp d) : IsCmp (lexP c d) := by
  refine ⟨fun x y => ?_, fun x y => ?_, fun x y z h1 h2 => ?_⟩
  · unfold lexP
    constructor
    · intro h
      split at h
      · rename_i e
        exact Prod.ext ((hc.zero _ _).1 e) ((hd.zero _ _).1 h)
      · rename_i e; exact absurd h e
    · rintro rfl
      rw [if_pos (hc.self _)]; exact hd.self _
  · unfold lexP
    have h := hc.turn x.1 y.1
    by_cases e : c x.1 y.1 = 0
    · rw [if_pos e, if_pos (by omega)]; exact hd.turn _ _
    · rw [if_neg e, if_neg (by omega)]; exact h
  · unfold lexP at *
    by_cases e1 : c x.1 y.1 = 0
    · rw [if_pos e1] at h1
      have q := (hc.zero _ _).1 e1
      rw [q]
      by_cases e2 : c y.1 z.1 = 0
      · rw [if_pos e2] at h2 ⊢; exact hd.trans _ _ _ h1 h2
      · rw [if_neg e2] at h2 ⊢; exact h2
    · rw [if_neg e1] at h1
      by_cases e2 : c y.1 z.1 = 0
      · have q := (hc.zero _ _).1 e2
        rw [← q, if_neg e1]; exact h1
      · rw [if_neg e2] at h2
        have := hc.lt (x := x.1) (by omega) h2
        rw [if_neg (by omega)]; omega
def lexL {α : Type} (c : α → α → Int) : List α → List α → Int
  | [], [] => 0
  | [], _ :: _ => -1
  | _ :: _, [] => 1
  | x :: a, y :: b => if c x y = 0 then lexL c a b else c x y
theorem IsCmp.list {α : Type} {c : α → α → Int} (hc : IsCmp c) : IsCmp (lexL c) := by
  refine ⟨fun x => ?_, fun x => ?_, fun x => ?_⟩
  · induction x with
    | nil => intro y; cases y <;> simp [lexL]
    | cons x a ih =>
      intro y
      cases y with
      | nil => simp [lexL]
      | cons y b =>
        rw [lexL]
        constructor
        · intro h
          split at h
          · rename_i e
            rw [(hc.zero _ _).1 e, (ih b).1 h]
          · rename_i e; exact absurd h e
        · intro h
          simp only [List.cons.injEq] at h
          rw [if_pos ((hc.zero _ _).2 h.1)]; exact (ih b).2 h.2
  · induction x with
    | nil => intro y; cases y <;> simp [lexL]
    | cons x a ih =>
      intro y
      cases y with
      | nil => simp [lexL]
      | cons y b =>
        rw [lexL, lexL]
        have h := hc.turn x y
        by_cases e : c x y = 0
        · rw [if_pos e, if_pos (by omega)]; exact ih b
        · rw [if_neg e, if_neg (by omega)]; exact h
  · induction x with
    | nil => intro y z _ _; cases z <;> simp [lexL]
    | cons x a ih =>
      intro y z h1 h2
      cases y with
      | nil => simp [lexL] at h1
      | cons y b =>
        cases z with
        | nil => simp [lexL] at h2
        | cons z d =>
          rw [lexL] at h1 h2 ⊢
          by_cases e1 : c x y = 0
          · rw [if_pos e1] at h1
            have q := (hc.zero _ _).1 e1
            subst q
            by_cases e2 : c x z = 0
            · rw [if_pos e2] at h2 ⊢; exact ih b d h1 h2
            · rw [if_neg e2] at h2 ⊢; exact h2
          · rw [if_neg e1] at h1
            by_cases e2 : c y z = 0
            · have q := (hc.zero _ _).1 e2
              subst q
              rw [if_neg e1]; exact h1
            · rw [if_neg e2] at h2
              have := hc.lt (x := x) (by omega) h2
              rw [if_neg (by omega)]; omega

theorem less_irrefl (x : List UInt8) : Op.bytesLess x x = false := by
  induction x with
  | nil => rfl
  | cons a x ih =>
    rw [Op.bytesLess, ih]
    simp
theorem less_trans : ∀ {x y z : List UInt8}, Op.bytesLess x y = true → Op.bytesLess y z = true → Op.bytesLess x z = true
  | _, [], _, h, _ => by cases ‹List UInt8› <;> simp [Op.bytesLess] at h
  | _, _ :: _, [], _, h => by simp [Op.bytesLess] at h
  | [], _ :: _, _ :: _, _, _ => rfl
  | a :: x, b :: y, c :: z, h1, h2 => by
    simp only [Op.bytesLess, Bool.or_eq_true, Bool.and_eq_true, decide_eq_true_eq, beq_iff_eq] at h1 h2 ⊢
    rcases h1 with h1 | ⟨rfl, h1⟩
    · rcases h2 with h2 | ⟨rfl, h2⟩
      · exact Or.inl (UInt8.lt_trans h1 h2)
      · exact Or.inl h1
    · rcases h2 with h2 | ⟨rfl, h2⟩
      · exact Or.inl h2
      · exact Or.inr ⟨rfl, less_trans h1 h2⟩
theorem less_tri : ∀ (x y : List UInt8), Op.bytesLess x y = true ∨ x = y ∨ Op.bytesLess y x = true
  | [], [] => Or.inr (Or.inl rfl)
  | [], _ :: _ => Or.inl rfl
  | _ :: _, [] => Or.inr (Or.inr rfl)
  | a :: x, b :: y => by
    simp only [Op.bytesLess, Bool.or_eq_true, Bool.and_eq_true, decide_eq_true_eq, beq_iff_eq, List.cons.injEq]
    have tri : a < b ∨ a = b ∨ b < a := by
      rcases Nat.lt_trichotomy a.toNat b.toNat with h | h | h
      · exact Or.inl (UInt8.lt_iff_toNat_lt.2 h)
      · exact Or.inr (Or.inl (UInt8.toNat_inj.1 h))
      · exact Or.inr (Or.inr (UInt8.lt_iff_toNat_lt.2 h))
    rcases tri with h | rfl | h
    · exact Or.inl (Or.inl h)
    · rcases less_tri x y with h | h | h
      · exact Or.inl (Or.inr ⟨rfl, h⟩)
      · exact Or.inr (Or.inl ⟨rfl, h⟩)
      · exact Or.inr (Or.inr (Or.inr ⟨rfl, h⟩))
    · exact Or.inr (Or.inr (Or.inl h))
theorem less_asymm {x y : List UInt8} (h : Op.bytesLess x y = true) : Op.bytesLess y x = false := by
  cases e : Op.bytesLess y x with
  | false => rfl
  | true => have := less_trans h e; rw [less_irrefl] at this; cases this
/-- Which of two texts comes first. -/
def cmpT (a b : ByteArray) : Int := if Op.bytesLess a.toList b.toList then -1 else if Op.bytesLess b.toList a.toList then 1 else 0
theorem cmpT_is : IsCmp cmpT := by
  refine ⟨fun x y => ?_, fun x y => ?_, fun x y z h1 h2 => ?_⟩
  · unfold cmpT
    rcases less_tri x.toList y.toList with h | h | h
    · rw [if_pos h]
      exact ⟨fun e => absurd e (by decide), fun e => by rw [e, less_irrefl] at h; cases h⟩
    · rw [ba_ext h, if_neg (by rw [less_irrefl]; decide), if_neg (by rw [less_irrefl]; decide)]
      simp
    · rw [if_neg (by rw [less_asymm h]; decide), if_pos h]
      exact ⟨fun e => absurd e (by decide), fun e => by rw [e, less_irrefl] at h; cases h⟩
  · unfold cmpT
    rcases less_tri x.toList y.toList with h | h | h
    · rw [if_pos h, if_neg (by rw [less_asymm h]; decide), if_pos h]; rfl
    · rw [ba_ext h, if_neg (by rw [less_irrefl]; decide), if_neg (by rw [less_irrefl]; decide)]; rfl
    · rw [if_pos h, if_neg (by rw [less_asymm h]; decide), if_pos h]
  · have one : ∀ a b : ByteArray, cmpT a b ≤ 0 → Op.bytesLess a.toList b.toList = true ∨ a = b := by
      intro a b h
      unfold cmpT at h
      rcases less_tri a.toList b.toList with e | e | e
      · exact Or.inl e
      · exact Or.inr (ba_ext e)
      · rw [if_neg (by rw [less_asymm e]; decide), if_pos e] at h
        omega
    have two : ∀ a b : ByteArray, Op.bytesLess a.toList b.toList = true → cmpT a b ≤ 0 := by
      intro a b h
      unfold cmpT
      rw [if_pos h]; decide
    rcases one _ _ h1 with e1 | rfl
    · rcases one _ _ h2 with e2 | rfl
      · exact two _ _ (less_trans e1 e2)
      · exact two _ _ e1
    · exact h2
theorem gtr_less (x y : List UInt8) : (!(Op.bytesLess x y || x == y)) = Op.bytesLess y x := by
  rcases less_tri x y with h | h | h
  · rw [h, less_asymm h]; rfl
  · subst h; rw [less_irrefl]; simp
  · rw [less_asymm h, h]
    have : (x == y) = false := beq_eq_false_iff_ne.2 (fun e => by rw [e, less_irrefl] at h; cases h)
    rw [this]; rfl
theorem cmpT_range (a b : ByteArray) : cmpT a b = -1 ∨ cmpT a b = 0 ∨ cmpT a b = 1 := by
  unfold cmpT
  split
  · exact Or.inl rfl
  · split
    · exact Or.inr (Or.inr rfl)
    · exact Or.inr (Or.inl rfl)
/-- Which of two sets comes first. -/
def cmpL (a b : List Lb) : Int := lexL (lexP cmpT cmpT) a b
theorem cmpL_is : IsCmp cmpL := (cmpT_is.pair cmpT_is).list

/-- May this byte stand in a name, at place i? -/
def nmC (i : Nat) (c : UInt8) : Bool := c == 95 || (decide (97 ≤ c) && decide (c ≤ 122)) || (decide (48 ≤ c) && decide (c ≤ 57) && decide (i ≠ 0))
def nmF : Nat → List UInt8 → Bool
  | _, [] => true
  | i, c :: t => nmC i c && nmF (i + 1) t
def nameB (s : ByteArray) : Bool := nmF 0 s.toList && (decide (1 ≤ s.size) && decide (s.size ≤ 32))
/-- One label that may be. -/
def lbB (x : Lb) : Bool := nameB x.1 && (decide (1 ≤ x.2.size) && decide (x.2.size ≤ 64))
/-- Labels that may be, each behind the one ahead. -/
def chkF : Option ByteArray → List Lb → Bool
  | _, [] => true
  | p, x :: t => (lbB x && (match p with | none => true | some q => Op.bytesLess q.toList x.1.toList)) && chkF (some x.1) t
def chkL (l : List Lb) : Bool := chkF none l && (decide (1 ≤ l.length) && decide (l.length ≤ 8))
def valL (l : List Lb) (n : ByteArray) : ByteArray := ((l.find? fun x => decide (x.1 = n)).map (·.2)).getD .empty

/-- One label more, behind those whose names are not behind it. -/
def insL (x : Lb) : List Lb → List Lb
  | [] => [x]
  | y :: t => if Op.bytesLess x.1.toList y.1.toList then x :: y :: t else y :: insL x t
def fulL (l : List Lb) : List Lb := l.filter fun x => decide (x.2 ≠ .empty)
def sortL (l : List Lb) : List Lb := l.foldl (fun m x => insL x m) []
def makeL (l : List Lb) : Option (List Lb) := if chkL (sortL (fulL l)) then some (sortL (fulL l)) else none
def notLess (x y : Lb) : Prop := Op.bytesLess y.1.toList x.1.toList = false
theorem insL_perm (x : Lb) (l : List Lb) : (insL x l).Perm (x :: l) := by
  induction l with
  | nil => exact List.Perm.refl _
  | cons y t ih =>
    rw [insL]
    split
    · exact List.Perm.refl _
    · exact (List.Perm.cons y ih).trans (List.Perm.swap x y t)
theorem sorts_perm (l m : List Lb) : (l.foldl (fun m x => insL x m) m).Perm (m ++ l) := by
  induction l generalizing m with
  | nil => rw [List.append_nil]; exact List.Perm.refl _
  | cons x t ih =>
    rw [List.foldl_cons]
    refine (ih _).trans ?_
    refine ((insL_perm x m).append_right t).trans ?_
    exact List.perm_middle.symm
theorem sortL_perm (l : List Lb) : (sortL l).Perm l := by
  have := sorts_perm l []
  rw [List.nil_append] at this
  exact this
theorem notLess_trans {x y z : Lb} (h1 : notLess x y) (h2 : notLess y z) : notLess x z := by
  unfold notLess at *
  cases e : Op.bytesLess z.1.toList x.1.toList with
  | false => rfl
  | true =>
    rcases less_tri x.1.toList y.1.toList with h | h | h
    · have := less_trans e h; rw [h2] at this; cases this
    · rw [h, h2] at e; cases e
    · rw [h1] at h; cases h
theorem insL_sorted {x : Lb} {l : List Lb} (h : l.Pairwise notLess) : (insL x l).Pairwise notLess := by
  induction l with
  | nil => exact List.pairwise_singleton _ _
  | cons y t ih =>
    have h1 := List.pairwise_cons.1 h
    rw [insL]
    split
    · rename_i e
      refine List.pairwise_cons.2 ⟨fun z hz => ?_, h⟩
      have hxy : notLess x y := less_asymm e
      rcases List.mem_cons.1 hz with rfl | hz
      · exact hxy
      · exact notLess_trans hxy (h1.1 z hz)
    · rename_i e
      refine List.pairwise_cons.2 ⟨fun z hz => ?_, ih h1.2⟩
      rcases List.mem_cons.1 ((insL_perm x t).mem_iff.1 hz) with rfl | hz
      · unfold notLess; simpa using e
      · exact h1.1 z hz
theorem sorts_sorted (l m : List Lb) (h : m.Pairwise notLess) : (l.foldl (fun m x => insL x m) m).Pairwise notLess := by
  induction l generalizing m with
  | nil => exact h
  | cons x t ih => exact ih _ (insL_sorted h)
theorem sortL_sorted (l : List Lb) : (sortL l).Pairwise notLess := sorts_sorted l [] List.Pairwise.nil
def less (x y : Lb) : Prop := Op.bytesLess x.1.toList y.1.toList = true
theorem chkF_less : ∀ {p : Option ByteArray} {l : List Lb}, chkF p l = true → l.Pairwise less ∧ ∀ q, p = some q → ∀ x ∈ l, Op.bytesLess q.toList x.1.toList = true
  | _, [], _ => ⟨List.Pairwise.nil, fun _ _ x hx => by cases hx⟩
  | p, x :: t, h => by
    simp only [chkF, Bool.and_eq_true] at h
    obtain ⟨h1, h2⟩ := chkF_less h.2
    refine ⟨List.pairwise_cons.2 ⟨fun y hy => h2 x.1 rfl y hy, h1⟩, fun q hq y hy => ?_⟩
    subst hq
    have h3 : Op.bytesLess q.toList x.1.toList = true := h.1.2
    rcases List.mem_cons.1 hy with rfl | hy
    · exact h3
    · exact less_trans h3 (h2 x.1 rfl y hy)
theorem chkL_less {l : List Lb} (h : chkL l = true) : l.Pairwise less := by
  unfold chkL at h
  simp only [Bool.and_eq_true] at h
  exact (chkF_less h.1).1
/-- Two labels of a set that have one name are one. -/
theorem pair_one : ∀ {l : List Lb}, l.Pairwise less → ∀ {x y : Lb}, x ∈ l → y ∈ l → x.1 = y.1 → x = y
  | [], _, _, _, hx, _, _ => by cases hx
  | z :: t, h, x, y, hx, hy, e => by
    have h1 := List.pairwise_cons.1 h
    rcases List.mem_cons.1 hx with rfl | hx'
    · rcases List.mem_cons.1 hy with rfl | hy'
      · rfl
      · have := h1.1 y hy'; unfold less at this; rw [e, less_irrefl] at this; cases this
    · rcases List.mem_cons.1 hy with rfl | hy'
      · have := h1.1 x hx'; unfold less at this; rw [e, less_irrefl] at this; cases this
      · exact pair_one h1.2 hx' hy' e
/-- Labels in another order come to the same set, if they come to one. -/
theorem sortL_turn {l m : List Lb} (hp : l.Perm m) (h : chkL (sortL l) = true) : sortL m = sortL l := by
  have h1 := chkL_less h
  have p : (sortL m).Perm (sortL l) := (sortL_perm m).trans (hp.symm.trans (sortL_perm l).symm)
  refine p.eq_of_pairwise (le := notLess) ?_ (sortL_sorted m) (sortL_sorted l)
  intro x y hx hy e1 e2
  have q : x.1 = y.1 := by
    rcases less_tri x.1.toList y.1.toList with e | e | e
    · unfold notLess at e2; rw [e] at e2; cases e2
    · exact ba_ext e
    · unfold notLess at e1; rw [e] at e1; cases e1
  exact pair_one h1 (p.mem_iff.1 hx) hy q
theorem makeL_turn {l m : List Lb} (hp : (fulL l).Perm (fulL m)) : makeL l = makeL m := by
  unfold makeL
  cases h : chkL (sortL (fulL l)) with
  | true => rw [if_pos rfl, sortL_turn hp h, h, if_pos rfl]
  | false =>
    cases h2 : chkL (sortL (fulL m)) with
    | false => rfl
    | true =>
      have := sortL_turn hp.symm h2
      rw [this, h2] at h
      cases h
/-- Turned round, with an empty one behind. -/
theorem makeL_round (l : List Lb) (k : Nat) (n : ByteArray) : makeL (l.drop k ++ l.take k ++ [(n, .empty)]) = makeL l := by
  refine makeL_turn ?_
  unfold fulL
  rw [List.filter_append, List.filter_append]
  have e : ([(n, ByteArray.empty)] : List Lb).filter (fun x => decide (x.2 ≠ .empty)) = [] := by simp
  rw [e, List.append_nil, ← List.filter_append]
  exact (List.perm_append_comm.trans (List.Perm.of_eq (List.take_append_drop k l))).filter _
theorem valL_some {l : List Lb} (h : l.Pairwise less) {x : Lb} (hx : x ∈ l) : valL l x.1 = x.2 := by
  unfold valL
  cases e : l.find? (fun y => decide (y.1 = x.1)) with
  | none =>
    have := List.find?_eq_none.1 e x hx
    simp at this
  | some y =>
    have h1 := List.find?_some e
    have h2 := List.mem_of_find?_eq_some e
    rw [pair_one h h2 hx (by simpa using h1)]
    rfl
theorem valL_none {l : List Lb} {n : ByteArray} (h : ∀ x ∈ l, x.1 ≠ n) : valL l n = .empty := by
  unfold valL
  rw [List.find?_eq_none.2 (fun x hx => by simpa using h x hx)]
  rfl
end Go.Proofs.Ythlkmjaflomflaa
