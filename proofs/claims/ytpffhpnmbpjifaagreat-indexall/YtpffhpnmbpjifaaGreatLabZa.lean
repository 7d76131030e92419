/-
  Labels in plain words: names, sets that may be, a name's value, which of two sets comes first, labels put in order of their names: and that these order, and that the order in which labels come plays no part. Sets of labels as texts, in plain words: quoted values, the text of a set, a reader of texts; a set's text is read back as that set, so no two sets have one text. A reader of texts that takes just what is written (values as they are quoted, names up to the sign of likeness), in plain words, and that it finds just the set whose text it is; labels in order of their names are the set that is made. Matchers in plain words: which are small, which may be, what they say of labels, their texts. No function is named. A strict reader of matchers' texts, in plain words: what it reads has that text, and a matcher that may be is read back from its own; so no two have one text. No function is named.
  Conditions: as each theorem says; the sets may be ones ('chkL') where that is said.
-/
import Derived.Laws.Strings
import Derived.Laws.Strings2
import Derived.Laws.Concat
namespace Go.Proofs.YtpffhpnmbpjifaaGreat

/-- A label: its name, its value. -/
abbrev Lb := ByteArray × ByteArray
theorem ba_ext {a b : ByteArray} (h : a.toList = b.toList) : a = b := by
  rw [ByteArray.toList_eq, ByteArray.toList_eq] at h
  cases a with | mk x => cases b with | mk y => congr 1; exact Array.ext' h
theorem ba_eq {a b : ByteArray} : (a.toList == b.toList) = decide (a = b) := by
  rw [Bool.eq_iff_iff, beq_iff_eq, decide_eq_true_eq]
  exact ⟨ba_ext, fun h => by rw [h]⟩
theorem ba_len (a : ByteArray) : a.toList.length = a.size := by rw [ByteArray.toList_eq, Array.length_toList]; rfl

/-- A way to hold two things against each other. -/
structure IsCmp {α : Type} (c : α → α → Int) : Prop where
  zero : ∀ x y, c x y = 0 ↔ x = y
  turn : ∀ x y, c y x = - c x y
  trans : ∀ x y z, c x y ≤ 0 → c y z ≤ 0 → c x z ≤ 0
theorem IsCmp.self {α : Type} {c : α → α → Int} (h : IsCmp c) (x : α) : c x x = 0 := (h.zero x x).2 rfl
theorem IsCmp.lt {α : Type} {c : α → α → Int} (h : IsCmp c) {x y z : α} (h1 : c x y < 0) (h2 : c y z ≤ 0) : c x z < 0 := by
  have h3 := h.trans x y z (by omega) h2
  rcases Int.lt_or_eq_of_le h3 with h4 | h4
  · exact h4
  · rw [h.zero] at h4
    subst h4
    have := h.turn x y
    omega
theorem IsCmp.lt' {α : Type} {c : α → α → Int} (h : IsCmp c) {x y z : α} (h1 : c x y ≤ 0) (h2 : c y z < 0) : c x z < 0 := by
  have h3 := h.trans x y z h1 (by omega)
  rcases Int.lt_or_eq_of_le h3 with h4 | h4
  · exact h4
  · rw [h.zero] at h4
    subst h4
    have := h.turn x y
    omega
def lexP {α β : Type} (c : α → α → Int) (d : β → β → Int) (x y : α × β) : Int := if c x.1 y.1 = 0 then d x.2 y.2 else c x.1 y.1
theorem IsCmp.pair {α β : Type} {c : α → α → Int} {d : β → β → Int} (hc : IsCmp c) (hd : IsCmp d) : IsCmp (lexP c d) := by
  refine ⟨fun x y => ?_, fun x y => ?_, fun x y z h1 h2 => ?_⟩
  · unfold lexP
    constructor
    · intro h
      split at h
      · rename_i e
        exact Prod.ext ((hc.zero _ _).1 e) ((hd.zero _ _).1 h)
      · rename_i e; exact absurd h e
    · rintro rfl
      rw [if_pos (hc.self _)]; exact hd.self _
  · unfold lexP
    have h := hc.turn x.1 y.1
    by_cases e : c x.1 y.1 = 0
    · rw [if_pos e, if_pos (by omega)]; exact hd.turn _ _
    · rw [if_neg e, if_neg (by omega)]; exact h
  · unfold lexP at *
    by_cases e1 : c x.1 y.1 = 0
    · rw [if_pos e1] at h1
      have q := (hc.zero _ _).1 e1
      rw [q]
      by_cases e2 : c y.1 z.1 = 0
      · rw [if_pos e2] at h2 ⊢; exact hd.trans _ _ _ h1 h2
      · rw [if_neg e2] at h2 ⊢; exact h2
    · rw [if_neg e1] at h1
      by_cases e2 : c y.1 z.1 = 0
      · have q := (hc.zero _ _).1 e2
        rw [← q, if_neg e1]; exact h1
      · rw [if_neg e2] at h2
        have := hc.lt (x := x.1) (by omega) h2
        rw [if_neg (by omega)]; omega
def lexL {α : Type} (c : α → α → Int) : List α → List α → Int
  | [], [] => 0
  | [], _ :: _ => -1
  | _ :: _, [] => 1
  | x :: a, y :: b => if c x y = 0 then lexL c a b else c x y
theorem IsCmp.list {α : Type} {c : α → α → Int} (hc : IsCmp c) : IsCmp (lexL c) := by
  refine ⟨fun x => ?_, fun x => ?_, fun x => ?_⟩
  · induction x with
    | nil => intro y; cases y <;> simp [lexL]
    | cons x a ih =>
      intro y
      cases y with
      | nil => simp [lexL]
      | cons y b =>
        rw [lexL]
        constructor
        · intro h
          split at h
          · rename_i e
            rw [(hc.zero _ _).1 e, (ih b).1 h]
          · rename_i e; exact absurd h e
        · intro h
          simp only [List.cons.injEq] at h
          rw [if_pos ((hc.zero _ _).2 h.1)]; exact (ih b).2 h.2
  · induction x with
    | nil => intro y; cases y <;> simp [lexL]
    | cons x a ih =>
      intro y
      cases y with
      | nil => simp [lexL]
      | cons y b =>
        rw [lexL, lexL]
        have h := hc.turn x y
        by_cases e : c x y = 0
        · rw [if_pos e, if_pos (by omega)]; exact ih b
        · rw [if_neg e, if_neg (by omega)]; exact h
  · induction x with
    | nil => intro y z _ _; cases z <;> simp [lexL]
    | cons x a ih =>
      intro y z h1 h2
      cases y with
      | nil => simp [lexL] at h1
      | cons y b =>
        cases z with
        | nil => simp [lexL] at h2
        | cons z d =>
          rw [lexL] at h1 h2 ⊢
          by_cases e1 : c x y = 0
          · rw [if_pos e1] at h1
            have q := (hc.zero _ _).1 e1
            subst q
            by_cases e2 : c x z = 0
            · rw [if_pos e2] at h2 ⊢; exact ih b d h1 h2
            · rw [if_neg e2] at h2 ⊢; exact h2
          · rw [if_neg e1] at h1
            by_cases e2 : c y z = 0
            · have q := (hc.zero _ _).1 e2
              subst q
              rw [if_neg e1]; exact h1
            · rw [if_neg e2] at h2
              have := hc.lt (x := x) (by omega) h2
              rw [if_neg (by omega)]; omega

theorem less_irrefl (x : List UInt8) : Op.bytesLess x x = false := by
  induction x with
  | nil => rfl
  | cons a x ih =>
    rw [Op.bytesLess, ih]
    simp
theorem less_trans : ∀ {x y z : List UInt8}, Op.bytesLess x y = true → Op.bytesLess y z = true → Op.bytesLess x z = true
  | _, [], _, h, _ => by cases ‹List UInt8› <;> simp [Op.bytesLess] at h
  | _, _ :: _, [], _, h => by simp [Op.bytesLess] at h
  | [], _ :: _, _ :: _, _, _ => rfl
  | a :: x, b :: y, c :: z, h1, h2 => by
    simp only [Op.bytesLess, Bool.or_eq_true, Bool.and_eq_true, decide_eq_true_eq, beq_iff_eq] at h1 h2 ⊢
    rcases h1 with h1 | ⟨rfl, h1⟩
    · rcases h2 with h2 | ⟨rfl, h2⟩
      · exact Or.inl (UInt8.lt_trans h1 h2)
      · exact Or.inl h1
    · rcases h2 with h2 | ⟨rfl, h2⟩
      · exact Or.inl h2
      · exact Or.inr ⟨rfl, less_trans h1 h2⟩
theorem less_tri : ∀ (x y : List UInt8), Op.bytesLess x y = true ∨ x = y ∨ Op.bytesLess y x = true
  | [], [] => Or.inr (Or.inl rfl)
  | [], _ :: _ => Or.inl rfl
  | _ :: _, [] => Or.inr (Or.inr rfl)
  | a :: x, b :: y => by
    simp only [Op.bytesLess, Bool.or_eq_true, Bool.and_eq_true, decide_eq_true_eq, beq_iff_eq, List.cons.injEq]
    have tri : a < b ∨ a = b ∨ b < a := by
      rcases Nat.lt_trichotomy a.toNat b.toNat with h | h | h
      · exact Or.inl (UInt8.lt_iff_toNat_lt.2 h)
      · exact Or.inr (Or.inl (UInt8.toNat_inj.1 h))
      · exact Or.inr (Or.inr (UInt8.lt_iff_toNat_lt.2 h))
    rcases tri with h | rfl | h
    · exact Or.inl (Or.inl h)
    · rcases less_tri x y with h | h | h
      · exact Or.inl (Or.inr ⟨rfl, h⟩)
      · exact Or.inr (Or.inl ⟨rfl, h⟩)
      · exact Or.inr (Or.inr (Or.inr ⟨rfl, h⟩))
    · exact Or.inr (Or.inr (Or.inl h))
theorem less_asymm {x y : List UInt8} (h : Op.bytesLess x y = true) : Op.bytesLess y x = false := by
  cases e : Op.bytesLess y x with
  | false => rfl
  | true => have := less_trans h e; rw [less_irrefl] at this; cases this
/-- Which of two texts comes first. -/
def cmpT (a b : ByteArray) : Int := if Op.bytesLess a.toList b.toList then -1 else if Op.bytesLess b.toList a.toList then 1 else 0
theorem cmpT_is : IsCmp cmpT := by
  refine ⟨fun x y => ?_, fun x y => ?_, fun x y z h1 h2 => ?_⟩
  · unfold cmpT
    rcases less_tri x.toList y.toList with h | h | h
    · rw [if_pos h]
      exact ⟨fun e => absurd e (by decide), fun e => by rw [e, less_irrefl] at h; cases h⟩
    · rw [ba_ext h, if_neg (by rw [less_irrefl]; decide), if_neg (by rw [less_irrefl]; decide)]
      simp
    · rw [if_neg (by rw [less_asymm h]; decide), if_pos h]
      exact ⟨fun e => absurd e (by decide), fun e => by rw [e, less_irrefl] at h; cases h⟩
  · unfold cmpT
    rcases less_tri x.toList y.toList with h | h | h
    · rw [if_pos h, if_neg (by rw [less_asymm h]; decide), if_pos h]; rfl
    · rw [ba_ext h, if_neg (by rw [less_irrefl]; decide), if_neg (by rw [less_irrefl]; decide)]; rfl
    · rw [if_pos h, if_neg (by rw [less_asymm h]; decide), if_pos h]
  · have one : ∀ a b : ByteArray, cmpT a b ≤ 0 → Op.bytesLess a.toList b.toList = true ∨ a = b := by
      intro a b h
      unfold cmpT at h
      rcases less_tri a.toList b.toList with e | e | e
      · exact Or.inl e
      · exact Or.inr (ba_ext e)
      · rw [if_neg (by rw [less_asymm e]; decide), if_pos e] at h
        omega
    have two : ∀ a b : ByteArray, Op.bytesLess a.toList b.toList = true → cmpT a b ≤ 0 := by
      intro a b h
      unfold cmpT
      rw [if_pos h]; decide
    rcases one _ _ h1 with e1 | rfl
    · rcases one _ _ h2 with e2 | rfl
      · exact two _ _ (less_trans e1 e2)
      · exact two _ _ e1
    · exact h2
theorem gtr_less (x y : List UInt8) : (!(Op.bytesLess x y || x == y)) = Op.bytesLess y x := by
  rcases less_tri x y with h | h | h
  · rw [h, less_asymm h]; rfl
  · subst h; rw [less_irrefl]; simp
  · rw [less_asymm h, h]
    have : (x == y) = false := beq_eq_false_iff_ne.2 (fun e => by rw [e, less_irrefl] at h; cases h)
    rw [this]; rfl
theorem cmpT_range (a b : ByteArray) : cmpT a b = -1 ∨ cmpT a b = 0 ∨ cmpT a b = 1 := by
  unfold cmpT
  split
  · exact Or.inl rfl
  · split
    · exact Or.inr (Or.inr rfl)
    · exact Or.inr (Or.inl rfl)
/-- Which of two sets comes first. -/
def cmpL (a b : List Lb) : Int := lexL (lexP cmpT cmpT) a b
theorem cmpL_is : IsCmp cmpL := (cmpT_is.pair cmpT_is).list

/-- May this byte stand in a name, at place i? -/
def nmC (i : Nat) (c : UInt8) : Bool := c == 95 || (decide (97 ≤ c) && decide (c ≤ 122)) || (decide (48 ≤ c) && decide (c ≤ 57) && decide (i ≠ 0))
def nmF : Nat → List UInt8 → Bool
  | _, [] => true
  | i, c :: t => nmC i c && nmF (i + 1) t
def nameB (s : ByteArray) : Bool := nmF 0 s.toList && (decide (1 ≤ s.size) && decide (s.size ≤ 32))
/-- One label that may be. -/
def lbB (x : Lb) : Bool := nameB x.1 && (decide (1 ≤ x.2.size) && decide (x.2.size ≤ 64))
/-- Labels that may be, each behind the one ahead. -/
def chkF : Option ByteArray → List Lb → Bool
  | _, [] => true
  | p, x :: t => (lbB x && (match p with | none => true | some q => Op.bytesLess q.toList x.1.toList)) && chkF (some x.1) t
def chkL (l : List Lb) : Bool := chkF none l && (decide (1 ≤ l.length) && decide (l.length ≤ 8))
def valL (l : List Lb) (n : ByteArray) : ByteArray := ((l.find? fun x => decide (x.1 = n)).map (·.2)).getD .empty

/-- One label more, behind those whose names are not behind it. -/
def insL (x : Lb) : List Lb → List Lb
  | [] => [x]
  | y :: t => if Op.bytesLess x.1.toList y.1.toList then x :: y :: t else y :: insL x t
def fulL (l : List Lb) : List Lb := l.filter fun x => decide (x.2 ≠ .empty)
def sortL (l : List Lb) : List Lb := l.foldl (fun m x => insL x m) []
def makeL (l : List Lb) : Option (List Lb) := if chkL (sortL (fulL l)) then some (sortL (fulL l)) else none
def notLess (x y : Lb) : Prop := Op.bytesLess y.1.toList x.1.toList = false
theorem insL_perm (x : Lb) (l : List Lb) : (insL x l).Perm (x :: l) := by
  induction l with
  | nil => exact List.Perm.refl _
  | cons y t ih =>
    rw [insL]
    split
    · exact List.Perm.refl _
    · exact (List.Perm.cons y ih).trans (List.Perm.swap x y t)
theorem sorts_perm (l m : List Lb) : (l.foldl (fun m x => insL x m) m).Perm (m ++ l) := by
  induction l generalizing m with
  | nil => rw [List.append_nil]; exact List.Perm.refl _
  | cons x t ih =>
    rw [List.foldl_cons]
    refine (ih _).trans ?_
    refine ((insL_perm x m).append_right t).trans ?_
    exact List.perm_middle.symm
theorem sortL_perm (l : List Lb) : (sortL l).Perm l := by
  have := sorts_perm l []
  rw [List.nil_append] at this
  exact this
theorem notLess_trans {x y z : Lb} (h1 : notLess x y) (h2 : notLess y z) : notLess x z := by
  unfold notLess at *
  cases e : Op.bytesLess z.1.toList x.1.toList with
  | false => rfl
  | true =>
    rcases less_tri x.1.toList y.1.toList with h | h | h
    · have := less_trans e h; rw [h2] at this; cases this
    · rw [h, h2] at e; cases e
    · rw [h1] at h; cases h
theorem insL_sorted {x : Lb} {l : List Lb} (h : l.Pairwise notLess) : (insL x l).Pairwise notLess := by
  induction l with
  | nil => exact List.pairwise_singleton _ _
  | cons y t ih =>
    have h1 := List.pairwise_cons.1 h
    rw [insL]
    split
    · rename_i e
      refine List.pairwise_cons.2 ⟨fun z hz => ?_, h⟩
      have hxy : notLess x y := less_asymm e
      rcases List.mem_cons.1 hz with rfl | hz
      · exact hxy
      · exact notLess_trans hxy (h1.1 z hz)
    · rename_i e
      refine List.pairwise_cons.2 ⟨fun z hz => ?_, ih h1.2⟩
      rcases List.mem_cons.1 ((insL_perm x t).mem_iff.1 hz) with rfl | hz
      · unfold notLess; simpa using e
      · exact h1.1 z hz
theorem sorts_sorted (l m : List Lb) (h : m.Pairwise notLess) : (l.foldl (fun m x => insL x m) m).Pairwise notLess := by
  induction l generalizing m with
  | nil => exact h
  | cons x t ih => exact ih _ (insL_sorted h)
theorem sortL_sorted (l : List Lb) : (sortL l).Pairwise notLess := sorts_sorted l [] List.Pairwise.nil
def less (x y : Lb) : Prop := Op.bytesLess x.1.toList y.1.toList = true
theorem chkF_less : ∀ {p : Option ByteArray} {l : List Lb}, chkF p l = true → l.Pairwise less ∧ ∀ q, p = some q → ∀ x ∈ l, Op.bytesLess q.toList x.1.toList = true
  | _, [], _ => ⟨List.Pairwise.nil, fun _ _ x hx => by cases hx⟩
  | p, x :: t, h => by
    simp only [chkF, Bool.and_eq_true] at h
    obtain ⟨h1, h2⟩ := chkF_less h.2
    refine ⟨List.pairwise_cons.2 ⟨fun y hy => h2 x.1 rfl y hy, h1⟩, fun q hq y hy => ?_⟩
    subst hq
    have h3 : Op.bytesLess q.toList x.1.toList = true := h.1.2
    rcases List.mem_cons.1 hy with rfl | hy
    · exact h3
    · exact less_trans h3 (h2 x.1 rfl y hy)
theorem chkL_less {l : List Lb} (h : chkL l = true) : l.Pairwise less := by
  unfold chkL at h
  simp only [Bool.and_eq_true] at h
  exact (chkF_less h.1).1
/-- Two labels of a set that have one name are one. -/
theorem pair_one : ∀ {l : List Lb}, l.Pairwise less → ∀ {x y : Lb}, x ∈ l → y ∈ l → x.1 = y.1 → x = y
  | [], _, _, _, hx, _, _ => by cases hx
  | z :: t, h, x, y, hx, hy, e => by
    have h1 := List.pairwise_cons.1 h
    rcases List.mem_cons.1 hx with rfl | hx'
    · rcases List.mem_cons.1 hy with rfl | hy'
      · rfl
      · have := h1.1 y hy'; unfold less at this; rw [e, less_irrefl] at this; cases this
    · rcases List.mem_cons.1 hy with rfl | hy'
      · have := h1.1 x hx'; unfold less at this; rw [e, less_irrefl] at this; cases this
      · exact pair_one h1.2 hx' hy' e
/-- Labels in another order come to the same set, if they come to one. -/
theorem sortL_turn {l m : List Lb} (hp : l.Perm m) (h : chkL (sortL l) = true) : sortL m = sortL l := by
  have h1 := chkL_less h
  have p : (sortL m).Perm (sortL l) := (sortL_perm m).trans (hp.symm.trans (sortL_perm l).symm)
  refine p.eq_of_pairwise (le := notLess) ?_ (sortL_sorted m) (sortL_sorted l)
  intro x y hx hy e1 e2
  have q : x.1 = y.1 := by
    rcases less_tri x.1.toList y.1.toList with e | e | e
    · unfold notLess at e2; rw [e] at e2; cases e2
    · exact ba_ext e
    · unfold notLess at e1; rw [e] at e1; cases e1
  exact pair_one h1 (p.mem_iff.1 hx) hy q
theorem makeL_turn {l m : List Lb} (hp : (fulL l).Perm (fulL m)) : makeL l = makeL m := by
  unfold makeL
  cases h : chkL (sortL (fulL l)) with
  | true => rw [if_pos rfl, sortL_turn hp h, h, if_pos rfl]
  | false =>
    cases h2 : chkL (sortL (fulL m)) with
    | false => rfl
    | true =>
      have := sortL_turn hp.symm h2
      rw [this, h2] at h
      cases h
/-- Turned round, with an empty one behind. -/
theorem makeL_round (l : List Lb) (k : Nat) (n : ByteArray) : makeL (l.drop k ++ l.take k ++ [(n, .empty)]) = makeL l := by
  refine makeL_turn ?_
  unfold fulL
  rw [List.filter_append, List.filter_append]
  have e : ([(n, ByteArray.empty)] : List Lb).filter (fun x => decide (x.2 ≠ .empty)) = [] := by simp
  rw [e, List.append_nil, ← List.filter_append]
  exact (List.perm_append_comm.trans (List.Perm.of_eq (List.take_append_drop k l))).filter _
theorem valL_some {l : List Lb} (h : l.Pairwise less) {x : Lb} (hx : x ∈ l) : valL l x.1 = x.2 := by
  unfold valL
  cases e : l.find? (fun y => decide (y.1 = x.1)) with
  | none =>
    have := List.find?_eq_none.1 e x hx
    simp at this
  | some y =>
    have h1 := List.find?_some e
    have h2 := List.mem_of_find?_eq_some e
    rw [pair_one h h2 hx (by simpa using h1)]
    rfl
theorem valL_none {l : List Lb} {n : ByteArray} (h : ∀ x ∈ l, x.1 ≠ n) : valL l n = .empty := by
  unfold valL
  rw [List.find?_eq_none.2 (fun x hx => by simpa using h x hx)]
  rfl
end Go.Proofs.YtpffhpnmbpjifaaGreat

namespace Go.Proofs.YtpffhpnmbpjifaaGreat

def hxD (k : Nat) : UInt8 := if k < 10 then UInt8.ofNat (48 + k) else UInt8.ofNat (87 + k)
def hexv (c : UInt8) : Option Nat := if 48 ≤ c ∧ c ≤ 57 then some (c.toNat - 48) else if 97 ≤ c ∧ c ≤ 102 then some (c.toNat - 87) else none
/-- A byte as it is written in a value. -/
def qb (c : UInt8) : List UInt8 := if c = 34 ∨ c = 92 then [92, c] else if c < 32 ∨ 127 ≤ c then [92, 120, hxD (c.toNat / 16), hxD (c.toNat % 16)] else [c]
def quoB (v : List UInt8) : List UInt8 := 34 :: (v.flatMap qb ++ [34])
def labB (x : Lb) : List UInt8 := x.1.toList ++ (61 :: quoB x.2.toList)
def restB : List Lb → List UInt8
  | [] => []
  | x :: t => 44 :: (labB x ++ restB t)
def textB : List Lb → List UInt8
  | [] => []
  | x :: t => labB x ++ restB t
def textL (l : List Lb) : ByteArray := ⟨(textB l).toArray⟩
theorem textL_list (l : List Lb) : (textL l).toList = textB l := by unfold textL; exact ByteArray.toList_mk _
theorem restB_append (l m : List Lb) : restB (l ++ m) = restB l ++ restB m := by
  induction l with
  | nil => rfl
  | cons x t ih => rw [List.cons_append, restB, restB, ih, List.cons_append, List.append_assoc]
theorem textB_snoc {l : List Lb} (h : l ≠ []) (x : Lb) : textB (l ++ [x]) = textB l ++ (44 :: labB x) := by
  cases l with
  | nil => exact absurd rfl h
  | cons y t =>
    rw [List.cons_append, textB, textB, restB_append, List.append_assoc]
    simp [restB]

/-- A value is read, behind its first sign. -/
def unqB : List UInt8 → Option (List UInt8 × List UInt8)
  | [] => none
  | c :: r => if c = 34 then some ([], r) else if c ≠ 92 then (unqB r).map (fun q => (c :: q.1, q.2)) else
    match r with
    | [] => none
    | d :: r2 => if d ≠ 120 then (unqB r2).map (fun q => (d :: q.1, q.2)) else
      match r2 with
      | a :: b :: r3 => match hexv a, hexv b with
        | some h, some l => (unqB r3).map (fun q => (UInt8.ofNat (h * 16 + l) :: q.1, q.2))
        | _, _ => none
      | _ => none
theorem hex_back (k : Nat) (h : k < 16) : hexv (hxD k) = some k := by
  have : ∀ k, k < 16 → hexv (hxD k) = some k := by decide
  exact this k h
theorem unq_plain {c : UInt8} (h1 : c ≠ 34) (h2 : c ≠ 92) (r : List UInt8) : unqB (c :: r) = (unqB r).map (fun q => (c :: q.1, q.2)) := by
  rw [unqB.eq_def]
  simp only
  rw [if_neg h1, if_pos h2]
theorem unq_end (r : List UInt8) : unqB (34 :: r) = some ([], r) := by
  rw [unqB.eq_def]
  rfl
theorem unq_esc {d : UInt8} (h : d ≠ 120) (r : List UInt8) : unqB (92 :: d :: r) = (unqB r).map (fun q => (d :: q.1, q.2)) := by
  rw [unqB.eq_def]
  simp only
  rw [if_neg (by decide), if_neg (by decide), if_pos h]
theorem unq_hex {a b : UInt8} {h l : Nat} (ha : hexv a = some h) (hb : hexv b = some l) (r : List UInt8) : unqB (92 :: 120 :: a :: b :: r) = (unqB r).map (fun q => (UInt8.ofNat (h * 16 + l) :: q.1, q.2)) := by
  rw [unqB.eq_def]
  simp only
  rw [if_neg (by decide), if_neg (by decide), if_neg (by decide), ha, hb]
theorem unq_byte (c : UInt8) (s : List UInt8) : unqB (qb c ++ s) = (unqB s).map (fun q => (c :: q.1, q.2)) := by
  unfold qb
  by_cases h1 : c = 34 ∨ c = 92
  · rw [if_pos h1]
    exact unq_esc (by rcases h1 with rfl | rfl <;> decide) s
  · rw [if_neg h1]
    by_cases h2 : c < 32 ∨ 127 ≤ c
    · rw [if_pos h2]
      have hc := c.toNat_lt
      show unqB (92 :: 120 :: hxD (c.toNat / 16) :: hxD (c.toNat % 16) :: s) = _
      rw [unq_hex (hex_back _ (by omega)) (hex_back _ (by omega))]
      have e : UInt8.ofNat (c.toNat / 16 * 16 + c.toNat % 16) = c := by
        rw [show c.toNat / 16 * 16 + c.toNat % 16 = c.toNat by omega]
        exact UInt8.ofNat_toNat
      rw [e]
    · rw [if_neg h2]
      exact unq_plain (fun e => h1 (Or.inl e)) (fun e => h1 (Or.inr e)) s
theorem unq_back (v r : List UInt8) : unqB (v.flatMap qb ++ 34 :: r) = some (v, r) := by
  induction v with
  | nil => rw [List.flatMap_nil, List.nil_append, unq_end]
  | cons c t ih =>
    rw [List.flatMap_cons, List.append_assoc, unq_byte, ih]
    rfl

def nmS (c : UInt8) : Bool := c == 95 || (decide (97 ≤ c) && decide (c ≤ 122)) || (decide (48 ≤ c) && decide (c ≤ 57))
theorem nmC_S {i : Nat} {c : UInt8} (h : nmC i c = true) : nmS c = true := by
  unfold nmC at h
  unfold nmS
  simp only [Bool.or_eq_true, Bool.and_eq_true] at h ⊢
  rcases h with h | h
  · exact Or.inl h
  · exact Or.inr h.1
theorem nmF_all : ∀ {i : Nat} {l : List UInt8}, nmF i l = true → ∀ c ∈ l, nmS c = true
  | _, [], _, c, hc => by cases hc
  | i, x :: t, h, c, hc => by
    simp only [nmF, Bool.and_eq_true] at h
    rcases List.mem_cons.1 hc with rfl | hc
    · exact nmC_S h.1
    · exact nmF_all h.2 c hc
/-- A label is read: a name's bytes, '=', a value in its signs. -/
def labR (s : List UInt8) : Option (Lb × List UInt8) :=
  match s.dropWhile nmS with
  | e :: q :: r => if e = 61 ∧ q = 34 then (unqB r).map (fun z => ((⟨(s.takeWhile nmS).toArray⟩, ⟨z.1.toArray⟩), z.2)) else none
  | _ => none
theorem span_name {n : List UInt8} (h : ∀ c ∈ n, nmS c = true) (r : List UInt8) : (n ++ 61 :: r).takeWhile nmS = n ∧ (n ++ 61 :: r).dropWhile nmS = 61 :: r := by
  induction n with
  | nil => exact ⟨rfl, rfl⟩
  | cons c t ih =>
    have hc := h c (List.mem_cons_self ..)
    obtain ⟨h1, h2⟩ := ih (fun x hx => h x (List.mem_cons_of_mem _ hx))
    exact ⟨by rw [List.cons_append, List.takeWhile_cons, if_pos hc, h1], by rw [List.cons_append, List.dropWhile_cons, if_pos hc, h2]⟩
theorem ba_mk (a : ByteArray) : (⟨a.toList.toArray⟩ : ByteArray) = a := ba_ext (ByteArray.toList_mk _)
theorem labR_back {x : Lb} (h : ∀ c ∈ x.1.toList, nmS c = true) (r : List UInt8) : labR (labB x ++ r) = some (x, r) := by
  have e : labB x ++ r = x.1.toList ++ 61 :: (34 :: (x.2.toList.flatMap qb ++ 34 :: r)) := by
    unfold labB quoB
    simp [List.append_assoc]
  unfold labR
  rw [e]
  obtain ⟨h1, h2⟩ := span_name h (34 :: (x.2.toList.flatMap qb ++ 34 :: r))
  rw [h1, h2]
  simp only
  rw [if_pos (by simp), unq_back]
  simp only [Option.map_some, ba_mk]
/-- Up to k labels are read, commas between them. -/
def parB : Nat → List UInt8 → Option (List Lb)
  | 0, _ => none
  | k + 1, s => match labR s with
    | none => none
    | some (x, []) => some [x]
    | some (x, c :: r) => if c = 44 then (parB k r).map (x :: ·) else none
theorem parB_back : ∀ (k : Nat) (l : List Lb), l ≠ [] → l.length ≤ k → (∀ x ∈ l, ∀ c ∈ x.1.toList, nmS c = true) → parB k (textB l) = some l
  | _, [], h, _, _ => absurd rfl h
  | 0, x :: t, _, h, _ => by simp at h
  | k + 1, x :: t, _, hl, hn => by
    rw [textB, parB, labR_back (hn x (List.mem_cons_self ..))]
    cases t with
    | nil => rfl
    | cons y u =>
      simp only [restB]
      rw [if_pos (by simp)]
      have ih := parB_back k (y :: u) (by simp) (by simpa using hl) (fun z hz => hn z (List.mem_cons_of_mem _ hz))
      rw [textB] at ih
      rw [ih]
      rfl
theorem chkF_names : ∀ {p : Option ByteArray} {l : List Lb}, chkF p l = true → ∀ x ∈ l, lbB x = true
  | _, [], _, x, hx => by cases hx
  | p, y :: t, h, x, hx => by
    simp only [chkF, Bool.and_eq_true] at h
    rcases List.mem_cons.1 hx with rfl | hx
    · exact h.1.1
    · exact chkF_names h.2 x hx
theorem chkL_parts {l : List Lb} (h : chkL l = true) : 1 ≤ l.length ∧ l.length ≤ 8 ∧ ∀ x ∈ l, nameB x.1 = true ∧ 1 ≤ x.2.size ∧ x.2.size ≤ 64 := by
  unfold chkL at h
  simp only [Bool.and_eq_true, decide_eq_true_eq] at h
  refine ⟨h.2.1, h.2.2, fun x hx => ?_⟩
  have := chkF_names h.1 x hx
  unfold lbB at this
  simpa only [Bool.and_eq_true, decide_eq_true_eq] using this
theorem chkL_bytes {l : List Lb} (h : chkL l = true) : ∀ x ∈ l, ∀ c ∈ x.1.toList, nmS c = true := by
  intro x hx
  have := ((chkL_parts h).2.2 x hx).1
  unfold nameB at this
  simp only [Bool.and_eq_true] at this
  exact nmF_all this.1
theorem par_text {l : List Lb} (h : chkL l = true) : parB 9 (textB l) = some l := by
  have h1 := chkL_parts h
  exact parB_back 9 l (fun e => by subst e; simp at h1) (by omega) (chkL_bytes h)
/-- No two sets have one text. -/
theorem text_inj {l m : List Lb} (hl : chkL l = true) (hm : chkL m = true) (h : textL l = textL m) : l = m := by
  have e := congrArg ByteArray.toList h
  rw [textL_list, textL_list] at e
  have h1 := par_text hl
  rw [e, par_text hm] at h1
  simpa using h1.symm
/-- The set whose text it is. -/
def parseL (s : ByteArray) : Option (List Lb) :=
  match parB 9 s.toList with
  | none => none
  | some l => if chkL l = true ∧ textL l = s then some l else none
theorem parseL_iff {s : ByteArray} {l : List Lb} : parseL s = some l ↔ chkL l = true ∧ textL l = s := by
  unfold parseL
  constructor
  · intro h
    cases e : parB 9 s.toList with
    | none => rw [e] at h; cases h
    | some m =>
      rw [e] at h
      simp only at h
      split at h
      · rename_i hm
        simp only [Option.some.injEq] at h
        subst h
        exact hm
      · cases h
  · rintro ⟨h1, rfl⟩
    rw [textL_list, par_text h1]
    simp only
    rw [if_pos (by simp [h1])]
end Go.Proofs.YtpffhpnmbpjifaaGreat

namespace Go.Proofs.YtpffhpnmbpjifaaGreat

def plainB (c : UInt8) : Bool := decide (32 ≤ c) && decide (c < 127)
/-- The byte that an escape stands for, and how many bytes the escape has. -/
def escX (d : UInt8) (r : List UInt8) : Option (UInt8 × Nat) :=
  if d = 34 ∨ d = 92 then some (d, 2) else
  match r with
  | a :: b :: _ => if d = 120 then
      match hexv a, hexv b with
      | some h, some l => if plainB (UInt8.ofNat (h * 16 + l)) then none else some (UInt8.ofNat (h * 16 + l), 4)
      | _, _ => none
    else none
  | _ => none
def escB : List UInt8 → Option (UInt8 × Nat)
  | _ :: d :: r => escX d r
  | _ => none
theorem hexv_fwd {c : UInt8} {h : Nat} (e : hexv c = some h) : hxD h = c ∧ h < 16 := by
  have key : ∀ n, n < 256 → ∀ h, h < 16 → hexv (UInt8.ofNat n) = some h → hxD h = UInt8.ofNat n := by decide +kernel
  have h16 : h < 16 := by
    unfold hexv at e
    split at e
    · rename_i hc
      simp only [Option.some.injEq] at e
      have h1 : 48 ≤ c.toNat := hc.1
      have h2 : c.toNat ≤ 57 := hc.2
      omega
    · split at e
      · rename_i hc
        simp only [Option.some.injEq] at e
        have h1 : 97 ≤ c.toNat := hc.1
        have h2 : c.toNat ≤ 102 := hc.2
        omega
      · cases e
  have h1 := key c.toNat c.toNat_lt h h16
  rw [UInt8.ofNat_toNat] at h1
  exact ⟨h1 e, h16⟩
theorem plainB_iff (c : UInt8) : plainB c = true ↔ ¬ (c < 32 ∨ 127 ≤ c) := by
  unfold plainB
  simp only [Bool.and_eq_true, decide_eq_true_eq, UInt8.le_iff_toNat_le, UInt8.lt_iff_toNat_lt]
  omega
theorem plainB_num (c : UInt8) : plainB c = true ↔ (32 ≤ c.toNat ∧ c.toNat < 127) := by
  unfold plainB
  simp only [Bool.and_eq_true, decide_eq_true_eq, UInt8.le_iff_toNat_le, UInt8.lt_iff_toNat_lt]
  exact Iff.rfl
theorem qb_plain {c : UInt8} (h1 : c ≠ 34) (h2 : c ≠ 92) (h3 : plainB c = true) : qb c = [c] := by
  unfold qb
  rw [if_neg (by simp [h1, h2]), if_neg ((plainB_iff c).1 h3)]
theorem escB_fwd {s : List UInt8} {b : UInt8} {k : Nat} (h : escB (92 :: s) = some (b, k)) : 92 :: s = qb b ++ (92 :: s).drop k ∧ (k = 2 ∨ k = 4) ∧ k ≤ (92 :: s).length := by
  cases s with
  | nil => simp [escB] at h
  | cons d r =>
    rw [escB] at h
    unfold escX at h
    by_cases hd : d = 34 ∨ d = 92
    · rw [if_pos hd] at h
      simp only [Option.some.injEq, Prod.mk.injEq] at h
      obtain ⟨rfl, rfl⟩ := h
      refine ⟨?_, Or.inl rfl, by simp⟩
      unfold qb
      rw [if_pos hd]
      rfl
    · rw [if_neg hd] at h
      match r, h with
      | [], h => cases h
      | [_], h => cases h
      | x :: y :: t, h =>
        simp only at h
        by_cases hx : d = 120
        · rw [if_pos hx] at h
          cases ex : hexv x with
          | none => rw [ex] at h; cases h
          | some p =>
            cases ey : hexv y with
            | none => rw [ex, ey] at h; cases h
            | some q =>
              rw [ex, ey] at h
              simp only at h
              obtain ⟨hp, hp16⟩ := hexv_fwd ex
              obtain ⟨hq, hq16⟩ := hexv_fwd ey
              cases hpl : plainB (UInt8.ofNat (p * 16 + q)) with
              | true => rw [hpl] at h; cases h
              | false =>
                rw [hpl] at h
                simp only [Bool.false_eq_true, if_false, Option.some.injEq, Prod.mk.injEq] at h
                obtain ⟨rfl, rfl⟩ := h
                refine ⟨?_, Or.inr rfl, by simp⟩
                have hn : (UInt8.ofNat (p * 16 + q)).toNat = p * 16 + q := by
                  rw [UInt8.toNat_ofNat']; omega
                have hw : UInt8.ofNat (p * 16 + q) < 32 ∨ 127 ≤ UInt8.ofNat (p * 16 + q) := by
                  have := (plainB_iff (UInt8.ofNat (p * 16 + q))).2
                  rw [hpl] at this
                  exact Classical.byContradiction fun e => by cases this e
                have hne : ¬ (UInt8.ofNat (p * 16 + q) = 34 ∨ UInt8.ofNat (p * 16 + q) = 92) := by
                  rintro (e | e) <;> rw [e] at hpl <;> revert hpl <;> decide
                unfold qb
                rw [if_neg hne, if_pos hw, hn, show (p * 16 + q) / 16 = p by omega, show (p * 16 + q) % 16 = q by omega, hp, hq, hx]
                rfl
        · rw [if_neg hx] at h
          cases h
theorem escB_back (b : UInt8) (r : List UInt8) (h : plainB b = true → b = 34 ∨ b = 92) : (∃ t, qb b = 92 :: t) ∧ escB (qb b ++ r) = some (b, (qb b).length) := by
  unfold qb
  by_cases h1 : b = 34 ∨ b = 92
  · rw [if_pos h1]
    refine ⟨⟨_, rfl⟩, ?_⟩
    rw [List.cons_append, List.cons_append, escB]
    unfold escX
    rw [if_pos h1]
    rfl
  · rw [if_neg h1]
    have hp : plainB b = false := by
      cases e : plainB b with
      | false => rfl
      | true => exact absurd (h e) h1
    have h2 : b < 32 ∨ 127 ≤ b := Classical.byContradiction fun e => by rw [(plainB_iff b).2 e] at hp; cases hp
    rw [if_pos h2]
    refine ⟨⟨_, rfl⟩, ?_⟩
    have hc := b.toNat_lt
    have e : UInt8.ofNat (b.toNat / 16 * 16 + b.toNat % 16) = b := by
      rw [show b.toNat / 16 * 16 + b.toNat % 16 = b.toNat by omega]
      exact UInt8.ofNat_toNat
    show escB (92 :: 120 :: hxD (b.toNat / 16) :: hxD (b.toNat % 16) :: r) = _
    rw [escB]
    unfold escX
    rw [if_neg (by decide)]
    simp only [hex_back (b.toNat / 16) (by omega), hex_back (b.toNat % 16) (by omega), if_true, e, hp, Bool.false_eq_true, if_false]
    rfl

/-- A value is read, behind its first sign: what is written alone; f: how many bytes at most. -/
def uqF : Nat → List UInt8 → Option (List UInt8 × List UInt8)
  | 0, _ => none
  | _ + 1, [] => none
  | f + 1, c :: r => if c = 34 then some ([], r) else if c = 92 then
      match escB (c :: r) with
      | none => none
      | some (b, k) => (uqF f ((c :: r).drop k)).map (fun q => (b :: q.1, q.2))
    else if plainB c then (uqF f r).map (fun q => (c :: q.1, q.2)) else none
/-- A value in its signs. -/
def unqO (l : List UInt8) : Option (List UInt8 × List UInt8) := match l with
  | c :: r => if c = 34 then uqF r.length r else none
  | [] => none
theorem uqF_fwd : ∀ {f : Nat} {s v r : List UInt8}, uqF f s = some (v, r) → s = v.flatMap qb ++ 34 :: r
  | 0, _, _, _, h => by cases h
  | _ + 1, [], _, _, h => by cases h
  | f + 1, c :: t, v, r, h => by
    rw [uqF] at h
    by_cases h1 : c = 34
    · rw [if_pos h1] at h
      simp only [Option.some.injEq, Prod.mk.injEq] at h
      obtain ⟨rfl, rfl⟩ := h
      rw [h1]; rfl
    · rw [if_neg h1] at h
      by_cases h2 : c = 92
      · rw [if_pos h2] at h
        subst h2
        cases e : escB (92 :: t) with
        | none => rw [e] at h; cases h
        | some q =>
          obtain ⟨b, k⟩ := q
          rw [e] at h
          simp only [Option.map_eq_some_iff] at h
          obtain ⟨⟨v1, r1⟩, h3, h4⟩ := h
          simp only [Prod.mk.injEq] at h4
          obtain ⟨rfl, rfl⟩ := h4
          have h5 := uqF_fwd h3
          rw [(escB_fwd e).1, List.flatMap_cons, List.append_assoc, ← h5]
      · rw [if_neg h2] at h
        cases hp : plainB c with
        | false => rw [hp] at h; cases h
        | true =>
          rw [hp] at h
          simp only [if_true, Option.map_eq_some_iff] at h
          obtain ⟨⟨v1, r1⟩, h3, h4⟩ := h
          simp only [Prod.mk.injEq] at h4
          obtain ⟨rfl, rfl⟩ := h4
          have h5 := uqF_fwd h3
          rw [List.flatMap_cons, qb_plain h1 h2 hp, List.append_assoc, ← h5]
          rfl
theorem uqF_back : ∀ (f : Nat) (v r : List UInt8), (v.flatMap qb).length < f → uqF f (v.flatMap qb ++ 34 :: r) = some (v, r)
  | 0, _, _, h => by omega
  | f + 1, [], r, _ => by
    rw [List.flatMap_nil, List.nil_append, uqF, if_pos rfl]
  | f + 1, b :: v, r, h => by
    rw [List.flatMap_cons, List.length_append] at h
    rw [List.flatMap_cons, List.append_assoc]
    by_cases hb : plainB b = true → b = 34 ∨ b = 92
    · obtain ⟨⟨t, ht⟩, he⟩ := escB_back b (v.flatMap qb ++ 34 :: r) hb
      have hl : (qb b).length = t.length + 1 := by rw [ht]; rfl
      have hd : ((qb b) ++ (v.flatMap qb ++ 34 :: r)).drop (qb b).length = v.flatMap qb ++ 34 :: r := List.drop_left
      have ih := uqF_back f v r (by omega)
      rw [ht] at he hd ⊢
      rw [List.cons_append] at he hd ⊢
      rw [uqF, if_neg (by decide), if_pos rfl, he]
      simp only [hd, ih]
      rfl
    · have hp : plainB b = true ∧ ¬ (b = 34 ∨ b = 92) := by
        constructor
        · cases e : plainB b with
          | true => rfl
          | false => exact absurd (fun h => by rw [e] at h; cases h) hb
        · exact fun e => hb (fun _ => e)
      have h1 : b ≠ 34 := fun e => hp.2 (Or.inl e)
      have h2 : b ≠ 92 := fun e => hp.2 (Or.inr e)
      rw [qb_plain h1 h2 hp.1] at h ⊢
      simp only [List.length_cons, List.length_nil] at h
      have ih := uqF_back f v r (by omega)
      rw [List.cons_append, List.nil_append, uqF, if_neg h1, if_neg h2, if_pos hp.1, ih]
      rfl
theorem uqF_rest {f : Nat} {s v r : List UInt8} (h : uqF f s = some (v, r)) : r.length < s.length ∧ s.drop (s.length - r.length) = r := by
  have e := uqF_fwd h
  have hl : s.length = (v.flatMap qb).length + 1 + r.length := by rw [e]; simp; omega
  refine ⟨by omega, ?_⟩
  rw [show s.length - r.length = (v.flatMap qb).length + 1 by omega, e]
  rw [← List.drop_drop, List.drop_left]
  rfl

def notEq (c : UInt8) : Bool := c != 61
/-- Up to k labels are read: a name up to the first '=', a value as it is written, commas between. -/
def splF : Nat → List UInt8 → Option (List Lb)
  | 0, _ => none
  | k + 1, s => match s.dropWhile notEq with
    | _ :: q :: r => if q = 34 then
        match uqF r.length r with
        | none => none
        | some (v, []) => some [(⟨(s.takeWhile notEq).toArray⟩, ⟨v.toArray⟩)]
        | some (v, c :: t) => if c = 44 then (splF k t).map ((⟨(s.takeWhile notEq).toArray⟩, ⟨v.toArray⟩) :: ·) else none
      else none
    | _ => none
theorem dropWhile_eq {s : List UInt8} {c : UInt8} {t : List UInt8} (h : s.dropWhile notEq = c :: t) : c = 61 ∧ s = s.takeWhile notEq ++ 61 :: t := by
  have h1 : notEq c = false := by
    have := List.head?_dropWhile_not notEq s
    rw [h] at this
    simpa using this
  have h2 : c = 61 := by
    unfold notEq at h1
    simpa using h1
  refine ⟨h2, ?_⟩
  rw [← h2, ← h, List.takeWhile_append_dropWhile]
theorem splF_fwd : ∀ {k : Nat} {s : List UInt8} {l : List Lb}, splF k s = some l → textB l = s ∧ l ≠ []
  | 0, _, _, h => by cases h
  | k + 1, s, l, h => by
    rw [splF] at h
    cases hd : s.dropWhile notEq with
    | nil => rw [hd] at h; cases h
    | cons c t =>
      cases t with
      | nil => rw [hd] at h; cases h
      | cons q r =>
        rw [hd] at h
        simp only at h
        obtain ⟨-, hs⟩ := dropWhile_eq hd
        by_cases hq : q = 34
        · subst hq
          rw [if_pos rfl] at h
          cases hu : uqF r.length r with
          | none => rw [hu] at h; cases h
          | some z =>
            obtain ⟨v, t⟩ := z
            have hr := uqF_fwd hu
            rw [hu] at h
            have lab : labB (⟨(s.takeWhile notEq).toArray⟩, ⟨v.toArray⟩) ++ t = s := by
              unfold labB quoB
              rw [ByteArray.toList_mk, ByteArray.toList_mk]
              conv => rhs; rw [hs, hr]
              simp [List.append_assoc]
            cases t with
            | nil =>
              simp only [Option.some.injEq] at h
              subst h
              refine ⟨?_, by simp⟩
              rw [textB, restB]
              exact lab
            | cons c t =>
              simp only at h
              by_cases hc : c = 44
              · rw [if_pos hc, Option.map_eq_some_iff] at h
                obtain ⟨m, hm, rfl⟩ := h
                obtain ⟨h1, h2⟩ := splF_fwd hm
                refine ⟨?_, by simp⟩
                subst hc
                cases m with
                | nil => exact absurd rfl h2
                | cons x u =>
                  rw [textB, restB]
                  rw [textB] at h1
                  rw [h1]
                  exact lab
              · rw [if_neg hc] at h; cases h
        · rw [if_neg hq] at h; cases h
theorem span_eq {n : List UInt8} (h : ∀ c ∈ n, notEq c = true) (r : List UInt8) : (n ++ 61 :: r).takeWhile notEq = n ∧ (n ++ 61 :: r).dropWhile notEq = 61 :: r := by
  induction n with
  | nil => exact ⟨rfl, rfl⟩
  | cons c t ih =>
    have hc := h c (List.mem_cons_self ..)
    obtain ⟨h1, h2⟩ := ih (fun x hx => h x (List.mem_cons_of_mem _ hx))
    exact ⟨by rw [List.cons_append, List.takeWhile_cons, if_pos hc, h1], by rw [List.cons_append, List.dropWhile_cons, if_pos hc, h2]⟩
theorem splF_back : ∀ (k : Nat) (l : List Lb), l ≠ [] → l.length ≤ k → (∀ x ∈ l, ∀ c ∈ x.1.toList, notEq c = true) → splF k (textB l) = some l
  | _, [], h, _, _ => absurd rfl h
  | 0, x :: t, _, h, _ => by simp at h
  | k + 1, x :: t, _, hl, hn => by
    have e : textB (x :: t) = x.1.toList ++ 61 :: (34 :: (x.2.toList.flatMap qb ++ 34 :: restB t)) := by
      rw [textB]
      unfold labB quoB
      simp [List.append_assoc]
    obtain ⟨h1, h2⟩ := span_eq (hn x (List.mem_cons_self ..)) (34 :: (x.2.toList.flatMap qb ++ 34 :: restB t))
    rw [← e] at h1 h2
    rw [splF, h1, h2]
    simp only [if_true]
    rw [uqF_back _ x.2.toList (restB t) (by rw [List.length_append, List.length_cons]; omega)]
    cases t with
    | nil => simp only [restB, ba_mk]
    | cons y u =>
      simp only [restB]
      rw [if_pos trivial]
      have ih := splF_back k (y :: u) (by simp) (by simpa using hl) (fun z hz => hn z (List.mem_cons_of_mem _ hz))
      rw [textB] at ih
      rw [ih]
      simp only [Option.map_some, ba_mk]
/-- What is read so, if it may be, is the set whose text it is. -/
theorem parseL_spl (s : ByteArray) : parseL s = match splF 8 s.toList with
    | none => none
    | some l => if chkL l then some l else none := by
  cases e : splF 8 s.toList with
  | none =>
    simp only
    cases h : parseL s with
    | none => rfl
    | some l =>
      obtain ⟨h1, h2⟩ := parseL_iff.1 h
      have h3 := chkL_parts h1
      have h4 := splF_back 8 l (fun z => by subst z; simp at h3) h3.2.1 (fun x hx c hc => by
        have h7 := chkL_bytes h1 x hx c hc
        cases q : notEq c with
        | true => rfl
        | false =>
          have q2 : c = 61 := by unfold notEq at q; simpa using q
          rw [q2] at h7
          exact absurd h7 (by decide))
      rw [← textL_list, h2, e] at h4
      cases h4
  | some l =>
    simp only
    have h1 := (splF_fwd e).1
    have h2 : textL l = s := ba_ext (by rw [textL_list, h1])
    cases hc : chkL l with
    | true => rw [if_pos rfl]; exact parseL_iff.2 ⟨hc, h2⟩
    | false =>
      rw [if_neg (by decide)]
      cases h : parseL s with
      | none => rfl
      | some m =>
        obtain ⟨h3, h4⟩ := parseL_iff.1 h
        have h5 := chkL_parts h3
        have h6 := splF_back 8 m (fun z => by subst z; simp at h5) h5.2.1 (fun x hx c hc => by
          have h7 := chkL_bytes h3 x hx c hc
          cases q : notEq c with
          | true => rfl
          | false =>
            have q2 : c = 61 := by unfold notEq at q; simpa using q
            rw [q2] at h7
            exact absurd h7 (by decide))
        rw [← textL_list, h4, e] at h6
        simp only [Option.some.injEq] at h6
        rw [h6, h3] at hc
        cases hc

/-- Labels in order of their names are the set, if they may be one. -/
theorem makeL_sorted {l d : List Lb} (hp : d.Perm (fulL l)) (hs : d.Pairwise notLess) : makeL l = if chkL d then some d else none := by
  have one : ∀ {x y : List Lb}, x.Perm y → x.Pairwise notLess → y.Pairwise notLess → chkL y = true → x = y := by
    intro x y p hx hy hc
    refine p.eq_of_pairwise (le := notLess) ?_ hx hy
    intro a b ha hb e1 e2
    have q : a.1 = b.1 := by
      rcases less_tri a.1.toList b.1.toList with e | e | e
      · unfold notLess at e2; rw [e] at e2; cases e2
      · exact ba_ext e
      · unfold notLess at e1; rw [e] at e1; cases e1
    exact pair_one (chkL_less hc) (p.mem_iff.1 ha) hb q
  have p2 : (sortL (fulL l)).Perm d := (sortL_perm _).trans hp.symm
  unfold makeL
  cases hc : chkL d with
  | true =>
    have := one p2 (sortL_sorted _) hs hc
    rw [this, hc]
  | false =>
    cases h2 : chkL (sortL (fulL l)) with
    | false => rfl
    | true =>
      have := one p2.symm hs (sortL_sorted _) h2
      rw [this, h2] at hc
      cases hc
end Go.Proofs.YtpffhpnmbpjifaaGreat

namespace Go.Proofs.YtpffhpnmbpjifaaGreat

/-- A matcher: its op, its name, its value, its values, its kids. -/
inductive Mt where
  | mk (op : Int) (nm vl : ByteArray) (vs : List ByteArray) (ks : List Mt)
namespace Mt
def op : Mt → Int | mk o _ _ _ _ => o
def nm : Mt → ByteArray | mk _ n _ _ _ => n
def vl : Mt → ByteArray | mk _ _ v _ _ => v
def vs : Mt → List ByteArray | mk _ _ _ s _ => s
def ks : Mt → List Mt | mk _ _ _ _ k => k
theorem eta (m : Mt) : m = mk m.op m.nm m.vl m.vs m.ks := by cases m; rfl
theorem ext {m n : Mt} (h1 : m.op = n.op) (h2 : m.nm = n.nm) (h3 : m.vl = n.vl) (h4 : m.vs = n.vs) (h5 : m.ks = n.ks) : m = n := by
  rw [eta m, eta n, h1, h2, h3, h4, h5]
theorem ks_lt {m k : Mt} (h : k ∈ m.ks) : SizeOf.sizeOf k < SizeOf.sizeOf m := by
  cases m with
  | mk o n v s t =>
    have := List.sizeOf_lt_of_mem (show k ∈ t from h)
    simp only [mk.sizeOf_spec]
    omega
/-- What holds of a matcher if it holds of its kids holds of all. -/
theorem ind {P : Mt → Prop} (h : ∀ m : Mt, (∀ k ∈ m.ks, P k) → P m) (m : Mt) : P m :=
  h m fun k _ => ind h k
termination_by SizeOf.sizeOf m
decreasing_by exact ks_lt ‹_›
end Mt
def zeroM : Mt := .mk 0 .empty .empty [] []

mutual
/-- So many parts are counted by it, if it is small; else none. -/
def tinyF : Mt → Nat → Nat → Option Nat
  | .mk _ nm vl vs ks, d, n => if 200 < n + 1 ∨ 11 < d ∨ 300 < nm.size ∨ 5000 < vl.size ∨ 40 < vs.length ∨ vs.any (fun v => decide (300 < v.size)) = true then none else tinyKs ks (d + 1) (n + 1)
def tinyKs : List Mt → Nat → Nat → Option Nat
  | [], _, n => some n
  | k :: ks, d, n => match tinyF k d n with
    | none => none
    | some n' => tinyKs ks d n'
end
def tinyM (m : Mt) : Bool := (tinyF m 0 0).isSome

def nmOkB (s : ByteArray) : Bool := nameB s
/-- Values that may be. -/
def risB : List ByteArray → Bool
  | [] => true
  | [v] => decide (v.size ≤ 64)
  | v :: v' :: t => decide (v.size ≤ 64) && Op.bytesLess v.toList v'.toList && risB (v' :: t)
def valsB (l : List ByteArray) : Bool := decide (1 ≤ l.length) && decide (l.length ≤ 16) && risB l
def sumB' (l : List ByteArray) : Nat := (l.map (·.size)).sum
/-- Has it nothing but what its op names, and is that as it may be (kids apart)? -/
def fitB (m : Mt) : Bool :=
  if m.op = 0 then decide (m.vl.size = 0) && decide (m.nm.size = 0) && decide (m.vs.length = 0) && decide (m.ks.length = 0)
  else if m.op = 1 ∨ m.op = 2 ∨ m.op = 3 then decide (m.vs.length = 0) && decide (m.ks.length = 0) && nameB m.nm && decide (m.vl.size ≤ 64)
  else if m.op = 4 then decide (m.vl.size = 0) && decide (m.ks.length = 0) && nameB m.nm && valsB m.vs
  else if m.op = 5 ∨ m.op = 6 ∨ m.op = 7 then decide (m.vl.size = 0) && decide (m.nm.size = 0) && decide (m.vs.length = 0) && (decide (m.op ≠ 7) || decide (m.ks.length = 1))
  else false
/-- The bytes of its own texts. -/
def ownT (m : Mt) : Nat := m.nm.size + m.vl.size + sumB' m.vs
mutual
/-- Parts and bytes counted so far, if it may be; else none. -/
def lookF : Mt → Nat → Nat → Nat → Option (Nat × Nat)
  | .mk op nm vl vs ks, d, n, b => if 64 < n + 1 ∨ 8 < d ∨ fitB (.mk op nm vl vs ks) = false ∨ 4096 < b + ownT (.mk op nm vl vs ks) then none else lookKs ks (d + 1) (n + 1) (b + ownT (.mk op nm vl vs ks))
def lookKs : List Mt → Nat → Nat → Nat → Option (Nat × Nat)
  | [], _, n, b => some (n, b)
  | k :: ks, d, n, b => match lookF k d n b with
    | none => none
    | some r => lookKs ks d r.1 r.2
end
def chkM (m : Mt) : Bool := (lookF m 1 0 0).isSome

mutual
/-- What it says of labels. -/
def evalM (l : List Lb) : Mt → Bool
  | .mk op nm vl vs ks =>
    if op = 0 then true
    else if op = 1 then decide (valL l nm = vl)
    else if op = 2 then decide (valL l nm ≠ vl)
    else if op = 3 then vl.toList.isPrefixOf (valL l nm).toList
    else if op = 4 then vs.any fun v => decide (v = valL l nm)
    else if op = 5 then allM l ks
    else if op = 6 then oneM l ks
    else if op = 7 then (match ks with
      | [] => false
      | k :: _ => !evalM l k)
    else false
def allM (l : List Lb) : List Mt → Bool
  | [] => true
  | k :: ks => evalM l k && allM l ks
def oneM (l : List Lb) : List Mt → Bool
  | [] => false
  | k :: ks => evalM l k || oneM l ks
end

/-- Texts with commas between. -/
def joinC : List (List UInt8) → List UInt8
  | [] => []
  | [x] => x
  | x :: y :: t => x ++ 44 :: joinC (y :: t)
mutual
/-- Its text. -/
def textM : Mt → List UInt8
  | .mk op nm vl vs ks =>
    if op = 0 then [42]
    else if op = 1 then nm.toList ++ 61 :: quoB vl.toList
    else if op = 2 then nm.toList ++ 33 :: 61 :: quoB vl.toList
    else if op = 3 then nm.toList ++ 94 :: 61 :: quoB vl.toList
    else if op = 4 then nm.toList ++ 64 :: 40 :: (joinC (vs.map fun v => quoB v.toList) ++ [41])
    else (if op = 6 then 124 else if op = 7 then 33 else 38) :: 40 :: (joinC (textKs ks) ++ [41])
def textKs : List Mt → List (List UInt8)
  | [] => []
  | k :: ks => textM k :: textKs ks
end

theorem tinyF_eq (m : Mt) (d n : Nat) : tinyF m d n = if 200 < n + 1 ∨ 11 < d ∨ 300 < m.nm.size ∨ 5000 < m.vl.size ∨ 40 < m.vs.length ∨ m.vs.any (fun v => decide (300 < v.size)) = true then none else tinyKs m.ks (d + 1) (n + 1) := by
  cases m; rw [tinyF]; rfl
theorem lookF_eq (m : Mt) (d n b : Nat) : lookF m d n b = if 64 < n + 1 ∨ 8 < d ∨ fitB m = false ∨ 4096 < b + ownT m then none else lookKs m.ks (d + 1) (n + 1) (b + ownT m) := by
  cases m; rw [lookF]; rfl
theorem tinyKs_append (ks : List Mt) (k : Mt) (d n : Nat) : tinyKs (ks ++ [k]) d n = (tinyKs ks d n).bind fun n' => tinyF k d n' := by
  induction ks generalizing n with
  | nil => simp only [List.nil_append, tinyKs, Option.bind_some]; cases tinyF k d n <;> rfl
  | cons x t ih =>
    rw [List.cons_append, tinyKs, tinyKs]
    cases tinyF x d n with
    | none => rfl
    | some n' => exact ih n'
theorem lookKs_append (ks : List Mt) (k : Mt) (d n b : Nat) : lookKs (ks ++ [k]) d n b = (lookKs ks d n b).bind fun r => lookF k d r.1 r.2 := by
  induction ks generalizing n b with
  | nil => simp only [List.nil_append, lookKs, Option.bind_some]; cases lookF k d n b <;> rfl
  | cons x t ih =>
    rw [List.cons_append, lookKs, lookKs]
    cases lookF x d n b with
    | none => rfl
    | some r => exact ih r.1 r.2
theorem tinyKs_none {ks t : List Mt} {d n : Nat} (h : tinyKs ks d n = none) : tinyKs (ks ++ t) d n = none := by
  induction ks generalizing n with
  | nil => simp [tinyKs] at h
  | cons x u ih =>
    rw [tinyKs] at h
    rw [List.cons_append, tinyKs]
    cases hx : tinyF x d n with
    | none => rfl
    | some n' => rw [hx] at h; exact ih h
theorem lookKs_none {ks t : List Mt} {d n b : Nat} (h : lookKs ks d n b = none) : lookKs (ks ++ t) d n b = none := by
  induction ks generalizing n b with
  | nil => simp [lookKs] at h
  | cons x u ih =>
    rw [lookKs] at h
    rw [List.cons_append, lookKs]
    cases hx : lookF x d n b with
    | none => rfl
    | some r => rw [hx] at h; exact ih h
/-- The kids' counts only grow. -/
theorem tiny_up (m : Mt) : ∀ d n n', tinyF m d n = some n' → n < n' := by
  refine Mt.ind (P := fun m => ∀ d n n', tinyF m d n = some n' → n < n') ?_ m
  intro m ih d n n' h
  rw [tinyF_eq] at h
  split at h
  · cases h
  · have : ∀ (ks : List Mt) (d n n' : Nat), (∀ k ∈ ks, ∀ d n n', tinyF k d n = some n' → n < n') → tinyKs ks d n = some n' → n ≤ n' := by
      intro ks
      induction ks with
      | nil => intro d n n' _ h; simp [tinyKs] at h; omega
      | cons x t iht =>
        intro d n n' hk h
        rw [tinyKs] at h
        cases hx : tinyF x d n with
        | none => rw [hx] at h; cases h
        | some y =>
          rw [hx] at h
          have h1 := hk x (by simp) d n y hx
          have h2 := iht d y n' (fun k hk' => hk k (by simp [hk'])) h
          omega
    have := this m.ks _ _ _ ih h
    omega
theorem allM_iff (l : List Lb) (ks : List Mt) : allM l ks = ks.all (evalM l) := by
  induction ks with
  | nil => rfl
  | cons x t ih => rw [allM, ih, List.all_cons]
theorem oneM_iff (l : List Lb) (ks : List Mt) : oneM l ks = ks.any (evalM l) := by
  induction ks with
  | nil => rfl
  | cons x t ih => rw [oneM, ih, List.any_cons]
theorem textKs_map (ks : List Mt) : textKs ks = ks.map textM := by
  induction ks with
  | nil => rfl
  | cons x t ih => rw [textKs, ih, List.map_cons]
end Go.Proofs.YtpffhpnmbpjifaaGreat

namespace Go.Proofs.YtpffhpnmbpjifaaGreat
set_option maxRecDepth 20000

/-- The longest name, of at most 32 bytes, that begins here. -/
def nmT : Nat → List UInt8 → List UInt8
  | _, [] => []
  | i, c :: r => if i < 32 ∧ nmC i c = true then c :: nmT (i + 1) r else []
def bar (l : List UInt8) : ByteArray := ⟨l.toArray⟩
theorem bar_list (l : List UInt8) : (bar l).toList = l := ByteArray.toList_mk l
theorem bar_of (a : ByteArray) : bar a.toList = a := ba_mk a
theorem bar_size (l : List UInt8) : (bar l).size = l.length := by rw [← ba_len, bar_list]
/-- What stands behind these signs, if they stand here. -/
def tks (p l : List UInt8) : Option (List UInt8) := if p.isPrefixOf l = true then some (l.drop p.length) else none
/-- Values behind one another, commas between, up to the closing bracket; f: how many at most. -/
def rdV : Nat → List UInt8 → Option (List ByteArray × List UInt8)
  | 0, _ => none
  | f + 1, l => match unqO l with
    | none => none
    | some q => match tks [44] q.2 with
      | some r => (rdV f r).map (fun z => (bar q.1 :: z.1, z.2))
      | none => (tks [41] q.2).map (fun r => ([bar q.1], r))
/-- A list of values in brackets. -/
def rdB (l : List UInt8) : Option (List ByteArray × List UInt8) := match tks [40] l with
  | none => none
  | some r => match tks [41] r with
    | some r' => some ([], r')
    | none => rdV r.length r
/-- What a name's matcher asks. -/
def rdA (nm : ByteArray) (l : List UInt8) : Option (Mt × List UInt8) := match tks [61] l with
  | some r => (unqO r).map (fun q => (.mk 1 nm (bar q.1) [] [], q.2))
  | none => match tks [33, 61] l with
    | some r => (unqO r).map (fun q => (.mk 2 nm (bar q.1) [] [], q.2))
    | none => match tks [94, 61] l with
      | some r => (unqO r).map (fun q => (.mk 3 nm (bar q.1) [] [], q.2))
      | none => match tks [64] l with
        | some r => (rdB r).map (fun q => (.mk 4 nm .empty q.1 [], q.2))
        | none => none
def rdN (l : List UInt8) : Option (Mt × List UInt8) := rdA (bar (nmT 0 l)) (l.drop (nmT 0 l).length)
mutual
/-- A matcher is read; so many more may be. -/
def rdM : Nat → Nat → List UInt8 → Option (Mt × List UInt8 × Nat)
  | 0, _, _ => none
  | _ + 1, 0, _ => none
  | f + 1, left + 1, l => match tks [42] l with
    | some r => some (.mk 0 .empty .empty [] [], r, left)
    | none => match tks [38] l with
      | some r => (rdK f left r).map (fun q => (.mk 5 .empty .empty [] q.1, q.2))
      | none => match tks [124] l with
        | some r => (rdK f left r).map (fun q => (.mk 6 .empty .empty [] q.1, q.2))
        | none => match tks [33] l with
          | some r => (rdK f left r).map (fun q => (.mk 7 .empty .empty [] q.1, q.2))
          | none => (rdN l).map (fun q => (q.1, q.2, left))
def rdK : Nat → Nat → List UInt8 → Option (List Mt × List UInt8 × Nat)
  | 0, _, _ => none
  | f + 1, left, l => match tks [40] l with
    | none => none
    | some r => match tks [41] r with
      | some r' => some ([], r', left)
      | none => rdT f left r
def rdT : Nat → Nat → List UInt8 → Option (List Mt × List UInt8 × Nat)
  | 0, _, _ => none
  | f + 1, left, l => match rdM f left l with
    | none => none
    | some q => match tks [44] q.2.1 with
      | some r => (rdT f q.2.2 r).map (fun z => (q.1 :: z.1, z.2))
      | none => (tks [41] q.2.1).map (fun r => ([q.1], r, q.2.2))
end
/-- The matcher that a text is read as, if it may be. -/
def parseM (l : List UInt8) : Option Mt := match rdM 300 64 l with
  | none => none
  | some q => if q.2.1 = [] ∧ chkM q.1 = true then some q.1 else none

theorem tks_fwd {p l r : List UInt8} (h : tks p l = some r) : l = p ++ r := by
  unfold tks at h
  split at h
  · rename_i hp
    simp only [Option.some.injEq] at h
    subst h
    obtain ⟨t, rfl⟩ := List.isPrefixOf_iff_prefix.1 hp
    rw [List.drop_left]
  · cases h
theorem tks_back (p r : List UInt8) : tks p (p ++ r) = some r := by
  unfold tks
  rw [if_pos (List.isPrefixOf_iff_prefix.2 ⟨r, rfl⟩), List.drop_left]
theorem tks_no {c d : UInt8} (h : d ≠ c) (p r : List UInt8) : tks (c :: p) (d :: r) = none := by
  unfold tks
  rw [if_neg]
  intro e
  simp only [List.isPrefixOf_cons_cons, Bool.and_eq_true, beq_iff_eq] at e
  exact h e.1.symm
theorem tks_one (c : UInt8) (r : List UInt8) : tks [c] (c :: r) = some r := tks_back [c] r
theorem unqO_fwd {l v r : List UInt8} (h : unqO l = some (v, r)) : l = quoB v ++ r := by
  unfold unqO at h
  cases l with
  | nil => cases h
  | cons c t =>
    simp only at h
    by_cases hc : c = 34
    · rw [if_pos hc] at h
      rw [uqF_fwd h, hc]
      unfold quoB
      simp
    · rw [if_neg hc] at h
      cases h
theorem unqO_back (v r : List UInt8) : unqO (quoB v ++ r) = some (v, r) := by
  have e : quoB v ++ r = 34 :: (v.flatMap qb ++ 34 :: r) := by unfold quoB; simp
  rw [e]
  unfold unqO
  simp only
  rw [if_pos trivial, uqF_back]
  simp
theorem quoB_head (v : List UInt8) : ∃ t, quoB v = 34 :: t := ⟨_, rfl⟩
theorem nmT_pre (i : Nat) (l : List UInt8) : l = nmT i l ++ l.drop (nmT i l).length := by
  induction l generalizing i with
  | nil => rfl
  | cons c r ih =>
    rw [nmT]
    split
    · rw [List.length_cons, List.drop_succ_cons, List.cons_append, ← ih]
    · rfl
theorem nmT_back {i : Nat} {n r : List UInt8} {c : UInt8} (h : nmF i n = true) (hl : i + n.length ≤ 32) (hc : nmS c = false) : nmT i (n ++ c :: r) = n := by
  induction n generalizing i with
  | nil =>
    rw [List.nil_append, nmT, if_neg]
    rintro ⟨_, e⟩
    rw [nmC_S e] at hc
    cases hc
  | cons x t ih =>
    simp only [nmF, Bool.and_eq_true] at h
    simp only [List.length_cons] at hl
    rw [List.cons_append, nmT, if_pos ⟨by omega, h.1⟩, ih h.2 (by omega)]
theorem joinC_cons (x : List UInt8) (t : List (List UInt8)) (h : t ≠ []) : joinC (x :: t) = x ++ 44 :: joinC t := by
  cases t with
  | nil => exact absurd rfl h
  | cons y t => rfl
theorem joinC_one (x : List UInt8) : joinC [x] = x := rfl
theorem rdV_fwd : ∀ {f : Nat} {l r : List UInt8} {vs : List ByteArray}, rdV f l = some (vs, r) → l = joinC (vs.map fun v => quoB v.toList) ++ 41 :: r ∧ vs ≠ []
  | 0, _, _, _, h => by cases h
  | f + 1, l, r, vs, h => by
    rw [rdV] at h
    cases hu : unqO l with
    | none => rw [hu] at h; cases h
    | some q =>
      obtain ⟨v, t⟩ := q
      rw [hu] at h
      have hl := unqO_fwd hu
      simp only at h
      cases h1 : tks [44] t with
      | some t' =>
        rw [h1] at h
        simp only [Option.map_eq_some_iff, Prod.mk.injEq] at h
        obtain ⟨⟨ws, r'⟩, h2, rfl, rfl⟩ := h
        obtain ⟨e1, e2⟩ := rdV_fwd h2
        refine ⟨?_, by simp⟩
        rw [hl, tks_fwd h1, e1, List.map_cons, joinC_cons _ _ (by simpa using e2), bar_list]
        simp
      | none =>
        rw [h1] at h
        simp only [Option.map_eq_some_iff, Prod.mk.injEq] at h
        obtain ⟨r', h2, rfl, rfl⟩ := h
        refine ⟨?_, by simp⟩
        rw [hl, tks_fwd h2, List.map_cons, List.map_nil, joinC_one, bar_list]
        rfl
theorem rdV_back : ∀ {f : Nat} {vs : List ByteArray} (r : List UInt8), vs ≠ [] → vs.length ≤ f → rdV f (joinC (vs.map fun v => quoB v.toList) ++ 41 :: r) = some (vs, r)
  | 0, [], _, h, _ => absurd rfl h
  | 0, _ :: _, _, _, h => by simp at h
  | f + 1, [], _, h, _ => absurd rfl h
  | f + 1, [v], r, _, _ => by
    rw [List.map_cons, List.map_nil, joinC_one, rdV, unqO_back]
    simp only
    rw [tks_no (by decide), tks_one]
    simp only [Option.map_some, bar_of]
  | f + 1, v :: y :: t, r, _, hl => by
    rw [List.map_cons, joinC_cons _ _ (by simp), List.append_assoc, rdV, unqO_back]
    simp only [List.cons_append]
    rw [tks_one]
    simp only
    rw [rdV_back r (by simp) (by simpa using hl), Option.map_some, bar_of]
theorem rdB_fwd {l r : List UInt8} {vs : List ByteArray} (h : rdB l = some (vs, r)) : l = 40 :: (joinC (vs.map fun v => quoB v.toList) ++ 41 :: r) := by
  unfold rdB at h
  cases h1 : tks [40] l with
  | none => rw [h1] at h; cases h
  | some t =>
    rw [h1] at h
    rw [tks_fwd h1]
    simp only at h
    cases h2 : tks [41] t with
    | some t' =>
      rw [h2] at h
      simp only [Option.some.injEq, Prod.mk.injEq] at h
      obtain ⟨rfl, rfl⟩ := h
      rw [tks_fwd h2]
      rfl
    | none =>
      rw [h2] at h
      rw [(rdV_fwd h).1]
      rfl
theorem join_head {vs : List ByteArray} (h : vs ≠ []) : ∃ t, joinC (vs.map fun v => quoB v.toList) = 34 :: t := by
  match vs, h with
  | [v], _ => exact ⟨_, rfl⟩
  | v :: y :: t, _ => exact ⟨_, rfl⟩
theorem join_len (vs : List ByteArray) : vs.length ≤ (joinC (vs.map fun v => quoB v.toList)).length := by
  induction vs with
  | nil => simp
  | cons v t ih =>
    by_cases h : t = []
    · subst h
      rw [List.map_cons, List.map_nil, joinC_one]
      unfold quoB
      simp
    · rw [List.map_cons, joinC_cons _ _ (by simpa using h)]
      simp only [List.length_append, List.length_cons]
      omega
theorem rdB_back {vs : List ByteArray} (r : List UInt8) (h : vs ≠ []) : rdB (40 :: (joinC (vs.map fun v => quoB v.toList) ++ 41 :: r)) = some (vs, r) := by
  unfold rdB
  rw [tks_one]
  simp only
  obtain ⟨t, ht⟩ := join_head h
  rw [show tks [41] (joinC (vs.map fun v => quoB v.toList) ++ 41 :: r) = none by rw [ht, List.cons_append]; exact tks_no (by decide) _ _]
  simp only
  refine rdV_back r h ?_
  have := join_len vs
  rw [List.length_append]
  omega
theorem rdA_fwd {nm : ByteArray} {l r : List UInt8} {m : Mt} (h : rdA nm l = some (m, r)) : nm.toList ++ l = textM m ++ r := by
  unfold rdA at h
  cases h1 : tks [61] l with
  | some t =>
    rw [h1] at h
    simp only [Option.map_eq_some_iff, Prod.mk.injEq] at h
    obtain ⟨⟨v, r'⟩, h2, rfl, rfl⟩ := h
    rw [tks_fwd h1, unqO_fwd h2, textM]
    simp [bar_list]
  | none =>
    rw [h1] at h
    simp only at h
    cases h2 : tks [33, 61] l with
    | some t =>
      rw [h2] at h
      simp only [Option.map_eq_some_iff, Prod.mk.injEq] at h
      obtain ⟨⟨v, r'⟩, h3, rfl, rfl⟩ := h
      rw [tks_fwd h2, unqO_fwd h3, textM]
      simp [bar_list]
    | none =>
      rw [h2] at h
      simp only at h
      cases h3 : tks [94, 61] l with
      | some t =>
        rw [h3] at h
        simp only [Option.map_eq_some_iff, Prod.mk.injEq] at h
        obtain ⟨⟨v, r'⟩, h4, rfl, rfl⟩ := h
        rw [tks_fwd h3, unqO_fwd h4, textM]
        simp [bar_list]
      | none =>
        rw [h3] at h
        simp only at h
        cases h4 : tks [64] l with
        | some t =>
          rw [h4] at h
          simp only [Option.map_eq_some_iff, Prod.mk.injEq] at h
          obtain ⟨⟨v, r'⟩, h5, rfl, rfl⟩ := h
          rw [tks_fwd h4, rdB_fwd h5, textM]
          simp
        | none => rw [h4] at h; cases h
theorem rdN_fwd {l r : List UInt8} {m : Mt} (h : rdN l = some (m, r)) : l = textM m ++ r := by
  have := rdA_fwd h
  rw [bar_list, ← nmT_pre] at this
  exact this
theorem rdN_back {nm : ByteArray} {c : UInt8} {l : List UInt8} (h : nameB nm = true) (hc : nmS c = false) : rdN (nm.toList ++ c :: l) = rdA nm (c :: l) := by
  unfold nameB at h
  simp only [Bool.and_eq_true, decide_eq_true_eq] at h
  have e : nmT 0 (nm.toList ++ c :: l) = nm.toList := nmT_back h.1 (by rw [ba_len]; omega) hc
  unfold rdN
  rw [e, bar_of, List.drop_left]

/-- What is read has that text. -/
theorem rd_fwd (f : Nat) : (∀ (left : Nat) (l r : List UInt8) (m : Mt) (q : Nat), rdM f left l = some (m, r, q) → l = textM m ++ r ∧ q < left) ∧
    (∀ (left : Nat) (l r : List UInt8) (ks : List Mt) (q : Nat), rdK f left l = some (ks, r, q) → l = 40 :: (joinC (textKs ks) ++ 41 :: r) ∧ q ≤ left) ∧
    (∀ (left : Nat) (l r : List UInt8) (ks : List Mt) (q : Nat), rdT f left l = some (ks, r, q) → l = joinC (textKs ks) ++ 41 :: r ∧ ks ≠ [] ∧ q < left) := by
  induction f with
  | zero => exact ⟨fun left l r m q h => (by rw [rdM] at h; cases h), fun left l r m q h => (by rw [rdK] at h; cases h), fun left l r m q h => (by rw [rdT] at h; cases h)⟩
  | succ f ih =>
    obtain ⟨ihM, ihL, ihT⟩ := ih
    refine ⟨?_, ?_, ?_⟩
    · intro left l r m q h
      cases left with
      | zero => rw [rdM] at h; cases h
      | succ left =>
        rw [rdM] at h
        cases h1 : tks [42] l with
        | some t =>
          rw [h1] at h
          simp only [Option.some.injEq, Prod.mk.injEq] at h
          obtain ⟨rfl, rfl, rfl⟩ := h
          exact ⟨by rw [tks_fwd h1, textM]; rfl, by omega⟩
        | none =>
          rw [h1] at h
          simp only at h
          cases h2 : tks [38] l with
          | some t =>
            rw [h2] at h
            simp only [Option.map_eq_some_iff, Prod.mk.injEq] at h
            obtain ⟨⟨ks, r', q'⟩, h3, rfl, rfl, rfl⟩ := h
            obtain ⟨e, hq⟩ := ihL _ _ _ _ _ h3
            exact ⟨by rw [tks_fwd h2, e, textM]; simp, by omega⟩
          | none =>
            rw [h2] at h
            simp only at h
            cases h3 : tks [124] l with
            | some t =>
              rw [h3] at h
              simp only [Option.map_eq_some_iff, Prod.mk.injEq] at h
              obtain ⟨⟨ks, r', q'⟩, h4, rfl, rfl, rfl⟩ := h
              obtain ⟨e, hq⟩ := ihL _ _ _ _ _ h4
              exact ⟨by rw [tks_fwd h3, e, textM]; simp, by omega⟩
            | none =>
              rw [h3] at h
              simp only at h
              cases h4 : tks [33] l with
              | some t =>
                rw [h4] at h
                simp only [Option.map_eq_some_iff, Prod.mk.injEq] at h
                obtain ⟨⟨ks, r', q'⟩, h5, rfl, rfl, rfl⟩ := h
                obtain ⟨e, hq⟩ := ihL _ _ _ _ _ h5
                exact ⟨by rw [tks_fwd h4, e, textM]; simp, by omega⟩
              | none =>
                rw [h4] at h
                simp only [Option.map_eq_some_iff, Prod.mk.injEq] at h
                obtain ⟨⟨m', r'⟩, h5, rfl, rfl, rfl⟩ := h
                exact ⟨rdN_fwd h5, by omega⟩
    · intro left l r ks q h
      rw [rdK] at h
      cases h1 : tks [40] l with
      | none => rw [h1] at h; cases h
      | some t =>
        rw [h1] at h
        simp only at h
        cases h2 : tks [41] t with
        | some t' =>
          rw [h2] at h
          simp only [Option.some.injEq, Prod.mk.injEq] at h
          obtain ⟨rfl, rfl, rfl⟩ := h
          exact ⟨by rw [tks_fwd h1, tks_fwd h2, textKs]; rfl, Nat.le_refl _⟩
        | none =>
          rw [h2] at h
          obtain ⟨e, _, hq⟩ := ihT _ _ _ _ _ h
          exact ⟨by rw [tks_fwd h1, e]; rfl, by omega⟩
    · intro left l r ks q h
      rw [rdT] at h
      cases hm : rdM f left l with
      | none => rw [hm] at h; cases h
      | some z =>
        obtain ⟨k, t, left'⟩ := z
        rw [hm] at h
        obtain ⟨e, hq⟩ := ihM _ _ _ _ _ hm
        simp only at h
        cases h1 : tks [44] t with
        | some t' =>
          rw [h1] at h
          simp only [Option.map_eq_some_iff, Prod.mk.injEq] at h
          obtain ⟨⟨ks', r', q'⟩, h2, rfl, rfl, rfl⟩ := h
          obtain ⟨e2, e3, hq2⟩ := ihT _ _ _ _ _ h2
          refine ⟨?_, by simp, by omega⟩
          rw [e, tks_fwd h1, e2, textKs, joinC_cons]
          · simp
          · cases ks' with
            | nil => exact absurd rfl e3
            | cons y ys => simp [textKs]
        | none =>
          rw [h1] at h
          simp only [Option.map_eq_some_iff, Prod.mk.injEq] at h
          obtain ⟨r', h2, rfl, rfl, rfl⟩ := h
          refine ⟨?_, by simp, hq⟩
          rw [e, tks_fwd h2, textKs, textKs, joinC_one]
          rfl

theorem fit_names {m : Mt} (h : fitB m = true) : (m.op = 0 ∧ m = zeroM) ∨ ((m.op = 1 ∨ m.op = 2 ∨ m.op = 3) ∧ nameB m.nm = true ∧ m.vs = [] ∧ m.ks = []) ∨ (m.op = 4 ∧ nameB m.nm = true ∧ m.vl = .empty ∧ valsB m.vs = true ∧ m.ks = []) ∨ ((m.op = 5 ∨ m.op = 6 ∨ m.op = 7) ∧ m.nm = .empty ∧ m.vl = .empty ∧ m.vs = [] ∧ (m.op = 7 → m.ks.length = 1)) := by
  have e0 : ∀ {s : ByteArray}, s.size = 0 → s = .empty := fun {s} h => ba_ext (by
    rw [List.length_eq_zero_iff.1 (show s.toList.length = 0 by rw [ba_len]; exact h)]
    decide +kernel)
  unfold fitB at h
  split at h
  · rename_i ho
    simp only [Bool.and_eq_true, decide_eq_true_eq] at h
    exact Or.inl ⟨ho, Mt.ext ho (e0 h.1.1.2) (e0 h.1.1.1) (List.length_eq_zero_iff.1 h.1.2) (List.length_eq_zero_iff.1 h.2)⟩
  · split at h
    · rename_i ho
      simp only [Bool.and_eq_true, decide_eq_true_eq] at h
      exact Or.inr (Or.inl ⟨ho, h.1.2, List.length_eq_zero_iff.1 h.1.1.1, List.length_eq_zero_iff.1 h.1.1.2⟩)
    · split at h
      · rename_i ho
        simp only [Bool.and_eq_true, decide_eq_true_eq] at h
        exact Or.inr (Or.inr (Or.inl ⟨ho, h.1.2, e0 h.1.1.1, h.2, List.length_eq_zero_iff.1 h.1.1.2⟩))
      · split at h
        · rename_i ho
          simp only [Bool.and_eq_true, decide_eq_true_eq, Bool.or_eq_true] at h
          refine Or.inr (Or.inr (Or.inr ⟨ho, e0 h.1.1.2, e0 h.1.1.1, List.length_eq_zero_iff.1 h.1.2, fun h7 => ?_⟩))
          rcases h.2 with h2 | h2
          · exact absurd h7 h2
          · exact h2
        · cases h
theorem textM_eq (m : Mt) : textM m = (if m.op = 0 then [42]
    else if m.op = 1 then m.nm.toList ++ 61 :: quoB m.vl.toList
    else if m.op = 2 then m.nm.toList ++ 33 :: 61 :: quoB m.vl.toList
    else if m.op = 3 then m.nm.toList ++ 94 :: 61 :: quoB m.vl.toList
    else if m.op = 4 then m.nm.toList ++ 64 :: 40 :: (joinC (m.vs.map fun v => quoB v.toList) ++ [41])
    else (if m.op = 6 then 124 else if m.op = 7 then 33 else 38) :: 40 :: (joinC (textKs m.ks) ++ [41])) := by
  cases m; rw [textM]; rfl
theorem vals_some {l : List ByteArray} (h : valsB l = true) : l ≠ [] := by
  rintro rfl
  cases h
/-- How a text of one that may be begins: with a sign that no name has, or with a name. -/
theorem text_head {m : Mt} (h : fitB m = true) : ∃ c t, textM m = c :: t ∧ c ≠ 41 ∧ c ≠ 44 := by
  have nb : ∀ {nm : ByteArray} {t : List UInt8}, nameB nm = true → ∃ c u, nm.toList ++ t = c :: u ∧ nmS c = true := by
    intro nm t hn
    unfold nameB at hn
    simp only [Bool.and_eq_true, decide_eq_true_eq] at hn
    have hl : nm.toList.length ≠ 0 := by rw [ba_len]; omega
    cases hx : nm.toList with
    | nil => rw [hx] at hl; exact absurd rfl hl
    | cons c u => exact ⟨c, _, rfl, nmF_all hn.1 c (by rw [hx]; simp)⟩
  have ns : ∀ {c : UInt8}, nmS c = true → c ≠ 41 ∧ c ≠ 44 := fun {c} hc => ⟨fun e => by subst e; revert hc; decide, fun e => by subst e; revert hc; decide⟩
  rw [textM_eq]
  rcases fit_names h with ⟨ho, -⟩ | ⟨ho, hn, -, -⟩ | ⟨ho, hn, -, -, -⟩ | ⟨ho, -, -, -, -⟩
  · rw [if_pos ho]
    exact ⟨_, _, rfl, by decide, by decide⟩
  · rw [if_neg (by omega)]
    rcases ho with ho | ho | ho
    · rw [if_pos ho]
      obtain ⟨c, u, e, hc⟩ := nb (t := 61 :: quoB m.vl.toList) hn
      exact ⟨c, u, e, ns hc⟩
    · rw [if_neg (by omega), if_pos ho]
      obtain ⟨c, u, e, hc⟩ := nb (t := 33 :: 61 :: quoB m.vl.toList) hn
      exact ⟨c, u, e, ns hc⟩
    · rw [if_neg (by omega), if_neg (by omega), if_pos ho]
      obtain ⟨c, u, e, hc⟩ := nb (t := 94 :: 61 :: quoB m.vl.toList) hn
      exact ⟨c, u, e, ns hc⟩
  · rw [if_neg (by omega), if_neg (by omega), if_neg (by omega), if_neg (by omega), if_pos ho]
    obtain ⟨c, u, e, hc⟩ := nb (t := 64 :: 40 :: (joinC (m.vs.map fun v => quoB v.toList) ++ [41])) hn
    exact ⟨c, u, e, ns hc⟩
  · rw [if_neg (by omega), if_neg (by omega), if_neg (by omega), if_neg (by omega), if_neg (by omega)]
    rcases ho with ho | ho | ho
    · exact ⟨38, _, by rw [if_neg (by omega), if_neg (by omega)], by decide, by decide⟩
    · exact ⟨124, _, by rw [if_pos ho], by decide, by decide⟩
    · exact ⟨33, _, by rw [if_neg (by omega), if_pos ho], by decide, by decide⟩
/-- A name's matcher is read back. -/
theorem rdN_text {m : Mt} (h : fitB m = true) (h1 : 1 ≤ m.op) (h4 : m.op ≤ 4) (r : List UInt8) : rdN (textM m ++ r) = some (m, r) ∧ ∃ c t, textM m = c :: t ∧ nmS c = true := by
  have nb : ∀ {nm : ByteArray} {t : List UInt8}, nameB nm = true → ∃ c u, nm.toList ++ t = c :: u ∧ nmS c = true := by
    intro nm t hn
    unfold nameB at hn
    simp only [Bool.and_eq_true, decide_eq_true_eq] at hn
    have hl : nm.toList.length ≠ 0 := by rw [ba_len]; omega
    cases hx : nm.toList with
    | nil => rw [hx] at hl; exact absurd rfl hl
    | cons c u => exact ⟨c, _, rfl, nmF_all hn.1 c (by rw [hx]; simp)⟩
  rw [textM_eq]
  rcases fit_names h with ⟨ho, -⟩ | ⟨ho, hn, hv, hk⟩ | ⟨ho, hn, hvl, hv, hk⟩ | ⟨ho, -, -, -, -⟩
  · omega
  · rw [if_neg (by omega)]
    rcases ho with ho | ho | ho
    · rw [if_pos ho]
      refine ⟨?_, nb hn⟩
      rw [List.append_assoc, List.cons_append, rdN_back hn (by decide)]
      unfold rdA
      rw [tks_one]
      simp only
      rw [unqO_back, Option.map_some, bar_of]
      congr 1
      exact Prod.ext (Mt.ext ho.symm rfl rfl hv.symm hk.symm) rfl
    · rw [if_neg (by omega), if_pos ho]
      refine ⟨?_, nb hn⟩
      rw [List.append_assoc, List.cons_append, List.cons_append, rdN_back hn (by decide)]
      unfold rdA
      rw [tks_no (by decide), show tks [33, 61] (33 :: 61 :: (quoB m.vl.toList ++ r)) = some (quoB m.vl.toList ++ r) from tks_back [33, 61] _]
      simp only
      rw [unqO_back, Option.map_some, bar_of]
      congr 1
      exact Prod.ext (Mt.ext ho.symm rfl rfl hv.symm hk.symm) rfl
    · rw [if_neg (by omega), if_neg (by omega), if_pos ho]
      refine ⟨?_, nb hn⟩
      rw [List.append_assoc, List.cons_append, List.cons_append, rdN_back hn (by decide)]
      unfold rdA
      rw [tks_no (by decide), tks_no (by decide), show tks [94, 61] (94 :: 61 :: (quoB m.vl.toList ++ r)) = some (quoB m.vl.toList ++ r) from tks_back [94, 61] _]
      simp only
      rw [unqO_back, Option.map_some, bar_of]
      congr 1
      exact Prod.ext (Mt.ext ho.symm rfl rfl hv.symm hk.symm) rfl
  · rw [if_neg (by omega), if_neg (by omega), if_neg (by omega), if_neg (by omega), if_pos ho]
    refine ⟨?_, nb hn⟩
    rw [List.append_assoc, List.cons_append, rdN_back hn (by decide)]
    unfold rdA
    rw [tks_no (by decide), tks_no (by decide), tks_no (by decide), tks_one]
    simp only
    rw [List.cons_append, List.append_assoc, List.singleton_append, rdB_back r (vals_some hv)]
    simp only [Option.map_some]
    congr 1
    exact Prod.ext (Mt.ext ho.symm rfl hvl.symm rfl hk.symm) rfl
  · omega
theorem lookF_some {m : Mt} {d n b : Nat} {r : Nat × Nat} (h : lookF m d n b = some r) : n + 1 ≤ 64 ∧ d ≤ 8 ∧ fitB m = true ∧ b + ownT m ≤ 4096 ∧ lookKs m.ks (d + 1) (n + 1) (b + ownT m) = some r := by
  rw [lookF_eq] at h
  split at h
  · cases h
  · rename_i hc
    refine ⟨by omega, by omega, ?_, by omega, h⟩
    cases hf : fitB m with
    | true => rfl
    | false => exact absurd (Or.inr (Or.inr (Or.inl hf))) hc
theorem lookKs_cons {k : Mt} {ks : List Mt} {d n b : Nat} {r : Nat × Nat} (h : lookKs (k :: ks) d n b = some r) : ∃ r', lookF k d n b = some r' ∧ lookKs ks d r'.1 r'.2 = some r := by
  rw [lookKs] at h
  cases hk : lookF k d n b with
  | none => rw [hk] at h; cases h
  | some r' => rw [hk] at h; exact ⟨r', rfl, h⟩
/-- What may be is read back from its text. -/
theorem rd_back (m : Mt) : ∀ (f d n b : Nat) (res : Nat × Nat) (r : List UInt8), lookF m d n b = some res → 3 * (64 - n) + 1 ≤ f → rdM f (64 - n) (textM m ++ r) = some (m, r, 64 - res.1) ∧ n + 1 ≤ res.1 ∧ res.1 ≤ 64 := by
  refine Mt.ind (P := fun m => ∀ (f d n b : Nat) (res : Nat × Nat) (r : List UInt8), lookF m d n b = some res → 3 * (64 - n) + 1 ≤ f → rdM f (64 - n) (textM m ++ r) = some (m, r, 64 - res.1) ∧ n + 1 ≤ res.1 ∧ res.1 ≤ 64) ?_ m
  intro m ih f d n b res r h hf
  obtain ⟨hn, hd, hfit, hb, hks⟩ := lookF_some h
  obtain ⟨f, rfl⟩ : ∃ f', f = f' + 1 := ⟨f - 1, by omega⟩
  obtain ⟨left, hleft⟩ : ∃ left, 64 - n = left + 1 := ⟨64 - n - 1, by omega⟩
  have hleft' : left = 64 - (n + 1) := by omega
  rw [hleft, rdM]
  by_cases ho4 : 1 ≤ m.op ∧ m.op ≤ 4
  · obtain ⟨hr, c, t, ht, hc⟩ := rdN_text hfit ho4.1 ho4.2 r
    have hk0 : m.ks = [] := by
      rcases fit_names hfit with ⟨ho, rfl⟩ | ⟨_, _, _, hk⟩ | ⟨_, _, _, _, hk⟩ | ⟨ho, _⟩
      · rfl
      · exact hk
      · exact hk
      · omega
    rw [hk0, lookKs] at hks
    simp only [Option.some.injEq] at hks
    subst hks
    have no : ∀ p : UInt8, nmS p = false → tks [p] (textM m ++ r) = none := fun p hp => by
      rw [ht, List.cons_append]
      exact tks_no (fun e => by rw [e, hp] at hc; cases hc) _ _
    rw [no 42 (by decide), no 38 (by decide), no 124 (by decide), no 33 (by decide), hr]
    exact ⟨by rw [Option.map_some, hleft'], by show n + 1 ≤ n + 1; omega, by show n + 1 ≤ 64; omega⟩
  · by_cases ho0 : m.op = 0
    · have hz : m = zeroM := by
        rcases fit_names hfit with ⟨_, hz⟩ | ⟨ho, _⟩ | ⟨ho, _⟩ | ⟨ho, _⟩
        · exact hz
        · omega
        · omega
        · omega
      subst hz
      rw [show zeroM.ks = [] from rfl, lookKs] at hks
      simp only [Option.some.injEq] at hks
      subst hks
      rw [show textM zeroM = [42] by rw [textM_eq, if_pos ho0], List.singleton_append, tks_one]
      exact ⟨by simp only; rw [hleft']; rfl, by show n + 1 ≤ n + 1; omega, by show n + 1 ≤ 64; omega⟩
    · obtain ⟨ho, h1, h2, h3, h7⟩ : (m.op = 5 ∨ m.op = 6 ∨ m.op = 7) ∧ m.nm = .empty ∧ m.vl = .empty ∧ m.vs = [] ∧ (m.op = 7 → m.ks.length = 1) := by
        rcases fit_names hfit with ⟨ho, _⟩ | ⟨ho, _⟩ | ⟨ho, _⟩ | hh
        · exact absurd ho ho0
        · omega
        · omega
        · exact hh
      have key : ∀ (ks : List Mt) (f n b : Nat) (res : Nat × Nat), ks ≠ [] → (∀ k ∈ ks, k ∈ m.ks) → lookKs ks (d + 1) n b = some res → n ≤ 64 → 3 * (64 - n) + 2 ≤ f → rdT f (64 - n) (joinC (textKs ks) ++ 41 :: r) = some (ks, r, 64 - res.1) ∧ n + 1 ≤ res.1 ∧ res.1 ≤ 64 := by
        intro ks
        induction ks with
        | nil => intro f n b res h; exact absurd rfl h
        | cons x t iht =>
          intro f n b res _ hm hl hn hf
          obtain ⟨r', hx, hl'⟩ := lookKs_cons hl
          obtain ⟨f, rfl⟩ : ∃ f', f = f' + 1 := ⟨f - 1, by omega⟩
          by_cases ht : t = []
          · subst ht
            obtain ⟨e, e1, e2⟩ := ih x (hm x (by simp)) f (d + 1) n b r' (41 :: r) hx (by omega)
            rw [lookKs] at hl'
            simp only [Option.some.injEq] at hl'
            subst hl'
            rw [rdT, textKs, textKs, joinC_one, e]
            simp only
            rw [tks_no (by decide), tks_one]
            exact ⟨rfl, e1, e2⟩
          · obtain ⟨e, e1, e2⟩ := ih x (hm x (by simp)) f (d + 1) n b r' (44 :: (joinC (textKs t) ++ 41 :: r)) hx (by omega)
            obtain ⟨q, q1, q2⟩ := iht f r'.1 r'.2 res ht (fun k hk => hm k (by simp [hk])) hl' e2 (by omega)
            rw [rdT, textKs, joinC_cons _ _ (by rw [textKs_map]; simpa using ht), List.append_assoc, List.cons_append, e]
            simp only
            rw [tks_one]
            simp only
            rw [q]
            exact ⟨rfl, by omega, q2⟩
      have fin : rdK f left (40 :: (joinC (textKs m.ks) ++ [41] ++ r)) = some (m.ks, r, 64 - res.1) ∧ n + 1 ≤ res.1 ∧ res.1 ≤ 64 := by
        obtain ⟨f, rfl⟩ : ∃ f', f = f' + 1 := ⟨f - 1, by omega⟩
        rw [rdK, tks_one]
        simp only
        rw [List.append_assoc, List.singleton_append]
        by_cases hk : m.ks = []
        · rw [hk] at hks ⊢
          rw [lookKs] at hks
          simp only [Option.some.injEq] at hks
          subst hks
          rw [textKs, show joinC [] = [] from rfl, List.nil_append, tks_one]
          exact ⟨by simp only; rw [hleft'], by show n + 1 ≤ n + 1; omega, by show n + 1 ≤ 64; omega⟩
        · obtain ⟨q, q1, q2⟩ := key m.ks f (n + 1) _ res hk (fun k hk => hk) hks (by omega) (by omega)
          obtain ⟨x, t, hx⟩ : ∃ x t, m.ks = x :: t := by
            cases hc : m.ks with
            | nil => exact absurd hc hk
            | cons x t => exact ⟨x, t, rfl⟩
          have hhead : ∃ c u, joinC (textKs m.ks) = c :: u ∧ c ≠ 41 := by
            rw [hx] at hks ⊢
            obtain ⟨r', hx', -⟩ := lookKs_cons hks
            obtain ⟨c, u, e, hc, -⟩ := text_head (lookF_some hx').2.2.1
            rw [textKs]
            by_cases ht : t = []
            · subst ht
              rw [textKs, joinC_one]
              exact ⟨c, u, e, hc⟩
            · rw [joinC_cons _ _ (by rw [textKs_map]; simpa using ht), e]
              exact ⟨c, _, rfl, hc⟩
          obtain ⟨c, u, e, hc⟩ := hhead
          rw [show tks [41] (joinC (textKs m.ks) ++ 41 :: r) = none by rw [e, List.cons_append]; exact tks_no hc _ _]
          simp only
          rw [hleft', q]
          exact ⟨rfl, by omega, q2⟩
      rw [textM_eq, if_neg (by omega), if_neg (by omega), if_neg (by omega), if_neg (by omega), if_neg (by omega)]
      rcases ho with ho | ho | ho
      · rw [if_neg (by omega), if_neg (by omega), List.cons_append, List.cons_append, tks_no (by decide), tks_one]
        simp only
        rw [fin.1]
        refine ⟨?_, fin.2⟩
        rw [Option.map_some]
        congr 1
        exact Prod.ext (Mt.ext ho.symm h1.symm h2.symm h3.symm rfl) rfl
      · rw [if_pos ho, List.cons_append, List.cons_append, tks_no (by decide), tks_no (by decide), tks_one]
        simp only
        rw [fin.1]
        refine ⟨?_, fin.2⟩
        rw [Option.map_some]
        congr 1
        exact Prod.ext (Mt.ext ho.symm h1.symm h2.symm h3.symm rfl) rfl
      · rw [if_neg (by omega), if_pos ho, List.cons_append, List.cons_append, tks_no (by decide), tks_no (by decide), tks_no (by decide), tks_one]
        simp only
        rw [fin.1]
        refine ⟨?_, fin.2⟩
        rw [Option.map_some]
        congr 1
        exact Prod.ext (Mt.ext ho.symm h1.symm h2.symm h3.symm rfl) rfl
/-- A text is read as the one matcher that may be and has it. -/
theorem parseM_iff {l : List UInt8} {m : Mt} : parseM l = some m ↔ chkM m = true ∧ textM m = l := by
  unfold parseM
  constructor
  · intro h
    cases hr : rdM 300 64 l with
    | none => rw [hr] at h; cases h
    | some q =>
      obtain ⟨m', r, left⟩ := q
      rw [hr] at h
      simp only at h
      split at h
      · rename_i hc
        simp only [Option.some.injEq] at h
        subst h
        refine ⟨hc.2, ?_⟩
        rw [((rd_fwd 300).1 _ _ _ _ _ hr).1, hc.1, List.append_nil]
      · cases h
  · rintro ⟨h, rfl⟩
    obtain ⟨res, hres⟩ := Option.isSome_iff_exists.1 (show (lookF m 1 0 0).isSome = true from h)
    obtain ⟨e, -⟩ := rd_back m 300 1 0 0 res [] hres (by omega)
    rw [List.append_nil] at e
    rw [show (64 : Nat) = 64 - 0 from rfl, e]
    simp only
    rw [if_pos ⟨trivial, h⟩]
theorem textM_inj {m n : Mt} (hm : chkM m = true) (hn : chkM n = true) (h : textM m = textM n) : m = n := by
  have e1 := parseM_iff.2 ⟨hm, h⟩
  have e2 := parseM_iff.2 ⟨hn, rfl⟩
  rw [e1] at e2
  exact Option.some.inj e2
end Go.Proofs.YtpffhpnmbpjifaaGreat
