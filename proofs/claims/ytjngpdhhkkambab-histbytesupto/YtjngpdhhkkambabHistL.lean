/-
  Lists of buckets as plain lists of pairs (which, how often): whether they may be; what one more makes of them; two lists as one; sums held at the greatest number; the same of an array of counts.
  Conditions: counts are words of 64 bits.
-/
import Derived.Below
namespace Go.Proofs.Ytjngpdhhkkambab

abbrev Bks := List (Int × Int)
/-- Buckets that rise from behind 'last', each with a count above 0. -/
def checkF : Int → Bks → Bool
  | _, [] => true
  | last, (k, c) :: t => decide (last < k ∧ k ≤ 7423 ∧ 0 < c) && checkF k t
/-- Buckets that may be. -/
def checkS (l : Bks) : Bool := checkF (-1) l
/-- How often a bucket was seen. -/
def getN : Bks → Int → Int
  | [], _ => 0
  | (j, c) :: t, k => if j = k then c else getN t k
/-- A sum that is held. -/
def satS (a b : Int) : Int := if a + b < 18446744073709551616 then a + b else 18446744073709551615
/-- Counts that are words. -/
def WordsB (l : Bks) : Prop := ∀ x ∈ l, 0 ≤ x.2 ∧ x.2 < 18446744073709551616

theorem checkF_cons {last k c : Int} {t : Bks} : checkF last ((k, c) :: t) = true ↔ last < k ∧ k ≤ 7423 ∧ 0 < c ∧ checkF k t = true := by
  simp [checkF, and_assoc]
theorem checkF_mono {last last' : Int} {l : Bks} (h : checkF last l = true) (hl : last' ≤ last) : checkF last' l = true := by
  cases l with
  | nil => rfl
  | cons x t =>
    obtain ⟨k, c⟩ := x
    rw [checkF_cons] at h ⊢
    exact ⟨by omega, h.2⟩
theorem checkF_last {last k c : Int} {t : Bks} (h : checkF last ((k, c) :: t) = true) {last' : Int} (hl : last' < k) : checkF last' ((k, c) :: t) = true := by
  rw [checkF_cons] at h ⊢
  exact ⟨hl, h.2⟩
/-- The last bucket of a list, or what it rises from. -/
def lastD (last : Int) : Bks → Int
  | [] => last
  | (k, _) :: t => lastD k t
theorem checkF_append (last : Int) (l m : Bks) : checkF last (l ++ m) = (checkF last l && checkF (lastD last l) m) := by
  induction l generalizing last with
  | nil => simp [checkF, lastD]
  | cons x t ih =>
    obtain ⟨k, c⟩ := x
    rw [List.cons_append, checkF, ih, checkF, lastD, Bool.and_assoc]
theorem checkF_snoc (last : Int) (l : Bks) (k c : Int) : checkF last (l ++ [(k, c)]) = (checkF last l && decide (lastD last l < k ∧ k ≤ 7423 ∧ 0 < c)) := by
  rw [checkF_append]
  simp [checkF]
theorem lastD_snoc (last : Int) (l : Bks) (k c : Int) : lastD last (l ++ [(k, c)]) = k := by
  induction l generalizing last with
  | nil => rfl
  | cons x t ih => obtain ⟨j, d⟩ := x; rw [List.cons_append, lastD, ih]
theorem checkF_lastD {last : Int} {l : Bks} (h : checkF last l = true) : last ≤ lastD last l ∧ (l = [] ∨ lastD last l ≤ 7423) := by
  induction l generalizing last with
  | nil => exact ⟨Int.le_refl _, Or.inl rfl⟩
  | cons x t ih =>
    obtain ⟨k, c⟩ := x
    rw [checkF_cons] at h
    obtain ⟨h1, h2⟩ := ih h.2.2.2
    rw [lastD]
    refine ⟨by omega, Or.inr ?_⟩
    rcases h2 with rfl | h2
    · exact h.2.1
    · exact h2
theorem checkF_prefix {last : Int} {l : Bks} (k : Nat) (h : checkF last (l.take k) = false) : checkF last l = false := by
  rw [← List.take_append_drop k l, checkF_append, h, Bool.false_and]
theorem checkF_len {last : Int} {l : Bks} (h : checkF last l = true) : last + l.length ≤ 7423 ∨ l = [] := by
  induction l generalizing last with
  | nil => exact Or.inr rfl
  | cons x t ih =>
    obtain ⟨k, c⟩ := x
    rw [checkF_cons] at h
    left
    simp only [List.length_cons]
    rcases ih h.2.2.2 with h1 | rfl
    · omega
    · simp; omega
/-- None at or below what they rise from. -/
theorem getN_low {last : Int} {l : Bks} (h : checkF last l = true) {k : Int} (hk : k ≤ last) : getN l k = 0 := by
  induction l generalizing last with
  | nil => rfl
  | cons x t ih =>
    obtain ⟨j, c⟩ := x
    rw [checkF_cons] at h
    rw [getN, if_neg (by omega)]
    exact ih h.2.2.2 (by omega)
theorem getN_head {k c : Int} {t : Bks} : getN ((k, c) :: t) k = c := by simp [getN]
theorem getN_pos {last : Int} {l : Bks} (h : checkF last l = true) (k : Int) : 0 ≤ getN l k := by
  induction l generalizing last with
  | nil => exact Int.le_refl 0
  | cons x t ih =>
    obtain ⟨j, c⟩ := x
    rw [checkF_cons] at h
    rw [getN]
    split
    · omega
    · exact ih h.2.2.2
theorem getN_high {last : Int} {l : Bks} (h : checkF last l = true) {k : Int} (hk : 7423 < k) : getN l k = 0 := by
  induction l generalizing last with
  | nil => rfl
  | cons x t ih =>
    obtain ⟨j, c⟩ := x
    rw [checkF_cons] at h
    rw [getN, if_neg (by omega)]
    exact ih h.2.2.2
theorem getN_word {l : Bks} (h : WordsB l) (k : Int) : 0 ≤ getN l k ∧ getN l k < 18446744073709551616 := by
  induction l with
  | nil => exact ⟨by simp [getN], by simp [getN]⟩
  | cons x t ih =>
    obtain ⟨j, c⟩ := x
    rw [getN]
    split
    · exact h _ (List.mem_cons_self ..)
    · exact ih (fun y hy => h y (List.mem_cons_of_mem _ hy))
/-- Two lists that may be and say the same of each bucket are one. -/
theorem bks_ext {l m : Bks} {p q : Int} (hl : checkF p l = true) (hm : checkF q m = true) (h : ∀ k, getN l k = getN m k) : l = m := by
  induction l generalizing m p q with
  | nil =>
    cases m with
    | nil => rfl
    | cons y t =>
      obtain ⟨j, d⟩ := y
      rw [checkF_cons] at hm
      have := h j
      rw [getN_head, getN] at this
      omega
  | cons x s ih =>
    obtain ⟨i, c⟩ := x
    cases m with
    | nil =>
      rw [checkF_cons] at hl
      have := h i
      rw [getN_head, getN] at this
      omega
    | cons y t =>
      obtain ⟨j, d⟩ := y
      rw [checkF_cons] at hl hm
      have hi := h i
      have hj := h j
      rw [getN_head, getN] at hi
      rw [getN_head, getN] at hj
      have hij : i = j := by
        by_cases h1 : i < j
        · rw [if_neg (by omega), getN_low hm.2.2.2 (by omega)] at hi; omega
        · by_cases h2 : j < i
          · rw [if_neg (by omega), getN_low hl.2.2.2 (by omega)] at hj; omega
          · omega
      subst hij
      rw [if_pos rfl] at hi
      subst hi
      congr 1
      refine ih hl.2.2.2 hm.2.2.2 (fun k => ?_)
      by_cases hk : k = i
      · subst hk; rw [getN_low hl.2.2.2 (Int.le_refl _), getN_low hm.2.2.2 (Int.le_refl _)]
      · have := h k
        rw [getN, getN, if_neg (by omega), if_neg (by omega)] at this
        exact this

theorem checkF_range {last : Int} (hl : -1 ≤ last) {l : Bks} (h : checkF last l = true) {k : Nat} (hk : k < l.length) : 0 ≤ (l.getD k (0, 0)).1 ∧ (l.getD k (0, 0)).1 ≤ 7423 := by
  induction l generalizing last k with
  | nil => simp at hk
  | cons x t ih =>
    obtain ⟨j, c⟩ := x
    rw [checkF_cons] at h
    cases k with
    | zero => simp; omega
    | succ k =>
      rw [List.getD_cons_succ]
      simp only [List.length_cons] at hk
      exact ih (by omega) h.2.2.2 (by omega)

theorem satS_word {a b : Int} (ha : 0 ≤ a ∧ a < 18446744073709551616) (hb : 0 ≤ b ∧ b < 18446744073709551616) : 0 ≤ satS a b ∧ satS a b < 18446744073709551616 := by
  unfold satS; split <;> omega
theorem satS_zero {a : Int} (h : a < 18446744073709551616) : satS a 0 = a := by unfold satS; rw [if_pos (by omega)]; omega
theorem zero_satS {a : Int} (h : a < 18446744073709551616) : satS 0 a = a := by unfold satS; rw [if_pos (by omega)]; omega
theorem satS_comm (a b : Int) : satS a b = satS b a := by unfold satS; rw [Int.add_comm]
theorem satS_assoc {a b c : Int} (ha : 0 ≤ a) (hc : 0 ≤ c) : satS (satS a b) c = satS a (satS b c) := by
  unfold satS; repeat' split
  all_goals omega

/-- One bucket has more. -/
def insS (k c : Int) : Bks → Bks
  | [] => [(k, c)]
  | (j, d) :: t => if j = k then (j, satS d c) :: t else if k < j then (k, c) :: (j, d) :: t else (j, d) :: insS k c t
theorem insS_check {k c : Int} (hk : k ≤ 7423) (hc : 0 < c) {last : Int} (hl : last < k) {l : Bks} (h : checkF last l = true) : checkF last (insS k c l) = true := by
  induction l generalizing last with
  | nil => rw [insS, checkF_cons]; exact ⟨hl, hk, hc, rfl⟩
  | cons x t ih =>
    obtain ⟨j, d⟩ := x
    rw [checkF_cons] at h
    rw [insS]
    split
    · rw [checkF_cons]
      refine ⟨h.1, h.2.1, ?_, h.2.2.2⟩
      unfold satS; split <;> omega
    · split
      · rw [checkF_cons, checkF_cons]; exact ⟨hl, hk, hc, by omega, h.2⟩
      · rw [checkF_cons]; exact ⟨h.1, h.2.1, h.2.2.1, ih (by omega) h.2.2.2⟩
theorem insS_get {k c : Int} (hc : c < 18446744073709551616) {last : Int} {l : Bks} (h : checkF last l = true) (i : Int) : getN (insS k c l) i = if i = k then satS (getN l k) c else getN l i := by
  induction l generalizing last with
  | nil =>
    simp only [insS, getN]
    by_cases hi : i = k
    · rw [if_pos hi.symm, if_pos hi, zero_satS hc]
    · rw [if_neg (fun e => hi e.symm), if_neg hi]
  | cons x t ih =>
    obtain ⟨j, d⟩ := x
    rw [checkF_cons] at h
    rw [insS]
    split
    · rename_i hj
      subst hj
      simp only [getN]
      by_cases hi : i = j
      · rw [if_pos hi.symm, if_pos hi]; simp
      · rw [if_neg (fun e => hi e.symm), if_neg hi, if_neg (fun e => hi e.symm)]
    · rename_i hj
      split
      · rename_i hkj
        rw [getN]
        by_cases hi : i = k
        · subst hi
          have h0 : getN ((j, d) :: t) i = 0 := getN_low (last := i) (checkF_last (last := last) (checkF_cons.2 h) hkj) (Int.le_refl _)
          rw [if_pos rfl, if_pos rfl, h0, zero_satS hc]
        · rw [if_neg (fun e => hi e.symm), if_neg hi]
      · rw [getN, getN, getN, if_neg hj]
        rw [ih h.2.2.2]
        by_cases hi : i = k
        · subst hi; rw [if_neg hj, if_pos rfl, if_pos rfl]
        · rw [if_neg hi, if_neg hi]
/-- .. by n, of which 0 is nothing. -/
def addN (l : Bks) (k c : Int) : Bks := if c = 0 then l else insS k c l
theorem addN_check {k c : Int} (h0 : 0 ≤ k) (hk : k ≤ 7423) (hc : 0 ≤ c) {l : Bks} (h : checkS l = true) : checkS (addN l k c) = true := by
  unfold addN checkS at *
  split
  · exact h
  · exact insS_check hk (by omega) (by omega) h
theorem addN_get {k c : Int} (hc : 0 ≤ c ∧ c < 18446744073709551616) {l : Bks} (hw : WordsB l) (h : checkS l = true) (i : Int) : getN (addN l k c) i = if i = k then satS (getN l k) c else getN l i := by
  unfold addN
  split
  · rename_i h0
    rw [h0, satS_zero (getN_word hw k).2]
    split
    · rename_i e; rw [e]
    · rfl
  · exact insS_get hc.2 h i

/-- Two lists as one. -/
def mrg : Bks → Bks → Bks
  | [], b => b
  | a, [] => a
  | (i, c) :: a, (k, d) :: b => if i < k then (i, c) :: mrg a ((k, d) :: b) else if k < i then (k, d) :: mrg ((i, c) :: a) b else (i, satS c d) :: mrg a b
termination_by a b => a.length + b.length
theorem mrg_nil (a : Bks) : mrg a [] = a := by cases a <;> simp [mrg]
theorem nil_mrg (b : Bks) : mrg [] b = b := by simp [mrg]
theorem mrg_cons (i c : Int) (a : Bks) (k d : Int) (b : Bks) : mrg ((i, c) :: a) ((k, d) :: b) = if i < k then (i, c) :: mrg a ((k, d) :: b) else if k < i then (k, d) :: mrg ((i, c) :: a) b else (i, satS c d) :: mrg a b := by
  rw [mrg]
theorem mrg_check {last : Int} {a b : Bks} (ha : checkF last a = true) (hb : checkF last b = true) : checkF last (mrg a b) = true := by
  obtain ⟨n, hn⟩ : ∃ n, a.length + b.length ≤ n := ⟨_, Nat.le_refl _⟩
  induction n generalizing a b last with
  | zero =>
    have : a = [] := List.length_eq_zero_iff.1 (by omega)
    subst this
    rw [nil_mrg]; exact hb
  | succ n ih =>
    cases a with
    | nil => rw [nil_mrg]; exact hb
    | cons x a =>
      cases b with
      | nil => rw [mrg_nil]; exact ha
      | cons y b =>
        obtain ⟨i, c⟩ := x
        obtain ⟨k, d⟩ := y
        simp only [List.length_cons] at hn
        have ha' := checkF_cons.1 ha
        have hb' := checkF_cons.1 hb
        rw [mrg_cons]
        split
        · rw [checkF_cons]
          exact ⟨ha'.1, ha'.2.1, ha'.2.2.1, ih ha'.2.2.2 (checkF_last hb (by omega)) (by simp only [List.length_cons]; omega)⟩
        · split
          · rw [checkF_cons]
            exact ⟨hb'.1, hb'.2.1, hb'.2.2.1, ih (checkF_last ha (by omega)) hb'.2.2.2 (by simp only [List.length_cons]; omega)⟩
          · have e : i = k := by omega
            subst e
            rw [checkF_cons]
            refine ⟨ha'.1, ha'.2.1, ?_, ih ha'.2.2.2 hb'.2.2.2 (by omega)⟩
            unfold satS; split <;> omega
theorem mrg_get {last : Int} {a b : Bks} (wa : WordsB a) (wb : WordsB b) (ha : checkF last a = true) (hb : checkF last b = true) (j : Int) : getN (mrg a b) j = satS (getN a j) (getN b j) := by
  obtain ⟨n, hn⟩ : ∃ n, a.length + b.length ≤ n := ⟨_, Nat.le_refl _⟩
  induction n generalizing a b last with
  | zero =>
    have : a = [] := List.length_eq_zero_iff.1 (by omega)
    subst this
    rw [nil_mrg, getN, zero_satS (getN_word wb j).2]
  | succ n ih =>
    cases a with
    | nil => rw [nil_mrg, getN, zero_satS (getN_word wb j).2]
    | cons x a =>
      cases b with
      | nil => rw [mrg_nil, getN.eq_1, satS_zero (getN_word wa j).2]
      | cons y b =>
        obtain ⟨i, c⟩ := x
        obtain ⟨k, d⟩ := y
        simp only [List.length_cons] at hn
        have ha' := checkF_cons.1 ha
        have hb' := checkF_cons.1 hb
        have wa' : WordsB a := fun z hz => wa z (List.mem_cons_of_mem _ hz)
        have wb' : WordsB b := fun z hz => wb z (List.mem_cons_of_mem _ hz)
        have wc := wa _ (List.mem_cons_self ..)
        have wd := wb _ (List.mem_cons_self ..)
        rw [mrg_cons]
        split
        · rename_i hik
          rw [getN, ih wa' wb ha'.2.2.2 (checkF_last hb (by omega)) (by simp only [List.length_cons]; omega)]
          by_cases hj : i = j
          · subst hj
            rw [if_pos rfl, getN_head, getN_low (checkF_last hb hik) (Int.le_refl _), satS_zero wc.2]
          · rw [if_neg hj]
            congr 1
            rw [getN, if_neg hj]
        · split
          · rename_i hki
            rw [getN, ih wa wb' (checkF_last ha (by omega)) hb'.2.2.2 (by simp only [List.length_cons]; omega)]
            by_cases hj : k = j
            · subst hj
              rw [if_pos rfl, getN_head, getN_low (checkF_last ha hki) (Int.le_refl _), zero_satS wd.2]
            · rw [if_neg hj]
              congr 1
              rw [getN, if_neg hj]
          · have e : i = k := by omega
            subst e
            rw [getN, getN, getN, ih wa' wb' ha'.2.2.2 hb'.2.2.2 (by omega)]
            split <;> rfl
end Go.Proofs.Ytjngpdhhkkambab
