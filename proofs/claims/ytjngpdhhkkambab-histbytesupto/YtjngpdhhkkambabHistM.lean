/-
  An array of counts and the list of its buckets: the one tells the other; sums held at the greatest number, ranks and quantiles of both are the same.
  Conditions: counts are words of 64 bits.
-/
import Derived.Test.YtjngpdhhkkambabHistL
namespace Go.Proofs.Ytjngpdhhkkambab

/-- The buckets of counts, the first of which is bucket k's. -/
def spF : Int → List Int → Bks
  | _, [] => []
  | k, h :: t => if 0 < h then (k, h) :: spF (k + 1) t else spF (k + 1) t
/-- The buckets of an array of counts. -/
def spS (H : List Int) : Bks := spF 0 H
/-- Counts that are words. -/
def WordsH (H : List Int) : Prop := ∀ h ∈ H, 0 ≤ h ∧ h < 18446744073709551616
/-- A count. -/
def atH (H : List Int) (k : Int) : Int := if k < 0 then 0 else H.getD k.toNat 0

theorem spF_check {k : Int} {H : List Int} (h : k + H.length ≤ 7424) : checkF (k - 1) (spF k H) = true := by
  induction H generalizing k with
  | nil => rfl
  | cons c t ih =>
    simp only [List.length_cons] at h
    rw [spF]
    have := ih (k := k + 1) (by omega)
    split
    · rw [checkF_cons]
      exact ⟨by omega, by omega, by assumption, by rwa [show k + 1 - 1 = k by omega] at this⟩
    · exact checkF_mono this (by omega)
theorem spS_check {H : List Int} (h : H.length = 7424) : checkS (spS H) = true := spF_check (k := 0) (by omega)
theorem spF_get {k : Int} {H : List Int} (hH : WordsH H) (j : Int) : getN (spF k H) j = atH H (j - k) := by
  induction H generalizing k with
  | nil => simp [spF, getN, atH]
  | cons c t ih =>
    have ht : WordsH t := fun x hx => hH x (List.mem_cons_of_mem _ hx)
    have hc := hH c (List.mem_cons_self ..)
    have e : j ≠ k → atH t (j - (k + 1)) = atH (c :: t) (j - k) := by
      intro hjk
      unfold atH
      by_cases h0 : j - k < 0
      · rw [if_pos h0, if_pos (by omega)]
      · rw [if_neg h0, if_neg (by omega), show (j - k).toNat = (j - (k + 1)).toNat + 1 by omega, List.getD_cons_succ]
    have e0 : atH (c :: t) (k - k) = c := by simp [atH]
    rw [spF]
    split
    · rw [getN]
      split
      · rename_i h1; subst h1; rw [e0]
      · rw [ih ht, e (by omega)]
    · rw [ih ht]
      by_cases hjk : j = k
      · subst hjk
        rw [e0]
        unfold atH
        rw [if_pos (by omega)]; omega
      · exact e hjk
theorem spS_get {H : List Int} (hH : WordsH H) (j : Int) : getN (spS H) j = atH H j := by
  unfold spS
  rw [spF_get hH, Int.sub_zero]
theorem spF_words {k : Int} {H : List Int} (hH : WordsH H) : WordsB (spF k H) := by
  induction H generalizing k with
  | nil => intro x hx; cases hx
  | cons c t ih =>
    have ht : WordsH t := fun x hx => hH x (List.mem_cons_of_mem _ hx)
    rw [spF]
    split
    · intro x hx
      rcases List.mem_cons.1 hx with rfl | hx
      · exact hH c (List.mem_cons_self ..)
      · exact ih ht x hx
    · exact ih ht
theorem spS_words {H : List Int} (hH : WordsH H) : WordsB (spS H) := spF_words hH
theorem atH_set {H : List Int} {k c : Int} (h0 : 0 ≤ k) (h1 : k < H.length) (j : Int) : atH (H.set k.toNat c) j = if j = k then c else atH H j := by
  unfold atH
  by_cases hj : j < 0
  · rw [if_pos hj, if_neg (by omega), if_pos hj]
  · rw [if_neg hj, if_neg hj]
    by_cases e : j = k
    · subst e
      rw [if_pos rfl, List.getD_eq_getElem?_getD, List.getElem?_set_self (by omega)]
      rfl
    · rw [if_neg e, List.getD_eq_getElem?_getD, List.getD_eq_getElem?_getD, List.getElem?_set_ne (by omega)]
theorem words_set {H : List Int} (hH : WordsH H) (k : Nat) {c : Int} (hc : 0 ≤ c ∧ c < 18446744073709551616) : WordsH (H.set k c) := by
  intro x hx
  rcases List.mem_or_eq_of_mem_set hx with h | h
  · exact hH x h
  · subst h; exact hc
theorem atH_word {H : List Int} (hH : WordsH H) (k : Int) : 0 ≤ atH H k ∧ atH H k < 18446744073709551616 := by
  unfold atH
  split
  · exact ⟨by omega, by omega⟩
  · by_cases h : k.toNat < H.length
    · rw [List.getD_eq_getElem?_getD, List.getElem?_eq_getElem h]
      exact hH _ (List.getElem_mem h)
    · rw [List.getD_eq_getElem?_getD, List.getElem?_eq_none (by omega)]
      exact ⟨by simp, by simp⟩
/-- One more in an array's bucket is one more in its list. -/
theorem spS_add {H : List Int} (hl : H.length = 7424) (hH : WordsH H) {k c : Int} (h0 : 0 ≤ k) (h1 : k ≤ 7423) (hc : 0 ≤ c ∧ c < 18446744073709551616) : spS (H.set k.toNat (satS (atH H k) c)) = addN (spS H) k c := by
  have hw := words_set hH k.toNat (satS_word (atH_word hH k) hc)
  refine bks_ext (spS_check (by rw [List.length_set]; exact hl)) (addN_check h0 h1 hc.1 (spS_check hl)) (fun j => ?_)
  rw [spS_get hw, atH_set h0 (by omega), addN_get hc (spS_words hH) (spS_check hl), spS_get hH, spS_get hH]
/-- A list that may be is that of its own array. -/
theorem spS_of {l : Bks} {H : List Int} (hl : checkS l = true) (hn : H.length = 7424) (hH : WordsH H) (h : ∀ k, atH H k = getN l k) : spS H = l :=
  bks_ext (spS_check hn) hl (fun k => by rw [spS_get hH, h])

/-- A list's buckets put into an array one by one. -/
def addAll (H : List Int) (l : Bks) : List Int := l.foldl (fun H x => H.set x.1.toNat (satS (atH H x.1) x.2)) H
theorem addAll_len (H : List Int) (l : Bks) : (addAll H l).length = H.length := by
  unfold addAll
  induction l generalizing H with
  | nil => rfl
  | cons x t ih => rw [List.foldl_cons, ih, List.length_set]
theorem addAll_words {H : List Int} (hH : WordsH H) {l : Bks} (hl : WordsB l) : WordsH (addAll H l) := by
  unfold addAll
  induction l generalizing H with
  | nil => exact hH
  | cons x t ih =>
    rw [List.foldl_cons]
    exact ih (words_set hH _ (satS_word (atH_word hH _) (hl x (List.mem_cons_self ..)))) (fun y hy => hl y (List.mem_cons_of_mem _ hy))
theorem addAll_get {H : List Int} (hn : H.length = 7424) (hH : WordsH H) {l : Bks} (hw : WordsB l) {last : Int} (h0 : -1 ≤ last) (hl : checkF last l = true) (j : Int) : atH (addAll H l) j = satS (atH H j) (getN l j) := by
  unfold addAll
  induction l generalizing H last with
  | nil => rw [List.foldl_nil, getN, satS_zero (atH_word hH j).2]
  | cons x t ih =>
    obtain ⟨k, c⟩ := x
    rw [checkF_cons] at hl
    have hc := hw _ (List.mem_cons_self ..)
    rw [List.foldl_cons, ih (by rw [List.length_set]; exact hn) (words_set hH _ (satS_word (atH_word hH _) hc)) (fun y hy => hw y (List.mem_cons_of_mem _ hy)) (by omega) hl.2.2.2, atH_set (by omega) (by omega), getN]
    by_cases e : j = k
    · subst e
      rw [if_pos rfl, if_pos rfl, getN_low hl.2.2.2 (Int.le_refl _), satS_zero (satS_word (atH_word hH _) hc).2]
    · rw [if_neg e, if_neg (fun h => e h.symm)]
theorem spS_addAll {H : List Int} (hn : H.length = 7424) (hH : WordsH H) {l : Bks} (hw : WordsB l) (hl : checkS l = true) : spS (addAll H l) = mrg (spS H) l := by
  refine bks_ext (spS_check (by rw [addAll_len]; exact hn)) (mrg_check (last := -1) (spS_check hn) hl) (fun j => ?_)
  rw [spS_get (addAll_words hH hw), addAll_get hn hH hw (Int.le_refl _) hl, mrg_get (spS_words hH) hw (spS_check hn) hl, spS_get hH]

/-- Nothing seen. -/
def H0 : List Int := List.replicate 7424 0
theorem H0_len : H0.length = 7424 := List.length_replicate ..
theorem H0_words : WordsH H0 := by
  intro h hh
  rw [(List.mem_replicate.1 hh).2]
  exact ⟨by omega, by omega⟩
theorem atH_H0 (k : Int) : atH H0 k = 0 := by
  unfold atH H0
  split
  · rfl
  · rw [List.getD_eq_getElem?_getD, List.getElem?_replicate]
    split <;> rfl
theorem spS_H0 : spS H0 = [] := spS_of rfl H0_len H0_words (fun k => by rw [atH_H0]; rfl)
theorem spS_from {l : Bks} (hw : WordsB l) (hl : checkS l = true) : spS (addAll H0 l) = l := by
  rw [spS_addAll H0_len H0_words hw hl, spS_H0, nil_mrg]

/-- A sum that is held, of many. -/
def satAll (s : Int) (l : List Int) : Int := l.foldl satS s
theorem satAll_sum {s : Int} {l : List Int} (hs : 0 ≤ s ∧ s < 18446744073709551616) (hl : WordsH l) : satAll s l = if s + l.sum < 18446744073709551616 then s + l.sum else 18446744073709551615 := by
  unfold satAll
  induction l generalizing s with
  | nil => simp; omega
  | cons c t ih =>
    have hc := hl c (List.mem_cons_self ..)
    have ht : WordsH t := fun x hx => hl x (List.mem_cons_of_mem _ hx)
    have hp : 0 ≤ t.sum := by
      clear ih hl hs
      induction t with
      | nil => simp
      | cons d t ih =>
        have := ht d (List.mem_cons_self ..)
        have := ih (fun x hx => ht x (List.mem_cons_of_mem _ hx))
        rw [List.sum_cons]; omega
    rw [List.foldl_cons, ih (satS_word hs hc) ht, List.sum_cons]
    unfold satS
    repeat' split
    all_goals omega
theorem spF_sum {k : Int} {H : List Int} (hH : WordsH H) : ((spF k H).map (·.2)).sum = H.sum := by
  induction H generalizing k with
  | nil => rfl
  | cons c t ih =>
    have hc := hH c (List.mem_cons_self ..)
    have ht : WordsH t := fun x hx => hH x (List.mem_cons_of_mem _ hx)
    rw [spF]
    split
    · rw [List.map_cons, List.sum_cons, List.sum_cons, ih ht]
    · rw [ih ht, List.sum_cons]; omega
theorem wordsB_snd {l : Bks} (h : WordsB l) : WordsH (l.map (·.2)) := by
  intro c hc
  obtain ⟨x, hx, rfl⟩ := List.mem_map.1 hc
  exact h x hx
theorem count_same {H : List Int} (hH : WordsH H) : satAll 0 ((spS H).map (·.2)) = satAll 0 H := by
  rw [satAll_sum ⟨by omega, by omega⟩ (wordsB_snd (spS_words hH)), satAll_sum ⟨by omega, by omega⟩ hH, spS, spF_sum hH]

/-- The buckets up to one. -/
def upB (l : Bks) (k : Int) : Bks := l.takeWhile (fun x => decide (x.1 ≤ k))
theorem upB_spF {k j : Int} {H : List Int} : upB (spF k H) j = spF k (H.take (j + 1 - k).toNat) := by
  induction H generalizing k with
  | nil => simp [spF, upB]
  | cons c t ih =>
    by_cases h : k ≤ j
    · rw [show (j + 1 - k).toNat = (j + 1 - (k + 1)).toNat + 1 by omega, List.take_succ_cons, spF, spF]
      split
      · unfold upB
        rw [List.takeWhile_cons, if_pos (by simpa using h)]
        rw [← ih]; rfl
      · exact ih
    · have h2 : ∀ (m : Int) (t : List Int), j < m → upB (spF m t) j = [] := by
        intro m t hm
        induction t generalizing m with
        | nil => rfl
        | cons d t ih =>
          rw [spF]
          split
          · unfold upB
            rw [List.takeWhile_cons, if_neg (by simp; omega)]
          · exact ih _ (by omega)
      rw [h2 k (c :: t) (by omega), show (j + 1 - k).toNat = 0 by omega, List.take_zero, spF]
theorem rank_same {H : List Int} (hH : WordsH H) (j : Int) : satAll 0 ((upB (spS H) j).map (·.2)) = satAll 0 (H.take (j + 1).toNat) := by
  have ht : WordsH (H.take (j + 1).toNat) := fun x hx => hH x (List.mem_of_mem_take hx)
  rw [spS, upB_spF, Int.sub_zero]
  exact count_same ht

/-- The first bucket of which, with those ahead, the sum is k or more. -/
def findB (k : Int) : Int → Bks → Option Int
  | _, [] => none
  | s, (j, c) :: t => if k ≤ s + c then some j else findB k (s + c) t
/-- .. of an array. -/
def findA (k : Int) : Int → Int → List Int → Option Int
  | _, _, [] => none
  | s, i, c :: t => if k ≤ s + c then some i else findA k (s + c) (i + 1) t
theorem find_same {k s i : Int} {H : List Int} (hH : WordsH H) (hs : s < k) : findB k s (spF i H) = findA k s i H := by
  induction H generalizing s i with
  | nil => rfl
  | cons c t ih =>
    have hc := hH c (List.mem_cons_self ..)
    have ht : WordsH t := fun x hx => hH x (List.mem_cons_of_mem _ hx)
    rw [spF, findA]
    split
    · rw [findB]
      split
      · rfl
      · exact ih ht (by omega)
    · rw [if_neg (by omega), ih ht (by omega), show s + c = s by omega]
theorem findA_spec {k s i : Int} {H : List Int} (hH : WordsH H) (hs : s < k) (hk : k ≤ s + H.sum) : ∃ n : Nat, n < H.length ∧ findA k s i H = some (i + n) ∧ s + (H.take n).sum < k ∧ k ≤ s + (H.take (n + 1)).sum := by
  induction H generalizing s i with
  | nil => simp at hk; omega
  | cons c t ih =>
    have ht : WordsH t := fun x hx => hH x (List.mem_cons_of_mem _ hx)
    rw [List.sum_cons] at hk
    rw [findA]
    by_cases h : k ≤ s + c
    · refine ⟨0, by simp, by rw [if_pos h]; simp, by simpa using hs, ?_⟩
      rw [List.take_succ_cons, List.take_zero, List.sum_cons, List.sum_nil]; omega
    · obtain ⟨n, h1, h2, h3, h4⟩ := ih (s := s + c) (i := i + 1) ht (by omega) (by omega)
      refine ⟨n + 1, by simp; omega, by rw [if_neg h, h2]; congr 1; omega, ?_, ?_⟩
      · rw [List.take_succ_cons, List.sum_cons]; omega
      · rw [List.take_succ_cons, List.sum_cons]; omega
end Go.Proofs.Ytjngpdhhkkambab
