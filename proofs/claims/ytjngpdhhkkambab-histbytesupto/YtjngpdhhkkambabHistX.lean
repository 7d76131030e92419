/-
  The theorem of layer 7, plain: of numbers seen one by one the quantile is the least number of the bucket in which the k-th least one lies.
  Conditions: the numbers are words of 64 bits, no more than a million.
-/
import Derived.Test.YtjngpdhhkkambabHistQ
namespace Go.Proofs.Ytjngpdhhkkambab

theorem upB_ins {k j last : Int} {l : Bks} (hc : checkF last l = true) (hs : ∀ x ∈ l, x.2 + 1 < 18446744073709551616) : sumB (upB (insS k 1 l) j) = sumB (upB l j) + if k ≤ j then 1 else 0 := by
  induction l generalizing last with
  | nil =>
    rw [insS]
    by_cases h : k ≤ j
    · rw [upB_cons_le h, if_pos h]; simp [upB, sumB]
    · rw [upB_cons_gt (by omega), if_neg h]; simp [upB, sumB]
  | cons x t ih =>
    obtain ⟨i, d⟩ := x
    have hc' := checkF_cons.1 hc
    have hd := hs _ (List.mem_cons_self ..)
    have ht : ∀ x ∈ t, x.2 + 1 < 18446744073709551616 := fun x hx => hs x (List.mem_cons_of_mem _ hx)
    simp only at hd
    rw [insS]
    split
    · rename_i e
      subst e
      have e1 : satS d 1 = d + 1 := by unfold satS; rw [if_pos (by omega)]
      by_cases h : i ≤ j
      · rw [upB_cons_le h, upB_cons_le h, if_pos h, sumB_cons, sumB_cons, e1]; omega
      · rw [upB_cons_gt (by omega), upB_cons_gt (by omega), if_neg h]; omega
    · split
      · by_cases h : k ≤ j
        · rw [upB_cons_le h, if_pos h, sumB_cons]; omega
        · rw [upB_cons_gt (by omega), upB_cons_gt (by omega), if_neg h]; omega
      · by_cases h : i ≤ j
        · rw [upB_cons_le h, upB_cons_le h, sumB_cons, sumB_cons, ih hc'.2.2.2 ht]; omega
        · rw [upB_cons_gt (by omega), upB_cons_gt (by omega), if_neg (by omega)]; omega
theorem mem_getN {last : Int} {l : Bks} (hc : checkF last l = true) {x : Int × Int} (hx : x ∈ l) : getN l x.1 = x.2 := by
  induction l generalizing last with
  | nil => cases hx
  | cons y t ih =>
    obtain ⟨i, d⟩ := y
    have hc' := checkF_cons.1 hc
    rcases List.mem_cons.1 hx with rfl | hx
    · exact getN_head
    · have h1 := ih hc'.2.2.2 hx
      have h2 : i < x.1 := by
        by_cases h : i < x.1
        · exact h
        · have h3 := getN_low hc'.2.2.2 (k := x.1) (by omega)
          have h4 : ∀ {last : Int} {l : Bks}, checkF last l = true → ∀ y ∈ l, 0 < y.2 := by
            intro last l
            induction l generalizing last with
            | nil => intro _ y hy; cases hy
            | cons z t ih =>
              obtain ⟨a, b⟩ := z
              intro h y hy
              have h' := checkF_cons.1 h
              rcases List.mem_cons.1 hy with rfl | hy
              · exact h'.2.2.1
              · exact ih h'.2.2.2 y hy
          have := h4 hc'.2.2.2 x hx
          omega
      rw [getN, if_neg (by omega)]
      exact h1
/-- How many numbers lie in the buckets up to one. -/
def upTo (l : List Int) (j : Int) : Nat := (l.filter (fun v => decide (bucketS v ≤ j))).length
theorem upTo_snoc (l : List Int) (v j : Int) : upTo (l ++ [v]) j = upTo l j + if bucketS v ≤ j then 1 else 0 := by
  unfold upTo
  rw [List.filter_append, List.length_append]
  by_cases h : bucketS v ≤ j <;> simp [h]
theorem seen_upTo {l : List Int} (hl : WordsH l) (hn : l.length ≤ 1000000) (j : Int) : sumB (upB (seen l) j) = upTo l j := by
  revert hl hn
  refine snoc_ind (p := fun l => WordsH l → l.length ≤ 1000000 → sumB (upB (seen l) j) = upTo l j) (fun _ _ => rfl) (fun l v ih hl hn => ?_) l
  have hl' : WordsH l := fun x hx => hl x (by simp [hx])
  rw [List.length_append] at hn
  simp only [List.length_cons, List.length_nil] at hn
  have hg := seen_good hl'
  have hsm : ∀ x ∈ seen l, x.2 + 1 < 18446744073709551616 := by
    intro x hx
    have h1 := mem_getN hg.check hx
    rw [seen_get hl' (by omega)] at h1
    have := inB_le l x.1
    omega
  rw [seen_snoc, addN, if_neg (by decide), upB_ins hg.check hsm, ih hl' (by omega), upTo_snoc]
  split <;> omega
theorem seen_count {l : List Int} (hl : WordsH l) (hn : l.length ≤ 1000000) : countS (seen l) = l.length ∧ sumB (seen l) = l.length := by
  have h1 : countS (seen l) = l.length := by
    revert hl hn
    refine snoc_ind (p := fun l => WordsH l → l.length ≤ 1000000 → countS (seen l) = l.length) (fun _ _ => rfl) (fun l v ih hl hn => ?_) l
    have hl' : WordsH l := fun x hx => hl x (by simp [hx])
    rw [List.length_append] at hn ⊢
    simp only [List.length_cons, List.length_nil] at hn ⊢
    have h2 := addN_count (k := bucketS v) (c := 1) (by omega) (seen_good hl').words
    change countS (addN (seen l) (bucketS v) 1) = satS (countS (seen l)) 1 at h2
    rw [seen_snoc, h2, ih hl' (by omega)]
    unfold satS
    rw [if_pos (by omega)]; omega
  exact ⟨h1, by rw [count_sum (seen_good hl).words (by omega), h1]⟩

theorem filter_all {p : Int → Bool} {l : List Int} (h : ∀ x ∈ l, p x = true) : (l.filter p).length = l.length := by rw [List.filter_eq_self.2 h]
theorem filter_none {p : Int → Bool} {l : List Int} (h : ∀ x ∈ l, p x = false) : (l.filter p).length = 0 := by
  rw [List.filter_eq_nil_iff.2 (fun x hx => by simp [h x hx])]; rfl
theorem upTo_parts (l : List Int) (k : Nat) (j : Int) : upTo l j = upTo (l.take k) j + upTo (l.drop k) j := by
  unfold upTo
  conv => lhs; rw [← List.take_append_drop k l, List.filter_append, List.length_append]
theorem sorted_at {s : List Int} (hs : s.Pairwise (· ≤ ·)) {k : Nat} (hk : k < s.length) : (∀ x ∈ s.take (k + 1), x ≤ s.getD k 0) ∧ ∀ x ∈ s.drop k, s.getD k 0 ≤ x := by
  have hg : s.getD k 0 = s[k] := by rw [List.getD_eq_getElem?_getD, List.getElem?_eq_getElem hk]; rfl
  rw [hg]
  rw [List.pairwise_iff_getElem] at hs
  constructor
  · intro x hx
    obtain ⟨i, hi, rfl⟩ := List.mem_iff_getElem.1 hx
    rw [List.length_take] at hi
    rw [List.getElem_take]
    by_cases e : i = k
    · subst e; exact Int.le_refl _
    · exact hs i k (by omega) hk (by omega)
  · intro x hx
    obtain ⟨i, hi, rfl⟩ := List.mem_iff_getElem.1 hx
    rw [List.length_drop] at hi
    rw [List.getElem_drop]
    by_cases e : i = 0
    · subst e; exact Int.le_refl _
    · exact hs k (k + i) hk (by omega) (by omega)
/-- The k-th least number's bucket. -/
theorem kth_bucket {s : List Int} (hs : s.Pairwise (· ≤ ·)) (hw : WordsH s) {k : Nat} (hk : k < s.length) {j : Int} (hlt : (upTo s (j - 1) : Int) < k + 1) (hle : (k : Int) + 1 ≤ upTo s j) : bucketS (s.getD k 0) = j := by
  obtain ⟨h1, h2⟩ := sorted_at hs hk
  have hx : s.getD k 0 ∈ s := by rw [List.getD_eq_getElem?_getD, List.getElem?_eq_getElem hk]; exact List.getElem_mem hk
  have hxw := hw _ hx
  by_cases c1 : bucketS (s.getD k 0) < j
  · exfalso
    have : upTo (s.take (k + 1)) (j - 1) = k + 1 := by
      unfold upTo
      rw [filter_all, List.length_take]
      · omega
      · intro x hx'
        have := bucketS_mono (hw x (List.mem_of_mem_take hx')).1 (h1 x hx') hxw.2
        simp; omega
    have := upTo_parts s (k + 1) (j - 1)
    omega
  · by_cases c2 : j < bucketS (s.getD k 0)
    · exfalso
      have e0 : upTo (s.drop k) j = 0 := by
        unfold upTo
        refine filter_none (fun x hx' => ?_)
        have := bucketS_mono hxw.1 (h2 x hx') (hw x (List.mem_of_mem_drop hx')).2
        simp; omega
      have e1 := upTo_parts s k j
      have e2 : upTo (s.take k) j ≤ k := by
        unfold upTo
        have := List.length_filter_le (fun v => decide (bucketS v ≤ j)) (s.take k)
        rw [List.length_take] at this
        omega
      omega
    · omega
/-- Of numbers seen one by one: the quantile. -/
theorem seen_quant {l s : List Int} (hl : WordsH l) (hn : l.length ≤ 1000000) (h1 : l ≠ []) (hp : s.Perm l) (hs : s.Pairwise (· ≤ ·)) {a b : Int} (ha : Word a) (hb : Word b) (h0 : 0 < b) (h : a ≤ b) :
    ∃ k : Nat, k < s.length ∧ wantS l.length a b = (k : Int) + 1 ∧ quantS (seen l) a b = (lowS (bucketS (s.getD k 0)), 0) := by
  obtain ⟨c1, c2⟩ := seen_count hl hn
  have hlen : 1 ≤ l.length := by cases l with | nil => exact absurd rfl h1 | cons _ _ => simp
  have hg := seen_good hl
  have hw : WordsH s := fun x hx => hl x (hp.mem_iff.1 hx)
  obtain ⟨l1, j, c, l2, e1, q1, f1, j0, j1, s1, s2⟩ := quant_some hg ha hb h0 h (by omega) (by omega)
  rw [c1] at s1 s2
  obtain ⟨w0, w1⟩ := want_range (n := (l.length : Int)) ha ⟨by omega, by omega⟩ hb h0 h (by omega)
  have hck := hg.check
  unfold checkS at hck
  have hww := hg.words
  rw [e1] at hck hww
  have u1 : (upTo l (j - 1) : Int) ≤ sumB l1 := by
    rw [← seen_upTo hl hn, e1]
    exact upB_less (by omega) hww
  have u2 : (upTo l j : Int) = sumB l1 + c := by
    rw [← seen_upTo hl hn, e1, upB_to hck, sumB_append]
    simp [sumB]
  have us : ∀ i, upTo s i = upTo l i := fun i => by unfold upTo; exact (hp.filter _).length_eq
  have hsl := hp.length_eq
  refine ⟨(wantS l.length a b - 1).toNat, by omega, by omega, ?_⟩
  rw [q1, kth_bucket hs hw (by omega) (j := j)]
  · rw [us]; omega
  · rw [us]; omega
end Go.Proofs.Ytjngpdhhkkambab
