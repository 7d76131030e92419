/-
  Plain laws of quantiles: a greater part never ends at a lower bucket; the first and the last; ranks of quantiles; of numbers seen one by one the quantile's bucket is that of the k-th least one.
  Conditions: counts are words of 64 bits; the lists may be; nothing is held.
-/
import Derived.Test.YtjngpdhhkkambabHistP
import Derived.Test.YtjngpdhhkkambabHistT
namespace Go.Proofs.Ytjngpdhhkkambab

theorem ceil_eq {a n b : Int} (ha : Word a) (hn : Word n) (_hb : Word b) (h0 : 0 < b) (h : a ≤ b) : ceilV a n b = (a * n + b - 1) / b := by
  obtain ⟨a0, a1⟩ := ha
  obtain ⟨n0, n1⟩ := hn
  have hm : 0 ≤ a * n := Int.mul_nonneg a0 n0
  have h1 : a * n ≤ b * n := Int.mul_le_mul_of_nonneg_right h n0
  have h2 : b * n < b * 18446744073709551616 := Int.mul_lt_mul_of_pos_left n1 h0
  have hhi : hiS a n < b := by unfold hiS; omega
  have hq : quoS (hiS a n) (loS a n) b = a * n / b := by unfold quoS; rw [whole]
  have hr : remS (hiS a n) (loS a n) b = a * n % b := by unfold remS; rw [whole]
  have hd := Int.mul_ediv_add_emod (a * n) b
  have hm0 := Int.emod_nonneg (a * n) (show b ≠ 0 by omega)
  have hm1 := Int.emod_lt_of_pos (a * n) h0
  have hqn : a * n / b ≤ n := Int.ediv_le_of_le_mul h0 (by rw [Int.mul_comm n b]; exact h1)
  unfold ceilV
  rw [hq, hr]
  have hlim : a * n % b = 0 ∨ a * n / b < 18446744073709551615 := by
    by_cases hz : a * n % b = 0
    · exact Or.inl hz
    · right
      have h3 : b * (a * n / b) < b * n := by omega
      have h4 := Int.lt_of_mul_lt_mul_left h3 (by omega)
      omega
  rw [if_pos ⟨hhi, hlim⟩]
  split
  · rename_i hz
    have : a * n + b - 1 = (b - 1) + b * (a * n / b) := by omega
    have e : (b - 1) / b = 0 := Int.ediv_eq_zero_of_lt (by omega) (by omega)
    rw [this, Int.add_mul_ediv_left _ _ (by omega), e, Int.zero_add]
  · rename_i hz
    have : a * n + b - 1 = (a * n % b - 1) + b * (a * n / b + 1) := by rw [Int.mul_add, Int.mul_one]; omega
    have e : (a * n % b - 1) / b = 0 := Int.ediv_eq_zero_of_lt (by omega) (by omega)
    rw [this, Int.add_mul_ediv_left _ _ (by omega), e, Int.zero_add]
theorem want_eq {a n b : Int} (ha : Word a) (hn : Word n) (hb : Word b) (h0 : 0 < b) (h : a ≤ b) : wantS n a b = if (a * n + b - 1) / b < 1 then 1 else (a * n + b - 1) / b := by
  unfold wantS
  rw [ceil_eq ha hn hb h0 h]
theorem want_range {a n b : Int} (ha : Word a) (hn : Word n) (hb : Word b) (h0 : 0 < b) (h : a ≤ b) (n1 : 1 ≤ n) : 1 ≤ wantS n a b ∧ wantS n a b ≤ n := by
  have h1 : a * n ≤ b * n := Int.mul_le_mul_of_nonneg_right h hn.1
  have h2 : (a * n + b - 1) / b ≤ n := by
    have : (a * n + b - 1) / b < n + 1 := Int.ediv_lt_of_lt_mul h0 (by rw [Int.add_mul, Int.one_mul, Int.mul_comm n b]; omega)
    omega
  rw [want_eq ha hn hb h0 h]
  split <;> omega
theorem want_mono {a a' n b : Int} (ha : Word a) (ha' : Word a') (hn : Word n) (hb : Word b) (h0 : 0 < b) (h : a ≤ a') (h' : a' ≤ b) : wantS n a b ≤ wantS n a' b := by
  have h1 : a * n ≤ a' * n := Int.mul_le_mul_of_nonneg_right h hn.1
  have h2 : (a * n + b - 1) / b ≤ (a' * n + b - 1) / b := Int.ediv_le_ediv h0 (by omega)
  rw [want_eq ha hn hb h0 (by omega), want_eq ha' hn hb h0 h']
  split <;> split <;> omega
theorem want_all {n b : Int} (hn : Word n) (hb : Word b) (h0 : 0 < b) (n1 : 1 ≤ n) : wantS n b b = n := by
  have h1 : (b * n + b - 1) / b = n := by
    have : b * n + b - 1 = (b - 1) + b * n := by omega
    have e : (b - 1) / b = 0 := Int.ediv_eq_zero_of_lt (by omega) (by omega)
    rw [this, Int.add_mul_ediv_left _ _ (by omega), e, Int.zero_add]
  rw [want_eq hb hn hb h0 (Int.le_refl _), h1, if_neg (by omega)]
theorem want_none {n b : Int} (hn : Word n) (hb : Word b) (h0 : 0 < b) : wantS n 0 b = 1 := by
  have h1 : (0 * n + b - 1) / b = 0 := by rw [Int.zero_mul, Int.zero_add]; exact Int.ediv_eq_zero_of_lt (by omega) (by omega)
  rw [want_eq ⟨by omega, by omega⟩ hn hb h0 (by omega), h1, if_pos (by omega)]

/-- The sum of a list's counts. -/
def sumB (l : Bks) : Int := (l.map (·.2)).sum
theorem sumB_append (l m : Bks) : sumB (l ++ m) = sumB l + sumB m := by unfold sumB; rw [List.map_append, List.sum_append]
theorem sumB_cons (k c : Int) (l : Bks) : sumB ((k, c) :: l) = c + sumB l := by simp [sumB]
theorem sumB_nonneg {l : Bks} (h : WordsB l) : 0 ≤ sumB l := sum_nonneg (wordsB_snd h)

theorem findB_spec {K s : Int} {l : Bks} (hs : s < K) (hk : K ≤ s + sumB l) : ∃ (l1 : Bks) (j c : Int) (l2 : Bks), l = l1 ++ (j, c) :: l2 ∧ findB K s l = some j ∧ s + sumB l1 < K ∧ K ≤ s + sumB l1 + c := by
  induction l generalizing s with
  | nil => simp [sumB] at hk; omega
  | cons x t ih =>
    obtain ⟨i, d⟩ := x
    rw [sumB_cons] at hk
    rw [findB]
    by_cases h : K ≤ s + d
    · exact ⟨[], i, d, t, rfl, by rw [if_pos h], by simp [sumB]; omega, by simp [sumB]; omega⟩
    · obtain ⟨l1, j, c, l2, e1, e2, e3, e4⟩ := ih (s := s + d) (by omega) (by omega)
      exact ⟨(i, d) :: l1, j, c, l2, by rw [e1]; rfl, by rw [if_neg h, e2], by rw [sumB_cons]; omega, by rw [sumB_cons]; omega⟩
theorem findB_above {K s last : Int} {l : Bks} (hc : checkF last l = true) {j : Int} (h : findB K s l = some j) : last < j := by
  induction l generalizing s last with
  | nil => simp [findB] at h
  | cons x t ih =>
    obtain ⟨i, d⟩ := x
    rw [checkF_cons] at hc
    rw [findB] at h
    split at h
    · simp at h; omega
    · have := ih hc.2.2.2 h; omega
theorem findB_mono {K K' s last : Int} {l : Bks} (hc : checkF last l = true) (hK : K ≤ K') {j j' : Int} (h : findB K s l = some j) (h' : findB K' s l = some j') : j ≤ j' := by
  induction l generalizing s last with
  | nil => simp [findB] at h
  | cons x t ih =>
    obtain ⟨i, d⟩ := x
    rw [checkF_cons] at hc
    rw [findB] at h h'
    by_cases c1 : K ≤ s + d
    · rw [if_pos c1] at h
      simp at h
      split at h'
      · simp at h'; omega
      · have := findB_above hc.2.2.2 h'; omega
    · rw [if_neg c1] at h
      rw [if_neg (by omega)] at h'
      exact ih hc.2.2.2 h h'
theorem findB_first {last i d s : Int} {t : Bks} (hc : checkF last ((i, d) :: t) = true) : findB (s + 1) s ((i, d) :: t) = some i := by
  rw [checkF_cons] at hc
  rw [findB, if_pos (by omega)]
theorem findB_last {last s : Int} {l : Bks} (hc : checkF last l = true) (hw : WordsB l) (hl : l ≠ []) : findB (s + sumB l) s l = some (lastD last l) := by
  induction l generalizing s last with
  | nil => exact absurd rfl hl
  | cons x t ih =>
    obtain ⟨i, d⟩ := x
    have hc' := checkF_cons.1 hc
    have ht : WordsB t := fun z hz => hw z (List.mem_cons_of_mem _ hz)
    rw [findB, sumB_cons, lastD]
    cases t with
    | nil => rw [if_pos (by simp [sumB])]; rfl
    | cons y t' =>
      obtain ⟨i', d'⟩ := y
      have hd' := checkF_cons.1 hc'.2.2.2
      have h0 : 0 ≤ sumB t' := sumB_nonneg (fun z hz => ht z (List.mem_cons_of_mem _ hz))
      rw [if_neg (by rw [sumB_cons]; omega), show s + (d + sumB ((i', d') :: t')) = s + d + sumB ((i', d') :: t') by omega]
      exact ih hc'.2.2.2 ht (by simp)

theorem count_sum {l : Bks} (hl : WordsB l) (h : countS l ≠ 18446744073709551615) : sumB l = countS l := (countS_sum hl h).1
/-- What a quantile is, where there is one. -/
theorem quant_some {l : Bks} (hg : Good l) {a b : Int} (ha : Word a) (hb : Word b) (h0 : 0 < b) (h : a ≤ b) (hs : countS l ≠ 18446744073709551615) (hn : countS l ≠ 0) :
    ∃ (l1 : Bks) (j c : Int) (l2 : Bks), l = l1 ++ (j, c) :: l2 ∧ quantS l a b = (lowS j, 0) ∧ findB (wantS (countS l) a b) 0 l = some j ∧ 0 ≤ j ∧ j ≤ 7423 ∧ sumB l1 < wantS (countS l) a b ∧ wantS (countS l) a b ≤ sumB l1 + c := by
  have hw := satAll_word (s := 0) ⟨by omega, by omega⟩ (wordsB_snd hg.words)
  change 0 ≤ countS l ∧ countS l < _ at hw
  obtain ⟨w0, w1⟩ := want_range ha ⟨hw.1, hw.2⟩ hb h0 h (by omega)
  obtain ⟨l1, j, c, l2, e1, e2, e3, e4⟩ := findB_spec (K := wantS (countS l) a b) (s := 0) (l := l) (by omega) (by rw [count_sum hg.words hs]; omega)
  have hj : 0 ≤ j ∧ j ≤ 7423 := by
    have hc := hg.check
    unfold checkS at hc
    rw [e1, checkF_append, Bool.and_eq_true, checkF_cons] at hc
    have := (checkF_lastD hc.1).1
    omega
  refine ⟨l1, j, c, l2, e1, ?_, e2, hj.1, hj.2, by omega, by omega⟩
  unfold quantS
  rw [if_neg (by omega), if_neg hs, if_neg hn, e2]

/-- A greater part never ends at a lower number; none ends at the first bucket, all at the last. -/
theorem quant_rises {l : Bks} (hg : Good l) {a b c : Int} (ha : Word a) (hb : Word b) (hc : Word c) (h0 : 0 < c) (h : a ≤ b) (h' : b ≤ c) (hs : countS l ≠ 18446744073709551615) (hn : countS l ≠ 0) :
    (quantS l a c).2 = 0 ∧ (quantS l b c).2 = 0 ∧ (quantS l c c).2 = 0 ∧ (quantS l a c).1 ≤ (quantS l b c).1 ∧ (quantS l b c).1 ≤ (quantS l c c).1 ∧
    (quantS l c c).1 = lowS (lastD (-1) l) ∧ (quantS l 0 c).1 = lowS (l.getD 0 (0, 0)).1 := by
  have hw := satAll_word (s := 0) ⟨by omega, by omega⟩ (wordsB_snd hg.words)
  change 0 ≤ countS l ∧ countS l < _ at hw
  obtain ⟨_, j1, _, _, _, q1, f1, j10, j11, _, _⟩ := quant_some hg ha hc h0 (by omega) hs hn
  obtain ⟨_, j2, _, _, _, q2, f2, j20, j21, _, _⟩ := quant_some hg hb hc h0 h' hs hn
  obtain ⟨_, j3, _, _, e3, q3, f3, j30, j31, _, _⟩ := quant_some hg hc hc h0 (Int.le_refl _) hs hn
  obtain ⟨_, j4, _, _, _, q4, f4, j40, j41, _, _⟩ := quant_some hg (a := 0) ⟨by omega, by omega⟩ hc h0 (by omega) hs hn
  have hne : l ≠ [] := by rw [e3]; simp
  have m1 := findB_mono hg.check (want_mono ha hb ⟨hw.1, hw.2⟩ hc h0 h h') f1 f2
  have m2 := findB_mono hg.check (want_mono hb hc ⟨hw.1, hw.2⟩ hc h0 h' (Int.le_refl _)) f2 f3
  rw [want_all ⟨hw.1, hw.2⟩ hc h0 (by omega)] at f3
  have hl := findB_last (s := 0) hg.check hg.words hne
  rw [Int.zero_add, count_sum hg.words hs, f3] at hl
  rw [want_none ⟨hw.1, hw.2⟩ hc h0] at f4
  have hf : j4 = (l.getD 0 (0, 0)).1 := by
    have hck := hg.check
    cases l with
    | nil => exact absurd rfl hne
    | cons x t =>
      obtain ⟨i, d⟩ := x
      have := findB_first (s := 0) hck
      rw [Int.zero_add, f4] at this
      simpa using this
  have hl2 : j3 = lastD (-1) l := by simpa using hl
  rw [q1, q2, q3, q4]
  exact ⟨rfl, rfl, rfl, lowS_le j10 m1 (by omega), lowS_le j20 m2 (by omega), by rw [hl2], by rw [hf]⟩

theorem upB_to {l1 : Bks} {j c : Int} {l2 : Bks} {last : Int} (hc : checkF last (l1 ++ (j, c) :: l2) = true) : upB (l1 ++ (j, c) :: l2) j = l1 ++ [(j, c)] := by
  induction l1 generalizing last with
  | nil =>
    have h := checkF_cons.1 hc
    rw [List.nil_append, upB_cons_le (Int.le_refl _)]
    cases l2 with
    | nil => rfl
    | cons y t => obtain ⟨k, d⟩ := y; have := checkF_cons.1 h.2.2.2; rw [upB_cons_gt (by omega)]; rfl
  | cons x t ih =>
    obtain ⟨i, d⟩ := x
    have h := checkF_cons.1 hc
    have h2 := h.2.2.2
    have hle : i < j := by
      rw [List.append_eq, checkF_append, Bool.and_eq_true, checkF_cons] at h2
      have := (checkF_lastD h2.1).1
      omega
    rw [List.cons_append, upB_cons_le (by omega), ih h2]
    rfl
theorem upB_less {l1 : Bks} {j c : Int} {l2 : Bks} {i : Int} (hi : i < j) (hw : WordsB (l1 ++ (j, c) :: l2)) : sumB (upB (l1 ++ (j, c) :: l2) i) ≤ sumB l1 := by
  induction l1 with
  | nil => rw [List.nil_append, upB_cons_gt hi]; exact Int.le_refl _
  | cons x t ih =>
    obtain ⟨k, d⟩ := x
    have hw' : WordsB (t ++ (j, c) :: l2) := fun z hz => hw z (List.mem_cons_of_mem _ hz)
    rw [List.cons_append]
    by_cases hk : k ≤ i
    · rw [upB_cons_le hk, sumB_cons, sumB_cons]
      have := ih hw'
      omega
    · rw [upB_cons_gt (by omega)]
      have : WordsB ((k, d) :: t) := fun z hz => hw z (by rcases List.mem_cons.1 hz with rfl | h <;> simp [*])
      have := sumB_nonneg this
      simpa [sumB] using this
theorem upB_sub (l : Bks) (k : Int) : ∃ m, l = upB l k ++ m := ⟨l.dropWhile (fun x => decide (x.1 ≤ k)), (List.takeWhile_append_dropWhile ..).symm⟩
theorem rank_sum {l : Bks} (hl : WordsB l) (h : countS l ≠ 18446744073709551615) (v : Int) : rankS l v = sumB (upB l (bucketS v)) := by
  obtain ⟨m, hm⟩ := upB_sub l (bucketS v)
  have hu : WordsB (upB l (bucketS v)) := fun x hx => hl x (by rw [hm]; simp [hx])
  have hmw : WordsB m := fun x hx => hl x (by rw [hm]; simp [hx])
  have h1 := count_sum hl h
  have h2 := (countS_sum hl h).2
  have h3 : sumB l = sumB (upB l (bucketS v)) + sumB m := by conv => lhs; rw [hm, sumB_append]
  have h4 := sumB_nonneg hmw
  unfold rankS
  rw [satAll_sum ⟨by omega, by omega⟩ (wordsB_snd hu)]
  change (if 0 + sumB (upB l (bucketS v)) < _ then 0 + sumB (upB l (bucketS v)) else _) = _
  rw [if_pos (by omega)]; omega
/-- The rank of a quantile is at least its part; that of the number ahead of it is less than all. -/
theorem quant_ranks {l : Bks} (hg : Good l) {a b : Int} (ha : Word a) (hb : Word b) (h0 : 0 < b) (h : a ≤ b) (hs : countS l ≠ 18446744073709551615) (hn : countS l ≠ 0) :
    (quantS l a b).2 = 0 ∧ 1 ≤ rankS l (quantS l a b).1 ∧ (a = b → countS l ≤ rankS l (quantS l a b).1) ∧ ((quantS l a b).1 = 0 ∨ rankS l ((quantS l a b).1 - 1) < countS l) := by
  have hw := satAll_word (s := 0) ⟨by omega, by omega⟩ (wordsB_snd hg.words)
  change 0 ≤ countS l ∧ countS l < _ at hw
  obtain ⟨l1, j, c, l2, e1, q1, f1, j0, j1, s1, s2⟩ := quant_some hg ha hb h0 h hs hn
  obtain ⟨w0, w1⟩ := want_range ha ⟨hw.1, hw.2⟩ hb h0 h (by omega)
  have hck := hg.check
  unfold checkS at hck
  rw [e1] at hck
  have hr : rankS l (lowS j) = sumB l1 + c := by
    rw [rank_sum hg.words hs, bucketS_low j0 j1]
    conv => lhs; rw [e1, upB_to hck, sumB_append]
    simp [sumB]
  rw [q1]
  refine ⟨rfl, by simp only; omega, fun e => ?_, ?_⟩
  · subst e
    rw [want_all ⟨hw.1, hw.2⟩ hb h0 (by omega)] at s2
    simp only; omega
  · by_cases hz : lowS j = 0
    · exact Or.inl hz
    · right
      obtain ⟨lw0, lw1⟩ := lowS_word j0 j1
      have hb2 : bucketS (lowS j - 1) < j := by
        obtain ⟨p0, p1⟩ := bucketS_between (v := lowS j - 1) (by omega) (by omega)
        obtain ⟨r0, r1⟩ := bucketS_range (v := lowS j - 1) (by omega) (by omega)
        by_cases hlt : bucketS (lowS j - 1) < j
        · exact hlt
        · have := lowS_le j0 (show j ≤ bucketS (lowS j - 1) by omega) (by omega); omega
      have hww := hg.words
      rw [e1] at hww
      have hu := upB_less hb2 hww
      simp only
      rw [rank_sum hg.words hs]
      rw [← e1] at hu
      omega
end Go.Proofs.Ytjngpdhhkkambab
