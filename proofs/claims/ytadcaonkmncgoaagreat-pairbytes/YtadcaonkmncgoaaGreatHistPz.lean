/-
  Buckets as plain arithmetic: a number's bucket, a bucket's least and greatest number; a number lies between its bucket's ends, no more than a 128th of it above the lower one; buckets rise, and follow upon each other. Lists of buckets as plain lists of pairs (which, how often): whether they may be; what one more makes of them; two lists as one; sums held at the greatest number; the same of an array of counts. An array of counts and the list of its buckets: the one tells the other; sums held at the greatest number, ranks and quantiles of both are the same. Plain laws of lists of buckets: to merge may be turned round and grouped; how many there are; numbers in two parts; so often at once is so often one by one. A number's bucket by how many bits it has: plain arithmetic.
  Conditions: numbers are words of 64 bits; buckets go from 0 to 7423; counts are words of 64 bits; counts are words of 64 bits; the lists may be; as each theorem says.
-/
import Derived.Below
import Derived.Lib.BitFns
namespace Go.Proofs.YtadcaonkmncgoaaGreat

/-- A number's bucket, by halving at most f times. -/
def bkt : Nat → Int → Int
  | 0, v => v
  | f + 1, v => if v < 256 then v else 128 + bkt f (v / 2)
/-- A number's bucket. -/
def bucketS (v : Int) : Int := bkt 56 v
/-- How many bits a bucket leaves out. -/
def bexp (k : Int) : Nat := if k < 256 then 0 else (k / 128 - 1).toNat
/-- A bucket's least number. -/
def lowS (k : Int) : Int := if k < 256 then k else (k - 128 * (k / 128 - 1)) * 2 ^ (k / 128 - 1).toNat
/-- A bucket's greatest number. -/
def highS (k : Int) : Int := lowS (k + 1) - 1

theorem two_pos (e : Nat) : (0 : Int) < 2 ^ e := Int.pow_pos (by decide)
theorem two_succ (e : Nat) : (2 : Int) ^ (e + 1) = 2 * 2 ^ e := by rw [Int.pow_succ, Int.mul_comm]
theorem div_two (v : Int) (e : Nat) : v / 2 ^ (e + 1) = v / 2 / 2 ^ e := by
  rw [two_succ, Int.ediv_ediv_of_nonneg (by decide)]

theorem bkt_spec (f : Nat) (v : Int) (h0 : 0 ≤ v) (h1 : v < 256 * 2 ^ f) : ∃ e : Nat, e ≤ f ∧ (e = 0 ∨ 128 * 2 ^ e ≤ v) ∧ v < 256 * 2 ^ e ∧ bkt f v = 128 * e + v / 2 ^ e := by
  induction f generalizing v with
  | zero => exact ⟨0, Nat.le_refl _, Or.inl rfl, h1, by simp [bkt]⟩
  | succ f ih =>
    by_cases hv : v < 256
    · exact ⟨0, by omega, Or.inl rfl, by simpa using hv, by simp [bkt, hv]⟩
    · rw [two_succ] at h1
      obtain ⟨e, e1, e2, e3, e4⟩ := ih (v / 2) (by omega) (by omega)
      refine ⟨e + 1, by omega, Or.inr ?_, ?_, ?_⟩
      · rw [two_succ]
        rcases e2 with rfl | e2
        · simp at *; omega
        · omega
      · rw [two_succ]; omega
      · rw [bkt, if_neg hv, e4, div_two]; omega

/-- A number that leaves e bits out lies in the bucket that its first eight bits say. -/
theorem bucketS_spec {v : Int} (h0 : 0 ≤ v) (h1 : v < 18446744073709551616) : ∃ (e : Nat) (m : Int), e ≤ 56 ∧ 0 ≤ m ∧ m ≤ 255 ∧ (e = 0 ∨ 128 ≤ m) ∧ m * 2 ^ e ≤ v ∧ v < m * 2 ^ e + 2 ^ e ∧ bucketS v = 128 * e + m := by
  obtain ⟨e, e1, e2, e3, e4⟩ := bkt_spec 56 v h0 (by omega)
  have hp := two_pos e
  have hd := Int.mul_ediv_add_emod v (2 ^ e)
  have hm := Int.emod_nonneg v (show (2 : Int) ^ e ≠ 0 by omega)
  have hl := Int.emod_lt_of_pos v hp
  rw [Int.mul_comm] at hd
  refine ⟨e, v / 2 ^ e, e1, Int.ediv_nonneg h0 (by omega), ?_, ?_, by omega, by omega, e4⟩
  · have : v / 2 ^ e < 256 := Int.ediv_lt_of_lt_mul hp e3
    omega
  · rcases e2 with h | h
    · exact Or.inl h
    · exact Or.inr (Int.le_ediv_of_mul_le hp h)

theorem lowS_small {k : Int} (h : k < 256) : lowS k = k := by unfold lowS; rw [if_pos h]
theorem lowS_parts (e : Nat) {m : Int} (h0 : 0 ≤ m) (h1 : m ≤ 255) (h2 : e = 0 ∨ 128 ≤ m) : lowS (128 * e + m) = m * 2 ^ e := by
  cases e with
  | zero => rw [lowS_small (by omega)]; simp
  | succ e =>
    have hm : 128 ≤ m := by omega
    have hd : (128 * ((e + 1 : Nat) : Int) + m) / 128 - 1 = ((e + 1 : Nat) : Int) := by omega
    unfold lowS
    rw [if_neg (by omega), hd, Int.toNat_natCast]
    congr 1
    omega
theorem lowS_next (e : Nat) {m : Int} (h0 : 0 ≤ m) (h1 : m ≤ 255) (h2 : e = 0 ∨ 128 ≤ m) : lowS (128 * e + m + 1) = m * 2 ^ e + 2 ^ e := by
  by_cases hm : m = 255
  · subst hm
    have : (128 * (e : Int) + 255 + 1) = 128 * ((e + 1 : Nat) : Int) + 128 := by omega
    rw [this, lowS_parts (e + 1) (by omega) (by omega) (Or.inr (by omega)), two_succ]
    omega
  · rw [Int.add_assoc, lowS_parts e (by omega) (by omega) (by omega), Int.add_mul, Int.one_mul]
/-- Every bucket is so. -/
theorem bucket_parts {k : Int} (h0 : 0 ≤ k) (h1 : k ≤ 7423) : ∃ (e : Nat) (m : Int), e ≤ 56 ∧ 0 ≤ m ∧ m ≤ 255 ∧ (e = 0 ∨ 128 ≤ m) ∧ k = 128 * e + m := by
  by_cases h : k < 256
  · exact ⟨0, k, by omega, h0, by omega, Or.inl rfl, by omega⟩
  · exact ⟨(k / 128 - 1).toNat, k - 128 * (k / 128 - 1), by omega, by omega, by omega, Or.inr (by omega), by omega⟩
theorem lowS_step {k : Int} (h0 : 0 ≤ k) (h1 : k ≤ 7423) : lowS k < lowS (k + 1) := by
  obtain ⟨e, m, e1, m0, m1, hm, rfl⟩ := bucket_parts h0 h1
  have := two_pos e
  rw [lowS_parts e m0 m1 hm, lowS_next e m0 m1 hm]
  omega
theorem lowS_lt {j k : Int} (h0 : 0 ≤ j) (h1 : j < k) (h2 : k ≤ 7424) : lowS j < lowS k := by
  obtain ⟨n, hn⟩ : ∃ n : Nat, k = j + 1 + n := ⟨(k - j - 1).toNat, by omega⟩
  induction n generalizing k with
  | zero => rw [hn]; simpa using lowS_step h0 (by omega)
  | succ n ih =>
    have h3 := ih (k := j + 1 + n) (by omega) (by omega) rfl
    have h4 := lowS_step (k := j + 1 + n) (by omega) (by omega)
    rw [hn, show j + 1 + ((n + 1 : Nat) : Int) = j + 1 + n + 1 by omega]
    omega
theorem lowS_le {j k : Int} (h0 : 0 ≤ j) (h1 : j ≤ k) (h2 : k ≤ 7424) : lowS j ≤ lowS k := by
  by_cases h : j = k
  · rw [h]; omega
  · have := lowS_lt h0 (show j < k by omega) h2; omega
theorem lowS_top : lowS 7424 = 18446744073709551616 := by decide
theorem lowS_zero : lowS 0 = 0 := by decide

theorem bucketS_range {v : Int} (h0 : 0 ≤ v) (h1 : v < 18446744073709551616) : 0 ≤ bucketS v ∧ bucketS v ≤ 7423 := by
  obtain ⟨e, m, e1, m0, m1, _, _, _, hb⟩ := bucketS_spec h0 h1
  rw [hb]
  exact ⟨by omega, by omega⟩
theorem bucketS_between {v : Int} (h0 : 0 ≤ v) (h1 : v < 18446744073709551616) : lowS (bucketS v) ≤ v ∧ v < lowS (bucketS v + 1) := by
  obtain ⟨e, m, e1, m0, m1, hm, h2, h3, hb⟩ := bucketS_spec h0 h1
  rw [hb, lowS_parts e m0 m1 hm, lowS_next e m0 m1 hm]
  exact ⟨h2, h3⟩
theorem bucketS_of {v k : Int} (h0 : 0 ≤ v) (h1 : v < 18446744073709551616) (k0 : 0 ≤ k) (k1 : k ≤ 7423) (l : lowS k ≤ v) (u : v < lowS (k + 1)) : bucketS v = k := by
  obtain ⟨b0, b1⟩ := bucketS_range h0 h1
  obtain ⟨c0, c1⟩ := bucketS_between h0 h1
  by_cases h : bucketS v < k
  · have := lowS_le (j := bucketS v + 1) (k := k) (by omega) (by omega) (by omega); omega
  · by_cases h' : k < bucketS v
    · have := lowS_le (j := k + 1) (k := bucketS v) (by omega) (by omega) (by omega); omega
    · omega
theorem lowS_word {k : Int} (h0 : 0 ≤ k) (h1 : k ≤ 7423) : 0 ≤ lowS k ∧ lowS k < 18446744073709551616 := by
  have h2 := lowS_le (j := 0) (k := k) (by omega) h0 (by omega)
  have h3 := lowS_lt (j := k) (k := 7424) h0 (by omega) (by omega)
  rw [lowS_zero] at h2
  rw [lowS_top] at h3
  exact ⟨h2, h3⟩
theorem highS_word {k : Int} (h0 : 0 ≤ k) (h1 : k ≤ 7423) : lowS k ≤ highS k ∧ highS k < 18446744073709551616 := by
  have h2 := lowS_lt (j := k) (k := k + 1) h0 (by omega) (by omega)
  have h3 := lowS_le (j := k + 1) (k := 7424) (by omega) (by omega) (by omega)
  rw [lowS_top] at h3
  unfold highS
  exact ⟨by omega, by omega⟩
theorem bucketS_low {k : Int} (h0 : 0 ≤ k) (h1 : k ≤ 7423) : bucketS (lowS k) = k := by
  obtain ⟨a, b⟩ := lowS_word h0 h1
  exact bucketS_of a b h0 h1 (by omega) (lowS_step h0 h1)
theorem bucketS_high {k : Int} (h0 : 0 ≤ k) (h1 : k ≤ 7423) : bucketS (highS k) = k := by
  obtain ⟨a, b⟩ := lowS_word h0 h1
  obtain ⟨c, d⟩ := highS_word h0 h1
  exact bucketS_of (by omega) d h0 h1 c (by unfold highS; omega)
theorem bucketS_mono {v w : Int} (h0 : 0 ≤ v) (h1 : v ≤ w) (h2 : w < 18446744073709551616) : bucketS v ≤ bucketS w := by
  obtain ⟨b0, b1⟩ := bucketS_range h0 (show v < 18446744073709551616 by omega)
  obtain ⟨c0, c1⟩ := bucketS_range (show 0 ≤ w by omega) h2
  obtain ⟨d0, d1⟩ := bucketS_between h0 (show v < 18446744073709551616 by omega)
  obtain ⟨e0, e1⟩ := bucketS_between (show 0 ≤ w by omega) h2
  by_cases h : bucketS w < bucketS v
  · have := lowS_le (j := bucketS w + 1) (k := bucketS v) (by omega) (by omega) (by omega); omega
  · omega
theorem bucketS_near {v : Int} (h0 : 0 ≤ v) (h1 : v < 18446744073709551616) : v - lowS (bucketS v) ≤ v / 128 := by
  obtain ⟨e, m, e1, m0, m1, hm, h2, h3, hb⟩ := bucketS_spec h0 h1
  rw [hb, lowS_parts e m0 m1 hm]
  rcases hm with rfl | hm
  · simp at h2 h3 ⊢
    omega
  · have hp := two_pos e
    have h4 : 128 * 2 ^ e ≤ m * 2 ^ e := Int.mul_le_mul_of_nonneg_right hm (by omega)
    omega
theorem highS_top : highS 7423 = 18446744073709551615 := by decide
end Go.Proofs.YtadcaonkmncgoaaGreat

namespace Go.Proofs.YtadcaonkmncgoaaGreat

abbrev Bks := List (Int × Int)
/-- Buckets that rise from behind 'last', each with a count above 0. -/
def checkF : Int → Bks → Bool
  | _, [] => true
  | last, (k, c) :: t => decide (last < k ∧ k ≤ 7423 ∧ 0 < c) && checkF k t
/-- Buckets that may be. -/
def checkS (l : Bks) : Bool := checkF (-1) l
/-- How often a bucket was seen. -/
def getN : Bks → Int → Int
  | [], _ => 0
  | (j, c) :: t, k => if j = k then c else getN t k
/-- A sum that is held. -/
def satS (a b : Int) : Int := if a + b < 18446744073709551616 then a + b else 18446744073709551615
/-- Counts that are words. -/
def WordsB (l : Bks) : Prop := ∀ x ∈ l, 0 ≤ x.2 ∧ x.2 < 18446744073709551616

theorem checkF_cons {last k c : Int} {t : Bks} : checkF last ((k, c) :: t) = true ↔ last < k ∧ k ≤ 7423 ∧ 0 < c ∧ checkF k t = true := by
  simp [checkF, and_assoc]
theorem checkF_mono {last last' : Int} {l : Bks} (h : checkF last l = true) (hl : last' ≤ last) : checkF last' l = true := by
  cases l with
  | nil => rfl
  | cons x t =>
    obtain ⟨k, c⟩ := x
    rw [checkF_cons] at h ⊢
    exact ⟨by omega, h.2⟩
theorem checkF_last {last k c : Int} {t : Bks} (h : checkF last ((k, c) :: t) = true) {last' : Int} (hl : last' < k) : checkF last' ((k, c) :: t) = true := by
  rw [checkF_cons] at h ⊢
  exact ⟨hl, h.2⟩
/-- The last bucket of a list, or what it rises from. -/
def lastD (last : Int) : Bks → Int
  | [] => last
  | (k, _) :: t => lastD k t
theorem checkF_append (last : Int) (l m : Bks) : checkF last (l ++ m) = (checkF last l && checkF (lastD last l) m) := by
  induction l generalizing last with
  | nil => simp [checkF, lastD]
  | cons x t ih =>
    obtain ⟨k, c⟩ := x
    rw [List.cons_append, checkF, ih, checkF, lastD, Bool.and_assoc]
theorem checkF_snoc (last : Int) (l : Bks) (k c : Int) : checkF last (l ++ [(k, c)]) = (checkF last l && decide (lastD last l < k ∧ k ≤ 7423 ∧ 0 < c)) := by
  rw [checkF_append]
  simp [checkF]
theorem lastD_snoc (last : Int) (l : Bks) (k c : Int) : lastD last (l ++ [(k, c)]) = k := by
  induction l generalizing last with
  | nil => rfl
  | cons x t ih => obtain ⟨j, d⟩ := x; rw [List.cons_append, lastD, ih]
theorem checkF_lastD {last : Int} {l : Bks} (h : checkF last l = true) : last ≤ lastD last l ∧ (l = [] ∨ lastD last l ≤ 7423) := by
  induction l generalizing last with
  | nil => exact ⟨Int.le_refl _, Or.inl rfl⟩
  | cons x t ih =>
    obtain ⟨k, c⟩ := x
    rw [checkF_cons] at h
    obtain ⟨h1, h2⟩ := ih h.2.2.2
    rw [lastD]
    refine ⟨by omega, Or.inr ?_⟩
    rcases h2 with rfl | h2
    · exact h.2.1
    · exact h2
theorem checkF_prefix {last : Int} {l : Bks} (k : Nat) (h : checkF last (l.take k) = false) : checkF last l = false := by
  rw [← List.take_append_drop k l, checkF_append, h, Bool.false_and]
theorem checkF_len {last : Int} {l : Bks} (h : checkF last l = true) : last + l.length ≤ 7423 ∨ l = [] := by
  induction l generalizing last with
  | nil => exact Or.inr rfl
  | cons x t ih =>
    obtain ⟨k, c⟩ := x
    rw [checkF_cons] at h
    left
    simp only [List.length_cons]
    rcases ih h.2.2.2 with h1 | rfl
    · omega
    · simp; omega
/-- None at or below what they rise from. -/
theorem getN_low {last : Int} {l : Bks} (h : checkF last l = true) {k : Int} (hk : k ≤ last) : getN l k = 0 := by
  induction l generalizing last with
  | nil => rfl
  | cons x t ih =>
    obtain ⟨j, c⟩ := x
    rw [checkF_cons] at h
    rw [getN, if_neg (by omega)]
    exact ih h.2.2.2 (by omega)
theorem getN_head {k c : Int} {t : Bks} : getN ((k, c) :: t) k = c := by simp [getN]
theorem getN_pos {last : Int} {l : Bks} (h : checkF last l = true) (k : Int) : 0 ≤ getN l k := by
  induction l generalizing last with
  | nil => exact Int.le_refl 0
  | cons x t ih =>
    obtain ⟨j, c⟩ := x
    rw [checkF_cons] at h
    rw [getN]
    split
    · omega
    · exact ih h.2.2.2
theorem getN_high {last : Int} {l : Bks} (h : checkF last l = true) {k : Int} (hk : 7423 < k) : getN l k = 0 := by
  induction l generalizing last with
  | nil => rfl
  | cons x t ih =>
    obtain ⟨j, c⟩ := x
    rw [checkF_cons] at h
    rw [getN, if_neg (by omega)]
    exact ih h.2.2.2
theorem getN_word {l : Bks} (h : WordsB l) (k : Int) : 0 ≤ getN l k ∧ getN l k < 18446744073709551616 := by
  induction l with
  | nil => exact ⟨by simp [getN], by simp [getN]⟩
  | cons x t ih =>
    obtain ⟨j, c⟩ := x
    rw [getN]
    split
    · exact h _ (List.mem_cons_self ..)
    · exact ih (fun y hy => h y (List.mem_cons_of_mem _ hy))
/-- Two lists that may be and say the same of each bucket are one. -/
theorem bks_ext {l m : Bks} {p q : Int} (hl : checkF p l = true) (hm : checkF q m = true) (h : ∀ k, getN l k = getN m k) : l = m := by
  induction l generalizing m p q with
  | nil =>
    cases m with
    | nil => rfl
    | cons y t =>
      obtain ⟨j, d⟩ := y
      rw [checkF_cons] at hm
      have := h j
      rw [getN_head, getN] at this
      omega
  | cons x s ih =>
    obtain ⟨i, c⟩ := x
    cases m with
    | nil =>
      rw [checkF_cons] at hl
      have := h i
      rw [getN_head, getN] at this
      omega
    | cons y t =>
      obtain ⟨j, d⟩ := y
      rw [checkF_cons] at hl hm
      have hi := h i
      have hj := h j
      rw [getN_head, getN] at hi
      rw [getN_head, getN] at hj
      have hij : i = j := by
        by_cases h1 : i < j
        · rw [if_neg (by omega), getN_low hm.2.2.2 (by omega)] at hi; omega
        · by_cases h2 : j < i
          · rw [if_neg (by omega), getN_low hl.2.2.2 (by omega)] at hj; omega
          · omega
      subst hij
      rw [if_pos rfl] at hi
      subst hi
      congr 1
      refine ih hl.2.2.2 hm.2.2.2 (fun k => ?_)
      by_cases hk : k = i
      · subst hk; rw [getN_low hl.2.2.2 (Int.le_refl _), getN_low hm.2.2.2 (Int.le_refl _)]
      · have := h k
        rw [getN, getN, if_neg (by omega), if_neg (by omega)] at this
        exact this

theorem checkF_range {last : Int} (hl : -1 ≤ last) {l : Bks} (h : checkF last l = true) {k : Nat} (hk : k < l.length) : 0 ≤ (l.getD k (0, 0)).1 ∧ (l.getD k (0, 0)).1 ≤ 7423 := by
  induction l generalizing last k with
  | nil => simp at hk
  | cons x t ih =>
    obtain ⟨j, c⟩ := x
    rw [checkF_cons] at h
    cases k with
    | zero => simp; omega
    | succ k =>
      rw [List.getD_cons_succ]
      simp only [List.length_cons] at hk
      exact ih (by omega) h.2.2.2 (by omega)

theorem satS_word {a b : Int} (ha : 0 ≤ a ∧ a < 18446744073709551616) (hb : 0 ≤ b ∧ b < 18446744073709551616) : 0 ≤ satS a b ∧ satS a b < 18446744073709551616 := by
  unfold satS; split <;> omega
theorem satS_zero {a : Int} (h : a < 18446744073709551616) : satS a 0 = a := by unfold satS; rw [if_pos (by omega)]; omega
theorem zero_satS {a : Int} (h : a < 18446744073709551616) : satS 0 a = a := by unfold satS; rw [if_pos (by omega)]; omega
theorem satS_comm (a b : Int) : satS a b = satS b a := by unfold satS; rw [Int.add_comm]
theorem satS_assoc {a b c : Int} (ha : 0 ≤ a) (hc : 0 ≤ c) : satS (satS a b) c = satS a (satS b c) := by
  unfold satS; repeat' split
  all_goals omega

/-- One bucket has more. -/
def insS (k c : Int) : Bks → Bks
  | [] => [(k, c)]
  | (j, d) :: t => if j = k then (j, satS d c) :: t else if k < j then (k, c) :: (j, d) :: t else (j, d) :: insS k c t
theorem insS_check {k c : Int} (hk : k ≤ 7423) (hc : 0 < c) {last : Int} (hl : last < k) {l : Bks} (h : checkF last l = true) : checkF last (insS k c l) = true := by
  induction l generalizing last with
  | nil => rw [insS, checkF_cons]; exact ⟨hl, hk, hc, rfl⟩
  | cons x t ih =>
    obtain ⟨j, d⟩ := x
    rw [checkF_cons] at h
    rw [insS]
    split
    · rw [checkF_cons]
      refine ⟨h.1, h.2.1, ?_, h.2.2.2⟩
      unfold satS; split <;> omega
    · split
      · rw [checkF_cons, checkF_cons]; exact ⟨hl, hk, hc, by omega, h.2⟩
      · rw [checkF_cons]; exact ⟨h.1, h.2.1, h.2.2.1, ih (by omega) h.2.2.2⟩
theorem insS_get {k c : Int} (hc : c < 18446744073709551616) {last : Int} {l : Bks} (h : checkF last l = true) (i : Int) : getN (insS k c l) i = if i = k then satS (getN l k) c else getN l i := by
  induction l generalizing last with
  | nil =>
    simp only [insS, getN]
    by_cases hi : i = k
    · rw [if_pos hi.symm, if_pos hi, zero_satS hc]
    · rw [if_neg (fun e => hi e.symm), if_neg hi]
  | cons x t ih =>
    obtain ⟨j, d⟩ := x
    rw [checkF_cons] at h
    rw [insS]
    split
    · rename_i hj
      subst hj
      simp only [getN]
      by_cases hi : i = j
      · rw [if_pos hi.symm, if_pos hi]; simp
      · rw [if_neg (fun e => hi e.symm), if_neg hi, if_neg (fun e => hi e.symm)]
    · rename_i hj
      split
      · rename_i hkj
        rw [getN]
        by_cases hi : i = k
        · subst hi
          have h0 : getN ((j, d) :: t) i = 0 := getN_low (last := i) (checkF_last (last := last) (checkF_cons.2 h) hkj) (Int.le_refl _)
          rw [if_pos rfl, if_pos rfl, h0, zero_satS hc]
        · rw [if_neg (fun e => hi e.symm), if_neg hi]
      · rw [getN, getN, getN, if_neg hj]
        rw [ih h.2.2.2]
        by_cases hi : i = k
        · subst hi; rw [if_neg hj, if_pos rfl, if_pos rfl]
        · rw [if_neg hi, if_neg hi]
/-- .. by n, of which 0 is nothing. -/
def addN (l : Bks) (k c : Int) : Bks := if c = 0 then l else insS k c l
theorem addN_check {k c : Int} (h0 : 0 ≤ k) (hk : k ≤ 7423) (hc : 0 ≤ c) {l : Bks} (h : checkS l = true) : checkS (addN l k c) = true := by
  unfold addN checkS at *
  split
  · exact h
  · exact insS_check hk (by omega) (by omega) h
theorem addN_get {k c : Int} (hc : 0 ≤ c ∧ c < 18446744073709551616) {l : Bks} (hw : WordsB l) (h : checkS l = true) (i : Int) : getN (addN l k c) i = if i = k then satS (getN l k) c else getN l i := by
  unfold addN
  split
  · rename_i h0
    rw [h0, satS_zero (getN_word hw k).2]
    split
    · rename_i e; rw [e]
    · rfl
  · exact insS_get hc.2 h i

/-- Two lists as one. -/
def mrg : Bks → Bks → Bks
  | [], b => b
  | a, [] => a
  | (i, c) :: a, (k, d) :: b => if i < k then (i, c) :: mrg a ((k, d) :: b) else if k < i then (k, d) :: mrg ((i, c) :: a) b else (i, satS c d) :: mrg a b
termination_by a b => a.length + b.length
theorem mrg_nil (a : Bks) : mrg a [] = a := by cases a <;> simp [mrg]
theorem nil_mrg (b : Bks) : mrg [] b = b := by simp [mrg]
theorem mrg_cons (i c : Int) (a : Bks) (k d : Int) (b : Bks) : mrg ((i, c) :: a) ((k, d) :: b) = if i < k then (i, c) :: mrg a ((k, d) :: b) else if k < i then (k, d) :: mrg ((i, c) :: a) b else (i, satS c d) :: mrg a b := by
  rw [mrg]
theorem mrg_check {last : Int} {a b : Bks} (ha : checkF last a = true) (hb : checkF last b = true) : checkF last (mrg a b) = true := by
  obtain ⟨n, hn⟩ : ∃ n, a.length + b.length ≤ n := ⟨_, Nat.le_refl _⟩
  induction n generalizing a b last with
  | zero =>
    have : a = [] := List.length_eq_zero_iff.1 (by omega)
    subst this
    rw [nil_mrg]; exact hb
  | succ n ih =>
    cases a with
    | nil => rw [nil_mrg]; exact hb
    | cons x a =>
      cases b with
      | nil => rw [mrg_nil]; exact ha
      | cons y b =>
        obtain ⟨i, c⟩ := x
        obtain ⟨k, d⟩ := y
        simp only [List.length_cons] at hn
        have ha' := checkF_cons.1 ha
        have hb' := checkF_cons.1 hb
        rw [mrg_cons]
        split
        · rw [checkF_cons]
          exact ⟨ha'.1, ha'.2.1, ha'.2.2.1, ih ha'.2.2.2 (checkF_last hb (by omega)) (by simp only [List.length_cons]; omega)⟩
        · split
          · rw [checkF_cons]
            exact ⟨hb'.1, hb'.2.1, hb'.2.2.1, ih (checkF_last ha (by omega)) hb'.2.2.2 (by simp only [List.length_cons]; omega)⟩
          · have e : i = k := by omega
            subst e
            rw [checkF_cons]
            refine ⟨ha'.1, ha'.2.1, ?_, ih ha'.2.2.2 hb'.2.2.2 (by omega)⟩
            unfold satS; split <;> omega
theorem mrg_get {last : Int} {a b : Bks} (wa : WordsB a) (wb : WordsB b) (ha : checkF last a = true) (hb : checkF last b = true) (j : Int) : getN (mrg a b) j = satS (getN a j) (getN b j) := by
  obtain ⟨n, hn⟩ : ∃ n, a.length + b.length ≤ n := ⟨_, Nat.le_refl _⟩
  induction n generalizing a b last with
  | zero =>
    have : a = [] := List.length_eq_zero_iff.1 (by omega)
    subst this
    rw [nil_mrg, getN, zero_satS (getN_word wb j).2]
  | succ n ih =>
    cases a with
    | nil => rw [nil_mrg, getN, zero_satS (getN_word wb j).2]
    | cons x a =>
      cases b with
      | nil => rw [mrg_nil, getN.eq_1, satS_zero (getN_word wa j).2]
      | cons y b =>
        obtain ⟨i, c⟩ := x
        obtain ⟨k, d⟩ := y
        simp only [List.length_cons] at hn
        have ha' := checkF_cons.1 ha
        have hb' := checkF_cons.1 hb
        have wa' : WordsB a := fun z hz => wa z (List.mem_cons_of_mem _ hz)
        have wb' : WordsB b := fun z hz => wb z (List.mem_cons_of_mem _ hz)
        have wc := wa _ (List.mem_cons_self ..)
        have wd := wb _ (List.mem_cons_self ..)
        rw [mrg_cons]
        split
        · rename_i hik
          rw [getN, ih wa' wb ha'.2.2.2 (checkF_last hb (by omega)) (by simp only [List.length_cons]; omega)]
          by_cases hj : i = j
          · subst hj
            rw [if_pos rfl, getN_head, getN_low (checkF_last hb hik) (Int.le_refl _), satS_zero wc.2]
          · rw [if_neg hj]
            congr 1
            rw [getN, if_neg hj]
        · split
          · rename_i hki
            rw [getN, ih wa wb' (checkF_last ha (by omega)) hb'.2.2.2 (by simp only [List.length_cons]; omega)]
            by_cases hj : k = j
            · subst hj
              rw [if_pos rfl, getN_head, getN_low (checkF_last ha hki) (Int.le_refl _), zero_satS wd.2]
            · rw [if_neg hj]
              congr 1
              rw [getN, if_neg hj]
          · have e : i = k := by omega
            subst e
            rw [getN, getN, getN, ih wa' wb' ha'.2.2.2 hb'.2.2.2 (by omega)]
            split <;> rfl
end Go.Proofs.YtadcaonkmncgoaaGreat

namespace Go.Proofs.YtadcaonkmncgoaaGreat

/-- The buckets of counts, the first of which is bucket k's. -/
def spF : Int → List Int → Bks
  | _, [] => []
  | k, h :: t => if 0 < h then (k, h) :: spF (k + 1) t else spF (k + 1) t
/-- The buckets of an array of counts. -/
def spS (H : List Int) : Bks := spF 0 H
/-- Counts that are words. -/
def WordsH (H : List Int) : Prop := ∀ h ∈ H, 0 ≤ h ∧ h < 18446744073709551616
/-- A count. -/
def atH (H : List Int) (k : Int) : Int := if k < 0 then 0 else H.getD k.toNat 0

theorem spF_check {k : Int} {H : List Int} (h : k + H.length ≤ 7424) : checkF (k - 1) (spF k H) = true := by
  induction H generalizing k with
  | nil => rfl
  | cons c t ih =>
    simp only [List.length_cons] at h
    rw [spF]
    have := ih (k := k + 1) (by omega)
    split
    · rw [checkF_cons]
      exact ⟨by omega, by omega, by assumption, by rwa [show k + 1 - 1 = k by omega] at this⟩
    · exact checkF_mono this (by omega)
theorem spS_check {H : List Int} (h : H.length = 7424) : checkS (spS H) = true := spF_check (k := 0) (by omega)
theorem spF_get {k : Int} {H : List Int} (hH : WordsH H) (j : Int) : getN (spF k H) j = atH H (j - k) := by
  induction H generalizing k with
  | nil => simp [spF, getN, atH]
  | cons c t ih =>
    have ht : WordsH t := fun x hx => hH x (List.mem_cons_of_mem _ hx)
    have hc := hH c (List.mem_cons_self ..)
    have e : j ≠ k → atH t (j - (k + 1)) = atH (c :: t) (j - k) := by
      intro hjk
      unfold atH
      by_cases h0 : j - k < 0
      · rw [if_pos h0, if_pos (by omega)]
      · rw [if_neg h0, if_neg (by omega), show (j - k).toNat = (j - (k + 1)).toNat + 1 by omega, List.getD_cons_succ]
    have e0 : atH (c :: t) (k - k) = c := by simp [atH]
    rw [spF]
    split
    · rw [getN]
      split
      · rename_i h1; subst h1; rw [e0]
      · rw [ih ht, e (by omega)]
    · rw [ih ht]
      by_cases hjk : j = k
      · subst hjk
        rw [e0]
        unfold atH
        rw [if_pos (by omega)]; omega
      · exact e hjk
theorem spS_get {H : List Int} (hH : WordsH H) (j : Int) : getN (spS H) j = atH H j := by
  unfold spS
  rw [spF_get hH, Int.sub_zero]
theorem spF_words {k : Int} {H : List Int} (hH : WordsH H) : WordsB (spF k H) := by
  induction H generalizing k with
  | nil => intro x hx; cases hx
  | cons c t ih =>
    have ht : WordsH t := fun x hx => hH x (List.mem_cons_of_mem _ hx)
    rw [spF]
    split
    · intro x hx
      rcases List.mem_cons.1 hx with rfl | hx
      · exact hH c (List.mem_cons_self ..)
      · exact ih ht x hx
    · exact ih ht
theorem spS_words {H : List Int} (hH : WordsH H) : WordsB (spS H) := spF_words hH
theorem atH_set {H : List Int} {k c : Int} (h0 : 0 ≤ k) (h1 : k < H.length) (j : Int) : atH (H.set k.toNat c) j = if j = k then c else atH H j := by
  unfold atH
  by_cases hj : j < 0
  · rw [if_pos hj, if_neg (by omega), if_pos hj]
  · rw [if_neg hj, if_neg hj]
    by_cases e : j = k
    · subst e
      rw [if_pos rfl, List.getD_eq_getElem?_getD, List.getElem?_set_self (by omega)]
      rfl
    · rw [if_neg e, List.getD_eq_getElem?_getD, List.getD_eq_getElem?_getD, List.getElem?_set_ne (by omega)]
theorem words_set {H : List Int} (hH : WordsH H) (k : Nat) {c : Int} (hc : 0 ≤ c ∧ c < 18446744073709551616) : WordsH (H.set k c) := by
  intro x hx
  rcases List.mem_or_eq_of_mem_set hx with h | h
  · exact hH x h
  · subst h; exact hc
theorem atH_word {H : List Int} (hH : WordsH H) (k : Int) : 0 ≤ atH H k ∧ atH H k < 18446744073709551616 := by
  unfold atH
  split
  · exact ⟨by omega, by omega⟩
  · by_cases h : k.toNat < H.length
    · rw [List.getD_eq_getElem?_getD, List.getElem?_eq_getElem h]
      exact hH _ (List.getElem_mem h)
    · rw [List.getD_eq_getElem?_getD, List.getElem?_eq_none (by omega)]
      exact ⟨by simp, by simp⟩
/-- One more in an array's bucket is one more in its list. -/
theorem spS_add {H : List Int} (hl : H.length = 7424) (hH : WordsH H) {k c : Int} (h0 : 0 ≤ k) (h1 : k ≤ 7423) (hc : 0 ≤ c ∧ c < 18446744073709551616) : spS (H.set k.toNat (satS (atH H k) c)) = addN (spS H) k c := by
  have hw := words_set hH k.toNat (satS_word (atH_word hH k) hc)
  refine bks_ext (spS_check (by rw [List.length_set]; exact hl)) (addN_check h0 h1 hc.1 (spS_check hl)) (fun j => ?_)
  rw [spS_get hw, atH_set h0 (by omega), addN_get hc (spS_words hH) (spS_check hl), spS_get hH, spS_get hH]
/-- A list that may be is that of its own array. -/
theorem spS_of {l : Bks} {H : List Int} (hl : checkS l = true) (hn : H.length = 7424) (hH : WordsH H) (h : ∀ k, atH H k = getN l k) : spS H = l :=
  bks_ext (spS_check hn) hl (fun k => by rw [spS_get hH, h])

/-- A list's buckets put into an array one by one. -/
def addAll (H : List Int) (l : Bks) : List Int := l.foldl (fun H x => H.set x.1.toNat (satS (atH H x.1) x.2)) H
theorem addAll_len (H : List Int) (l : Bks) : (addAll H l).length = H.length := by
  unfold addAll
  induction l generalizing H with
  | nil => rfl
  | cons x t ih => rw [List.foldl_cons, ih, List.length_set]
theorem addAll_words {H : List Int} (hH : WordsH H) {l : Bks} (hl : WordsB l) : WordsH (addAll H l) := by
  unfold addAll
  induction l generalizing H with
  | nil => exact hH
  | cons x t ih =>
    rw [List.foldl_cons]
    exact ih (words_set hH _ (satS_word (atH_word hH _) (hl x (List.mem_cons_self ..)))) (fun y hy => hl y (List.mem_cons_of_mem _ hy))
theorem addAll_get {H : List Int} (hn : H.length = 7424) (hH : WordsH H) {l : Bks} (hw : WordsB l) {last : Int} (h0 : -1 ≤ last) (hl : checkF last l = true) (j : Int) : atH (addAll H l) j = satS (atH H j) (getN l j) := by
  unfold addAll
  induction l generalizing H last with
  | nil => rw [List.foldl_nil, getN, satS_zero (atH_word hH j).2]
  | cons x t ih =>
    obtain ⟨k, c⟩ := x
    rw [checkF_cons] at hl
    have hc := hw _ (List.mem_cons_self ..)
    rw [List.foldl_cons, ih (by rw [List.length_set]; exact hn) (words_set hH _ (satS_word (atH_word hH _) hc)) (fun y hy => hw y (List.mem_cons_of_mem _ hy)) (by omega) hl.2.2.2, atH_set (by omega) (by omega), getN]
    by_cases e : j = k
    · subst e
      rw [if_pos rfl, if_pos rfl, getN_low hl.2.2.2 (Int.le_refl _), satS_zero (satS_word (atH_word hH _) hc).2]
    · rw [if_neg e, if_neg (fun h => e h.symm)]
theorem spS_addAll {H : List Int} (hn : H.length = 7424) (hH : WordsH H) {l : Bks} (hw : WordsB l) (hl : checkS l = true) : spS (addAll H l) = mrg (spS H) l := by
  refine bks_ext (spS_check (by rw [addAll_len]; exact hn)) (mrg_check (last := -1) (spS_check hn) hl) (fun j => ?_)
  rw [spS_get (addAll_words hH hw), addAll_get hn hH hw (Int.le_refl _) hl, mrg_get (spS_words hH) hw (spS_check hn) hl, spS_get hH]

/-- Nothing seen. -/
def H0 : List Int := List.replicate 7424 0
theorem H0_len : H0.length = 7424 := List.length_replicate ..
theorem H0_words : WordsH H0 := by
  intro h hh
  rw [(List.mem_replicate.1 hh).2]
  exact ⟨by omega, by omega⟩
theorem atH_H0 (k : Int) : atH H0 k = 0 := by
  unfold atH H0
  split
  · rfl
  · rw [List.getD_eq_getElem?_getD, List.getElem?_replicate]
    split <;> rfl
theorem spS_H0 : spS H0 = [] := spS_of rfl H0_len H0_words (fun k => by rw [atH_H0]; rfl)
theorem spS_from {l : Bks} (hw : WordsB l) (hl : checkS l = true) : spS (addAll H0 l) = l := by
  rw [spS_addAll H0_len H0_words hw hl, spS_H0, nil_mrg]

/-- A sum that is held, of many. -/
def satAll (s : Int) (l : List Int) : Int := l.foldl satS s
theorem satAll_sum {s : Int} {l : List Int} (hs : 0 ≤ s ∧ s < 18446744073709551616) (hl : WordsH l) : satAll s l = if s + l.sum < 18446744073709551616 then s + l.sum else 18446744073709551615 := by
  unfold satAll
  induction l generalizing s with
  | nil => simp; omega
  | cons c t ih =>
    have hc := hl c (List.mem_cons_self ..)
    have ht : WordsH t := fun x hx => hl x (List.mem_cons_of_mem _ hx)
    have hp : 0 ≤ t.sum := by
      clear ih hl hs
      induction t with
      | nil => simp
      | cons d t ih =>
        have := ht d (List.mem_cons_self ..)
        have := ih (fun x hx => ht x (List.mem_cons_of_mem _ hx))
        rw [List.sum_cons]; omega
    rw [List.foldl_cons, ih (satS_word hs hc) ht, List.sum_cons]
    unfold satS
    repeat' split
    all_goals omega
theorem spF_sum {k : Int} {H : List Int} (hH : WordsH H) : ((spF k H).map (·.2)).sum = H.sum := by
  induction H generalizing k with
  | nil => rfl
  | cons c t ih =>
    have hc := hH c (List.mem_cons_self ..)
    have ht : WordsH t := fun x hx => hH x (List.mem_cons_of_mem _ hx)
    rw [spF]
    split
    · rw [List.map_cons, List.sum_cons, List.sum_cons, ih ht]
    · rw [ih ht, List.sum_cons]; omega
theorem wordsB_snd {l : Bks} (h : WordsB l) : WordsH (l.map (·.2)) := by
  intro c hc
  obtain ⟨x, hx, rfl⟩ := List.mem_map.1 hc
  exact h x hx
theorem count_same {H : List Int} (hH : WordsH H) : satAll 0 ((spS H).map (·.2)) = satAll 0 H := by
  rw [satAll_sum ⟨by omega, by omega⟩ (wordsB_snd (spS_words hH)), satAll_sum ⟨by omega, by omega⟩ hH, spS, spF_sum hH]

/-- The buckets up to one. -/
def upB (l : Bks) (k : Int) : Bks := l.takeWhile (fun x => decide (x.1 ≤ k))
theorem upB_spF {k j : Int} {H : List Int} : upB (spF k H) j = spF k (H.take (j + 1 - k).toNat) := by
  induction H generalizing k with
  | nil => simp [spF, upB]
  | cons c t ih =>
    by_cases h : k ≤ j
    · rw [show (j + 1 - k).toNat = (j + 1 - (k + 1)).toNat + 1 by omega, List.take_succ_cons, spF, spF]
      split
      · unfold upB
        rw [List.takeWhile_cons, if_pos (by simpa using h)]
        rw [← ih]; rfl
      · exact ih
    · have h2 : ∀ (m : Int) (t : List Int), j < m → upB (spF m t) j = [] := by
        intro m t hm
        induction t generalizing m with
        | nil => rfl
        | cons d t ih =>
          rw [spF]
          split
          · unfold upB
            rw [List.takeWhile_cons, if_neg (by simp; omega)]
          · exact ih _ (by omega)
      rw [h2 k (c :: t) (by omega), show (j + 1 - k).toNat = 0 by omega, List.take_zero, spF]
theorem rank_same {H : List Int} (hH : WordsH H) (j : Int) : satAll 0 ((upB (spS H) j).map (·.2)) = satAll 0 (H.take (j + 1).toNat) := by
  have ht : WordsH (H.take (j + 1).toNat) := fun x hx => hH x (List.mem_of_mem_take hx)
  rw [spS, upB_spF, Int.sub_zero]
  exact count_same ht

/-- The first bucket of which, with those ahead, the sum is k or more. -/
def findB (k : Int) : Int → Bks → Option Int
  | _, [] => none
  | s, (j, c) :: t => if k ≤ s + c then some j else findB k (s + c) t
/-- .. of an array. -/
def findA (k : Int) : Int → Int → List Int → Option Int
  | _, _, [] => none
  | s, i, c :: t => if k ≤ s + c then some i else findA k (s + c) (i + 1) t
theorem find_same {k s i : Int} {H : List Int} (hH : WordsH H) (hs : s < k) : findB k s (spF i H) = findA k s i H := by
  induction H generalizing s i with
  | nil => rfl
  | cons c t ih =>
    have hc := hH c (List.mem_cons_self ..)
    have ht : WordsH t := fun x hx => hH x (List.mem_cons_of_mem _ hx)
    rw [spF, findA]
    split
    · rw [findB]
      split
      · rfl
      · exact ih ht (by omega)
    · rw [if_neg (by omega), ih ht (by omega), show s + c = s by omega]
theorem findA_spec {k s i : Int} {H : List Int} (hH : WordsH H) (hs : s < k) (hk : k ≤ s + H.sum) : ∃ n : Nat, n < H.length ∧ findA k s i H = some (i + n) ∧ s + (H.take n).sum < k ∧ k ≤ s + (H.take (n + 1)).sum := by
  induction H generalizing s i with
  | nil => simp at hk; omega
  | cons c t ih =>
    have ht : WordsH t := fun x hx => hH x (List.mem_cons_of_mem _ hx)
    rw [List.sum_cons] at hk
    rw [findA]
    by_cases h : k ≤ s + c
    · refine ⟨0, by simp, by rw [if_pos h]; simp, by simpa using hs, ?_⟩
      rw [List.take_succ_cons, List.take_zero, List.sum_cons, List.sum_nil]; omega
    · obtain ⟨n, h1, h2, h3, h4⟩ := ih (s := s + c) (i := i + 1) ht (by omega) (by omega)
      refine ⟨n + 1, by simp; omega, by rw [if_neg h, h2]; congr 1; omega, ?_, ?_⟩
      · rw [List.take_succ_cons, List.sum_cons]; omega
      · rw [List.take_succ_cons, List.sum_cons]; omega
end Go.Proofs.YtadcaonkmncgoaaGreat

namespace Go.Proofs.YtadcaonkmncgoaaGreat

theorem mrg_words {a b : Bks} (ha : WordsB a) (hb : WordsB b) : WordsB (mrg a b) := by
  obtain ⟨n, hn⟩ : ∃ n, a.length + b.length ≤ n := ⟨_, Nat.le_refl _⟩
  induction n generalizing a b with
  | zero =>
    have : a = [] := List.length_eq_zero_iff.1 (by omega)
    subst this
    rw [nil_mrg]; exact hb
  | succ n ih =>
    cases a with
    | nil => rw [nil_mrg]; exact hb
    | cons x a =>
      cases b with
      | nil => rw [mrg_nil]; exact ha
      | cons y b =>
        obtain ⟨i, c⟩ := x
        obtain ⟨k, d⟩ := y
        simp only [List.length_cons] at hn
        have ha' : WordsB a := fun z hz => ha z (List.mem_cons_of_mem _ hz)
        have hb' : WordsB b := fun z hz => hb z (List.mem_cons_of_mem _ hz)
        have hc := ha _ (List.mem_cons_self ..)
        have hd := hb _ (List.mem_cons_self ..)
        rw [mrg_cons]
        intro z hz
        split at hz
        · rcases List.mem_cons.1 hz with rfl | hz
          · exact hc
          · exact ih ha' hb (by simp only [List.length_cons]; omega) z hz
        · split at hz
          · rcases List.mem_cons.1 hz with rfl | hz
            · exact hd
            · exact ih ha hb' (by simp only [List.length_cons]; omega) z hz
          · rcases List.mem_cons.1 hz with rfl | hz
            · exact satS_word hc hd
            · exact ih ha' hb' (by omega) z hz
theorem insS_words {k c : Int} (hc : 0 ≤ c ∧ c < 18446744073709551616) {l : Bks} (h : WordsB l) : WordsB (insS k c l) := by
  induction l with
  | nil => intro z hz; simp [insS] at hz; subst hz; exact hc
  | cons x t ih =>
    obtain ⟨j, d⟩ := x
    have ht : WordsB t := fun z hz => h z (List.mem_cons_of_mem _ hz)
    have hd := h _ (List.mem_cons_self ..)
    rw [insS]
    intro z hz
    split at hz
    · rcases List.mem_cons.1 hz with rfl | hz
      · exact satS_word hd hc
      · exact ht z hz
    · split at hz
      · rcases List.mem_cons.1 hz with rfl | hz
        · exact hc
        · exact h z hz
      · rcases List.mem_cons.1 hz with rfl | hz
        · exact hd
        · exact ih ht z hz
theorem addN_words {k c : Int} (hc : 0 ≤ c ∧ c < 18446744073709551616) {l : Bks} (h : WordsB l) : WordsB (addN l k c) := by
  unfold addN
  split
  · exact h
  · exact insS_words hc h

/-- A list of buckets that may be, with counts that are words. -/
structure Good (l : Bks) : Prop where
  check : checkS l = true
  words : WordsB l
theorem Good.ext {l m : Bks} (hl : Good l) (hm : Good m) (h : ∀ k, getN l k = getN m k) : l = m := bks_ext hl.check hm.check h
theorem Good.mrg {a b : Bks} (ha : Good a) (hb : Good b) : Good (mrg a b) := ⟨mrg_check ha.check hb.check, mrg_words ha.words hb.words⟩
theorem Good.get {a b : Bks} (ha : Good a) (hb : Good b) (j : Int) : getN (Go.Proofs.YtadcaonkmncgoaaGreat.mrg a b) j = satS (getN a j) (getN b j) := mrg_get ha.words hb.words ha.check hb.check j
theorem Good.word {l : Bks} (h : Good l) (j : Int) : 0 ≤ getN l j ∧ getN l j < 18446744073709551616 := getN_word h.words j
theorem Good.nil : Good [] := ⟨rfl, fun x hx => by cases hx⟩
theorem Good.add {l : Bks} (h : Good l) {k c : Int} (h0 : 0 ≤ k) (h1 : k ≤ 7423) (hc : 0 ≤ c ∧ c < 18446744073709551616) : Good (addN l k c) := ⟨addN_check h0 h1 hc.1 h.check, addN_words hc h.words⟩
theorem good_spS {H : List Int} (hn : H.length = 7424) (hH : WordsH H) : Good (spS H) := ⟨spS_check hn, spS_words hH⟩

theorem mrg_comm {a b : Bks} (ha : Good a) (hb : Good b) : mrg a b = mrg b a := (ha.mrg hb).ext (hb.mrg ha) (fun k => by rw [ha.get hb, hb.get ha, satS_comm])
theorem mrg_assoc {a b c : Bks} (ha : Good a) (hb : Good b) (hc : Good c) : mrg (mrg a b) c = mrg a (mrg b c) :=
  ((ha.mrg hb).mrg hc).ext (ha.mrg (hb.mrg hc)) (fun k => by rw [(ha.mrg hb).get hc, ha.get hb, ha.get (hb.mrg hc), hb.get hc, satS_assoc (ha.word k).1 (hc.word k).1])
/-- The law's two roads, and its third. -/
theorem mrg_turn {a b c : Bks} (ha : Good a) (hb : Good b) (hc : Good c) : mrg (mrg a b) c = mrg (mrg c b) a ∧ mrg (mrg a b) c = mrg a (mrg b c) := by
  refine ⟨?_, mrg_assoc ha hb hc⟩
  rw [mrg_assoc ha hb hc, mrg_comm ha (hb.mrg hc), mrg_comm hb hc]

theorem satAll_nonneg {s : Int} {l : List Int} (hs : 0 ≤ s) (hl : ∀ c ∈ l, 0 ≤ c) : 0 ≤ satAll s l := by
  unfold satAll
  induction l generalizing s with
  | nil => exact hs
  | cons c t ih =>
    have hc := hl c (List.mem_cons_self ..)
    exact ih (by unfold satS; split <;> omega) (fun x hx => hl x (List.mem_cons_of_mem _ hx))
theorem satAll_from {s d : Int} {l : List Int} (hs : 0 ≤ s) (hd : 0 ≤ d) (hl : ∀ c ∈ l, 0 ≤ c) : satAll (satS s d) l = satS (satAll s l) d := by
  unfold satAll
  induction l generalizing s with
  | nil => rfl
  | cons c t ih =>
    have hc := hl c (List.mem_cons_self ..)
    rw [List.foldl_cons, List.foldl_cons]
    have e : satS (satS s d) c = satS (satS s c) d := by
      rw [satS_assoc hs hc, satS_comm d c, ← satS_assoc hs hd]
    rw [e]
    exact ih (by unfold satS; split <;> omega) (fun x hx => hl x (List.mem_cons_of_mem _ hx))
/-- How many there are of one more. -/
theorem insS_count {k c : Int} (hc : 0 ≤ c) {l : Bks} (hl : WordsB l) {s : Int} (hs : 0 ≤ s) : satAll s ((insS k c l).map (·.2)) = satS (satAll s (l.map (·.2))) c := by
  induction l generalizing s with
  | nil => simp [insS, satAll]
  | cons x t ih =>
    obtain ⟨j, d⟩ := x
    have hd := hl _ (List.mem_cons_self ..)
    have ht : WordsB t := fun z hz => hl z (List.mem_cons_of_mem _ hz)
    have ht' : ∀ y ∈ t.map (·.2), 0 ≤ y := fun y hy => by obtain ⟨z, hz, rfl⟩ := List.mem_map.1 hy; exact (ht z hz).1
    have hsd : 0 ≤ satS s d := by unfold satS; split <;> omega
    have cons : ∀ (s y : Int) (l : List Int), satAll s (y :: l) = satAll (satS s y) l := fun _ _ _ => rfl
    rw [insS]
    split
    · rw [List.map_cons, List.map_cons, cons, cons]
      have e : satS s (satS d c) = satS (satS s d) c := (satS_assoc hs hc).symm
      simp only
      rw [e, satAll_from hsd hc ht']
    · split
      · rw [List.map_cons, List.map_cons, cons, cons]
        simp only
        have e : satS (satS s c) d = satS (satS s d) c := by rw [satS_assoc hs hd.1, satS_comm c d, ← satS_assoc hs hc]
        rw [e, satAll_from hsd hc ht', cons]
      · rw [List.map_cons, List.map_cons, cons, cons]
        exact ih ht hsd
theorem addN_count {k c : Int} (hc : 0 ≤ c) {l : Bks} (hl : WordsB l) : satAll 0 ((addN l k c).map (·.2)) = satS (satAll 0 (l.map (·.2))) c := by
  unfold addN
  split
  · rename_i h
    have hw := wordsB_snd hl
    have h1 := satAll_sum (s := 0) ⟨by omega, by omega⟩ hw
    have h2 : satAll 0 (l.map (·.2)) < 18446744073709551616 := by rw [h1]; split <;> omega
    rw [h, satS_zero h2]
  · exact insS_count hc hl (Int.le_refl 0)

/-- Numbers seen one by one. -/
def seen (l : List Int) : Bks := l.foldl (fun L v => addN L (bucketS v) 1) []
/-- How many of them lie in a bucket. -/
def inB (l : List Int) (k : Int) : Int := ((l.filter (fun v => decide (bucketS v = k))).length : Int)
theorem seen_snoc (l : List Int) (v : Int) : seen (l ++ [v]) = addN (seen l) (bucketS v) 1 := by unfold seen; rw [List.foldl_append]; rfl
theorem inB_snoc (l : List Int) (v k : Int) : inB (l ++ [v]) k = inB l k + if bucketS v = k then 1 else 0 := by
  unfold inB
  rw [List.filter_append, List.length_append]
  by_cases h : bucketS v = k
  · simp [h]
  · simp [h]
theorem inB_append (l m : List Int) (k : Int) : inB (l ++ m) k = inB l k + inB m k := by
  unfold inB
  rw [List.filter_append, List.length_append]
  omega
theorem inB_le (l : List Int) (k : Int) : 0 ≤ inB l k ∧ inB l k ≤ l.length := by
  unfold inB
  have := List.length_filter_le (fun v => decide (bucketS v = k)) l
  exact ⟨by omega, by omega⟩
theorem snoc_ind {p : List Int → Prop} (h0 : p []) (h1 : ∀ l v, p l → p (l ++ [v])) (l : List Int) : p l := by
  rw [← List.reverse_reverse l]
  induction l.reverse with
  | nil => exact h0
  | cons v t ih => rw [List.reverse_cons]; exact h1 _ _ ih
theorem seen_good {l : List Int} (hl : WordsH l) : Good (seen l) := by
  revert hl
  refine snoc_ind (p := fun l => WordsH l → Good (seen l)) (fun _ => Good.nil) (fun l v ih hl => ?_) l
  rw [seen_snoc]
  have hv := hl v (by simp)
  obtain ⟨b0, b1⟩ := bucketS_range hv.1 hv.2
  exact (ih (fun x hx => hl x (by simp [hx]))).add b0 b1 ⟨by omega, by omega⟩
theorem seen_get {l : List Int} (hl : WordsH l) (hn : l.length ≤ 1000000) (k : Int) : getN (seen l) k = inB l k := by
  revert hl hn
  refine snoc_ind (p := fun l => WordsH l → l.length ≤ 1000000 → getN (seen l) k = inB l k) (fun _ _ => rfl) (fun l v ih hl hn => ?_) l
  have hl' : WordsH l := fun x hx => hl x (by simp [hx])
  rw [List.length_append] at hn
  simp only [List.length_cons, List.length_nil] at hn
  have hg := seen_good hl'
  rw [seen_snoc, addN_get ⟨by omega, by omega⟩ hg.words hg.check, inB_snoc, ih hl' (by omega)]
  have hb := inB_le l k
  by_cases h : k = bucketS v
  · subst h
    rw [if_pos rfl, if_pos rfl, ih hl' (by omega)]
    unfold satS
    rw [if_pos (by omega)]
  · rw [if_neg h, if_neg (fun e => h e.symm)]; omega
/-- Numbers in two parts. -/
theorem seen_split {l m : List Int} (hl : WordsH l) (hm : WordsH m) (hn : l.length + m.length ≤ 1000000) : mrg (seen m) (seen l) = seen (l ++ m) := by
  have hlm : WordsH (l ++ m) := fun x hx => by
    rcases List.mem_append.1 hx with h | h
    · exact hl x h
    · exact hm x h
  refine ((seen_good hm).mrg (seen_good hl)).ext (seen_good hlm) (fun k => ?_)
  rw [(seen_good hm).get (seen_good hl), seen_get hm (by omega), seen_get hl (by omega), seen_get hlm (by rw [List.length_append]; omega), inB_append]
  have h1 := inB_le l k
  have h2 := inB_le m k
  unfold satS
  rw [if_pos (by omega)]; omega
/-- So often at once is so often one by one. -/
theorem seen_times {v w : Int} (hv : 0 ≤ v ∧ v < 18446744073709551616) (hw : 0 ≤ w ∧ w < 18446744073709551616) (n : Nat) (hn : n ≤ 1000) :
    addN (addN [] (bucketS w) 1) (bucketS v) n = seen (w :: List.replicate n v) := by
  have hl : ∀ n, WordsH (w :: List.replicate n v) := fun n x hx => by
    rcases List.mem_cons.1 hx with rfl | hx
    · exact hw
    · rw [(List.mem_replicate.1 hx).2]; exact hv
  obtain ⟨b0, b1⟩ := bucketS_range hw.1 hw.2
  obtain ⟨c0, c1⟩ := bucketS_range hv.1 hv.2
  have g1 : Good (addN [] (bucketS w) 1) := Good.nil.add b0 b1 ⟨by omega, by omega⟩
  have g2 : Good (addN (addN [] (bucketS w) 1) (bucketS v) n) := g1.add c0 c1 ⟨by omega, by omega⟩
  refine g2.ext (seen_good (hl n)) (fun k => ?_)
  rw [seen_get (hl n) (by simp; omega), addN_get ⟨by omega, by omega⟩ g1.words g1.check, addN_get (l := []) ⟨by omega, by omega⟩ Good.nil.words rfl, addN_get (l := []) ⟨by omega, by omega⟩ Good.nil.words rfl]
  have e : inB (w :: List.replicate n v) k = (if bucketS w = k then 1 else 0) + if bucketS v = k then (n : Int) else 0 := by
    unfold inB
    rw [List.filter_cons]
    have e2 : (List.replicate n v).filter (fun x => decide (bucketS x = k)) = if bucketS v = k then List.replicate n v else [] := by
      rw [List.filter_replicate]
      by_cases h : bucketS v = k <;> simp [h]
    rw [e2]
    by_cases h : bucketS w = k <;> by_cases h' : bucketS v = k <;> simp [h, h'] <;> omega
  rw [e]
  have z : satS 0 1 = 1 := by decide
  simp only [getN, z]
  by_cases h : bucketS w = k <;> by_cases h' : bucketS v = k
  · subst h'
    rw [if_pos rfl, if_pos h.symm, if_pos h, if_pos rfl]
    unfold satS; rw [if_pos (by omega)]
  · rw [if_neg (fun e => h' e.symm), if_pos h.symm, if_pos h, if_neg h']; omega
  · subst h'
    rw [if_pos rfl, if_neg (fun e => h e.symm), if_neg h, if_pos rfl]
    unfold satS; rw [if_pos (by omega)]
  · rw [if_neg (fun e => h' e.symm), if_neg (fun e => h e.symm), if_neg h, if_neg h']; omega
end Go.Proofs.YtadcaonkmncgoaaGreat

namespace Go.Proofs.YtadcaonkmncgoaaGreat

theorem bitLen_nine {v : Nat} (h : 256 ≤ v) (hv : v < 18446744073709551616) : ∃ n, Lib.bitLen v = n + 9 ∧ Lib.bitLen (v / 2) = n + 8 := by
  have h1 := Lib.bitLen_shift8 v h hv
  have h2 := Lib.bitLen_half (v / 256) (by omega) (by omega)
  have h3 := Lib.bitLen_half v (by omega) hv
  exact ⟨Lib.bitLen (v / 256 / 2), by omega, by omega⟩
theorem bitLen_small {v : Nat} (h : v < 256) : Lib.bitLen v ≤ 8 := Lib.bitLen_le8 ⟨v, h⟩

theorem bkt_len (f : Nat) (v : Nat) (h : (v : Int) < 256 * 2 ^ f) (hv : v < 18446744073709551616) : bkt f (v : Int) = 128 * ((Lib.bitLen v - 8 : Nat) : Int) + (v : Int) / 2 ^ (Lib.bitLen v - 8) := by
  induction f generalizing v with
  | zero =>
    have := bitLen_small (v := v) (by simp at h; omega)
    rw [show Lib.bitLen v - 8 = 0 by omega]
    simp [bkt]
  | succ f ih =>
    by_cases hs : v < 256
    · have := bitLen_small hs
      rw [show Lib.bitLen v - 8 = 0 by omega, bkt, if_pos (by omega)]
      simp
    · obtain ⟨n, e1, e2⟩ := bitLen_nine (v := v) (by omega) hv
      rw [two_succ] at h
      have := ih (v / 2) (by omega) (by omega)
      rw [bkt, if_neg (by omega), show (v : Int) / 2 = ((v / 2 : Nat) : Int) by omega, this, e1, e2, show n + 9 - 8 = n + 1 by omega, show n + 8 - 8 = n by omega, div_two, show (v : Int) / 2 = ((v / 2 : Nat) : Int) by omega]
      omega

theorem bucket_len {v : Nat} (hv : v < 18446744073709551616) : bucketS (v : Int) = 128 * ((Lib.bitLen v - 8 : Nat) : Int) + (v : Int) / 2 ^ (Lib.bitLen v - 8) :=
  bkt_len 56 v (by omega) hv
theorem bitLenAux_le (f x : Nat) : Lib.bitLenAux f x ≤ f := by
  induction f generalizing x with
  | zero => simp [Lib.bitLenAux]
  | succ f ih =>
    rw [Lib.bitLenAux]
    split
    · omega
    · have := ih (x / 2); omega
theorem bitLen_most (v : Nat) : Lib.bitLen v - 8 ≤ 56 := by
  have : Lib.bitLen v ≤ 64 := bitLenAux_le 64 v
  omega
end Go.Proofs.YtadcaonkmncgoaaGreat
