/-
  Buckets as plain arithmetic: a number's bucket, a bucket's least and greatest number; a number lies between its bucket's ends, no more than a 128th of it above the lower one; buckets rise, and follow upon each other.
  Conditions: numbers are words of 64 bits; buckets go from 0 to 7423.
-/
import Derived.Below
namespace Go.Proofs.Ytjngpdhhkkambab

/-- A number's bucket, by halving at most f times. -/
def bkt : Nat → Int → Int
  | 0, v => v
  | f + 1, v => if v < 256 then v else 128 + bkt f (v / 2)
/-- A number's bucket. -/
def bucketS (v : Int) : Int := bkt 56 v
/-- How many bits a bucket leaves out. -/
def bexp (k : Int) : Nat := if k < 256 then 0 else (k / 128 - 1).toNat
/-- A bucket's least number. -/
def lowS (k : Int) : Int := if k < 256 then k else (k - 128 * (k / 128 - 1)) * 2 ^ (k / 128 - 1).toNat
/-- A bucket's greatest number. -/
def highS (k : Int) : Int := lowS (k + 1) - 1

theorem two_pos (e : Nat) : (0 : Int) < 2 ^ e := Int.pow_pos (by decide)
theorem two_succ (e : Nat) : (2 : Int) ^ (e + 1) = 2 * 2 ^ e := by rw [Int.pow_succ, Int.mul_comm]
theorem div_two (v : Int) (e : Nat) : v / 2 ^ (e + 1) = v / 2 / 2 ^ e := by
  rw [two_succ, Int.ediv_ediv_of_nonneg (by decide)]

theorem bkt_spec (f : Nat) (v : Int) (h0 : 0 ≤ v) (h1 : v < 256 * 2 ^ f) : ∃ e : Nat, e ≤ f ∧ (e = 0 ∨ 128 * 2 ^ e ≤ v) ∧ v < 256 * 2 ^ e ∧ bkt f v = 128 * e + v / 2 ^ e := by
  induction f generalizing v with
  | zero => exact ⟨0, Nat.le_refl _, Or.inl rfl, h1, by simp [bkt]⟩
  | succ f ih =>
    by_cases hv : v < 256
    · exact ⟨0, by omega, Or.inl rfl, by simpa using hv, by simp [bkt, hv]⟩
    · rw [two_succ] at h1
      obtain ⟨e, e1, e2, e3, e4⟩ := ih (v / 2) (by omega) (by omega)
      refine ⟨e + 1, by omega, Or.inr ?_, ?_, ?_⟩
      · rw [two_succ]
        rcases e2 with rfl | e2
        · simp at *; omega
        · omega
      · rw [two_succ]; omega
      · rw [bkt, if_neg hv, e4, div_two]; omega

/-- A number that leaves e bits out lies in the bucket that its first eight bits say. -/
theorem bucketS_spec {v : Int} (h0 : 0 ≤ v) (h1 : v < 18446744073709551616) : ∃ (e : Nat) (m : Int), e ≤ 56 ∧ 0 ≤ m ∧ m ≤ 255 ∧ (e = 0 ∨ 128 ≤ m) ∧ m * 2 ^ e ≤ v ∧ v < m * 2 ^ e + 2 ^ e ∧ bucketS v = 128 * e + m := by
  obtain ⟨e, e1, e2, e3, e4⟩ := bkt_spec 56 v h0 (by omega)
  have hp := two_pos e
  have hd := Int.mul_ediv_add_emod v (2 ^ e)
  have hm := Int.emod_nonneg v (show (2 : Int) ^ e ≠ 0 by omega)
  have hl := Int.emod_lt_of_pos v hp
  rw [Int.mul_comm] at hd
  refine ⟨e, v / 2 ^ e, e1, Int.ediv_nonneg h0 (by omega), ?_, ?_, by omega, by omega, e4⟩
  · have : v / 2 ^ e < 256 := Int.ediv_lt_of_lt_mul hp e3
    omega
  · rcases e2 with h | h
    · exact Or.inl h
    · exact Or.inr (Int.le_ediv_of_mul_le hp h)

theorem lowS_small {k : Int} (h : k < 256) : lowS k = k := by unfold lowS; rw [if_pos h]
theorem lowS_parts (e : Nat) {m : Int} (h0 : 0 ≤ m) (h1 : m ≤ 255) (h2 : e = 0 ∨ 128 ≤ m) : lowS (128 * e + m) = m * 2 ^ e := by
  cases e with
  | zero => rw [lowS_small (by omega)]; simp
  | succ e =>
    have hm : 128 ≤ m := by omega
    have hd : (128 * ((e + 1 : Nat) : Int) + m) / 128 - 1 = ((e + 1 : Nat) : Int) := by omega
    unfold lowS
    rw [if_neg (by omega), hd, Int.toNat_natCast]
    congr 1
    omega
theorem lowS_next (e : Nat) {m : Int} (h0 : 0 ≤ m) (h1 : m ≤ 255) (h2 : e = 0 ∨ 128 ≤ m) : lowS (128 * e + m + 1) = m * 2 ^ e + 2 ^ e := by
  by_cases hm : m = 255
  · subst hm
    have : (128 * (e : Int) + 255 + 1) = 128 * ((e + 1 : Nat) : Int) + 128 := by omega
    rw [this, lowS_parts (e + 1) (by omega) (by omega) (Or.inr (by omega)), two_succ]
    omega
  · rw [Int.add_assoc, lowS_parts e (by omega) (by omega) (by omega), Int.add_mul, Int.one_mul]
/-- Every bucket is so. -/
theorem bucket_parts {k : Int} (h0 : 0 ≤ k) (h1 : k ≤ 7423) : ∃ (e : Nat) (m : Int), e ≤ 56 ∧ 0 ≤ m ∧ m ≤ 255 ∧ (e = 0 ∨ 128 ≤ m) ∧ k = 128 * e + m := by
  by_cases h : k < 256
  · exact ⟨0, k, by omega, h0, by omega, Or.inl rfl, by omega⟩
  · exact ⟨(k / 128 - 1).toNat, k - 128 * (k / 128 - 1), by omega, by omega, by omega, Or.inr (by omega), by omega⟩
theorem lowS_step {k : Int} (h0 : 0 ≤ k) (h1 : k ≤ 7423) : lowS k < lowS (k + 1) := by
  obtain ⟨e, m, e1, m0, m1, hm, rfl⟩ := bucket_parts h0 h1
  have := two_pos e
  rw [lowS_parts e m0 m1 hm, lowS_next e m0 m1 hm]
  omega
theorem lowS_lt {j k : Int} (h0 : 0 ≤ j) (h1 : j < k) (h2 : k ≤ 7424) : lowS j < lowS k := by
  obtain ⟨n, hn⟩ : ∃ n : Nat, k = j + 1 + n := ⟨(k - j - 1).toNat, by omega⟩
  induction n generalizing k with
  | zero => rw [hn]; simpa using lowS_step h0 (by omega)
  | succ n ih =>
    have h3 := ih (k := j + 1 + n) (by omega) (by omega) rfl
    have h4 := lowS_step (k := j + 1 + n) (by omega) (by omega)
    rw [hn, show j + 1 + ((n + 1 : Nat) : Int) = j + 1 + n + 1 by omega]
    omega
theorem lowS_le {j k : Int} (h0 : 0 ≤ j) (h1 : j ≤ k) (h2 : k ≤ 7424) : lowS j ≤ lowS k := by
  by_cases h : j = k
  · rw [h]; omega
  · have := lowS_lt h0 (show j < k by omega) h2; omega
theorem lowS_top : lowS 7424 = 18446744073709551616 := by decide
theorem lowS_zero : lowS 0 = 0 := by decide

theorem bucketS_range {v : Int} (h0 : 0 ≤ v) (h1 : v < 18446744073709551616) : 0 ≤ bucketS v ∧ bucketS v ≤ 7423 := by
  obtain ⟨e, m, e1, m0, m1, _, _, _, hb⟩ := bucketS_spec h0 h1
  rw [hb]
  exact ⟨by omega, by omega⟩
theorem bucketS_between {v : Int} (h0 : 0 ≤ v) (h1 : v < 18446744073709551616) : lowS (bucketS v) ≤ v ∧ v < lowS (bucketS v + 1) := by
  obtain ⟨e, m, e1, m0, m1, hm, h2, h3, hb⟩ := bucketS_spec h0 h1
  rw [hb, lowS_parts e m0 m1 hm, lowS_next e m0 m1 hm]
  exact ⟨h2, h3⟩
theorem bucketS_of {v k : Int} (h0 : 0 ≤ v) (h1 : v < 18446744073709551616) (k0 : 0 ≤ k) (k1 : k ≤ 7423) (l : lowS k ≤ v) (u : v < lowS (k + 1)) : bucketS v = k := by
  obtain ⟨b0, b1⟩ := bucketS_range h0 h1
  obtain ⟨c0, c1⟩ := bucketS_between h0 h1
  by_cases h : bucketS v < k
  · have := lowS_le (j := bucketS v + 1) (k := k) (by omega) (by omega) (by omega); omega
  · by_cases h' : k < bucketS v
    · have := lowS_le (j := k + 1) (k := bucketS v) (by omega) (by omega) (by omega); omega
    · omega
theorem lowS_word {k : Int} (h0 : 0 ≤ k) (h1 : k ≤ 7423) : 0 ≤ lowS k ∧ lowS k < 18446744073709551616 := by
  have h2 := lowS_le (j := 0) (k := k) (by omega) h0 (by omega)
  have h3 := lowS_lt (j := k) (k := 7424) h0 (by omega) (by omega)
  rw [lowS_zero] at h2
  rw [lowS_top] at h3
  exact ⟨h2, h3⟩
theorem highS_word {k : Int} (h0 : 0 ≤ k) (h1 : k ≤ 7423) : lowS k ≤ highS k ∧ highS k < 18446744073709551616 := by
  have h2 := lowS_lt (j := k) (k := k + 1) h0 (by omega) (by omega)
  have h3 := lowS_le (j := k + 1) (k := 7424) (by omega) (by omega) (by omega)
  rw [lowS_top] at h3
  unfold highS
  exact ⟨by omega, by omega⟩
theorem bucketS_low {k : Int} (h0 : 0 ≤ k) (h1 : k ≤ 7423) : bucketS (lowS k) = k := by
  obtain ⟨a, b⟩ := lowS_word h0 h1
  exact bucketS_of a b h0 h1 (by omega) (lowS_step h0 h1)
theorem bucketS_high {k : Int} (h0 : 0 ≤ k) (h1 : k ≤ 7423) : bucketS (highS k) = k := by
  obtain ⟨a, b⟩ := lowS_word h0 h1
  obtain ⟨c, d⟩ := highS_word h0 h1
  exact bucketS_of (by omega) d h0 h1 c (by unfold highS; omega)
theorem bucketS_mono {v w : Int} (h0 : 0 ≤ v) (h1 : v ≤ w) (h2 : w < 18446744073709551616) : bucketS v ≤ bucketS w := by
  obtain ⟨b0, b1⟩ := bucketS_range h0 (show v < 18446744073709551616 by omega)
  obtain ⟨c0, c1⟩ := bucketS_range (show 0 ≤ w by omega) h2
  obtain ⟨d0, d1⟩ := bucketS_between h0 (show v < 18446744073709551616 by omega)
  obtain ⟨e0, e1⟩ := bucketS_between (show 0 ≤ w by omega) h2
  by_cases h : bucketS w < bucketS v
  · have := lowS_le (j := bucketS w + 1) (k := bucketS v) (by omega) (by omega) (by omega); omega
  · omega
theorem bucketS_near {v : Int} (h0 : 0 ≤ v) (h1 : v < 18446744073709551616) : v - lowS (bucketS v) ≤ v / 128 := by
  obtain ⟨e, m, e1, m0, m1, hm, h2, h3, hb⟩ := bucketS_spec h0 h1
  rw [hb, lowS_parts e m0 m1 hm]
  rcases hm with rfl | hm
  · simp at h2 h3 ⊢
    omega
  · have hp := two_pos e
    have h4 : 128 * 2 ^ e ≤ m * 2 ^ e := Int.mul_le_mul_of_nonneg_right hm (by omega)
    omega
theorem highS_top : highS 7423 = 18446744073709551615 := by decide
end Go.Proofs.Ytjngpdhhkkambab
