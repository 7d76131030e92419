/-
  Plain arithmetic: the float nearest to a whole number, that a float is the nearest to itself, sums of floats, and whole units of a float.
  Conditions: as each theorem says; whole numbers alone.
-/
import Derived.Test.YtnhjjdgdffjdcaaFloK
import Derived.Lib.BitFns
import Derived.Lib.ItoaNum
namespace Go.Proofs.Ytnhjjdgdffjdcaa.Fl
open Ieee

/-- A power of two whose number is not reckoned out. -/
def pw (k : Nat) : Nat := 2 ^ k
theorem pw_pos (k : Nat) : 0 < pw k := Nat.two_pow_pos k
theorem pw_add {a b c : Nat} (h : a + b = c) : 2 ^ a * 2 ^ b = pw c := by subst h; exact (Nat.pow_add 2 a b).symm
theorem pw_mul {a b c : Nat} (h : a + b = c) : pw a * 2 ^ b = pw c := pw_add h

/-- n / 2^k to the nearest, of two as near the even one. -/
def rnd (n k : Nat) : Nat := n / 2 ^ k + (if 2 ^ k < 2 * (n % 2 ^ k) ∨ (2 ^ k = 2 * (n % 2 ^ k) ∧ n / 2 ^ k % 2 = 1) then 1 else 0)

theorem cut_even (neg : Bool) (n drop : Nat) (h : drop ≤ n.log2 + 2) : Toward.even.cut neg n drop = rnd n drop := by
  unfold Toward.cut rnd
  simp only [Nat.min_eq_left h, Nat.shiftLeft_eq, Nat.one_mul]
  congr 1
  by_cases k : 2 ^ drop < 2 * (n % 2 ^ drop) ∨ (2 ^ drop = 2 * (n % 2 ^ drop) ∧ n / 2 ^ drop % 2 = 1)
  · rw [if_pos k]
    have : (decide (2 ^ drop < 2 * (n % 2 ^ drop)) || 2 ^ drop == 2 * (n % 2 ^ drop) && n / 2 ^ drop % 2 == 1) = true := by simpa using k
    rw [this]; rfl
  · rw [if_neg k]
    have : (decide (2 ^ drop < 2 * (n % 2 ^ drop)) || 2 ^ drop == 2 * (n % 2 ^ drop) && n / 2 ^ drop % 2 == 1) = false := by
      rw [Bool.eq_false_iff]; intro c; exact k (by simpa using c)
    rw [this]; rfl

theorem rnd_zero (n : Nat) : rnd n 0 = n := by
  unfold rnd; rw [if_neg (by simp [Nat.mod_one])]; simp
theorem rnd_mul (m k : Nat) : rnd (m * 2 ^ k) k = m := by
  have hp : 0 < 2 ^ k := Nat.two_pow_pos k
  unfold rnd
  rw [Nat.mul_mod_left, Nat.mul_div_cancel _ hp, if_neg (by omega)]; rfl
theorem rnd_mono {a b : Nat} (k : Nat) (h : a ≤ b) : rnd a k ≤ rnd b k := by
  have hp : 0 < 2 ^ k := Nat.two_pow_pos k
  have h1 : a / 2 ^ k ≤ b / 2 ^ k := Nat.div_le_div_right h
  have ha := Nat.div_add_mod a (2 ^ k)
  have hb := Nat.div_add_mod b (2 ^ k)
  unfold rnd
  by_cases e : a / 2 ^ k = b / 2 ^ k
  · rw [e] at ha ⊢
    have : a % 2 ^ k ≤ b % 2 ^ k := by omega
    generalize a % 2 ^ k = x at *
    generalize b % 2 ^ k = y at *
    have := Nat.mod_lt b hp
    split <;> split <;> omega
  · split <;> split <;> omega
theorem rnd_bounds {n k : Nat} (h0 : 4503599627370496 * 2 ^ k ≤ n) (h1 : n < 9007199254740992 * 2 ^ k) : 4503599627370496 ≤ rnd n k ∧ rnd n k ≤ 9007199254740992 := by
  have hp : 0 < 2 ^ k := Nat.two_pow_pos k
  have a : 4503599627370496 ≤ n / 2 ^ k := by rw [Nat.le_div_iff_mul_le hp]; exact h0
  have b : n / 2 ^ k < 9007199254740992 := by rw [Nat.div_lt_iff_lt_mul hp]; exact h1
  unfold rnd
  split <;> omega

/-- The digits that are kept of a whole number. -/
def kept (v : Nat) : Nat := if v.log2 ≤ 52 then v * 2 ^ (52 - v.log2) else rnd v (v.log2 - 52)
/-- The float nearest to a whole number. -/
def fr (v : Nat) : Nat := if v = 0 then 0 else (v.log2 + 1022) * 4503599627370496 + kept v

theorem log_bounds {v : Nat} (h : v ≠ 0) : 2 ^ v.log2 ≤ v ∧ v < 2 ^ (v.log2 + 1) := ⟨Nat.log2_self_le h, Nat.lt_log2_self⟩
theorem log_lt {v : Nat} (h0 : v ≠ 0) (h : v < 18446744073709551616) : v.log2 < 64 := by
  rw [Nat.log2_lt h0]; exact h

theorem kept_bounds {v : Nat} (h : v ≠ 0) : 4503599627370496 ≤ kept v ∧ kept v ≤ 9007199254740992 := by
  obtain ⟨a, b⟩ := log_bounds h
  unfold kept
  by_cases k : v.log2 ≤ 52
  · rw [if_pos k]
    have e : (2 : Nat) ^ v.log2 * 2 ^ (52 - v.log2) = 4503599627370496 := by rw [← Nat.pow_add, show v.log2 + (52 - v.log2) = 52 by omega]
    have f : (2 : Nat) ^ (v.log2 + 1) * 2 ^ (52 - v.log2) = 9007199254740992 := by rw [← Nat.pow_add, show v.log2 + 1 + (52 - v.log2) = 53 by omega]
    have := Nat.mul_le_mul_right (2 ^ (52 - v.log2)) a
    have := Nat.mul_le_mul_right (2 ^ (52 - v.log2)) (Nat.le_of_lt b)
    omega
  · rw [if_neg k]
    have e : 4503599627370496 * (2 : Nat) ^ (v.log2 - 52) = 2 ^ v.log2 := by
      rw [show (4503599627370496 : Nat) = 2 ^ 52 from rfl, ← Nat.pow_add, show 52 + (v.log2 - 52) = v.log2 by omega]
    have f : 9007199254740992 * (2 : Nat) ^ (v.log2 - 52) = 2 ^ (v.log2 + 1) := by
      rw [show (9007199254740992 : Nat) = 2 ^ 53 from rfl, ← Nat.pow_add, show 53 + (v.log2 - 52) = v.log2 + 1 by omega]
    exact rnd_bounds (by omega) (by omega)

theorem fr_lt {v : Nat} (h : v < 18446744073709551616) : fr v < 9218868437227405312 := by
  unfold fr
  split
  · omega
  · rename_i h0
    have := kept_bounds h0
    have := log_lt h0 h
    omega

theorem nearest_fr {v : Nat} (h : v < 18446744073709551616) : double.nearest false v 0 = fr v := by
  have hb := fr_lt h
  unfold Format.nearest fr at *
  by_cases h0 : v = 0
  · rw [if_pos h0, if_pos h0]; rfl
  · rw [if_neg h0] at hb ⊢
    rw [if_neg h0]
    have hl := log_lt h0 h
    simp only [lp, bi, ir]
    have e0 : ((double.fractionBits : Nat) : Int) = 52 := rfl
    rw [e0]
    have e1 : max (0 + (v.log2 : Int) - 52) (-1074) = (v.log2 : Int) - 52 := by omega
    rw [e1]
    have e2 : ((v.log2 : Int) - 52 - -1074).toNat = v.log2 + 1022 := by omega
    have e3 : (0 - ((v.log2 : Int) - 52)).toNat = 52 - v.log2 := by omega
    have e4 : ((v.log2 : Int) - 52 - 0).toNat = v.log2 - 52 := by omega
    rw [e2, e3, e4]
    have e5 : Toward.even.cut false (v <<< (52 - v.log2)) (v.log2 - 52) = kept v := by
      unfold kept
      by_cases k : v.log2 ≤ 52
      · rw [if_pos k, show v.log2 - 52 = 0 by omega, cut_even _ _ _ (by omega), rnd_zero, Nat.shiftLeft_eq]
      · rw [if_neg k, show 52 - v.log2 = 0 by omega, Nat.shiftLeft_zero, cut_even _ _ _ (by omega)]
    rw [e5, Nat.min_eq_left (by omega)]
    rfl

theorem M_at (e c : Nat) (h0 : 4503599627370496 ≤ c) (h1 : c ≤ 9007199254740992) : M (e * 4503599627370496 + c) = c * 2 ^ e := by
  unfold M mg pl
  rw [if_neg (by omega)]
  by_cases k : c = 9007199254740992
  · subst k
    rw [show (e * 4503599627370496 + 9007199254740992) / 4503599627370496 - 1 = e + 1 by omega, show (e * 4503599627370496 + 9007199254740992) % 4503599627370496 = 0 by omega, Nat.pow_succ]
    omega
  · rw [show (e * 4503599627370496 + c) / 4503599627370496 - 1 = e by omega]
    congr 1
    omega

theorem M_fr {v : Nat} (h : v ≠ 0) : M (fr v) = kept v * 2 ^ (v.log2 + 1022) := by
  unfold fr; rw [if_neg h]
  exact M_at _ _ (kept_bounds h).1 (kept_bounds h).2

theorem fr_mono {v w : Nat} (h : v ≤ w) : fr v ≤ fr w := by
  by_cases h0 : v = 0
  · unfold fr; rw [if_pos h0]; omega
  · have h1 : w ≠ 0 := by omega
    have bv := kept_bounds h0
    have bw := kept_bounds h1
    have hl : v.log2 ≤ w.log2 := by
      have a := (log_bounds h0).1
      have b := (log_bounds h1).2
      have : 2 ^ v.log2 < 2 ^ (w.log2 + 1) := by omega
      have := (Nat.pow_lt_pow_iff_right (show 1 < 2 by omega)).1 this
      omega
    unfold fr
    rw [if_neg h0, if_neg h1]
    by_cases e : v.log2 = w.log2
    · have : kept v ≤ kept w := by
        unfold kept
        rw [e]
        split
        · exact Nat.mul_le_mul_right _ h
        · exact rnd_mono _ h
      rw [e]; omega
    · omega

/-- A number up to 2^53 is kept whole. -/
theorem M_fr_small {v : Nat} (h : v ≤ 9007199254740992) : M (fr v) = v * pw 1074 := by
  by_cases h0 : v = 0
  · subst h0; rw [Nat.zero_mul]; exact M_zero
  · rw [M_fr h0]
    have hl : v.log2 ≤ 53 := by
      have := (Nat.log2_lt h0 (k := 54)).2 (by omega)
      omega
    unfold kept
    by_cases k : v.log2 ≤ 52
    · rw [if_pos k, Nat.mul_assoc, pw_add (show 52 - v.log2 + (v.log2 + 1022) = 1074 by omega)]
    · have e : v.log2 = 53 := by omega
      have := (log_bounds h0).1
      rw [e] at this
      have ev : v = 9007199254740992 := by omega
      rw [if_neg k, e]
      have er : rnd v (53 - 52) = 2 ^ 52 := by rw [ev]; decide
      rw [er, pw_add (show 52 + (53 + 1022) = 1127 by omega), ev, show (9007199254740992 : Nat) = 2 ^ 53 from rfl, Nat.mul_comm, pw_mul (show 1074 + 53 = 1127 by omega)]

theorem word_eq {b : Nat} (h : b < 18446744073709551616) : double.word (ng b) (rg b) = b := by
  unfold Format.word ng rg
  rw [sw]
  by_cases k : 9223372036854775808 ≤ b
  · rw [decide_eq_true k, if_pos rfl]; omega
  · rw [decide_eq_false k]; simp only [Bool.false_eq_true, if_false]; omega

theorem log_of {n k : Nat} (h0 : 2 ^ k ≤ n) (h1 : n < 2 ^ (k + 1)) : n.log2 = k := by
  have hp : 0 < 2 ^ k := Nat.two_pow_pos k
  exact (Nat.log2_eq_iff (by omega)).2 ⟨h0, h1⟩

/-- A float is the nearest to itself. -/
theorem nearest_self {s : Bool} {r : Nat} (h : r < 9218868437227405312) : double.nearest s (M r) (-1074) = double.word s r := by
  by_cases h0 : r = 0
  · subst h0; rw [M_zero]; rfl
  · have hm : M r ≠ 0 := fun c => h0 ((M_eq_iff r 0).1 (c.trans M_zero.symm))
    unfold Format.nearest
    rw [if_neg hm]
    simp only [lp, bi, ir]
    have e0 : ((double.fractionBits : Nat) : Int) = 52 := rfl
    rw [e0]
    by_cases k : r < 4503599627370496
    · have em : M r = r := by
        unfold M mg pl; rw [if_pos k, show r / 4503599627370496 - 1 = 0 by omega]; simp
      rw [em]
      have hl : r.log2 < 52 := by rw [Nat.log2_lt h0]; exact k
      have e1 : max (-1074 + (r.log2 : Int) - 52) (-1074) = -1074 := by omega
      rw [e1]
      simp only [Int.sub_self, Int.toNat_zero, Nat.shiftLeft_zero]
      rw [cut_even _ _ _ (by omega), rnd_zero, Nat.zero_mul, Nat.zero_add, Nat.min_eq_left (by omega)]
    · have em : M r = mg r * 2 ^ pl r := rfl
      have hg : 4503599627370496 ≤ mg r := by unfold mg; rw [if_neg k]; omega
      have hl : (M r).log2 = 52 + pl r := by
        refine log_of ?_ ?_
        · rw [em, Nat.pow_add]; exact Nat.mul_le_mul_right _ hg
        · rw [em, show 52 + pl r + 1 = 53 + pl r by omega, Nat.pow_add]
          exact Nat.mul_lt_mul_of_pos_right (mg_lt r) (Nat.two_pow_pos _)
      rw [hl]
      have e1 : max (-1074 + ((52 + pl r : Nat) : Int) - 52) (-1074) = -1074 + (pl r : Int) := by omega
      rw [e1]
      have e2 : (-1074 - (-1074 + (pl r : Int))).toNat = 0 := by omega
      have e3 : (-1074 + (pl r : Int) - -1074).toNat = pl r := by omega
      rw [e2, e3, Nat.shiftLeft_zero, cut_even _ _ _ (by omega), em, rnd_mul]
      have e4 : pl r * 4503599627370496 + mg r = r := by
        unfold pl mg; rw [if_neg k]; omega
      rw [e4, Nat.min_eq_left (by omega)]

theorem sum_comm (a b : Datum) : a.sum b = b.sum a := by
  cases a <;> cases b <;> simp only [Datum.sum]
  · rename_i s m i t n j
    rw [Int.min_comm i j, Int.add_comm (signed s m _), Bool.and_comm s t]
  · rename_i s t
    by_cases h : s = t
    · subst h; rfl
    · rw [if_neg h, if_neg (fun c => h c.symm)]

theorem add_comm (x y : Nat) : double.add x y = double.add y x := by
  unfold Format.add; rw [sum_comm]

theorem rg_word (s : Bool) {r : Nat} (h : r < 9223372036854775808) : rg (double.word s r) = r := by
  unfold Format.word rg; rw [sw]
  cases s <;> simp only [Bool.false_eq_true, if_false, if_true] <;> omega

theorem nearest_num (s : Bool) (m : Nat) (p : Int) : rg (double.nearest s m p) ≤ 9218868437227405312 := by
  unfold Format.nearest
  split
  · rw [rg_word s (by omega)]; omega
  · simp only [ir]
    have := Nat.min_le_right ((max (p + (m.log2 : Int) - (double.fractionBits : Nat)) double.leastPlace - double.leastPlace).toNat * double.binade + Toward.even.cut s (m <<< (p - max (p + (m.log2 : Int) - (double.fractionBits : Nat)) double.leastPlace).toNat) (max (p + (m.log2 : Int) - (double.fractionBits : Nat)) double.leastPlace - p).toNat) 9218868437227405312
    rw [rg_word s (by omega)]
    exact this

/-- A sum that is a number is none that isn't. -/
theorem add_num {x y r : Nat} (h : double.add x y = some r) : r < 18446744073709551616 ∧ rg r ≤ 9218868437227405312 := by
  refine ⟨double.add_lt h, ?_⟩
  unfold Format.add at h
  generalize double.read x = a at h
  generalize double.read y = b at h
  have inf : ∀ s, rg (double.write (.infinity s)) ≤ 9218868437227405312 := by
    intro s
    show rg (double.word s double.infRung) ≤ _
    rw [ir, rg_word s (by omega)]; omega
  cases a <;> cases b <;> simp only [Datum.sum, Option.map] at h
  all_goals first
    | (cases h; done)
    | (cases h; exact inf _)
    | (cases h; exact nearest_num _ _ _)
    | skip
  rename_i s t
  by_cases c : s = t
  · rw [if_pos c] at h; cases h; exact inf _
  · rw [if_neg c] at h; cases h

/-- The other sign. -/
def flip (b : Nat) : Nat := if 9223372036854775808 ≤ b then b - 9223372036854775808 else b + 9223372036854775808
theorem flip_lt {b : Nat} (h : b < 18446744073709551616) : flip b < 18446744073709551616 := by unfold flip; split <;> omega
theorem flip_rg {b : Nat} (h : b < 18446744073709551616) : rg (flip b) = rg b := by unfold flip rg; split <;> omega
theorem flip_ng {b : Nat} (h : b < 18446744073709551616) : ng (flip b) = !ng b := by
  unfold flip ng
  by_cases k : 9223372036854775808 ≤ b
  · rw [if_pos k, decide_eq_true k, decide_eq_false (by omega)]; rfl
  · rw [if_neg k, decide_eq_false k, decide_eq_true (by omega)]; rfl

theorem add_flip {b : Nat} (h : b < 18446744073709551616) (hr : rg b < 9218868437227405312) : double.add b (flip b) = some 0 := by
  unfold Format.add
  rw [read_fin h hr, read_fin (flip_lt h) (by rw [flip_rg h]; exact hr), flip_rg h, flip_ng h]
  simp only [Datum.sum, Option.map, signed_eq, Int.min_self, Int.sub_self, Int.toNat_zero]
  have e : sg (ng b) (mg (rg b) * 2 ^ 0) + sg (!ng b) (mg (rg b) * 2 ^ 0) = 0 := by
    unfold sg; cases ng b <;> simp <;> omega
  rw [e]
  cases ng b <;> rfl

theorem add_flip_none {b : Nat} (h : b < 18446744073709551616) (hr : 9218868437227405312 ≤ rg b) : double.add b (flip b) = none := by
  unfold Format.add
  by_cases k : rg b = 9218868437227405312
  · rw [read_inf h k, read_inf (flip_lt h) (by rw [flip_rg h]; exact k), flip_ng h]
    cases ng b <;> rfl
  · rw [read_nan h (by omega)]; rfl

theorem add_nought {b : Nat} (h : b < 18446744073709551616) (hr : rg b < 9218868437227405312) : double.add b 9223372036854775808 = some b := by
  unfold Format.add
  have e0 : double.read 9223372036854775808 = .number true 0 (-1074) := by
    rw [read_fin (by omega) (by decide)]; rfl
  rw [read_fin h hr, e0]
  simp only [Datum.sum, Option.map, signed_eq]
  have e1 : min (-1074 + ((pl (rg b) : Nat) : Int)) (-1074) = -1074 := by omega
  rw [e1]
  have e2 : (-1074 + ((pl (rg b) : Nat) : Int) - -1074).toNat = pl (rg b) := by omega
  rw [e2]
  have e3 : sg (ng b) (mg (rg b) * 2 ^ pl (rg b)) + sg true (0 * 2 ^ (-1074 - -1074 : Int).toNat) = sg (ng b) (M (rg b)) := by
    unfold sg M; simp
  rw [e3]
  have e4 : (sg (ng b) (M (rg b))).natAbs = M (rg b) := by unfold sg; split <;> simp
  have e5 : (if sg (ng b) (M (rg b)) = 0 then ng b && true else decide (sg (ng b) (M (rg b)) < 0)) = ng b := by
    by_cases z : sg (ng b) (M (rg b)) = 0
    · rw [if_pos z, Bool.and_true]
    · rw [if_neg z]
      unfold sg at *
      cases ng b
      · simp
      · simp only [if_true] at *
        exact decide_eq_true (by omega)
  rw [e4, e5]
  show some (double.nearest (ng b) (M (rg b)) (-1074)) = some b
  rw [nearest_self hr, word_eq h]

theorem add_noughts : double.add 9223372036854775808 9223372036854775808 = some 9223372036854775808 := add_nought (by omega) (by decide)
theorem add_nought' : double.add 0 9223372036854775808 = some 0 := add_nought (by omega) (by decide)

/-- Whole units of the float of rung r, at a shift within bounds. -/
def un (r : Nat) (s : Int) : Nat := M r * 2 ^ (s + 2000).toNat / pw 3074

theorem un_hi {r : Nat} {s : Int} (h0 : -2000 ≤ s) (h : 0 ≤ -1074 + (pl r : Int) + s) : un r s = mg r * 2 ^ (-1074 + (pl r : Int) + s).toNat := by
  unfold un M
  have e : (mg r * 2 ^ pl r) * 2 ^ (s + 2000).toNat = (mg r * 2 ^ (-1074 + (pl r : Int) + s).toNat) * pw 3074 := by
    rw [Nat.mul_assoc, Nat.mul_assoc, pw_add (a := pl r) rfl, Nat.mul_comm _ (pw 3074)]
    rw [pw_mul (show 3074 + (-1074 + (pl r : Int) + s).toNat = pl r + (s + 2000).toNat by omega)]
  rw [e, Nat.mul_div_cancel _ (pw_pos _)]

theorem un_lo {r : Nat} {s : Int} (h0 : -2000 ≤ s) (h : -1074 + (pl r : Int) + s < 0) : un r s = mg r / 2 ^ (-(-1074 + (pl r : Int) + s)).toNat := by
  unfold un M
  have e : pw 3074 = 2 ^ (-(-1074 + (pl r : Int) + s)).toNat * 2 ^ (pl r + (s + 2000).toNat) := by
    rw [pw_add]; omega
  rw [e, Nat.mul_assoc, ← Nat.pow_add, Nat.mul_div_mul_right _ _ (Nat.two_pow_pos _)]

theorem un_lo_lt {r : Nat} {s : Int} (h0 : -2000 ≤ s) (h : -1074 + (pl r : Int) + s < 0) : un r s < 9007199254740992 := by
  rw [un_lo h0 h]
  exact Nat.lt_of_le_of_lt (Nat.div_le_self _ _) (mg_lt r)

theorem un_mono {a b : Nat} (s : Int) (h : a ≤ b) : un a s ≤ un b s := by
  unfold un
  refine Nat.div_le_div_right (Nat.mul_le_mul_right _ ?_)
  rcases Nat.lt_or_ge a b with k | k
  · exact Nat.le_of_lt (M_mono k)
  · rw [show a = b by omega]; exact Nat.le_refl _

theorem un_zero (s : Int) : un 0 s = 0 := by unfold un; rw [M_zero, Nat.zero_mul, Nat.zero_div]

theorem un_succ {r : Nat} {s : Int} (h0 : -2000 ≤ s) : un r (s + 1) = 2 * un r s ∨ un r (s + 1) = 2 * un r s + 1 := by
  unfold un
  rw [show (s + 1 + 2000).toNat = (s + 2000).toNat + 1 by omega, Nat.pow_succ, ← Nat.mul_assoc]
  generalize M r * 2 ^ (s + 2000).toNat = x
  have hp : 0 < pw 3074 := pw_pos 3074
  generalize pw 3074 = g at *
  have a := Nat.div_add_mod x g
  have b := Nat.mod_lt x hp
  have lo : 2 * (x / g) ≤ x * 2 / g := by
    rw [Nat.le_div_iff_mul_le hp]
    have : 2 * (x / g) * g = 2 * (g * (x / g)) := by rw [Nat.mul_assoc, Nat.mul_comm (x / g)]
    omega
  have hi : x * 2 / g < 2 * (x / g) + 2 := by
    rw [Nat.div_lt_iff_lt_mul hp]
    have : (2 * (x / g) + 2) * g = 2 * (g * (x / g)) + 2 * g := by rw [Nat.add_mul, Nat.mul_assoc, Nat.mul_comm (x / g)]
    omega
  omega

theorem un_fr_small {v : Nat} (h : v ≤ 9007199254740992) : un (fr v) 0 = v := by
  unfold un
  rw [M_fr_small h, Nat.mul_assoc, pw_mul (show 1074 + ((0 : Int) + 2000).toNat = 3074 by decide)]
  exact Nat.mul_div_cancel _ (pw_pos _)

/-- Whether digits moved up leave a word: by how many bits they have. -/
theorem len_iff {d p : Nat} (h0 : d ≠ 0) (h : d < 18446744073709551616) : (64 : Int) < (Lib.bitLen d : Int) + p ↔ 18446744073709551616 ≤ d * 2 ^ p := by
  have e64 : (2 : Nat) ^ 64 = 18446744073709551616 := by decide +kernel
  obtain ⟨b1, b2, b3⟩ := Lib.bitLenAux_bounds 64 d (by omega) h0
  unfold Lib.bitLen
  generalize Lib.bitLenAux 64 d = k at *
  constructor
  · intro c
    have : 2 ^ (k - 1) * 2 ^ p ≤ d * 2 ^ p := Nat.mul_le_mul_right _ b2
    rw [← Nat.pow_add] at this
    have : (2 : Nat) ^ 64 ≤ 2 ^ (k - 1 + p) := Nat.pow_le_pow_right (by omega) (by omega)
    omega
  · intro c
    have : d * 2 ^ p < 2 ^ k * 2 ^ p := Nat.mul_lt_mul_of_pos_right b3 (Nat.two_pow_pos p)
    rw [← Nat.pow_add] at this
    have : (2 : Nat) ^ 64 < 2 ^ (k + p) := by omega
    have := (Nat.pow_lt_pow_iff_right (show 1 < 2 by omega)).1 this
    omega
end Go.Proofs.Ytnhjjdgdffjdcaa.Fl
