/-
  Plain arithmetic: what a word of 64 bits stands for as a float, how two of them stand to each other, the float nearest to a whole number, and that a float is the nearest to itself. Plain arithmetic: the float nearest to a whole number, that a float is the nearest to itself, sums of floats, and whole units of a float. Plain arithmetic: words and their bits: the sign's bit, all bits the other way, the fraction, the exponent. What the library's small functions on floats come to (is it no number, is it infinite, its sign, without its sign): contracts, for every world; they change nothing. What flo.Kind, flo.Key, flo.Of and flo.Less come to at any words: contracts, for every world; they change nothing.
  Conditions: as each theorem says; whole numbers alone; each argument is a float's 64 bits; each argument is a word (0 to 2^64 - 1).
-/
import Derived.WalkKit
import Derived.Laws.FloatArith
import Derived.Lib.BitFns
import Derived.Lib.ItoaNum
import Derived.Laws.Bits64b
import Derived.Test.YtadcaonkmncgoaaGreatHideK
import Derived.Test.YtadcaonkmncgoaaGreatRows
import Derived.WalkSpells
import Derived.WalkLawsBesides
import Derived.RowKit3
import Derived.Laws.Externs
namespace Go.Proofs.YtadcaonkmncgoaaGreat.Fl
open Ieee

theorem sw : double.signWeight = 9223372036854775808 := by decide
theorem bi : double.binade = 4503599627370496 := by decide
theorem ir : double.infRung = 9218868437227405312 := by decide
theorem lp : double.leastPlace = -1074 := by decide

/-- The rung of a word. -/
def rg (b : Nat) : Nat := b % 9223372036854775808
/-- Whether the sign is there. -/
def ng (b : Nat) : Bool := decide (9223372036854775808 ≤ b)
/-- Whether it is no number. -/
def nanB (b : Nat) : Bool := decide (9218868437227405312 < rg b)
/-- A number that rises as the floats do; the same for both noughts. -/
def val (b : Nat) : Int := if 9223372036854775808 ≤ b then -(rg b : Int) else rg b

def mg (r : Nat) : Nat := if r < 4503599627370496 then r else 4503599627370496 + r % 4503599627370496
def pl (r : Nat) : Nat := r / 4503599627370496 - 1
def M (r : Nat) : Nat := mg r * 2 ^ pl r

theorem neg_eq {b : Nat} (h : b < 18446744073709551616) : (b / 9223372036854775808 % 2 == 1) = ng b := by
  unfold ng
  by_cases k : 9223372036854775808 ≤ b
  · rw [decide_eq_true k]; exact beq_iff_eq.2 (by omega)
  · rw [decide_eq_false k]; exact beq_eq_false_iff_ne.2 (by omega)

theorem read_fin {b : Nat} (h : b < 18446744073709551616) (hr : rg b < 9218868437227405312) :
    double.read b = .number (ng b) (mg (rg b)) (-1074 + (pl (rg b) : Nat)) := by
  unfold rg at hr
  unfold Format.read
  simp only [sw, bi, ir, lp, neg_eq h]
  unfold mg pl rg
  by_cases k : b % 9223372036854775808 < 4503599627370496
  · rw [if_pos k, if_pos k]
    have : b % 9223372036854775808 / 4503599627370496 - 1 = 0 := by omega
    rw [this]; simp
  · rw [if_neg k, if_pos hr, if_neg k]

theorem read_inf {b : Nat} (h : b < 18446744073709551616) (hr : rg b = 9218868437227405312) :
    double.read b = .infinity (ng b) := by
  unfold rg at hr
  unfold Format.read
  simp only [sw, bi, ir, lp, neg_eq h]
  rw [if_neg (by omega), if_neg (by omega), if_pos hr]

theorem read_nan {b : Nat} (h : b < 18446744073709551616) (hr : 9218868437227405312 < rg b) :
    double.read b = .nan (ng b) (rg b - 9218868437227405312) := by
  unfold rg at hr
  unfold Format.read
  simp only [sw, bi, ir, lp, neg_eq h]
  rw [if_neg (by omega), if_neg (by omega), if_neg (by omega)]
  rfl

theorem mg_lt (r : Nat) : mg r < 9007199254740992 := by unfold mg; split <;> omega
theorem M_lt_top (r : Nat) : M r < 4503599627370496 * 2 ^ (r / 4503599627370496) := by
  unfold M mg pl
  by_cases k : r < 4503599627370496
  · rw [if_pos k]
    have e : r / 4503599627370496 = 0 := by omega
    rw [e]; simpa using k
  · rw [if_neg k]
    obtain ⟨e, he⟩ : ∃ e, r / 4503599627370496 = e + 1 := ⟨r / 4503599627370496 - 1, by omega⟩
    rw [he, Nat.add_sub_cancel, Nat.pow_succ]
    have : 4503599627370496 * (2 ^ e * 2) = 9007199254740992 * 2 ^ e := by omega
    rw [this]
    exact Nat.mul_lt_mul_of_pos_right (by omega) (Nat.two_pow_pos e)
theorem M_ge_bot {r : Nat} (k : 4503599627370496 ≤ r) : 4503599627370496 * 2 ^ (r / 4503599627370496 - 1) ≤ M r := by
  unfold M mg pl
  rw [if_neg (by omega)]
  exact Nat.mul_le_mul_right _ (by omega)

theorem M_mono {a b : Nat} (h : a < b) : M a < M b := by
  by_cases e : a / 4503599627370496 = b / 4503599627370496
  · unfold M
    have hp : pl a = pl b := by unfold pl; rw [e]
    rw [hp]
    refine Nat.mul_lt_mul_of_pos_right ?_ (Nat.two_pow_pos _)
    unfold mg
    split <;> split <;> omega
  · have hb : 4503599627370496 ≤ b := by omega
    refine Nat.lt_of_lt_of_le (M_lt_top a) (Nat.le_trans ?_ (M_ge_bot hb))
    exact Nat.mul_le_mul_left _ (Nat.pow_le_pow_right (by omega) (by omega))
theorem M_lt_iff (a b : Nat) : M a < M b ↔ a < b := by
  refine ⟨fun h => ?_, M_mono⟩
  rcases Nat.lt_trichotomy a b with k | k | k
  · exact k
  · subst k; omega
  · have := M_mono k; omega
theorem M_eq_iff (a b : Nat) : M a = M b ↔ a = b := by
  refine ⟨fun h => ?_, fun h => by rw [h]⟩
  rcases Nat.lt_trichotomy a b with k | k | k
  · have := M_mono k; omega
  · exact k
  · have := M_mono k; omega
theorem M_zero : M 0 = 0 := by decide

/-- A float's magnitude, over the place that it shares with another. -/
theorem scaled (a : Nat) (k : Nat) (h : k ≤ pl a) : (mg a * 2 ^ (pl a - k)) * 2 ^ k = M a := by
  unfold M
  rw [Nat.mul_assoc, ← Nat.pow_add]
  congr 2; omega

theorem int_cmp {a b c d : Int} (h1 : a < b ↔ c < d) (h2 : a = b ↔ c = d) : compare a b = compare c d := by
  show compareOfLessAndEq a b = compareOfLessAndEq c d
  unfold compareOfLessAndEq
  simp only [h1, h2]

def sg (s : Bool) (n : Nat) : Int := if s then -(n : Int) else n

theorem signed_eq (s : Bool) (m u : Nat) : signed s m u = sg s (m * 2 ^ u) := by
  unfold signed sg; rw [Nat.shiftLeft_eq]

theorem sg_scale (s : Bool) (n k : Nat) : sg s n * (2 ^ k : Nat) = sg s (n * 2 ^ k) := by
  unfold sg
  cases s
  · simp
  · simp [Int.neg_mul]

theorem sg_cmp (s t : Bool) (a b : Nat) : (sg s (M a) < sg t (M b) ↔ sg s a < sg t b) ∧ (sg s (M a) = sg t (M b) ↔ sg s a = sg t b) := by
  have h1 := M_lt_iff a b
  have h2 := M_lt_iff b a
  have h3 := M_eq_iff a b
  have h4 := M_eq_iff a 0
  have h5 := M_eq_iff b 0
  rw [M_zero] at h4 h5
  unfold sg
  cases s <;> cases t <;> simp only [Bool.false_eq_true, if_false, if_true] <;> constructor <;> omega

theorem val_eq (b : Nat) : val b = sg (ng b) (rg b) := by
  unfold val sg ng
  by_cases k : 9223372036854775808 ≤ b
  · rw [if_pos k, decide_eq_true k, if_pos rfl]
  · rw [if_neg k, decide_eq_false k]; rfl

theorem order_fin {x y : Nat} (hx : x < 18446744073709551616) (hy : y < 18446744073709551616) (fx : rg x < 9218868437227405312) (fy : rg y < 9218868437227405312) :
    double.order x y = some (compare (val x) (val y)) := by
  unfold Format.order
  rw [read_fin hx fx, read_fin hy fy]
  simp only [Datum.order, signed_eq]
  congr 1
  rw [val_eq, val_eq]
  generalize rg x = a
  generalize rg y = b
  have hk : ∃ k : Nat, k = min (pl a) (pl b) := ⟨_, rfl⟩
  obtain ⟨k, hk⟩ := hk
  have e1 : (-1074 + ((pl a : Nat) : Int) - min (-1074 + ((pl a : Nat) : Int)) (-1074 + ((pl b : Nat) : Int))).toNat = pl a - k := by omega
  have e2 : (-1074 + ((pl b : Nat) : Int) - min (-1074 + ((pl a : Nat) : Int)) (-1074 + ((pl b : Nat) : Int))).toNat = pl b - k := by omega
  rw [e1, e2]
  obtain ⟨c1, c2⟩ := sg_cmp (ng x) (ng y) a b
  have hp : (0 : Int) < ((2 ^ k : Nat) : Int) := by exact_mod_cast Nat.two_pow_pos k
  rw [← scaled a k (by omega), ← scaled b k (by omega), ← sg_scale (ng x) (mg a * 2 ^ (pl a - k)) k, ← sg_scale (ng y) (mg b * 2 ^ (pl b - k)) k] at c1 c2
  refine int_cmp ?_ ?_
  · rw [← c1]
    exact ⟨fun h => Int.mul_lt_mul_of_pos_right h hp, fun h => Int.lt_of_mul_lt_mul_right h (Int.le_of_lt hp)⟩
  · rw [← c2]
    exact ⟨fun h => by rw [h], fun h => Int.eq_of_mul_eq_mul_right (Int.ne_of_gt hp) h⟩

theorem order_nan {x y : Nat} (hx : x < 18446744073709551616) (hy : y < 18446744073709551616) (h : 9218868437227405312 < rg x ∨ 9218868437227405312 < rg y) :
    double.order x y = none := by
  unfold Format.order
  rcases h with h | h
  · rw [read_nan hx h]; rfl
  · rw [read_nan hy h]
    cases double.read x <;> rfl

theorem cmp_lt {a b : Int} (h : a < b) : compare a b = .lt := by
  show compareOfLessAndEq a b = _
  unfold compareOfLessAndEq; rw [if_pos h]
theorem cmp_gt {a b : Int} (h : b < a) : compare a b = .gt := by
  show compareOfLessAndEq a b = _
  unfold compareOfLessAndEq; rw [if_neg (by omega), if_neg (by omega)]
theorem cmp_eq {a b : Int} (h : a = b) : compare a b = .eq := by
  show compareOfLessAndEq a b = _
  unfold compareOfLessAndEq; rw [if_neg (by omega), if_pos h]

theorem rg_lt (b : Nat) : rg b < 9223372036854775808 := by unfold rg; omega

theorem order_num {x y : Nat} (hx : x < 18446744073709551616) (hy : y < 18446744073709551616) (fx : rg x ≤ 9218868437227405312) (fy : rg y ≤ 9218868437227405312) :
    double.order x y = some (compare (val x) (val y)) := by
  by_cases ix : rg x = 9218868437227405312
  · by_cases iy : rg y = 9218868437227405312
    · unfold Format.order
      rw [read_inf hx ix, read_inf hy iy, val_eq, val_eq, ix, iy]
      unfold sg
      cases ng x <;> cases ng y <;> decide
    · unfold Format.order
      rw [read_inf hx ix, read_fin hy (by omega), val_eq, val_eq, ix]
      simp only [Datum.order]
      unfold sg
      cases ng x
      · rw [cmp_gt]; · rfl
        cases ng y <;> simp only [Bool.false_eq_true, if_false, if_true] <;> omega
      · rw [cmp_lt]; · rfl
        cases ng y <;> simp only [Bool.false_eq_true, if_false, if_true] <;> omega
  · by_cases iy : rg y = 9218868437227405312
    · unfold Format.order
      rw [read_inf hy iy, read_fin hx (by omega), val_eq, val_eq, iy]
      simp only [Datum.order]
      unfold sg
      cases ng y
      · rw [cmp_lt]; · rfl
        cases ng x <;> simp only [Bool.false_eq_true, if_false, if_true] <;> omega
      · rw [cmp_gt]; · rfl
        cases ng x <;> simp only [Bool.false_eq_true, if_false, if_true] <;> omega
    · exact order_fin hx hy (by omega) (by omega)

/-- How two words stand to each other, in the three questions that are asked. -/
theorem order_lt {x y : Nat} (hx : x < 18446744073709551616) (hy : y < 18446744073709551616) :
    (FloatKind.f64.format.order x y == some .lt) = (!nanB x && !nanB y && decide (val x < val y)) := by
  show (double.order x y == some .lt) = _
  unfold nanB
  by_cases nx : 9218868437227405312 < rg x
  · rw [order_nan hx hy (Or.inl nx), decide_eq_true nx]; rfl
  · by_cases ny : 9218868437227405312 < rg y
    · rw [order_nan hx hy (Or.inr ny), decide_eq_true ny]; simp
    · rw [order_num hx hy (by omega) (by omega), decide_eq_false nx, decide_eq_false ny]
      by_cases k : val x < val y
      · rw [cmp_lt k, decide_eq_true k]; rfl
      · rw [decide_eq_false k]
        by_cases k2 : val x = val y
        · rw [cmp_eq k2]; rfl
        · rw [cmp_gt (by omega)]; rfl
theorem order_gt {x y : Nat} (hx : x < 18446744073709551616) (hy : y < 18446744073709551616) :
    (FloatKind.f64.format.order x y == some .gt) = (!nanB x && !nanB y && decide (val y < val x)) := by
  show (double.order x y == some .gt) = _
  unfold nanB
  by_cases nx : 9218868437227405312 < rg x
  · rw [order_nan hx hy (Or.inl nx), decide_eq_true nx]; rfl
  · by_cases ny : 9218868437227405312 < rg y
    · rw [order_nan hx hy (Or.inr ny), decide_eq_true ny]; simp
    · rw [order_num hx hy (by omega) (by omega), decide_eq_false nx, decide_eq_false ny]
      by_cases k : val y < val x
      · rw [cmp_gt k, decide_eq_true k]; rfl
      · rw [decide_eq_false k]
        by_cases k2 : val x = val y
        · rw [cmp_eq k2]; rfl
        · rw [cmp_lt (by omega)]; rfl
theorem order_eq {x y : Nat} (hx : x < 18446744073709551616) (hy : y < 18446744073709551616) :
    (FloatKind.f64.format.order x y == some .eq) = (!nanB x && !nanB y && decide (val x = val y)) := by
  show (double.order x y == some .eq) = _
  unfold nanB
  by_cases nx : 9218868437227405312 < rg x
  · rw [order_nan hx hy (Or.inl nx), decide_eq_true nx]; rfl
  · by_cases ny : 9218868437227405312 < rg y
    · rw [order_nan hx hy (Or.inr ny), decide_eq_true ny]; simp
    · rw [order_num hx hy (by omega) (by omega), decide_eq_false nx, decide_eq_false ny]
      by_cases k : val x = val y
      · rw [cmp_eq k, decide_eq_true k]; rfl
      · rw [decide_eq_false k]
        by_cases k2 : val x < val y
        · rw [cmp_lt k2]; rfl
        · rw [cmp_gt (by omega)]; rfl
end Go.Proofs.YtadcaonkmncgoaaGreat.Fl

namespace Go.Proofs.YtadcaonkmncgoaaGreat.Fl
open Ieee

/-- A power of two whose number is not reckoned out. -/
def pw (k : Nat) : Nat := 2 ^ k
theorem pw_pos (k : Nat) : 0 < pw k := Nat.two_pow_pos k
theorem pw_add {a b c : Nat} (h : a + b = c) : 2 ^ a * 2 ^ b = pw c := by subst h; exact (Nat.pow_add 2 a b).symm
theorem pw_mul {a b c : Nat} (h : a + b = c) : pw a * 2 ^ b = pw c := pw_add h

/-- n / 2^k to the nearest, of two as near the even one. -/
def rnd (n k : Nat) : Nat := n / 2 ^ k + (if 2 ^ k < 2 * (n % 2 ^ k) ∨ (2 ^ k = 2 * (n % 2 ^ k) ∧ n / 2 ^ k % 2 = 1) then 1 else 0)

theorem cut_even (neg : Bool) (n drop : Nat) (h : drop ≤ n.log2 + 2) : Toward.even.cut neg n drop = rnd n drop := by
  unfold Toward.cut rnd
  simp only [Nat.min_eq_left h, Nat.shiftLeft_eq, Nat.one_mul]
  congr 1
  by_cases k : 2 ^ drop < 2 * (n % 2 ^ drop) ∨ (2 ^ drop = 2 * (n % 2 ^ drop) ∧ n / 2 ^ drop % 2 = 1)
  · rw [if_pos k]
    have : (decide (2 ^ drop < 2 * (n % 2 ^ drop)) || 2 ^ drop == 2 * (n % 2 ^ drop) && n / 2 ^ drop % 2 == 1) = true := by simpa using k
    rw [this]; rfl
  · rw [if_neg k]
    have : (decide (2 ^ drop < 2 * (n % 2 ^ drop)) || 2 ^ drop == 2 * (n % 2 ^ drop) && n / 2 ^ drop % 2 == 1) = false := by
      rw [Bool.eq_false_iff]; intro c; exact k (by simpa using c)
    rw [this]; rfl

theorem rnd_zero (n : Nat) : rnd n 0 = n := by
  unfold rnd; rw [if_neg (by simp [Nat.mod_one])]; simp
theorem rnd_mul (m k : Nat) : rnd (m * 2 ^ k) k = m := by
  have hp : 0 < 2 ^ k := Nat.two_pow_pos k
  unfold rnd
  rw [Nat.mul_mod_left, Nat.mul_div_cancel _ hp, if_neg (by omega)]; rfl
theorem rnd_mono {a b : Nat} (k : Nat) (h : a ≤ b) : rnd a k ≤ rnd b k := by
  have hp : 0 < 2 ^ k := Nat.two_pow_pos k
  have h1 : a / 2 ^ k ≤ b / 2 ^ k := Nat.div_le_div_right h
  have ha := Nat.div_add_mod a (2 ^ k)
  have hb := Nat.div_add_mod b (2 ^ k)
  unfold rnd
  by_cases e : a / 2 ^ k = b / 2 ^ k
  · rw [e] at ha ⊢
    have : a % 2 ^ k ≤ b % 2 ^ k := by omega
    generalize a % 2 ^ k = x at *
    generalize b % 2 ^ k = y at *
    have := Nat.mod_lt b hp
    split <;> split <;> omega
  · split <;> split <;> omega
theorem rnd_bounds {n k : Nat} (h0 : 4503599627370496 * 2 ^ k ≤ n) (h1 : n < 9007199254740992 * 2 ^ k) : 4503599627370496 ≤ rnd n k ∧ rnd n k ≤ 9007199254740992 := by
  have hp : 0 < 2 ^ k := Nat.two_pow_pos k
  have a : 4503599627370496 ≤ n / 2 ^ k := by rw [Nat.le_div_iff_mul_le hp]; exact h0
  have b : n / 2 ^ k < 9007199254740992 := by rw [Nat.div_lt_iff_lt_mul hp]; exact h1
  unfold rnd
  split <;> omega

/-- The digits that are kept of a whole number. -/
def kept (v : Nat) : Nat := if v.log2 ≤ 52 then v * 2 ^ (52 - v.log2) else rnd v (v.log2 - 52)
/-- The float nearest to a whole number. -/
def fr (v : Nat) : Nat := if v = 0 then 0 else (v.log2 + 1022) * 4503599627370496 + kept v

theorem log_bounds {v : Nat} (h : v ≠ 0) : 2 ^ v.log2 ≤ v ∧ v < 2 ^ (v.log2 + 1) := ⟨Nat.log2_self_le h, Nat.lt_log2_self⟩
theorem log_lt {v : Nat} (h0 : v ≠ 0) (h : v < 18446744073709551616) : v.log2 < 64 := by
  rw [Nat.log2_lt h0]; exact h

theorem kept_bounds {v : Nat} (h : v ≠ 0) : 4503599627370496 ≤ kept v ∧ kept v ≤ 9007199254740992 := by
  obtain ⟨a, b⟩ := log_bounds h
  unfold kept
  by_cases k : v.log2 ≤ 52
  · rw [if_pos k]
    have e : (2 : Nat) ^ v.log2 * 2 ^ (52 - v.log2) = 4503599627370496 := by rw [← Nat.pow_add, show v.log2 + (52 - v.log2) = 52 by omega]
    have f : (2 : Nat) ^ (v.log2 + 1) * 2 ^ (52 - v.log2) = 9007199254740992 := by rw [← Nat.pow_add, show v.log2 + 1 + (52 - v.log2) = 53 by omega]
    have := Nat.mul_le_mul_right (2 ^ (52 - v.log2)) a
    have := Nat.mul_le_mul_right (2 ^ (52 - v.log2)) (Nat.le_of_lt b)
    omega
  · rw [if_neg k]
    have e : 4503599627370496 * (2 : Nat) ^ (v.log2 - 52) = 2 ^ v.log2 := by
      rw [show (4503599627370496 : Nat) = 2 ^ 52 from rfl, ← Nat.pow_add, show 52 + (v.log2 - 52) = v.log2 by omega]
    have f : 9007199254740992 * (2 : Nat) ^ (v.log2 - 52) = 2 ^ (v.log2 + 1) := by
      rw [show (9007199254740992 : Nat) = 2 ^ 53 from rfl, ← Nat.pow_add, show 53 + (v.log2 - 52) = v.log2 + 1 by omega]
    exact rnd_bounds (by omega) (by omega)

theorem fr_lt {v : Nat} (h : v < 18446744073709551616) : fr v < 9218868437227405312 := by
  unfold fr
  split
  · omega
  · rename_i h0
    have := kept_bounds h0
    have := log_lt h0 h
    omega

theorem nearest_fr {v : Nat} (h : v < 18446744073709551616) : double.nearest false v 0 = fr v := by
  have hb := fr_lt h
  unfold Format.nearest fr at *
  by_cases h0 : v = 0
  · rw [if_pos h0, if_pos h0]; rfl
  · rw [if_neg h0] at hb ⊢
    rw [if_neg h0]
    have hl := log_lt h0 h
    simp only [lp, bi, ir]
    have e0 : ((double.fractionBits : Nat) : Int) = 52 := rfl
    rw [e0]
    have e1 : max (0 + (v.log2 : Int) - 52) (-1074) = (v.log2 : Int) - 52 := by omega
    rw [e1]
    have e2 : ((v.log2 : Int) - 52 - -1074).toNat = v.log2 + 1022 := by omega
    have e3 : (0 - ((v.log2 : Int) - 52)).toNat = 52 - v.log2 := by omega
    have e4 : ((v.log2 : Int) - 52 - 0).toNat = v.log2 - 52 := by omega
    rw [e2, e3, e4]
    have e5 : Toward.even.cut false (v <<< (52 - v.log2)) (v.log2 - 52) = kept v := by
      unfold kept
      by_cases k : v.log2 ≤ 52
      · rw [if_pos k, show v.log2 - 52 = 0 by omega, cut_even _ _ _ (by omega), rnd_zero, Nat.shiftLeft_eq]
      · rw [if_neg k, show 52 - v.log2 = 0 by omega, Nat.shiftLeft_zero, cut_even _ _ _ (by omega)]
    rw [e5, Nat.min_eq_left (by omega)]
    rfl

theorem M_at (e c : Nat) (h0 : 4503599627370496 ≤ c) (h1 : c ≤ 9007199254740992) : M (e * 4503599627370496 + c) = c * 2 ^ e := by
  unfold M mg pl
  rw [if_neg (by omega)]
  by_cases k : c = 9007199254740992
  · subst k
    rw [show (e * 4503599627370496 + 9007199254740992) / 4503599627370496 - 1 = e + 1 by omega, show (e * 4503599627370496 + 9007199254740992) % 4503599627370496 = 0 by omega, Nat.pow_succ]
    omega
  · rw [show (e * 4503599627370496 + c) / 4503599627370496 - 1 = e by omega]
    congr 1
    omega

theorem M_fr {v : Nat} (h : v ≠ 0) : M (fr v) = kept v * 2 ^ (v.log2 + 1022) := by
  unfold fr; rw [if_neg h]
  exact M_at _ _ (kept_bounds h).1 (kept_bounds h).2

theorem fr_mono {v w : Nat} (h : v ≤ w) : fr v ≤ fr w := by
  by_cases h0 : v = 0
  · unfold fr; rw [if_pos h0]; omega
  · have h1 : w ≠ 0 := by omega
    have bv := kept_bounds h0
    have bw := kept_bounds h1
    have hl : v.log2 ≤ w.log2 := by
      have a := (log_bounds h0).1
      have b := (log_bounds h1).2
      have : 2 ^ v.log2 < 2 ^ (w.log2 + 1) := by omega
      have := (Nat.pow_lt_pow_iff_right (show 1 < 2 by omega)).1 this
      omega
    unfold fr
    rw [if_neg h0, if_neg h1]
    by_cases e : v.log2 = w.log2
    · have : kept v ≤ kept w := by
        unfold kept
        rw [e]
        split
        · exact Nat.mul_le_mul_right _ h
        · exact rnd_mono _ h
      rw [e]; omega
    · omega

/-- A number up to 2^53 is kept whole. -/
theorem M_fr_small {v : Nat} (h : v ≤ 9007199254740992) : M (fr v) = v * pw 1074 := by
  by_cases h0 : v = 0
  · subst h0; rw [Nat.zero_mul]; exact M_zero
  · rw [M_fr h0]
    have hl : v.log2 ≤ 53 := by
      have := (Nat.log2_lt h0 (k := 54)).2 (by omega)
      omega
    unfold kept
    by_cases k : v.log2 ≤ 52
    · rw [if_pos k, Nat.mul_assoc, pw_add (show 52 - v.log2 + (v.log2 + 1022) = 1074 by omega)]
    · have e : v.log2 = 53 := by omega
      have := (log_bounds h0).1
      rw [e] at this
      have ev : v = 9007199254740992 := by omega
      rw [if_neg k, e]
      have er : rnd v (53 - 52) = 2 ^ 52 := by rw [ev]; decide
      rw [er, pw_add (show 52 + (53 + 1022) = 1127 by omega), ev, show (9007199254740992 : Nat) = 2 ^ 53 from rfl, Nat.mul_comm, pw_mul (show 1074 + 53 = 1127 by omega)]

theorem word_eq {b : Nat} (h : b < 18446744073709551616) : double.word (ng b) (rg b) = b := by
  unfold Format.word ng rg
  rw [sw]
  by_cases k : 9223372036854775808 ≤ b
  · rw [decide_eq_true k, if_pos rfl]; omega
  · rw [decide_eq_false k]; simp only [Bool.false_eq_true, if_false]; omega

theorem log_of {n k : Nat} (h0 : 2 ^ k ≤ n) (h1 : n < 2 ^ (k + 1)) : n.log2 = k := by
  have hp : 0 < 2 ^ k := Nat.two_pow_pos k
  exact (Nat.log2_eq_iff (by omega)).2 ⟨h0, h1⟩

/-- A float is the nearest to itself. -/
theorem nearest_self {s : Bool} {r : Nat} (h : r < 9218868437227405312) : double.nearest s (M r) (-1074) = double.word s r := by
  by_cases h0 : r = 0
  · subst h0; rw [M_zero]; rfl
  · have hm : M r ≠ 0 := fun c => h0 ((M_eq_iff r 0).1 (c.trans M_zero.symm))
    unfold Format.nearest
    rw [if_neg hm]
    simp only [lp, bi, ir]
    have e0 : ((double.fractionBits : Nat) : Int) = 52 := rfl
    rw [e0]
    by_cases k : r < 4503599627370496
    · have em : M r = r := by
        unfold M mg pl; rw [if_pos k, show r / 4503599627370496 - 1 = 0 by omega]; simp
      rw [em]
      have hl : r.log2 < 52 := by rw [Nat.log2_lt h0]; exact k
      have e1 : max (-1074 + (r.log2 : Int) - 52) (-1074) = -1074 := by omega
      rw [e1]
      simp only [Int.sub_self, Int.toNat_zero, Nat.shiftLeft_zero]
      rw [cut_even _ _ _ (by omega), rnd_zero, Nat.zero_mul, Nat.zero_add, Nat.min_eq_left (by omega)]
    · have em : M r = mg r * 2 ^ pl r := rfl
      have hg : 4503599627370496 ≤ mg r := by unfold mg; rw [if_neg k]; omega
      have hl : (M r).log2 = 52 + pl r := by
        refine log_of ?_ ?_
        · rw [em, Nat.pow_add]; exact Nat.mul_le_mul_right _ hg
        · rw [em, show 52 + pl r + 1 = 53 + pl r by omega, Nat.pow_add]
          exact Nat.mul_lt_mul_of_pos_right (mg_lt r) (Nat.two_pow_pos _)
      rw [hl]
      have e1 : max (-1074 + ((52 + pl r : Nat) : Int) - 52) (-1074) = -1074 + (pl r : Int) := by omega
      rw [e1]
      have e2 : (-1074 - (-1074 + (pl r : Int))).toNat = 0 := by omega
      have e3 : (-1074 + (pl r : Int) - -1074).toNat = pl r := by omega
      rw [e2, e3, Nat.shiftLeft_zero, cut_even _ _ _ (by omega), em, rnd_mul]
      have e4 : pl r * 4503599627370496 + mg r = r := by
        unfold pl mg; rw [if_neg k]; omega
      rw [e4, Nat.min_eq_left (by omega)]

theorem sum_comm (a b : Datum) : a.sum b = b.sum a := by
  cases a <;> cases b <;> simp only [Datum.sum]
  · rename_i s m i t n j
    rw [Int.min_comm i j, Int.add_comm (signed s m _), Bool.and_comm s t]
  · rename_i s t
    by_cases h : s = t
    · subst h; rfl
    · rw [if_neg h, if_neg (fun c => h c.symm)]

theorem add_comm (x y : Nat) : double.add x y = double.add y x := by
  unfold Format.add; rw [sum_comm]

theorem rg_word (s : Bool) {r : Nat} (h : r < 9223372036854775808) : rg (double.word s r) = r := by
  unfold Format.word rg; rw [sw]
  cases s <;> simp only [Bool.false_eq_true, if_false, if_true] <;> omega

theorem nearest_num (s : Bool) (m : Nat) (p : Int) : rg (double.nearest s m p) ≤ 9218868437227405312 := by
  unfold Format.nearest
  split
  · rw [rg_word s (by omega)]; omega
  · simp only [ir]
    have := Nat.min_le_right ((max (p + (m.log2 : Int) - (double.fractionBits : Nat)) double.leastPlace - double.leastPlace).toNat * double.binade + Toward.even.cut s (m <<< (p - max (p + (m.log2 : Int) - (double.fractionBits : Nat)) double.leastPlace).toNat) (max (p + (m.log2 : Int) - (double.fractionBits : Nat)) double.leastPlace - p).toNat) 9218868437227405312
    rw [rg_word s (by omega)]
    exact this

/-- A sum that is a number is none that isn't. -/
theorem add_num {x y r : Nat} (h : double.add x y = some r) : r < 18446744073709551616 ∧ rg r ≤ 9218868437227405312 := by
  refine ⟨double.add_lt h, ?_⟩
  unfold Format.add at h
  generalize double.read x = a at h
  generalize double.read y = b at h
  have inf : ∀ s, rg (double.write (.infinity s)) ≤ 9218868437227405312 := by
    intro s
    show rg (double.word s double.infRung) ≤ _
    rw [ir, rg_word s (by omega)]; omega
  cases a <;> cases b <;> simp only [Datum.sum, Option.map] at h
  all_goals first
    | (cases h; done)
    | (cases h; exact inf _)
    | (cases h; exact nearest_num _ _ _)
    | skip
  rename_i s t
  by_cases c : s = t
  · rw [if_pos c] at h; cases h; exact inf _
  · rw [if_neg c] at h; cases h

/-- The other sign. -/
def flip (b : Nat) : Nat := if 9223372036854775808 ≤ b then b - 9223372036854775808 else b + 9223372036854775808
theorem flip_lt {b : Nat} (h : b < 18446744073709551616) : flip b < 18446744073709551616 := by unfold flip; split <;> omega
theorem flip_rg {b : Nat} (h : b < 18446744073709551616) : rg (flip b) = rg b := by unfold flip rg; split <;> omega
theorem flip_ng {b : Nat} (h : b < 18446744073709551616) : ng (flip b) = !ng b := by
  unfold flip ng
  by_cases k : 9223372036854775808 ≤ b
  · rw [if_pos k, decide_eq_true k, decide_eq_false (by omega)]; rfl
  · rw [if_neg k, decide_eq_false k, decide_eq_true (by omega)]; rfl

theorem add_flip {b : Nat} (h : b < 18446744073709551616) (hr : rg b < 9218868437227405312) : double.add b (flip b) = some 0 := by
  unfold Format.add
  rw [read_fin h hr, read_fin (flip_lt h) (by rw [flip_rg h]; exact hr), flip_rg h, flip_ng h]
  simp only [Datum.sum, Option.map, signed_eq, Int.min_self, Int.sub_self, Int.toNat_zero]
  have e : sg (ng b) (mg (rg b) * 2 ^ 0) + sg (!ng b) (mg (rg b) * 2 ^ 0) = 0 := by
    unfold sg; cases ng b <;> simp <;> omega
  rw [e]
  cases ng b <;> rfl

theorem add_flip_none {b : Nat} (h : b < 18446744073709551616) (hr : 9218868437227405312 ≤ rg b) : double.add b (flip b) = none := by
  unfold Format.add
  by_cases k : rg b = 9218868437227405312
  · rw [read_inf h k, read_inf (flip_lt h) (by rw [flip_rg h]; exact k), flip_ng h]
    cases ng b <;> rfl
  · rw [read_nan h (by omega)]; rfl

theorem add_nought {b : Nat} (h : b < 18446744073709551616) (hr : rg b < 9218868437227405312) : double.add b 9223372036854775808 = some b := by
  unfold Format.add
  have e0 : double.read 9223372036854775808 = .number true 0 (-1074) := by
    rw [read_fin (by omega) (by decide)]; rfl
  rw [read_fin h hr, e0]
  simp only [Datum.sum, Option.map, signed_eq]
  have e1 : min (-1074 + ((pl (rg b) : Nat) : Int)) (-1074) = -1074 := by omega
  rw [e1]
  have e2 : (-1074 + ((pl (rg b) : Nat) : Int) - -1074).toNat = pl (rg b) := by omega
  rw [e2]
  have e3 : sg (ng b) (mg (rg b) * 2 ^ pl (rg b)) + sg true (0 * 2 ^ (-1074 - -1074 : Int).toNat) = sg (ng b) (M (rg b)) := by
    unfold sg M; simp
  rw [e3]
  have e4 : (sg (ng b) (M (rg b))).natAbs = M (rg b) := by unfold sg; split <;> simp
  have e5 : (if sg (ng b) (M (rg b)) = 0 then ng b && true else decide (sg (ng b) (M (rg b)) < 0)) = ng b := by
    by_cases z : sg (ng b) (M (rg b)) = 0
    · rw [if_pos z, Bool.and_true]
    · rw [if_neg z]
      unfold sg at *
      cases ng b
      · simp
      · simp only [if_true] at *
        exact decide_eq_true (by omega)
  rw [e4, e5]
  show some (double.nearest (ng b) (M (rg b)) (-1074)) = some b
  rw [nearest_self hr, word_eq h]

theorem add_noughts : double.add 9223372036854775808 9223372036854775808 = some 9223372036854775808 := add_nought (by omega) (by decide)
theorem add_nought' : double.add 0 9223372036854775808 = some 0 := add_nought (by omega) (by decide)

/-- Whole units of the float of rung r, at a shift within bounds. -/
def un (r : Nat) (s : Int) : Nat := M r * 2 ^ (s + 2000).toNat / pw 3074

theorem un_hi {r : Nat} {s : Int} (h0 : -2000 ≤ s) (h : 0 ≤ -1074 + (pl r : Int) + s) : un r s = mg r * 2 ^ (-1074 + (pl r : Int) + s).toNat := by
  unfold un M
  have e : (mg r * 2 ^ pl r) * 2 ^ (s + 2000).toNat = (mg r * 2 ^ (-1074 + (pl r : Int) + s).toNat) * pw 3074 := by
    rw [Nat.mul_assoc, Nat.mul_assoc, pw_add (a := pl r) rfl, Nat.mul_comm _ (pw 3074)]
    rw [pw_mul (show 3074 + (-1074 + (pl r : Int) + s).toNat = pl r + (s + 2000).toNat by omega)]
  rw [e, Nat.mul_div_cancel _ (pw_pos _)]

theorem un_lo {r : Nat} {s : Int} (h0 : -2000 ≤ s) (h : -1074 + (pl r : Int) + s < 0) : un r s = mg r / 2 ^ (-(-1074 + (pl r : Int) + s)).toNat := by
  unfold un M
  have e : pw 3074 = 2 ^ (-(-1074 + (pl r : Int) + s)).toNat * 2 ^ (pl r + (s + 2000).toNat) := by
    rw [pw_add]; omega
  rw [e, Nat.mul_assoc, ← Nat.pow_add, Nat.mul_div_mul_right _ _ (Nat.two_pow_pos _)]

theorem un_lo_lt {r : Nat} {s : Int} (h0 : -2000 ≤ s) (h : -1074 + (pl r : Int) + s < 0) : un r s < 9007199254740992 := by
  rw [un_lo h0 h]
  exact Nat.lt_of_le_of_lt (Nat.div_le_self _ _) (mg_lt r)

theorem un_mono {a b : Nat} (s : Int) (h : a ≤ b) : un a s ≤ un b s := by
  unfold un
  refine Nat.div_le_div_right (Nat.mul_le_mul_right _ ?_)
  rcases Nat.lt_or_ge a b with k | k
  · exact Nat.le_of_lt (M_mono k)
  · rw [show a = b by omega]; exact Nat.le_refl _

theorem un_zero (s : Int) : un 0 s = 0 := by unfold un; rw [M_zero, Nat.zero_mul, Nat.zero_div]

theorem un_succ {r : Nat} {s : Int} (h0 : -2000 ≤ s) : un r (s + 1) = 2 * un r s ∨ un r (s + 1) = 2 * un r s + 1 := by
  unfold un
  rw [show (s + 1 + 2000).toNat = (s + 2000).toNat + 1 by omega, Nat.pow_succ, ← Nat.mul_assoc]
  generalize M r * 2 ^ (s + 2000).toNat = x
  have hp : 0 < pw 3074 := pw_pos 3074
  generalize pw 3074 = g at *
  have a := Nat.div_add_mod x g
  have b := Nat.mod_lt x hp
  have lo : 2 * (x / g) ≤ x * 2 / g := by
    rw [Nat.le_div_iff_mul_le hp]
    have : 2 * (x / g) * g = 2 * (g * (x / g)) := by rw [Nat.mul_assoc, Nat.mul_comm (x / g)]
    omega
  have hi : x * 2 / g < 2 * (x / g) + 2 := by
    rw [Nat.div_lt_iff_lt_mul hp]
    have : (2 * (x / g) + 2) * g = 2 * (g * (x / g)) + 2 * g := by rw [Nat.add_mul, Nat.mul_assoc, Nat.mul_comm (x / g)]
    omega
  omega

theorem un_fr_small {v : Nat} (h : v ≤ 9007199254740992) : un (fr v) 0 = v := by
  unfold un
  rw [M_fr_small h, Nat.mul_assoc, pw_mul (show 1074 + ((0 : Int) + 2000).toNat = 3074 by decide)]
  exact Nat.mul_div_cancel _ (pw_pos _)

/-- Whether digits moved up leave a word: by how many bits they have. -/
theorem len_iff {d p : Nat} (h0 : d ≠ 0) (h : d < 18446744073709551616) : (64 : Int) < (Lib.bitLen d : Int) + p ↔ 18446744073709551616 ≤ d * 2 ^ p := by
  have e64 : (2 : Nat) ^ 64 = 18446744073709551616 := by decide +kernel
  obtain ⟨b1, b2, b3⟩ := Lib.bitLenAux_bounds 64 d (by omega) h0
  unfold Lib.bitLen
  generalize Lib.bitLenAux 64 d = k at *
  constructor
  · intro c
    have : 2 ^ (k - 1) * 2 ^ p ≤ d * 2 ^ p := Nat.mul_le_mul_right _ b2
    rw [← Nat.pow_add] at this
    have : (2 : Nat) ^ 64 ≤ 2 ^ (k - 1 + p) := Nat.pow_le_pow_right (by omega) (by omega)
    omega
  · intro c
    have : d * 2 ^ p < 2 ^ k * 2 ^ p := Nat.mul_lt_mul_of_pos_right b3 (Nat.two_pow_pos p)
    rw [← Nat.pow_add] at this
    have : (2 : Nat) ^ 64 < 2 ^ (k + p) := by omega
    have := (Nat.pow_lt_pow_iff_right (show 1 < 2 by omega)).1 this
    omega
end Go.Proofs.YtadcaonkmncgoaaGreat.Fl

namespace Go.Proofs.YtadcaonkmncgoaaGreat.Fl

theorem nat_and_sign (n : Nat) (h : n < 18446744073709551616) : n &&& 9223372036854775808 = if 9223372036854775808 ≤ n then 9223372036854775808 else 0 := by
  have e : (9223372036854775808 : Nat) = 2 ^ 63 := rfl
  apply Nat.eq_of_testBit_eq
  intro i
  rw [Nat.testBit_and, e, Nat.testBit_two_pow]
  by_cases k : i = 63
  · subst k
    rw [Nat.testBit_eq_decide_div_mod_eq, decide_eq_true rfl, Bool.and_true]
    by_cases k : 2 ^ 63 ≤ n
    · rw [if_pos k, Nat.testBit_two_pow, decide_eq_true rfl]; exact decide_eq_true (by omega)
    · rw [if_neg k, Nat.zero_testBit]; exact decide_eq_false (by omega)
  · rw [decide_eq_false (fun c => k c.symm), Bool.and_false]
    split
    · rw [Nat.testBit_two_pow]; exact (decide_eq_false (fun c => k c.symm)).symm
    · rw [Nat.zero_testBit]

theorem nat_xor_sign_lt (n : Nat) (h : n < 9223372036854775808) : n ^^^ 9223372036854775808 = n + 9223372036854775808 := by
  have e : (9223372036854775808 : Nat) = 2 ^ 63 := rfl
  apply Nat.eq_of_testBit_eq
  intro i
  rw [Nat.testBit_xor, e, Nat.testBit_two_pow, Nat.add_comm]
  by_cases k : i = 63
  · subst k
    rw [Nat.testBit_two_pow_add_eq, decide_eq_true rfl, Nat.testBit_lt_two_pow (by omega)]; rfl
  · rw [decide_eq_false (fun c => k c.symm), Bool.xor_false]
    by_cases k2 : i < 63
    · rw [Nat.testBit_two_pow_add_gt k2]
    · have : n < 2 ^ i := Nat.lt_of_lt_of_le h (by rw [e]; exact Nat.pow_le_pow_right (by omega) (by omega))
      rw [Nat.testBit_lt_two_pow this, Nat.testBit_lt_two_pow]
      have : 2 ^ 64 ≤ 2 ^ i := Nat.pow_le_pow_right (by omega) (by omega)
      omega
theorem nat_xor_sign (n : Nat) (h : n < 18446744073709551616) : n ^^^ 9223372036854775808 = if 9223372036854775808 ≤ n then n - 9223372036854775808 else n + 9223372036854775808 := by
  by_cases k : 9223372036854775808 ≤ n
  · rw [if_pos k]
    obtain ⟨m, rfl⟩ : ∃ m, n = m + 9223372036854775808 := ⟨n - 9223372036854775808, by omega⟩
    rw [← nat_xor_sign_lt m (by omega), Nat.xor_assoc, Nat.xor_self, Nat.xor_zero, nat_xor_sign_lt m (by omega)]; omega
  · rw [if_neg k, nat_xor_sign_lt n (by omega)]

theorem and_sign {x : Int} (h0 : 0 ≤ x) (h1 : x < 18446744073709551616) : bits .and .u64 x 9223372036854775808 = if 9223372036854775808 ≤ x then 9223372036854775808 else 0 := by
  obtain ⟨n, rfl⟩ := Int.eq_ofNat_of_zero_le h0
  have h := bits_and_u64_nat n 9223372036854775808 (by omega) (by omega)
  rw [nat_and_sign n (by omega)] at h
  refine h.trans ?_
  split <;> split <;> omega
theorem or_sign {x : Int} (h0 : 0 ≤ x) (h1 : x < 9223372036854775808) : bits .or .u64 x 9223372036854775808 = x + 9223372036854775808 := by
  obtain ⟨n, rfl⟩ := Int.eq_ofNat_of_zero_le h0
  have h := bits_or_u64_nat n 9223372036854775808 (by omega) (by omega)
  have e := Nat.two_pow_add_eq_or_of_lt (i := 63) (b := n) (by omega) 1
  rw [Nat.mul_one, Nat.or_comm, show (2 : Nat) ^ 63 = 9223372036854775808 from rfl] at e
  rw [← e] at h
  exact h.trans (by omega)
theorem or_hidden {x : Int} (h0 : 0 ≤ x) (h1 : x < 4503599627370496) : bits .or .u64 x 4503599627370496 = 4503599627370496 + x := by
  obtain ⟨n, rfl⟩ := Int.eq_ofNat_of_zero_le h0
  have h := bits_or_u64_nat n 4503599627370496 (by omega) (by omega)
  have e := Nat.two_pow_add_eq_or_of_lt (i := 52) (b := n) (by omega) 1
  rw [Nat.mul_one, Nat.or_comm, show (2 : Nat) ^ 52 = 4503599627370496 from rfl] at e
  rw [← e] at h
  exact h.trans (by omega)
theorem xor_sign {x : Int} (h0 : 0 ≤ x) (h1 : x < 18446744073709551616) : bits .xor .u64 x 9223372036854775808 = if 9223372036854775808 ≤ x then x - 9223372036854775808 else x + 9223372036854775808 := by
  obtain ⟨n, rfl⟩ := Int.eq_ofNat_of_zero_le h0
  have h := bits_xor_u64_nat n 9223372036854775808 (by omega) (by omega)
  rw [nat_xor_sign n (by omega)] at h
  refine h.trans ?_
  split <;> split <;> omega
theorem not_all {x : Int} (h0 : 0 ≤ x) (h1 : x < 18446744073709551616) : bits .xor .u64 18446744073709551615 x = 18446744073709551615 - x := by
  obtain ⟨n, rfl⟩ := Int.eq_ofNat_of_zero_le h0
  show IntKind.u64.wrap ((BitVec.ofInt 64 18446744073709551615 ^^^ BitVec.ofInt 64 (n : Int)).toNat : Int) = _
  have e1 : BitVec.ofInt 64 18446744073709551615 = BitVec.allOnes 64 := by decide
  rw [e1, BitVec.allOnes_xor, BitVec.toNat_not, BitVec.ofInt_natCast, BitVec.toNat_ofNat, IntKind.wrap_u64]
  omega
theorem xor_all {x : Int} (h0 : 0 ≤ x) (h1 : x < 18446744073709551616) : bits .xor .u64 x 18446744073709551615 = 18446744073709551615 - x := by
  obtain ⟨n, rfl⟩ := Int.eq_ofNat_of_zero_le h0
  show IntKind.u64.wrap ((BitVec.ofInt 64 (n : Int) ^^^ BitVec.ofInt 64 18446744073709551615).toNat : Int) = _
  have e1 : BitVec.ofInt 64 18446744073709551615 = BitVec.allOnes 64 := by decide
  rw [e1, BitVec.xor_allOnes, BitVec.toNat_not, BitVec.ofInt_natCast, BitVec.toNat_ofNat, IntKind.wrap_u64]
  omega
theorem andnot_sign {x : Int} (h0 : 0 ≤ x) (h1 : x < 18446744073709551616) : bits .andNot .u64 x 9223372036854775808 = x % 9223372036854775808 := by
  obtain ⟨n, rfl⟩ := Int.eq_ofNat_of_zero_le h0
  show IntKind.u64.wrap ((BitVec.ofInt 64 (n : Int) &&& ~~~BitVec.ofInt 64 9223372036854775808).toNat : Int) = _
  have e1 : ~~~BitVec.ofInt 64 9223372036854775808 = BitVec.ofNat 64 (2 ^ 63 - 1) := by decide
  rw [e1, BitVec.toNat_and, BitVec.ofInt_natCast, BitVec.toNat_ofNat, BitVec.toNat_ofNat, IntKind.wrap_u64]
  rw [show (2 ^ 63 - 1) % 2 ^ 64 = 2 ^ 63 - 1 from rfl, Nat.and_two_pow_sub_one_eq_mod]
  omega
theorem and_frac {x : Int} (h0 : 0 ≤ x) (h1 : x < 18446744073709551616) : bits .and .u64 x 4503599627370495 = x % 4503599627370496 := by
  obtain ⟨n, rfl⟩ := Int.eq_ofNat_of_zero_le h0
  have h := bits_and_u64_nat n 4503599627370495 (by omega) (by omega)
  have e : n &&& 4503599627370495 = n % 4503599627370496 := Nat.and_two_pow_sub_one_eq_mod n 52
  rw [e] at h
  exact h.trans (by omega)
theorem and_exp {x : Int} (h0 : 0 ≤ x) (h1 : x < 18446744073709551616) : bits .and .u64 x 2047 = x % 2048 := by
  obtain ⟨n, rfl⟩ := Int.eq_ofNat_of_zero_le h0
  have h := bits_and_u64_nat n 2047 (by omega) (by omega)
  have e : n &&& 2047 = n % 2048 := Nat.and_two_pow_sub_one_eq_mod n 11
  rw [e] at h
  exact h.trans (by omega)
end Go.Proofs.YtadcaonkmncgoaaGreat.Fl

namespace Go.Proofs.YtadcaonkmncgoaaGreat
open Go.RowKit
set_option maxRecDepth 20000


theorem word_lit {n : Int} (h0 : 0 ≤ n) (h1 : n < 18446744073709551616) : Word n := ⟨h0, h1⟩
theorem ret_bool {a b : Bool} (h : a = b) : Ending.returned (.bool a) = .returned (.bool b) := by rw [h]
theorem grown_trans {a b c : World} (h : Grown a b) (k : Grown b c) : Grown a c :=
  ⟨World.keptBut_trans h.1 k.1, fun x => (k.2.1 x).trans (h.2.1 x), Nat.le_trans h.2.2 k.2.2⟩
theorem grown_drewN {a b : World} (h : Grown a b) (n : Nat) : Grown a (b.drewN n) := h

theorem run_bits (b : Nat) (w : World) : (callFunc 90 #[.float .f64 b]).run Tryz.prog w = .ok (.value (.int .u64 b)) w := by
  rw [run_callFunc_extern Tryz.func90 (by kernel_rfl) (by kernel_rfl) (by kernel_rfl) (e := Extern.MathFloatBits.float64bits) (by kernel_rfl)]
  rfl
theorem run_frombits (x : Int) (w : World) : (callFunc 80 #[.int .u64 x]).run Tryz.prog w = .ok (.value (.float .f64 x.toNat)) w := by
  rw [run_callFunc_extern Tryz.func80 (by kernel_rfl) (by kernel_rfl) (by kernel_rfl) (e := Extern.MathFloatBits.float64frombits) (by kernel_rfl)]
  rfl
attribute [local go_sem] run_bits run_frombits

theorem isnan_any (b : Nat) (h : b < 18446744073709551616) (w : World) :
    Calls Tryz.prog 79 #[.float .f64 b] w fun e w' => e = .returned (.bool (Fl.nanB b)) ∧ w' = w := by
  have H : Hid ((FloatKind.f64.format.order b b == some .eq) = !Fl.nanB b) := by
    show _ = _
    rw [Fl.order_eq h h]; simp
  go_enter Tryz.func79, Tryz.ntmps79
  go_wp2
  go_ret
  exact ⟨ret_bool (by rw [bne, H.out, Bool.not_not]), rfl⟩

theorem ret_float {a b : Nat} (h : a = b) : Ending.returned (.float .f64 a) = .returned (.float .f64 b) := by rw [h]

theorem signbit_any (b : Nat) (h : b < 18446744073709551616) (w : World) :
    Calls Tryz.prog 81 #[.float .f64 b] w fun e w' => e = .returned (.bool (Fl.ng b)) ∧ w' = w := by
  have H : Hid (decide (wrap64 (b : Int) < 0) = Fl.ng b) := by
    show _ = _
    unfold wrap64 Fl.ng
    by_cases k : 9223372036854775808 ≤ b
    · rw [decide_eq_true k]; exact decide_eq_true (by omega)
    · rw [decide_eq_false k]; exact decide_eq_false (by omega)
  go_enter Tryz.func81, Tryz.ntmps81
  go_wp2
  go_ret
  exact ⟨ret_bool H.out, rfl⟩

end Go.Proofs.YtadcaonkmncgoaaGreat

namespace Go.Proofs.YtadcaonkmncgoaaGreat
open Go.RowKit
set_option maxRecDepth 20000
attribute [local go_sem] run_bits run_frombits

def nanI (x : Int) : Bool := decide (9218868437227405312 < x % 9223372036854775808)
def kindS (x : Int) : Int := if 9218868437227405312 < x % 9223372036854775808 then 4 else if x % 9223372036854775808 = 9218868437227405312 then 3 else if x % 9223372036854775808 = 0 then 0 else if x % 9223372036854775808 < 4503599627370496 then 2 else 1
def keyS (x : Int) : Int := if 9223372036854775808 ≤ x then 18446744073709551615 - x else x + 9223372036854775808
def ofS (x : Int) : Int := if 9223372036854775808 ≤ x then x - 9223372036854775808 else 18446744073709551615 - x
def lessB (x y : Int) : Bool := !nanI x && !nanI y && decide (keyS x < keyS y)

theorem keyS_word {x : Int} (h : Word x) : Word (keyS x) := by obtain ⟨_, _⟩ := h; unfold keyS Word; split <;> omega
theorem ofS_word {x : Int} (h : Word x) : Word (ofS x) := by obtain ⟨_, _⟩ := h; unfold ofS Word; split <;> omega
theorem of_key {x : Int} (h : Word x) : ofS (keyS x) = x := by obtain ⟨_, _⟩ := h; unfold keyS ofS; split <;> split <;> omega
theorem key_of {x : Int} (h : Word x) : keyS (ofS x) = x := by obtain ⟨_, _⟩ := h; unfold keyS ofS; split <;> split <;> omega

theorem nan_nat {x : Int} (h : Word x) : Fl.nanB x.toNat = nanI x := by
  obtain ⟨h0, h1⟩ := h
  obtain ⟨n, rfl⟩ := Int.eq_ofNat_of_zero_le h0
  unfold Fl.nanB nanI Fl.rg
  rw [Int.toNat_natCast]
  congr 1
  apply propext
  constructor <;> intro <;> omega

theorem val_key {x y : Int} (hx : Word x) (hy : Word y) (hxn : nanI x = false) (hyn : nanI y = false) (hz : ¬ (Fl.val x.toNat = 0 ∧ Fl.val y.toNat = 0)) :
    decide (Fl.val x.toNat < Fl.val y.toNat) = decide (keyS x < keyS y) := by
  obtain ⟨x0, x1⟩ := hx; obtain ⟨y0, y1⟩ := hy
  obtain ⟨m, rfl⟩ := Int.eq_ofNat_of_zero_le x0
  obtain ⟨n, rfl⟩ := Int.eq_ofNat_of_zero_le y0
  rw [Int.toNat_natCast, Int.toNat_natCast] at *
  congr 1
  apply propext
  unfold Fl.val Fl.rg at *
  unfold keyS
  split at hz <;> split at hz <;> split <;> split <;> constructor <;> intro <;> omega

theorem val_zero {x : Int} (hx : Word x) : Fl.val x.toNat = 0 ↔ x = 0 ∨ x = 9223372036854775808 := by
  obtain ⟨x0, x1⟩ := hx
  obtain ⟨m, rfl⟩ := Int.eq_ofNat_of_zero_le x0
  rw [Int.toNat_natCast]
  unfold Fl.val Fl.rg
  split <;> omega

/-- Whether a word is a nought. -/
def zeroB (x : Int) : Bool := decide (x = 0 ∨ x = 9223372036854775808)
theorem order_zero {x : Int} (h : Word x) : (FloatKind.f64.format.order x.toNat 0 == some .eq) = zeroB x := by
  have hl : x.toNat < 18446744073709551616 := by obtain ⟨_, _⟩ := h; omega
  rw [Fl.order_eq hl (by omega), nan_nat h]
  have e := val_zero h
  have z : Fl.val 0 = 0 := by decide
  rw [z]
  unfold zeroB
  by_cases k : x = 0 ∨ x = 9223372036854775808
  · rw [decide_eq_true k, decide_eq_true (e.2 k)]
    rcases k with rfl | rfl <;> decide
  · rw [decide_eq_false k, decide_eq_false (fun c => k (e.1 c)), Bool.and_false]

set_option maxHeartbeats 400000 in
theorem less_any (x y : Int) (hx : Word x) (hy : Word y) (w : World) :
    Calls Tryz.prog 71 #[.int .u64 x, .int .u64 y] w fun e w' => e = .returned (.bool (lessB x y)) ∧ w' = w := by
  have zx := order_zero hx
  have zy := order_zero hy
  have lx : x.toNat < 18446744073709551616 := by obtain ⟨_, _⟩ := hx; omega
  have ly : y.toNat < 18446744073709551616 := by obtain ⟨_, _⟩ := hy; omega
  have SX := hide (fun w => signbit_any x.toNat lx w)
  have SY := hide (fun w => signbit_any y.toNat ly w)
  have O : Hid ((FloatKind.f64.format.order x.toNat y.toNat == some .lt) = (!nanI x && !nanI y && decide (Fl.val x.toNat < Fl.val y.toNat))) := by
    show _ = _
    rw [Fl.order_lt lx ly, nan_nat hx, nan_nat hy]
  have V : Hid (¬ (zeroB x = true ∧ zeroB y = true) → (FloatKind.f64.format.order x.toNat y.toNat == some .lt) = lessB x y) := by
    show _ → _
    intro c
    rw [O.out]
    unfold lessB
    cases nx : nanI x
    · cases ny : nanI y
      · rw [val_key hx hy nx ny]
        rw [val_zero hx, val_zero hy]
        unfold zeroB at c
        simpa using c
      · rfl
    · rfl
  clear O
  by_cases k : zeroB x = true
  · rw [k] at zx
    by_cases k2 : zeroB y = true
    · rw [k2] at zy
      unfold zeroB at k k2
      have k' := of_decide_eq_true k
      have k2' := of_decide_eq_true k2
      clear V k k2
      rcases k' with rfl | rfl
      · have F : Hid (lessB 0 y = false) := by show _ = _; rcases k2' with rfl | rfl <;> decide
        have E : Fl.ng (0 : Int).toNat = false := by decide
        rw [E] at SX
        clear k2'
        go_enter Tryz.func71, Tryz.ntmps71
        go_wp2_with (go_at_call 81; refine (SX.out _).mono ?_; rintro e w' ⟨rfl, rfl⟩)
        go_ret
        exact ⟨ret_bool F.out.symm, rfl⟩
      · have E : Fl.ng (9223372036854775808 : Int).toNat = true := by decide
        rw [E] at SX
        have F : Hid (lessB 9223372036854775808 y = !Fl.ng y.toNat) := by show _ = _; rcases k2' with rfl | rfl <;> decide
        clear k2'
        go_enter Tryz.func71, Tryz.ntmps71
        go_wp2_with (first
          | (go_at_call 81; refine (SX.out _).mono ?_; rintro e w' ⟨rfl, rfl⟩)
          | (go_at_call 81; refine (SY.out _).mono ?_; rintro e w' ⟨rfl, rfl⟩))
        go_ret
        exact ⟨ret_bool F.out.symm, rfl⟩
    · have F : Hid ((FloatKind.f64.format.order x.toNat y.toNat == some .lt) = lessB x y) := V.out (fun c => k2 c.2)
      have k2' : zeroB y = false := by simpa using k2
      rw [k2'] at zy
      clear V k k2 k2' SX SY
      go_enter Tryz.func71, Tryz.ntmps71
      go_wp2
      go_ret
      exact ⟨ret_bool F.out, rfl⟩
  · have F : Hid ((FloatKind.f64.format.order x.toNat y.toNat == some .lt) = lessB x y) := V.out (fun c => k c.1)
    have k' : zeroB x = false := by simpa using k
    rw [k'] at zx
    clear V k k' SX SY zy
    go_enter Tryz.func71, Tryz.ntmps71
    go_wp2
    go_ret
    exact ⟨ret_bool F.out, rfl⟩
end Go.Proofs.YtadcaonkmncgoaaGreat
