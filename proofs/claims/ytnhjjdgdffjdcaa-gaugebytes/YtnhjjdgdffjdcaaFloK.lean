/-
  Plain arithmetic: what a word of 64 bits stands for as a float, how two of them stand to each other, the float nearest to a whole number, and that a float is the nearest to itself.
  Conditions: as each theorem says; whole numbers alone.
-/
import Derived.WalkKit
import Derived.Laws.FloatArith
namespace Go.Proofs.Ytnhjjdgdffjdcaa.Fl
open Ieee

theorem sw : double.signWeight = 9223372036854775808 := by decide
theorem bi : double.binade = 4503599627370496 := by decide
theorem ir : double.infRung = 9218868437227405312 := by decide
theorem lp : double.leastPlace = -1074 := by decide

/-- The rung of a word. -/
def rg (b : Nat) : Nat := b % 9223372036854775808
/-- Whether the sign is there. -/
def ng (b : Nat) : Bool := decide (9223372036854775808 ≤ b)
/-- Whether it is no number. -/
def nanB (b : Nat) : Bool := decide (9218868437227405312 < rg b)
/-- A number that rises as the floats do; the same for both noughts. -/
def val (b : Nat) : Int := if 9223372036854775808 ≤ b then -(rg b : Int) else rg b

def mg (r : Nat) : Nat := if r < 4503599627370496 then r else 4503599627370496 + r % 4503599627370496
def pl (r : Nat) : Nat := r / 4503599627370496 - 1
def M (r : Nat) : Nat := mg r * 2 ^ pl r

theorem neg_eq {b : Nat} (h : b < 18446744073709551616) : (b / 9223372036854775808 % 2 == 1) = ng b := by
  unfold ng
  by_cases k : 9223372036854775808 ≤ b
  · rw [decide_eq_true k]; exact beq_iff_eq.2 (by omega)
  · rw [decide_eq_false k]; exact beq_eq_false_iff_ne.2 (by omega)

theorem read_fin {b : Nat} (h : b < 18446744073709551616) (hr : rg b < 9218868437227405312) :
    double.read b = .number (ng b) (mg (rg b)) (-1074 + (pl (rg b) : Nat)) := by
  unfold rg at hr
  unfold Format.read
  simp only [sw, bi, ir, lp, neg_eq h]
  unfold mg pl rg
  by_cases k : b % 9223372036854775808 < 4503599627370496
  · rw [if_pos k, if_pos k]
    have : b % 9223372036854775808 / 4503599627370496 - 1 = 0 := by omega
    rw [this]; simp
  · rw [if_neg k, if_pos hr, if_neg k]

theorem read_inf {b : Nat} (h : b < 18446744073709551616) (hr : rg b = 9218868437227405312) :
    double.read b = .infinity (ng b) := by
  unfold rg at hr
  unfold Format.read
  simp only [sw, bi, ir, lp, neg_eq h]
  rw [if_neg (by omega), if_neg (by omega), if_pos hr]

theorem read_nan {b : Nat} (h : b < 18446744073709551616) (hr : 9218868437227405312 < rg b) :
    double.read b = .nan (ng b) (rg b - 9218868437227405312) := by
  unfold rg at hr
  unfold Format.read
  simp only [sw, bi, ir, lp, neg_eq h]
  rw [if_neg (by omega), if_neg (by omega), if_neg (by omega)]
  rfl

theorem mg_lt (r : Nat) : mg r < 9007199254740992 := by unfold mg; split <;> omega
theorem M_lt_top (r : Nat) : M r < 4503599627370496 * 2 ^ (r / 4503599627370496) := by
  unfold M mg pl
  by_cases k : r < 4503599627370496
  · rw [if_pos k]
    have e : r / 4503599627370496 = 0 := by omega
    rw [e]; simpa using k
  · rw [if_neg k]
    obtain ⟨e, he⟩ : ∃ e, r / 4503599627370496 = e + 1 := ⟨r / 4503599627370496 - 1, by omega⟩
    rw [he, Nat.add_sub_cancel, Nat.pow_succ]
    have : 4503599627370496 * (2 ^ e * 2) = 9007199254740992 * 2 ^ e := by omega
    rw [this]
    exact Nat.mul_lt_mul_of_pos_right (by omega) (Nat.two_pow_pos e)
theorem M_ge_bot {r : Nat} (k : 4503599627370496 ≤ r) : 4503599627370496 * 2 ^ (r / 4503599627370496 - 1) ≤ M r := by
  unfold M mg pl
  rw [if_neg (by omega)]
  exact Nat.mul_le_mul_right _ (by omega)

theorem M_mono {a b : Nat} (h : a < b) : M a < M b := by
  by_cases e : a / 4503599627370496 = b / 4503599627370496
  · unfold M
    have hp : pl a = pl b := by unfold pl; rw [e]
    rw [hp]
    refine Nat.mul_lt_mul_of_pos_right ?_ (Nat.two_pow_pos _)
    unfold mg
    split <;> split <;> omega
  · have hb : 4503599627370496 ≤ b := by omega
    refine Nat.lt_of_lt_of_le (M_lt_top a) (Nat.le_trans ?_ (M_ge_bot hb))
    exact Nat.mul_le_mul_left _ (Nat.pow_le_pow_right (by omega) (by omega))
theorem M_lt_iff (a b : Nat) : M a < M b ↔ a < b := by
  refine ⟨fun h => ?_, M_mono⟩
  rcases Nat.lt_trichotomy a b with k | k | k
  · exact k
  · subst k; omega
  · have := M_mono k; omega
theorem M_eq_iff (a b : Nat) : M a = M b ↔ a = b := by
  refine ⟨fun h => ?_, fun h => by rw [h]⟩
  rcases Nat.lt_trichotomy a b with k | k | k
  · have := M_mono k; omega
  · exact k
  · have := M_mono k; omega
theorem M_zero : M 0 = 0 := by decide

/-- A float's magnitude, over the place that it shares with another. -/
theorem scaled (a : Nat) (k : Nat) (h : k ≤ pl a) : (mg a * 2 ^ (pl a - k)) * 2 ^ k = M a := by
  unfold M
  rw [Nat.mul_assoc, ← Nat.pow_add]
  congr 2; omega

theorem int_cmp {a b c d : Int} (h1 : a < b ↔ c < d) (h2 : a = b ↔ c = d) : compare a b = compare c d := by
  show compareOfLessAndEq a b = compareOfLessAndEq c d
  unfold compareOfLessAndEq
  simp only [h1, h2]

def sg (s : Bool) (n : Nat) : Int := if s then -(n : Int) else n

theorem signed_eq (s : Bool) (m u : Nat) : signed s m u = sg s (m * 2 ^ u) := by
  unfold signed sg; rw [Nat.shiftLeft_eq]

theorem sg_scale (s : Bool) (n k : Nat) : sg s n * (2 ^ k : Nat) = sg s (n * 2 ^ k) := by
  unfold sg
  cases s
  · simp
  · simp [Int.neg_mul]

theorem sg_cmp (s t : Bool) (a b : Nat) : (sg s (M a) < sg t (M b) ↔ sg s a < sg t b) ∧ (sg s (M a) = sg t (M b) ↔ sg s a = sg t b) := by
  have h1 := M_lt_iff a b
  have h2 := M_lt_iff b a
  have h3 := M_eq_iff a b
  have h4 := M_eq_iff a 0
  have h5 := M_eq_iff b 0
  rw [M_zero] at h4 h5
  unfold sg
  cases s <;> cases t <;> simp only [Bool.false_eq_true, if_false, if_true] <;> constructor <;> omega

theorem val_eq (b : Nat) : val b = sg (ng b) (rg b) := by
  unfold val sg ng
  by_cases k : 9223372036854775808 ≤ b
  · rw [if_pos k, decide_eq_true k, if_pos rfl]
  · rw [if_neg k, decide_eq_false k]; rfl

theorem order_fin {x y : Nat} (hx : x < 18446744073709551616) (hy : y < 18446744073709551616) (fx : rg x < 9218868437227405312) (fy : rg y < 9218868437227405312) :
    double.order x y = some (compare (val x) (val y)) := by
  unfold Format.order
  rw [read_fin hx fx, read_fin hy fy]
  simp only [Datum.order, signed_eq]
  congr 1
  rw [val_eq, val_eq]
  generalize rg x = a
  generalize rg y = b
  have hk : ∃ k : Nat, k = min (pl a) (pl b) := ⟨_, rfl⟩
  obtain ⟨k, hk⟩ := hk
  have e1 : (-1074 + ((pl a : Nat) : Int) - min (-1074 + ((pl a : Nat) : Int)) (-1074 + ((pl b : Nat) : Int))).toNat = pl a - k := by omega
  have e2 : (-1074 + ((pl b : Nat) : Int) - min (-1074 + ((pl a : Nat) : Int)) (-1074 + ((pl b : Nat) : Int))).toNat = pl b - k := by omega
  rw [e1, e2]
  obtain ⟨c1, c2⟩ := sg_cmp (ng x) (ng y) a b
  have hp : (0 : Int) < ((2 ^ k : Nat) : Int) := by exact_mod_cast Nat.two_pow_pos k
  rw [← scaled a k (by omega), ← scaled b k (by omega), ← sg_scale (ng x) (mg a * 2 ^ (pl a - k)) k, ← sg_scale (ng y) (mg b * 2 ^ (pl b - k)) k] at c1 c2
  refine int_cmp ?_ ?_
  · rw [← c1]
    exact ⟨fun h => Int.mul_lt_mul_of_pos_right h hp, fun h => Int.lt_of_mul_lt_mul_right h (Int.le_of_lt hp)⟩
  · rw [← c2]
    exact ⟨fun h => by rw [h], fun h => Int.eq_of_mul_eq_mul_right (Int.ne_of_gt hp) h⟩

theorem order_nan {x y : Nat} (hx : x < 18446744073709551616) (hy : y < 18446744073709551616) (h : 9218868437227405312 < rg x ∨ 9218868437227405312 < rg y) :
    double.order x y = none := by
  unfold Format.order
  rcases h with h | h
  · rw [read_nan hx h]; rfl
  · rw [read_nan hy h]
    cases double.read x <;> rfl

theorem cmp_lt {a b : Int} (h : a < b) : compare a b = .lt := by
  show compareOfLessAndEq a b = _
  unfold compareOfLessAndEq; rw [if_pos h]
theorem cmp_gt {a b : Int} (h : b < a) : compare a b = .gt := by
  show compareOfLessAndEq a b = _
  unfold compareOfLessAndEq; rw [if_neg (by omega), if_neg (by omega)]
theorem cmp_eq {a b : Int} (h : a = b) : compare a b = .eq := by
  show compareOfLessAndEq a b = _
  unfold compareOfLessAndEq; rw [if_neg (by omega), if_pos h]

theorem rg_lt (b : Nat) : rg b < 9223372036854775808 := by unfold rg; omega

theorem order_num {x y : Nat} (hx : x < 18446744073709551616) (hy : y < 18446744073709551616) (fx : rg x ≤ 9218868437227405312) (fy : rg y ≤ 9218868437227405312) :
    double.order x y = some (compare (val x) (val y)) := by
  by_cases ix : rg x = 9218868437227405312
  · by_cases iy : rg y = 9218868437227405312
    · unfold Format.order
      rw [read_inf hx ix, read_inf hy iy, val_eq, val_eq, ix, iy]
      unfold sg
      cases ng x <;> cases ng y <;> decide
    · unfold Format.order
      rw [read_inf hx ix, read_fin hy (by omega), val_eq, val_eq, ix]
      simp only [Datum.order]
      unfold sg
      cases ng x
      · rw [cmp_gt]; · rfl
        cases ng y <;> simp only [Bool.false_eq_true, if_false, if_true] <;> omega
      · rw [cmp_lt]; · rfl
        cases ng y <;> simp only [Bool.false_eq_true, if_false, if_true] <;> omega
  · by_cases iy : rg y = 9218868437227405312
    · unfold Format.order
      rw [read_inf hy iy, read_fin hx (by omega), val_eq, val_eq, iy]
      simp only [Datum.order]
      unfold sg
      cases ng y
      · rw [cmp_lt]; · rfl
        cases ng x <;> simp only [Bool.false_eq_true, if_false, if_true] <;> omega
      · rw [cmp_gt]; · rfl
        cases ng x <;> simp only [Bool.false_eq_true, if_false, if_true] <;> omega
    · exact order_fin hx hy (by omega) (by omega)

/-- How two words stand to each other, in the three questions that are asked. -/
theorem order_lt {x y : Nat} (hx : x < 18446744073709551616) (hy : y < 18446744073709551616) :
    (FloatKind.f64.format.order x y == some .lt) = (!nanB x && !nanB y && decide (val x < val y)) := by
  show (double.order x y == some .lt) = _
  unfold nanB
  by_cases nx : 9218868437227405312 < rg x
  · rw [order_nan hx hy (Or.inl nx), decide_eq_true nx]; rfl
  · by_cases ny : 9218868437227405312 < rg y
    · rw [order_nan hx hy (Or.inr ny), decide_eq_true ny]; simp
    · rw [order_num hx hy (by omega) (by omega), decide_eq_false nx, decide_eq_false ny]
      by_cases k : val x < val y
      · rw [cmp_lt k, decide_eq_true k]; rfl
      · rw [decide_eq_false k]
        by_cases k2 : val x = val y
        · rw [cmp_eq k2]; rfl
        · rw [cmp_gt (by omega)]; rfl
theorem order_gt {x y : Nat} (hx : x < 18446744073709551616) (hy : y < 18446744073709551616) :
    (FloatKind.f64.format.order x y == some .gt) = (!nanB x && !nanB y && decide (val y < val x)) := by
  show (double.order x y == some .gt) = _
  unfold nanB
  by_cases nx : 9218868437227405312 < rg x
  · rw [order_nan hx hy (Or.inl nx), decide_eq_true nx]; rfl
  · by_cases ny : 9218868437227405312 < rg y
    · rw [order_nan hx hy (Or.inr ny), decide_eq_true ny]; simp
    · rw [order_num hx hy (by omega) (by omega), decide_eq_false nx, decide_eq_false ny]
      by_cases k : val y < val x
      · rw [cmp_gt k, decide_eq_true k]; rfl
      · rw [decide_eq_false k]
        by_cases k2 : val x = val y
        · rw [cmp_eq k2]; rfl
        · rw [cmp_lt (by omega)]; rfl
theorem order_eq {x y : Nat} (hx : x < 18446744073709551616) (hy : y < 18446744073709551616) :
    (FloatKind.f64.format.order x y == some .eq) = (!nanB x && !nanB y && decide (val x = val y)) := by
  show (double.order x y == some .eq) = _
  unfold nanB
  by_cases nx : 9218868437227405312 < rg x
  · rw [order_nan hx hy (Or.inl nx), decide_eq_true nx]; rfl
  · by_cases ny : 9218868437227405312 < rg y
    · rw [order_nan hx hy (Or.inr ny), decide_eq_true ny]; simp
    · rw [order_num hx hy (by omega) (by omega), decide_eq_false nx, decide_eq_false ny]
      by_cases k : val x = val y
      · rw [cmp_eq k, decide_eq_true k]; rfl
      · rw [decide_eq_false k]
        by_cases k2 : val x < val y
        · rw [cmp_lt k2]; rfl
        · rw [cmp_gt (by omega)]; rfl
end Go.Proofs.Ytnhjjdgdffjdcaa.Fl
