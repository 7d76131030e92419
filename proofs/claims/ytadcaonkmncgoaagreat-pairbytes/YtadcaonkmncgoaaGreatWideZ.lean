/-
  What the sums and differences of package wide come to at any two words: contracts, for every world; they change nothing. Plain arithmetic: a digit of a long division by the school's way (a guess by the leading half, put right at most twice), and a quotient of four half words by two, digit by digit. Plain arithmetic: words and their bits: masks, shifts, and a divisor moved up until its top bit is set. What math/bits.Div64 comes to where it does not panic: the quotient of 128 bits by 64, and what is left; it changes nothing. What the products and quotients of package wide come to at any words: contracts, for every world; of what was there nothing turns. What wide.Ceil and wide.Cmp come to at any words, and one form for each answer of package wide: contracts, for every world; of what was there nothing turns. What the document's own answer (bit by bit) comes to: products and quotients at any words: contracts, for every world; they change nothing. What the document's own answers Mul, Div, Floor, Ceil, Cmp come to: contracts, for every world; of what was there nothing turns.
  Conditions: each argument is a word (0 to 2^64 - 1); as each theorem says; whole numbers alone; each argument is a word; the upper half is below the divisor.
-/
import Derived.Test.YtadcaonkmncgoaaGreatHideK
import Derived.Test.YtadcaonkmncgoaaGreatRows
import Derived.WalkKit
import Derived.WalkSpells
import Derived.RowKit3
import Derived.Laws.Bits64b
import Derived.Lib.BitFns
import Derived.Lib.ItoaNum
import Derived.Test.YtadcaonkmncgoaaGreatShelf
import Derived.BigQuiet
import Derived.Deep.Cut
import Derived.Deep.CutRange
import Derived.Deep.CutBlock
import Derived.Deep.QuietTactic
namespace Go.Proofs.YtadcaonkmncgoaaGreat
open Go.RowKit
set_option maxRecDepth 20000


def addS (a b : Int) : Int := if a + b < 18446744073709551616 then a + b else 18446744073709551615
def subS (a b : Int) : Int := if a < b then 0 else a - b

theorem addS_word {a b : Int} (ha : Word a) (hb : Word b) : Word (addS a b) := by
  obtain ⟨_, _⟩ := ha; obtain ⟨_, _⟩ := hb; unfold addS Word; split <;> omega
theorem subS_word {a b : Int} (ha : Word a) (hb : Word b) : Word (subS a b) := by
  obtain ⟨_, _⟩ := ha; obtain ⟨_, _⟩ := hb; unfold subS Word; split <;> omega

theorem add_any (a b : Int) (ha : Word a) (hb : Word b) (w : World) :
    Calls Tryz.prog 86 #[.int .u64 a, .int .u64 b] w fun e w' => e = .returned (.int .u64 (addS a b)) ∧ w' = w := by
  obtain ⟨a0, a1⟩ := ha
  obtain ⟨b0, b1⟩ := hb
  go_enter Tryz.func86, Tryz.ntmps86
  go_wp2
  all_goals
    go_ret
    exact ⟨ret_u64 (by (try simp only [IntKind.wrap_u64] at *); unfold addS; split <;> omega), rfl⟩

end Go.Proofs.YtadcaonkmncgoaaGreat

namespace Go.Proofs.YtadcaonkmncgoaaGreat.Kn

theorem le_q {u v1 v0 d q r : Int} (hv : 0 < v1 * 4294967296 + v0) (hu : u = q * v1 + r) (h : q * v0 ≤ 4294967296 * r + d) :
    q ≤ (u * 4294967296 + d) / (v1 * 4294967296 + v0) := by
  rw [Int.le_ediv_iff_mul_le hv]
  have e : q * (v1 * 4294967296 + v0) = (q * v1) * 4294967296 + q * v0 := by rw [Int.mul_add, ← Int.mul_assoc]
  rw [e, hu]
  generalize q * v1 = X at *
  generalize q * v0 = Y at *
  omega

theorem q_lt {u v1 v0 d q r : Int} (hv : 0 < v1 * 4294967296 + v0) (hu : u = q * v1 + r) (h : 4294967296 * r + d < q * v0) :
    (u * 4294967296 + d) / (v1 * 4294967296 + v0) < q := by
  rw [Int.ediv_lt_iff_lt_mul hv]
  have e : q * (v1 * 4294967296 + v0) = (q * v1) * 4294967296 + q * v0 := by rw [Int.mul_add, ← Int.mul_assoc]
  rw [e, hu]
  generalize q * v1 = X at *
  generalize q * v0 = Y at *
  omega

theorem q_digit {u v d : Int} (hv : 0 < v) (hu : u < v) (hd : d < 4294967296) : (u * 4294967296 + d) / v < 4294967296 := by
  rw [Int.ediv_lt_iff_lt_mul hv]; omega

/-- The guess is never below the digit. -/
theorem guess {u v1 v0 d : Int} (hu0 : 0 ≤ u) (h1 : 0 < v1) (h0 : 0 ≤ v0) (hd : 0 ≤ d) (hd' : d < 4294967296) :
    (u * 4294967296 + d) / (v1 * 4294967296 + v0) ≤ u / v1 := by
  have hv : 0 < v1 * 4294967296 + v0 := by omega
  have hm : (u / v1) * v1 + u % v1 = u := by rw [Int.mul_comm]; exact Int.mul_ediv_add_emod u v1
  have hr := Int.emod_lt_of_pos u h1
  have hq : 0 ≤ u / v1 := Int.ediv_nonneg hu0 (Int.le_of_lt h1)
  have hlt : (u * 4294967296 + d) / (v1 * 4294967296 + v0) < u / v1 + 1 := by
    rw [Int.ediv_lt_iff_lt_mul hv]
    have e : (u / v1 + 1) * (v1 * 4294967296 + v0) = (u / v1 * v1) * 4294967296 + v1 * 4294967296 + (u / v1 + 1) * v0 := by
      rw [Int.mul_add, ← Int.mul_assoc, Int.add_mul (u / v1) 1 v1, Int.add_mul, Int.one_mul]
    have hp : 0 ≤ (u / v1 + 1) * v0 := Int.mul_nonneg (by omega) h0
    rw [e]
    generalize u / v1 * v1 = X at *
    generalize (u / v1 + 1) * v0 = Y at *
    omega
  omega

/-- Where what is left has outgrown a half word the guess is right. -/
theorem wide_r {u v1 v0 d q r : Int} (h1 : 0 < v1) (h0 : 0 ≤ v0) (h0' : v0 < 4294967296) (hd : 0 ≤ d)
    (hu : u = q * v1 + r) (huv : u < v1 * 4294967296 + v0) (hr : 4294967296 ≤ r) :
    q < 4294967296 ∧ q * v0 ≤ 4294967296 * r + d := by
  have hq : q < 4294967296 := by
    apply Int.not_le.mp
    intro hge
    have := Int.mul_le_mul_of_nonneg_right hge (Int.le_of_lt h1)
    rw [Int.mul_comm 4294967296 v1] at this
    omega
  refine ⟨hq, ?_⟩
  have a1 : q * v0 ≤ 4294967296 * v0 := Int.mul_le_mul_of_nonneg_right (Int.le_of_lt hq) h0
  omega

/-- One turn of the loop that puts a guess right. -/
theorem turn {U V V1 V0 D Q a b : Int} (hV : V = V1 * 4294967296 + V0) (hQ : Q = (U * 4294967296 + D) / V) (hu : U = a * V1 + b) (hq : Q ≤ a)
    (v0 : 0 < V) (hU : U < V) (hU0 : 0 ≤ U) (d0 : 0 ≤ D) (d1 : D < 4294967296) (t : 4294967296 ≤ a ∨ 4294967296 * b + D < a * V0) :
    Q ≤ a - 1 ∧ U = (a - 1) * V1 + (b + V1) ∧ 0 ≤ a - 1 := by
  have h1 : Q < a := by
    rcases t with t | t
    · have := q_digit v0 hU d1
      rw [← hQ] at this; omega
    · rw [hQ, hV]; rw [hV] at v0; exact q_lt v0 hu t
  have h2 : 0 ≤ Q := by rw [hQ]; exact Int.ediv_nonneg (by omega) (by omega)
  refine ⟨by omega, ?_, by omega⟩
  rw [Int.sub_mul, Int.one_mul]
  generalize a * V1 = X at *
  omega

/-- The loop's test fails: the guess is the digit. -/
theorem stop {U V V1 V0 D Q a b : Int} (hV : V = V1 * 4294967296 + V0) (hQ : Q = (U * 4294967296 + D) / V) (hu : U = a * V1 + b) (hq : Q ≤ a)
    (v0 : 0 < V) (t : a * V0 ≤ 4294967296 * b + D) : a = Q := by
  have h1 : a ≤ Q := by rw [hQ, hV]; rw [hV] at v0; exact le_q v0 hu t
  omega

/-- What is left has outgrown a half word: the guess is the digit. -/
theorem broke {U V V1 V0 D Q a b : Int} (hV : V = V1 * 4294967296 + V0) (hQ : Q = (U * 4294967296 + D) / V) (hu : U = a * V1 + b) (hq : Q ≤ a)
    (v0 : 0 < V) (hU : U < V) (p1 : 0 < V1) (p2 : 0 ≤ V0) (p3 : V0 < 4294967296) (d0 : 0 ≤ D) (r : 4294967296 ≤ b) : a = Q := by
  rw [hV] at hU
  exact stop hV hQ hu hq v0 (wide_r p1 p2 p3 d0 hu hU r).2

theorem two {u v a b : Int} (hv : 0 < v) :
    ((u * 4294967296 + a) * 4294967296 + b) / v = (u * 4294967296 + a) / v * 4294967296 + ((u * 4294967296 + a) % v * 4294967296 + b) / v ∧
    ((u * 4294967296 + a) * 4294967296 + b) % v = ((u * 4294967296 + a) % v * 4294967296 + b) % v := by
  generalize u * 4294967296 + a = n
  have e : n * 4294967296 + b = (n % v * 4294967296 + b) + v * (n / v * 4294967296) := by
    have := Int.mul_ediv_add_emod n v
    rw [← Int.mul_assoc]
    generalize v * (n / v) = X at *
    omega
  rw [e]
  refine ⟨?_, ?_⟩
  · rw [Int.add_mul_ediv_left _ _ (by omega)]; omega
  · rw [Int.add_mul_emod_self_left]

/-- What is left by the guess, reckoned in words. -/
theorem left_of {u v1 : Int} (h0 : 0 ≤ u) (h1 : u < 18446744073709551616) (hv : 0 < v1) :
    (u - u / v1 * v1 % 18446744073709551616) % 18446744073709551616 = u % v1 ∧ u = u / v1 * v1 + u % v1 ∧ 0 ≤ u % v1 ∧ u % v1 < v1 ∧ 0 ≤ u / v1 ∧ u / v1 ≤ u := by
  have hm : u / v1 * v1 + u % v1 = u := by rw [Int.mul_comm]; exact Int.mul_ediv_add_emod u v1
  have r0 := Int.emod_nonneg u (show v1 ≠ 0 by omega)
  have r1 := Int.emod_lt_of_pos u hv
  have q0 : 0 ≤ u / v1 := Int.ediv_nonneg h0 (Int.le_of_lt hv)
  have q1 : u / v1 ≤ u := Int.ediv_le_self v1 h0
  have p0 : 0 ≤ u / v1 * v1 := Int.mul_nonneg q0 (Int.le_of_lt hv)
  generalize u / v1 * v1 = X at *
  generalize u % v1 = r at *
  exact ⟨by omega, by omega, r0, r1, q0, q1⟩

/-- What is left behind a digit, reckoned in words. -/
theorem rest_of {u v d : Int} (hv : 0 < v) (hv1 : v < 18446744073709551616) :
    ((u * 4294967296 % 18446744073709551616 + d) % 18446744073709551616 - (u * 4294967296 + d) / v * v % 18446744073709551616) % 18446744073709551616 = (u * 4294967296 + d) % v ∧
    0 ≤ (u * 4294967296 + d) % v ∧ (u * 4294967296 + d) % v < v := by
  have hm := Int.mul_ediv_add_emod (u * 4294967296 + d) v
  rw [Int.mul_comm] at hm
  have r0 := Int.emod_nonneg (u * 4294967296 + d) (show v ≠ 0 by omega)
  have r1 := Int.emod_lt_of_pos (u * 4294967296 + d) hv
  generalize (u * 4294967296 + d) / v * v = X at *
  generalize (u * 4294967296 + d) % v = r at *
  exact ⟨by omega, r0, r1⟩

theorem mul_bound {a b : Int} (a0 : 0 ≤ a) (a1 : a < 4294967296) (b0 : 0 ≤ b) (b1 : b < 4294967296) : 0 ≤ a * b ∧ a * b < 18446744073709551616 := by
  refine ⟨Int.mul_nonneg a0 b0, ?_⟩
  have h1 : a * b ≤ 4294967296 * b := Int.mul_le_mul_of_nonneg_right (Int.le_of_lt a1) b0
  omega

theorem scaled {n y p : Int} (hp : 0 < p) : (n * p) / (y * p) = n / y ∧ (n * p) % (y * p) = n % y * p := by
  refine ⟨Int.mul_ediv_mul_of_pos_left _ _ hp, ?_⟩
  rw [Int.mul_comm n p, Int.mul_comm y p, Int.mul_emod_mul_of_pos _ _ hp, Int.mul_comm]
end Go.Proofs.YtadcaonkmncgoaaGreat.Kn

namespace Go.Proofs.YtadcaonkmncgoaaGreat.Kn

theorem wrap_id {x : Int} (h0 : 0 ≤ x) (h1 : x < 18446744073709551616) : IntKind.u64.wrap x = x := by
  rw [IntKind.wrap_u64]; omega

theorem and_mask {x : Int} (h0 : 0 ≤ x) (h1 : x < 18446744073709551616) : bits .and .u64 x 4294967295 = x % 4294967296 := by
  obtain ⟨n, rfl⟩ := Int.eq_ofNat_of_zero_le h0
  have h := bits_and_u64_nat n 4294967295 (by omega) (by omega)
  have e : n &&& 4294967295 = n % 4294967296 := Nat.and_two_pow_sub_one_eq_mod n 32
  rw [e] at h
  exact h.trans (by omega)

theorem and_one {x : Int} (h0 : 0 ≤ x) (h1 : x < 18446744073709551616) : bits .and .u64 x 1 = x % 2 := by
  obtain ⟨n, rfl⟩ := Int.eq_ofNat_of_zero_le h0
  have h := bits_and_u64_nat n 1 (by omega) (by omega)
  have e : n &&& 1 = n % 2 := Nat.and_two_pow_sub_one_eq_mod n 1
  rw [e] at h
  exact h.trans (by omega)

/-- To lay bits below ones that are moved up is to add them. -/
theorem or_add (s a b : Nat) (ha : a * 2 ^ s < 18446744073709551616) (hb : b < 2 ^ s) (hs : s ≤ 63) :
    bits .or .u64 ((a * 2 ^ s : Nat) : Int) (b : Int) = ((a * 2 ^ s + b : Nat) : Int) := by
  have h2 : 2 ^ s ≤ 2 ^ 63 := Nat.pow_le_pow_right (by omega) hs
  have h3 : (2 : Nat) ^ 63 = 9223372036854775808 := by decide +kernel
  rw [bits_or_u64_nat _ _ ha (by omega), Nat.mul_comm a, ← Nat.two_pow_add_eq_or_of_lt hb]

theorem moved (y : Nat) (h0 : y ≠ 0) (h1 : y < 18446744073709551616) :
    ∃ s : Nat, s ≤ 63 ∧ 64 - (Lib.bitLen y : Int) = s ∧ 9223372036854775808 ≤ y * 2 ^ s ∧ y * 2 ^ s < 18446744073709551616 := by
  obtain ⟨b1, b2, b3⟩ := Lib.bitLenAux_bounds 64 y (by have : (2 : Nat) ^ 64 = 18446744073709551616 := by decide +kernel
                                                       omega) h0
  have b4 : Lib.bitLenAux 64 y ≤ 64 := Lib.bitLen_le y 64 (Nat.le_refl _) (by have : (2 : Nat) ^ 64 = 18446744073709551616 := by decide +kernel
                                                                              omega)
  unfold Lib.bitLen
  generalize Lib.bitLenAux 64 y = k at *
  refine ⟨64 - k, by omega, by omega, ?_, ?_⟩
  · have e : (2 : Nat) ^ (k - 1) * 2 ^ (64 - k) = 9223372036854775808 := by
      rw [← Nat.pow_add, show k - 1 + (64 - k) = 63 from by omega]
    calc 9223372036854775808 = 2 ^ (k - 1) * 2 ^ (64 - k) := e.symm
      _ ≤ y * 2 ^ (64 - k) := Nat.mul_le_mul_right _ b2
  · have e : (2 : Nat) ^ k * 2 ^ (64 - k) = 18446744073709551616 := by
      rw [← Nat.pow_add, show k + (64 - k) = 64 from by omega]
    calc y * 2 ^ (64 - k) < 2 ^ k * 2 ^ (64 - k) := Nat.mul_lt_mul_of_pos_right b3 (Nat.two_pow_pos _)
      _ = 18446744073709551616 := e

/-- What the two words hi, lo, moved up by s bits, have above 64 bits and below. -/
theorem upper (hi lo s : Nat) (hs : s ≤ 63) (hl : lo < 18446744073709551616) :
    lo / 2 ^ (64 - s) < 2 ^ s ∧ hi * 2 ^ s + lo / 2 ^ (64 - s) = (hi * 18446744073709551616 + lo) * 2 ^ s / 18446744073709551616 ∧
    lo * 2 ^ s % 18446744073709551616 = (hi * 18446744073709551616 + lo) * 2 ^ s % 18446744073709551616 := by
  have e : (2 : Nat) ^ (64 - s) * 2 ^ s = 18446744073709551616 := by
    rw [← Nat.pow_add, show 64 - s + s = 64 from by omega]
  have hp : 0 < 2 ^ s := Nat.two_pow_pos s
  have hp' : 0 < 2 ^ (64 - s) := Nat.two_pow_pos _
  refine ⟨?_, ?_, ?_⟩
  · rw [Nat.div_lt_iff_lt_mul hp', Nat.mul_comm, e]; exact hl
  · have e2 : (hi * 18446744073709551616 + lo) * 2 ^ s = lo * 2 ^ s + 18446744073709551616 * (hi * 2 ^ s) := by
      rw [Nat.add_mul, Nat.mul_assoc, Nat.mul_left_comm, Nat.add_comm]
    rw [e2, Nat.add_mul_div_left _ _ (by omega), Nat.add_comm]
    congr 1
    rw [← e]
    exact (Nat.mul_div_mul_right lo _ hp).symm
  · have e2 : (hi * 18446744073709551616 + lo) * 2 ^ s = lo * 2 ^ s + 18446744073709551616 * (hi * 2 ^ s) := by
      rw [Nat.add_mul, Nat.mul_assoc, Nat.mul_left_comm, Nat.add_comm]
    rw [e2, Nat.add_mul_mod_self_left]
end Go.Proofs.YtadcaonkmncgoaaGreat.Kn

namespace Go.Proofs.YtadcaonkmncgoaaGreat
open Go.RowKit

/-- The numbers that Div64 makes ahead of its first guess, and what is known of them. -/
theorem frame_of (hi lo y : Int) (s : Nat) (i0 : 0 ≤ hi) (i1 : hi < 18446744073709551616) (l0 : 0 ≤ lo) (l1 : lo < 18446744073709551616) (y0 : 0 ≤ y) (y1 : y < 18446744073709551616) (h : hi < y) (hs : s ≤ 63)
    (hv1 : 9223372036854775808 ≤ y.toNat * 2 ^ s) (hv2 : y.toNat * 2 ^ s < 18446744073709551616) :
    ∃ V V1 V0 U L D1 D0 : Int,
      Hid (IntKind.u64.wrap (y * 2 ^ s) = V ∧ IntKind.u64.wrap (y * 2 ^ s) / 4294967296 = V1 ∧ bits .and .u64 (IntKind.u64.wrap (y * 2 ^ s)) 4294967295 = V0 ∧ bits .or .u64 (IntKind.u64.wrap (hi * 2 ^ s)) (lo / 2 ^ (64 - s)) = U ∧ IntKind.u64.wrap (lo * 2 ^ s) = L ∧ IntKind.u64.wrap (lo * 2 ^ s) / 4294967296 = D1 ∧ bits .and .u64 (IntKind.u64.wrap (lo * 2 ^ s)) 4294967295 = D0) ∧
      Hid (V = V1 * 4294967296 + V0 ∧ V = y * 2 ^ s ∧ (U * 4294967296 + D1) * 4294967296 + D0 = (hi * 18446744073709551616 + lo) * 2 ^ s) ∧
      9223372036854775808 ≤ V ∧ V < 18446744073709551616 ∧ 2147483648 ≤ V1 ∧ V1 < 4294967296 ∧ 0 ≤ V0 ∧ V0 < 4294967296 ∧ 0 ≤ U ∧ U < V ∧ 0 ≤ D1 ∧ D1 < 4294967296 ∧ 0 ≤ D0 ∧ D0 < 4294967296 ∧ 0 ≤ L ∧ L < 18446744073709551616 := by
  obtain ⟨hi, rfl⟩ := Int.eq_ofNat_of_zero_le i0
  obtain ⟨lo, rfl⟩ := Int.eq_ofNat_of_zero_le l0
  obtain ⟨y, rfl⟩ := Int.eq_ofNat_of_zero_le y0
  rw [Int.toNat_natCast] at hv1 hv2
  obtain ⟨q1, q2, q3⟩ := Kn.upper hi lo s hs (by omega)
  have hp : 0 < 2 ^ s := Nat.two_pow_pos s
  have hlt : hi * 2 ^ s < y * 2 ^ s := Nat.mul_lt_mul_of_pos_right (by omega) hp
  have c1 : ((y : Int) * 2 ^ s) = ((y * 2 ^ s : Nat) : Int) := by simp
  have c2 : ((hi : Int) * 2 ^ s) = ((hi * 2 ^ s : Nat) : Int) := by simp
  have c3 : ((lo : Int) * 2 ^ s) = ((lo * 2 ^ s : Nat) : Int) := by simp
  have c4 : ((lo : Int) / 2 ^ (64 - s)) = ((lo / 2 ^ (64 - s) : Nat) : Int) := by simp
  have c5 : (((hi : Int) * 18446744073709551616 + lo) * 2 ^ s) = (((hi * 18446744073709551616 + lo) * 2 ^ s : Nat) : Int) := by simp
  have w1 : IntKind.u64.wrap ((y * 2 ^ s : Nat) : Int) = ((y * 2 ^ s : Nat) : Int) := Kn.wrap_id (by omega) (by omega)
  have w2 : IntKind.u64.wrap ((hi * 2 ^ s : Nat) : Int) = ((hi * 2 ^ s : Nat) : Int) := Kn.wrap_id (by omega) (by omega)
  have w3 : IntKind.u64.wrap ((lo * 2 ^ s : Nat) : Int) = ((lo * 2 ^ s % 18446744073709551616 : Nat) : Int) := by rw [IntKind.wrap_u64]; omega
  have w4 := Kn.or_add s hi (lo / 2 ^ (64 - s)) (by omega) q1 hs
  have w5 := Kn.and_mask (x := ((y * 2 ^ s : Nat) : Int)) (by omega) (by omega)
  have w6 := Kn.and_mask (x := ((lo * 2 ^ s % 18446744073709551616 : Nat) : Int)) (by omega) (by omega)
  have hd := Nat.mul_lt_mul_of_pos_right (show hi * 18446744073709551616 + lo < y * 18446744073709551616 by omega) hp
  have hu : (hi * 18446744073709551616 + lo) * 2 ^ s / 18446744073709551616 < y * 2 ^ s := by
    rw [Nat.div_lt_iff_lt_mul (by omega)]
    rw [Nat.mul_right_comm] at hd
    exact hd
  rw [c1, c2, c3, c4, c5, w1, w2, w3, w4, w5, w6, q2, q3]
  clear c1 c2 c3 c4 c5 w1 w2 w3 w4 w5 w6 q1 q2 q3 hd hlt hp
  generalize (hi * 18446744073709551616 + lo) * 2 ^ s = M at hu ⊢
  generalize y * 2 ^ s = V at hv1 hv2 hu ⊢
  refine ⟨(V : Int), (V : Int) / 4294967296, (V : Int) % 4294967296, ((M / 18446744073709551616 : Nat) : Int), ((M % 18446744073709551616 : Nat) : Int), ((M % 18446744073709551616 : Nat) : Int) / 4294967296, ((M % 18446744073709551616 : Nat) : Int) % 4294967296, hide ⟨rfl, rfl, rfl, rfl, rfl, rfl, rfl⟩, hide ⟨?_, rfl, ?_⟩, ?_⟩
  · omega
  · omega
  exact ⟨by omega, by omega, by omega, by omega, by omega, by omega, by omega, by omega, by omega, by omega, by omega, by omega, by omega, by omega⟩

end Go.Proofs.YtadcaonkmncgoaaGreat

namespace Go.Proofs.YtadcaonkmncgoaaGreat
open Go.RowKit

/-- New blocks, and nothing else, in both of the library's ways to say so. -/
def Grw (w w' : World) : Prop := Grown w w' ∧ Below w.heap.size w w'
theorem Grw.refl (w : World) : Grw w w := ⟨Grown.refl _, Below.refl _ _⟩
theorem Grw.alloc {w w' : World} (h : Grw w w') (c : Array Value) (t : TypeId) : Grw w (w'.alloc (.cells c t)) := ⟨h.1.alloc c t, h.2.alloc h.2.size _⟩
theorem grw_trans {a b c : World} (h : Grw a b) (k : Grw b c) : Grw a c :=
  ⟨⟨World.keptBut_trans h.1.1 k.1.1, fun x => (k.1.2.1 x).trans (h.1.2.1 x), Nat.le_trans h.1.2.2 k.1.2.2⟩, h.2.trans (k.2.mono h.2.size)⟩
theorem grw_drewN {a b : World} (h : Grw a b) (n : Nat) : Grw a (b.drewN n) := ⟨h.1, ⟨h.2.os, h.2.tape, h.2.output, h.2.size, h.2.block⟩⟩

theorem setCell_drewN (w : World) (n : Nat) (a : Addr) (v : Value) : (w.drewN n).setCell a v = (w.setCell a v).drewN n := rfl
theorem alloc_drewN (w : World) (n : Nat) (o : Obj) : (w.drewN n).alloc o = (w.alloc o).drewN n := rfl
theorem cell_drewN (w : World) (n : Nat) (a : Addr) : (w.drewN n).cell? a = w.cell? a := rfl
theorem frozen_drewN (w : World) (n : Nat) (a : Addr) : (w.drewN n).frozen? a = w.frozen? a := rfl
attribute [local go_sem] setCell_drewN alloc_drewN cell_drewN frozen_drewN

/-- The upper and the lower half of a product. -/
def hiS (a b : Int) : Int := a * b / 18446744073709551616
def loS (a b : Int) : Int := a * b % 18446744073709551616
theorem hiS_word {a b : Int} (ha : Word a) (hb : Word b) : Word (hiS a b) := by
  obtain ⟨a0, a1⟩ := ha; obtain ⟨b0, b1⟩ := hb
  have h0 := Int.mul_nonneg a0 b0
  have h1 : a * b ≤ 18446744073709551616 * b := Int.mul_le_mul_of_nonneg_right (Int.le_of_lt a1) b0
  unfold hiS
  exact ⟨Int.ediv_nonneg h0 (by omega), by omega⟩
theorem loS_word (a b : Int) : Word (loS a b) := by unfold loS; exact ⟨by omega, by omega⟩
theorem whole (a b : Int) : hiS a b * 18446744073709551616 + loS a b = a * b := by unfold hiS loS; omega

/-- A product held at the greatest word. -/
def mulS (a b : Int) : Int := if a * b < 18446744073709551616 then a * b else 18446744073709551615

/-- The quotient of two words by one, and what is left. -/
def quoS (p q d : Int) : Int := (p * 18446744073709551616 + q) / d
def remS (p q d : Int) : Int := (p * 18446744073709551616 + q) % d

end Go.Proofs.YtadcaonkmncgoaaGreat

namespace Go.Proofs.YtadcaonkmncgoaaGreat
open Go.RowKit
attribute [local go_sem] setCell_drewN alloc_drewN cell_drewN frozen_drewN

def divB (p d : Int) : Bool := decide (p < d)
def divQ (p q d : Int) : Int := if p < d then quoS p q d else 0
def divR (p q d : Int) : Int := if p < d then remS p q d else 0
def floorB (a b d : Int) : Bool := divB (hiS a b) d
def floorV (a b d : Int) : Int := divQ (hiS a b) (loS a b) d
def ceilB (a b d : Int) : Bool := decide (hiS a b < d ∧ (remS (hiS a b) (loS a b) d = 0 ∨ quoS (hiS a b) (loS a b) d < 18446744073709551615))
def ceilV (a b d : Int) : Int := if hiS a b < d ∧ (remS (hiS a b) (loS a b) d = 0 ∨ quoS (hiS a b) (loS a b) d < 18446744073709551615) then (if remS (hiS a b) (loS a b) d = 0 then quoS (hiS a b) (loS a b) d else quoS (hiS a b) (loS a b) d + 1) else 0
def cmpS (a b c d : Int) : Int := if a * d < c * b then -1 else if c * b < a * d then 1 else 0

theorem ret_three {a b c d : Int} {f g : Bool} (h : a = b) (h' : c = d) (k : f = g) : Ending.returned (.tuple #[.int .u64 a, .int .u64 c, .bool f]) = .returned (.tuple #[.int .u64 b, .int .u64 d, .bool g]) := by rw [h, h', k]
theorem ret_flag {a b : Int} {f g : Bool} (h : a = b) (k : f = g) : Ending.returned (.tuple #[.int .u64 a, .bool f]) = .returned (.tuple #[.int .u64 b, .bool g]) := by rw [h, k]

theorem quo_bounds {p q d : Int} (hp : Word p) (hq : Word q) (h : p < d) : Word (quoS p q d) ∧ 0 ≤ remS p q d ∧ remS p q d < d := by
  obtain ⟨p0, p1⟩ := hp; obtain ⟨q0, q1⟩ := hq
  unfold quoS remS
  refine ⟨⟨Int.ediv_nonneg (by omega) (by omega), ?_⟩, Int.emod_nonneg _ (by omega), Int.emod_lt_of_pos _ (by omega)⟩
  rw [Int.ediv_lt_iff_lt_mul (by omega)]; omega

theorem cmp_lt {a b c d : Int} (h : hiS a d < hiS c b ∨ (hiS a d = hiS c b ∧ loS a d < loS c b)) : cmpS a b c d = -1 := by
  unfold cmpS; unfold hiS loS at h
  rw [if_pos (by omega)]
theorem cmp_gt {a b c d : Int} (h : hiS c b < hiS a d ∨ (hiS a d = hiS c b ∧ loS c b < loS a d)) : cmpS a b c d = 1 := by
  unfold cmpS; unfold hiS loS at h
  rw [if_neg (by omega), if_pos (by omega)]
theorem cmp_eq {a b c d : Int} (h : hiS a d = hiS c b) (h' : loS a d = loS c b) : cmpS a b c d = 0 := by
  unfold cmpS; unfold hiS at h; unfold loS at h'
  rw [if_neg (by omega), if_neg (by omega)]

theorem ret_i64 {a b : Int} (h : a = b) : Ending.returned (.int .i64 a) = .returned (.int .i64 b) := by rw [h]

end Go.Proofs.YtadcaonkmncgoaaGreat

namespace Go.Proofs.YtadcaonkmncgoaaGreat
open Go.RowKit
attribute [local go_sem] setCell_drewN alloc_drewN cell_drewN frozen_drewN

/-- One step of a product, bit by bit. -/
theorem full_step {a m : Int} (X : Int) (hX : a * m = X) (x0 : 0 ≤ X) (x1 : 2 * X < 340282366920938463463374607431768211456) :
    bits .or .u64 (IntKind.u64.wrap (hiS a m * 2)) (loS a m / 9223372036854775808) = 2 * X / 18446744073709551616 ∧ IntKind.u64.wrap (loS a m * 2) = 2 * X % 18446744073709551616 := by
  unfold hiS loS
  rw [hX]
  obtain ⟨n, rfl⟩ := Int.eq_ofNat_of_zero_le x0
  refine ⟨?_, by rw [IntKind.wrap_u64]; omega⟩
  have e := Kn.or_add 1 (n / 18446744073709551616) (n % 18446744073709551616 / 9223372036854775808) (by omega) (by omega) (by omega)
  have e1 : IntKind.u64.wrap ((n : Int) / 18446744073709551616 * 2) = ((n / 18446744073709551616 * 2 ^ 1 : Nat) : Int) := by rw [IntKind.wrap_u64]; omega
  have e2 : (n : Int) % 18446744073709551616 / 9223372036854775808 = ((n % 18446744073709551616 / 9223372036854775808 : Nat) : Int) := by omega
  rw [e1, e2, e]
  omega

theorem bit_step (b : Int) (j : Nat) : b / 2 ^ j = 2 * (b / 2 ^ (j + 1)) + b / 2 ^ j % 2 := by
  have : b / 2 ^ (j + 1) = b / 2 ^ j / 2 := by rw [Int.pow_succ, Int.ediv_ediv_of_nonneg (Int.le_of_lt (Int.pow_pos (by omega)))]
  rw [this]; omega

theorem full_round {a b : Int} (ha : Word a) (hb : Word b) (j : Nat) :
    let H := bits .or .u64 (IntKind.u64.wrap (hiS a (b / 2 ^ (j + 1)) * 2)) (loS a (b / 2 ^ (j + 1)) / 9223372036854775808)
    let L := IntKind.u64.wrap (loS a (b / 2 ^ (j + 1)) * 2)
    ((bits .and .u64 (b / 2 ^ j) 1 == 1) = false → H = hiS a (b / 2 ^ j) ∧ L = loS a (b / 2 ^ j)) ∧
    ((bits .and .u64 (b / 2 ^ j) 1 == 1) = true → L ≤ 18446744073709551615 - a → H = hiS a (b / 2 ^ j) ∧ IntKind.u64.wrap (L + a) = loS a (b / 2 ^ j)) ∧
    ((bits .and .u64 (b / 2 ^ j) 1 == 1) = true → 18446744073709551615 - a < L → IntKind.u64.wrap (H + 1) = hiS a (b / 2 ^ j) ∧ IntKind.u64.wrap (L + a) = loS a (b / 2 ^ j)) := by
  intro H L
  obtain ⟨a0, a1⟩ := ha
  obtain ⟨b0, b1⟩ := hb
  have hp : (0 : Int) < 2 ^ j := Int.pow_pos (by omega)
  have hp' : (0 : Int) < 2 ^ (j + 1) := Int.pow_pos (by omega)
  have m0 : 0 ≤ b / 2 ^ j := Int.ediv_nonneg b0 (Int.le_of_lt hp)
  have m1 : b / 2 ^ j ≤ b := Int.ediv_le_self _ b0
  have n0 : 0 ≤ b / 2 ^ (j + 1) := Int.ediv_nonneg b0 (Int.le_of_lt hp')
  have hbit := bit_step b j
  have hand := Kn.and_one m0 (by omega)
  have hx : a * (b / 2 ^ j) = 2 * (a * (b / 2 ^ (j + 1))) + (b / 2 ^ j % 2) * a := by
    rw [hbit, Int.mul_add, Int.mul_left_comm, Int.mul_comm a (_ % 2)]
    congr 2
    omega
  have hbd : a * (b / 2 ^ j) < 340282366920938463463374607431768211456 := by
    have h1 : a * (b / 2 ^ j) ≤ 18446744073709551616 * (b / 2 ^ j) := Int.mul_le_mul_of_nonneg_right (Int.le_of_lt a1) m0
    omega
  have x0 : 0 ≤ a * (b / 2 ^ (j + 1)) := Int.mul_nonneg a0 n0
  have hbz : 0 ≤ b / 2 ^ j % 2 * a := Int.mul_nonneg (by omega) a0
  obtain ⟨s1, s2⟩ := full_step (a := a) (m := b / 2 ^ (j + 1)) _ rfl x0 (by omega)
  have hH : H = 2 * (a * (b / 2 ^ (j + 1))) / 18446744073709551616 := s1
  have hL : L = 2 * (a * (b / 2 ^ (j + 1))) % 18446744073709551616 := s2
  clear_value H L
  unfold hiS loS
  rw [hand, hx]
  rw [hx] at hbd
  generalize a * (b / 2 ^ (j + 1)) = X at *
  rcases (show b / 2 ^ j % 2 = 0 ∨ b / 2 ^ j % 2 = 1 by omega) with hc | hc
  · rw [hc] at hbd ⊢
    rw [Int.zero_mul, Int.add_zero]
    exact ⟨fun _ => ⟨hH, hL⟩, fun h => by simp at h, fun h => by simp at h⟩
  · rw [hc] at hbd ⊢
    rw [Int.one_mul] at hbd ⊢
    refine ⟨fun h => by simp at h, fun _ h => ⟨by omega, ?_⟩, fun _ h => ⟨?_, ?_⟩⟩
    all_goals (rw [IntKind.wrap_u64]; omega)

theorem end_of (j : Nat) : (intOf (Value.int .i64 ((j : Int) - 1)) + 1).toNat < (intOf (Value.int .i64 (j : Int)) + 1).toNat := by
  simp [intOf]

/-- What of the two words hi, lo stands above the last k bits. -/
def nS (hi lo : Int) (k : Nat) : Int := hi * 2 ^ (64 - k) + lo / 2 ^ k

theorem nS_step (hi lo : Int) (j : Nat) (hj : j + 1 ≤ 64) : nS hi lo j = 2 * nS hi lo (j + 1) + lo / 2 ^ j % 2 := by
  unfold nS
  have h1 := bit_step lo j
  have h2 : hi * 2 ^ (64 - j) = 2 * (hi * 2 ^ (64 - (j + 1))) := by
    rw [show 64 - j = 64 - (j + 1) + 1 by omega, Int.pow_succ, ← Int.mul_assoc, Int.mul_comm _ 2]
  omega

theorem nS_bound {hi lo d : Int} (hl : Word lo) (h0 : 0 ≤ hi) (h : hi < d) (k : Nat) (hk : k ≤ 64) : 0 ≤ nS hi lo k ∧ nS hi lo k < d * 2 ^ (64 - k) := by
  obtain ⟨l0, l1⟩ := hl
  have hp : (0 : Int) < 2 ^ k := Int.pow_pos (by omega)
  have hp' : (0 : Int) < 2 ^ (64 - k) := Int.pow_pos (by omega)
  have hm : (2 : Int) ^ (64 - k) * 2 ^ k = 18446744073709551616 := by
    rw [← Int.pow_add, show 64 - k + k = 64 by omega]; decide +kernel
  have t0 : 0 ≤ lo / 2 ^ k := Int.ediv_nonneg l0 (Int.le_of_lt hp)
  have t1 : lo / 2 ^ k < 2 ^ (64 - k) := by rw [Int.ediv_lt_iff_lt_mul hp, hm]; exact l1
  have s0 : 0 ≤ hi * 2 ^ (64 - k) := Int.mul_nonneg h0 (Int.le_of_lt hp')
  have s1 : (hi + 1) * 2 ^ (64 - k) ≤ d * 2 ^ (64 - k) := Int.mul_le_mul_of_nonneg_right (by omega) (Int.le_of_lt hp')
  rw [Int.add_mul, Int.one_mul] at s1
  unfold nS
  exact ⟨by omega, by omega⟩

theorem div_round {hi lo d : Int} (hh : Word hi) (hl : Word lo) (hd : Word d) (h : hi < d) (j : Nat) (hj : j + 1 ≤ 64) :
    let R := nS hi lo (j + 1) % d
    let Q := nS hi lo (j + 1) / d
    let r := bits .or .u64 (IntKind.u64.wrap (R * 2)) (bits .and .u64 (lo / 2 ^ j) 1)
    ((R / 9223372036854775808 == 1) = true ∨ d ≤ r → IntKind.u64.wrap (r - d) = nS hi lo j % d ∧ bits .or .u64 (IntKind.u64.wrap (Q * 2)) 1 = nS hi lo j / d) ∧
    ((R / 9223372036854775808 == 1) = false → r < d → r = nS hi lo j % d ∧ IntKind.u64.wrap (Q * 2) = nS hi lo j / d) := by
  intro R Q r
  obtain ⟨h0, h1⟩ := hh
  obtain ⟨d0, d1⟩ := hd
  have hl' := hl
  obtain ⟨l0, l1⟩ := hl'
  have dp : 0 < d := by omega
  obtain ⟨n0, n1⟩ := nS_bound hl h0 h (j + 1) hj
  have hst := nS_step hi lo j hj
  have R0 : 0 ≤ R := Int.emod_nonneg _ (by omega)
  have R1 : R < d := Int.emod_lt_of_pos _ dp
  have Q0 : 0 ≤ Q := Int.ediv_nonneg n0 d0
  have Q1 : Q < 9223372036854775808 := by
    show nS hi lo (j + 1) / d < _
    have hpw : (2 : Int) ^ (64 - (j + 1)) ≤ 9223372036854775808 := by
      have : (2 : Int) ^ (64 - (j + 1)) * 2 ^ j = 9223372036854775808 := by
        rw [← Int.pow_add, show 64 - (j + 1) + j = 63 by omega]; decide +kernel
      have hj1 : (1 : Int) ≤ 2 ^ j := by have : (0 : Int) < 2 ^ j := Int.pow_pos (by omega)
                                         omega
      have hj2 : (0 : Int) < 2 ^ (64 - (j + 1)) := Int.pow_pos (by omega)
      have := Int.mul_le_mul_of_nonneg_left hj1 (Int.le_of_lt hj2)
      omega
    have := Int.mul_le_mul_of_nonneg_left hpw d0
    rw [Int.ediv_lt_iff_lt_mul dp]
    rw [Int.mul_comm d 9223372036854775808] at this
    omega
  have hN : nS hi lo (j + 1) = d * Q + R := (Int.mul_ediv_add_emod _ _).symm
  have hb0 : 0 ≤ lo / 2 ^ j := Int.ediv_nonneg l0 (Int.le_of_lt (Int.pow_pos (by omega)))
  have hb1 : lo / 2 ^ j ≤ lo := Int.ediv_le_self _ l0
  have hand := Kn.and_one hb0 (by omega)
  have hr : r = (R * 2 + lo / 2 ^ j % 2) % 18446744073709551616 := by
    show bits .or .u64 (IntKind.u64.wrap (R * 2)) (bits .and .u64 (lo / 2 ^ j) 1) = _
    rw [hand, IntKind.wrap_u64]
    generalize lo / 2 ^ j = m at *
    obtain ⟨m, rfl⟩ := Int.eq_ofNat_of_zero_le hb0
    clear_value R
    obtain ⟨R, rfl⟩ := Int.eq_ofNat_of_zero_le R0
    have e := Kn.or_add 1 (R % 9223372036854775808) (m % 2) (by omega) (by omega) (by omega)
    have e1 : ((R : Int) * 2 % 18446744073709551616) = ((R % 9223372036854775808 * 2 ^ 1 : Nat) : Int) := by omega
    have e2 : (m : Int) % 2 = ((m % 2 : Nat) : Int) := by omega
    rw [e1, e2, e]
    omega
  have hq : IntKind.u64.wrap (Q * 2) = Q * 2 := Kn.wrap_id (by omega) (by omega)
  have hq1 : bits .or .u64 (IntKind.u64.wrap (Q * 2)) 1 = Q * 2 + 1 := by
    rw [hq]
    clear_value Q
    obtain ⟨Q, rfl⟩ := Int.eq_ofNat_of_zero_le Q0
    have e := Kn.or_add 1 Q 1 (by omega) (by omega) (by omega)
    have e1 : ((Q : Int) * 2) = ((Q * 2 ^ 1 : Nat) : Int) := by omega
    rw [e1]
    exact e.trans (by omega)
  have hN' : nS hi lo j = (R * 2 + lo / 2 ^ j % 2) + d * (Q * 2) := by
    rw [hst, hN, ← Int.mul_assoc]
    generalize d * Q = X
    omega
  rw [hN', Int.add_mul_emod_self_left, Int.add_mul_ediv_left _ _ (by omega), hq1, hq]
  clear_value R Q r
  have c01 : 0 ≤ lo / 2 ^ j % 2 ∧ lo / 2 ^ j % 2 ≤ 1 := ⟨by omega, by omega⟩
  generalize lo / 2 ^ j % 2 = c at *
  refine ⟨fun ht => ?_, fun ht hlt => ?_⟩
  · have hge : d ≤ R * 2 + c := by
      rcases ht with ht | ht
      · have := beq_iff_eq.1 ht; omega
      · rw [hr] at ht
        omega
    have e3 : (R * 2 + c) / d = 1 := by
      have a1 : 1 ≤ (R * 2 + c) / d := by rw [Int.le_ediv_iff_mul_le dp]; omega
      have a2 : (R * 2 + c) / d < 2 := by rw [Int.ediv_lt_iff_lt_mul dp]; omega
      omega
    have e4 : (R * 2 + c) % d = R * 2 + c - d := by
      rw [Int.emod_def, e3, Int.mul_one]
    rw [e3, e4, IntKind.wrap_u64, hr]
    exact ⟨by omega, by omega⟩
  · have ht' : ¬ R / 9223372036854775808 = 1 := by simpa using ht
    have hr' : r = R * 2 + c := by rw [hr]; omega
    rw [hr'] at hlt ⊢
    rw [Int.emod_eq_of_lt (by omega) hlt, Int.ediv_eq_zero_of_lt (by omega) hlt]
    exact ⟨rfl, by omega⟩

end Go.Proofs.YtadcaonkmncgoaaGreat

namespace Go.Proofs.YtadcaonkmncgoaaGreat
open Go.RowKit
attribute [local go_sem] setCell_drewN alloc_drewN cell_drewN frozen_drewN

end Go.Proofs.YtadcaonkmncgoaaGreat
