/-
  What the sums and differences of package wide come to at any two words: contracts, for every world; they change nothing. Plain arithmetic: a digit of a long division by the school's way (a guess by the leading half, put right at most twice), and a quotient of four half words by two, digit by digit. Plain arithmetic: words and their bits: masks, shifts, and a divisor moved up until its top bit is set. What math/bits.Div64 comes to where it does not panic: the quotient of 128 bits by 64, and what is left; it changes nothing. What the products and quotients of package wide come to at any words: contracts, for every world; of what was there nothing turns. What wide.Ceil and wide.Cmp come to at any words, and one form for each answer of package wide: contracts, for every world; of what was there nothing turns. What the document's own answer (bit by bit) comes to: products and quotients at any words: contracts, for every world; they change nothing. What the document's own answers Mul, Div, Floor, Ceil, Cmp come to: contracts, for every world; of what was there nothing turns. Gauges in plain words: what may be one, two put together, one float more; the laws of turning and grouping, of ends, of many one by one. A gauge in memory of the call's own: its four cells, what leaves them be, what writes them; a gauge as a value. What the document's own answers of gauges come to: may it be one, two put together, one float more: contracts, for every world; what was there before stays. What the
  Conditions: as each theorem says.
-/
import Derived.Test.YtknghoecjobkiaaGreatDoorZua
import Derived.Test.YtknghoecjobkiaaGreatDoorRows
import Derived.WalkKit
import Derived.WalkSpells
import Derived.RowKit3
import Derived.Laws.Bits64b
import Derived.Lib.BitFns
import Derived.Lib.ItoaNum
import Derived.Test.YtknghoecjobkiaaGreatDoorZuSh
import Derived.BigQuiet
import Derived.Deep.Cut
import Derived.Deep.CutRange
import Derived.Deep.CutBlock
import Derived.Deep.QuietTactic
import Derived.Lib.SmallJoins
import Derived.Below
import Derived.Deep.RegionHeld3
import Derived.Deep.RegionWith
import Derived.Deep.DeepCutAuto
import Derived.RegionTactic
import Derived.ChangeAlike
import Derived.Test.YtknghoecjobkiaaGreatDoorZub
import Derived.Laws.AppendOwnNone
import Derived.Deep.SlicePairs
import Derived.OpenShut
import Derived.SizedLaws
import Derived.Deep.Strs
import Derived.Laws.Concat
import Derived.BigRegion
import Derived.WalkLawsBesides
import Derived.Lib.SliceRun
import Derived.Laws.Tables
import Derived.Lib.AppendZeros
namespace Go.Proofs.YtknghoecjobkiaaGreatDoor
open Go.RowKit
set_option maxRecDepth 20000
def addS (a b : Int) : Int := if a + b < 18446744073709551616 then a + b else 18446744073709551615
theorem addS_word {a b : Int} (ha : Word a) (hb : Word b) : Word (addS a b) := by
  obtain ⟨_, _⟩ := ha; obtain ⟨_, _⟩ := hb; unfold addS Word; split <;> omega
end Go.Proofs.YtknghoecjobkiaaGreatDoor

namespace Go.Proofs.YtknghoecjobkiaaGreatDoor.Kn

theorem q_lt {u v1 v0 d q r : Int} (hv : 0 < v1 * 4294967296 + v0) (hu : u = q * v1 + r) (h : 4294967296 * r + d < q * v0) :
    (u * 4294967296 + d) / (v1 * 4294967296 + v0) < q := by
  rw [Int.ediv_lt_iff_lt_mul hv]
  have e : q * (v1 * 4294967296 + v0) = (q * v1) * 4294967296 + q * v0 := by rw [Int.mul_add, ← Int.mul_assoc]
  rw [e, hu]
  generalize q * v1 = X at *
  generalize q * v0 = Y at *
  omega

theorem q_digit {u v d : Int} (hv : 0 < v) (hu : u < v) (hd : d < 4294967296) : (u * 4294967296 + d) / v < 4294967296 := by
  rw [Int.ediv_lt_iff_lt_mul hv]; omega

/-- The guess is never below the digit. -/
theorem guess {u v1 v0 d : Int} (hu0 : 0 ≤ u) (h1 : 0 < v1) (h0 : 0 ≤ v0) (hd : 0 ≤ d) (hd' : d < 4294967296) :
    (u * 4294967296 + d) / (v1 * 4294967296 + v0) ≤ u / v1 := by
  have hv : 0 < v1 * 4294967296 + v0 := by omega
  have hm : (u / v1) * v1 + u % v1 = u := by rw [Int.mul_comm]; exact Int.mul_ediv_add_emod u v1
  have hr := Int.emod_lt_of_pos u h1
  have hq : 0 ≤ u / v1 := Int.ediv_nonneg hu0 (Int.le_of_lt h1)
  have hlt : (u * 4294967296 + d) / (v1 * 4294967296 + v0) < u / v1 + 1 := by
    rw [Int.ediv_lt_iff_lt_mul hv]
    have e : (u / v1 + 1) * (v1 * 4294967296 + v0) = (u / v1 * v1) * 4294967296 + v1 * 4294967296 + (u / v1 + 1) * v0 := by
      rw [Int.mul_add, ← Int.mul_assoc, Int.add_mul (u / v1) 1 v1, Int.add_mul, Int.one_mul]
    have hp : 0 ≤ (u / v1 + 1) * v0 := Int.mul_nonneg (by omega) h0
    rw [e]
    generalize u / v1 * v1 = X at *
    generalize (u / v1 + 1) * v0 = Y at *
    omega
  omega

/-- One turn of the loop that puts a guess right. -/
theorem turn {U V V1 V0 D Q a b : Int} (hV : V = V1 * 4294967296 + V0) (hQ : Q = (U * 4294967296 + D) / V) (hu : U = a * V1 + b) (hq : Q ≤ a)
    (v0 : 0 < V) (hU : U < V) (hU0 : 0 ≤ U) (d0 : 0 ≤ D) (d1 : D < 4294967296) (t : 4294967296 ≤ a ∨ 4294967296 * b + D < a * V0) :
    Q ≤ a - 1 ∧ U = (a - 1) * V1 + (b + V1) ∧ 0 ≤ a - 1 := by
  have h1 : Q < a := by
    rcases t with t | t
    · have := q_digit v0 hU d1
      rw [← hQ] at this; omega
    · rw [hQ, hV]; rw [hV] at v0; exact q_lt v0 hu t
  have h2 : 0 ≤ Q := by rw [hQ]; exact Int.ediv_nonneg (by omega) (by omega)
  refine ⟨by omega, ?_, by omega⟩
  rw [Int.sub_mul, Int.one_mul]
  generalize a * V1 = X at *
  omega

theorem two {u v a b : Int} (hv : 0 < v) :
    ((u * 4294967296 + a) * 4294967296 + b) / v = (u * 4294967296 + a) / v * 4294967296 + ((u * 4294967296 + a) % v * 4294967296 + b) / v ∧
    ((u * 4294967296 + a) * 4294967296 + b) % v = ((u * 4294967296 + a) % v * 4294967296 + b) % v := by
  generalize u * 4294967296 + a = n
  have e : n * 4294967296 + b = (n % v * 4294967296 + b) + v * (n / v * 4294967296) := by
    have := Int.mul_ediv_add_emod n v
    rw [← Int.mul_assoc]
    generalize v * (n / v) = X at *
    omega
  rw [e]
  refine ⟨?_, ?_⟩
  · rw [Int.add_mul_ediv_left _ _ (by omega)]; omega
  · rw [Int.add_mul_emod_self_left]

end Go.Proofs.YtknghoecjobkiaaGreatDoor.Kn

namespace Go.Proofs.YtknghoecjobkiaaGreatDoor.Kn

theorem moved (y : Nat) (h0 : y ≠ 0) (h1 : y < 18446744073709551616) :
    ∃ s : Nat, s ≤ 63 ∧ 64 - (Lib.bitLen y : Int) = s ∧ 9223372036854775808 ≤ y * 2 ^ s ∧ y * 2 ^ s < 18446744073709551616 := by
  obtain ⟨b1, b2, b3⟩ := Lib.bitLenAux_bounds 64 y (by have : (2 : Nat) ^ 64 = 18446744073709551616 := by decide +kernel
                                                       omega) h0
  have b4 : Lib.bitLenAux 64 y ≤ 64 := Lib.bitLen_le y 64 (Nat.le_refl _) (by have : (2 : Nat) ^ 64 = 18446744073709551616 := by decide +kernel
                                                                              omega)
  unfold Lib.bitLen
  generalize Lib.bitLenAux 64 y = k at *
  refine ⟨64 - k, by omega, by omega, ?_, ?_⟩
  · have e : (2 : Nat) ^ (k - 1) * 2 ^ (64 - k) = 9223372036854775808 := by
      rw [← Nat.pow_add, show k - 1 + (64 - k) = 63 from by omega]
    calc 9223372036854775808 = 2 ^ (k - 1) * 2 ^ (64 - k) := e.symm
      _ ≤ y * 2 ^ (64 - k) := Nat.mul_le_mul_right _ b2
  · have e : (2 : Nat) ^ k * 2 ^ (64 - k) = 18446744073709551616 := by
      rw [← Nat.pow_add, show k + (64 - k) = 64 from by omega]
    calc y * 2 ^ (64 - k) < 2 ^ k * 2 ^ (64 - k) := Nat.mul_lt_mul_of_pos_right b3 (Nat.two_pow_pos _)
      _ = 18446744073709551616 := e

/-- What the two words hi, lo, moved up by s bits, have above 64 bits and below. -/
theorem upper (hi lo s : Nat) (hs : s ≤ 63) (hl : lo < 18446744073709551616) :
    lo / 2 ^ (64 - s) < 2 ^ s ∧ hi * 2 ^ s + lo / 2 ^ (64 - s) = (hi * 18446744073709551616 + lo) * 2 ^ s / 18446744073709551616 ∧
    lo * 2 ^ s % 18446744073709551616 = (hi * 18446744073709551616 + lo) * 2 ^ s % 18446744073709551616 := by
  have e : (2 : Nat) ^ (64 - s) * 2 ^ s = 18446744073709551616 := by
    rw [← Nat.pow_add, show 64 - s + s = 64 from by omega]
  have hp : 0 < 2 ^ s := Nat.two_pow_pos s
  have hp' : 0 < 2 ^ (64 - s) := Nat.two_pow_pos _
  refine ⟨?_, ?_, ?_⟩
  · rw [Nat.div_lt_iff_lt_mul hp', Nat.mul_comm, e]; exact hl
  · have e2 : (hi * 18446744073709551616 + lo) * 2 ^ s = lo * 2 ^ s + 18446744073709551616 * (hi * 2 ^ s) := by
      rw [Nat.add_mul, Nat.mul_assoc, Nat.mul_left_comm, Nat.add_comm]
    rw [e2, Nat.add_mul_div_left _ _ (by omega), Nat.add_comm]
    congr 1
    rw [← e]
    exact (Nat.mul_div_mul_right lo _ hp).symm
  · have e2 : (hi * 18446744073709551616 + lo) * 2 ^ s = lo * 2 ^ s + 18446744073709551616 * (hi * 2 ^ s) := by
      rw [Nat.add_mul, Nat.mul_assoc, Nat.mul_left_comm, Nat.add_comm]
    rw [e2, Nat.add_mul_mod_self_left]
end Go.Proofs.YtknghoecjobkiaaGreatDoor.Kn

namespace Go.Proofs.YtknghoecjobkiaaGreatDoor
open Go.RowKit
/-- The upper and the lower half of a product. -/
def hiS (a b : Int) : Int := a * b / 18446744073709551616
def loS (a b : Int) : Int := a * b % 18446744073709551616
theorem whole (a b : Int) : hiS a b * 18446744073709551616 + loS a b = a * b := by unfold hiS loS; omega

theorem refadd_any (a b : Int) (ha : Word a) (hb : Word b) (w : World) :
    Calls Tryz.prog 227 #[.int .u64 a, .int .u64 b] w fun e w' => e = .returned (.int .u64 (addS a b)) ∧ w' = w := by
  obtain ⟨a0, a1⟩ := ha
  obtain ⟨b0, b1⟩ := hb
  go_enter Tryz.func227, Tryz.ntmps227
  go_wp2
  all_goals
    go_ret
    exact ⟨ret_u64 (by (try simp only [IntKind.wrap_u64] at *); unfold addS; split <;> omega), rfl⟩

set_option maxRecDepth 20000
/-- A gauge: how many numbers, how many that are none, the least, the greatest. -/
structure Gz where
  n : Int
  nans : Int
  lo : Int
  hi : Int
deriving DecidableEq
theorem Gz.ext' {a b : Gz} (h1 : a.n = b.n) (h2 : a.nans = b.nans) (h3 : a.lo = b.lo) (h4 : a.hi = b.hi) : a = b := by
  cases a; cases b; simp_all
def g0 : Gz := ⟨0, 0, 0, 0⟩
structure GW (g : Gz) : Prop where
  n : Word g.n
  nans : Word g.nans
  lo : Word g.lo
  hi : Word g.hi
theorem w0 : Word 0 := ⟨by decide, by decide⟩
theorem w1 : Word 1 := ⟨by decide, by decide⟩
theorem g0W : GW g0 := ⟨w0, w0, w0, w0⟩

def chkG (g : Gz) : Bool := if g.n = 0 then decide (g.lo = 0) && decide (g.hi = 0) else !nanI g.lo && (!nanI g.hi && !lessB g.hi g.lo)
theorem chk0 : chkG g0 = true := by decide
/-- The lesser, the greater of two floats. -/
def lo2 (x y : Int) : Int := if lessB y x then y else x
def hi2 (x y : Int) : Int := if lessB x y then y else x
def mergeG (a b : Gz) : Gz :=
  ⟨addS a.n b.n, addS a.nans b.nans, if a.n = 0 then b.lo else if b.n = 0 then a.lo else lo2 a.lo b.lo, if a.n = 0 then b.hi else if b.n = 0 then a.hi else hi2 a.hi b.hi⟩
def oneG (x : Int) : Gz := if nanI x then ⟨0, 1, 0, 0⟩ else ⟨1, 0, x, x⟩
def addG (g : Gz) (x : Int) : Gz := mergeG g (oneG x)

theorem key_inj {x y : Int} (hx : Word x) (hy : Word y) (h : keyS x = keyS y) : x = y := by rw [← of_key hx, ← of_key hy, h]
theorem lo2_word {x y : Int} (hx : Word x) (hy : Word y) : Word (lo2 x y) := by unfold lo2; split <;> assumption
theorem hi2_word {x y : Int} (hx : Word x) (hy : Word y) : Word (hi2 x y) := by unfold hi2; split <;> assumption
theorem lo2_num {x y : Int} (hx : nanI x = false) (hy : nanI y = false) : nanI (lo2 x y) = false := by unfold lo2; split <;> assumption
theorem hi2_num {x y : Int} (hx : nanI x = false) (hy : nanI y = false) : nanI (hi2 x y) = false := by unfold hi2; split <;> assumption
theorem less_num {x y : Int} (hx : nanI x = false) (hy : nanI y = false) : lessB x y = decide (keyS x < keyS y) := by unfold lessB; rw [hx, hy]; rfl
theorem lo2_key {x y : Int} (hx : nanI x = false) (hy : nanI y = false) : keyS (lo2 x y) = min (keyS x) (keyS y) := by
  unfold lo2; rw [less_num hy hx]
  by_cases h : keyS y < keyS x
  · rw [if_pos (decide_eq_true h)]; omega
  · rw [if_neg (by simpa using h)]; omega
theorem hi2_key {x y : Int} (hx : nanI x = false) (hy : nanI y = false) : keyS (hi2 x y) = max (keyS x) (keyS y) := by
  unfold hi2; rw [less_num hx hy]
  by_cases h : keyS x < keyS y
  · rw [if_pos (decide_eq_true h)]; omega
  · rw [if_neg (by simpa using h)]; omega
theorem lo2_turn {x y : Int} (wx : Word x) (wy : Word y) (hx : nanI x = false) (hy : nanI y = false) : lo2 x y = lo2 y x :=
  key_inj (lo2_word wx wy) (lo2_word wy wx) (by rw [lo2_key hx hy, lo2_key hy hx]; omega)
theorem hi2_turn {x y : Int} (wx : Word x) (wy : Word y) (hx : nanI x = false) (hy : nanI y = false) : hi2 x y = hi2 y x :=
  key_inj (hi2_word wx wy) (hi2_word wy wx) (by rw [hi2_key hx hy, hi2_key hy hx]; omega)
theorem addS_turn (a b : Int) : addS a b = addS b a := by unfold addS; rw [Int.add_comm]
theorem addS_zero {a b : Int} (ha : Word a) (hb : Word b) : addS a b = 0 ↔ a = 0 ∧ b = 0 := by
  obtain ⟨_, _⟩ := ha; obtain ⟨_, _⟩ := hb; unfold addS; split <;> omega
theorem addS_right {a : Int} (ha : Word a) : addS a 0 = a := by obtain ⟨_, _⟩ := ha; unfold addS; split <;> omega
theorem chk_none {g : Gz} (h : chkG g = true) (hn : g.n = 0) : g.lo = 0 ∧ g.hi = 0 := by
  unfold chkG at h; rw [if_pos hn, Bool.and_eq_true, decide_eq_true_eq, decide_eq_true_eq] at h; exact h
theorem chk_some {g : Gz} (h : chkG g = true) (hn : g.n ≠ 0) : nanI g.lo = false ∧ nanI g.hi = false ∧ keyS g.lo ≤ keyS g.hi := by
  unfold chkG at h; rw [if_neg hn] at h
  simp only [Bool.and_eq_true, Bool.not_eq_true'] at h
  obtain ⟨h1, h2, h3⟩ := h
  rw [less_num h2 h1, decide_eq_false_iff_not] at h3
  exact ⟨h1, h2, by omega⟩
theorem chk_of_none {g : Gz} (hn : g.n = 0) (h1 : g.lo = 0) (h2 : g.hi = 0) : chkG g = true := by
  unfold chkG; rw [if_pos hn, h1, h2]; rfl
theorem chk_of_some {g : Gz} (hn : g.n ≠ 0) (h1 : nanI g.lo = false) (h2 : nanI g.hi = false) (h3 : keyS g.lo ≤ keyS g.hi) : chkG g = true := by
  unfold chkG; rw [if_neg hn, less_num h2 h1, h1, h2, decide_eq_false (by omega)]; rfl

theorem mergeG_word {a b : Gz} (ha : GW a) (hb : GW b) : GW (mergeG a b) := by
  refine ⟨addS_word ha.n hb.n, addS_word ha.nans hb.nans, ?_, ?_⟩
  · show Word (ite _ _ _); split
    · exact hb.lo
    · split
      · exact ha.lo
      · exact lo2_word ha.lo hb.lo
  · show Word (ite _ _ _); split
    · exact hb.hi
    · split
      · exact ha.hi
      · exact hi2_word ha.hi hb.hi
theorem merge_l {a b : Gz} (ha : a.n = 0) : (mergeG a b).lo = b.lo ∧ (mergeG a b).hi = b.hi := ⟨if_pos ha, if_pos ha⟩
theorem merge_r {a b : Gz} (ca : chkG a = true) (cb : chkG b = true) (hb : b.n = 0) : (mergeG a b).lo = a.lo ∧ (mergeG a b).hi = a.hi := by
  by_cases ha : a.n = 0
  · obtain ⟨h1, h2⟩ := merge_l (b := b) ha
    obtain ⟨e1, e2⟩ := chk_none ca ha
    obtain ⟨e3, e4⟩ := chk_none cb hb
    exact ⟨by rw [h1, e1, e3], by rw [h2, e2, e4]⟩
  · exact ⟨(if_neg ha).trans (if_pos hb), (if_neg ha).trans (if_pos hb)⟩
theorem merge_b {a b : Gz} (ha : a.n ≠ 0) (hb : b.n ≠ 0) : (mergeG a b).lo = lo2 a.lo b.lo ∧ (mergeG a b).hi = hi2 a.hi b.hi := ⟨(if_neg ha).trans (if_neg hb), (if_neg ha).trans (if_neg hb)⟩
theorem merge_n {a b : Gz} (ha : GW a) (hb : GW b) : (mergeG a b).n = 0 ↔ a.n = 0 ∧ b.n = 0 := addS_zero ha.n hb.n

theorem mergeG_chk {a b : Gz} (ha : GW a) (hb : GW b) (ca : chkG a = true) (cb : chkG b = true) : chkG (mergeG a b) = true := by
  by_cases na : a.n = 0
  · obtain ⟨h1, h2⟩ := merge_l (b := b) na
    by_cases nb : b.n = 0
    · obtain ⟨e1, e2⟩ := chk_none cb nb
      exact chk_of_none ((merge_n ha hb).2 ⟨na, nb⟩) (h1.trans e1) (h2.trans e2)
    · obtain ⟨e1, e2, e3⟩ := chk_some cb nb
      exact chk_of_some (fun h => nb ((merge_n ha hb).1 h).2) (by rw [h1]; exact e1) (by rw [h2]; exact e2) (by rw [h1, h2]; exact e3)
  · obtain ⟨e1, e2, e3⟩ := chk_some ca na
    have hn : (mergeG a b).n ≠ 0 := fun h => na ((merge_n ha hb).1 h).1
    by_cases nb : b.n = 0
    · obtain ⟨h1, h2⟩ := merge_r ca cb nb
      exact chk_of_some hn (by rw [h1]; exact e1) (by rw [h2]; exact e2) (by rw [h1, h2]; exact e3)
    · obtain ⟨h1, h2⟩ := merge_b na nb
      obtain ⟨f1, f2, f3⟩ := chk_some cb nb
      refine chk_of_some hn (by rw [h1]; exact lo2_num e1 f1) (by rw [h2]; exact hi2_num e2 f2) ?_
      rw [h1, h2, lo2_key e1 f1, hi2_key e2 f2]; omega

theorem mergeG_turn {a b : Gz} (ha : GW a) (hb : GW b) (ca : chkG a = true) (cb : chkG b = true) : mergeG a b = mergeG b a := by
  have N : (mergeG a b).n = (mergeG b a).n := addS_turn _ _
  have M : (mergeG a b).nans = (mergeG b a).nans := addS_turn _ _
  by_cases na : a.n = 0
  · obtain ⟨h1, h2⟩ := merge_l (b := b) na
    obtain ⟨k1, k2⟩ := merge_r cb ca na
    exact Gz.ext' N M (h1.trans k1.symm) (h2.trans k2.symm)
  · by_cases nb : b.n = 0
    · obtain ⟨h1, h2⟩ := merge_r ca cb nb
      obtain ⟨k1, k2⟩ := merge_l (b := a) nb
      exact Gz.ext' N M (h1.trans k1.symm) (h2.trans k2.symm)
    · obtain ⟨h1, h2⟩ := merge_b na nb
      obtain ⟨k1, k2⟩ := merge_b nb na
      obtain ⟨e1, e2, _⟩ := chk_some ca na
      obtain ⟨f1, f2, _⟩ := chk_some cb nb
      exact Gz.ext' N M (by rw [h1, k1]; exact lo2_turn ha.lo hb.lo e1 f1) (by rw [h2, k2]; exact hi2_turn ha.hi hb.hi e2 f2)

theorem merge_g0 {a : Gz} (ha : GW a) (ca : chkG a = true) : mergeG a g0 = a := by
  obtain ⟨h1, h2⟩ := merge_r ca chk0 rfl
  exact Gz.ext' (addS_right ha.n) (addS_right ha.nans) h1 h2
theorem g0_merge {a : Gz} (ha : GW a) (ca : chkG a = true) : mergeG g0 a = a := by rw [mergeG_turn g0W ha chk0 ca, merge_g0 ha ca]

theorem oneG_nan {x : Int} (h : nanI x = true) : oneG x = ⟨0, 1, 0, 0⟩ := if_pos h
theorem oneG_num {x : Int} (h : nanI x = false) : oneG x = ⟨1, 0, x, x⟩ := if_neg (by rw [h]; decide)
theorem oneG_word {x : Int} (h : Word x) : GW (oneG x) := by
  cases e : nanI x
  · rw [oneG_num e]; exact ⟨w1, w0, h, h⟩
  · rw [oneG_nan e]; exact ⟨w0, w1, w0, w0⟩
theorem oneG_chk (x : Int) : chkG (oneG x) = true := by
  cases e : nanI x
  · rw [oneG_num e]; exact chk_of_some (show (1 : Int) ≠ 0 by decide) e e (Int.le_refl _)
  · rw [oneG_nan e]; exact chk_of_none rfl rfl rfl
theorem addG_word {g : Gz} {x : Int} (h : GW g) (hx : Word x) : GW (addG g x) := mergeG_word h (oneG_word hx)
theorem addG_chk {g : Gz} {x : Int} (h : GW g) (hx : Word x) (c : chkG g = true) : chkG (addG g x) = true := mergeG_chk h (oneG_word hx) c (oneG_chk x)
theorem addG_g0 {x : Int} (hx : Word x) : addG g0 x = oneG x := g0_merge (oneG_word hx) (oneG_chk x)
structure GBox (w : World) (g : Nat) (n m lo hi : Int) : Prop where
  lt : g < w.heap.size
  c0 : w.cell? ⟨g, 0, none⟩ = some (.int .u64 n)
  c1 : w.cell? ⟨g, 1, none⟩ = some (.int .u64 m)
  c2 : w.cell? ⟨g, 2, none⟩ = some (.int .u64 lo)
  c3 : w.cell? ⟨g, 3, none⟩ = some (.int .u64 hi)
  f0 : w.frozen? ⟨g, 0, none⟩ = false
  f1 : w.frozen? ⟨g, 1, none⟩ = false
  f2 : w.frozen? ⟨g, 2, none⟩ = false
  f3 : w.frozen? ⟨g, 3, none⟩ = false
theorem GBox.new (w : World) (t : TypeId) (n m lo hi : Int) : GBox (w.alloc (.cells #[.int .u64 n, .int .u64 m, .int .u64 lo, .int .u64 hi] t)) w.heap.size n m lo hi :=
  ⟨by simp [go_sem], by simp [go_sem], by simp [go_sem], by simp [go_sem], by simp [go_sem], by simp [go_sem], by simp [go_sem], by simp [go_sem], by simp [go_sem]⟩
theorem size_al (w : World) (o : Obj) : (w.alloc o).heap.size = w.heap.size + 1 := by simp [go_sem]
theorem GBox.new2 (w : World) (o : Obj) (t : TypeId) (n m lo hi : Int) : GBox ((w.alloc o).alloc (.cells #[.int .u64 n, .int .u64 m, .int .u64 lo, .int .u64 hi] t)) (w.heap.size + 1) n m lo hi := by
  have h := GBox.new (w.alloc o) t n m lo hi
  rwa [size_al] at h
section
variable {w w' : World} {g B : Nat} {n m lo hi : Int}
theorem GBox.below (h : GBox w g n m lo hi) (hb : Below B w w') (hg : g < B) : GBox w' g n m lo hi :=
  ⟨Nat.lt_of_lt_of_le h.lt hb.size, (hb.cell hg).trans h.c0, (hb.cell hg).trans h.c1, (hb.cell hg).trans h.c2, (hb.cell hg).trans h.c3, (hb.frozen hg).trans h.f0, (hb.frozen hg).trans h.f1, (hb.frozen hg).trans h.f2, (hb.frozen hg).trans h.f3⟩
theorem GBox.alloc (h : GBox w g n m lo hi) (o : Obj) : GBox (w.alloc o) g n m lo hi := h.below ((Below.refl w.heap.size w).alloc (Nat.le_refl _) o) h.lt
theorem GBox.drew (h : GBox w g n m lo hi) : GBox w.drew g n m lo hi := ⟨h.lt, h.c0, h.c1, h.c2, h.c3, h.f0, h.f1, h.f2, h.f3⟩
theorem GBox.set (h : GBox w g n m lo hi) (n' m' lo' hi' : Int) :
    GBox ((((w.setCell ⟨g, 0, none⟩ (.int .u64 n')).setCell ⟨g, 1, none⟩ (.int .u64 m')).setCell ⟨g, 2, none⟩ (.int .u64 lo')).setCell ⟨g, 3, none⟩ (.int .u64 hi')) g n' m' lo' hi' := by
  obtain ⟨l, c0, c1, c2, c3, f0, f1, f2, f3⟩ := h
  exact ⟨by simp [go_sem, l], by simp [go_sem, c0], by simp [go_sem, c1], by simp [go_sem, c2], by simp [go_sem, c3], by simp [go_sem, f0], by simp [go_sem, f1], by simp [go_sem, f2], by simp [go_sem, f3]⟩
theorem bel_set4 {w0 : World} (h : Below B w0 w) (hg : B ≤ g) (v0 v1 v2 v3 : Value) : Below B w0 ((((w.setCell ⟨g, 0, none⟩ v0).setCell ⟨g, 1, none⟩ v1).setCell ⟨g, 2, none⟩ v2).setCell ⟨g, 3, none⟩ v3) :=
  (((h.setCell (p := ⟨g, 0, none⟩) hg v0).setCell (p := ⟨g, 1, none⟩) hg v1).setCell (p := ⟨g, 2, none⟩) hg v2).setCell (p := ⟨g, 3, none⟩) hg v3
end
theorem bel2 (w : World) (o1 o2 : Obj) : Below w.heap.size w ((w.alloc o1).alloc o2) := ((Below.refl _ w).alloc (Nat.le_refl _) o1).alloc (by simp [go_sem]) o2
theorem chkG_none {g : Gz} (h : g.n = 0) : chkG g = (g.lo == 0 && g.hi == 0) := by
  unfold chkG; rw [if_pos h]; rfl
theorem chkG_some {g : Gz} (h : g.n ≠ 0) : chkG g = (!nanI g.lo && (!nanI g.hi && !lessB g.hi g.lo)) := if_neg h

set_option maxHeartbeats 1000000 in
theorem refgchk_any (g : Gz) (hg : GW g) (w : World) :
    Calls Tryz.prog 114 #[(Value.agg #[.int .u64 (Gz.n g), .int .u64 (Gz.nans g), .int .u64 (Gz.lo g), .int .u64 (Gz.hi g)])] w fun e w' => e = .returned (.bool (chkG g)) ∧ Below w.heap.size w w' := by
  have A := hide (fun w => refkind_any g.lo hg.lo w)
  have B := hide (fun w => refkind_any g.hi hg.hi w)
  have C := hide (fun w => refless_any g.hi g.lo hg.hi hg.lo w)
  have ka := kind_ne g.lo
  have kb := kind_ne g.hi
  by_cases h : g.n = 0
  · have F := hide (chkG_none h)
    have e0 : (g.n == 0) = true := beq_iff_eq.2 h
    generalize chkG g = c at F ⊢
    obtain ⟨n, m, lo, hi⟩ := g
    dsimp only at A B C F e0 ka kb ⊢
    clear hg h
    go_enter Tryz.func114, Tryz.ntmps114
    cases e1 : (lo == 0) <;> cases e2 : (hi == 0)
    all_goals go_wp2
    all_goals (go_ret; exact ⟨by rw [F.out, e1, e2]; rfl, (Below.refl _ _).alloc (Nat.le_refl _) _⟩)
  · have F := hide (chkG_some h)
    have e0 : (g.n == 0) = false := beq_eq_false_iff_ne.2 h
    generalize chkG g = c at F ⊢
    obtain ⟨n, m, lo, hi⟩ := g
    dsimp only at A B C F e0 ka kb ⊢
    clear hg h
    generalize lessB hi lo = l at F C
    generalize nanI lo = p at F ka
    generalize nanI hi = q at F kb
    generalize kindS lo = kl at A ka
    generalize kindS hi = kh at B kb
    go_enter Tryz.func114, Tryz.ntmps114
    cases p
    · replace ka : (kl != 4) = true := ka
      cases q
      · replace kb : (kh != 4) = true := kb
        go_wp2_with fail
        refine (A.out _).mono ?_
        rintro e w1 ⟨rfl, rfl⟩
        go_wp2_with fail
        refine (B.out _).mono ?_
        rintro e w1 ⟨rfl, rfl⟩
        go_wp2_with fail
        refine (C.out _).mono ?_
        rintro e w1 ⟨rfl, rfl⟩
        go_wp2
        go_ret
        exact ⟨ret_bool F.out.symm, (Below.refl _ _).alloc (Nat.le_refl _) _⟩
      · replace kb : (kh != 4) = false := kb
        go_wp2_with fail
        refine (A.out _).mono ?_
        rintro e w1 ⟨rfl, rfl⟩
        go_wp2_with fail
        refine (B.out _).mono ?_
        rintro e w1 ⟨rfl, rfl⟩
        go_wp2
        go_ret
        exact ⟨ret_bool F.out.symm, (Below.refl _ _).alloc (Nat.le_refl _) _⟩
    · replace ka : (kl != 4) = false := ka
      go_wp2_with fail
      refine (A.out _).mono ?_
      rintro e w1 ⟨rfl, rfl⟩
      go_wp2
      go_ret
      exact ⟨ret_bool F.out.symm, (Below.refl _ _).alloc (Nat.le_refl _) _⟩

theorem rwadd_any (a b : Int) (ha : Word a) (hb : Word b) (w : World) :
    Calls Tryz.prog 227 #[.int .u64 a, .int .u64 b] w fun e w' => e = .returned (.int .u64 (addS a b)) ∧ w' = w := by
  obtain ⟨a0, a1⟩ := ha
  obtain ⟨b0, b1⟩ := hb
  go_enter Tryz.func227, Tryz.ntmps227
  go_wp2
  all_goals
    go_ret
    exact ⟨ret_u64 (by (try simp only [IntKind.wrap_u64] at *); unfold addS; split <;> omega), rfl⟩

theorem bel4 (w : World) (o1 o2 o3 o4 : Obj) : Below w.heap.size w ((((w.alloc o1).alloc o2).alloc o3).alloc o4).drew :=
  (((((Below.refl _ w).alloc (Nat.le_refl _) o1).alloc (by simp [go_sem]) o2).alloc (by simp [go_sem]; omega) o3).alloc (by simp [go_sem]; omega) o4).drew

set_option maxHeartbeats 2000000 in
theorem refgmerge_any (a b : Gz) (ha : GW a) (hb : GW b) (w : World) :
    Calls Tryz.prog 230 #[(Value.agg #[.int .u64 (Gz.n a), .int .u64 (Gz.nans a), .int .u64 (Gz.lo a), .int .u64 (Gz.hi a)]), (Value.agg #[.int .u64 (Gz.n b), .int .u64 (Gz.nans b), .int .u64 (Gz.lo b), .int .u64 (Gz.hi b)])] w fun e w' => e = .returned (Value.agg #[.int .u64 (Gz.n (mergeG a b)), .int .u64 (Gz.nans (mergeG a b)), .int .u64 (Gz.lo (mergeG a b)), .int .u64 (Gz.hi (mergeG a b))]) ∧ Below w.heap.size w w' := by
  have E := hide rwadd_any
  have C := hide (fun w => refless_any b.lo a.lo hb.lo ha.lo w)
  have D := hide (fun w => refless_any a.hi b.hi ha.hi hb.hi w)
  obtain ⟨n, m, lo, hi⟩ := a
  obtain ⟨n', m', lo', hi'⟩ := b
  obtain ⟨hn, hm, _, _⟩ := ha
  obtain ⟨hn', hm', _, _⟩ := hb
  dsimp only [mergeG] at C D hn hm hn' hm' ⊢
  obtain ⟨L, HL⟩ : ∃ L, Hid ((if n = 0 then lo' else if n' = 0 then lo else lo2 lo lo') = L) := ⟨_, rfl⟩
  obtain ⟨H, HH⟩ : ∃ H, Hid ((if n = 0 then hi' else if n' = 0 then hi else hi2 hi hi') = H) := ⟨_, rfl⟩
  rw [HL.out, HH.out]
  go_enter Tryz.func230, Tryz.ntmps230
  go_upto_region 1 with fail
  go_cut [5] (fun x wx => x = .pointer (some ⟨w.heap.size + 3, 0, none⟩) ∧ wx = ((((w.alloc (.cells #[.int .u64 n, .int .u64 m, .int .u64 lo, .int .u64 hi] 27)).alloc (.cells #[.int .u64 n', .int .u64 m', .int .u64 lo', .int .u64 hi'] 27)).alloc (.cells #[.int .u64 0, .int .u64 0, .int .u64 0, .int .u64 0] 27)).alloc (.cells #[.int .u64 (addS n n'), .int .u64 (addS m m'), .int .u64 lo, .int .u64 hi] 27)).drew)
  case first =>
    go_region_held3 (fun w' => w'.cell? ⟨w.heap.size, 0, none⟩ = some (.int .u64 n) ∧ w'.cell? ⟨w.heap.size, 1, none⟩ = some (.int .u64 m) ∧ w'.cell? ⟨w.heap.size, 2, none⟩ = some (.int .u64 lo) ∧ w'.cell? ⟨w.heap.size, 3, none⟩ = some (.int .u64 hi) ∧ w'.cell? ⟨w.heap.size + 1, 0, none⟩ = some (.int .u64 n') ∧ w'.cell? ⟨w.heap.size + 1, 1, none⟩ = some (.int .u64 m')) (go_keep) ((go_at_call 227; refine (E.out _ _ (by assumption) (by assumption) _).mono ?_; rintro e w' ⟨rfl, rfl⟩))
    all_goals first
      | exact ⟨by simp [go_sem], by simp [go_sem], by simp [go_sem], by simp [go_sem], by simp [go_sem], by simp [go_sem]⟩
      | (go_wp2_with fail
         go_meet
         exact ⟨rfl, rfl⟩)
  case rest =>
    obtain ⟨rfl, rfl⟩ := hcut
    have l1 := HL.out
    have l2 := HH.out
    by_cases h1 : n = 0
    · have e1 : (n == 0) = true := beq_iff_eq.2 h1
      rw [if_pos h1] at l1 l2
      subst l1 l2
      clear h1 HL HH C D E
      go_wp2
      exact bodyPost_ret (v := .agg #[.int .u64 (addS n n'), .int .u64 (addS m m'), .int .u64 lo', .int .u64 hi']) (by simp [results, Tryz.results230, go_sem]) rfl ⟨rfl, bel4 _ _ _ _ _⟩
    · have e1 : (n == 0) = false := beq_eq_false_iff_ne.2 h1
      rw [if_neg h1] at l1 l2
      by_cases h2 : n' = 0
      · have e2 : (n' == 0) = true := beq_iff_eq.2 h2
        rw [if_pos h2] at l1 l2
        subst l1 l2
        clear h1 h2 HL HH C D E
        go_wp2
        exact bodyPost_ret (v := .agg #[.int .u64 (addS n n'), .int .u64 (addS m m'), .int .u64 lo, .int .u64 hi]) (by simp [results, Tryz.results230, go_sem]) rfl ⟨rfl, bel4 _ _ _ _ _⟩
      · have e2 : (n' == 0) = false := beq_eq_false_iff_ne.2 h2
        rw [if_neg h2] at l1 l2
        unfold lo2 at l1
        unfold hi2 at l2
        clear h1 h2 HL HH E
        generalize lessB lo' lo = p at C l1
        generalize lessB hi hi' = q at D l2
        go_wp2_with fail
        refine (C.out _).mono ?_
        rintro e w1 ⟨rfl, rfl⟩
        cases p
        · replace l1 : lo = L := l1
          subst l1
          go_wp2_with fail
          refine (D.out _).mono ?_
          rintro e w1 ⟨rfl, rfl⟩
          cases q
          · replace l2 : hi = H := l2
            subst l2
            go_wp2
            exact bodyPost_ret (v := .agg #[.int .u64 (addS n n'), .int .u64 (addS m m'), .int .u64 lo, .int .u64 hi]) (by simp [results, Tryz.results230, go_sem]) rfl ⟨rfl, bel4 _ _ _ _ _⟩
          · replace l2 : hi' = H := l2
            subst l2
            go_wp2
            exact bodyPost_ret (v := .agg #[.int .u64 (addS n n'), .int .u64 (addS m m'), .int .u64 lo, .int .u64 hi']) (by simp [results, Tryz.results230, go_sem]) rfl ⟨rfl, bel4 _ _ _ _ _⟩
        · replace l1 : lo' = L := l1
          subst l1
          go_wp2_with fail
          refine (D.out _).mono ?_
          rintro e w1 ⟨rfl, rfl⟩
          cases q
          · replace l2 : hi = H := l2
            subst l2
            go_wp2
            exact bodyPost_ret (v := .agg #[.int .u64 (addS n n'), .int .u64 (addS m m'), .int .u64 lo', .int .u64 hi]) (by simp [results, Tryz.results230, go_sem]) rfl ⟨rfl, bel4 _ _ _ _ _⟩
          · replace l2 : hi' = H := l2
            subst l2
            go_wp2
            exact bodyPost_ret (v := .agg #[.int .u64 (addS n n'), .int .u64 (addS m m'), .int .u64 lo', .int .u64 hi']) (by simp [results, Tryz.results230, go_sem]) rfl ⟨rfl, bel4 _ _ _ _ _⟩

theorem kind_eq (x : Int) : (kindS x == 4) = nanI x := kind_nan x

set_option maxHeartbeats 2000000 in
theorem refgadd_any (g : Gz) (x : Int) (hg : GW g) (hx : Word x) (w : World) :
    Calls Tryz.prog 172 #[(Value.agg #[.int .u64 (Gz.n g), .int .u64 (Gz.nans g), .int .u64 (Gz.lo g), .int .u64 (Gz.hi g)]), .int .u64 x] w fun e w' => e = .returned (Value.agg #[.int .u64 (Gz.n (addG g x)), .int .u64 (Gz.nans (addG g x)), .int .u64 (Gz.lo (addG g x)), .int .u64 (Gz.hi (addG g x))]) ∧ Below w.heap.size w w' := by
  have K := hide (fun w => refkind_any x hx w)
  have k := kind_eq x
  have M := hide (fun w => refgmerge_any g (oneG x) hg (oneG_word hx) w)
  show Calls Tryz.prog 172 #[(Value.agg #[.int .u64 (Gz.n g), .int .u64 (Gz.nans g), .int .u64 (Gz.lo g), .int .u64 (Gz.hi g)]), .int .u64 x] w fun e w' => e = .returned (Value.agg #[.int .u64 (Gz.n (mergeG g (oneG x))), .int .u64 (Gz.nans (mergeG g (oneG x))), .int .u64 (Gz.lo (mergeG g (oneG x))), .int .u64 (Gz.hi (mergeG g (oneG x)))]) ∧ Below w.heap.size w w'
  generalize mergeG g (oneG x) = r at M ⊢
  obtain ⟨n, m, lo, hi⟩ := g
  obtain ⟨rn, rm, rl, rh⟩ := r
  cases e : nanI x
  · rw [oneG_num e] at M
    rw [e] at k
    dsimp only at M ⊢
    go_enter Tryz.func172, Tryz.ntmps172
    go_wp2_with fail
    refine (K.out _).mono ?_
    rintro e w1 ⟨rfl, rfl⟩
    go_wp2_with fail
    refine (M.out _).mono ?_
    rintro e w1 ⟨rfl, hb⟩
    have G : Hid (GBox w1 (w.heap.size + 1) 0 0 0 0) := (GBox.new2 w _ _ 0 0 0 0).below hb (by simp [go_sem])
    have B : Hid (Below w.heap.size w w1) := (bel2 w _ _).trans (hb.mono (by rw [size_al, size_al]; omega))
    have c0 := G.out.c0
    have c1 := G.out.c1
    have c2 := G.out.c2
    have c3 := G.out.c3
    have f0 := G.out.f0
    have f1 := G.out.f1
    have f2 := G.out.f2
    have f3 := G.out.f3
    clear hb
    go_wp2
    have G2 := G.out.set rn rm rl rh
    exact bodyPost_ret (v := .agg #[.int .u64 rn, .int .u64 rm, .int .u64 rl, .int .u64 rh]) (by simp [results, Tryz.results172, go_sem, G2.c0, G2.c1, G2.c2, G2.c3]) rfl ⟨rfl, bel_set4 B.out (by omega) _ _ _ _⟩
  · rw [oneG_nan e] at M
    rw [e] at k
    dsimp only at M ⊢
    go_enter Tryz.func172, Tryz.ntmps172
    go_wp2_with fail
    refine (K.out _).mono ?_
    rintro e w1 ⟨rfl, rfl⟩
    go_wp2_with fail
    refine (M.out _).mono ?_
    rintro e w1 ⟨rfl, hb⟩
    have G : Hid (GBox w1 (w.heap.size + 1) 0 0 0 0) := (GBox.new2 w _ _ 0 0 0 0).below hb (by simp [go_sem])
    have B : Hid (Below w.heap.size w w1) := (bel2 w _ _).trans (hb.mono (by rw [size_al, size_al]; omega))
    have c0 := G.out.c0
    have c1 := G.out.c1
    have c2 := G.out.c2
    have c3 := G.out.c3
    have f0 := G.out.f0
    have f1 := G.out.f1
    have f2 := G.out.f2
    have f3 := G.out.f3
    clear hb
    go_wp2
    have G2 := G.out.set rn rm rl rh
    exact bodyPost_ret (v := .agg #[.int .u64 rn, .int .u64 rm, .int .u64 rl, .int .u64 rh]) (by simp [results, Tryz.results172, go_sem, G2.c0, G2.c1, G2.c2, G2.c3]) rfl ⟨rfl, bel_set4 B.out (by omega) _ _ _ _⟩
attribute [local go_sem] run_bits run_frombits

end Go.Proofs.YtknghoecjobkiaaGreatDoor

namespace Go.Proofs.YtknghoecjobkiaaGreatDoor
open Go.RowKit
set_option maxRecDepth 20000
theorem gc_below {w w' : World} {g B : Nat} {v : Gz} (hb : Below B w w') (hg : g < B) (h : ((World.cell? w ⟨g, 0, none⟩ = some (.int .u64 (Gz.n v))) ∧ (World.cell? w ⟨g, 1, none⟩ = some (.int .u64 (Gz.nans v))) ∧ (World.cell? w ⟨g, 2, none⟩ = some (.int .u64 (Gz.lo v))) ∧ (World.cell? w ⟨g, 3, none⟩ = some (.int .u64 (Gz.hi v))))) : ((World.cell? w' ⟨g, 0, none⟩ = some (.int .u64 (Gz.n v))) ∧ (World.cell? w' ⟨g, 1, none⟩ = some (.int .u64 (Gz.nans v))) ∧ (World.cell? w' ⟨g, 2, none⟩ = some (.int .u64 (Gz.lo v))) ∧ (World.cell? w' ⟨g, 3, none⟩ = some (.int .u64 (Gz.hi v)))) :=
  ⟨(hb.cell hg).trans h.1, (hb.cell hg).trans h.2.1, (hb.cell hg).trans h.2.2.1, (hb.cell hg).trans h.2.2.2⟩
theorem GBox.gc {w : World} {g : Nat} {v : Gz} (h : GBox w g v.n v.nans v.lo v.hi) : ((World.cell? w ⟨g, 0, none⟩ = some (.int .u64 (Gz.n v))) ∧ (World.cell? w ⟨g, 1, none⟩ = some (.int .u64 (Gz.nans v))) ∧ (World.cell? w ⟨g, 2, none⟩ = some (.int .u64 (Gz.lo v))) ∧ (World.cell? w ⟨g, 3, none⟩ = some (.int .u64 (Gz.hi v)))) := ⟨h.c0, h.c1, h.c2, h.c3⟩

attribute [local go_sem] run_bits run_frombits

theorem isnum_any (x : Int) (h : Word x) (w : World) :
    Calls Tryz.prog 291 #[.int .u64 x] w fun e w' => e = .returned (.bool (!nanI x)) ∧ w' = w := by
  have lx : x.toNat < 18446744073709551616 := by obtain ⟨_, _⟩ := h; omega
  have N := hide (fun w => isnan_any x.toNat lx w)
  rw [nan_nat h] at N
  go_enter Tryz.func291, Tryz.ntmps291
  go_wp2_with (go_at_call 315; refine (N.out _).mono ?_; rintro e w' ⟨rfl, rfl⟩)
  go_ret
  exact ⟨rfl, rfl⟩

set_option maxHeartbeats 1000000 in
theorem gchk_any (g : Gz) (hg : GW g) (w : World) :
    Calls Tryz.prog 252 #[(Value.agg #[.int .u64 (Gz.n g), .int .u64 (Gz.nans g), .int .u64 (Gz.lo g), .int .u64 (Gz.hi g)])] w fun e w' => e = .returned (.bool (chkG g)) ∧ Below w.heap.size w w' := by
  have A := hide (fun w => isnum_any g.lo hg.lo w)
  have B := hide (fun w => isnum_any g.hi hg.hi w)
  have C := hide (fun w => less_any g.hi g.lo hg.hi hg.lo w)
  by_cases h : g.n = 0
  · have F := hide (chkG_none h)
    have e0 : (g.n == 0) = true := beq_iff_eq.2 h
    generalize chkG g = c at F ⊢
    obtain ⟨n, m, lo, hi⟩ := g
    dsimp only at A B C F e0 ⊢
    clear hg h A B C
    go_enter Tryz.func252, Tryz.ntmps252
    cases e1 : (lo == 0) <;> cases e2 : (hi == 0)
    all_goals go_wp2
    all_goals (go_ret; exact ⟨by rw [F.out, e1, e2]; rfl, (Below.refl _ _).alloc (Nat.le_refl _) _⟩)
  · have F := hide (chkG_some h)
    have e0 : (g.n == 0) = false := beq_eq_false_iff_ne.2 h
    generalize chkG g = c at F ⊢
    obtain ⟨n, m, lo, hi⟩ := g
    dsimp only at A B C F e0 ⊢
    clear hg h
    generalize lessB hi lo = l at F C
    generalize nanI lo = p at F A
    generalize nanI hi = q at F B
    go_enter Tryz.func252, Tryz.ntmps252
    cases p
    · cases q
      · go_wp2_with fail
        refine (A.out _).mono ?_
        rintro e w1 ⟨rfl, rfl⟩
        go_wp2_with fail
        refine (B.out _).mono ?_
        rintro e w1 ⟨rfl, rfl⟩
        go_wp2_with fail
        refine (C.out _).mono ?_
        rintro e w1 ⟨rfl, rfl⟩
        go_wp2
        go_ret
        exact ⟨ret_bool F.out.symm, (Below.refl _ _).alloc (Nat.le_refl _) _⟩
      · go_wp2_with fail
        refine (A.out _).mono ?_
        rintro e w1 ⟨rfl, rfl⟩
        go_wp2_with fail
        refine (B.out _).mono ?_
        rintro e w1 ⟨rfl, rfl⟩
        go_wp2
        go_ret
        exact ⟨ret_bool F.out.symm, (Below.refl _ _).alloc (Nat.le_refl _) _⟩
    · go_wp2_with fail
      refine (A.out _).mono ?_
      rintro e w1 ⟨rfl, rfl⟩
      go_wp2
      go_ret
      exact ⟨ret_bool F.out.symm, (Below.refl _ _).alloc (Nat.le_refl _) _⟩
end Go.Proofs.YtknghoecjobkiaaGreatDoor

namespace Go.Proofs.YtknghoecjobkiaaGreatDoor
open Go.RowKit
set_option maxRecDepth 20000
/-- A sketch. -/
structure Sp where
  hist : Bks
  keys : List Int
  g : Gz
deriving DecidableEq
/-- How its two lists lie: address, length, capacity, each. -/
structure Hd where
  a : Option Addr
  n : Nat
  c : Nat
  k : Option Addr
  m : Nat
  d : Nat
def zeroP : Sp := ⟨[], [], g0⟩
def hd0 : Hd := ⟨none, 0, 0, none, 0, 0⟩
def chkP (s : Sp) : Bool := checkS s.hist && (chkK s.keys && chkG s.g)
def mergeP (s t : Sp) : Sp := ⟨mrg s.hist t.hist, (uni s.keys t.keys).take 1024, mergeG s.g t.g⟩

/-- What a walk is told of a sketch that lies in memory. -/
structure SeeP (w : World) (h : Hd) (s : Sp) : Prop where
  rh : RowB w h.a h.n s.hist
  rk : Row .u64 w h.k h.m s.keys
  g : GW s.g
  hc : h.n ≤ h.c
  kc : h.m ≤ h.d
  nh : h.a = none → h.c = 0
  nk : h.k = none → h.d = 0
  sh : h.n * 16 ≤ 140737488355328
  sk : h.m * 8 ≤ 140737488355328
/-- A sketch whose two lists are memory of the call's own. -/
structure MadeP (w : World) (base : Nat) (h : Hd) (s : Sp) : Prop where
  oh : OwnB w base h.a h.n h.c s.hist
  ok : OwnU w base h.k h.m h.d s.keys
  see : SeeP w h s
section
variable {w w' : World} {B base : Nat} {h : Hd} {s : Sp}
theorem SeeP.below (q : SeeP w h s) (hb : Below B w w') (hB : w.heap.size ≤ B) : SeeP w' h s :=
  ⟨q.rh.below hb hB, q.rk.below hb hB, q.g, q.hc, q.kc, q.nh, q.nk, q.sh, q.sk⟩
theorem SeeP.drew (q : SeeP w h s) : SeeP w.drew h s := q.below (Below.refl w.heap.size w).drew (Nat.le_refl _)
theorem see_zero (w : World) : SeeP w hd0 zeroP := ⟨⟨rfl, by decide, (fun x hx => by cases hx), Or.inl rfl⟩, nil_row _ _ _, g0W, Nat.le_refl _, Nat.le_refl _, fun _ => rfl, fun _ => rfl, by decide, by decide⟩
end

/-- A sketch in memory of the call's own: six cells. -/
structure SBox (w : World) (b : Nat) (h : Hd) (g : Gz) : Prop where
  lt : b < w.heap.size
  cells : ((World.cell? w ⟨b, 0, none⟩ = some (.slice (Hd.a h) (Hd.n h) (Hd.c h))) ∧ (World.cell? w ⟨b, 1, none⟩ = some (.slice (Hd.k h) (Hd.m h) (Hd.d h))) ∧ (World.cell? w ⟨b, 2, none⟩ = some (.int .u64 (Gz.n g))) ∧ (World.cell? w ⟨b, 3, none⟩ = some (.int .u64 (Gz.nans g))) ∧ (World.cell? w ⟨b, 4, none⟩ = some (.int .u64 (Gz.lo g))) ∧ (World.cell? w ⟨b, 5, none⟩ = some (.int .u64 (Gz.hi g))))
  free : ∀ i, w.frozen? ⟨b, i, none⟩ = false
theorem SBox.new (w : World) (t : TypeId) (h : Hd) (g : Gz) : SBox (w.alloc (.cells #[.slice h.a h.n h.c, .slice h.k h.m h.d, .int .u64 g.n, .int .u64 g.nans, .int .u64 g.lo, .int .u64 g.hi] t)) w.heap.size h g := by
  refine ⟨by simp [go_sem], ⟨by simp [go_sem], by simp [go_sem], by simp [go_sem], by simp [go_sem], by simp [go_sem], by simp [go_sem]⟩, fun i => ?_⟩
  simp [go_sem]
section
variable {w w' : World} {B b : Nat} {h : Hd} {g : Gz}
theorem SBox.below (q : SBox w b h g) (hb : Below B w w') (hB : b < B) : SBox w' b h g := by
  obtain ⟨l, ⟨c0, c1, c2, c3, c4, c5⟩, f⟩ := q
  exact ⟨Nat.lt_of_lt_of_le l hb.size, ⟨(hb.cell hB).trans c0, (hb.cell hB).trans c1, (hb.cell hB).trans c2, (hb.cell hB).trans c3, (hb.cell hB).trans c4, (hb.cell hB).trans c5⟩, fun i => (hb.frozen hB).trans (f i)⟩
theorem SBox.alloc (q : SBox w b h g) (o : Obj) : SBox (w.alloc o) b h g := q.below ((Below.refl w.heap.size w).alloc (Nat.le_refl _) o) q.lt
end
theorem satS_addS (a b : Int) : addS a b = satS a b := rfl
theorem OwnB.set {w : World} {base n cap : Nat} {a : Option Addr} {l : Bks} (h : OwnB w base a n cap l) {b : Nat} (hb : b < base) (o : Nat) (v : Value) : OwnB (w.setCell ⟨b, o, none⟩ v) base a n cap l :=
  h.ch (ch_set w b o v) (fun g hg e => by have := h.block g hg; omega)
theorem OwnU.set {w : World} {base n cap : Nat} {a : Option Addr} {l : List Int} (h : OwnU w base a n cap l) {b : Nat} (hb : b < base) (o : Nat) (v : Value) : OwnU (w.setCell ⟨b, o, none⟩ v) base a n cap l :=
  row_ch h (ch_set w b o v) (fun g hg e => by have := own_block h g hg; omega)
section
variable {w : World} {b : Nat} {h : Hd} {g : Gz}
theorem SBox.seth (q : SBox w b h g) (a : Option Addr) (n c : Nat) : SBox (w.setCell ⟨b, 0, none⟩ (.slice a n c)) b ⟨a, n, c, h.k, h.m, h.d⟩ g := by
  obtain ⟨l, ⟨c0, c1, c2, c3, c4, c5⟩, f⟩ := q
  exact ⟨by simp [go_sem, l], ⟨by simp [go_sem, c0], by simp [go_sem, c1], by simp [go_sem, c2], by simp [go_sem, c3], by simp [go_sem, c4], by simp [go_sem, c5]⟩, fun i => by simp [go_sem, f]⟩
theorem SBox.setk (q : SBox w b h g) (a : Option Addr) (n c : Nat) : SBox (w.setCell ⟨b, 1, none⟩ (.slice a n c)) b ⟨h.a, h.n, h.c, a, n, c⟩ g := by
  obtain ⟨l, ⟨c0, c1, c2, c3, c4, c5⟩, f⟩ := q
  exact ⟨by simp [go_sem, l], ⟨by simp [go_sem, c0], by simp [go_sem, c1], by simp [go_sem, c2], by simp [go_sem, c3], by simp [go_sem, c4], by simp [go_sem, c5]⟩, fun i => by simp [go_sem, f]⟩
theorem SBox.far (q : SBox w b h g) {p : Addr} (hp : p.block ≠ b) (v : Value) : SBox (w.setCell p v) b h g := by
  obtain ⟨l, ⟨c0, c1, c2, c3, c4, c5⟩, f⟩ := q
  have c : ∀ i, (w.setCell p v).cell? ⟨b, i, none⟩ = w.cell? ⟨b, i, none⟩ := fun i => World.cell?_of_block (w := w) (Below.heap_setCell w p v b (Ne.symm hp))
  have e : ∀ i, (w.setCell p v).frozen? ⟨b, i, none⟩ = w.frozen? ⟨b, i, none⟩ := fun i => World.frozen?_of_block (w := w) (Below.heap_setCell w p v b (Ne.symm hp))
  exact ⟨by simpa using l, ⟨(c 0).trans c0, (c 1).trans c1, (c 2).trans c2, (c 3).trans c3, (c 4).trans c4, (c 5).trans c5⟩, fun i => (e i).trans (f i)⟩
end
/-- Six cells written. -/
def put6 (w : World) (b : Nat) (h : Hd) (g : Gz) : World :=
  (((((w.setCell ⟨b, 0, none⟩ (.slice h.a h.n h.c)).setCell ⟨b, 1, none⟩ (.slice h.k h.m h.d)).setCell ⟨b, 2, none⟩ (.int .u64 g.n)).setCell ⟨b, 3, none⟩ (.int .u64 g.nans)).setCell ⟨b, 4, none⟩ (.int .u64 g.lo)).setCell ⟨b, 5, none⟩ (.int .u64 g.hi)
section
variable {w w0 : World} {b base B : Nat} {h h' : Hd} {g g' : Gz}
theorem SBox.put (q : SBox w b h' g') (h : Hd) (g : Gz) : SBox (put6 w b h g) b h g := by
  obtain ⟨l, ⟨c0, c1, c2, c3, c4, c5⟩, f⟩ := q
  exact ⟨by simp [put6, go_sem, l], ⟨by simp [put6, go_sem, c0], by simp [put6, go_sem, c1], by simp [put6, go_sem, c2], by simp [put6, go_sem, c3], by simp [put6, go_sem, c4], by simp [put6, go_sem, c5]⟩, fun i => by simp [put6, go_sem, f]⟩
theorem below_put (q : Below B w0 w) (hB : B ≤ b) (h : Hd) (g : Gz) : Below B w0 (put6 w b h g) :=
  (((((q.setCell (p := ⟨b, 0, none⟩) hB _).setCell (p := ⟨b, 1, none⟩) hB _).setCell (p := ⟨b, 2, none⟩) hB _).setCell (p := ⟨b, 3, none⟩) hB _).setCell (p := ⟨b, 4, none⟩) hB _).setCell (p := ⟨b, 5, none⟩) hB _
theorem ownb_put {a : Option Addr} {n c : Nat} {l : Bks} (q : OwnB w base a n c l) (hb : b < base) (h : Hd) (g : Gz) : OwnB (put6 w b h g) base a n c l :=
  (((((q.set hb 0 _).set hb 1 _).set hb 2 _).set hb 3 _).set hb 4 _).set hb 5 _
theorem ownu_put {a : Option Addr} {n c : Nat} {l : List Int} (q : OwnU w base a n c l) (hb : b < base) (h : Hd) (g : Gz) : OwnU (put6 w b h g) base a n c l :=
  OwnU.set (OwnU.set (OwnU.set (OwnU.set (OwnU.set (OwnU.set q hb 0 _) hb 1 _) hb 2 _) hb 3 _) hb 4 _) hb 5 _
/-- A sketch made of two lists of the call's own. -/
theorem made_of {s : Sp} (oh : OwnB w base h.a h.n h.c s.hist) (ok : OwnU w base h.k h.m h.d s.keys) (hf : ∀ x ∈ s.hist, fitB x) (hw : ∀ x ∈ s.keys, W64 x) (hg : GW s.g) (sh : h.n * 16 ≤ 140737488355328) (sk : h.m * 8 ≤ 140737488355328) : MadeP w base h s :=
  ⟨oh, ok, oh.row (by omega) hf, OwnU.rowU ok (by omega) hw, hg, oh.capped.1, (Own.capped ok).1, fun x => (oh.capped.2 x).2, (Own.capped ok).2, sh, sk⟩
end

/-- A sketch that may be. -/
structure Ok (s : Sp) : Prop where
  h : Good s.hist
  k : chkK s.keys = true
  w : ∀ x ∈ s.keys, W64 x
  g : GW s.g
  c : chkG s.g = true
theorem ok_of {w : World} {h : Hd} {s : Sp} (q : SeeP w h s) (c : chkP s = true) : Ok s := by
  unfold chkP at c
  simp only [Bool.and_eq_true] at c
  exact ⟨good_from c.1 q.rh.2.2.1, c.2.1, q.rk.words, q.g, c.2.2⟩
theorem Ok.chk {s : Sp} (h : Ok s) : chkP s = true := by
  unfold chkP
  have h1 : checkS s.hist = true := h.h.check
  rw [h1, h.k, h.c]; rfl
theorem mem_take_uni {a b : List Int} {n : Nat} {x : Int} (h : x ∈ (uni a b).take n) : x ∈ a ∨ x ∈ b := mem_uni.1 (List.mem_of_mem_take h)

/-- An observation. -/
structure Ob where
  v : Int
  t : ByteArray
  b : Int
def addP (s : Sp) (o : Ob) : Sp := ⟨insS (bucketS o.v) 1 s.hist, hashK 1024 s.keys (fnvOf (numsOf o.t)), addG s.g o.b⟩
def ofP (l : List Ob) : Sp := l.foldl addP zeroP
def ob0 : Ob := ⟨0, .empty, 0⟩
/-- A slice of n observations. -/
def RowO (w : World) (a : Option Addr) (n : Nat) (l : List Ob) : Prop :=
  l.length = n ∧ n * 32 ≤ 140737488355328 ∧ (∀ o ∈ l, Word o.v ∧ Word o.b ∧ o.t.size ≤ 9223372036854775807) ∧
  (n = 0 ∨ ∃ b off, a = some ⟨b, off, none⟩ ∧ ∀ i, i < n → w.cell? ⟨b, off + i * 3, none⟩ = some (.int .u64 (l.getD i ob0).v) ∧ w.cell? ⟨b, off + i * 3 + 1, none⟩ = some (.string (l.getD i ob0).t) ∧ w.cell? ⟨b, off + i * 3 + 2, none⟩ = some (.int .u64 (l.getD i ob0).b))

theorem Sp.ext' {s t : Sp} (h : s.hist = t.hist) (k : s.keys = t.keys) (g : s.g = t.g) : s = t := by
  obtain ⟨_, _, _⟩ := s; obtain ⟨_, _, _⟩ := t
  simp only at h k g
  rw [h, k, g]
theorem Ok.merge {s t : Sp} (a : Ok s) (b : Ok t) : Ok (mergeP s t) := by
  have hw : ∀ x ∈ (uni s.keys t.keys).take 1024, W64 x := fun x hx => (mem_take_uni hx).elim (a.w x) (b.w x)
  exact ⟨a.h.mrg b.h, up_chk (up_take (up_uni (chk_up a.k).1) 1024) (by show ((uni s.keys t.keys).take 1024).length ≤ 1024; rw [List.length_take]; omega) hw, hw, mergeG_word a.g b.g, mergeG_chk a.g b.g a.c b.c⟩
theorem ok_zero : Ok zeroP := ⟨⟨by decide, (fun x hx => by cases hx)⟩, by decide, (fun x hx => by cases hx), g0W, chk0⟩
section
variable {w v v' : World} {L : List (Nat × Hd × Sp)} {k0 k1 : Nat} {h0 h1 : Hd} {s0 s1 : Sp}
end
section
variable {w Wa W W' : World} {L : List (Nat × Hd × Sp)} {b : Nat}
end
theorem fits_wf {zs : List Int} (h : Bytes8 zs) : ∀ z ∈ zs, (Lit.int .u8 z).wf = true := fun z hz => wf_of_u8 (h z hz).1 (h z hz).2
theorem Own.row8 {e : TypeId} {w : World} {base n cap : Nat} {a : Option Addr} {zs : List Int} (h : Own e .u8 w base a n cap zs) (hn : n ≤ 281474976710656) (hz : Bytes8 zs) : Row .u8 w a n zs := h.row hn (fits_wf hz)
/-- The append of a row's bytes, of none too, behind bytes of the call's own. -/
theorem wpList_append_row {P : Program} (w : World) {ops : Array Oper} {rest : List Oper} {o : Oper} {a : Act} {Q : Exit → Act → World → Prop} (hgd : o.guard = none) (s x : Operand) (t : TypeId)
    (ho : o.op = .call { callee := .builtin .append, args := #[s, x], argTypes := #[t, t] })
    (base : Nat) (e : TypeId) (i : TypeInfo) (ht : P.underlying t = some (.slice e)) (hi : P.info? e = some i) (hz : i.zero = some (.int .u8 0)) (hsize : i.size = 1) (hby : i.bytes = 1)
    (ao : Option Addr) (n cap : Nat) (zs : List Int) (hs : a.eval s = .slice ao n cap) (hown : Own e .u8 w base ao n cap zs)
    (bo : Option Addr) (m c : Nat) (news : List Int) (hx : a.eval x = .slice bo m c) (hrow : Row .u8 w bo m news) (hbo : bo = none → c = 0)
    (hbytes : n + m ≤ 140737488355328) (hbase : base ≤ w.heap.size)
    (h : ∀ a' cap' w', Own e .u8 w' base a' (n + m) cap' (zs ++ news) → Below base w w' → wpList P ops Q rest (a.put o.dst (.slice a' (n + m) cap')) w') : wpList P ops Q (o :: rest) a w := by
  cases bo with
  | none =>
    have h0 := hrow.nz rfl
    subst h0
    obtain rfl := hbo rfl
    have hz : news = [] := List.length_eq_zero_iff.1 hrow.1
    subst hz
    refine wpList_append_own_none hgd s x t ho base e i 1 ht hi _ n (zs.map (Value.int .u8)) hs hown hx ?_
    have := h ao cap w (by rw [List.append_nil]; exact hown) (Below.refl _ _)
    exact this
  | some ad =>
    refine wpList_append_own w hgd s x t ho base e i (.int .u8 0) 1 1 ht hi hz hsize hby rfl (by decide) _ n (zs.map (Value.int .u8)) hs hown ad m c (news.map (Value.int .u8)) hx (by simp [hrow.1]) hrow.cells (one_cell .u8 news) (by unfold maxLen; omega) (by omega) hbase ?_
    intro v' w' h1 h2 _
    rw [← List.map_append] at h1
    obtain ⟨a', cap', rfl, h3⟩ := own_form h1
    exact h a' cap' w' h3 ((Below.refl _ _).grown h2 hbase (own_block hown))

set_option maxHeartbeats 1000000 in
theorem refput_any (v : Int) (w : World) (hv : W64 v) :
    Calls Tryz.prog 58 #[.int .u64 v] w fun e w' => ∃ a' cap', e = .returned (.slice a' (putS v).length cap') ∧ Mine w' w.heap.size a' (putS v).length cap' (putS v) ∧ Below w.heap.size w w' := by
  obtain ⟨i0, hi, hz0, hz1, hz2⟩ := info_parts Tryz.info5
  have HV : Hid (v < 2 * 128 ^ 9) := (w64_two.2 hv).2
  obtain ⟨v0, v1⟩ := hv
  go_enter Tryz.func58, Tryz.ntmps58
  go_wp2
  go_loopw [3, 0] (fun b x wr => ∃ (ar : Option Addr) (nr capr : Nat) (pre : List Int) (f : Nat) (u : Int), b = .slice ar nr capr ∧ x = .int .u64 u ∧ 0 ≤ u ∧ u ≤ 18446744073709551615 ∧ nr ≤ 9 ∧ f ≤ 9 ∧ Hid (nr = pre.length ∧ pre.length + f = 9 ∧ u < 2 * 128 ^ f ∧ putS v = pre ++ putF f u) ∧ Hid (Mine wr w.heap.size ar nr capr pre) ∧ Hid (Below w.heap.size w wr)) (fun _ x _ => (intOf x).toNat)
  case atStart => exact ⟨none, 0, 0, [], 9, v, rfl, rfl, v0, by omega, by omega, by omega, ⟨rfl, rfl, HV.out, rfl⟩, own_nil _ _ _ _, Below.refl _ _⟩
  case round =>
    obtain ⟨ar, nr, capr, pre, f, u, rfl, rfl, u0, u1, hnr, hf, HP, HR, HW⟩ := hrel
    by_cases hu : u < 128
    · have e1 : u % 256 = u := by omega
      have HO := hide (one_row (k := .u8) wr u (wf_of_u8 u0 (by omega)) 5 (0, 0))
      have HSA : Hid (Src 5 .u8 (wr.alloc (.cells #[.int .u8 u] 5)) w.heap.size ar nr capr pre) := Or.inl (HR.out.alloc _)
      have HBW : Hid (w.heap.size ≤ (wr.alloc (.cells #[.int .u8 u] 5)).heap.size) := by
        have := HW.out.size
        show _ ≤ _
        simp; omega
      go_wp2_with (at_builtin; refine wpList_append_one _ rfl _ _ 40 rfl w.heap.size 5 i0 Tryz.underlying40 hi hz0 hz1 hz2 ar nr capr _ rfl HSA.out _ 1 u rfl HO.out (by omega) HBW.out ?_)
      intro a' cap' w' h1 h2
      have HF : Hid (nr + 1 = (putS v).length ∧ pre ++ [u] = putS v ∧ Below w.heap.size w w') := by
        obtain ⟨p1, p2, p3, p4⟩ := HP.out
        refine ⟨?_, ?_, (HW.out.alloc HW.out.size _).trans h2⟩
        · rw [p4, putF_one hu, List.length_append, List.length_singleton]; omega
        · rw [p4, putF_one hu]
      have H1 := hide h1
      clear h1 h2 HP HR HW HSA HO HBW
      go_wp2
      go_ret
      rw [HF.out.1, HF.out.2.1] at H1
      rw [HF.out.1]
      exact ⟨a', cap', rfl, H1, HF.out.2.2⟩
    · have HO := hide (one_row (k := .u8) wr (u % 128 + 128) (wf_of_u8 (by omega) (by omega)) 5 (0, 0))
      have hmod : u % 128 % 256 = u % 128 := by omega
      have HSA : Hid (Src 5 .u8 (wr.alloc (.cells #[.int .u8 (u % 128 + 128)] 5)) w.heap.size ar nr capr pre) := Or.inl (HR.out.alloc _)
      have HBW : Hid (w.heap.size ≤ (wr.alloc (.cells #[.int .u8 (u % 128 + 128)] 5)).heap.size) := by
        have := HW.out.size
        show _ ≤ _
        simp; omega
      go_wp2_with (at_builtin; refine wpList_append_one _ rfl _ _ 40 rfl w.heap.size 5 i0 Tryz.underlying40 hi hz0 hz1 hz2 ar nr capr _ rfl HSA.out _ 1 (u % 128 + 128) rfl HO.out (by omega) HBW.out ?_)
      intro a' cap' w' h1 h2
      have HF : Hid (∃ f', f = f' + 1 ∧ nr + 1 = (pre ++ [u % 128 + 128]).length ∧ (pre ++ [u % 128 + 128]).length + f' = 9 ∧ u / 128 < 2 * 128 ^ f' ∧ putS v = (pre ++ [u % 128 + 128]) ++ putF f' (u / 128) ∧ Below w.heap.size w w') := by
        obtain ⟨p1, p2, p3, p4⟩ := HP.out
        cases f with
        | zero => simp at p3; omega
        | succ f =>
          refine ⟨f, rfl, by simp; omega, by simp; omega, ?_, ?_, (HW.out.alloc HW.out.size _).trans h2⟩
          · rw [pw_succ] at p3; omega
          · rw [p4, putF_more (by omega), List.append_assoc]; rfl
      have H1 := hide h1
      clear h1 h2 HR HW HSA HO HBW
      go_wp2
      go_roundw
      case rel =>
        obtain ⟨f', e1, e2, e3, e4, e5, e6⟩ := HF.out
        refine ⟨a', nr + 1, cap', pre ++ [u % 128 + 128], f', u / 128, rfl, by go_num, by omega, by omega, by omega, by omega, ⟨e2, e3, e4, e5⟩, H1, e6⟩
      case measure => simp [intOf]; omega

/-- The reader, as a block of memory. -/
def RB (w : World) (g : Nat) (a : Option Addr) (n cap : Nat) (p : Int) (bad : Bool) : Prop :=
  w.heap[g]? = some (.cells #[.slice a n cap, .int .i64 p, .bool bad] 99 (0, 0))

/-- One block alone may have turned. -/
structure Only (g : Nat) (w w' : World) : Prop where
  os : w'.os = w.os
  tape : w'.tape = w.tape
  output : w'.output = w.output
  size : w'.heap.size = w.heap.size
  block : ∀ k, k ≠ g → w'.heap[k]? = w.heap[k]?

theorem Only.refl (g : Nat) (w : World) : Only g w w := ⟨rfl, rfl, rfl, rfl, fun _ _ => rfl⟩
theorem Only.drew {g : Nat} {a w : World} (h : Only g a w) : Only g a w.drew := ⟨h.os, h.tape, h.output, h.size, h.block⟩
theorem Only.setCell {g : Nat} {a w : World} (h : Only g a w) (o : Nat) (v : Value) : Only g a (w.setCell ⟨g, o, none⟩ v) :=
  ⟨h.os, h.tape, h.output, by rw [← h.size]; simp [World.setCell], fun k hk => by rw [Below.heap_setCell w _ v k hk]; exact h.block k hk⟩
theorem Only.below {g B : Nat} {w w' : World} (h : Only g w w') (hB : B ≤ g) : Below B w w' :=
  ⟨h.os, h.tape, h.output, by rw [h.size]; exact Nat.le_refl _, fun k hk => h.block k (by omega)⟩

theorem RB.cell {w : World} {g : Nat} {a : Option Addr} {n cap : Nat} {p : Int} {bad : Bool} (h : RB w g a n cap p bad) :
    w.cell? ⟨g, 0, none⟩ = some (.slice a n cap) ∧ w.cell? ⟨g, 1, none⟩ = some (.int .i64 p) ∧ w.cell? ⟨g, 2, none⟩ = some (.bool bad) ∧ ∀ o, w.frozen? ⟨g, o, none⟩ = false := by
  unfold RB at h
  refine ⟨?_, ?_, ?_, fun o => ?_⟩
  · simp [World.cell?, h]
  · simp [World.cell?, h]
  · simp [World.cell?, h]
  · simp [World.frozen?, h]
theorem RB.drew {w : World} {g : Nat} {a : Option Addr} {n cap : Nat} {p : Int} {bad : Bool} (h : RB w g a n cap p bad) : RB w.drew g a n cap p bad := h
theorem RB.place {w : World} {g : Nat} {a : Option Addr} {n cap : Nat} {p : Int} {bad : Bool} (h : RB w g a n cap p bad) (q : Int) : RB (w.setCell ⟨g, 1, none⟩ (.int .i64 q)) g a n cap q bad := by
  unfold RB at *
  simp [World.setCell, Array.getElem?_modify, h]
theorem RB.spoil {w : World} {g : Nat} {a : Option Addr} {n cap : Nat} {p : Int} {bad : Bool} (h : RB w g a n cap p bad) : RB (w.setCell ⟨g, 2, none⟩ (.bool true)) g a n cap p true := by
  unfold RB at *
  simp [World.setCell, Array.getElem?_modify, h]

/-- What the reader's Num leaves. -/
def NumP (g : Nat) (a : Option Addr) (n cap : Nat) (r : Option (Int × Int)) (w w' : World) (e : Ending) : Prop :=
  Only g w w' ∧ match r with
  | none => e = .returned (.int .u64 0) ∧ ∃ p', RB w' g a n cap p' true
  | some q => e = .returned (.int .u64 q.1) ∧ RB w' g a n cap q.2 false

set_option maxRecDepth 100000 in
set_option maxHeartbeats 2000000 in
theorem num_any (p : Int) (g : Nat) (a : Option Addr) (n cap : Nat) (zs : List Int) (w0 w : World) (hp : (Lit.int .i64 p).wf = true) (hr : Row .u8 w0 a n zs) (hg : w0.heap.size ≤ g) (hb : Below w0.heap.size w0 w) (hrb : RB w g a n cap p false) :
    Calls Tryz.prog 41 #[.pointer (some ⟨g, 0, none⟩)] w fun e w' => NumP g a n cap (getS zs p) w w' e := by
  obtain ⟨a0, a1⟩ := i64_of_wf hp
  have hl := hr.1
  have hn := hr.2.1
  clear hp
  by_cases h0 : 0 ≤ p ∧ p < n
  · obtain ⟨k, rfl⟩ := Int.eq_ofNat_of_zero_le h0.1
    have hkn : k < n := by omega
    have hS : Hid (getS zs (k : Int) = (getA 0 0 (zs.drop k)).map fun p => (p.1, (k : Int) + p.2)) := by
      show _ = _
      unfold getS
      rw [if_pos (by omega)]
      rfl
    have HR := hide hr
    have HLN := hide hl
    have HB := hide hb
    have HRB := hide hrb
    clear hr hl hb hrb h0 a0 a1
    go_enter Tryz.func41, Tryz.ntmps41
    go_wp2
    go_loopw [3, 4] (fun x i wr => ∃ (j t : Nat) (V : Int), t = k + j ∧ t ≤ n ∧ j ≤ 9 ∧ i = .int .i64 j ∧ x = .int .u64 V ∧ 0 ≤ V ∧ Hid (V < 2 ^ (7 * j)) ∧ Hid (getA 0 0 (zs.drop k) = getA j V (zs.drop t)) ∧ Hid (RB wr g a n cap (t : Int) false) ∧ Hid (Only g w wr)) (fun _ i _ => 10 - (intOf i).toNat)
    case atStart => exact ⟨0, k, 0, by omega, by omega, by omega, rfl, rfl, by omega, by show _ < _; decide, rfl, HRB, Only.refl _ _⟩
    case round =>
      obtain ⟨j, t, V, htj, htn, hj9, rfl, rfl, V0, V1, HG, HRW, HO⟩ := hrel
      clear HRB
      have HT := hide htj
      obtain ⟨c0, c1, c2, cf⟩ := HRW.out.cell
      have cf1 := cf 1
      have cf2 := cf 2
      clear cf htj
      have hb' : Below w0.heap.size w0 wr := HB.out.trans (HO.out.below hg)
      by_cases hlt : t < n
      · have hrow := HR.out.below hb' (Nat.le_refl _)
        have hz := hrow.byte t
        have HD := hide (show getA 0 0 (zs.drop k) = getA j V (zs.getD t 0 :: zs.drop (t + 1)) by
          rw [HG.out, List.drop_eq_getElem_cons (by rw [HLN.out]; omega), List.getD_eq_getElem?_getD, List.getElem?_eq_getElem (by rw [HLN.out]; omega)]
          rfl)
        obtain ⟨_, _, _, h0 | ⟨b, off, rfl, hcell⟩⟩ := hrow
        · omega
        have hck := hcell t hlt
        clear hcell HG
        generalize zs.getD t 0 = z at *
        obtain ⟨z0, z1⟩ := hz
        have RP := hide ((HRW.out.place ((t : Int) + 1)).drew.drew)
        have OP := hide ((HO.out.setCell 1 (.int .i64 ((t : Int) + 1))).drew.drew)
        have i1 : (0 : Int) ≤ (t : Int) := by omega
        have i2 : (t : Int) < (n : Int) := by omega
        clear HRW HO hb'
        go_wp2
        go_region_held3 (fun w' => w'.cell? ⟨g, 0, none⟩ = some (.slice (some ⟨b, off, none⟩) n cap) ∧ w'.cell? ⟨g, 1, none⟩ = some (.int .i64 (t : Int)) ∧ w'.cell? ⟨g, 2, none⟩ = some (.bool false)) (go_keep) (fail)
        go_wp2
        go_region_held3 (fun w' => w'.cell? ⟨g, 0, none⟩ = some (.slice (some ⟨b, off, none⟩) n cap) ∧ w'.cell? ⟨g, 1, none⟩ = some (.int .i64 (t : Int)) ∧ w'.cell? ⟨b, off + t, none⟩ = some (.int .u8 z)) (go_keep) (fail)
        go_upto_region 10 with fail
        generalize (wr.setCell ⟨g, 1, none⟩ (.int .i64 ((t : Int) + 1))).drew.drew = W at RP OP ⊢
        clear c0 c1 c2 cf1 cf2 hck
        obtain ⟨_, _, c2, cf⟩ := RP.out.cell
        have cf2 := cf 2
        have RS := hide RP.out.spoil
        have OS := hide (OP.out.setCell 2 (.bool true))
        clear cf
        obtain ⟨t9, ht9⟩ : ∃ t9, ((j : Int) == 9) = t9 := ⟨_, rfl⟩
        obtain ⟨tz, htz⟩ : ∃ tz, (z == 0) = tz := ⟨_, rfl⟩
        by_cases q1 : j = 9 ∧ 1 < z
        · have hE : Hid (getS zs (k : Int) = none) := by
            show _ = _
            rw [hS.out, HD.out, getA, if_pos q1]
            rfl
          have h9 : t9 = true := by rw [← ht9]; simp; omega
          subst h9
          have q2 := q1.2
          clear q1 htz V1
          go_wp2
          go_ret
          rw [hE.out]
          exact ⟨OS.out, rfl, _, RS.out⟩
        · obtain ⟨X, x1, x2, x3, x4, x5⟩ := or_step j (by omega) V0 V1.out (c := z % 128) (by omega) (by omega) (by omega)
          have e5 : X = V + z % 128 * 2 ^ (7 * j) := by rw [x5, pw_two]
          have em : 0 ≤ z % 128 * 2 ^ (7 * j) := Int.mul_nonneg (by omega) (Int.le_of_lt (Int.pow_pos (by decide)))
          have hw64 : IntKind.u64.wrap (z % 128 * 2 ^ (7 * j)) = X - V := by
            rw [IntKind.wrap_u64]; omega
          clear e5 em
          have hadd : V + (X - V) = X := by omega
          have xv : 0 ≤ X - V := by
            rw [x5]
            have : 0 ≤ z % 128 * 128 ^ j := Int.mul_nonneg (by omega) (by have := pw_pos j; omega)
            omega
          clear x1
          by_cases q2 : 128 ≤ z
          · have HX : Hid (getA 0 0 (zs.drop k) = getA (j + 1) X (zs.drop (t + 1))) := by
              show _ = _
              rw [HD.out, getA, if_neg q1, if_pos q2, x5]
            have HX4 := hide x4
            have h9 : t9 = false := by rw [← ht9]; simp; omega
            have hj8 : j < 9 := by omega
            subst h9
            clear x5 x4 HD V1 htz RS OS
            go_wp2
            refine ⟨⟨j + 1, t + 1, X, by rw [HT.out]; omega, by omega, by omega, by go_num, rfl, x2, HX4, HX, ?_, OP⟩, by simp [intOf]; omega⟩
            show RB W g _ n cap ((t + 1 : Nat) : Int) false
            rw [Int.natCast_add]
            exact RP.out
          · by_cases q3 : z = 0 ∧ 0 < j
            · have hE : Hid (getS zs (k : Int) = none) := by
                show _ = _
                rw [hS.out, HD.out, getA, if_neg q1, if_neg q2, if_pos q3]
                rfl
              have h0 : tz = true := by rw [← htz]; simp; omega
              have q4 := q3.2
              have q5 : z ≤ 1 := by omega
              subst h0
              clear HD V1 q3 x4 x5
              cases t9
              all_goals
                go_wp2
                go_ret
                rw [hE.out]
                exact ⟨OS.out, rfl, _, RS.out⟩
            · have hE : Hid (getS zs (k : Int) = some (X, (t : Int) + 1)) := by
                show _ = _
                rw [hS.out, HD.out, getA, if_neg q1, if_neg q2, if_neg q3, x5]
                simp only [Option.map_some]
                rw [HT.out]
                congr 2
              have h9 : t9 = true → z ≤ 1 := by
                rintro rfl
                simp at ht9
                omega
              have h0 : tz = true → j ≤ 0 := by
                rintro rfl
                simp at htz
                omega
              clear x5 x4 HD V1 q3
              cases t9
              · clear h9
                cases tz
                · clear h0
                  go_wp2
                  go_ret
                  rw [hE.out]
                  exact ⟨OP.out, rfl, RP.out⟩
                · have h1 := h0 rfl
                  clear h0
                  go_wp2
                  go_ret
                  rw [hE.out]
                  exact ⟨OP.out, rfl, RP.out⟩
              · have q9 := h9 rfl
                clear h9
                cases tz
                · clear h0
                  go_wp2
                  go_ret
                  rw [hE.out]
                  exact ⟨OP.out, rfl, RP.out⟩
                · have h1 := h0 rfl
                  simp at ht9
                  omega
      · have : t = n := by omega
        subst this
        have hE : Hid (getS zs (k : Int) = none) := by
          show _ = _
          rw [hS.out, HG.out, List.drop_eq_nil_of_le (by rw [HLN.out]; omega)]
          rfl
        have RS := hide HRW.out.drew.spoil
        have OS := hide (HO.out.drew.setCell 2 (.bool true))
        have i1 : (0 : Int) ≤ (t : Int) := by omega
        clear hb' HG V1
        go_wp2
        go_region_held3 (fun w' => w'.cell? ⟨g, 0, none⟩ = some (.slice a t cap) ∧ w'.cell? ⟨g, 1, none⟩ = some (.int .i64 (t : Int)) ∧ w'.cell? ⟨g, 2, none⟩ = some (.bool false)) (go_keep) (fail)
        go_wp2
        go_ret
        rw [hE.out]
        exact ⟨OS.out, rfl, _, RS.out⟩
  · have hE : Hid (getS zs p = none) := by
      show _ = _
      unfold getS
      rw [hl, if_neg h0]
    have RS := hide hrb.drew.spoil
    have OS := hide ((Only.refl g w).drew.setCell 2 (.bool true))
    obtain ⟨c0, c1, c2, cf⟩ := hrb.cell
    have cf2 := cf 2
    have h1 : p < 0 ∨ (n : Int) ≤ p := by omega
    clear h0 hr hl hb hrb cf
    rcases h1 with h1 | h1
    · go_enter Tryz.func41, Tryz.ntmps41
      go_wp2
      refine wp_loop_rounds 1 ?_
      rw [rounds_succ]
      go_wp2
      go_region
      go_wp2
      go_ret
      rw [hE.out]
      exact ⟨OS.out, rfl, _, RS.out⟩
    · obtain ⟨k, rfl⟩ := Int.eq_ofNat_of_zero_le (show 0 ≤ p by omega)
      have h2 : n ≤ k := by omega
      go_enter Tryz.func41, Tryz.ntmps41
      go_wp2
      refine wp_loop_rounds 1 ?_
      rw [rounds_succ]
      go_wp2
      go_region_held3 (fun w' => w'.cell? ⟨g, 0, none⟩ = some (.slice a n cap) ∧ w'.cell? ⟨g, 1, none⟩ = some (.int .i64 (k : Int)) ∧ w'.cell? ⟨g, 2, none⟩ = some (.bool false)) (go_keep) (fail)
      go_wp2
      go_ret
      rw [hE.out]
      exact ⟨OS.out, rfl, _, RS.out⟩
section
variable {P : Program} {ops : Array Oper} {Q : Exit → Act → World → Prop} {md : Region.Mode} {S : World → Prop}
/-- As held_call, the condition kept as it is. -/
theorem held_step {i : Nat} {o : Oper} {fuel : Nat} {listed : Array Bool} {a : Act} {w : World} (hr : Region.ready md ops listed = [i]) (ho : ops[i]? = some o) (hw : Region.wanted o (yielded ops a.tmps) = true)
    (h : ∀ K' : Act → World → Prop, Shut (∀ a w, S w → (S w → wpAnyH P md ops Q S fuel (listed.setIfInBounds i true) a w) → K' a w) → Oper.wp P o a w K' Q) : wpAnyH P md ops Q S (fuel + 1) listed a w := by
  refine wpAnyH_all hr (by simp) ?_
  intro j hj
  have : j = i := by simpa using hj
  subst this
  unfold wpOp
  simp only [ho]
  rw [if_pos hw]
  refine Or.inl (h _ ?_)
  intro a' w' hS h'
  exact ⟨hS, h' hS⟩
end

set_option maxRecDepth 100000 in
set_option maxHeartbeats 2000000 in
theorem refrise_any (b : Option Addr) (m capb : Nat) (ls : List Int) (w : World) (hm : m ≤ 1048576) (hl : Row .u64 w b m ls) :
    Calls Tryz.prog 131 #[.slice b m capb] w fun e w' => ∃ a' cap', e = .returned (.slice a' (putR ls).length cap') ∧ Mine w' w.heap.size a' (putR ls).length cap' (putR ls) ∧ Below w.heap.size w w' := by
  obtain ⟨i0, hi, hz0, hz1, hz2⟩ := info_parts Tryz.info5
  have B := hide (refput_any (m : Int) w (w64_len (by omega)))
  have HLen := hide hl.1
  have HR := hide hl
  have hp := (putS_len (m : Int)).2
  have hP : Hid (putR ls = putS (m : Int) ++ riseB 18446744073709551615 (ls.drop 0)) := by
    show _ = _
    unfold putR
    rw [hl.1, List.drop_zero]
  clear hl
  go_enter Tryz.func131, Tryz.ntmps131
  go_wp2_with fail
  refine B.out.mono ?_
  rintro e w2 ⟨a2, cap2, rfl, h1, h2⟩
  have H1 := hide h1
  have H2 := hide h2
  clear h1 h2 B
  generalize (putS (m : Int)).length = q at *
  go_wp2
  go_loopw [3, 4] (fun x i wr => ∃ (ar : Option Addr) (nr capr k : Nat) (acc : List Int) (P : Int), k ≤ m ∧ x = .slice ar nr capr ∧ i = .int .i64 k ∧ nr ≤ 10 + 10 * k ∧ Hid ((k = 0 → P = 18446744073709551615) ∧ (0 < k → P = ls.getD (k - 1) 0) ∧ putR ls = acc ++ riseB P (ls.drop k)) ∧ Hid (Mine wr w.heap.size ar nr capr acc) ∧ Hid (Below w.heap.size w wr)) (fun _ i _ => m - (intOf i).toNat)
  case atStart => exact ⟨a2, q, cap2, 0, _, 18446744073709551615, by omega, rfl, rfl, by omega, ⟨fun _ => rfl, fun h => absurd h (by omega), hP.out⟩, H1, H2⟩
  case round =>
    obtain ⟨ar, nr, capr, k, acc, P, hk, rfl, rfl, hnr, HP, HO, HW⟩ := hrel
    clear H1 H2 hP
    by_cases hlt : k < m
    · have hrow := HR.out.below HW.out (Nat.le_refl _)
      have HWd := hide hrow.words
      have hb := hrow.word k
      have HD := hide (drop_step (ls := ls) (k := k) (by rw [HLen.out]; exact hlt))
      obtain ⟨_, _, _, h0 | ⟨bb, off, rfl, hcell⟩⟩ := hrow
      · omega
      have hck := hcell k hlt
      have hsz : w.heap.size ≤ wr.heap.size := HW.out.size
      obtain ⟨z0, z1⟩ := hb
      have HE : Hid (putR ls = (acc ++ putS ((ls.getD k 0 - P - 1) % 18446744073709551616)) ++ riseB (ls.getD k 0) (ls.drop (k + 1))) := by
        show _ = _
        rw [HP.out.2.2, HD.out, riseB, List.append_assoc]
      obtain ⟨z, hz⟩ : ∃ z, ls.getD k 0 = z := ⟨_, rfl⟩
      rw [hz] at z0 z1 hck HE
      have HZ := hide hz
      clear hz HD
      cases k with
      | zero =>
        have hP0 : P = 18446744073709551615 := HP.out.1 rfl
        have hmod : (z - P - 1) % 18446744073709551616 = z := by omega
        rw [hmod] at HE
        have C := hide (refput_any z wr ⟨z0, z1⟩)
        clear HP hcell hP0 hmod
        have hq := putS_len z
        have BZ : Hid (Bytes8 (putS z)) := putS_byte ⟨z0, z1⟩
        have i1 : (0 : Int) < (m : Int) := by omega
        rw [Nat.add_zero] at hck
        go_wp2_with fail
        refine C.out.mono ?_
        rintro e x ⟨a', cap', rfl, h1, h2⟩
        have RX := hide (h1.row (by omega) (fun z hz => wf_of_u8 (BZ.out z hz).1 (BZ.out z hz).2))
        have hcx := h1.capped.2
        have OX := hide (HO.out.below h2 (Nat.le_refl _))
        have hbx : w.heap.size ≤ x.heap.size := Nat.le_trans hsz h2.size
        have KX : Hid (Below w.heap.size w x) := bel_to HW.out (Nat.le_refl _) h2
        clear h1 h2 C hck HO HW
        generalize (putS z).length = r at *
        go_wp2_with (at_builtin; refine wpList_append_row _ rfl _ _ 40 rfl w.heap.size 5 i0 Tryz.underlying40 hi hz0 hz1 hz2 ar nr capr _ rfl OX.out a' r cap' _ rfl RX.out hcx (by omega) hbx ?_)
        intro a3 c3 x3 o3 k3
        have H3 := hide o3
        have K3 : Hid (Below w.heap.size w x3) := KX.out.trans k3
        clear o3 k3 KX RX OX
        go_wp2
        go_roundw
        case rel => exact ⟨a3, nr + r, c3, 1, _, z, by omega, rfl, by go_num, by omega, ⟨fun h => absurd h (by omega), fun _ => HZ.out.symm, HE.out⟩, H3, K3⟩
        case measure => simp [intOf]; omega
      | succ j =>
        have hPj : P = ls.getD j 0 := HP.out.2.1 (by omega)
        have hpw : W64 P := by rw [hPj]; exact getD_all HWd.out ⟨by decide, by decide⟩ j
        have P0 := hpw.1
        have P1 := hpw.2
        have hcj := hcell j (by omega)
        rw [← hPj] at hcj
        have hmod : IntKind.u64.wrap (IntKind.u64.wrap (z - P) - 1) = (z - P - 1) % 18446744073709551616 := by
          rw [IntKind.wrap_u64, IntKind.wrap_u64]; omega
        have hDw := w64_mod (z - P - 1)
        generalize (z - P - 1) % 18446744073709551616 = D at *
        have C := hide (refput_any D wr.drew hDw)
        have hq := putS_len D
        have BZ : Hid (Bytes8 (putS D)) := putS_byte hDw
        have tk : ((j : Int) + 1 == 0) = false := by simp; omega
        have j1 : (0 : Int) ≤ (j : Int) := by omega
        have j5 : (j : Int) < (m : Int) := by omega
        have j6 : (j : Int) + 1 < (m : Int) := by omega
        have j7 : (0 : Int) ≤ (j : Int) + 1 := by omega
        have hlb : Hid (bb < wr.heap.size) := World.block_lt_of_cell? wr _ hck
        have hbw0 : Hid (bb < w.heap.size) := by
          obtain ⟨_, _, _, h0 | ⟨b2, o2, he, hc2⟩⟩ := HR.out
          · omega
          · simp only [Option.some.injEq, Addr.mk.injEq] at he
            have := World.block_lt_of_cell? w _ (hc2 j (by omega))
            rw [← he.1] at this
            exact this
        have hw1 : IntKind.i64.wrap ((j : Int) + 1 - 1) = (j : Int) := by rw [IntKind.wrap_i64]; omega
        have hw2 : IntKind.i64.wrap (j : Int) = (j : Int) := by rw [IntKind.wrap_i64]; omega
        have hn1 : ((j : Int) + 1).toNat = j + 1 := by omega
        clear HP hcell hPj hpw hDw
        go_upto_region 7 with fail
        refine wp_region_held_drew (S := fun w' => w'.cell? ⟨bb, off + j, none⟩ = some (.int .u64 P) ∧ w'.cell? ⟨bb, off + (j + 1), none⟩ = some (.int .u64 z)) (by kernel_rfl) ⟨hcj, hck⟩ (fun hHeld => ?_)
        refine held_tk 0 (some 23) rfl rfl ?_
        refine held_tk 1 (some 24) rfl rfl ?_
        refine held_tk 2 (some 25) rfl rfl ?_
        refine held_tk 3 (some 26) rfl rfl ?_
        refine held_tk 4 (some 27) rfl rfl ?_
        refine held_tk 5 (some 28) rfl rfl ?_
        refine held_tk 6 (some 29) rfl rfl ?_
        refine held_tk 7 (some 30) rfl rfl ?_
        refine held_tk 8 (some 31) rfl rfl ?_
        refine held_tk 9 (some 32) rfl rfl ?_
        refine held_tk 10 (some 33) rfl rfl ?_
        refine held_tk 11 (some 34) rfl rfl ?_
        refine held_step (i := 12) (by kernel_rfl) rfl (by rfl) (fun K hK => ?_)
        go_simp
        refine C.out.mono ?_
        rintro e x ⟨a', cap', rfl, h1, h2⟩
        have RX := hide (h1.row (by omega) (fun z hz => wf_of_u8 (BZ.out z hz).1 (BZ.out z hz).2))
        have HH1 := hide h1
        have hS1 : Hid (x.cell? ⟨bb, off + j, none⟩ = some (.int .u64 P) ∧ x.cell? ⟨bb, off + (j + 1), none⟩ = some (.int .u64 z)) := by
          constructor
          · rw [h2.cell (p := ⟨bb, off + j, none⟩) hlb.out]; exact hcj
          · rw [h2.cell (p := ⟨bb, off + (j + 1), none⟩) hlb.out]; exact hck
        have OX := hide (HO.out.drew.below h2 (Nat.le_refl _))
        have hbx : w.heap.size ≤ x.heap.size := Nat.le_trans hsz h2.size
        have hlx : Hid (bb < x.heap.size) := Nat.lt_of_lt_of_le hlb.out h2.size
        have KX : Hid (Below w.heap.size w x) := bel_to HW.out.drew (Nat.le_refl _) h2
        clear h1 h2 C HO HW hHeld
        go_wp2_with fail
        refine hK.out _ _ hS1.out (fun hHeld => ?_)
        clear hK K hcj hck
        refine held_step (i := 13) (by kernel_rfl) rfl (by rfl) (fun K hK => ?_)
        obtain ⟨ad, rfl⟩ : ∃ ad, a' = some ad := by
          cases a' with
          | none => have := RX.out.nz rfl; omega
          | some ad => exact ⟨ad, rfl⟩
        refine wp_append_own x (Operand.tmp 23) (Operand.tmp 35) 40 rfl w.heap.size 5 i0 (.int .u8 0) 1 1 Tryz.underlying40 hi hz0 hz1 hz2 rfl (by decide) _ nr (acc.map (Value.int .u8)) rfl OX.out ad (putS D).length cap' ((putS D).map (Value.int .u8)) rfl (by simp) RX.out.cells (one_cell .u8 (putS D)) (by unfold maxLen; omega) (by omega) hbx ?_
        intro v' x3 h1 h2 _
        rw [← List.map_append] at h1
        obtain ⟨a3, c3, rfl, o3⟩ := own_form h1
        have k3 : Below w.heap.size x x3 := (Below.refl _ _).grown h2 hbx (own_block OX.out)
        have hS3 : Hid (x3.cell? ⟨bb, off + j, none⟩ = some (.int .u64 P) ∧ x3.cell? ⟨bb, off + (j + 1), none⟩ = some (.int .u64 z)) := by
          have hbw : bb < w.heap.size := hbw0.out
          constructor
          · rw [k3.cell (p := ⟨bb, off + j, none⟩) hbw]; exact hS1.out.1
          · rw [k3.cell (p := ⟨bb, off + (j + 1), none⟩) hbw]; exact hS1.out.2
        have H3 := hide o3
        have K3 : Hid (Below w.heap.size w x3) := KX.out.trans k3
        clear h1 h2 o3 k3 KX RX OX HH1 hHeld
        refine hK.out _ _ hS3.out (fun hHeld => ?_)
        clear hK K
        generalize hr : (putS D).length = r at *
        simp only [Act.put, List.setIfInBounds_toArray]
        refine held_take (i := 14) (d := (some 3)) (v := ?_) rfl rfl (by kernel_rfl) (by kernel_rfl) (by kernel_rfl) (fun _ _ _ h => h) (Or.inl ⟨by rfl, ?_⟩) (by first | assumption | rfl) ?_
        rotate_left 1
        · (intro w hSw; (try dsimp only at hSw); (try subst hSw); go_simp; try with_reducible rfl)
        simp only [Act.put]
        refine wpAnyH_done (by kernel_rfl) ?_ _
        clear hHeld
        go_wp2
        go_roundw
        case rel => exact ⟨a3, nr + r, c3, j + 1 + 1, _, z, by omega, rfl, by go_num, by omega, ⟨fun h => absurd h (by omega), fun _ => HZ.out.symm, HE.out⟩, H3, K3⟩
        case measure => simp [intOf]; omega
    · have : k = m := by omega
      subst this
      have HF : Hid (acc = putR ls ∧ nr = (putR ls).length) := by
        have h1 := HP.out.2.2
        rw [List.drop_eq_nil_of_le (by rw [HLen.out]; omega), riseB, List.append_nil] at h1
        exact ⟨h1.symm, by rw [← HO.out.len, ← h1]⟩
      clear HP
      go_wp2
      go_ret
      obtain ⟨h1, h2⟩ := HF.out
      have HO' := HO.out
      rw [h1, h2] at HO'
      refine ⟨ar, capr, ?_, HO', HW⟩
      show Ending.returned (.slice ar nr capr) = _
      rw [h2]
theorem isb_in (k : Int) (w : World) (h0 : 0 ≤ k) (h1 : k ≤ 7423) :
    Calls Tryz.prog 290 #[.int .i64 k] w fun e w' => e = .returned (.bool true) ∧ w' = w := by
  have HD : Hid (decide (k < 7424) = true) := decide_eq_true (by omega)
  go_enter Tryz.func290, Tryz.ntmps290
  go_wp2
  go_ret
  exact ⟨congrArg (fun b => Ending.returned (.bool b)) HD.out, rfl⟩
theorem isb_out (k : Int) (w : World) (hk : k < 0 ∨ 7424 ≤ k) :
    Calls Tryz.prog 290 #[.int .i64 k] w fun e w' => e = .returned (.bool false) ∧ w' = w := by
  by_cases h : k < 0
  · go_enter Tryz.func290, Tryz.ntmps290
    go_wp2
    go_ret
    exact ⟨rfl, rfl⟩
  · have HD : Hid (decide (k < 7424) = false) := decide_eq_false (by omega)
    go_enter Tryz.func290, Tryz.ntmps290
    go_wp2
    go_ret
    exact ⟨congrArg (fun b => Ending.returned (.bool b)) HD.out, rfl⟩
set_option maxHeartbeats 4000000 in
theorem check_any (a : Option Addr) (n cap : Nat) (l : Bks) (w : World) (hr : RowB w a n l) :
    Calls Tryz.prog 249 #[.slice a n cap] w fun e w' => e = .returned (.bool (checkS l)) ∧ Below w.heap.size w w' := by
  have HR := hide hr
  have HL := hide hr.1
  have hn := hr.2.1
  clear hr
  go_enter Tryz.func249, Tryz.ntmps249
  go_wp2
  go_loopw [3, 8] (fun p i wr => ∃ k : Nat, k ≤ n ∧ i = .int .i64 k ∧ p = .int .i64 (lastD (-1) (l.take k)) ∧ Hid (checkF (-1) (l.take k) = true) ∧ Hid (Below w.heap.size w wr)) (fun _ i _ => n - (intOf i).toNat)
  case atStart => exact ⟨0, by omega, rfl, rfl, rfl, Below.refl _ _⟩
  case round =>
    obtain ⟨k, hk, rfl, rfl, HT, HW⟩ := hrel
    by_cases hlt : k < n
    · obtain ⟨b, off, rfl, hcc⟩ := HR.out.at' hlt
      obtain ⟨f0, f1⟩ := hcc wr HW.out
      have HFit := hide (getD_fit HR.out.2.2.1 k)
      have i1 : (0 : Int) ≤ (k : Int) := by omega
      have i2 : (k : Int) < (n : Int) := by omega
      have HC2 : Hid (∀ (x y : Int), l.getD k (0, 0) = (x, y) → checkF (-1) (l.take (k + 1)) = decide (lastD (-1) (l.take k) < x ∧ x ≤ 7423 ∧ 0 < y) ∧ lastD (-1) (l.take (k + 1)) = x) := by
        intro x y hxy
        rw [take_bks (l := l) (k := k) (by rw [HL.out]; exact hlt), hxy, checkF_snoc, HT.out, Bool.true_and, lastD_snoc]
        exact ⟨rfl, rfl⟩
      have hge := (checkF_lastD HT.out).1
      have HD : Hid (checkF (-1) (l.take (k + 1)) = false → checkS l = false) := fun h => checkF_prefix (k + 1) h
      clear hcc
      generalize l.getD k (0, 0) = x at *
      obtain ⟨x, y⟩ := x
      simp only at f0 f1
      have hw := u64_of_wf HFit.out.2
      have y0 := hw.1
      simp only at y0
      have HCK := hide (HC2.out x y rfl).1
      have HLA := hide (HC2.out x y rfl).2
      clear HC2 hw HFit
      generalize lastD (-1) (l.take k) = L at *
      clear HT
      by_cases c1 : x < 0 ∨ 7424 ≤ x
      · have I2 := hide (fun w => isb_out x w c1)
        have HF : Hid (checkS l = false) := HD.out (by rw [HCK.out]; simp only [decide_eq_false_iff_not]; omega)
        clear HCK HD c1
        go_wp2_with fail
        refine (I2.out _).mono ?_
        rintro e w' ⟨rfl, rfl⟩
        go_wp2
        go_ret
        rw [HF.out]
        refine ⟨rfl, ?_⟩
        exact bel_al HW.out (Nat.le_refl _) _
      have I1 := hide (fun w => isb_in x w (by omega) (by omega))
      by_cases c2 : x ≤ L
      · have HF : Hid (checkS l = false) := HD.out (by rw [HCK.out]; simp only [decide_eq_false_iff_not]; omega)
        clear HCK HD
        go_wp2_with fail
        refine (I1.out _).mono ?_
        rintro e w' ⟨rfl, rfl⟩
        go_wp2
        go_ret
        rw [HF.out]
        refine ⟨rfl, ?_⟩
        exact bel_al HW.out (Nat.le_refl _) _
      by_cases c3 : y = 0
      · have d3 : (y == 0) = true := by simpa using c3
        have HF : Hid (checkS l = false) := HD.out (by rw [HCK.out]; simp only [decide_eq_false_iff_not]; omega)
        clear HCK HD c3
        go_wp2_with fail
        refine (I1.out _).mono ?_
        rintro e w' ⟨rfl, rfl⟩
        go_wp2
        go_ret
        rw [HF.out]
        refine ⟨rfl, ?_⟩
        exact bel_al HW.out (Nat.le_refl _) _
      have d3 : (y == 0) = false := by simpa using c3
      have HF : Hid (checkF (-1) (l.take (k + 1)) = true) := by
        show _ = _
        rw [HCK.out]; simp only [decide_eq_true_eq]; omega
      clear HCK HD
      go_wp2_with fail
      refine (I1.out _).mono ?_
      rintro e w' ⟨rfl, rfl⟩
      go_wp2
      go_roundw
      case rel => exact ⟨k + 1, by omega, by go_num, by rw [HLA.out], HF, bel_al HW.out (Nat.le_refl _) _⟩
      case measure => simp [intOf]; omega
    · have : k = n := by omega
      subst this
      have HE : Hid (checkS l = true) := by
        have := HT.out
        rw [List.take_of_length_le (by rw [HL.out]; omega)] at this
        exact this
      go_wp2
      go_ret
      rw [HE.out]
      exact ⟨rfl, HW.out⟩
set_option maxHeartbeats 1000000 in
theorem grow_any (n : Nat) (w : World) (h0 : 0 < n) (hn : n ≤ 281474976710656) :
    Calls Tryz.prog 122 #[.slice none 0 0, .int .i64 n] w fun e w' => ∃ cap', e = .returned (.slice (some ⟨w.heap.size, 0, none⟩) 0 cap') ∧ n ≤ cap' ∧ Mine w' w.heap.size (some ⟨w.heap.size, 0, none⟩) 0 cap' [] ∧ Below w.heap.size w w' := by
  obtain ⟨i0, hi, hz0, hz1, hz2⟩ := info_parts Tryz.info5
  have hr := Lib.run_append_nil_zeros (P := Tryz.prog) w 40 3 40 5 i0 (.int .u8 0) .i64 .i64 Tryz.underlying40 Tryz.underlying3 hi hz0 n h0 (by omega) (by omega) (by rw [hz2]; omega)
  have hge := grownCap_ge w n 0 5
  have hcm : grownCap w n 0 5 ≤ maxLen := grownCap_le_maxLen w n 0 5 (by unfold maxLen; omega)
  have HO : Hid (Mine (w.drew.alloc (.cells (Builtin.zeroCells (Value.int IntKind.u8 0).cells n ++ Builtin.zeroCells (Value.int IntKind.u8 0).cells (grownCap w n 0 5 - n)) 5)) w.heap.size (some ⟨w.heap.size, 0, none⟩) 0 (grownCap w n 0 5) []) := by
    refine ⟨rfl, .inr ⟨w.heap.size, _, _, rfl, Nat.le_refl _, heap_alloc_new w.drew _, Nat.zero_le _, hcm, ?_, rfl⟩⟩
    simp only [Array.size_append, size_zeroCells, Value.cells]
    simp
    omega
  have HB : Hid (Below w.heap.size w (w.drew.alloc (.cells (Builtin.zeroCells (Value.int IntKind.u8 0).cells n ++ Builtin.zeroCells (Value.int IntKind.u8 0).cells (grownCap w n 0 5 - n)) 5))) :=
    (Below.refl w.heap.size w).drew.alloc (Nat.le_refl _) _
  have HR := hide hr
  clear hr
  generalize w.drew.alloc (.cells (Builtin.zeroCells (Value.int IntKind.u8 0).cells n ++ Builtin.zeroCells (Value.int IntKind.u8 0).cells (grownCap w n 0 5 - n)) 5) = w' at *
  generalize grownCap w n 0 5 = c at *
  have f1 := slice_to none 0 0 0 (by omega)
  have f2 := slice_to (some ⟨w.heap.size, 0, none⟩) n c 0 (by omega)
  have h0' : (0 : Int) < n := by omega
  go_enter Tryz.func122, Tryz.ntmps122
  go_wp2_with (at_builtin; refine Lib.wpList_append_run _ rfl _ _ _ _ rfl _ _ rfl rfl _ _ HR.out ?_)
  go_wp2
  go_ret
  exact ⟨c, rfl, hge, HO, HB⟩

/-- What is put one behind the other, of so many slices. -/
abbrev Sl : Type := Option Addr × Nat × Nat × List Int
def nth (L : List Sl) (k : Nat) : Sl := L.getD k (none, 0, 0, [])
def parts (L : List Sl) (k : Nat) : List Int := (L.take k).flatMap (·.2.2.2)
theorem parts_succ {L : List Sl} {k : Nat} (h : k < L.length) : parts L (k + 1) = parts L k ++ (nth L k).2.2.2 := by
  unfold parts nth
  rw [List.take_succ_eq_append_getElem h, List.flatMap_append, List.getD_eq_getElem?_getD, List.getElem?_eq_getElem h]
  simp
theorem parts_len {L : List Sl} {k : Nat} : (parts L k).length ≤ (parts L L.length).length := by
  unfold parts
  have h : L.take L.length = L.take k ++ L.drop k := by rw [List.take_append_drop, List.take_length]
  rw [h, List.flatMap_append, List.length_append]
  omega

set_option maxHeartbeats 2000000 in
set_option maxRecDepth 100000 in
theorem concat_any (b0 : Nat) (L : List Sl) (w : World) (hL : L.length ≤ 1000)
    (hc : ∀ i, i < L.length → w.cell? ⟨b0, i, none⟩ = some (.slice (nth L i).1 (nth L i).2.1 (nth L i).2.2.1)) (hr : ∀ i, i < L.length → Row .u8 w (nth L i).1 (nth L i).2.1 (nth L i).2.2.2)
    (h0 : 0 < (parts L L.length).length) (hn : (parts L L.length).length ≤ 281474976710656) :
    Calls Tryz.prog 50 #[.slice (some ⟨b0, 0, none⟩) L.length L.length] w fun e w' => ∃ a' cap', e = .returned (.slice a' (parts L L.length).length cap') ∧ Mine w' w.heap.size a' (parts L L.length).length cap' (parts L L.length) ∧ Below w.heap.size w w' := by
  obtain ⟨i0, hi, hz0, hz1, hz2⟩ := info_parts Tryz.info5
  have HC := hide hc
  have HR := hide hr
  have HL := hide (fun k => parts_len (L := L) (k := k))
  have HP := hide (fun k h => parts_succ (L := L) (k := k) h)
  clear hc hr
  generalize L.length = N at *
  obtain ⟨T, hT⟩ : ∃ T, (parts L N).length = T := ⟨_, rfl⟩
  have HT := hide hT
  rw [hT] at h0 hn
  simp only [hT] at HL
  rw [hT]
  clear hT
  go_enter Tryz.func50, Tryz.ntmps50
  go_wp2
  go_loop [3, 11] (fun s i => ∃ (k m : Nat), k ≤ N ∧ i = .int .i64 k ∧ s = .int .i64 m ∧ m ≤ 281474976710656 ∧ Hid ((parts L k).length = m)) (fun _ i => N - (intOf i).toNat)
  case atStart => exact ⟨0, 0, by omega, rfl, rfl, by omega, rfl⟩
  case round =>
    obtain ⟨k, m, hk, rfl, rfl, hm, HM⟩ := hrel
    by_cases hlt : k < N
    · have hck := HC.out k hlt
      have e1 := HP.out k hlt
      have e2 := HL.out (k + 1)
      have e3 : (parts L (k + 1)).length = m + (nth L k).2.1 := by rw [e1, List.length_append, HM.out, (HR.out k hlt).1]
      have E3 := hide e3
      rw [e3] at e2
      clear e1 e3
      generalize nth L k = x at *
      obtain ⟨a1, n1, c1, z1⟩ := x
      simp only at hck e2 E3
      have hpos : ¬ ((m : Int) + n1 < 0) := by omega
      go_wp2
      exact ⟨⟨k + 1, m + n1, by omega, by go_num, rfl, by omega, E3⟩, by simp [intOf]; omega⟩
    · have : k = N := by omega
      subst this
      have hm2 : m = T := by rw [← HM.out, HT.out]
      subst hm2
      have G := hide (grow_any m w h0 hn)
      go_wp2_with fail
      refine G.out.mono ?_
      rintro e w1 ⟨cap, rfl, hcap, o1, k1⟩
      have O1 := hide o1
      have K1 := hide k1
      clear o1 k1 G
      have HB : Hid (∀ wr, Below w.heap.size w wr → w.heap.size ≤ wr.heap.size) := fun wr h => h.size
      have HRB : Hid (∀ wr, Below w.heap.size w wr → ∀ i, i < k → Row .u8 wr (nth L i).1 (nth L i).2.1 (nth L i).2.2.2) := fun wr h i hi => (HR.out i hi).below h (Nat.le_refl _)
      have HCB : Hid (∀ wr, Below w.heap.size w wr → ∀ i, i < k → wr.cell? ⟨b0, i, none⟩ = some (.slice (nth L i).1 (nth L i).2.1 (nth L i).2.2.1)) := fun wr h i hi => (h.cell (World.block_lt_of_cell? w _ (HC.out i hi))).trans (HC.out i hi)
      clear HR HC
      generalize hB0 : w.heap.size = B at *
      have HB0 := hide hB0
      clear hB0
      go_wp2
      go_loopw [6, 27] (fun s i wr => ∃ (j r : Nat), j ≤ k ∧ i = .int .i64 j ∧ s = .slice (some ⟨B, 0, none⟩) r cap ∧ r ≤ m ∧ Hid ((parts L j).length = r) ∧ Hid (Mine wr B (some ⟨B, 0, none⟩) r cap (parts L j)) ∧ Hid (Below B w wr)) (fun _ i _ => k - (intOf i).toNat)
      case atStart => exact ⟨0, 0, by omega, rfl, rfl, by omega, rfl, O1, K1⟩
      case round =>
        clear O1 K1
        obtain ⟨j, r, hj, rfl, rfl, hr, HJ, HO, HW⟩ := hrel
        by_cases hlt2 : j < k
        · have hck := HCB.out wr HW.out j hlt2
          have HX := hide (HRB.out wr HW.out j hlt2)
          have e1 := HP.out j hlt2
          have e2 := HL.out (j + 1)
          have hlen : (nth L j).2.2.2.length = (nth L j).2.1 := HX.out.1
          have e3 : (parts L (j + 1)).length = r + (nth L j).2.1 := by rw [e1, List.length_append, HJ.out, hlen]
          have E1 := hide e1
          have E3 := hide e3
          rw [e3] at e2
          clear e1 e3
          generalize nth L j = x at *
          obtain ⟨a1, n1, c1, z1⟩ := x
          simp only at hck e2 E3 E1 HX hlen
          have hB := HB.out wr HW.out
          cases a1 with
          | none =>
            have hn1 := HX.out.nz rfl
            subst hn1
            have hz1 : z1 = [] := List.length_eq_zero_iff.1 hlen
            subst hz1
            have HE : Hid (parts L (j + 1) = parts L j) := by show _ = _; rw [E1.out, List.append_nil]
            go_wp2
            go_roundw
            case rel => exact ⟨j + 1, r, by omega, by go_num, rfl, by omega, E3, by rw [HE.out]; exact HO, HW⟩
            case measure => simp [intOf]; omega
          | some ad =>
            go_wp2_with (at_builtin; refine wpList_append_fits _ rfl _ _ 40 rfl B 5 i0 1 Tryz.underlying40 hi hz1 B r cap _ rfl HO.out ad n1 c1 (z1.map (Value.int .u8)) rfl (by simp [hlen]) HX.out.cells (one_cell .u8 z1) (by omega) ?_)
            intro w' h1 h2
            rw [← List.map_append, ← E1.out] at h1
            have H1 : Hid (Mine w' B (some ⟨B, 0, none⟩) (r + n1) cap (parts L (j + 1))) := h1
            have H2 : Hid (Below B w w') := HW.out.grown h2 hB (by intro k hk; simp at hk; omega)
            clear h1 h2 HX HO HW hck
            go_wp2
            go_roundw
            case rel => exact ⟨j + 1, r + n1, by omega, by go_num, rfl, by omega, E3, H1, H2⟩
            case measure => simp [intOf]; omega
        · have : j = k := by omega
          subst this
          have hr2 : r = m := by rw [← HJ.out, HM.out]
          subst hr2
          go_wp2
          go_ret
          refine ⟨_, _, rfl, ?_, ?_⟩
          · rw [HB0.out]; exact HO
          · rw [HB0.out]; exact HW
/-- Two rows of bytes, one behind the other, in new memory. -/
theorem concat_two (a : Option Addr) (n cap : Nat) (zs : List Int) (a1 : Option Addr) (m c1 : Nat) (Z : List Int) (W : World) (h1 : Row .u8 W a n zs) (h2 : Row .u8 W a1 m Z) (h0 : 0 < m) (hn : n + m ≤ 281474976710656) :
    Calls Tryz.prog 50 #[.slice (some ⟨W.heap.size, 0, none⟩) 2 2] (W.alloc (.cells #[.slice a n cap, .slice a1 m c1] 40)) fun e w' => ∃ a' cap', e = .returned (.slice a' (n + m) cap') ∧ Mine w' W.heap.size a' (n + m) cap' (zs ++ Z) ∧ Below W.heap.size W w' := by
  have hp : parts [(a, n, cap, zs), (a1, m, c1, Z)] 2 = zs ++ Z := by simp [parts]
  have hl : (zs ++ Z).length = n + m := by rw [List.length_append, h1.1, h2.1]
  have C := concat_any W.heap.size [(a, n, cap, zs), (a1, m, c1, Z)] (W.alloc (.cells #[.slice a n cap, .slice a1 m c1] 40)) (by simp)
    (by
      intro i hi
      rw [World.cell?_alloc_mark]
      match i, hi with
      | 0, _ => rfl
      | 1, _ => rfl)
    (by
      intro i hi
      match i, hi with
      | 0, _ => exact h1.alloc _
      | 1, _ => exact h2.alloc _)
    (by
      show 0 < (parts [(a, n, cap, zs), (a1, m, c1, Z)] 2).length
      rw [hp, hl]; omega)
    (by
      show (parts [(a, n, cap, zs), (a1, m, c1, Z)] 2).length ≤ _
      rw [hp, hl]; exact hn)
  refine C.mono ?_
  rintro e w' ⟨a', c', rfl, o, b⟩
  have o' : Mine w' (W.alloc (.cells #[.slice a n cap, .slice a1 m c1] 40)).heap.size a' (parts [(a, n, cap, zs), (a1, m, c1, Z)] 2).length c' (parts [(a, n, cap, zs), (a1, m, c1, Z)] 2) := o
  rw [hp, hl] at o'
  refine ⟨a', c', ?_, o'.mono (by simp), (bel_al (Below.refl _ _) (Nat.le_refl _) _).trans (b.mono (by simp))⟩
  show Ending.returned (.slice a' (parts [(a, n, cap, zs), (a1, m, c1, Z)] 2).length c') = _
  rw [hp, hl]
end Go.Proofs.YtknghoecjobkiaaGreatDoor
