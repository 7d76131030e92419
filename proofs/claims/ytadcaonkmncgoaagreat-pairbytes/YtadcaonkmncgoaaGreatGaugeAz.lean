/-
  Gauges in plain words: what may be one, two put together, one float more; the laws of turning and grouping, of ends, of many one by one. A gauge in memory of the call's own: its four cells, what leaves them be, what writes them; a gauge as a value. What the document's own answers of gauges come to: may it be one, two put together, one float more: contracts, for every world; what was there before stays. What the laws ask of the program's own Check, Merge, Add (contracts, for every world; what was there before stays), and the laws' awake over them. The law 'to merge may be turned round and grouped', over what the laws ask of the program's own Merge and Add. What the program's own functions on gauges come to: is it a number, the lesser and the greater of two floats, may it be a gauge, two gauges put together, one float more: contracts, for every world; what was there before stays.
  Conditions: the four numbers of a gauge are words; where a law speaks of gauges put together, they may be ones ('chkG'); the block is there; the gauge's four numbers, and the float, are words; the gauges may be ones ('chkG'), the numbers are words; as GaM and GaA say; the gauges' numbers and the floats are words; Merge and Add: the gauges may be ones ('chkG').
-/
import Derived.Test.YtadcaonkmncgoaaGreatWideZ
import Derived.Test.YtadcaonkmncgoaaGreatFloZ
import Derived.Lib.SmallJoins
import Derived.WalkKit
import Derived.WalkSpells
import Derived.RowKit3
import Derived.Below
import Derived.Test.YtadcaonkmncgoaaGreatFloR
import Derived.Deep.RegionHeld3
import Derived.Deep.RegionWith
import Derived.Deep.DeepCutAuto
import Derived.RegionTactic
import Derived.ChangeAlike
namespace Go.Proofs.YtadcaonkmncgoaaGreat
open Go.RowKit
set_option maxRecDepth 20000

/-- A gauge: how many numbers, how many that are none, the least, the greatest. -/
structure Gz where
  n : Int
  nans : Int
  lo : Int
  hi : Int
deriving DecidableEq
theorem Gz.ext' {a b : Gz} (h1 : a.n = b.n) (h2 : a.nans = b.nans) (h3 : a.lo = b.lo) (h4 : a.hi = b.hi) : a = b := by
  cases a; cases b; simp_all
def g0 : Gz := ⟨0, 0, 0, 0⟩
structure GW (g : Gz) : Prop where
  n : Word g.n
  nans : Word g.nans
  lo : Word g.lo
  hi : Word g.hi
theorem w0 : Word 0 := ⟨by decide, by decide⟩
theorem w1 : Word 1 := ⟨by decide, by decide⟩
theorem g0W : GW g0 := ⟨w0, w0, w0, w0⟩

def chkG (g : Gz) : Bool := if g.n = 0 then decide (g.lo = 0) && decide (g.hi = 0) else !nanI g.lo && (!nanI g.hi && !lessB g.hi g.lo)
theorem chk0 : chkG g0 = true := by decide
/-- The lesser, the greater of two floats. -/
def lo2 (x y : Int) : Int := if lessB y x then y else x
def hi2 (x y : Int) : Int := if lessB x y then y else x
def mergeG (a b : Gz) : Gz :=
  ⟨addS a.n b.n, addS a.nans b.nans, if a.n = 0 then b.lo else if b.n = 0 then a.lo else lo2 a.lo b.lo, if a.n = 0 then b.hi else if b.n = 0 then a.hi else hi2 a.hi b.hi⟩
def oneG (x : Int) : Gz := if nanI x then ⟨0, 1, 0, 0⟩ else ⟨1, 0, x, x⟩
def addG (g : Gz) (x : Int) : Gz := mergeG g (oneG x)

theorem key_inj {x y : Int} (hx : Word x) (hy : Word y) (h : keyS x = keyS y) : x = y := by rw [← of_key hx, ← of_key hy, h]
theorem lo2_word {x y : Int} (hx : Word x) (hy : Word y) : Word (lo2 x y) := by unfold lo2; split <;> assumption
theorem hi2_word {x y : Int} (hx : Word x) (hy : Word y) : Word (hi2 x y) := by unfold hi2; split <;> assumption
theorem lo2_num {x y : Int} (hx : nanI x = false) (hy : nanI y = false) : nanI (lo2 x y) = false := by unfold lo2; split <;> assumption
theorem hi2_num {x y : Int} (hx : nanI x = false) (hy : nanI y = false) : nanI (hi2 x y) = false := by unfold hi2; split <;> assumption
theorem less_num {x y : Int} (hx : nanI x = false) (hy : nanI y = false) : lessB x y = decide (keyS x < keyS y) := by unfold lessB; rw [hx, hy]; rfl
theorem lo2_key {x y : Int} (hx : nanI x = false) (hy : nanI y = false) : keyS (lo2 x y) = min (keyS x) (keyS y) := by
  unfold lo2; rw [less_num hy hx]
  by_cases h : keyS y < keyS x
  · rw [if_pos (decide_eq_true h)]; omega
  · rw [if_neg (by simpa using h)]; omega
theorem hi2_key {x y : Int} (hx : nanI x = false) (hy : nanI y = false) : keyS (hi2 x y) = max (keyS x) (keyS y) := by
  unfold hi2; rw [less_num hx hy]
  by_cases h : keyS x < keyS y
  · rw [if_pos (decide_eq_true h)]; omega
  · rw [if_neg (by simpa using h)]; omega
theorem lo2_turn {x y : Int} (wx : Word x) (wy : Word y) (hx : nanI x = false) (hy : nanI y = false) : lo2 x y = lo2 y x :=
  key_inj (lo2_word wx wy) (lo2_word wy wx) (by rw [lo2_key hx hy, lo2_key hy hx]; omega)
theorem hi2_turn {x y : Int} (wx : Word x) (wy : Word y) (hx : nanI x = false) (hy : nanI y = false) : hi2 x y = hi2 y x :=
  key_inj (hi2_word wx wy) (hi2_word wy wx) (by rw [hi2_key hx hy, hi2_key hy hx]; omega)
theorem lo2_group {x y z : Int} (wx : Word x) (wy : Word y) (wz : Word z) (hx : nanI x = false) (hy : nanI y = false) (hz : nanI z = false) : lo2 (lo2 x y) z = lo2 x (lo2 y z) :=
  key_inj (lo2_word (lo2_word wx wy) wz) (lo2_word wx (lo2_word wy wz)) (by rw [lo2_key (lo2_num hx hy) hz, lo2_key hx hy, lo2_key hx (lo2_num hy hz), lo2_key hy hz]; omega)
theorem hi2_group {x y z : Int} (wx : Word x) (wy : Word y) (wz : Word z) (hx : nanI x = false) (hy : nanI y = false) (hz : nanI z = false) : hi2 (hi2 x y) z = hi2 x (hi2 y z) :=
  key_inj (hi2_word (hi2_word wx wy) wz) (hi2_word wx (hi2_word wy wz)) (by rw [hi2_key (hi2_num hx hy) hz, hi2_key hx hy, hi2_key hx (hi2_num hy hz), hi2_key hy hz]; omega)

theorem addS_turn (a b : Int) : addS a b = addS b a := by unfold addS; rw [Int.add_comm]
theorem addS_group {a b c : Int} (ha : Word a) (hb : Word b) (hc : Word c) : addS (addS a b) c = addS a (addS b c) := by
  obtain ⟨_, _⟩ := ha; obtain ⟨_, _⟩ := hb; obtain ⟨_, _⟩ := hc; unfold addS; split <;> split <;> split <;> (try split) <;> omega
theorem addS_zero {a b : Int} (ha : Word a) (hb : Word b) : addS a b = 0 ↔ a = 0 ∧ b = 0 := by
  obtain ⟨_, _⟩ := ha; obtain ⟨_, _⟩ := hb; unfold addS; split <;> omega
theorem addS_right {a : Int} (ha : Word a) : addS a 0 = a := by obtain ⟨_, _⟩ := ha; unfold addS; split <;> omega
theorem addS_left {a : Int} (ha : Word a) : addS 0 a = a := by rw [addS_turn, addS_right ha]

theorem chk_none {g : Gz} (h : chkG g = true) (hn : g.n = 0) : g.lo = 0 ∧ g.hi = 0 := by
  unfold chkG at h; rw [if_pos hn, Bool.and_eq_true, decide_eq_true_eq, decide_eq_true_eq] at h; exact h
theorem chk_some {g : Gz} (h : chkG g = true) (hn : g.n ≠ 0) : nanI g.lo = false ∧ nanI g.hi = false ∧ keyS g.lo ≤ keyS g.hi := by
  unfold chkG at h; rw [if_neg hn] at h
  simp only [Bool.and_eq_true, Bool.not_eq_true'] at h
  obtain ⟨h1, h2, h3⟩ := h
  rw [less_num h2 h1, decide_eq_false_iff_not] at h3
  exact ⟨h1, h2, by omega⟩
theorem chk_of_none {g : Gz} (hn : g.n = 0) (h1 : g.lo = 0) (h2 : g.hi = 0) : chkG g = true := by
  unfold chkG; rw [if_pos hn, h1, h2]; rfl
theorem chk_of_some {g : Gz} (hn : g.n ≠ 0) (h1 : nanI g.lo = false) (h2 : nanI g.hi = false) (h3 : keyS g.lo ≤ keyS g.hi) : chkG g = true := by
  unfold chkG; rw [if_neg hn, less_num h2 h1, h1, h2, decide_eq_false (by omega)]; rfl

theorem mergeG_word {a b : Gz} (ha : GW a) (hb : GW b) : GW (mergeG a b) := by
  refine ⟨addS_word ha.n hb.n, addS_word ha.nans hb.nans, ?_, ?_⟩
  · show Word (ite _ _ _); split
    · exact hb.lo
    · split
      · exact ha.lo
      · exact lo2_word ha.lo hb.lo
  · show Word (ite _ _ _); split
    · exact hb.hi
    · split
      · exact ha.hi
      · exact hi2_word ha.hi hb.hi
theorem merge_l {a b : Gz} (ha : a.n = 0) : (mergeG a b).lo = b.lo ∧ (mergeG a b).hi = b.hi := ⟨if_pos ha, if_pos ha⟩
theorem merge_r {a b : Gz} (ca : chkG a = true) (cb : chkG b = true) (hb : b.n = 0) : (mergeG a b).lo = a.lo ∧ (mergeG a b).hi = a.hi := by
  by_cases ha : a.n = 0
  · obtain ⟨h1, h2⟩ := merge_l (b := b) ha
    obtain ⟨e1, e2⟩ := chk_none ca ha
    obtain ⟨e3, e4⟩ := chk_none cb hb
    exact ⟨by rw [h1, e1, e3], by rw [h2, e2, e4]⟩
  · exact ⟨(if_neg ha).trans (if_pos hb), (if_neg ha).trans (if_pos hb)⟩
theorem merge_b {a b : Gz} (ha : a.n ≠ 0) (hb : b.n ≠ 0) : (mergeG a b).lo = lo2 a.lo b.lo ∧ (mergeG a b).hi = hi2 a.hi b.hi := ⟨(if_neg ha).trans (if_neg hb), (if_neg ha).trans (if_neg hb)⟩
theorem merge_n {a b : Gz} (ha : GW a) (hb : GW b) : (mergeG a b).n = 0 ↔ a.n = 0 ∧ b.n = 0 := addS_zero ha.n hb.n

theorem mergeG_chk {a b : Gz} (ha : GW a) (hb : GW b) (ca : chkG a = true) (cb : chkG b = true) : chkG (mergeG a b) = true := by
  by_cases na : a.n = 0
  · obtain ⟨h1, h2⟩ := merge_l (b := b) na
    by_cases nb : b.n = 0
    · obtain ⟨e1, e2⟩ := chk_none cb nb
      exact chk_of_none ((merge_n ha hb).2 ⟨na, nb⟩) (h1.trans e1) (h2.trans e2)
    · obtain ⟨e1, e2, e3⟩ := chk_some cb nb
      exact chk_of_some (fun h => nb ((merge_n ha hb).1 h).2) (by rw [h1]; exact e1) (by rw [h2]; exact e2) (by rw [h1, h2]; exact e3)
  · obtain ⟨e1, e2, e3⟩ := chk_some ca na
    have hn : (mergeG a b).n ≠ 0 := fun h => na ((merge_n ha hb).1 h).1
    by_cases nb : b.n = 0
    · obtain ⟨h1, h2⟩ := merge_r ca cb nb
      exact chk_of_some hn (by rw [h1]; exact e1) (by rw [h2]; exact e2) (by rw [h1, h2]; exact e3)
    · obtain ⟨h1, h2⟩ := merge_b na nb
      obtain ⟨f1, f2, f3⟩ := chk_some cb nb
      refine chk_of_some hn (by rw [h1]; exact lo2_num e1 f1) (by rw [h2]; exact hi2_num e2 f2) ?_
      rw [h1, h2, lo2_key e1 f1, hi2_key e2 f2]; omega

theorem mergeG_turn {a b : Gz} (ha : GW a) (hb : GW b) (ca : chkG a = true) (cb : chkG b = true) : mergeG a b = mergeG b a := by
  have N : (mergeG a b).n = (mergeG b a).n := addS_turn _ _
  have M : (mergeG a b).nans = (mergeG b a).nans := addS_turn _ _
  by_cases na : a.n = 0
  · obtain ⟨h1, h2⟩ := merge_l (b := b) na
    obtain ⟨k1, k2⟩ := merge_r cb ca na
    exact Gz.ext' N M (h1.trans k1.symm) (h2.trans k2.symm)
  · by_cases nb : b.n = 0
    · obtain ⟨h1, h2⟩ := merge_r ca cb nb
      obtain ⟨k1, k2⟩ := merge_l (b := a) nb
      exact Gz.ext' N M (h1.trans k1.symm) (h2.trans k2.symm)
    · obtain ⟨h1, h2⟩ := merge_b na nb
      obtain ⟨k1, k2⟩ := merge_b nb na
      obtain ⟨e1, e2, _⟩ := chk_some ca na
      obtain ⟨f1, f2, _⟩ := chk_some cb nb
      exact Gz.ext' N M (by rw [h1, k1]; exact lo2_turn ha.lo hb.lo e1 f1) (by rw [h2, k2]; exact hi2_turn ha.hi hb.hi e2 f2)

theorem mergeG_group {a b c : Gz} (ha : GW a) (hb : GW b) (hc : GW c) (ca : chkG a = true) (cb : chkG b = true) (cc : chkG c = true) : mergeG (mergeG a b) c = mergeG a (mergeG b c) := by
  have N : (mergeG (mergeG a b) c).n = (mergeG a (mergeG b c)).n := addS_group ha.n hb.n hc.n
  have M : (mergeG (mergeG a b) c).nans = (mergeG a (mergeG b c)).nans := addS_group ha.nans hb.nans hc.nans
  have wab := mergeG_word ha hb
  have wbc := mergeG_word hb hc
  have cab := mergeG_chk ha hb ca cb
  have cbc := mergeG_chk hb hc cb cc
  by_cases na : a.n = 0
  · obtain ⟨h1, h2⟩ := merge_l (b := b) na
    obtain ⟨k1, k2⟩ := merge_l (b := mergeG b c) na
    by_cases nb : b.n = 0
    · obtain ⟨i1, i2⟩ := merge_l (b := c) nb
      obtain ⟨j1, j2⟩ := merge_l (a := mergeG a b) (b := c) ((merge_n ha hb).2 ⟨na, nb⟩)
      exact Gz.ext' N M (by rw [j1, k1, i1]) (by rw [j2, k2, i2])
    · have nab : (mergeG a b).n ≠ 0 := fun h => nb ((merge_n ha hb).1 h).2
      by_cases nc : c.n = 0
      · obtain ⟨i1, i2⟩ := merge_r cb cc nc
        obtain ⟨j1, j2⟩ := merge_r cab cc nc
        exact Gz.ext' N M (by rw [j1, k1, i1, h1]) (by rw [j2, k2, i2, h2])
      · obtain ⟨i1, i2⟩ := merge_b nb nc
        obtain ⟨j1, j2⟩ := merge_b nab nc
        exact Gz.ext' N M (by rw [j1, k1, i1, h1]) (by rw [j2, k2, i2, h2])
  · have nab : (mergeG a b).n ≠ 0 := fun h => na ((merge_n ha hb).1 h).1
    by_cases nb : b.n = 0
    · obtain ⟨h1, h2⟩ := merge_r ca cb nb
      obtain ⟨i1, i2⟩ := merge_l (b := c) nb
      by_cases nc : c.n = 0
      · obtain ⟨j1, j2⟩ := merge_r cab cc nc
        obtain ⟨k1, k2⟩ := merge_r ca cbc ((merge_n hb hc).2 ⟨nb, nc⟩)
        exact Gz.ext' N M (by rw [j1, k1, h1]) (by rw [j2, k2, h2])
      · have nbc : (mergeG b c).n ≠ 0 := fun h => nc ((merge_n hb hc).1 h).2
        obtain ⟨j1, j2⟩ := merge_b nab nc
        obtain ⟨k1, k2⟩ := merge_b na nbc
        exact Gz.ext' N M (by rw [j1, k1, h1, i1]) (by rw [j2, k2, h2, i2])
    · have nbc : (mergeG b c).n ≠ 0 := fun h => nb ((merge_n hb hc).1 h).1
      obtain ⟨h1, h2⟩ := merge_b na nb
      obtain ⟨k1, k2⟩ := merge_b na nbc
      by_cases nc : c.n = 0
      · obtain ⟨i1, i2⟩ := merge_r cb cc nc
        obtain ⟨j1, j2⟩ := merge_r cab cc nc
        exact Gz.ext' N M (by rw [j1, k1, h1, i1]) (by rw [j2, k2, h2, i2])
      · obtain ⟨i1, i2⟩ := merge_b nb nc
        obtain ⟨j1, j2⟩ := merge_b nab nc
        obtain ⟨e1, e2, _⟩ := chk_some ca na
        obtain ⟨f1, f2, _⟩ := chk_some cb nb
        obtain ⟨d1, d2, _⟩ := chk_some cc nc
        exact Gz.ext' N M (by rw [j1, k1, h1, i1]; exact lo2_group ha.lo hb.lo hc.lo e1 f1 d1) (by rw [j2, k2, h2, i2]; exact hi2_group ha.hi hb.hi hc.hi e2 f2 d2)

theorem merge_g0 {a : Gz} (ha : GW a) (ca : chkG a = true) : mergeG a g0 = a := by
  obtain ⟨h1, h2⟩ := merge_r ca chk0 rfl
  exact Gz.ext' (addS_right ha.n) (addS_right ha.nans) h1 h2
theorem g0_merge {a : Gz} (ha : GW a) (ca : chkG a = true) : mergeG g0 a = a := by rw [mergeG_turn g0W ha chk0 ca, merge_g0 ha ca]

theorem oneG_nan {x : Int} (h : nanI x = true) : oneG x = ⟨0, 1, 0, 0⟩ := if_pos h
theorem oneG_num {x : Int} (h : nanI x = false) : oneG x = ⟨1, 0, x, x⟩ := if_neg (by rw [h]; decide)
theorem oneG_word {x : Int} (h : Word x) : GW (oneG x) := by
  cases e : nanI x
  · rw [oneG_num e]; exact ⟨w1, w0, h, h⟩
  · rw [oneG_nan e]; exact ⟨w0, w1, w0, w0⟩
theorem oneG_chk (x : Int) : chkG (oneG x) = true := by
  cases e : nanI x
  · rw [oneG_num e]; exact chk_of_some (show (1 : Int) ≠ 0 by decide) e e (Int.le_refl _)
  · rw [oneG_nan e]; exact chk_of_none rfl rfl rfl
theorem addG_word {g : Gz} {x : Int} (h : GW g) (hx : Word x) : GW (addG g x) := mergeG_word h (oneG_word hx)
theorem addG_chk {g : Gz} {x : Int} (h : GW g) (hx : Word x) (c : chkG g = true) : chkG (addG g x) = true := mergeG_chk h (oneG_word hx) c (oneG_chk x)
theorem addG_turn {g : Gz} {x y : Int} (h : GW g) (hx : Word x) (hy : Word y) (c : chkG g = true) : addG (addG g x) y = addG (addG g y) x := by
  unfold addG
  rw [mergeG_group h (oneG_word hx) (oneG_word hy) c (oneG_chk x) (oneG_chk y), mergeG_turn (oneG_word hx) (oneG_word hy) (oneG_chk x) (oneG_chk y), ← mergeG_group h (oneG_word hy) (oneG_word hx) c (oneG_chk y) (oneG_chk x)]
theorem addG_g0 {x : Int} (hx : Word x) : addG g0 x = oneG x := g0_merge (oneG_word hx) (oneG_chk x)
/-- One that is none changes no end. -/
theorem addG_none {g : Gz} {x : Int} (h : GW g) (c : chkG g = true) (hx : nanI x = true) : addG g x = ⟨g.n, addS g.nans 1, g.lo, g.hi⟩ := by
  unfold addG; rw [oneG_nan hx]
  obtain ⟨h1, h2⟩ := merge_r (b := ⟨0, 1, 0, 0⟩) c rfl rfl
  exact Gz.ext' (addS_right h.n) rfl h1 h2
theorem addG_one {g : Gz} {x : Int} (h : GW g) (hx : nanI x = false) : addG g x = ⟨addS g.n 1, g.nans, if g.n = 0 then x else lo2 g.lo x, if g.n = 0 then x else hi2 g.hi x⟩ := by
  unfold addG; rw [oneG_num hx]
  by_cases hn : g.n = 0
  · obtain ⟨h1, h2⟩ := merge_l (b := ⟨1, 0, x, x⟩) hn
    exact Gz.ext' rfl (addS_right h.nans) (h1.trans (if_pos hn).symm) (h2.trans (if_pos hn).symm)
  · obtain ⟨h1, h2⟩ := merge_b (b := ⟨1, 0, x, x⟩) hn (show (1 : Int) ≠ 0 by decide)
    exact Gz.ext' rfl (addS_right h.nans) (h1.trans (if_neg hn).symm) (h2.trans (if_neg hn).symm)

/-- Many, one by one. -/
def addAllG (g : Gz) (l : List Int) : Gz := l.foldl addG g
theorem addAllG_nil (g : Gz) : addAllG g [] = g := rfl
theorem addAllG_cons (g : Gz) (x : Int) (l : List Int) : addAllG g (x :: l) = addAllG (addG g x) l := rfl
theorem addAllG_append (g : Gz) (l m : List Int) : addAllG g (l ++ m) = addAllG (addAllG g l) m := List.foldl_append
theorem addAllG_ok (l : List Int) : ∀ g, GW g → chkG g = true → (∀ x ∈ l, Word x) → GW (addAllG g l) ∧ chkG (addAllG g l) = true := by
  induction l with
  | nil => exact fun g h c _ => ⟨h, c⟩
  | cons x l ih => exact fun g h c k => ih _ (addG_word h (k x (by simp))) (addG_chk h (k x (by simp)) c) fun y hy => k y (by simp [hy])
end Go.Proofs.YtadcaonkmncgoaaGreat

namespace Go.Proofs.YtadcaonkmncgoaaGreat
open Go.RowKit
set_option maxRecDepth 20000


structure GBox (w : World) (g : Nat) (n m lo hi : Int) : Prop where
  lt : g < w.heap.size
  c0 : w.cell? ⟨g, 0, none⟩ = some (.int .u64 n)
  c1 : w.cell? ⟨g, 1, none⟩ = some (.int .u64 m)
  c2 : w.cell? ⟨g, 2, none⟩ = some (.int .u64 lo)
  c3 : w.cell? ⟨g, 3, none⟩ = some (.int .u64 hi)
  f0 : w.frozen? ⟨g, 0, none⟩ = false
  f1 : w.frozen? ⟨g, 1, none⟩ = false
  f2 : w.frozen? ⟨g, 2, none⟩ = false
  f3 : w.frozen? ⟨g, 3, none⟩ = false
theorem GBox.new (w : World) (t : TypeId) (n m lo hi : Int) : GBox (w.alloc (.cells #[.int .u64 n, .int .u64 m, .int .u64 lo, .int .u64 hi] t)) w.heap.size n m lo hi :=
  ⟨by simp [go_sem], by simp [go_sem], by simp [go_sem], by simp [go_sem], by simp [go_sem], by simp [go_sem], by simp [go_sem], by simp [go_sem], by simp [go_sem]⟩
theorem size_al (w : World) (o : Obj) : (w.alloc o).heap.size = w.heap.size + 1 := by simp [go_sem]
theorem GBox.new2 (w : World) (o : Obj) (t : TypeId) (n m lo hi : Int) : GBox ((w.alloc o).alloc (.cells #[.int .u64 n, .int .u64 m, .int .u64 lo, .int .u64 hi] t)) (w.heap.size + 1) n m lo hi := by
  have h := GBox.new (w.alloc o) t n m lo hi
  rwa [size_al] at h
section
variable {w w' : World} {g B : Nat} {n m lo hi : Int}
theorem GBox.below (h : GBox w g n m lo hi) (hb : Below B w w') (hg : g < B) : GBox w' g n m lo hi :=
  ⟨Nat.lt_of_lt_of_le h.lt hb.size, (hb.cell hg).trans h.c0, (hb.cell hg).trans h.c1, (hb.cell hg).trans h.c2, (hb.cell hg).trans h.c3, (hb.frozen hg).trans h.f0, (hb.frozen hg).trans h.f1, (hb.frozen hg).trans h.f2, (hb.frozen hg).trans h.f3⟩
theorem GBox.alloc (h : GBox w g n m lo hi) (o : Obj) : GBox (w.alloc o) g n m lo hi := h.below ((Below.refl w.heap.size w).alloc (Nat.le_refl _) o) h.lt
theorem GBox.drew (h : GBox w g n m lo hi) : GBox w.drew g n m lo hi := ⟨h.lt, h.c0, h.c1, h.c2, h.c3, h.f0, h.f1, h.f2, h.f3⟩
theorem GBox.drewN (h : GBox w g n m lo hi) (k : Nat) : GBox (w.drewN k) g n m lo hi := ⟨h.lt, h.c0, h.c1, h.c2, h.c3, h.f0, h.f1, h.f2, h.f3⟩
theorem GBox.far (h : GBox w g n m lo hi) {p : Addr} (hp : p.block ≠ g) (v : Value) : GBox (w.setCell p v) g n m lo hi := by
  have c : ∀ i, (w.setCell p v).cell? ⟨g, i, none⟩ = w.cell? ⟨g, i, none⟩ := fun i => World.cell?_of_block (w := w) (Below.heap_setCell w p v g (Ne.symm hp))
  have f : ∀ i, (w.setCell p v).frozen? ⟨g, i, none⟩ = w.frozen? ⟨g, i, none⟩ := fun i => World.frozen?_of_block (w := w) (Below.heap_setCell w p v g (Ne.symm hp))
  exact ⟨by simpa using h.lt, (c 0).trans h.c0, (c 1).trans h.c1, (c 2).trans h.c2, (c 3).trans h.c3, (f 0).trans h.f0, (f 1).trans h.f1, (f 2).trans h.f2, (f 3).trans h.f3⟩
theorem GBox.set (h : GBox w g n m lo hi) (n' m' lo' hi' : Int) :
    GBox ((((w.setCell ⟨g, 0, none⟩ (.int .u64 n')).setCell ⟨g, 1, none⟩ (.int .u64 m')).setCell ⟨g, 2, none⟩ (.int .u64 lo')).setCell ⟨g, 3, none⟩ (.int .u64 hi')) g n' m' lo' hi' := by
  obtain ⟨l, c0, c1, c2, c3, f0, f1, f2, f3⟩ := h
  exact ⟨by simp [go_sem, l], by simp [go_sem, c0], by simp [go_sem, c1], by simp [go_sem, c2], by simp [go_sem, c3], by simp [go_sem, f0], by simp [go_sem, f1], by simp [go_sem, f2], by simp [go_sem, f3]⟩
theorem bel_set4 {w0 : World} (h : Below B w0 w) (hg : B ≤ g) (v0 v1 v2 v3 : Value) : Below B w0 ((((w.setCell ⟨g, 0, none⟩ v0).setCell ⟨g, 1, none⟩ v1).setCell ⟨g, 2, none⟩ v2).setCell ⟨g, 3, none⟩ v3) :=
  (((h.setCell (p := ⟨g, 0, none⟩) hg v0).setCell (p := ⟨g, 1, none⟩) hg v1).setCell (p := ⟨g, 2, none⟩) hg v2).setCell (p := ⟨g, 3, none⟩) hg v3
end
theorem bel2 (w : World) (o1 o2 : Obj) : Below w.heap.size w ((w.alloc o1).alloc o2) := ((Below.refl _ w).alloc (Nat.le_refl _) o1).alloc (by simp [go_sem]) o2
end Go.Proofs.YtadcaonkmncgoaaGreat

namespace Go.Proofs.YtadcaonkmncgoaaGreat
open Go.RowKit
set_option maxRecDepth 20000

theorem chkG_none {g : Gz} (h : g.n = 0) : chkG g = (g.lo == 0 && g.hi == 0) := by
  unfold chkG; rw [if_pos h]; rfl
theorem chkG_some {g : Gz} (h : g.n ≠ 0) : chkG g = (!nanI g.lo && (!nanI g.hi && !lessB g.hi g.lo)) := if_neg h

set_option maxHeartbeats 1000000 in
theorem refgchk_any (g : Gz) (hg : GW g) (w : World) :
    Calls Tryz.prog 15 #[(Value.agg #[.int .u64 (Gz.n g), .int .u64 (Gz.nans g), .int .u64 (Gz.lo g), .int .u64 (Gz.hi g)])] w fun e w' => e = .returned (.bool (chkG g)) ∧ Below w.heap.size w w' := by
  have A := hide (fun w => refkind_any g.lo hg.lo w)
  have B := hide (fun w => refkind_any g.hi hg.hi w)
  have C := hide (fun w => refless_any g.hi g.lo hg.hi hg.lo w)
  have ka := kind_ne g.lo
  have kb := kind_ne g.hi
  by_cases h : g.n = 0
  · have F := hide (chkG_none h)
    have e0 : (g.n == 0) = true := beq_iff_eq.2 h
    generalize chkG g = c at F ⊢
    obtain ⟨n, m, lo, hi⟩ := g
    dsimp only at A B C F e0 ka kb ⊢
    clear hg h
    go_enter Tryz.func15, Tryz.ntmps15
    cases e1 : (lo == 0) <;> cases e2 : (hi == 0)
    all_goals go_wp2
    all_goals (go_ret; exact ⟨by rw [F.out, e1, e2]; rfl, (Below.refl _ _).alloc (Nat.le_refl _) _⟩)
  · have F := hide (chkG_some h)
    have e0 : (g.n == 0) = false := beq_eq_false_iff_ne.2 h
    generalize chkG g = c at F ⊢
    obtain ⟨n, m, lo, hi⟩ := g
    dsimp only at A B C F e0 ka kb ⊢
    clear hg h
    generalize lessB hi lo = l at F C
    generalize nanI lo = p at F ka
    generalize nanI hi = q at F kb
    generalize kindS lo = kl at A ka
    generalize kindS hi = kh at B kb
    go_enter Tryz.func15, Tryz.ntmps15
    cases p
    · replace ka : (kl != 4) = true := ka
      cases q
      · replace kb : (kh != 4) = true := kb
        go_wp2_with fail
        refine (A.out _).mono ?_
        rintro e w1 ⟨rfl, rfl⟩
        go_wp2_with fail
        refine (B.out _).mono ?_
        rintro e w1 ⟨rfl, rfl⟩
        go_wp2_with fail
        refine (C.out _).mono ?_
        rintro e w1 ⟨rfl, rfl⟩
        go_wp2
        go_ret
        exact ⟨ret_bool F.out.symm, (Below.refl _ _).alloc (Nat.le_refl _) _⟩
      · replace kb : (kh != 4) = false := kb
        go_wp2_with fail
        refine (A.out _).mono ?_
        rintro e w1 ⟨rfl, rfl⟩
        go_wp2_with fail
        refine (B.out _).mono ?_
        rintro e w1 ⟨rfl, rfl⟩
        go_wp2
        go_ret
        exact ⟨ret_bool F.out.symm, (Below.refl _ _).alloc (Nat.le_refl _) _⟩
    · replace ka : (kl != 4) = false := ka
      go_wp2_with fail
      refine (A.out _).mono ?_
      rintro e w1 ⟨rfl, rfl⟩
      go_wp2
      go_ret
      exact ⟨ret_bool F.out.symm, (Below.refl _ _).alloc (Nat.le_refl _) _⟩

theorem bel4 (w : World) (o1 o2 o3 o4 : Obj) : Below w.heap.size w ((((w.alloc o1).alloc o2).alloc o3).alloc o4).drew :=
  (((((Below.refl _ w).alloc (Nat.le_refl _) o1).alloc (by simp [go_sem]) o2).alloc (by simp [go_sem]; omega) o3).alloc (by simp [go_sem]; omega) o4).drew

theorem kind_eq (x : Int) : (kindS x == 4) = nanI x := kind_nan x

end Go.Proofs.YtadcaonkmncgoaaGreat

namespace Go.Proofs.YtadcaonkmncgoaaGreat
open Go.RowKit
set_option maxRecDepth 20000
attribute [local go_sem] run_bits run_frombits

structure GaC : Prop where
  chk : ∀ g, GW g → ∀ w, Calls Tryz.prog 48 #[(Value.agg #[.int .u64 (Gz.n g), .int .u64 (Gz.nans g), .int .u64 (Gz.lo g), .int .u64 (Gz.hi g)])] w fun e w' => e = .returned (.bool (chkG g)) ∧ Below w.heap.size w w'
structure GaM : Prop where
  merge : ∀ a b, GW a → GW b → chkG a = true → chkG b = true → ∀ w, Calls Tryz.prog 87 #[(Value.agg #[.int .u64 (Gz.n a), .int .u64 (Gz.nans a), .int .u64 (Gz.lo a), .int .u64 (Gz.hi a)]), (Value.agg #[.int .u64 (Gz.n b), .int .u64 (Gz.nans b), .int .u64 (Gz.lo b), .int .u64 (Gz.hi b)])] w fun e w' => e = .returned (Value.agg #[.int .u64 (Gz.n (mergeG a b)), .int .u64 (Gz.nans (mergeG a b)), .int .u64 (Gz.lo (mergeG a b)), .int .u64 (Gz.hi (mergeG a b))]) ∧ Below w.heap.size w w'
structure GaA : Prop where
  add : ∀ g x, GW g → Word x → chkG g = true → ∀ w, Calls Tryz.prog 76 #[(Value.agg #[.int .u64 (Gz.n g), .int .u64 (Gz.nans g), .int .u64 (Gz.lo g), .int .u64 (Gz.hi g)]), .int .u64 x] w fun e w' => e = .returned (Value.agg #[.int .u64 (Gz.n (addG g x)), .int .u64 (Gz.nans (addG g x)), .int .u64 (Gz.lo (addG g x)), .int .u64 (Gz.hi (addG g x))]) ∧ Below w.heap.size w w'

theorem bel1 {w w1 : World} {B : Nat} (h : Below B w w1) (hB : B ≤ w1.heap.size) (o : Obj) : Below B w (w1.alloc o) := h.alloc hB o

end Go.Proofs.YtadcaonkmncgoaaGreat

namespace Go.Proofs.YtadcaonkmncgoaaGreat
open Go.RowKit
set_option maxRecDepth 20000


theorem gc_below {w w' : World} {g B : Nat} {v : Gz} (hb : Below B w w') (hg : g < B) (h : ((World.cell? w ⟨g, 0, none⟩ = some (.int .u64 (Gz.n v))) ∧ (World.cell? w ⟨g, 1, none⟩ = some (.int .u64 (Gz.nans v))) ∧ (World.cell? w ⟨g, 2, none⟩ = some (.int .u64 (Gz.lo v))) ∧ (World.cell? w ⟨g, 3, none⟩ = some (.int .u64 (Gz.hi v))))) : ((World.cell? w' ⟨g, 0, none⟩ = some (.int .u64 (Gz.n v))) ∧ (World.cell? w' ⟨g, 1, none⟩ = some (.int .u64 (Gz.nans v))) ∧ (World.cell? w' ⟨g, 2, none⟩ = some (.int .u64 (Gz.lo v))) ∧ (World.cell? w' ⟨g, 3, none⟩ = some (.int .u64 (Gz.hi v)))) :=
  ⟨(hb.cell hg).trans h.1, (hb.cell hg).trans h.2.1, (hb.cell hg).trans h.2.2.1, (hb.cell hg).trans h.2.2.2⟩
theorem GBox.gc {w : World} {g : Nat} {v : Gz} (h : GBox w g v.n v.nans v.lo v.hi) : ((World.cell? w ⟨g, 0, none⟩ = some (.int .u64 (Gz.n v))) ∧ (World.cell? w ⟨g, 1, none⟩ = some (.int .u64 (Gz.nans v))) ∧ (World.cell? w ⟨g, 2, none⟩ = some (.int .u64 (Gz.lo v))) ∧ (World.cell? w ⟨g, 3, none⟩ = some (.int .u64 (Gz.hi v)))) := ⟨h.c0, h.c1, h.c2, h.c3⟩

/-- Three gauges in memory, and what was there before the call is as it was. -/
theorem keep3 {w0 w w' : World} {B g1 g2 g3 : Nat} {a b c : Gz} (hb : Below w.heap.size w w') (h : ((World.cell? w ⟨g1, 0, none⟩ = some (.int .u64 (Gz.n a))) ∧ (World.cell? w ⟨g1, 1, none⟩ = some (.int .u64 (Gz.nans a))) ∧ (World.cell? w ⟨g1, 2, none⟩ = some (.int .u64 (Gz.lo a))) ∧ (World.cell? w ⟨g1, 3, none⟩ = some (.int .u64 (Gz.hi a)))) ∧ ((World.cell? w ⟨g2, 0, none⟩ = some (.int .u64 (Gz.n b))) ∧ (World.cell? w ⟨g2, 1, none⟩ = some (.int .u64 (Gz.nans b))) ∧ (World.cell? w ⟨g2, 2, none⟩ = some (.int .u64 (Gz.lo b))) ∧ (World.cell? w ⟨g2, 3, none⟩ = some (.int .u64 (Gz.hi b)))) ∧ ((World.cell? w ⟨g3, 0, none⟩ = some (.int .u64 (Gz.n c))) ∧ (World.cell? w ⟨g3, 1, none⟩ = some (.int .u64 (Gz.nans c))) ∧ (World.cell? w ⟨g3, 2, none⟩ = some (.int .u64 (Gz.lo c))) ∧ (World.cell? w ⟨g3, 3, none⟩ = some (.int .u64 (Gz.hi c)))) ∧ Hid (g1 < w.heap.size ∧ g2 < w.heap.size ∧ g3 < w.heap.size ∧ B ≤ w.heap.size ∧ Below B w0 w)) :
    ((World.cell? w' ⟨g1, 0, none⟩ = some (.int .u64 (Gz.n a))) ∧ (World.cell? w' ⟨g1, 1, none⟩ = some (.int .u64 (Gz.nans a))) ∧ (World.cell? w' ⟨g1, 2, none⟩ = some (.int .u64 (Gz.lo a))) ∧ (World.cell? w' ⟨g1, 3, none⟩ = some (.int .u64 (Gz.hi a)))) ∧ ((World.cell? w' ⟨g2, 0, none⟩ = some (.int .u64 (Gz.n b))) ∧ (World.cell? w' ⟨g2, 1, none⟩ = some (.int .u64 (Gz.nans b))) ∧ (World.cell? w' ⟨g2, 2, none⟩ = some (.int .u64 (Gz.lo b))) ∧ (World.cell? w' ⟨g2, 3, none⟩ = some (.int .u64 (Gz.hi b)))) ∧ ((World.cell? w' ⟨g3, 0, none⟩ = some (.int .u64 (Gz.n c))) ∧ (World.cell? w' ⟨g3, 1, none⟩ = some (.int .u64 (Gz.nans c))) ∧ (World.cell? w' ⟨g3, 2, none⟩ = some (.int .u64 (Gz.lo c))) ∧ (World.cell? w' ⟨g3, 3, none⟩ = some (.int .u64 (Gz.hi c)))) ∧ Hid (g1 < w'.heap.size ∧ g2 < w'.heap.size ∧ g3 < w'.heap.size ∧ B ≤ w'.heap.size ∧ Below B w0 w') := by
  obtain ⟨h1, h2, h3, l1, l2, l3, l4, hB⟩ := h
  have s := hb.size
  exact ⟨gc_below hb l1 h1, gc_below hb l2 h2, gc_below hb l3 h3, Nat.lt_of_lt_of_le l1 s, Nat.lt_of_lt_of_le l2 s, Nat.lt_of_lt_of_le l3 s, Nat.le_trans l4 s, hB.trans (hb.mono l4)⟩

end Go.Proofs.YtadcaonkmncgoaaGreat

namespace Go.Proofs.YtadcaonkmncgoaaGreat
open Go.RowKit
set_option maxRecDepth 20000
attribute [local go_sem] run_bits run_frombits

theorem isnum_any (x : Int) (h : Word x) (w : World) :
    Calls Tryz.prog 70 #[.int .u64 x] w fun e w' => e = .returned (.bool (!nanI x)) ∧ w' = w := by
  have lx : x.toNat < 18446744073709551616 := by obtain ⟨_, _⟩ := h; omega
  have N := hide (fun w => isnan_any x.toNat lx w)
  rw [nan_nat h] at N
  go_enter Tryz.func70, Tryz.ntmps70
  go_wp2_with (go_at_call 79; refine (N.out _).mono ?_; rintro e w' ⟨rfl, rfl⟩)
  go_ret
  exact ⟨rfl, rfl⟩

theorem lesser_any (x y : Int) (hx : Word x) (hy : Word y) (w : World) :
    Calls Tryz.prog 96 #[.int .u64 x, .int .u64 y] w fun e w' => e = .returned (.int .u64 (lo2 x y)) ∧ w' = w := by
  have L := hide (fun w => less_any y x hy hx w)
  unfold lo2
  generalize lessB y x = p at L
  cases p <;>
  · go_enter Tryz.func96, Tryz.ntmps96
    go_wp2_with (go_at_call 71; refine (L.out _).mono ?_; rintro e w' ⟨rfl, rfl⟩)
    go_ret
    exact ⟨rfl, rfl⟩

theorem greater_any (x y : Int) (hx : Word x) (hy : Word y) (w : World) :
    Calls Tryz.prog 97 #[.int .u64 x, .int .u64 y] w fun e w' => e = .returned (.int .u64 (hi2 x y)) ∧ w' = w := by
  have L := hide (fun w => less_any x y hx hy w)
  unfold hi2
  generalize lessB x y = p at L
  cases p <;>
  · go_enter Tryz.func97, Tryz.ntmps97
    go_wp2_with (go_at_call 71; refine (L.out _).mono ?_; rintro e w' ⟨rfl, rfl⟩)
    go_ret
    exact ⟨rfl, rfl⟩

set_option maxHeartbeats 1000000 in
theorem gchk_any (g : Gz) (hg : GW g) (w : World) :
    Calls Tryz.prog 48 #[(Value.agg #[.int .u64 (Gz.n g), .int .u64 (Gz.nans g), .int .u64 (Gz.lo g), .int .u64 (Gz.hi g)])] w fun e w' => e = .returned (.bool (chkG g)) ∧ Below w.heap.size w w' := by
  have A := hide (fun w => isnum_any g.lo hg.lo w)
  have B := hide (fun w => isnum_any g.hi hg.hi w)
  have C := hide (fun w => less_any g.hi g.lo hg.hi hg.lo w)
  by_cases h : g.n = 0
  · have F := hide (chkG_none h)
    have e0 : (g.n == 0) = true := beq_iff_eq.2 h
    generalize chkG g = c at F ⊢
    obtain ⟨n, m, lo, hi⟩ := g
    dsimp only at A B C F e0 ⊢
    clear hg h A B C
    go_enter Tryz.func48, Tryz.ntmps48
    cases e1 : (lo == 0) <;> cases e2 : (hi == 0)
    all_goals go_wp2
    all_goals (go_ret; exact ⟨by rw [F.out, e1, e2]; rfl, (Below.refl _ _).alloc (Nat.le_refl _) _⟩)
  · have F := hide (chkG_some h)
    have e0 : (g.n == 0) = false := beq_eq_false_iff_ne.2 h
    generalize chkG g = c at F ⊢
    obtain ⟨n, m, lo, hi⟩ := g
    dsimp only at A B C F e0 ⊢
    clear hg h
    generalize lessB hi lo = l at F C
    generalize nanI lo = p at F A
    generalize nanI hi = q at F B
    go_enter Tryz.func48, Tryz.ntmps48
    cases p
    · cases q
      · go_wp2_with fail
        refine (A.out _).mono ?_
        rintro e w1 ⟨rfl, rfl⟩
        go_wp2_with fail
        refine (B.out _).mono ?_
        rintro e w1 ⟨rfl, rfl⟩
        go_wp2_with fail
        refine (C.out _).mono ?_
        rintro e w1 ⟨rfl, rfl⟩
        go_wp2
        go_ret
        exact ⟨ret_bool F.out.symm, (Below.refl _ _).alloc (Nat.le_refl _) _⟩
      · go_wp2_with fail
        refine (A.out _).mono ?_
        rintro e w1 ⟨rfl, rfl⟩
        go_wp2_with fail
        refine (B.out _).mono ?_
        rintro e w1 ⟨rfl, rfl⟩
        go_wp2
        go_ret
        exact ⟨ret_bool F.out.symm, (Below.refl _ _).alloc (Nat.le_refl _) _⟩
    · go_wp2_with fail
      refine (A.out _).mono ?_
      rintro e w1 ⟨rfl, rfl⟩
      go_wp2
      go_ret
      exact ⟨ret_bool F.out.symm, (Below.refl _ _).alloc (Nat.le_refl _) _⟩
theorem gaC : GaC := ⟨gchk_any⟩

theorem bel4d (w : World) (o1 o2 o3 o4 : Obj) : Below w.heap.size w ((((w.alloc o1).alloc o2).alloc o3).alloc o4).drew.drew := (bel4 w o1 o2 o3 o4).drew

set_option maxHeartbeats 2000000 in
theorem gmerge_any (a b : Gz) (ha : GW a) (hb : GW b) (w : World) :
    Calls Tryz.prog 87 #[(Value.agg #[.int .u64 (Gz.n a), .int .u64 (Gz.nans a), .int .u64 (Gz.lo a), .int .u64 (Gz.hi a)]), (Value.agg #[.int .u64 (Gz.n b), .int .u64 (Gz.nans b), .int .u64 (Gz.lo b), .int .u64 (Gz.hi b)])] w fun e w' => e = .returned (Value.agg #[.int .u64 (Gz.n (mergeG a b)), .int .u64 (Gz.nans (mergeG a b)), .int .u64 (Gz.lo (mergeG a b)), .int .u64 (Gz.hi (mergeG a b))]) ∧ Below w.heap.size w w' := by
  have E := hide add_any
  have C := hide (fun w => lesser_any a.lo b.lo ha.lo hb.lo w)
  have D := hide (fun w => greater_any a.hi b.hi ha.hi hb.hi w)
  obtain ⟨n, m, lo, hi⟩ := a
  obtain ⟨n', m', lo', hi'⟩ := b
  obtain ⟨hn, hm, _, _⟩ := ha
  obtain ⟨hn', hm', _, _⟩ := hb
  dsimp only [mergeG] at C D hn hm hn' hm' ⊢
  obtain ⟨L, HL⟩ : ∃ L, Hid ((if n = 0 then lo' else if n' = 0 then lo else lo2 lo lo') = L) := ⟨_, rfl⟩
  obtain ⟨H, HH⟩ : ∃ H, Hid ((if n = 0 then hi' else if n' = 0 then hi else hi2 hi hi') = H) := ⟨_, rfl⟩
  rw [HL.out, HH.out]
  go_enter Tryz.func87, Tryz.ntmps87
  go_upto_region 1 with fail
  go_cut [5] (fun x wx => x = .pointer (some ⟨w.heap.size + 3, 0, none⟩) ∧ wx = ((((w.alloc (.cells #[.int .u64 n, .int .u64 m, .int .u64 lo, .int .u64 hi] 26)).alloc (.cells #[.int .u64 n', .int .u64 m', .int .u64 lo', .int .u64 hi'] 26)).alloc (.cells #[.int .u64 0, .int .u64 0, .int .u64 0, .int .u64 0] 26)).alloc (.cells #[.int .u64 (addS n n'), .int .u64 (addS m m'), .int .u64 0, .int .u64 0] 26)).drew)
  case first =>
    go_region_held3 (fun w' => w'.cell? ⟨w.heap.size, 0, none⟩ = some (.int .u64 n) ∧ w'.cell? ⟨w.heap.size, 1, none⟩ = some (.int .u64 m) ∧ w'.cell? ⟨w.heap.size + 1, 0, none⟩ = some (.int .u64 n') ∧ w'.cell? ⟨w.heap.size + 1, 1, none⟩ = some (.int .u64 m')) (go_keep) ((go_at_call 86; refine (E.out _ _ (by assumption) (by assumption) _).mono ?_; rintro e w' ⟨rfl, rfl⟩))
    all_goals first
      | exact ⟨by simp [go_sem], by simp [go_sem], by simp [go_sem], by simp [go_sem]⟩
      | (go_wp2_with fail
         go_meet
         exact ⟨rfl, rfl⟩)
  case rest =>
    obtain ⟨rfl, rfl⟩ := hcut
    have l1 := HL.out
    have l2 := HH.out
    by_cases h1 : n = 0
    · have e1 : (n == 0) = true := beq_iff_eq.2 h1
      rw [if_pos h1] at l1 l2
      subst l1 l2
      clear h1 HL HH C D E
      go_wp2_with fail
      go_region
      all_goals go_wp2
      all_goals exact bodyPost_ret (v := .agg #[.int .u64 (addS n n'), .int .u64 (addS m m'), .int .u64 lo', .int .u64 hi']) (by simp [results, Tryz.results87, go_sem]) rfl ⟨rfl, bel4d _ _ _ _ _⟩
    · have e1 : (n == 0) = false := beq_eq_false_iff_ne.2 h1
      rw [if_neg h1] at l1 l2
      by_cases h2 : n' = 0
      · have e2 : (n' == 0) = true := beq_iff_eq.2 h2
        rw [if_pos h2] at l1 l2
        subst l1 l2
        clear h1 h2 HL HH C D E
        go_wp2_with fail
        go_region
        all_goals go_wp2
        all_goals exact bodyPost_ret (v := .agg #[.int .u64 (addS n n'), .int .u64 (addS m m'), .int .u64 lo, .int .u64 hi]) (by simp [results, Tryz.results87, go_sem]) rfl ⟨rfl, bel4d _ _ _ _ _⟩
      · have e2 : (n' == 0) = false := beq_eq_false_iff_ne.2 h2
        rw [if_neg h2] at l1 l2
        rw [l1] at C
        rw [l2] at D
        clear h1 h2 HL HH E l1 l2
        go_wp2_with fail
        go_region_held3 (fun w' => w'.cell? ⟨w.heap.size, 2, none⟩ = some (.int .u64 lo) ∧ w'.cell? ⟨w.heap.size, 3, none⟩ = some (.int .u64 hi) ∧ w'.cell? ⟨w.heap.size + 1, 2, none⟩ = some (.int .u64 lo') ∧ w'.cell? ⟨w.heap.size + 1, 3, none⟩ = some (.int .u64 hi')) (go_keep) (first
          | (go_at_call 96; refine (C.out _).mono ?_; rintro e w' ⟨rfl, rfl⟩)
          | (go_at_call 97; refine (D.out _).mono ?_; rintro e w' ⟨rfl, rfl⟩))
        all_goals first
          | exact ⟨by simp [go_sem], by simp [go_sem], by simp [go_sem], by simp [go_sem]⟩
          | (go_wp2
             exact bodyPost_ret (v := .agg #[.int .u64 (addS n n'), .int .u64 (addS m m'), .int .u64 L, .int .u64 H]) (by simp [results, Tryz.results87, go_sem]) rfl ⟨rfl, bel4d _ _ _ _ _⟩)

theorem gaM : GaM := ⟨fun a b ha hb _ _ w => gmerge_any a b ha hb w⟩

set_option maxHeartbeats 2000000 in
theorem gadd_any (g : Gz) (x : Int) (hg : GW g) (hx : Word x) (cg : chkG g = true) (w : World) :
    Calls Tryz.prog 76 #[(Value.agg #[.int .u64 (Gz.n g), .int .u64 (Gz.nans g), .int .u64 (Gz.lo g), .int .u64 (Gz.hi g)]), .int .u64 x] w fun e w' => e = .returned (Value.agg #[.int .u64 (Gz.n (addG g x)), .int .u64 (Gz.nans (addG g x)), .int .u64 (Gz.lo (addG g x)), .int .u64 (Gz.hi (addG g x))]) ∧ Below w.heap.size w w' := by
  have K := hide (fun w => isnum_any x hx w)
  cases e : nanI x
  · have M := hide (fun w => gmerge_any g (oneG x) hg (oneG_word hx) w)
    show Calls Tryz.prog 76 #[(Value.agg #[.int .u64 (Gz.n g), .int .u64 (Gz.nans g), .int .u64 (Gz.lo g), .int .u64 (Gz.hi g)]), .int .u64 x] w fun e w' => e = .returned (Value.agg #[.int .u64 (Gz.n (mergeG g (oneG x))), .int .u64 (Gz.nans (mergeG g (oneG x))), .int .u64 (Gz.lo (mergeG g (oneG x))), .int .u64 (Gz.hi (mergeG g (oneG x)))]) ∧ Below w.heap.size w w'
    generalize mergeG g (oneG x) = r at M ⊢
    rw [oneG_num e] at M
    rw [e] at K
    obtain ⟨n, m, lo, hi⟩ := g
    obtain ⟨rn, rm, rl, rh⟩ := r
    dsimp only at M ⊢
    clear cg
    go_enter Tryz.func76, Tryz.ntmps76
    go_wp2_with fail
    refine (K.out _).mono ?_
    rintro e w1 ⟨rfl, rfl⟩
    go_wp2_with fail
    refine (M.out _).mono ?_
    rintro e w1 ⟨rfl, hb⟩
    have G : Hid (GBox w1 (w.heap.size + 1) 0 0 0 0) := (GBox.new2 w _ _ 0 0 0 0).below hb (by simp [go_sem])
    have B : Hid (Below w.heap.size w w1) := (bel2 w _ _).trans (hb.mono (by rw [size_al, size_al]; omega))
    have c0 := G.out.c0
    have c1 := G.out.c1
    have c2 := G.out.c2
    have c3 := G.out.c3
    have f0 := G.out.f0
    have f1 := G.out.f1
    have f2 := G.out.f2
    have f3 := G.out.f3
    clear hb
    go_wp2
    have G2 := G.out.set rn rm rl rh
    exact bodyPost_ret (v := .agg #[.int .u64 rn, .int .u64 rm, .int .u64 rl, .int .u64 rh]) (by simp [results, Tryz.results76, go_sem, G2.c0, G2.c1, G2.c2, G2.c3]) rfl ⟨rfl, bel_set4 B.out (by omega) _ _ _ _⟩
  · have S := hide (fun w => add_any g.nans 1 hg.nans w1 w)
    rw [addG_none hg cg e]
    rw [e] at K
    obtain ⟨n, m, lo, hi⟩ := g
    dsimp only at S ⊢
    clear cg
    go_enter Tryz.func76, Tryz.ntmps76
    go_wp2_with (first
      | (go_at_call 70; refine (K.out _).mono ?_; rintro e w' ⟨rfl, rfl⟩)
      | (go_at_call 86; refine (S.out _).mono ?_; rintro e w' ⟨rfl, rfl⟩))
    exact bodyPost_ret (v := .agg #[.int .u64 n, .int .u64 (addS m 1), .int .u64 lo, .int .u64 hi]) (by simp [results, Tryz.results76, go_sem]) rfl ⟨rfl, bel2 _ _ _⟩
theorem gaA : GaA := ⟨gadd_any⟩
end Go.Proofs.YtadcaonkmncgoaaGreat
