/-
  Gauges in plain words: what may be one, two put together, one float more; the laws of turning and grouping, of ends, of many one by one.
  Conditions: the four numbers of a gauge are words; where a law speaks of gauges put together, they may be ones ('chkG').
-/
import Derived.Test.YtadcaonkmncgoaaWideZ
import Derived.Test.YtadcaonkmncgoaaFloZ
namespace Go.Proofs.Ytadcaonkmncgoaa
open Go.RowKit
set_option maxRecDepth 20000

/-- A gauge: how many numbers, how many that are none, the least, the greatest. -/
structure Gz where
  n : Int
  nans : Int
  lo : Int
  hi : Int
deriving DecidableEq
theorem Gz.ext' {a b : Gz} (h1 : a.n = b.n) (h2 : a.nans = b.nans) (h3 : a.lo = b.lo) (h4 : a.hi = b.hi) : a = b := by
  cases a; cases b; simp_all
def g0 : Gz := ⟨0, 0, 0, 0⟩
structure GW (g : Gz) : Prop where
  n : Word g.n
  nans : Word g.nans
  lo : Word g.lo
  hi : Word g.hi
theorem w0 : Word 0 := ⟨by decide, by decide⟩
theorem w1 : Word 1 := ⟨by decide, by decide⟩
theorem g0W : GW g0 := ⟨w0, w0, w0, w0⟩

def chkG (g : Gz) : Bool := if g.n = 0 then decide (g.lo = 0) && decide (g.hi = 0) else !nanI g.lo && (!nanI g.hi && !lessB g.hi g.lo)
theorem chk0 : chkG g0 = true := by decide
/-- The lesser, the greater of two floats. -/
def lo2 (x y : Int) : Int := if lessB y x then y else x
def hi2 (x y : Int) : Int := if lessB x y then y else x
def mergeG (a b : Gz) : Gz :=
  ⟨addS a.n b.n, addS a.nans b.nans, if a.n = 0 then b.lo else if b.n = 0 then a.lo else lo2 a.lo b.lo, if a.n = 0 then b.hi else if b.n = 0 then a.hi else hi2 a.hi b.hi⟩
def oneG (x : Int) : Gz := if nanI x then ⟨0, 1, 0, 0⟩ else ⟨1, 0, x, x⟩
def addG (g : Gz) (x : Int) : Gz := mergeG g (oneG x)

theorem key_inj {x y : Int} (hx : Word x) (hy : Word y) (h : keyS x = keyS y) : x = y := by rw [← of_key hx, ← of_key hy, h]
theorem lo2_word {x y : Int} (hx : Word x) (hy : Word y) : Word (lo2 x y) := by unfold lo2; split <;> assumption
theorem hi2_word {x y : Int} (hx : Word x) (hy : Word y) : Word (hi2 x y) := by unfold hi2; split <;> assumption
theorem lo2_num {x y : Int} (hx : nanI x = false) (hy : nanI y = false) : nanI (lo2 x y) = false := by unfold lo2; split <;> assumption
theorem hi2_num {x y : Int} (hx : nanI x = false) (hy : nanI y = false) : nanI (hi2 x y) = false := by unfold hi2; split <;> assumption
theorem less_num {x y : Int} (hx : nanI x = false) (hy : nanI y = false) : lessB x y = decide (keyS x < keyS y) := by unfold lessB; rw [hx, hy]; rfl
theorem lo2_key {x y : Int} (hx : nanI x = false) (hy : nanI y = false) : keyS (lo2 x y) = min (keyS x) (keyS y) := by
  unfold lo2; rw [less_num hy hx]
  by_cases h : keyS y < keyS x
  · rw [if_pos (decide_eq_true h)]; omega
  · rw [if_neg (by simpa using h)]; omega
theorem hi2_key {x y : Int} (hx : nanI x = false) (hy : nanI y = false) : keyS (hi2 x y) = max (keyS x) (keyS y) := by
  unfold hi2; rw [less_num hx hy]
  by_cases h : keyS x < keyS y
  · rw [if_pos (decide_eq_true h)]; omega
  · rw [if_neg (by simpa using h)]; omega
theorem lo2_turn {x y : Int} (wx : Word x) (wy : Word y) (hx : nanI x = false) (hy : nanI y = false) : lo2 x y = lo2 y x :=
  key_inj (lo2_word wx wy) (lo2_word wy wx) (by rw [lo2_key hx hy, lo2_key hy hx]; omega)
theorem hi2_turn {x y : Int} (wx : Word x) (wy : Word y) (hx : nanI x = false) (hy : nanI y = false) : hi2 x y = hi2 y x :=
  key_inj (hi2_word wx wy) (hi2_word wy wx) (by rw [hi2_key hx hy, hi2_key hy hx]; omega)
theorem lo2_group {x y z : Int} (wx : Word x) (wy : Word y) (wz : Word z) (hx : nanI x = false) (hy : nanI y = false) (hz : nanI z = false) : lo2 (lo2 x y) z = lo2 x (lo2 y z) :=
  key_inj (lo2_word (lo2_word wx wy) wz) (lo2_word wx (lo2_word wy wz)) (by rw [lo2_key (lo2_num hx hy) hz, lo2_key hx hy, lo2_key hx (lo2_num hy hz), lo2_key hy hz]; omega)
theorem hi2_group {x y z : Int} (wx : Word x) (wy : Word y) (wz : Word z) (hx : nanI x = false) (hy : nanI y = false) (hz : nanI z = false) : hi2 (hi2 x y) z = hi2 x (hi2 y z) :=
  key_inj (hi2_word (hi2_word wx wy) wz) (hi2_word wx (hi2_word wy wz)) (by rw [hi2_key (hi2_num hx hy) hz, hi2_key hx hy, hi2_key hx (hi2_num hy hz), hi2_key hy hz]; omega)

theorem addS_turn (a b : Int) : addS a b = addS b a := by unfold addS; rw [Int.add_comm]
theorem addS_group {a b c : Int} (ha : Word a) (hb : Word b) (hc : Word c) : addS (addS a b) c = addS a (addS b c) := by
  obtain ⟨_, _⟩ := ha; obtain ⟨_, _⟩ := hb; obtain ⟨_, _⟩ := hc; unfold addS; split <;> split <;> split <;> (try split) <;> omega
theorem addS_zero {a b : Int} (ha : Word a) (hb : Word b) : addS a b = 0 ↔ a = 0 ∧ b = 0 := by
  obtain ⟨_, _⟩ := ha; obtain ⟨_, _⟩ := hb; unfold addS; split <;> omega
theorem addS_right {a : Int} (ha : Word a) : addS a 0 = a := by obtain ⟨_, _⟩ := ha; unfold addS; split <;> omega
theorem addS_left {a : Int} (ha : Word a) : addS 0 a = a := by rw [addS_turn, addS_right ha]

theorem chk_none {g : Gz} (h : chkG g = true) (hn : g.n = 0) : g.lo = 0 ∧ g.hi = 0 := by
  unfold chkG at h; rw [if_pos hn, Bool.and_eq_true, decide_eq_true_eq, decide_eq_true_eq] at h; exact h
theorem chk_some {g : Gz} (h : chkG g = true) (hn : g.n ≠ 0) : nanI g.lo = false ∧ nanI g.hi = false ∧ keyS g.lo ≤ keyS g.hi := by
  unfold chkG at h; rw [if_neg hn] at h
  simp only [Bool.and_eq_true, Bool.not_eq_true'] at h
  obtain ⟨h1, h2, h3⟩ := h
  rw [less_num h2 h1, decide_eq_false_iff_not] at h3
  exact ⟨h1, h2, by omega⟩
theorem chk_of_none {g : Gz} (hn : g.n = 0) (h1 : g.lo = 0) (h2 : g.hi = 0) : chkG g = true := by
  unfold chkG; rw [if_pos hn, h1, h2]; rfl
theorem chk_of_some {g : Gz} (hn : g.n ≠ 0) (h1 : nanI g.lo = false) (h2 : nanI g.hi = false) (h3 : keyS g.lo ≤ keyS g.hi) : chkG g = true := by
  unfold chkG; rw [if_neg hn, less_num h2 h1, h1, h2, decide_eq_false (by omega)]; rfl

theorem mergeG_word {a b : Gz} (ha : GW a) (hb : GW b) : GW (mergeG a b) := by
  refine ⟨addS_word ha.n hb.n, addS_word ha.nans hb.nans, ?_, ?_⟩
  · show Word (ite _ _ _); split
    · exact hb.lo
    · split
      · exact ha.lo
      · exact lo2_word ha.lo hb.lo
  · show Word (ite _ _ _); split
    · exact hb.hi
    · split
      · exact ha.hi
      · exact hi2_word ha.hi hb.hi
theorem merge_l {a b : Gz} (ha : a.n = 0) : (mergeG a b).lo = b.lo ∧ (mergeG a b).hi = b.hi := ⟨if_pos ha, if_pos ha⟩
theorem merge_r {a b : Gz} (ca : chkG a = true) (cb : chkG b = true) (hb : b.n = 0) : (mergeG a b).lo = a.lo ∧ (mergeG a b).hi = a.hi := by
  by_cases ha : a.n = 0
  · obtain ⟨h1, h2⟩ := merge_l (b := b) ha
    obtain ⟨e1, e2⟩ := chk_none ca ha
    obtain ⟨e3, e4⟩ := chk_none cb hb
    exact ⟨by rw [h1, e1, e3], by rw [h2, e2, e4]⟩
  · exact ⟨(if_neg ha).trans (if_pos hb), (if_neg ha).trans (if_pos hb)⟩
theorem merge_b {a b : Gz} (ha : a.n ≠ 0) (hb : b.n ≠ 0) : (mergeG a b).lo = lo2 a.lo b.lo ∧ (mergeG a b).hi = hi2 a.hi b.hi := ⟨(if_neg ha).trans (if_neg hb), (if_neg ha).trans (if_neg hb)⟩
theorem merge_n {a b : Gz} (ha : GW a) (hb : GW b) : (mergeG a b).n = 0 ↔ a.n = 0 ∧ b.n = 0 := addS_zero ha.n hb.n

theorem mergeG_chk {a b : Gz} (ha : GW a) (hb : GW b) (ca : chkG a = true) (cb : chkG b = true) : chkG (mergeG a b) = true := by
  by_cases na : a.n = 0
  · obtain ⟨h1, h2⟩ := merge_l (b := b) na
    by_cases nb : b.n = 0
    · obtain ⟨e1, e2⟩ := chk_none cb nb
      exact chk_of_none ((merge_n ha hb).2 ⟨na, nb⟩) (h1.trans e1) (h2.trans e2)
    · obtain ⟨e1, e2, e3⟩ := chk_some cb nb
      exact chk_of_some (fun h => nb ((merge_n ha hb).1 h).2) (by rw [h1]; exact e1) (by rw [h2]; exact e2) (by rw [h1, h2]; exact e3)
  · obtain ⟨e1, e2, e3⟩ := chk_some ca na
    have hn : (mergeG a b).n ≠ 0 := fun h => na ((merge_n ha hb).1 h).1
    by_cases nb : b.n = 0
    · obtain ⟨h1, h2⟩ := merge_r ca cb nb
      exact chk_of_some hn (by rw [h1]; exact e1) (by rw [h2]; exact e2) (by rw [h1, h2]; exact e3)
    · obtain ⟨h1, h2⟩ := merge_b na nb
      obtain ⟨f1, f2, f3⟩ := chk_some cb nb
      refine chk_of_some hn (by rw [h1]; exact lo2_num e1 f1) (by rw [h2]; exact hi2_num e2 f2) ?_
      rw [h1, h2, lo2_key e1 f1, hi2_key e2 f2]; omega

theorem mergeG_turn {a b : Gz} (ha : GW a) (hb : GW b) (ca : chkG a = true) (cb : chkG b = true) : mergeG a b = mergeG b a := by
  have N : (mergeG a b).n = (mergeG b a).n := addS_turn _ _
  have M : (mergeG a b).nans = (mergeG b a).nans := addS_turn _ _
  by_cases na : a.n = 0
  · obtain ⟨h1, h2⟩ := merge_l (b := b) na
    obtain ⟨k1, k2⟩ := merge_r cb ca na
    exact Gz.ext' N M (h1.trans k1.symm) (h2.trans k2.symm)
  · by_cases nb : b.n = 0
    · obtain ⟨h1, h2⟩ := merge_r ca cb nb
      obtain ⟨k1, k2⟩ := merge_l (b := a) nb
      exact Gz.ext' N M (h1.trans k1.symm) (h2.trans k2.symm)
    · obtain ⟨h1, h2⟩ := merge_b na nb
      obtain ⟨k1, k2⟩ := merge_b nb na
      obtain ⟨e1, e2, _⟩ := chk_some ca na
      obtain ⟨f1, f2, _⟩ := chk_some cb nb
      exact Gz.ext' N M (by rw [h1, k1]; exact lo2_turn ha.lo hb.lo e1 f1) (by rw [h2, k2]; exact hi2_turn ha.hi hb.hi e2 f2)

theorem mergeG_group {a b c : Gz} (ha : GW a) (hb : GW b) (hc : GW c) (ca : chkG a = true) (cb : chkG b = true) (cc : chkG c = true) : mergeG (mergeG a b) c = mergeG a (mergeG b c) := by
  have N : (mergeG (mergeG a b) c).n = (mergeG a (mergeG b c)).n := addS_group ha.n hb.n hc.n
  have M : (mergeG (mergeG a b) c).nans = (mergeG a (mergeG b c)).nans := addS_group ha.nans hb.nans hc.nans
  have wab := mergeG_word ha hb
  have wbc := mergeG_word hb hc
  have cab := mergeG_chk ha hb ca cb
  have cbc := mergeG_chk hb hc cb cc
  by_cases na : a.n = 0
  · obtain ⟨h1, h2⟩ := merge_l (b := b) na
    obtain ⟨k1, k2⟩ := merge_l (b := mergeG b c) na
    by_cases nb : b.n = 0
    · obtain ⟨i1, i2⟩ := merge_l (b := c) nb
      obtain ⟨j1, j2⟩ := merge_l (a := mergeG a b) (b := c) ((merge_n ha hb).2 ⟨na, nb⟩)
      exact Gz.ext' N M (by rw [j1, k1, i1]) (by rw [j2, k2, i2])
    · have nab : (mergeG a b).n ≠ 0 := fun h => nb ((merge_n ha hb).1 h).2
      by_cases nc : c.n = 0
      · obtain ⟨i1, i2⟩ := merge_r cb cc nc
        obtain ⟨j1, j2⟩ := merge_r cab cc nc
        exact Gz.ext' N M (by rw [j1, k1, i1, h1]) (by rw [j2, k2, i2, h2])
      · obtain ⟨i1, i2⟩ := merge_b nb nc
        obtain ⟨j1, j2⟩ := merge_b nab nc
        exact Gz.ext' N M (by rw [j1, k1, i1, h1]) (by rw [j2, k2, i2, h2])
  · have nab : (mergeG a b).n ≠ 0 := fun h => na ((merge_n ha hb).1 h).1
    by_cases nb : b.n = 0
    · obtain ⟨h1, h2⟩ := merge_r ca cb nb
      obtain ⟨i1, i2⟩ := merge_l (b := c) nb
      by_cases nc : c.n = 0
      · obtain ⟨j1, j2⟩ := merge_r cab cc nc
        obtain ⟨k1, k2⟩ := merge_r ca cbc ((merge_n hb hc).2 ⟨nb, nc⟩)
        exact Gz.ext' N M (by rw [j1, k1, h1]) (by rw [j2, k2, h2])
      · have nbc : (mergeG b c).n ≠ 0 := fun h => nc ((merge_n hb hc).1 h).2
        obtain ⟨j1, j2⟩ := merge_b nab nc
        obtain ⟨k1, k2⟩ := merge_b na nbc
        exact Gz.ext' N M (by rw [j1, k1, h1, i1]) (by rw [j2, k2, h2, i2])
    · have nbc : (mergeG b c).n ≠ 0 := fun h => nb ((merge_n hb hc).1 h).1
      obtain ⟨h1, h2⟩ := merge_b na nb
      obtain ⟨k1, k2⟩ := merge_b na nbc
      by_cases nc : c.n = 0
      · obtain ⟨i1, i2⟩ := merge_r cb cc nc
        obtain ⟨j1, j2⟩ := merge_r cab cc nc
        exact Gz.ext' N M (by rw [j1, k1, h1, i1]) (by rw [j2, k2, h2, i2])
      · obtain ⟨i1, i2⟩ := merge_b nb nc
        obtain ⟨j1, j2⟩ := merge_b nab nc
        obtain ⟨e1, e2, _⟩ := chk_some ca na
        obtain ⟨f1, f2, _⟩ := chk_some cb nb
        obtain ⟨d1, d2, _⟩ := chk_some cc nc
        exact Gz.ext' N M (by rw [j1, k1, h1, i1]; exact lo2_group ha.lo hb.lo hc.lo e1 f1 d1) (by rw [j2, k2, h2, i2]; exact hi2_group ha.hi hb.hi hc.hi e2 f2 d2)

theorem merge_g0 {a : Gz} (ha : GW a) (ca : chkG a = true) : mergeG a g0 = a := by
  obtain ⟨h1, h2⟩ := merge_r ca chk0 rfl
  exact Gz.ext' (addS_right ha.n) (addS_right ha.nans) h1 h2
theorem g0_merge {a : Gz} (ha : GW a) (ca : chkG a = true) : mergeG g0 a = a := by rw [mergeG_turn g0W ha chk0 ca, merge_g0 ha ca]

theorem oneG_nan {x : Int} (h : nanI x = true) : oneG x = ⟨0, 1, 0, 0⟩ := if_pos h
theorem oneG_num {x : Int} (h : nanI x = false) : oneG x = ⟨1, 0, x, x⟩ := if_neg (by rw [h]; decide)
theorem oneG_word {x : Int} (h : Word x) : GW (oneG x) := by
  cases e : nanI x
  · rw [oneG_num e]; exact ⟨w1, w0, h, h⟩
  · rw [oneG_nan e]; exact ⟨w0, w1, w0, w0⟩
theorem oneG_chk (x : Int) : chkG (oneG x) = true := by
  cases e : nanI x
  · rw [oneG_num e]; exact chk_of_some (show (1 : Int) ≠ 0 by decide) e e (Int.le_refl _)
  · rw [oneG_nan e]; exact chk_of_none rfl rfl rfl
theorem addG_word {g : Gz} {x : Int} (h : GW g) (hx : Word x) : GW (addG g x) := mergeG_word h (oneG_word hx)
theorem addG_chk {g : Gz} {x : Int} (h : GW g) (hx : Word x) (c : chkG g = true) : chkG (addG g x) = true := mergeG_chk h (oneG_word hx) c (oneG_chk x)
theorem addG_turn {g : Gz} {x y : Int} (h : GW g) (hx : Word x) (hy : Word y) (c : chkG g = true) : addG (addG g x) y = addG (addG g y) x := by
  unfold addG
  rw [mergeG_group h (oneG_word hx) (oneG_word hy) c (oneG_chk x) (oneG_chk y), mergeG_turn (oneG_word hx) (oneG_word hy) (oneG_chk x) (oneG_chk y), ← mergeG_group h (oneG_word hy) (oneG_word hx) c (oneG_chk y) (oneG_chk x)]
theorem addG_g0 {x : Int} (hx : Word x) : addG g0 x = oneG x := g0_merge (oneG_word hx) (oneG_chk x)
/-- One that is none changes no end. -/
theorem addG_none {g : Gz} {x : Int} (h : GW g) (c : chkG g = true) (hx : nanI x = true) : addG g x = ⟨g.n, addS g.nans 1, g.lo, g.hi⟩ := by
  unfold addG; rw [oneG_nan hx]
  obtain ⟨h1, h2⟩ := merge_r (b := ⟨0, 1, 0, 0⟩) c rfl rfl
  exact Gz.ext' (addS_right h.n) rfl h1 h2
theorem addG_one {g : Gz} {x : Int} (h : GW g) (hx : nanI x = false) : addG g x = ⟨addS g.n 1, g.nans, if g.n = 0 then x else lo2 g.lo x, if g.n = 0 then x else hi2 g.hi x⟩ := by
  unfold addG; rw [oneG_num hx]
  by_cases hn : g.n = 0
  · obtain ⟨h1, h2⟩ := merge_l (b := ⟨1, 0, x, x⟩) hn
    exact Gz.ext' rfl (addS_right h.nans) (h1.trans (if_pos hn).symm) (h2.trans (if_pos hn).symm)
  · obtain ⟨h1, h2⟩ := merge_b (b := ⟨1, 0, x, x⟩) hn (show (1 : Int) ≠ 0 by decide)
    exact Gz.ext' rfl (addS_right h.nans) (h1.trans (if_neg hn).symm) (h2.trans (if_neg hn).symm)

/-- Many, one by one. -/
def addAllG (g : Gz) (l : List Int) : Gz := l.foldl addG g
theorem addAllG_nil (g : Gz) : addAllG g [] = g := rfl
theorem addAllG_cons (g : Gz) (x : Int) (l : List Int) : addAllG g (x :: l) = addAllG (addG g x) l := rfl
theorem addAllG_append (g : Gz) (l m : List Int) : addAllG g (l ++ m) = addAllG (addAllG g l) m := List.foldl_append
theorem addAllG_ok (l : List Int) : ∀ g, GW g → chkG g = true → (∀ x ∈ l, Word x) → GW (addAllG g l) ∧ chkG (addAllG g l) = true := by
  induction l with
  | nil => exact fun g h c _ => ⟨h, c⟩
  | cons x l ih => exact fun g h c k => ih _ (addG_word h (k x (by simp))) (addG_chk h (k x (by simp)) c) fun y hy => k y (by simp [hy])
end Go.Proofs.Ytadcaonkmncgoaa
