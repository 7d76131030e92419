/-
  Ends kept as floats by the machine's own order stand beside a gauge's ends: same value, and the same counts: plain arithmetic.
  Conditions: the floats are words; fewer than 1000 are counted.
-/
import Derived.Test.YtnhjjdgdffjdcaaGaugeK
import Derived.Test.YtnhjjdgdffjdcaaFloW
namespace Go.Proofs.Ytnhjjdgdffjdcaa
open Go.RowKit

theorem lo2_val {a b : Int} (ha : Word a) (hb : Word b) (na : nanI a = false) (nb : nanI b = false) :
    Fl.val (lo2 a b).toNat = if Fl.val b.toNat < Fl.val a.toNat then Fl.val b.toNat else Fl.val a.toNat := by
  unfold lo2
  by_cases z : Fl.val b.toNat = 0 ∧ Fl.val a.toNat = 0
  · rw [if_neg (show ¬ Fl.val b.toNat < Fl.val a.toNat by omega)]
    split <;> omega
  · have k := val_key hb ha nb na z
    rw [less_num nb na, ← k]
    by_cases c : Fl.val b.toNat < Fl.val a.toNat
    · rw [if_pos c, decide_eq_true c, if_pos rfl]
    · rw [if_neg c, decide_eq_false c, if_neg (by decide)]
theorem hi2_val {a b : Int} (ha : Word a) (hb : Word b) (na : nanI a = false) (nb : nanI b = false) :
    Fl.val (hi2 a b).toNat = if Fl.val a.toNat < Fl.val b.toNat then Fl.val b.toNat else Fl.val a.toNat := by
  unfold hi2
  by_cases z : Fl.val a.toNat = 0 ∧ Fl.val b.toNat = 0
  · rw [if_neg (show ¬ Fl.val a.toNat < Fl.val b.toNat by omega)]
    split <;> omega
  · have k := val_key ha hb na nb z
    rw [less_num na nb, ← k]
    by_cases c : Fl.val a.toNat < Fl.val b.toNat
    · rw [if_pos c, decide_eq_true c, if_pos rfl]
    · rw [if_neg c, decide_eq_false c, if_neg (by decide)]

/-- A gauge of 'j' floats beside two counts and two floats kept by the machine's own order. -/
structure Beside (j : Nat) (y : Gz) (c d p q : Nat) : Prop where
  sum : c + d = j
  n : y.n = (c : Int)
  nans : y.nans = (d : Int)
  lp : p < 18446744073709551616
  lq : q < 18446744073709551616
  np : Fl.nanB p = false
  nq : Fl.nanB q = false
  lo : c ≠ 0 → Fl.val p = Fl.val y.lo.toNat
  hi : c ≠ 0 → Fl.val q = Fl.val y.hi.toNat
theorem beside0 : Beside 0 g0 0 0 0 0 := ⟨rfl, rfl, rfl, by decide, by decide, by decide, by decide, fun h => absurd rfl h, fun h => absurd rfl h⟩
section
variable {j c d p q : Nat} {y : Gz} {x : Int}
theorem add1 {a : Int} {k : Nat} (h : a = (k : Int)) (hk : k < 1000) : addS a 1 = ((k + 1 : Nat) : Int) := by
  unfold addS; rw [if_pos (by omega)]; omega
theorem Beside.nan (h : Beside j y c d p q) (hj : j < 1000) (hy : GW y) (cy : chkG y = true) (hx : nanI x = true) : Beside (j + 1) (addG y x) c (d + 1) p q := by
  rw [addG_none hy cy hx]
  have hs := h.sum
  exact ⟨by omega, h.n, add1 h.nans (by omega), h.lp, h.lq, h.np, h.nq, h.lo, h.hi⟩
theorem Beside.first (h : Beside j y c d p q) (hy : GW y) (wx : Word x) (hx : nanI x = false) (hc : c = 0) : Beside (j + 1) (addG y x) (c + 1) d x.toNat x.toNat := by
  rw [addG_one hy hx, if_pos (by rw [h.n, hc]; rfl), if_pos (by rw [h.n, hc]; rfl)]
  have hs := h.sum
  have lx : x.toNat < 18446744073709551616 := by obtain ⟨_, _⟩ := wx; omega
  exact ⟨by omega, add1 h.n (by omega), h.nans, lx, lx, by rw [nan_nat wx]; exact hx, by rw [nan_nat wx]; exact hx, fun _ => rfl, fun _ => rfl⟩
theorem Beside.next (h : Beside j y c d p q) (hj : j < 1000) (hy : GW y) (cy : chkG y = true) (wx : Word x) (hx : nanI x = false) (hc : c ≠ 0) {p' q' : Nat}
    (h1 : p' = if (FloatKind.f64.format.order x.toNat p == some .lt) = true then x.toNat else p)
    (h2 : q' = if (FloatKind.f64.format.order x.toNat q == some .gt) = true then x.toNat else q) : Beside (j + 1) (addG y x) (c + 1) d p' q' := by
  have hn : y.n ≠ 0 := by rw [h.n]; omega
  obtain ⟨nl, nh, _⟩ := chk_some cy hn
  rw [addG_one hy hx, if_neg hn, if_neg hn]
  have hs := h.sum
  have lx : x.toNat < 18446744073709551616 := by obtain ⟨_, _⟩ := wx; omega
  have xn : Fl.nanB x.toNat = false := by rw [nan_nat wx]; exact hx
  have vl := lo2_val hy.lo wx nl hx
  have vh := hi2_val hy.hi wx nh hx
  have el := h.lo hc
  have eh := h.hi hc
  rw [Fl.order_lt lx h.lp, xn, h.np] at h1
  rw [Fl.order_gt lx h.lq, xn, h.nq] at h2
  simp only [Bool.not_false, Bool.true_and, decide_eq_true_eq] at h1 h2
  have hlp := h.lp
  have hlq := h.lq
  have hnp := h.np
  have hnq := h.nq
  refine ⟨by omega, add1 h.n (by omega), h.nans, by rw [h1]; split <;> assumption, by rw [h2]; split <;> assumption, by rw [h1]; split <;> assumption, by rw [h2]; split <;> assumption, fun _ => ?_, fun _ => ?_⟩
  · show _ = Fl.val (lo2 y.lo x).toNat
    rw [vl, h1, ← el]; split <;> rfl
  · show _ = Fl.val (hi2 y.hi x).toNat
    rw [vh, h2, ← eh]; split <;> rfl
theorem Beside.eqlo (h : Beside j y c d p q) (hy : GW y) (cy : chkG y = true) (hc : c ≠ 0) : (FloatKind.f64.format.order y.lo.toNat p == some .eq) = true := by
  have hn : y.n ≠ 0 := by rw [h.n]; omega
  obtain ⟨nl, nh, _⟩ := chk_some cy hn
  have lx : y.lo.toNat < 18446744073709551616 := by obtain ⟨_, _⟩ := hy.lo; omega
  rw [Fl.order_eq lx h.lp, h.np, nan_nat hy.lo, nl, h.lo hc]; simp
theorem Beside.eqhi (h : Beside j y c d p q) (hy : GW y) (cy : chkG y = true) (hc : c ≠ 0) : (FloatKind.f64.format.order y.hi.toNat q == some .eq) = true := by
  have hn : y.n ≠ 0 := by rw [h.n]; omega
  obtain ⟨nl, nh, _⟩ := chk_some cy hn
  have lx : y.hi.toNat < 18446744073709551616 := by obtain ⟨_, _⟩ := hy.hi; omega
  rw [Fl.order_eq lx h.lq, h.nq, nan_nat hy.hi, nh, h.hi hc]; simp
end
end Go.Proofs.Ytnhjjdgdffjdcaa
