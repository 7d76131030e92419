/-
  What the products and quotients of package wide come to at any words: contracts, for every world; of what was there nothing turns.
  Conditions: each argument is a word (0 to 2^64 - 1).
-/
import Derived.Test.YthgpidalegnjgabWideD
import Derived.Deep.QuietTactic
namespace Go.Proofs.Ythgpidalegnjgab
open Go.RowKit

theorem grown_trans {a b c : World} (h : Grown a b) (k : Grown b c) : Grown a c :=
  ⟨World.keptBut_trans h.1 k.1, fun x => (k.2.1 x).trans (h.2.1 x), Nat.le_trans h.2.2 k.2.2⟩
theorem grown_drewN {a b : World} (h : Grown a b) (n : Nat) : Grown a (b.drewN n) := h

theorem setCell_drewN (w : World) (n : Nat) (a : Addr) (v : Value) : (w.drewN n).setCell a v = (w.setCell a v).drewN n := rfl
theorem alloc_drewN (w : World) (n : Nat) (o : Obj) : (w.drewN n).alloc o = (w.alloc o).drewN n := rfl
theorem cell_drewN (w : World) (n : Nat) (a : Addr) : (w.drewN n).cell? a = w.cell? a := rfl
theorem frozen_drewN (w : World) (n : Nat) (a : Addr) : (w.drewN n).frozen? a = w.frozen? a := rfl
attribute [local go_sem] setCell_drewN alloc_drewN cell_drewN frozen_drewN

/-- The upper and the lower half of a product. -/
def hiS (a b : Int) : Int := a * b / 18446744073709551616
def loS (a b : Int) : Int := a * b % 18446744073709551616
theorem hiS_word {a b : Int} (ha : Word a) (hb : Word b) : Word (hiS a b) := by
  obtain ⟨a0, a1⟩ := ha; obtain ⟨b0, b1⟩ := hb
  have h0 := Int.mul_nonneg a0 b0
  have h1 : a * b ≤ 18446744073709551616 * b := Int.mul_le_mul_of_nonneg_right (Int.le_of_lt a1) b0
  unfold hiS
  exact ⟨Int.ediv_nonneg h0 (by omega), by omega⟩
theorem loS_word (a b : Int) : Word (loS a b) := by unfold loS; exact ⟨by omega, by omega⟩
theorem whole (a b : Int) : hiS a b * 18446744073709551616 + loS a b = a * b := by unfold hiS loS; omega

theorem mul64_any (a b : Int) (ha : Word a) (hb : Word b) (w : World) :
    Calls Try.prog 22 #[.int .u64 a, .int .u64 b] w fun e w' => e = .returned (.tuple #[.int .u64 (hiS a b), .int .u64 (loS a b)]) ∧ w' = w := by
  obtain ⟨a0, a1⟩ := ha; obtain ⟨b0, b1⟩ := hb
  obtain ⟨x, rfl⟩ := Int.eq_ofNat_of_zero_le a0
  obtain ⟨y, rfl⟩ := Int.eq_ofNat_of_zero_le b0
  have e1 : hiS (x : Int) (y : Int) = ((x * y / 18446744073709551616 : Nat) : Int) := by unfold hiS; simp
  have e2 : loS (x : Int) (y : Int) = ((x * y % 18446744073709551616 : Nat) : Int) := by unfold loS; simp
  rw [e1, e2]
  exact Try.bits_Mul64 x y (by omega) (by omega) w

set_option maxHeartbeats 400000 in
theorem product_any (a b : Int) (ha : Word a) (hb : Word b) (w : World) :
    Calls Try.prog 19 #[.int .u64 a, .int .u64 b] w fun e w' => e = .returned (.agg #[.int .u64 (hiS a b), .int .u64 (loS a b)]) ∧ Grown w w' := by
  go_enter Try.func19, Try.ntmps19
  go_wp2_with (go_at_call 22; refine (mul64_any a b ha hb _).mono ?_; rintro e w' ⟨rfl, rfl⟩)
  exact bodyPost_ret (v := .agg #[.int .u64 (hiS a b), .int .u64 (loS a b)]) (by simp [results, Try.results19, go_sem]) rfl ⟨rfl, (Grown.refl _).alloc _ _⟩

set_option maxHeartbeats 400000 in
theorem full_any (a b : Int) (ha : Word a) (hb : Word b) (w : World) :
    Calls Try.prog 10 #[.int .u64 a, .int .u64 b] w fun e w' => e = .returned (.tuple #[.int .u64 (hiS a b), .int .u64 (loS a b)]) ∧ Grown w w' := by
  go_enter Try.func10, Try.ntmps10
  go_wp2_with (go_at_call 19; refine (product_any a b ha hb _).mono ?_; rintro e w' ⟨rfl, hg⟩)
  go_quiet (fail)
  go_wp2
  go_ret2
  exact ⟨rfl, grown_drewN (hg.alloc _ _) _⟩

/-- A product held at the greatest word. -/
def mulS (a b : Int) : Int := if a * b < 18446744073709551616 then a * b else 18446744073709551615

set_option maxHeartbeats 400000 in
theorem mul_any (a b : Int) (ha : Word a) (hb : Word b) (w : World) :
    Calls Try.prog 15 #[.int .u64 a, .int .u64 b] w fun e w' => e = .returned (.int .u64 (mulS a b)) ∧ Grown w w' := by
  have hp := Int.mul_nonneg ha.1 hb.1
  by_cases h : a * b < 18446744073709551616
  · have e1 : hiS a b = 0 := by unfold hiS; omega
    have e2 : (hiS a b != 0) = false := by rw [e1]; rfl
    have F : Hid (mulS a b = loS a b) := by show _ = _; unfold mulS loS; rw [if_pos h]; omega
    clear e1 h hp
    go_enter Try.func15, Try.ntmps15
    go_wp2_with (go_at_call 19; refine (product_any a b ha hb _).mono ?_; rintro e w' ⟨rfl, hg⟩)
    go_ret
    exact ⟨ret_u64 F.out.symm, hg.alloc _ _⟩
  · have e2 : (hiS a b != 0) = true := by rw [bne_iff_ne]; unfold hiS; omega
    have F : Hid (mulS a b = 18446744073709551615) := by show _ = _; unfold mulS; rw [if_neg h]
    clear h hp
    go_enter Try.func15, Try.ntmps15
    go_wp2_with (go_at_call 19; refine (product_any a b ha hb _).mono ?_; rintro e w' ⟨rfl, hg⟩)
    go_ret
    exact ⟨ret_u64 F.out.symm, hg.alloc _ _⟩

set_option maxHeartbeats 400000 in
theorem divide_no (p q d : Int) (h : d ≤ p) (w : World) :
    Calls Try.prog 18 #[.agg #[.int .u64 p, .int .u64 q], .int .u64 d] w fun e w' => e = .returned (.agg #[.int .u64 0, .int .u64 0, .bool false]) ∧ Grown w w' := by
  by_cases h0 : d = 0
  · have e1 : (d == 0) = true := beq_iff_eq.2 h0
    clear h0
    go_enter Try.func18, Try.ntmps18
    go_wp2
    exact bodyPost_ret (v := .agg #[.int .u64 0, .int .u64 0, .bool false]) (by simp [results, Try.results18, go_sem]) rfl ⟨rfl, ((Grown.refl _).alloc _ _).alloc _ _⟩
  · have e1 : (d == 0) = false := beq_eq_false_iff_ne.2 h0
    have e2 : decide (d ≤ p) = true := by simp; omega
    go_enter Try.func18, Try.ntmps18
    go_wp2
    exact bodyPost_ret (v := .agg #[.int .u64 0, .int .u64 0, .bool false]) (by simp [results, Try.results18, go_sem]) rfl ⟨rfl, ((Grown.refl _).alloc _ _).alloc _ _⟩

/-- The quotient of two words by one, and what is left. -/
def quoS (p q d : Int) : Int := (p * 18446744073709551616 + q) / d
def remS (p q d : Int) : Int := (p * 18446744073709551616 + q) % d

theorem div64_quo (p q d : Int) (hp : Word p) (hq : Word q) (hd : Word d) (h : p < d) (w : World) :
    Calls Try.prog 21 #[.int .u64 p, .int .u64 q, .int .u64 d] w fun e w' => e = .returned (.tuple #[.int .u64 (quoS p q d), .int .u64 (remS p q d)]) ∧ ∃ n, w' = w.drewN n := by
  unfold quoS remS
  exact div64_any p q d hp hq hd h w

set_option maxHeartbeats 400000 in
theorem divide_yes (p q d : Int) (hp : Word p) (hq : Word q) (hd : Word d) (h : p < d) (w : World) :
    Calls Try.prog 18 #[.agg #[.int .u64 p, .int .u64 q], .int .u64 d] w fun e w' => e = .returned (.agg #[.int .u64 (quoS p q d), .int .u64 (remS p q d), .bool true]) ∧ Grown w w' := by
  have D := hide (fun w => div64_quo p q d hp hq hd h w)
  obtain ⟨p0, p1⟩ := hp; obtain ⟨d0, d1⟩ := hd
  have e1 : (d == 0) = false := beq_eq_false_iff_ne.2 (by omega)
  have e2 : decide (d ≤ p) = false := by simp; omega
  go_enter Try.func18, Try.ntmps18
  go_wp2_with (go_at_call 21; refine (D.out _).mono ?_; rintro e w' ⟨rfl, n, rfl⟩)
  exact bodyPost_ret (v := .agg #[.int .u64 (quoS p q d), .int .u64 (remS p q d), .bool true]) (by simp [results, Try.results18, go_sem]) rfl ⟨rfl, grown_drewN (((Grown.refl _).alloc _ _).alloc _ _) _⟩

set_option maxHeartbeats 400000 in
theorem div_no (p q d : Int) (h : d ≤ p) (w : World) :
    Calls Try.prog 8 #[.int .u64 p, .int .u64 q, .int .u64 d] w fun e w' => e = .returned (.tuple #[.int .u64 0, .int .u64 0, .bool false]) ∧ Grown w w' := by
  go_enter Try.func8, Try.ntmps8
  go_wp2_with (go_at_call 18; refine (divide_no p q d h _).mono ?_; rintro e w' ⟨rfl, hg⟩)
  go_ret3
  exact ⟨rfl, hg.alloc _ _⟩

set_option maxHeartbeats 400000 in
theorem div_yes (p q d : Int) (hp : Word p) (hq : Word q) (hd : Word d) (h : p < d) (w : World) :
    Calls Try.prog 8 #[.int .u64 p, .int .u64 q, .int .u64 d] w fun e w' => e = .returned (.tuple #[.int .u64 (quoS p q d), .int .u64 (remS p q d), .bool true]) ∧ Grown w w' := by
  go_enter Try.func8, Try.ntmps8
  go_wp2_with (go_at_call 18; refine (divide_yes p q d hp hq hd h _).mono ?_; rintro e w' ⟨rfl, hg⟩)
  go_quiet (fail)
  go_wp2
  go_ret3
  exact ⟨rfl, grown_drewN (hg.alloc _ _) _⟩

set_option maxHeartbeats 400000 in
theorem floor_no (a b d : Int) (ha : Word a) (hb : Word b) (h : d ≤ hiS a b) (w : World) :
    Calls Try.prog 11 #[.int .u64 a, .int .u64 b, .int .u64 d] w fun e w' => e = .returned (.tuple #[.int .u64 0, .bool false]) ∧ Grown w w' := by
  go_enter Try.func11, Try.ntmps11
  go_wp2_with (first
    | (go_at_call 19; refine (product_any a b ha hb _).mono ?_; rintro e w1 ⟨rfl, hg1⟩)
    | (go_at_call 18; refine (divide_no _ _ d h _).mono ?_; rintro e w2 ⟨rfl, hg2⟩))
  go_ret2
  exact ⟨rfl, (grown_trans hg1 hg2).alloc _ _⟩

set_option maxHeartbeats 400000 in
theorem floor_yes (a b d : Int) (ha : Word a) (hb : Word b) (hd : Word d) (h : hiS a b < d) (w : World) :
    Calls Try.prog 11 #[.int .u64 a, .int .u64 b, .int .u64 d] w fun e w' => e = .returned (.tuple #[.int .u64 (quoS (hiS a b) (loS a b) d), .bool true]) ∧ Grown w w' := by
  go_enter Try.func11, Try.ntmps11
  go_wp2_with (first
    | (go_at_call 19; refine (product_any a b ha hb _).mono ?_; rintro e w1 ⟨rfl, hg1⟩)
    | (go_at_call 18; refine (divide_yes _ _ d (hiS_word ha hb) (loS_word a b) hd h _).mono ?_; rintro e w2 ⟨rfl, hg2⟩))
  go_ret2
  exact ⟨rfl, (grown_trans hg1 hg2).alloc _ _⟩

set_option maxHeartbeats 400000 in
theorem up_even (q : Int) (f : Bool) (w : World) :
    Calls Try.prog 20 #[.agg #[.int .u64 q, .int .u64 0, .bool f]] w fun e w' => e = .returned (.agg #[.int .u64 q, .int .u64 0, .bool f]) ∧ Grown w w' := by
  go_enter Try.func20, Try.ntmps20
  go_wp2
  exact bodyPost_ret (v := .agg #[.int .u64 q, .int .u64 0, .bool f]) (by simp [results, Try.results20, go_sem]) rfl ⟨rfl, ((Grown.refl _).alloc _ _).alloc _ _⟩

set_option maxHeartbeats 400000 in
theorem up_most (r : Int) (f : Bool) (h : 0 < r) (w : World) :
    Calls Try.prog 20 #[.agg #[.int .u64 18446744073709551615, .int .u64 r, .bool f]] w fun e w' => e = .returned (.agg #[.int .u64 0, .int .u64 0, .bool false]) ∧ Grown w w' := by
  have e1 : (r == 0) = false := beq_eq_false_iff_ne.2 (by omega)
  go_enter Try.func20, Try.ntmps20
  go_wp2
  exact bodyPost_ret (v := .agg #[.int .u64 0, .int .u64 0, .bool false]) (by simp [results, Try.results20, go_sem]) rfl ⟨rfl, ((Grown.refl _).alloc _ _).alloc _ _⟩

set_option maxHeartbeats 400000 in
theorem up_more (q r : Int) (f : Bool) (h : 0 < r) (q0 : 0 ≤ q) (q1 : q < 18446744073709551615) (w : World) :
    Calls Try.prog 20 #[.agg #[.int .u64 q, .int .u64 r, .bool f]] w fun e w' => e = .returned (.agg #[.int .u64 (q + 1), .int .u64 0, .bool true]) ∧ Grown w w' := by
  have e1 : (r == 0) = false := beq_eq_false_iff_ne.2 (by omega)
  have e2 : (q == 18446744073709551615) = false := beq_eq_false_iff_ne.2 (by omega)
  go_enter Try.func20, Try.ntmps20
  go_wp2
  exact bodyPost_ret (v := .agg #[.int .u64 (q + 1), .int .u64 0, .bool true]) (by simp [results, Try.results20, go_sem]) rfl ⟨rfl, ((Grown.refl _).alloc _ _).alloc _ _⟩
end Go.Proofs.Ythgpidalegnjgab
