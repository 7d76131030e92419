/-
  What the products and quotients of package wide come to at any words: contracts, for every world; of what was there nothing turns.
  Conditions: each argument is a word (0 to 2^64 - 1).
-/
import Derived.Test.YtjngpdhhkkambabWideD
import Derived.Deep.QuietTactic
namespace Go.Proofs.Ytjngpdhhkkambab
open Go.RowKit

/-- New blocks, and nothing else, in both of the library's ways to say so. -/
def Grw (w w' : World) : Prop := Grown w w' ∧ Below w.heap.size w w'
theorem Grw.refl (w : World) : Grw w w := ⟨Grown.refl _, Below.refl _ _⟩
theorem Grw.alloc {w w' : World} (h : Grw w w') (c : Array Value) (t : TypeId) : Grw w (w'.alloc (.cells c t)) := ⟨h.1.alloc c t, h.2.alloc h.2.size _⟩
theorem grw_trans {a b c : World} (h : Grw a b) (k : Grw b c) : Grw a c :=
  ⟨⟨World.keptBut_trans h.1.1 k.1.1, fun x => (k.1.2.1 x).trans (h.1.2.1 x), Nat.le_trans h.1.2.2 k.1.2.2⟩, h.2.trans (k.2.mono h.2.size)⟩
theorem grw_drewN {a b : World} (h : Grw a b) (n : Nat) : Grw a (b.drewN n) := ⟨h.1, ⟨h.2.os, h.2.tape, h.2.output, h.2.size, h.2.block⟩⟩

theorem setCell_drewN (w : World) (n : Nat) (a : Addr) (v : Value) : (w.drewN n).setCell a v = (w.setCell a v).drewN n := rfl
theorem alloc_drewN (w : World) (n : Nat) (o : Obj) : (w.drewN n).alloc o = (w.alloc o).drewN n := rfl
theorem cell_drewN (w : World) (n : Nat) (a : Addr) : (w.drewN n).cell? a = w.cell? a := rfl
theorem frozen_drewN (w : World) (n : Nat) (a : Addr) : (w.drewN n).frozen? a = w.frozen? a := rfl
attribute [local go_sem] setCell_drewN alloc_drewN cell_drewN frozen_drewN

/-- The upper and the lower half of a product. -/
def hiS (a b : Int) : Int := a * b / 18446744073709551616
def loS (a b : Int) : Int := a * b % 18446744073709551616
theorem hiS_word {a b : Int} (ha : Word a) (hb : Word b) : Word (hiS a b) := by
  obtain ⟨a0, a1⟩ := ha; obtain ⟨b0, b1⟩ := hb
  have h0 := Int.mul_nonneg a0 b0
  have h1 : a * b ≤ 18446744073709551616 * b := Int.mul_le_mul_of_nonneg_right (Int.le_of_lt a1) b0
  unfold hiS
  exact ⟨Int.ediv_nonneg h0 (by omega), by omega⟩
theorem loS_word (a b : Int) : Word (loS a b) := by unfold loS; exact ⟨by omega, by omega⟩
theorem whole (a b : Int) : hiS a b * 18446744073709551616 + loS a b = a * b := by unfold hiS loS; omega

theorem mul64_any (a b : Int) (ha : Word a) (hb : Word b) (w : World) :
    Calls Try.prog 61 #[.int .u64 a, .int .u64 b] w fun e w' => e = .returned (.tuple #[.int .u64 (hiS a b), .int .u64 (loS a b)]) ∧ w' = w := by
  obtain ⟨a0, a1⟩ := ha; obtain ⟨b0, b1⟩ := hb
  obtain ⟨x, rfl⟩ := Int.eq_ofNat_of_zero_le a0
  obtain ⟨y, rfl⟩ := Int.eq_ofNat_of_zero_le b0
  have e1 : hiS (x : Int) (y : Int) = ((x * y / 18446744073709551616 : Nat) : Int) := by unfold hiS; simp
  have e2 : loS (x : Int) (y : Int) = ((x * y % 18446744073709551616 : Nat) : Int) := by unfold loS; simp
  rw [e1, e2]
  exact Try.bits_Mul64 x y (by omega) (by omega) w

set_option maxHeartbeats 400000 in
theorem product_any (a b : Int) (ha : Word a) (hb : Word b) (w : World) :
    Calls Try.prog 58 #[.int .u64 a, .int .u64 b] w fun e w' => e = .returned (.agg #[.int .u64 (hiS a b), .int .u64 (loS a b)]) ∧ Grw w w' := by
  go_enter Try.func58, Try.ntmps58
  go_wp2_with (go_at_call 61; refine (mul64_any a b ha hb _).mono ?_; rintro e w' ⟨rfl, rfl⟩)
  exact bodyPost_ret (v := .agg #[.int .u64 (hiS a b), .int .u64 (loS a b)]) (by simp [results, Try.results58, go_sem]) rfl ⟨rfl, (Grw.refl _).alloc _ _⟩

/-- A product held at the greatest word. -/
def mulS (a b : Int) : Int := if a * b < 18446744073709551616 then a * b else 18446744073709551615

set_option maxHeartbeats 400000 in
theorem divide_no (p q d : Int) (h : d ≤ p) (w : World) :
    Calls Try.prog 57 #[.agg #[.int .u64 p, .int .u64 q], .int .u64 d] w fun e w' => e = .returned (.agg #[.int .u64 0, .int .u64 0, .bool false]) ∧ Grw w w' := by
  by_cases h0 : d = 0
  · have e1 : (d == 0) = true := beq_iff_eq.2 h0
    clear h0
    go_enter Try.func57, Try.ntmps57
    go_wp2
    exact bodyPost_ret (v := .agg #[.int .u64 0, .int .u64 0, .bool false]) (by simp [results, Try.results57, go_sem]) rfl ⟨rfl, ((Grw.refl _).alloc _ _).alloc _ _⟩
  · have e1 : (d == 0) = false := beq_eq_false_iff_ne.2 h0
    have e2 : decide (d ≤ p) = true := by simp; omega
    go_enter Try.func57, Try.ntmps57
    go_wp2
    exact bodyPost_ret (v := .agg #[.int .u64 0, .int .u64 0, .bool false]) (by simp [results, Try.results57, go_sem]) rfl ⟨rfl, ((Grw.refl _).alloc _ _).alloc _ _⟩

/-- The quotient of two words by one, and what is left. -/
def quoS (p q d : Int) : Int := (p * 18446744073709551616 + q) / d
def remS (p q d : Int) : Int := (p * 18446744073709551616 + q) % d

theorem div64_quo (p q d : Int) (hp : Word p) (hq : Word q) (hd : Word d) (h : p < d) (w : World) :
    Calls Try.prog 60 #[.int .u64 p, .int .u64 q, .int .u64 d] w fun e w' => e = .returned (.tuple #[.int .u64 (quoS p q d), .int .u64 (remS p q d)]) ∧ ∃ n, w' = w.drewN n := by
  unfold quoS remS
  exact div64_any p q d hp hq hd h w

set_option maxHeartbeats 400000 in
theorem divide_yes (p q d : Int) (hp : Word p) (hq : Word q) (hd : Word d) (h : p < d) (w : World) :
    Calls Try.prog 57 #[.agg #[.int .u64 p, .int .u64 q], .int .u64 d] w fun e w' => e = .returned (.agg #[.int .u64 (quoS p q d), .int .u64 (remS p q d), .bool true]) ∧ Grw w w' := by
  have D := hide (fun w => div64_quo p q d hp hq hd h w)
  obtain ⟨p0, p1⟩ := hp; obtain ⟨d0, d1⟩ := hd
  have e1 : (d == 0) = false := beq_eq_false_iff_ne.2 (by omega)
  have e2 : decide (d ≤ p) = false := by simp; omega
  go_enter Try.func57, Try.ntmps57
  go_wp2_with (go_at_call 60; refine (D.out _).mono ?_; rintro e w' ⟨rfl, n, rfl⟩)
  exact bodyPost_ret (v := .agg #[.int .u64 (quoS p q d), .int .u64 (remS p q d), .bool true]) (by simp [results, Try.results57, go_sem]) rfl ⟨rfl, grw_drewN (((Grw.refl _).alloc _ _).alloc _ _) _⟩

set_option maxHeartbeats 400000 in
theorem up_even (q : Int) (f : Bool) (w : World) :
    Calls Try.prog 56 #[.agg #[.int .u64 q, .int .u64 0, .bool f]] w fun e w' => e = .returned (.agg #[.int .u64 q, .int .u64 0, .bool f]) ∧ Grw w w' := by
  go_enter Try.func56, Try.ntmps56
  go_wp2
  exact bodyPost_ret (v := .agg #[.int .u64 q, .int .u64 0, .bool f]) (by simp [results, Try.results56, go_sem]) rfl ⟨rfl, ((Grw.refl _).alloc _ _).alloc _ _⟩

set_option maxHeartbeats 400000 in
theorem up_most (r : Int) (f : Bool) (h : 0 < r) (w : World) :
    Calls Try.prog 56 #[.agg #[.int .u64 18446744073709551615, .int .u64 r, .bool f]] w fun e w' => e = .returned (.agg #[.int .u64 0, .int .u64 0, .bool false]) ∧ Grw w w' := by
  have e1 : (r == 0) = false := beq_eq_false_iff_ne.2 (by omega)
  go_enter Try.func56, Try.ntmps56
  go_wp2
  exact bodyPost_ret (v := .agg #[.int .u64 0, .int .u64 0, .bool false]) (by simp [results, Try.results56, go_sem]) rfl ⟨rfl, ((Grw.refl _).alloc _ _).alloc _ _⟩

set_option maxHeartbeats 400000 in
theorem up_more (q r : Int) (f : Bool) (h : 0 < r) (q0 : 0 ≤ q) (q1 : q < 18446744073709551615) (w : World) :
    Calls Try.prog 56 #[.agg #[.int .u64 q, .int .u64 r, .bool f]] w fun e w' => e = .returned (.agg #[.int .u64 (q + 1), .int .u64 0, .bool true]) ∧ Grw w w' := by
  have e1 : (r == 0) = false := beq_eq_false_iff_ne.2 (by omega)
  have e2 : (q == 18446744073709551615) = false := beq_eq_false_iff_ne.2 (by omega)
  go_enter Try.func56, Try.ntmps56
  go_wp2
  exact bodyPost_ret (v := .agg #[.int .u64 (q + 1), .int .u64 0, .bool true]) (by simp [results, Try.results56, go_sem]) rfl ⟨rfl, ((Grw.refl _).alloc _ _).alloc _ _⟩
end Go.Proofs.Ytjngpdhhkkambab
