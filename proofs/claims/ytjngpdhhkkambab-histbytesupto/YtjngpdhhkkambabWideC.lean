/-
  What wide.Ceil and wide.Cmp come to at any words, and one form for each answer of package wide: contracts, for every world; of what was there nothing turns.
  Conditions: each argument is a word (0 to 2^64 - 1).
-/
import Derived.Test.YtjngpdhhkkambabWideB
namespace Go.Proofs.Ytjngpdhhkkambab
open Go.RowKit
attribute [local go_sem] setCell_drewN alloc_drewN cell_drewN frozen_drewN

def divB (p d : Int) : Bool := decide (p < d)
def divQ (p q d : Int) : Int := if p < d then quoS p q d else 0
def divR (p q d : Int) : Int := if p < d then remS p q d else 0
def floorB (a b d : Int) : Bool := divB (hiS a b) d
def floorV (a b d : Int) : Int := divQ (hiS a b) (loS a b) d
def ceilB (a b d : Int) : Bool := decide (hiS a b < d ∧ (remS (hiS a b) (loS a b) d = 0 ∨ quoS (hiS a b) (loS a b) d < 18446744073709551615))
def ceilV (a b d : Int) : Int := if hiS a b < d ∧ (remS (hiS a b) (loS a b) d = 0 ∨ quoS (hiS a b) (loS a b) d < 18446744073709551615) then (if remS (hiS a b) (loS a b) d = 0 then quoS (hiS a b) (loS a b) d else quoS (hiS a b) (loS a b) d + 1) else 0
def cmpS (a b c d : Int) : Int := if a * d < c * b then -1 else if c * b < a * d then 1 else 0

theorem ret_three {a b c d : Int} {f g : Bool} (h : a = b) (h' : c = d) (k : f = g) : Ending.returned (.tuple #[.int .u64 a, .int .u64 c, .bool f]) = .returned (.tuple #[.int .u64 b, .int .u64 d, .bool g]) := by rw [h, h', k]
theorem ret_flag {a b : Int} {f g : Bool} (h : a = b) (k : f = g) : Ending.returned (.tuple #[.int .u64 a, .bool f]) = .returned (.tuple #[.int .u64 b, .bool g]) := by rw [h, k]

theorem quo_bounds {p q d : Int} (hp : Word p) (hq : Word q) (h : p < d) : Word (quoS p q d) ∧ 0 ≤ remS p q d ∧ remS p q d < d := by
  obtain ⟨p0, p1⟩ := hp; obtain ⟨q0, q1⟩ := hq
  unfold quoS remS
  refine ⟨⟨Int.ediv_nonneg (by omega) (by omega), ?_⟩, Int.emod_nonneg _ (by omega), Int.emod_lt_of_pos _ (by omega)⟩
  rw [Int.ediv_lt_iff_lt_mul (by omega)]; omega

set_option maxHeartbeats 400000 in
theorem ceil_no (a b d : Int) (ha : Word a) (hb : Word b) (h : d ≤ hiS a b) (w : World) :
    Calls Try.prog 44 #[.int .u64 a, .int .u64 b, .int .u64 d] w fun e w' => e = .returned (.tuple #[.int .u64 0, .bool false]) ∧ Grw w w' := by
  go_enter Try.func44, Try.ntmps44
  go_wp2_with (first
    | (go_at_call 58; refine (product_any a b ha hb _).mono ?_; rintro e w1 ⟨rfl, hg1⟩)
    | (go_at_call 57; refine (divide_no _ _ d h _).mono ?_; rintro e w2 ⟨rfl, hg2⟩)
    | (go_at_call 56; refine (up_even _ _ _).mono ?_; rintro e w3 ⟨rfl, hg3⟩))
  go_ret2
  exact ⟨rfl, (grw_trans (grw_trans hg1 hg2) hg3).alloc _ _⟩

set_option maxHeartbeats 400000 in
theorem ceil_even (a b d : Int) (ha : Word a) (hb : Word b) (hd : Word d) (h : hiS a b < d) (hr : remS (hiS a b) (loS a b) d = 0) (w : World) :
    Calls Try.prog 44 #[.int .u64 a, .int .u64 b, .int .u64 d] w fun e w' => e = .returned (.tuple #[.int .u64 (quoS (hiS a b) (loS a b) d), .bool true]) ∧ Grw w w' := by
  have D := hide (fun w => divide_yes (hiS a b) (loS a b) d (hiS_word ha hb) (loS_word a b) hd h w)
  rw [hr] at D
  clear hr
  go_enter Try.func44, Try.ntmps44
  go_wp2_with (first
    | (go_at_call 58; refine (product_any a b ha hb _).mono ?_; rintro e w1 ⟨rfl, hg1⟩)
    | (go_at_call 57; refine (D.out _).mono ?_; rintro e w2 ⟨rfl, hg2⟩)
    | (go_at_call 56; refine (up_even _ _ _).mono ?_; rintro e w3 ⟨rfl, hg3⟩))
  go_ret2
  exact ⟨rfl, (grw_trans (grw_trans hg1 hg2) hg3).alloc _ _⟩

set_option maxHeartbeats 400000 in
theorem ceil_most (a b d : Int) (ha : Word a) (hb : Word b) (hd : Word d) (h : hiS a b < d) (hr : 0 < remS (hiS a b) (loS a b) d) (hq : quoS (hiS a b) (loS a b) d = 18446744073709551615) (w : World) :
    Calls Try.prog 44 #[.int .u64 a, .int .u64 b, .int .u64 d] w fun e w' => e = .returned (.tuple #[.int .u64 0, .bool false]) ∧ Grw w w' := by
  have D := hide (fun w => divide_yes (hiS a b) (loS a b) d (hiS_word ha hb) (loS_word a b) hd h w)
  rw [hq] at D
  clear hq
  go_enter Try.func44, Try.ntmps44
  go_wp2_with (first
    | (go_at_call 58; refine (product_any a b ha hb _).mono ?_; rintro e w1 ⟨rfl, hg1⟩)
    | (go_at_call 57; refine (D.out _).mono ?_; rintro e w2 ⟨rfl, hg2⟩)
    | (go_at_call 56; refine (up_most _ _ hr _).mono ?_; rintro e w3 ⟨rfl, hg3⟩))
  go_ret2
  exact ⟨rfl, (grw_trans (grw_trans hg1 hg2) hg3).alloc _ _⟩

set_option maxHeartbeats 400000 in
theorem ceil_more (a b d : Int) (ha : Word a) (hb : Word b) (hd : Word d) (h : hiS a b < d) (hr : 0 < remS (hiS a b) (loS a b) d) (hq : quoS (hiS a b) (loS a b) d < 18446744073709551615) (w : World) :
    Calls Try.prog 44 #[.int .u64 a, .int .u64 b, .int .u64 d] w fun e w' => e = .returned (.tuple #[.int .u64 (quoS (hiS a b) (loS a b) d + 1), .bool true]) ∧ Grw w w' := by
  have hq0 := (quo_bounds (hiS_word ha hb) (loS_word a b) h).1.1
  go_enter Try.func44, Try.ntmps44
  go_wp2_with (first
    | (go_at_call 58; refine (product_any a b ha hb _).mono ?_; rintro e w1 ⟨rfl, hg1⟩)
    | (go_at_call 57; refine (divide_yes _ _ d (hiS_word ha hb) (loS_word a b) hd h _).mono ?_; rintro e w2 ⟨rfl, hg2⟩)
    | (go_at_call 56; refine (up_more _ _ _ hr hq0 hq _).mono ?_; rintro e w3 ⟨rfl, hg3⟩))
  go_ret2
  exact ⟨rfl, (grw_trans (grw_trans hg1 hg2) hg3).alloc _ _⟩

theorem ceil_any (a b d : Int) (ha : Word a) (hb : Word b) (hd : Word d) (w : World) :
    Calls Try.prog 44 #[.int .u64 a, .int .u64 b, .int .u64 d] w fun e w' => e = .returned (.tuple #[.int .u64 (ceilV a b d), .bool (ceilB a b d)]) ∧ Grw w w' := by
  by_cases h : hiS a b < d
  · obtain ⟨⟨k1, k2⟩, k3, k4⟩ := quo_bounds (hiS_word ha hb) (loS_word a b) h
    by_cases hr : remS (hiS a b) (loS a b) d = 0
    · refine (ceil_even a b d ha hb hd h hr w).mono ?_
      rintro e w' ⟨rfl, hg⟩
      exact ⟨ret_flag (by unfold ceilV; rw [if_pos ⟨h, Or.inl hr⟩, if_pos hr]) (by unfold ceilB; rw [decide_eq_true ⟨h, Or.inl hr⟩]), hg⟩
    · by_cases hq : quoS (hiS a b) (loS a b) d < 18446744073709551615
      · refine (ceil_more a b d ha hb hd h (by omega) hq w).mono ?_
        rintro e w' ⟨rfl, hg⟩
        exact ⟨ret_flag (by unfold ceilV; rw [if_pos ⟨h, Or.inr hq⟩, if_neg hr]) (by unfold ceilB; rw [decide_eq_true ⟨h, Or.inr hq⟩]), hg⟩
      · refine (ceil_most a b d ha hb hd h (by omega) (by omega) w).mono ?_
        rintro e w' ⟨rfl, hg⟩
        have hn : ¬ (hiS a b < d ∧ (remS (hiS a b) (loS a b) d = 0 ∨ quoS (hiS a b) (loS a b) d < 18446744073709551615)) := by
          rintro ⟨_, k | k⟩
          · exact hr k
          · exact hq k
        exact ⟨ret_flag (by unfold ceilV; rw [if_neg hn]) (by unfold ceilB; rw [decide_eq_false hn]), hg⟩
  · refine (ceil_no a b d ha hb (by omega) w).mono ?_
    rintro e w' ⟨rfl, hg⟩
    have hn : ¬ (hiS a b < d ∧ (remS (hiS a b) (loS a b) d = 0 ∨ quoS (hiS a b) (loS a b) d < 18446744073709551615)) := fun k => h k.1
    exact ⟨ret_flag (by unfold ceilV; rw [if_neg hn]) (by unfold ceilB; rw [decide_eq_false hn]), hg⟩

theorem cmp_lt {a b c d : Int} (h : hiS a d < hiS c b ∨ (hiS a d = hiS c b ∧ loS a d < loS c b)) : cmpS a b c d = -1 := by
  unfold cmpS; unfold hiS loS at h
  rw [if_pos (by omega)]
theorem cmp_gt {a b c d : Int} (h : hiS c b < hiS a d ∨ (hiS a d = hiS c b ∧ loS c b < loS a d)) : cmpS a b c d = 1 := by
  unfold cmpS; unfold hiS loS at h
  rw [if_neg (by omega), if_pos (by omega)]
theorem cmp_eq {a b c d : Int} (h : hiS a d = hiS c b) (h' : loS a d = loS c b) : cmpS a b c d = 0 := by
  unfold cmpS; unfold hiS at h; unfold loS at h'
  rw [if_neg (by omega), if_neg (by omega)]

theorem ret_i64 {a b : Int} (h : a = b) : Ending.returned (.int .i64 a) = .returned (.int .i64 b) := by rw [h]

end Go.Proofs.Ytjngpdhhkkambab
