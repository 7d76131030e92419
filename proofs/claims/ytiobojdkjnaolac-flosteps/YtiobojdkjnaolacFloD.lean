/-
  What flo.Units comes to at any word and shift, and that the document's examples for package flo hold: contracts, for every world; they change nothing.
  Conditions: the word is 0 to 2^64 - 1, the shift a number of 64 bits with a sign.
-/
import Derived.Test.YtiobojdkjnaolacFloC
import Derived.Test.YtiobojdkjnaolacShelf
namespace Go.Proofs.Ytiobojdkjnaolac
open Go.RowKit
attribute [local go_sem] run_bits run_frombits

theorem parts_any (x : Int) (h0 : 0 ≤ x) (h1 : x < 9218868437227405312) (w : World) :
    Calls Try.prog 17 #[.int .u64 x] w fun e w' => e = .returned (.tuple #[.int .u64 (Fl.mg x.toNat), .int .i64 (-1074 + (Fl.pl x.toNat : Int))]) ∧ w' = w := by
  have A := Fl.and_frac h0 (show x < 18446744073709551616 by omega)
  by_cases k : x < 4503599627370496
  · have e1 : x / 4503599627370496 = 0 := by omega
    have F1 : Hid (x % 4503599627370496 = (Fl.mg x.toNat : Int)) := by show _ = _; unfold Fl.mg; split <;> omega
    have F2 : Hid (-1074 = (-1074 + (Fl.pl x.toNat : Int))) := by show _ = _; unfold Fl.pl; omega
    go_enter Try.func17, Try.ntmps17
    go_wp2
    go_ret2
    exact ⟨ret_two F1.out F2.out, rfl⟩
  · have e1 : (x / 4503599627370496 == 0) = false := beq_eq_false_iff_ne.2 (by omega)
    have F1 : Hid (4503599627370496 + x % 4503599627370496 = (Fl.mg x.toNat : Int)) := by show _ = _; unfold Fl.mg; split <;> omega
    have F2 : Hid (-1074 + x / 4503599627370496 - 1 = (-1074 + (Fl.pl x.toNat : Int))) := by show _ = _; unfold Fl.pl; omega
    have B := Fl.or_hidden (x := x % 4503599627370496) (by omega) (by omega)
    go_enter Try.func17, Try.ntmps17
    go_wp2
    go_ret2
    exact ⟨ret_two F1.out F2.out, rfl⟩

theorem shr_any {d c : Int} (d0 : 0 ≤ d) (d1 : d < 18446744073709551616) (c0 : 0 ≤ c) (j : IntKind) :
    Op.shift .shr .u64 d j c = pure (.int .u64 (d / 2 ^ c.toNat)) := by
  rw [shift_shr_any _ _ _ _ c0]
  by_cases k : c.toNat ≤ 64
  · rw [show min c.toNat IntKind.u64.bits = c.toNat from Nat.min_eq_left k]
  · rw [show min c.toNat IntKind.u64.bits = 64 from Nat.min_eq_right (by show 64 ≤ c.toNat; omega)]
    have e : d / 2 ^ 64 = 0 := by
      rw [show (2 : Int) ^ 64 = 18446744073709551616 by decide +kernel]; omega
    have f : d / 2 ^ c.toNat = 0 := by
      refine Int.ediv_eq_zero_of_lt d0 (Int.lt_of_lt_of_le d1 ?_)
      have h : (2 : Nat) ^ 64 ≤ 2 ^ c.toNat := Nat.pow_le_pow_right (by omega) (by omega)
      have h2 : ((2 ^ 64 : Nat) : Int) ≤ ((2 ^ c.toNat : Nat) : Int) := Int.ofNat_le.2 h
      rw [show (18446744073709551616 : Int) = ((2 ^ 64 : Nat) : Int) by decide +kernel]
      rw [Int.natCast_pow 2 c.toNat] at h2
      exact h2
    rw [e, f]

theorem scaled_lo (d p : Int) (d0 : 0 ≤ d) (d1 : d < 18446744073709551616) (p0 : -10000 ≤ p) (p1 : p < 0) (w : World) :
    Calls Try.prog 18 #[.int .u64 d, .int .i64 p] w fun e w' => e = .returned (.tuple #[.int .u64 (d / 2 ^ (-p).toNat), .int .i64 0]) ∧ w' = w := by
  have S := shr_any d0 d1 (show 0 ≤ -p by omega) .i64
  go_enter Try.func18, Try.ntmps18
  go_wp2
  go_ret2
  exact ⟨ret_two rfl rfl, rfl⟩

theorem scaled_above (d p : Int) (d0 : 0 ≤ d) (d1 : d < 18446744073709551616) (p0 : 0 ≤ p) (p1 : p < 10000) (h : 64 < (Lib.bitLen d.toNat : Int) + p) (w : World) :
    Calls Try.prog 18 #[.int .u64 d, .int .i64 p] w fun e w' => e = .returned (.tuple #[.int .u64 18446744073709551615, .int .i64 2]) ∧ w' = w := by
  have L := hide (fun w => Try.bits_Len64 d w d0 (by omega))
  have bl : Lib.bitLen d.toNat ≤ 64 := Lib.bitLen_le d.toNat 64 (Nat.le_refl _) (by have : (2 : Nat) ^ 64 = 18446744073709551616 := by decide +kernel
                                                                                    omega)
  go_enter Try.func18, Try.ntmps18
  go_wp2_with (go_at_call 20; refine (L.out _).mono ?_; rintro e w' ⟨rfl, rfl⟩)
  go_ret2
  exact ⟨ret_two rfl rfl, rfl⟩

theorem scaled_fits (d p : Int) (d0 : 0 ≤ d) (d1 : d < 18446744073709551616) (p0 : 0 ≤ p) (p1 : p < 10000) (h : (Lib.bitLen d.toNat : Int) + p ≤ 64) (h2 : d * 2 ^ p.toNat < 18446744073709551616) (w : World) :
    Calls Try.prog 18 #[.int .u64 d, .int .i64 p] w fun e w' => e = .returned (.tuple #[.int .u64 (d * 2 ^ p.toNat), .int .i64 0]) ∧ w' = w := by
  have L := hide (fun w => Try.bits_Len64 d w d0 (by omega))
  have bl : Lib.bitLen d.toNat ≤ 64 := Lib.bitLen_le d.toNat 64 (Nat.le_refl _) (by have : (2 : Nat) ^ 64 = 18446744073709551616 := by decide +kernel
                                                                                    omega)
  have F : Hid (IntKind.u64.wrap (d * 2 ^ p.toNat) = d * 2 ^ p.toNat) := by
    show _ = _
    have h3 : 0 ≤ d * 2 ^ p.toNat := Int.mul_nonneg d0 (Int.pow_nonneg (by decide))
    rw [IntKind.wrap_u64]
    generalize d * 2 ^ p.toNat = X at *
    omega
  clear h2
  go_enter Try.func18, Try.ntmps18
  go_wp2_with (go_at_call 20; refine (L.out _).mono ?_; rintro e w' ⟨rfl, rfl⟩)
  go_ret2
  exact ⟨ret_two F.out rfl, rfl⟩

def clampS (s : Int) : Int := if s < -2000 then -2000 else if 2000 < s then 2000 else s
theorem clamp_bounds (s : Int) : -2000 ≤ clampS s ∧ clampS s ≤ 2000 := by unfold clampS; split <;> (try split) <;> omega
/-- Whole units of a word at a shift, and what became of them. -/
def unitV (x s : Int) : Int := if 9218868437227405312 < x % 9223372036854775808 then 0 else if 9223372036854775808 ≤ x then 0 else if x = 9218868437227405312 then 18446744073709551615 else if Fl.un x.toNat (clampS s) < 18446744073709551616 then Fl.un x.toNat (clampS s) else 18446744073709551615
def unitK (x s : Int) : Int := if 9218868437227405312 < x % 9223372036854775808 then 3 else if 9223372036854775808 < x then 1 else if x = 9223372036854775808 then 0 else if x = 9218868437227405312 then 2 else if Fl.un x.toNat (clampS s) < 18446744073709551616 then 0 else 2

theorem order_below {x : Int} (h : Word x) : (FloatKind.f64.format.order x.toNat 0 == some .lt) = (!nanI x && decide (9223372036854775808 < x)) := by
  obtain ⟨h0, h1⟩ := h
  obtain ⟨n, rfl⟩ := Int.eq_ofNat_of_zero_le h0
  rw [Int.toNat_natCast, Fl.order_lt (by omega) (by omega), Bool.eq_iff_iff]
  unfold Fl.nanB Fl.val nanI Fl.rg
  simp only [Bool.and_eq_true, Bool.not_eq_true', decide_eq_true_eq, decide_eq_false_iff_not]
  split <;> split <;> omega

theorem units_of {x : Int} (s : Int) (h0 : 0 < x) (h1 : x < 9218868437227405312) :
    unitV x s = (if Fl.un x.toNat (clampS s) < 18446744073709551616 then (Fl.un x.toNat (clampS s) : Int) else 18446744073709551615) ∧ unitK x s = (if Fl.un x.toNat (clampS s) < 18446744073709551616 then 0 else 2) := by
  have a : ¬ 9218868437227405312 < x % 9223372036854775808 := by omega
  refine ⟨?_, ?_⟩
  · unfold unitV; rw [if_neg a, if_neg (by omega), if_neg (by omega)]
  · unfold unitK; rw [if_neg a, if_neg (by omega), if_neg (by omega), if_neg (by omega)]

theorem scaled_all (x s : Int) (h0 : 0 < x) (h1 : x < 9218868437227405312) (w : World) :
    Calls Try.prog 18 #[.int .u64 (Fl.mg x.toNat), .int .i64 (-1074 + (Fl.pl x.toNat : Int) + clampS s)] w fun e w' => e = .returned (.tuple #[.int .u64 (unitV x s), .int .i64 (unitK x s)]) ∧ w' = w := by
  obtain ⟨c0, c1⟩ := clamp_bounds s
  obtain ⟨u1, u2⟩ := units_of s h0 h1
  have hm := Fl.mg_lt x.toNat
  have hm0 : Fl.mg x.toNat ≠ 0 := by unfold Fl.mg; split <;> omega
  have hp : Fl.pl x.toNat ≤ 2046 := by unfold Fl.pl; omega
  by_cases k : -1074 + (Fl.pl x.toNat : Int) + clampS s < 0
  · have e := Fl.un_lo c0 k
    have l := Fl.un_lo_lt c0 k
    rw [if_pos (by omega)] at u1 u2
    refine (scaled_lo _ _ (by omega) (by omega) (by omega) k w).mono ?_
    rintro e' w' ⟨rfl, rfl⟩
    refine ⟨ret_two ?_ u2.symm, rfl⟩
    rw [u1, e, Int.natCast_ediv, Int.natCast_pow]; rfl
  · have e := Fl.un_hi c0 (show 0 ≤ -1074 + (Fl.pl x.toNat : Int) + clampS s by omega)
    have L := Fl.len_iff (d := Fl.mg x.toNat) (p := (-1074 + (Fl.pl x.toNat : Int) + clampS s).toNat) hm0 (by omega)
    rw [← e, show (((-1074 + (Fl.pl x.toNat : Int) + clampS s).toNat : Nat) : Int) = -1074 + (Fl.pl x.toNat : Int) + clampS s by omega] at L
    by_cases f : Fl.un x.toNat (clampS s) < 18446744073709551616
    · rw [if_pos f] at u1 u2
      have ec : (Fl.un x.toNat (clampS s) : Int) = (Fl.mg x.toNat : Int) * 2 ^ (-1074 + (Fl.pl x.toNat : Int) + clampS s).toNat := by
        rw [e, Int.natCast_mul, Int.natCast_pow]; rfl
      refine (scaled_fits _ _ (by omega) (by omega) (by omega) (by omega) (by rw [Int.toNat_natCast]; omega) (by omega) w).mono ?_
      rintro e' w' ⟨rfl, rfl⟩
      exact ⟨ret_two (ec.symm.trans u1.symm) u2.symm, rfl⟩
    · rw [if_neg f] at u1 u2
      refine (scaled_above _ _ (by omega) (by omega) (by omega) (by omega) (by rw [Int.toNat_natCast]; omega) w).mono ?_
      rintro e' w' ⟨rfl, rfl⟩
      exact ⟨ret_two u1.symm u2.symm, rfl⟩

set_option maxHeartbeats 1000000 in
theorem units_any (x s : Int) (h : Word x) (w : World) :
    Calls Try.prog 13 #[.int .u64 x, .int .i64 s] w fun e w' => e = .returned (.tuple #[.int .u64 (unitV x s), .int .i64 (unitK x s)]) ∧ w' = w := by
  have lx : x.toNat < 18446744073709551616 := by obtain ⟨_, _⟩ := h; omega
  have ez := order_zero h
  have eb := order_below h
  have N := hide (fun w => isnan_any x.toNat lx w)
  have I := hide (fun w => isinf_any x.toNat lx w)
  rw [nan_nat h] at N
  obtain ⟨c0, c1⟩ := clamp_bounds s
  obtain ⟨h0, h1⟩ := h
  by_cases kn : 9218868437227405312 < x % 9223372036854775808
  · have F1 : Hid (unitV x s = 0) := by show _ = _; unfold unitV; rw [if_pos kn]
    have F2 : Hid (unitK x s = 3) := by show _ = _; unfold unitK; rw [if_pos kn]
    rw [show nanI x = true from decide_eq_true kn] at N
    clear ez eb kn
    go_enter Try.func13, Try.ntmps13
    go_wp2_with (first
      | (go_at_call 9; refine (N.out _).mono ?_; rintro e w' ⟨rfl, rfl⟩))
    go_ret2
    exact ⟨ret_two F1.out.symm F2.out.symm, rfl⟩
  · rw [show nanI x = false from decide_eq_false kn] at N eb
    by_cases k1 : 9223372036854775808 < x
    · have F1 : Hid (unitV x s = 0) := by show _ = _; unfold unitV; rw [if_neg kn, if_pos (by omega)]
      have F2 : Hid (unitK x s = 1) := by show _ = _; unfold unitK; rw [if_neg kn, if_pos k1]
      rw [decide_eq_true k1] at eb
      replace eb : (FloatKind.f64.format.order x.toNat 0 == some .lt) = true := eb
      clear ez kn k1
      go_enter Try.func13, Try.ntmps13
      go_wp2_with (first
        | (go_at_call 9; refine (N.out _).mono ?_; rintro e w' ⟨rfl, rfl⟩))
      go_ret2
      exact ⟨ret_two F1.out.symm F2.out.symm, rfl⟩
    · rw [decide_eq_false k1] at eb
      replace eb : (FloatKind.f64.format.order x.toNat 0 == some .lt) = false := eb
      by_cases k2 : x = 0 ∨ x = 9223372036854775808
      · have F1 : Hid (unitV x s = 0) := by
          show _ = _; unfold unitV; rw [if_neg kn]
          rcases k2 with rfl | rfl
          · rw [if_neg (by omega), if_neg (by omega)]
            rw [show (0 : Int).toNat = 0 from rfl, Fl.un_zero]; rfl
          · rw [if_pos (by omega)]
        have F2 : Hid (unitK x s = 0) := by
          show _ = _; unfold unitK; rw [if_neg kn, if_neg k1]
          rcases k2 with rfl | rfl
          · rw [if_neg (by omega), if_neg (by omega)]
            rw [show (0 : Int).toNat = 0 from rfl, Fl.un_zero]; rfl
          · rw [if_pos rfl]
        rw [show zeroB x = true from decide_eq_true k2] at ez
        clear kn k1 k2
        go_enter Try.func13, Try.ntmps13
        go_wp2_with (first
          | (go_at_call 9; refine (N.out _).mono ?_; rintro e w' ⟨rfl, rfl⟩))
        go_ret2
        exact ⟨ret_two F1.out.symm F2.out.symm, rfl⟩
      · rw [show zeroB x = false from decide_eq_false k2] at ez
        by_cases k3 : x = 9218868437227405312
        · have F1 : Hid (unitV x s = 18446744073709551615) := by
            show _ = _; unfold unitV; rw [if_neg kn, if_neg (by omega), if_pos k3]
          have F2 : Hid (unitK x s = 2) := by
            show _ = _; unfold unitK; rw [if_neg kn, if_neg k1, if_neg (by omega), if_pos k3]
          rw [decide_eq_true (show x.toNat = 9218868437227405312 by omega)] at I
          clear kn k1 k2 k3
          go_enter Try.func13, Try.ntmps13
          go_wp2_with (first
            | (go_at_call 9; refine (N.out _).mono ?_; rintro e w' ⟨rfl, rfl⟩)
            | (go_at_call 10; refine (I.out _).mono ?_; rintro e w' ⟨rfl, rfl⟩))
          go_ret2
          exact ⟨ret_two F1.out.symm F2.out.symm, rfl⟩
        · have hx : x < 9218868437227405312 := by omega
          rw [decide_eq_false (show ¬ x.toNat = 9218868437227405312 by omega)] at I
          have P := hide (fun w => parts_any x h0 hx w)
          have S := hide (fun w => scaled_all x s (by omega) hx w)
          have W : Hid (wrap64 (-1074 + (Fl.pl x.toNat : Int) + min (max s (-2000)) 2000) = -1074 + (Fl.pl x.toNat : Int) + clampS s) := by
            show _ = _
            have hp : Fl.pl x.toNat ≤ 2046 := by unfold Fl.pl; omega
            have hc : min (max s (-2000)) 2000 = clampS s := by unfold clampS; split <;> (try split) <;> omega
            rw [hc]; unfold wrap64; omega
          clear kn k1 k2 k3 hx
          go_enter Try.func13, Try.ntmps13
          go_wp2_with (first
            | (go_at_call 9; refine (N.out _).mono ?_; rintro e w' ⟨rfl, rfl⟩)
            | (go_at_call 10; refine (I.out _).mono ?_; rintro e w' ⟨rfl, rfl⟩)
            | (go_at_call 17; refine (P.out _).mono ?_; rintro e w' ⟨rfl, rfl⟩)
            | (go_at_call 18; rw [W.out]; refine (S.out _).mono ?_; rintro e w' ⟨rfl, rfl⟩))
          go_ret2
          exact ⟨rfl, rfl⟩

set_option maxHeartbeats 400000 in
theorem awake_any (w : World) :
    Calls Try.prog 6 #[] w fun e w' => e = .returned (.bool true) ∧ w' = w := by
  have u1 : Fl.un (4612811918334230528 : Int).toNat (clampS 1) = 5 := by
    rw [Fl.un_lo (by decide) (by decide)]; decide
  have x1 : unitV 4612811918334230528 1 = 5 := by
    rw [(units_of 1 (by omega) (by omega)).1, u1]; decide
  have x2 : unitK 4612811918334230528 1 = 0 := by
    rw [(units_of 1 (by omega) (by omega)).2, u1]; decide
  have x3 : unitK 13826050856027422720 0 = 1 := by unfold unitK; rw [if_neg (by omega), if_pos (by omega)]
  have x4 : kindS 9223372036854775808 = 0 := by decide
  have x5 : kindS 9221120237041090561 = 4 := by decide
  have x6 : lessB 9223372036854775808 0 = true := by decide
  have A := hide (fun w => units_any 4612811918334230528 1 (word_lit (by omega) (by omega)) w)
  have B := hide (fun w => units_any 13826050856027422720 0 (word_lit (by omega) (by omega)) w)
  have C := hide (fun w => kind_any 9223372036854775808 (word_lit (by omega) (by omega)) w)
  have D := hide (fun w => kind_any 9221120237041090561 (word_lit (by omega) (by omega)) w)
  have E := hide (fun w => less_any 9223372036854775808 0 (word_lit (by omega) (by omega)) (word_lit (by omega) (by omega)) w)
  rw [x1, x2] at A
  rw [x3] at B
  rw [x4] at C
  rw [x5] at D
  rw [x6] at E
  clear x1 x2 x3 x4 x5 x6 u1
  go_enter Try.func6, Try.ntmps6
  go_wp2_with fail
  refine (A.out _).mono ?_
  rintro e w1 ⟨rfl, rfl⟩
  go_wp2_with fail
  refine (B.out _).mono ?_
  rintro e w1 ⟨rfl, rfl⟩
  go_wp2_with fail
  refine (C.out _).mono ?_
  rintro e w1 ⟨rfl, rfl⟩
  go_wp2_with fail
  refine (E.out _).mono ?_
  rintro e w1 ⟨rfl, rfl⟩
  go_wp2_with fail
  refine (nan_any _).mono ?_
  rintro e w1 ⟨rfl, rfl⟩
  go_wp2_with fail
  refine (D.out _).mono ?_
  rintro e w1 ⟨rfl, rfl⟩
  go_wp2
  go_ret
  exact ⟨rfl, rfl⟩
end Go.Proofs.Ytiobojdkjnaolac
