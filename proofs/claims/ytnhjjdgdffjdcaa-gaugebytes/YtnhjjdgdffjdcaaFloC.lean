/-
  What flo.Kind, flo.Key, flo.Of and flo.Less come to at any words: contracts, for every world; they change nothing.
  Conditions: each argument is a word (0 to 2^64 - 1).
-/
import Derived.Test.YtnhjjdgdffjdcaaFloA
namespace Go.Proofs.Ytnhjjdgdffjdcaa
open Go.RowKit
attribute [local go_sem] run_bits run_frombits

def nanI (x : Int) : Bool := decide (9218868437227405312 < x % 9223372036854775808)
def kindS (x : Int) : Int := if 9218868437227405312 < x % 9223372036854775808 then 4 else if x % 9223372036854775808 = 9218868437227405312 then 3 else if x % 9223372036854775808 = 0 then 0 else if x % 9223372036854775808 < 4503599627370496 then 2 else 1
def keyS (x : Int) : Int := if 9223372036854775808 ≤ x then 18446744073709551615 - x else x + 9223372036854775808
def ofS (x : Int) : Int := if 9223372036854775808 ≤ x then x - 9223372036854775808 else 18446744073709551615 - x
def lessB (x y : Int) : Bool := !nanI x && !nanI y && decide (keyS x < keyS y)

theorem keyS_word {x : Int} (h : Word x) : Word (keyS x) := by obtain ⟨_, _⟩ := h; unfold keyS Word; split <;> omega
theorem ofS_word {x : Int} (h : Word x) : Word (ofS x) := by obtain ⟨_, _⟩ := h; unfold ofS Word; split <;> omega
theorem of_key {x : Int} (h : Word x) : ofS (keyS x) = x := by obtain ⟨_, _⟩ := h; unfold keyS ofS; split <;> split <;> omega
theorem key_of {x : Int} (h : Word x) : keyS (ofS x) = x := by obtain ⟨_, _⟩ := h; unfold keyS ofS; split <;> split <;> omega

theorem nan_nat {x : Int} (h : Word x) : Fl.nanB x.toNat = nanI x := by
  obtain ⟨h0, h1⟩ := h
  obtain ⟨n, rfl⟩ := Int.eq_ofNat_of_zero_le h0
  unfold Fl.nanB nanI Fl.rg
  rw [Int.toNat_natCast]
  congr 1
  apply propext
  constructor <;> intro <;> omega

theorem val_key {x y : Int} (hx : Word x) (hy : Word y) (hxn : nanI x = false) (hyn : nanI y = false) (hz : ¬ (Fl.val x.toNat = 0 ∧ Fl.val y.toNat = 0)) :
    decide (Fl.val x.toNat < Fl.val y.toNat) = decide (keyS x < keyS y) := by
  obtain ⟨x0, x1⟩ := hx; obtain ⟨y0, y1⟩ := hy
  obtain ⟨m, rfl⟩ := Int.eq_ofNat_of_zero_le x0
  obtain ⟨n, rfl⟩ := Int.eq_ofNat_of_zero_le y0
  rw [Int.toNat_natCast, Int.toNat_natCast] at *
  congr 1
  apply propext
  unfold Fl.val Fl.rg at *
  unfold keyS
  split at hz <;> split at hz <;> split <;> split <;> constructor <;> intro <;> omega

theorem val_zero {x : Int} (hx : Word x) : Fl.val x.toNat = 0 ↔ x = 0 ∨ x = 9223372036854775808 := by
  obtain ⟨x0, x1⟩ := hx
  obtain ⟨m, rfl⟩ := Int.eq_ofNat_of_zero_le x0
  rw [Int.toNat_natCast]
  unfold Fl.val Fl.rg
  split <;> omega

/-- Whether a word is a nought. -/
def zeroB (x : Int) : Bool := decide (x = 0 ∨ x = 9223372036854775808)
theorem order_zero {x : Int} (h : Word x) : (FloatKind.f64.format.order x.toNat 0 == some .eq) = zeroB x := by
  have hl : x.toNat < 18446744073709551616 := by obtain ⟨_, _⟩ := h; omega
  rw [Fl.order_eq hl (by omega), nan_nat h]
  have e := val_zero h
  have z : Fl.val 0 = 0 := by decide
  rw [z]
  unfold zeroB
  by_cases k : x = 0 ∨ x = 9223372036854775808
  · rw [decide_eq_true k, decide_eq_true (e.2 k)]
    rcases k with rfl | rfl <;> decide
  · rw [decide_eq_false k, decide_eq_false (fun c => k (e.1 c)), Bool.and_false]

set_option maxHeartbeats 400000 in
theorem less_any (x y : Int) (hx : Word x) (hy : Word y) (w : World) :
    Calls Try.prog 25 #[.int .u64 x, .int .u64 y] w fun e w' => e = .returned (.bool (lessB x y)) ∧ w' = w := by
  have zx := order_zero hx
  have zy := order_zero hy
  have lx : x.toNat < 18446744073709551616 := by obtain ⟨_, _⟩ := hx; omega
  have ly : y.toNat < 18446744073709551616 := by obtain ⟨_, _⟩ := hy; omega
  have SX := hide (fun w => signbit_any x.toNat lx w)
  have SY := hide (fun w => signbit_any y.toNat ly w)
  have O : Hid ((FloatKind.f64.format.order x.toNat y.toNat == some .lt) = (!nanI x && !nanI y && decide (Fl.val x.toNat < Fl.val y.toNat))) := by
    show _ = _
    rw [Fl.order_lt lx ly, nan_nat hx, nan_nat hy]
  have V : Hid (¬ (zeroB x = true ∧ zeroB y = true) → (FloatKind.f64.format.order x.toNat y.toNat == some .lt) = lessB x y) := by
    show _ → _
    intro c
    rw [O.out]
    unfold lessB
    cases nx : nanI x
    · cases ny : nanI y
      · rw [val_key hx hy nx ny]
        rw [val_zero hx, val_zero hy]
        unfold zeroB at c
        simpa using c
      · rfl
    · rfl
  clear O
  by_cases k : zeroB x = true
  · rw [k] at zx
    by_cases k2 : zeroB y = true
    · rw [k2] at zy
      unfold zeroB at k k2
      have k' := of_decide_eq_true k
      have k2' := of_decide_eq_true k2
      clear V k k2
      rcases k' with rfl | rfl
      · have F : Hid (lessB 0 y = false) := by show _ = _; rcases k2' with rfl | rfl <;> decide
        have E : Fl.ng (0 : Int).toNat = false := by decide
        rw [E] at SX
        clear k2'
        go_enter Try.func25, Try.ntmps25
        go_wp2_with (go_at_call 44; refine (SX.out _).mono ?_; rintro e w' ⟨rfl, rfl⟩)
        go_ret
        exact ⟨ret_bool F.out.symm, rfl⟩
      · have E : Fl.ng (9223372036854775808 : Int).toNat = true := by decide
        rw [E] at SX
        have F : Hid (lessB 9223372036854775808 y = !Fl.ng y.toNat) := by show _ = _; rcases k2' with rfl | rfl <;> decide
        clear k2'
        go_enter Try.func25, Try.ntmps25
        go_wp2_with (first
          | (go_at_call 44; refine (SX.out _).mono ?_; rintro e w' ⟨rfl, rfl⟩)
          | (go_at_call 44; refine (SY.out _).mono ?_; rintro e w' ⟨rfl, rfl⟩))
        go_ret
        exact ⟨ret_bool F.out.symm, rfl⟩
    · have F : Hid ((FloatKind.f64.format.order x.toNat y.toNat == some .lt) = lessB x y) := V.out (fun c => k2 c.2)
      have k2' : zeroB y = false := by simpa using k2
      rw [k2'] at zy
      clear V k k2 k2' SX SY
      go_enter Try.func25, Try.ntmps25
      go_wp2
      go_ret
      exact ⟨ret_bool F.out, rfl⟩
  · have F : Hid ((FloatKind.f64.format.order x.toNat y.toNat == some .lt) = lessB x y) := V.out (fun c => k c.1)
    have k' : zeroB x = false := by simpa using k
    rw [k'] at zx
    clear V k k' SX SY zy
    go_enter Try.func25, Try.ntmps25
    go_wp2
    go_ret
    exact ⟨ret_bool F.out, rfl⟩
end Go.Proofs.Ytnhjjdgdffjdcaa
