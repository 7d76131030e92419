/-
  A thing's number as plain arithmetic: byte by byte, each put in by 'xor' and the whole multiplied by an odd factor, within 2^64; a text cut anywhere; two texts that part in their last byte alone.
  Conditions: numbers are words of 64 bits, bytes are bytes.
-/
import Derived.Test.YtadcaonkmncgoaaGreatVintK
namespace Go.Proofs.YtadcaonkmncgoaaGreat

/-- Two words' bits, those that one of them alone has. -/
def fxor (a b : Int) : Int := ((a.toNat ^^^ b.toNat : Nat) : Int)
/-- One byte more. -/
def fnv1 (h b : Int) : Int := fxor h b * 1099511628211 % 18446744073709551616
/-- More bytes behind a number. -/
def fnvS (h : Int) (l : List Int) : Int := l.foldl fnv1 h
/-- A thing's number. -/
def fnvOf (l : List Int) : Int := fnvS 14695981039346656037 l

theorem fxor_word {a b : Int} (ha : W64 a) (hb : W64 b) : W64 (fxor a b) := by
  unfold W64 at *
  have h : a.toNat ^^^ b.toNat < 2 ^ 64 := Nat.xor_lt_two_pow (by omega) (by omega)
  unfold fxor
  exact ⟨by omega, by omega⟩
theorem fnv1_word (h b : Int) : W64 (fnv1 h b) := by unfold fnv1 W64; exact ⟨by omega, by omega⟩
theorem fnvS_word {h : Int} (hh : W64 h) (l : List Int) : W64 (fnvS h l) := by
  unfold fnvS
  induction l generalizing h with
  | nil => exact hh
  | cons x r ih => exact ih (fnv1_word h x)
theorem fnvS_nil (h : Int) : fnvS h [] = h := rfl
theorem fnvS_append (h : Int) (a b : List Int) : fnvS h (a ++ b) = fnvS (fnvS h a) b := by unfold fnvS; rw [List.foldl_append]
theorem fnvS_one (h z : Int) (l : List Int) : fnvS h (l ++ [z]) = fnv1 (fnvS h l) z := by rw [fnvS_append]; rfl
theorem fnvOf_word (l : List Int) : W64 (fnvOf l) := fnvS_word ⟨by decide, by decide⟩ l
theorem fnvOf_parts (l : List Int) (k : Nat) : fnvS (fnvOf (l.take k)) (l.drop k) = fnvOf l := by
  unfold fnvOf
  rw [← fnvS_append, List.take_append_drop]

/-- The factor is odd: it can be undone. -/
theorem mul_back {x y : Int} (hx : W64 x) (hy : W64 y) (h : x * 1099511628211 % 18446744073709551616 = y * 1099511628211 % 18446744073709551616) : x = y := by
  unfold W64 at hx hy
  have e : ∀ z : Int, 0 ≤ z → z < 18446744073709551616 → z * 1099511628211 % 18446744073709551616 * 14886173955864302971 % 18446744073709551616 = z := by
    intro z h0 h1
    omega
  rw [← e x hx.1 hx.2, h, e y hy.1 hy.2]
theorem fxor_inj {h a b : Int} (ha : 0 ≤ a) (hb : 0 ≤ b) (e : fxor h a = fxor h b) : a = b := by
  unfold fxor at e
  have h1 : h.toNat ^^^ a.toNat = h.toNat ^^^ b.toNat := Int.ofNat_inj.1 e
  have h2 : a.toNat = b.toNat := by
    have h3 : ∀ x y : Nat, x ^^^ (x ^^^ y) = y := fun x y => by rw [← Nat.xor_assoc, Nat.xor_self, Nat.zero_xor]
    rw [← h3 h.toNat a.toNat, h1, h3]
  omega
theorem fnv1_inj {h a b : Int} (hh : W64 h) (ha : W64 a) (hb : W64 b) : fnv1 h a = fnv1 h b ↔ a = b :=
  ⟨fun e => fxor_inj ha.1 hb.1 (mul_back (fxor_word hh ha) (fxor_word hh hb) e), fun e => by rw [e]⟩
theorem fnvOf_last (l : List Int) {a b : Int} (ha : W64 a) (hb : W64 b) : fnvOf (l ++ [a]) = fnvOf (l ++ [b]) ↔ a = b := by
  unfold fnvOf
  rw [fnvS_one, fnvS_one]
  exact fnv1_inj (fnvS_word ⟨by decide, by decide⟩ l) ha hb
/-- The product as a sum of shifts. -/
theorem fnv1_shifts (x : Int) : ((((((x * 1099511627776 % 18446744073709551616 + x * 256 % 18446744073709551616) % 18446744073709551616 + x * 128 % 18446744073709551616) % 18446744073709551616 + x * 32 % 18446744073709551616) % 18446744073709551616 + x * 16 % 18446744073709551616) % 18446744073709551616 + x * 2 % 18446744073709551616) % 18446744073709551616 + x) % 18446744073709551616 = x * 1099511628211 % 18446744073709551616 := by omega
end Go.Proofs.YtadcaonkmncgoaaGreat
