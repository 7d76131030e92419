/-
  Plain laws of sums: they fit 32 bits; behind one another; bit by bit.
  Conditions: bytes are 0 to 255.
-/
import Derived.Test.YtmblpoepmabmmaaSumC
namespace Go.Proofs.Ytmblpoepmabmmaa
open Go.RowKit

theorem bytes_nat {zs : List Int} (h : ∀ z ∈ zs, 0 ≤ z ∧ z ≤ 255) : ∀ y ∈ zs.map Int.toNat, y < 256 := by
  intro y hy
  obtain ⟨z, hz, rfl⟩ := List.mem_map.1 hy
  have := h z hz
  omega

theorem moreS_word {s : Int} {zs : List Int} (hs : 0 ≤ s ∧ s < 4294967296) (h : ∀ z ∈ zs, 0 ≤ z ∧ z ≤ 255) : 0 ≤ moreS s zs ∧ moreS s zs < 4294967296 := by
  have h1 := Cr.reg_lt (zs.map Int.toNat) (r := 4294967295 ^^^ s.toNat) (Nat.xor_lt_two_pow (n := 32) (by omega) (by omega)) (bytes_nat h)
  have h2 : 4294967295 ^^^ Cr.reg (4294967295 ^^^ s.toNat) (zs.map Int.toNat) < 2 ^ 32 := Nat.xor_lt_two_pow (by omega) h1
  unfold moreS
  exact ⟨by omega, by omega⟩

theorem moreS_more (s : Int) (x y : List Int) : moreS (moreS s x) y = moreS s (x ++ y) := by
  unfold moreS
  rw [Int.toNat_natCast, Cr.xor_cancel, List.map_append, Cr.reg_append]

/-- Two strings upon each other, byte by byte. -/
def upon (x y : List Int) : List Int := List.zipWith xorI x y

theorem upon_length {x y : List Int} {n : Nat} (hx : x.length = n) (hy : y.length = n) : (upon x y).length = n := by
  unfold upon; rw [List.length_zipWith, hx, hy, Nat.min_self]

theorem upon_nat (x y : List Int) : (upon x y).map Int.toNat = List.zipWith (· ^^^ ·) (x.map Int.toNat) (y.map Int.toNat) := by
  unfold upon
  rw [List.map_zipWith, List.zipWith_map]
  simp only [xor_nat]

theorem upon_byte {x y : List Int} (hx : ∀ z ∈ x, 0 ≤ z ∧ z ≤ 255) (hy : ∀ z ∈ y, 0 ≤ z ∧ z ≤ 255) : ∀ z ∈ upon x y, 0 ≤ z ∧ z ≤ 255 := by
  intro z hz
  obtain ⟨i, hi, rfl⟩ := List.mem_iff_getElem.1 hz
  unfold upon at hi
  rw [List.length_zipWith] at hi
  have h1 := hx _ (List.getElem_mem (l := x) (n := i) (by omega))
  have h2 := hy _ (List.getElem_mem (l := y) (n := i) (by omega))
  have := (xor_u8 h1.1 h1.2 h2.1 h2.2).2
  unfold upon
  rw [List.getElem_zipWith]
  exact this

theorem xor_three (m a b c : Nat) : (m ^^^ a) ^^^ (m ^^^ b) ^^^ (m ^^^ c) = m ^^^ (a ^^^ b ^^^ c) := by
  rw [Cr.xor_swap m a m b, Nat.xor_self, Nat.zero_xor, ← Nat.xor_assoc, Nat.xor_comm (a ^^^ b) m, Nat.xor_assoc]

theorem three_sum {x y z : List Int} {n : Nat} (lx : x.length = n) (ly : y.length = n) (lz : z.length = n)
    (hx : ∀ v ∈ x, 0 ≤ v ∧ v ≤ 255) (hy : ∀ v ∈ y, 0 ≤ v ∧ v ≤ 255) (hz : ∀ v ∈ z, 0 ≤ v ∧ v ≤ 255) :
    xorI (xorI (moreS 0 x) (moreS 0 y)) (moreS 0 z) = moreS 0 (upon (upon x y) z) := by
  have bx := bytes_nat hx
  have bY := bytes_nat hy
  have bz := bytes_nat hz
  have bu := bytes_nat (upon_byte hx hy)
  have bv := bytes_nat (upon_byte (upon_byte hx hy) hz)
  have e1 := Cr.num_zip (x.map Int.toNat) (y.map Int.toNat) (by simp [lx, ly]) bx bY
  have e2 := Cr.num_zip ((upon x y).map Int.toNat) (z.map Int.toNat) (by simp [upon_length lx ly, lz]) bu bz
  rw [← upon_nat] at e1 e2
  unfold xorI moreS
  rw [Int.toNat_natCast, Int.toNat_natCast, Int.toNat_natCast, Int.toNat_natCast, xor_three, Cr.reg_num _ _ bx, Cr.reg_num _ _ bY, Cr.reg_num _ _ bz, Cr.reg_num _ _ bv,
    List.length_map, List.length_map, List.length_map, List.length_map, lx, ly, lz, upon_length (upon_length lx ly) lz, ← Cr.it_xor, ← Cr.it_xor, xor_three, e2, e1]
end Go.Proofs.Ytmblpoepmabmmaa
