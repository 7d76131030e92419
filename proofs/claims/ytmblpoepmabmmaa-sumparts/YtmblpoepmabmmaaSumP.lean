/-
  Plain laws of sums: they fit 32 bits; behind one another; bit by bit.
  Conditions: bytes are 0 to 255.
-/
import Derived.Test.YtmblpoepmabmmaaSumC
namespace Go.Proofs.Ytmblpoepmabmmaa
open Go.RowKit

theorem bytes_nat {zs : List Int} (h : ∀ z ∈ zs, 0 ≤ z ∧ z ≤ 255) : ∀ y ∈ zs.map Int.toNat, y < 256 := by
  intro y hy
  obtain ⟨z, hz, rfl⟩ := List.mem_map.1 hy
  have := h z hz
  omega

theorem moreS_word {s : Int} {zs : List Int} (hs : 0 ≤ s ∧ s < 4294967296) (h : ∀ z ∈ zs, 0 ≤ z ∧ z ≤ 255) : 0 ≤ moreS s zs ∧ moreS s zs < 4294967296 := by
  have h1 := Cr.reg_lt (zs.map Int.toNat) (r := 4294967295 ^^^ s.toNat) (Nat.xor_lt_two_pow (n := 32) (by omega) (by omega)) (bytes_nat h)
  have h2 : 4294967295 ^^^ Cr.reg (4294967295 ^^^ s.toNat) (zs.map Int.toNat) < 2 ^ 32 := Nat.xor_lt_two_pow (by omega) h1
  unfold moreS
  exact ⟨by omega, by omega⟩

theorem moreS_more (s : Int) (x y : List Int) : moreS (moreS s x) y = moreS s (x ++ y) := by
  unfold moreS
  rw [Int.toNat_natCast, Cr.xor_cancel, List.map_append, Cr.reg_append]
end Go.Proofs.Ytmblpoepmabmmaa
