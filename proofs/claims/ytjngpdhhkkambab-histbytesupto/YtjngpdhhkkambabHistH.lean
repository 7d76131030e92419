/-
  A number's bucket by how many bits it has: plain arithmetic.
  Conditions: as each theorem says.
-/
import Derived.Test.YtjngpdhhkkambabHistK
import Derived.Lib.BitFns
namespace Go.Proofs.Ytjngpdhhkkambab

theorem bitLen_nine {v : Nat} (h : 256 ≤ v) (hv : v < 18446744073709551616) : ∃ n, Lib.bitLen v = n + 9 ∧ Lib.bitLen (v / 2) = n + 8 := by
  have h1 := Lib.bitLen_shift8 v h hv
  have h2 := Lib.bitLen_half (v / 256) (by omega) (by omega)
  have h3 := Lib.bitLen_half v (by omega) hv
  exact ⟨Lib.bitLen (v / 256 / 2), by omega, by omega⟩
theorem bitLen_small {v : Nat} (h : v < 256) : Lib.bitLen v ≤ 8 := Lib.bitLen_le8 ⟨v, h⟩

theorem bkt_len (f : Nat) (v : Nat) (h : (v : Int) < 256 * 2 ^ f) (hv : v < 18446744073709551616) : bkt f (v : Int) = 128 * ((Lib.bitLen v - 8 : Nat) : Int) + (v : Int) / 2 ^ (Lib.bitLen v - 8) := by
  induction f generalizing v with
  | zero =>
    have := bitLen_small (v := v) (by simp at h; omega)
    rw [show Lib.bitLen v - 8 = 0 by omega]
    simp [bkt]
  | succ f ih =>
    by_cases hs : v < 256
    · have := bitLen_small hs
      rw [show Lib.bitLen v - 8 = 0 by omega, bkt, if_pos (by omega)]
      simp
    · obtain ⟨n, e1, e2⟩ := bitLen_nine (v := v) (by omega) hv
      rw [two_succ] at h
      have := ih (v / 2) (by omega) (by omega)
      rw [bkt, if_neg (by omega), show (v : Int) / 2 = ((v / 2 : Nat) : Int) by omega, this, e1, e2, show n + 9 - 8 = n + 1 by omega, show n + 8 - 8 = n by omega, div_two, show (v : Int) / 2 = ((v / 2 : Nat) : Int) by omega]
      omega

theorem bucket_len {v : Nat} (hv : v < 18446744073709551616) : bucketS (v : Int) = 128 * ((Lib.bitLen v - 8 : Nat) : Int) + (v : Int) / 2 ^ (Lib.bitLen v - 8) :=
  bkt_len 56 v (by omega) hv
theorem bitLenAux_le (f x : Nat) : Lib.bitLenAux f x ≤ f := by
  induction f generalizing x with
  | zero => simp [Lib.bitLenAux]
  | succ f ih =>
    rw [Lib.bitLenAux]
    split
    · omega
    · have := ih (x / 2); omega
theorem bitLen_most (v : Nat) : Lib.bitLen v - 8 ≤ 56 := by
  have : Lib.bitLen v ≤ 64 := bitLenAux_le 64 v
  omega
end Go.Proofs.Ytjngpdhhkkambab
