/-
  The program's own buckets: a number's bucket, a bucket's ends: contracts, for every world; they change nothing.
  Conditions: numbers are words of 64 bits; buckets any.
-/
import Derived.Test.YtjngpdhhkkambabHideK
import Derived.Test.YtjngpdhhkkambabHistH
import Derived.Test.YtjngpdhhkkambabVintA
import Derived.Test.YtjngpdhhkkambabRows
import Derived.Test.YtjngpdhhkkambabShelf
import Derived.WalkKit
import Derived.WalkSpells
namespace Go.Proofs.Ytjngpdhhkkambab
open Go.RowKit

set_option maxHeartbeats 1000000 in
theorem bucket_any (v : Int) (w : World) (hv : W64 v) :
    Calls Try.prog 33 #[.int .u64 v] w fun e w' => e = .returned (.int .i64 (bucketS v)) ∧ w' = w := by
  obtain ⟨v0, v1⟩ := hv
  have L := hide (Try.bits_Len64 v w v0 (by omega))
  obtain ⟨n, rfl⟩ := Int.eq_ofNat_of_zero_le v0
  rw [Int.toNat_natCast] at L
  have hb := bucket_len (v := n) (by omega)
  have hm := bitLen_most n
  have hr := bucketS_range (v := (n : Int)) (by omega) (by omega)
  rw [hb] at hr ⊢
  clear hb
  have hq0 : 0 ≤ (n : Int) / 2 ^ (Lib.bitLen n - 8) := Int.ediv_nonneg (by omega) (Int.le_of_lt (two_pos _))
  have HE : Hid (((if (Lib.bitLen n : Int) - 8 < 0 then 0 else (Lib.bitLen n : Int) - 8)) = ((Lib.bitLen n - 8 : Nat) : Int)) := by show _ = _; split <;> omega
  generalize Lib.bitLen n = b at *
  have hmax : max ((b : Int) - 8) 0 = ((b - 8 : Nat) : Int) := by omega
  generalize hE : b - 8 = E at *
  generalize hQ : (n : Int) / 2 ^ E = Q at *
  go_enter Try.func33, Try.ntmps33
  go_wp2_with fail
  refine L.out.mono ?_
  rintro e w' ⟨rfl, rfl⟩
  clear L
  go_wp2
  go_ret
  exact ⟨rfl, rfl⟩

theorem isb_in (k : Int) (w : World) (h0 : 0 ≤ k) (h1 : k ≤ 7423) :
    Calls Try.prog 46 #[.int .i64 k] w fun e w' => e = .returned (.bool true) ∧ w' = w := by
  have HD : Hid (decide (k < 7424) = true) := decide_eq_true (by omega)
  go_enter Try.func46, Try.ntmps46
  go_wp2
  go_ret
  exact ⟨congrArg (fun b => Ending.returned (.bool b)) HD.out, rfl⟩
theorem isb_out (k : Int) (w : World) (hk : k < 0 ∨ 7424 ≤ k) :
    Calls Try.prog 46 #[.int .i64 k] w fun e w' => e = .returned (.bool false) ∧ w' = w := by
  by_cases h : k < 0
  · go_enter Try.func46, Try.ntmps46
    go_wp2
    go_ret
    exact ⟨rfl, rfl⟩
  · have HD : Hid (decide (k < 7424) = false) := decide_eq_false (by omega)
    go_enter Try.func46, Try.ntmps46
    go_wp2
    go_ret
    exact ⟨congrArg (fun b => Ending.returned (.bool b)) HD.out, rfl⟩
theorem doub_any (e : Nat) (m : Int) (w : World) (he : e ≤ 56) (m0 : 0 ≤ m) (m1 : m ≤ 255) (hm : e = 0 ∨ 128 ≤ m) :
    Calls Try.prog 47 #[.int .i64 (128 * e + m)] w fun x w' => x = .returned (.int .i64 e) ∧ w' = w := by
  have hq : (128 * (e : Int) + m).tdiv 128 = (128 * (e : Int) + m) / 128 := Int.tdiv_eq_ediv_of_nonneg (by omega)
  have hmax : max ((128 * (e : Int) + m) / 128 - 1) 0 = (e : Int) := by omega
  have hlo : 0 ≤ (128 * (e : Int) + m) / 128 := by omega
  have hhi : (128 * (e : Int) + m) / 128 ≤ 1000 := by omega
  generalize (128 * (e : Int) + m) / 128 = q at *
  generalize 128 * (e : Int) + m = k at *
  clear hm
  go_enter Try.func47, Try.ntmps47
  go_wp2
  go_ret
  exact ⟨rfl, rfl⟩
set_option maxHeartbeats 1000000 in
theorem low_in (k : Int) (w : World) (h0 : 0 ≤ k) (h1 : k ≤ 7423) :
    Calls Try.prog 24 #[.int .i64 k] w fun e w' => e = .returned (.tuple #[.int .u64 (lowS k), .bool true]) ∧ w' = w := by
  have I := hide (isb_in k w h0 h1)
  obtain ⟨e, m, e1, m0, m1, hm, rfl⟩ := bucket_parts h0 h1
  have D := hide (doub_any e m w e1 m0 m1 hm)
  have HE : Hid (lowS (128 * e + m) = IntKind.u64.wrap (m * 2 ^ e)) := by
    have hp := two_pos e
    have hp2 : (2 : Int) ^ e ≤ 72057594037927936 := by
      have := Nat.pow_le_pow_right (n := 2) (by decide) e1
      have h2 : ((2 ^ e : Nat) : Int) ≤ ((2 ^ 56 : Nat) : Int) := Int.ofNat_le.2 this
      rwa [Int.natCast_pow, Int.natCast_pow] at h2
    have h3 : m * 2 ^ e ≤ 255 * 2 ^ e := Int.mul_le_mul_of_nonneg_right m1 (by omega)
    have h4 : 0 ≤ m * 2 ^ e := Int.mul_nonneg m0 (by omega)
    show _ = _
    rw [lowS_parts e m0 m1 hm, IntKind.wrap_u64]
    omega
  clear hm
  go_enter Try.func24, Try.ntmps24
  go_wp2_with fail
  refine I.out.mono ?_
  rintro x w' ⟨rfl, rfl⟩
  go_wp2_with fail
  refine D.out.mono ?_
  rintro x w' ⟨rfl, rfl⟩
  go_wp2
  go_ret2
  refine ⟨?_, rfl⟩
  show Ending.returned (.tuple #[.int .u64 (IntKind.u64.wrap ((128 * (e : Int) + m - 128 * (e : Int)) * 2 ^ e)), .bool true]) = _
  rw [HE.out, show 128 * (e : Int) + m - 128 * (e : Int) = m by omega]
theorem low_out (k : Int) (w : World) (h : k < 0 ∨ 7424 ≤ k) :
    Calls Try.prog 24 #[.int .i64 k] w fun e w' => e = .returned (.tuple #[.int .u64 0, .bool false]) ∧ w' = w := by
  have I := hide (isb_out k w h)
  clear h
  go_enter Try.func24, Try.ntmps24
  go_wp2_with fail
  refine I.out.mono ?_
  rintro x w' ⟨rfl, rfl⟩
  go_wp2
  go_ret2
  exact ⟨rfl, rfl⟩
set_option maxHeartbeats 1000000 in
theorem high_in (k : Int) (w : World) (h0 : 0 ≤ k) (h1 : k ≤ 7423) :
    Calls Try.prog 32 #[.int .i64 k] w fun e w' => e = .returned (.tuple #[.int .u64 (highS k), .bool true]) ∧ w' = w := by
  have I := hide (low_in k w h0 h1)
  have hw := highS_word h0 h1
  have hw0 := lowS_word h0 h1
  obtain ⟨e, m, e1, m0, m1, hm, rfl⟩ := bucket_parts h0 h1
  have D := hide (doub_any e m w e1 m0 m1 hm)
  have hx : highS (128 * e + m) = lowS (128 * e + m) + (2 ^ e - 1) := by
    unfold highS
    rw [lowS_next e m0 m1 hm, lowS_parts e m0 m1 hm]
    omega
  have hp := two_pos e
  have hp2 : (2 : Int) ^ e ≤ 72057594037927936 := by
    have := Nat.pow_le_pow_right (n := 2) (by decide) e1
    have h2 : ((2 ^ e : Nat) : Int) ≤ ((2 ^ 56 : Nat) : Int) := Int.ofNat_le.2 this
    rwa [Int.natCast_pow, Int.natCast_pow] at h2
  rw [hx] at hw ⊢
  clear hm hx
  obtain ⟨l0, l1⟩ := hw0
  obtain ⟨-, l2⟩ := hw
  generalize lowS (128 * e + m) = L at *
  go_enter Try.func32, Try.ntmps32
  go_wp2_with fail
  refine I.out.mono ?_
  rintro x w' ⟨rfl, rfl⟩
  go_wp2_with fail
  refine D.out.mono ?_
  rintro x w' ⟨rfl, rfl⟩
  clear I D
  go_wp2
  go_ret2
  exact ⟨rfl, rfl⟩
theorem high_out (k : Int) (w : World) (h : k < 0 ∨ 7424 ≤ k) :
    Calls Try.prog 32 #[.int .i64 k] w fun e w' => e = .returned (.tuple #[.int .u64 0, .bool false]) ∧ w' = w := by
  have I := hide (low_out k w h)
  clear h
  go_enter Try.func32, Try.ntmps32
  go_wp2_with fail
  refine I.out.mono ?_
  rintro x w' ⟨rfl, rfl⟩
  go_wp2
  go_ret2
  exact ⟨rfl, rfl⟩
end Go.Proofs.Ytjngpdhhkkambab
