/-
  The law of the ends (both infinities are ends of all; one that is none changes no end), over what the laws ask of the program's own Add.
  Conditions: as GaA says.
-/
import Derived.Test.YtnhjjdgdffjdcabGaugeO
namespace Go.Proofs.Ytnhjjdgdffjdcab
open Go.RowKit

theorem num_key {x : Int} (hx : Word x) (h : nanI x = false) : 4503599627370495 ≤ keyS x ∧ keyS x ≤ 18442240474082181120 := by
  obtain ⟨h0, h1⟩ := hx
  unfold nanI at h
  rw [decide_eq_false_iff_not] at h
  unfold keyS
  split <;> omega
theorem wLO : Word 18442240474082181120 := ⟨by decide, by decide⟩
theorem wHI : Word 9218868437227405312 := ⟨by decide, by decide⟩
theorem lo2_all {x : Int} (hx : Word x) (h : nanI x = false) : lo2 18442240474082181120 x = 18442240474082181120 ∧ lo2 x 18442240474082181120 = 18442240474082181120 := by
  have n : nanI 18442240474082181120 = false := by decide
  have k : keyS 18442240474082181120 = 4503599627370495 := by decide
  have := num_key hx h
  exact ⟨key_inj (lo2_word wLO hx) wLO (by rw [lo2_key n h, k]; omega), key_inj (lo2_word hx wLO) wLO (by rw [lo2_key h n, k]; omega)⟩
theorem hi2_all {x : Int} (hx : Word x) (h : nanI x = false) : hi2 9218868437227405312 x = 9218868437227405312 ∧ hi2 x 9218868437227405312 = 9218868437227405312 := by
  have n : nanI 9218868437227405312 = false := by decide
  have k : keyS 9218868437227405312 = 18442240474082181120 := by decide
  have := num_key hx h
  exact ⟨key_inj (hi2_word wHI hx) wHI (by rw [hi2_key n h, k]; omega), key_inj (hi2_word hx wHI) wHI (by rw [hi2_key h n, k]; omega)⟩

theorem ends_both {g : Gz} (hg : GW g) (c : chkG g = true) (l : g.n ≤ 9223372036854775808) :
    addG (addG g 18442240474082181120) 9218868437227405312 = ⟨g.n + 2, g.nans, 18442240474082181120, 9218868437227405312⟩ := by
  have n1 : nanI 18442240474082181120 = false := by decide
  have n2 : nanI 9218868437227405312 = false := by decide
  have p := hg.n.1
  have a1 : addS g.n 1 = g.n + 1 := by unfold addS; rw [if_pos (by omega)]
  have a2 : addS (g.n + 1) 1 = g.n + 2 := by unfold addS; rw [if_pos (by omega)]; omega
  rw [addG_one (addG_word hg wLO) n2, addG_one hg n1]
  dsimp only
  rw [a1, a2, if_neg (show ¬ g.n + 1 = 0 by omega), if_neg (show ¬ g.n + 1 = 0 by omega)]
  by_cases z : g.n = 0
  · rw [if_pos z, if_pos z, (lo2_all wHI n2).1, (hi2_all wLO n1).2]
  · obtain ⟨e1, e2, _⟩ := chk_some c z
    rw [if_neg z, if_neg z, (lo2_all hg.lo e1).2, (lo2_all wHI n2).1, (hi2_all (hi2_word hg.hi wLO) (hi2_num e2 n1)).2]
theorem ends_stay {n m x : Int} (hn : Word n) (hm : Word m) (hx : Word x) (z : n ≠ 0) : ∃ n' m', addG ⟨n, m, 18442240474082181120, 9218868437227405312⟩ x = ⟨n', m', 18442240474082181120, 9218868437227405312⟩ := by
  have W : GW ⟨n, m, 18442240474082181120, 9218868437227405312⟩ := ⟨hn, hm, wLO, wHI⟩
  cases e : nanI x
  · rw [addG_one W e]
    dsimp only
    rw [if_neg z, if_neg z, (lo2_all hx e).1, (hi2_all hx e).1]
    exact ⟨_, _, rfl⟩
  · exact ⟨_, _, addG_none W (chk_of_some z (show nanI 18442240474082181120 = false by decide) (show nanI 9218868437227405312 = false by decide) (show keyS 18442240474082181120 ≤ keyS 9218868437227405312 by decide)) e⟩
theorem nan_bits {x : Int} (h0 : 0 ≤ x) (h1 : x < 1048576) : nanI (9221120237041090560 + x) = true := by
  unfold nanI; rw [decide_eq_true_eq]; omega
theorem and_low {x : Int} (h0 : 0 ≤ x) (h1 : x < 18446744073709551616) : bits .and .u64 x 1048575 = x % 1048576 := by
  obtain ⟨a, rfl⟩ := Int.eq_ofNat_of_zero_le h0
  have k1 : (BitVec.ofInt 64 (a : Int)).toNat = a := by rw [BitVec.ofInt_natCast, BitVec.toNat_ofNat]; exact Nat.mod_eq_of_lt (by omega)
  have k2 : (BitVec.ofInt 64 1048575).toNat = 1048575 := by decide
  have e : a &&& 1048575 = a % 1048576 := Nat.and_two_pow_sub_one_eq_mod a 20
  show IntKind.u64.wrap ((BitVec.ofInt 64 (a : Int) &&& BitVec.ofInt 64 1048575).toNat : Int) = _
  rw [BitVec.toNat_and, k1, k2, IntKind.wrap_u64, e]
  omega
theorem or_quiet {x : Int} (h0 : 0 ≤ x) (h1 : x < 1048576) : bits .or .u64 9221120237041090560 x = 9221120237041090560 + x := by
  obtain ⟨a, rfl⟩ := Int.eq_ofNat_of_zero_le h0
  have k1 : (BitVec.ofInt 64 (a : Int)).toNat = a := by rw [BitVec.ofInt_natCast, BitVec.toNat_ofNat]; exact Nat.mod_eq_of_lt (by omega)
  have k2 : (BitVec.ofInt 64 9221120237041090560).toNat = 9221120237041090560 := by decide
  have e : 9221120237041090560 ||| a = 9221120237041090560 + a := by
    have := Nat.shiftLeft_add_eq_or_of_lt (b := a) (i := 20) (by omega) 8793945538560
    rw [show (8793945538560 <<< 20 : Nat) = 9221120237041090560 from by decide] at this
    exact this.symm
  show IntKind.u64.wrap ((BitVec.ofInt 64 9221120237041090560 ||| BitVec.ofInt 64 (a : Int)).toNat : Int) = _
  rw [BitVec.toNat_or, k1, k2, IntKind.wrap_u64, e]
  omega

attribute [local go_sem] run_bits run_frombits
theorem inf_up (w : World) : Calls Try.prog 8 #[.int .i64 1] w fun e w' => e = .returned (.float .f64 9218868437227405312) ∧ w' = w := by
  go_enter Try.func8, Try.ntmps8
  go_wp2
  go_ret
  exact ⟨rfl, rfl⟩
theorem inf_down (w : World) : Calls Try.prog 8 #[.int .i64 (-1)] w fun e w' => e = .returned (.float .f64 18442240474082181120) ∧ w' = w := by
  go_enter Try.func8, Try.ntmps8
  go_wp2
  go_ret
  exact ⟨rfl, rfl⟩
end Go.Proofs.Ytnhjjdgdffjdcab
