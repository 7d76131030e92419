/-
  The program's own eight bytes of a word, there and back: contracts, for every world.
  Conditions: the word is one; the bytes read lie within the slice.
-/
import Derived.Test.YtnhjjdgdffjdcaaGaugeH
import Derived.Test.YtnhjjdgdffjdcaaVintB
import Derived.BigRegion
import Derived.WalkLawsBesides
namespace Go.Proofs.Ytnhjjdgdffjdcaa
open Go.RowKit

set_option maxHeartbeats 1000000 in
theorem putbits_any (v : Int) (base : Nat) (a : Option Addr) (n cap : Nat) (zs : List Int) (w : World) (hv : Word v) (hn : n ≤ 1000000) (hB : base ≤ w.heap.size) (hs : Mine w base a n cap zs) :
    Calls Try.prog 34 #[.slice a n cap, .int .u64 v] w fun e w' => ∃ a' cap', e = .returned (.slice a' (n + 8) cap') ∧ Mine w' base a' (n + 8) cap' (zs ++ b8 v 8) ∧ Below base w w' := by
  obtain ⟨i0, hi, hz0, hz1, hz2⟩ := info_parts Try.info5
  have HS := hide hs
  have HB := hide hB
  obtain ⟨v0, v1⟩ := hv
  clear hs hB
  go_enter Try.func34, Try.ntmps34
  go_wp2
  go_loopw [0, 6] (fun b i wr => ∃ (ar : Option Addr) (capr : Nat) (j : Nat), b = .slice ar (n + j) capr ∧ i = .int .i64 j ∧ j ≤ 8 ∧ Hid (Mine wr base ar (n + j) capr (zs ++ b8 v j)) ∧ Hid (Below base w wr)) (fun _ i _ => 8 - (intOf i).toNat)
  case atStart => exact ⟨a, cap, 0, rfl, rfl, by omega, by rw [b8, List.append_nil]; exact HS, Below.refl _ _⟩
  case round =>
    obtain ⟨ar, capr, j, rfl, rfl, hj, HR, HW⟩ := hrel
    by_cases hu : j < 8
    · have i1 : (j : Int) < 8 := by omega
      obtain ⟨z, hz⟩ : ∃ z : Int, Hid (v / 2 ^ (8 * j) % 256 = z) := ⟨_, rfl⟩
      have zb : 0 ≤ z ∧ z ≤ 255 := by rw [← hz.out]; omega
      have hzz := hz.out
      have HO := hide (one_row (k := .u8) wr z (wf_of_u8 zb.1 zb.2) 5 (0, 0))
      have HSA : Hid (Src 5 .u8 (wr.alloc (.cells #[.int .u8 z] 5)) base ar (n + j) capr (zs ++ b8 v j)) := Or.inl (HR.out.alloc _)
      have HBW : Hid (base ≤ (wr.alloc (.cells #[.int .u8 z] 5)).heap.size) := by
        have := Nat.le_trans HB.out HW.out.size
        show _ ≤ _
        simp; omega
      clear zb
      go_wp2_with (at_builtin; rw [hzz]; refine wpList_append_one _ rfl _ _ 33 rfl base 5 i0 Try.underlying33 hi hz0 hz1 hz2 ar (n + j) capr _ rfl HSA.out _ 1 z rfl HO.out (by omega) HBW.out ?_)
      intro a' cap' w' h1 h2
      have HF : Hid (Mine w' base a' (n + (j + 1)) cap' (zs ++ b8 v (j + 1)) ∧ Below base w w') := by
        refine ⟨?_, (HW.out.alloc (Nat.le_trans HB.out HW.out.size) _).trans h2⟩
        rw [b8, hz.out]; exact h1
      clear h1 h2 HR HW HSA HO HBW hzz
      go_wp2
      go_roundw
      case rel => exact ⟨a', cap', j + 1, rfl, by go_num, by omega, HF.out.1, HF.out.2⟩
      case measure => simp [intOf]; omega
    · have hj8 : j = 8 := by omega
      subst hj8
      have i1 : ¬ ((8 : Nat) : Int) < 8 := by omega
      go_wp2
      go_ret
      exact ⟨ar, capr, rfl, HR.out, HW.out⟩

theorem or8 {V z : Int} (j : Nat) (hj : j < 8) (V0 : 0 ≤ V) (V1 : V < 2 ^ (8 * j)) (z0 : 0 ≤ z) (z1 : z ≤ 255) :
    IntKind.u64.wrap (z * 2 ^ (8 * j)) = z * 2 ^ (8 * j) ∧ bits .or .u64 V (z * 2 ^ (8 * j)) = V + z * 2 ^ (8 * j) ∧ 0 ≤ V + z * 2 ^ (8 * j) ∧ V + z * 2 ^ (8 * j) < 18446744073709551616 := by
  have hp := p8_pos j
  have hl := p8_le j hj
  have m0 : 0 ≤ z * 2 ^ (8 * j) := Int.mul_nonneg z0 (by omega)
  have m1 : z * 2 ^ (8 * j) ≤ 255 * 2 ^ (8 * j) := Int.mul_le_mul_of_nonneg_right z1 (by omega)
  exact ⟨by rw [IntKind.wrap_u64]; omega, or_u64 (8 * j) V0 V1 z z0 rfl (by omega), by omega, by omega⟩

set_option maxHeartbeats 1000000 in
theorem bitsat_any (t : Nat) (a : Option Addr) (n cap : Nat) (zs : List Int) (w : World) (ht : t + 8 ≤ n) (hr : Row .u8 w a n zs) :
    Calls Try.prog 37 #[.slice a n cap, .int .i64 (t : Int)] w fun e w' => e = .returned (.int .u64 (n8 zs t 8)) ∧ w' = w := by
  have HZ : Hid (Bytes8 zs) := hr.bytes
  have hn := hr.2.1
  obtain ⟨_, _, _, h0 | ⟨b, off, rfl, hcell⟩⟩ := hr
  · omega
  have HC := hide hcell
  clear hcell
  go_enter Try.func37, Try.ntmps37
  go_wp2
  go_loopw [5, 7] (fun x i wr => ∃ j : Nat, x = .int .u64 (n8 zs t j) ∧ i = .int .i64 j ∧ j ≤ 8 ∧ wr = w) (fun _ i _ => 8 - (intOf i).toNat)
  case atStart => exact ⟨0, rfl, rfl, by omega, rfl⟩
  case round =>
    obtain ⟨j, rfl, rfl, hj, rfl⟩ := hrel
    by_cases hu : j < 8
    · have i1 : (j : Int) < 8 := by omega
      obtain ⟨V0, V1⟩ := n8_bound HZ.out t j
      obtain ⟨z0, z1⟩ := getD_byte HZ.out (t + j)
      have hs : Hid (n8 zs t (j + 1) = n8 zs t j + zs.getD (t + j) 0 * 2 ^ (8 * j)) := rfl
      have c1 := HC.out (t + j) (by omega)
      generalize n8 zs t j = V at V0 V1 hs ⊢
      generalize zs.getD (t + j) 0 = z at c1 z0 z1 hs
      obtain ⟨e1, e2, e3, e4⟩ := or8 j hu V0 V1 z0 z1
      rw [← hs.out] at e2 e3 e4
      obtain ⟨X, hX⟩ : ∃ X, Hid (n8 zs t (j + 1) = X) := ⟨_, rfl⟩
      rw [hX.out] at e2 e3 e4
      have i2 : (0 : Int) ≤ (t : Int) + (j : Int) := by omega
      have i3 : (t : Int) + (j : Int) < (n : Int) := by omega
      have i4 : ((t : Int) + (j : Int)).toNat = t + j := by omega
      clear V1
      go_wp2
      go_roundw
      case rel => exact ⟨j + 1, by rw [hX.out], by go_num, by omega, trivial⟩
      case measure => simp [intOf]; omega
    · have hj8 : j = 8 := by omega
      subst hj8
      have i1 : ¬ ((8 : Nat) : Int) < 8 := by omega
      go_wp2
      go_ret
      exact ⟨rfl, rfl⟩
end Go.Proofs.Ytnhjjdgdffjdcaa
