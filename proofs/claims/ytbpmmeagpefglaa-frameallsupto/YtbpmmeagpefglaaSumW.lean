/-
  What the document's own answer (varveref03.More, Of) comes to: the same sum, bit by bit; it changes nothing.
  Conditions: the sum is a word of 32 bits; the slice shows its bytes.
-/
import Derived.Test.YtbpmmeagpefglaaSumV
namespace Go.Proofs.Ytbpmmeagpefglaa
open Go.RowKit

theorem ref_test {Y z : Int} {j : Nat} (y0 : 0 ≤ Y) (z0 : 0 ≤ z) : (Y % 2 != (z / 2 ^ j).tmod 2 % 4294967296) = !decide (Y.toNat % 2 = z.toNat / 2 ^ j % 2) := by
  obtain ⟨y, rfl⟩ := Int.eq_ofNat_of_zero_le y0
  obtain ⟨m, rfl⟩ := Int.eq_ofNat_of_zero_le z0
  have e : ((m : Int) / 2 ^ j) = ((m / 2 ^ j : Nat) : Int) := by rw [Int.natCast_ediv, Int.natCast_pow]; rfl
  rw [e, Int.toNat_natCast, Int.toNat_natCast, Int.tmod_eq_emod_of_nonneg (Int.natCast_nonneg _)]
  generalize m / 2 ^ j = q
  by_cases h : y % 2 = q % 2
  · rw [decide_eq_true h]
    simp only [Bool.not_true, bne_eq_false_iff_eq]
    omega
  · rw [decide_eq_false h]
    simp only [Bool.not_false, bne_iff_ne, ne_eq]
    omega

theorem ref_no {R Y z : Int} {j : Nat} (y0 : 0 ≤ Y) (z0 : 0 ≤ z) (HY : Y.toNat = Cr.it j (R.toNat ^^^ (z.toNat % 2 ^ j))) (h : (Y % 2 != (z / 2 ^ j).tmod 2 % 4294967296) = false) :
    (Y / 2).toNat = Cr.it (j + 1) (R.toNat ^^^ (z.toNat % 2 ^ (j + 1))) := by
  rw [ref_test y0 z0] at h
  have h' : Y.toNat % 2 = z.toNat / 2 ^ j % 2 := by simpa using h
  rw [Cr.bit_next, ← HY, Cr.step_bit _ _ (by omega), if_pos h', Nat.xor_zero]
  omega

theorem ref_yes {R Y z : Int} {j : Nat} (y0 : 0 ≤ Y) (y1 : Y < 4294967296) (z0 : 0 ≤ z) (HY : Y.toNat = Cr.it j (R.toNat ^^^ (z.toNat % 2 ^ j))) (h : (Y % 2 != (z / 2 ^ j).tmod 2 % 4294967296) = true) :
    (bits .xor .u32 (Y / 2) 2197175160).toNat = Cr.it (j + 1) (R.toNat ^^^ (z.toNat % 2 ^ (j + 1))) ∧ 0 ≤ bits .xor .u32 (Y / 2) 2197175160 ∧ bits .xor .u32 (Y / 2) 2197175160 < 4294967296 := by
  rw [ref_test y0 z0] at h
  have h' : ¬ Y.toNat % 2 = z.toNat / 2 ^ j % 2 := by simpa using h
  obtain ⟨e1, e2, e3⟩ := xor_u32 (a := Y / 2) (b := 2197175160) (by omega) (by omega) (by omega) (by omega)
  rw [e1]
  refine ⟨?_, e2, e3⟩
  rw [Cr.bit_next, ← HY, Cr.step_bit _ _ (by omega), if_neg h', xor_nat]
  congr 1
  omega

set_option maxHeartbeats 1000000 in
theorem refmore_any (s : Int) (a : Option Addr) (n cap : Nat) (zs : List Int) (w : World) (hs : 0 ≤ s ∧ s < 4294967296) (hr : Row .u8 w a n zs) :
    Calls Try.prog 41 #[.int .u32 s, .slice a n cap] w fun e w' => e = .returned (.int .u32 (moreS s zs)) ∧ w' = w := by
  obtain ⟨s0, s1⟩ := hs
  have hn : n ≤ 281474976710656 := hr.2.1
  obtain ⟨x1, x2, x3⟩ := xor_u32 (a := s) (b := 4294967295) s0 s1 (by omega) (by omega)
  have N0 : Hid ((xorI s 4294967295).toNat = 4294967295 ^^^ s.toNat) := by show _ = _; rw [xor_nat, Nat.xor_comm]; rfl
  have HR := hide hr
  clear hr
  generalize xorI s 4294967295 = R0 at *
  go_enter Try.func41, Try.ntmps41
  go_wp2
  clear x1
  go_loop [5, 6] (fun r i => ∃ (k : Nat) (R : Int), k ≤ n ∧ i = .int .i64 k ∧ r = .int .u32 R ∧ 0 ≤ R ∧ R < 4294967296 ∧ Hid (R.toNat = Cr.reg (4294967295 ^^^ s.toNat) ((zs.take k).map Int.toNat))) (fun _ i => n - (intOf i).toNat)
  case atStart => exact ⟨0, R0, by omega, rfl, rfl, x2, x3, N0⟩
  case round =>
    obtain ⟨k, R, hk, rfl, rfl, r0, r1, HN⟩ := hrel
    by_cases hlt : k < n
    · have hrow := HR.out
      have hb := hrow.byte k
      obtain ⟨hl, _, _, h0 | ⟨b, off, rfl, hc⟩⟩ := hrow
      · omega
      have hck := hc k hlt
      have HS : Hid ((zs.take (k + 1)).map Int.toNat = (zs.take k).map Int.toNat ++ [(zs.getD k 0).toNat]) := map_take_succ zs k (by omega)
      clear hc hl
      generalize zs.getD k 0 = z at *
      obtain ⟨z0, z1⟩ := hb
      go_wp2
      go_loop [5, 7] (fun r i => ∃ (j : Nat) (Y : Int), j ≤ 8 ∧ i = .int .i64 j ∧ r = .int .u32 Y ∧ 0 ≤ Y ∧ Y < 4294967296 ∧ Hid (Y.toNat = Cr.it j (R.toNat ^^^ (z.toNat % 2 ^ j)))) (fun _ i => 8 - (intOf i).toNat)
      case atStart => exact ⟨0, R, by omega, rfl, rfl, r0, r1, by show _ = _; rw [Nat.pow_zero, Nat.mod_one, Nat.xor_zero]; rfl⟩
      case round =>
        obtain ⟨j, Y, hj, rfl, rfl, q0, q1, HY⟩ := hrel
        by_cases hj8 : j < 8
        · go_wp2
          all_goals clear hck
          · obtain ⟨hf, f0, f1⟩ := ref_yes (R := R) q0 q1 z0 HY.out ‹_›
            exact ⟨⟨j + 1, _, by omega, by go_num, rfl, f0, f1, hf⟩, by simp [intOf]; omega⟩
          · have hf := ref_no (R := R) q0 z0 HY.out ‹_›
            exact ⟨⟨j + 1, Y / 2, by omega, by go_num, rfl, by omega, by omega, hf⟩, by simp [intOf]; omega⟩
        · have : j = 8 := by omega
          subst this
          go_wp2
          have HE : Hid (Y.toNat = Cr.reg (4294967295 ^^^ s.toNat) ((zs.take (k + 1)).map Int.toNat)) := by
            show _ = _
            rw [HS.out, Cr.reg_append, ← HN.out, HY.out, Nat.mod_eq_of_lt (by omega)]
            rfl
          exact ⟨⟨k + 1, Y, by omega, by go_num, rfl, q0, q1, HE⟩, by simp [intOf]; omega⟩
    · have : k = n := by omega
      subst this
      obtain ⟨e1, e2, e3⟩ := xor_u32 (a := R) (b := 4294967295) r0 r1 (by omega) (by omega)
      have hl := HR.out.1
      have HE : Hid (xorI R 4294967295 = moreS s zs) := by
        show _ = _
        unfold xorI moreS
        rw [HN.out, List.take_of_length_le (by omega), Nat.xor_comm]
        rfl
      clear hl
      go_wp2
      go_ret
      exact ⟨ret_u32 HE.out, rfl⟩

theorem refof_any (a : Option Addr) (n cap : Nat) (zs : List Int) (w : World) (hr : Row .u8 w a n zs) :
    Calls Try.prog 32 #[.slice a n cap] w fun e w' => e = .returned (.int .u32 (moreS 0 zs)) ∧ w' = w := by
  have M := hide (fun w hr => refmore_any 0 a n cap zs w (by decide) hr)
  go_enter Try.func32, Try.ntmps32
  go_wp2_with fail
  refine (M.out _ hr).mono ?_
  rintro e w' ⟨rfl, rfl⟩
  go_wp2
  go_ret
  exact ⟨rfl, rfl⟩
end Go.Proofs.Ytbpmmeagpefglaa
