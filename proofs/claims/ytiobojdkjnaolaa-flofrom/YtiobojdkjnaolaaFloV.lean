/-
  What the document's own answer From (bit by bit) comes to: a contract, for every world; it changes nothing.
  Conditions: the argument is a word (0 to 2^64 - 1).
-/
import Derived.Test.YtiobojdkjnaolaaFloT
namespace Go.Proofs.Ytiobojdkjnaolaa
open Go.RowKit
attribute [local go_sem] run_bits run_frombits

/-- A number of more than 53 bits: what is kept, what is left, and half of the last place. -/
theorem from_big {v : Int} {L : Nat} (h0 : 0 < v) (h1 : v < 18446744073709551616) (hL : L = v.toNat.log2) (hb : 52 < L) :
    ∃ Q R H : Int, v / 2 ^ (L - 52) = Q ∧ IntKind.u64.wrap (v - IntKind.u64.wrap (Q * 2 ^ (L - 52))) = R ∧ IntKind.u64.wrap (2 ^ (L - 52 - 1)) = H ∧ 4503599627370496 ≤ Q ∧ Q < 9007199254740992 ∧ 0 ≤ R ∧
      fromS v = (L + 1022) * 4503599627370496 + (Q + if H < R ∨ (R = H ∧ Q % 2 = 1) then 1 else 0) := by
  obtain ⟨n, rfl⟩ := Int.eq_ofNat_of_zero_le (Int.le_of_lt h0)
  rw [Int.toNat_natCast] at hL
  have hn : n ≠ 0 := by omega
  obtain ⟨b1, b2⟩ := Fl.log_bounds hn
  have b3 := Fl.log_lt hn (by omega)
  rw [← hL] at b1 b2 b3
  have hp : 0 < 2 ^ (L - 52) := Nat.two_pow_pos _
  have e1 : 4503599627370496 * (2 : Nat) ^ (L - 52) = 2 ^ L := by
    rw [show (4503599627370496 : Nat) = 2 ^ 52 from rfl, ← Nat.pow_add, show 52 + (L - 52) = L by omega]
  have e2 : 9007199254740992 * (2 : Nat) ^ (L - 52) = 2 ^ (L + 1) := by
    rw [show (9007199254740992 : Nat) = 2 ^ 53 from rfl, ← Nat.pow_add, show 53 + (L - 52) = L + 1 by omega]
  have q1 : 4503599627370496 ≤ n / 2 ^ (L - 52) := by rw [Nat.le_div_iff_mul_le hp]; omega
  have q2 : n / 2 ^ (L - 52) < 9007199254740992 := by rw [Nat.div_lt_iff_lt_mul hp]; omega
  have dm := Nat.div_add_mod n (2 ^ (L - 52))
  have e3 : (2 : Nat) ^ (L - 52) = 2 * 2 ^ (L - 52 - 1) := by rw [← Nat.pow_succ']; congr 1; omega
  have e4 : (2 : Nat) ^ (L - 52 - 1) ≤ 2 ^ 11 := Nat.pow_le_pow_right (by omega) (by omega)
  have c1 : (n : Int) / 2 ^ (L - 52) = ((n / 2 ^ (L - 52) : Nat) : Int) := by rw [Int.natCast_ediv, Int.natCast_pow]; rfl
  have c2 : ((n / 2 ^ (L - 52) : Nat) : Int) * 2 ^ (L - 52) = ((2 ^ (L - 52) * (n / 2 ^ (L - 52)) : Nat) : Int) := by
    rw [Nat.mul_comm, Int.natCast_mul, Int.natCast_pow]; rfl
  have c3 : (2 : Int) ^ (L - 52 - 1) = ((2 ^ (L - 52 - 1) : Nat) : Int) := by rw [Int.natCast_pow]; rfl
  refine ⟨((n / 2 ^ (L - 52) : Nat) : Int), ((n % 2 ^ (L - 52) : Nat) : Int), ((2 ^ (L - 52 - 1) : Nat) : Int), c1, ?_, ?_, by omega, by omega, by omega, ?_⟩
  · rw [c2, IntKind.wrap_u64, IntKind.wrap_u64]
    generalize n % 2 ^ (L - 52) = r at *
    generalize 2 ^ (L - 52) * (n / 2 ^ (L - 52)) = t at *
    omega
  · rw [c3, IntKind.wrap_u64]; omega
  · unfold fromS Fl.fr
    rw [Int.toNat_natCast, if_neg hn]
    unfold Fl.kept
    rw [← hL, if_neg (by omega)]
    unfold Fl.rnd
    rw [e3]
    rw [← e3]
    generalize n / 2 ^ (L - 52) = q at *
    generalize n % 2 ^ (L - 52) = r at *
    rw [e3]
    generalize 2 ^ (L - 52 - 1) = h at *
    split <;> split <;> omega

/-- A number of up to 53 bits. -/
theorem from_small {v : Int} {L : Nat} (h0 : 0 < v) (hL : L = v.toNat.log2) (hb : L ≤ 52) :
    ∃ K : Int, v * 2 ^ (52 - L) = K ∧ 4503599627370496 ≤ K ∧ K ≤ 9007199254740992 ∧ fromS v = (L + 1022) * 4503599627370496 + K := by
  obtain ⟨n, rfl⟩ := Int.eq_ofNat_of_zero_le (Int.le_of_lt h0)
  rw [Int.toNat_natCast] at hL
  have hn : n ≠ 0 := by omega
  obtain ⟨b1, b2⟩ := Fl.kept_bounds hn
  have ek : Fl.kept n = n * 2 ^ (52 - L) := by unfold Fl.kept; rw [← hL, if_pos hb]
  refine ⟨(Fl.kept n : Nat), ?_, by omega, by omega, ?_⟩
  · rw [ek, Int.natCast_mul, Int.natCast_pow]; rfl
  · unfold fromS Fl.fr
    rw [Int.toNat_natCast, if_neg hn, ← hL]; omega

set_option maxHeartbeats 4000000 in
theorem reffrom_any (v : Int) (h : Word v) (w : World) :
    Calls Try.prog 23 #[.int .u64 v] w fun e w' => e = .returned (.int .u64 (fromS v)) ∧ w' = w := by
  obtain ⟨h0, h1⟩ := h
  by_cases z : v = 0
  · have e1 : (v == 0) = true := beq_iff_eq.2 z
    have F : Hid (fromS v = 0) := by show _ = _; subst z; rfl
    clear z
    go_enter Try.func23, Try.ntmps23
    go_wp2
    go_ret
    exact ⟨ret_u64 F.out.symm, rfl⟩
  have e1 : (v == 0) = false := beq_eq_false_iff_ne.2 z
  obtain ⟨n, en⟩ := Int.eq_ofNat_of_zero_le h0
  have hn : n ≠ 0 := by omega
  have B := hide (Fl.log_bounds hn)
  have hL := Fl.log_lt hn (show n < 18446744073709551616 by omega)
  obtain ⟨L, eL⟩ : ∃ L, L = n.log2 := ⟨_, rfl⟩
  rw [← eL] at B hL
  have D : Hid (∀ k : Nat, k ≤ L → 0 < v / 2 ^ k) := by
    intro k hk
    have h : 2 ^ k ≤ n := Nat.le_trans (Nat.pow_le_pow_right (by omega) hk) B.out.1
    have h2 : 1 ≤ n / 2 ^ k := by rw [Nat.le_div_iff_mul_le (Nat.two_pow_pos k)]; omega
    have : ((n / 2 ^ k : Nat) : Int) = v / 2 ^ k := by rw [en, Int.natCast_ediv, Int.natCast_pow]; rfl
    omega
  have D' : Hid (v / 2 ^ (L + 1) = 0) := by
    show _ = _
    have h2 : n / 2 ^ (L + 1) = 0 := Nat.div_eq_of_lt B.out.2
    have : ((n / 2 ^ (L + 1) : Nat) : Int) = v / 2 ^ (L + 1) := by rw [en, Int.natCast_ediv, Int.natCast_pow]; rfl
    omega
  have EN := hide en
  have EL := hide eL
  have Z : Hid (0 < v) := by show _ < _; omega
  clear en eL hn z
  go_enter Try.func23, Try.ntmps23
  go_wp2_with fail
  go_loop [3] (fun i => ∃ k : Nat, i = .int .i64 k ∧ k ≤ L + 1) (fun i => (65 - intOf i).toNat)
  case atStart => exact ⟨0, rfl, by omega⟩
  case round =>
    obtain ⟨k, rfl, hk⟩ := hrel
    by_cases kl : k ≤ L
    · have d := D.out k kl
      go_wp2
      exact ⟨⟨k + 1, by simp, by omega⟩, by simp only [intOf]; omega⟩
    · have ek : k = L + 1 := by omega
      subst ek
      clear hk kl D
      have d := D'.out
      have hv : Hid (L = v.toNat.log2) := by show _ = _; rw [EL.out, EN.out, Int.toNat_natCast]
      by_cases k52 : L ≤ 52
      · obtain ⟨K, f1, f2, f3, f4⟩ := from_small (v := v) Z.out hv.out k52
        have F := hide f4
        clear f4
        go_wp2
        go_ret
        exact ⟨ret_u64 (by have := F.out; omega), rfl⟩
      · obtain ⟨Q, R, H, f1, f2, f3, f4, f5, f6, f7⟩ := from_big (v := v) Z.out h1 hv.out (by omega)
        have F := hide f7
        clear f7 EL EN hv B D' Z
        by_cases c1 : H < R
        · have G : Hid (fromS v = (L + 1022) * 4503599627370496 + (Q + 1)) := by show _ = _; rw [F.out, if_pos (Or.inl c1)]
          clear F
          by_cases k63 : L < 63
          · go_wp2
            go_ret
            exact ⟨ret_u64 (by have := G.out; omega), rfl⟩
          · clear d
            have k63' : ((L : Int) + 1 < 64) = False := by simp; omega
            clear k63
            go_wp2
            go_ret
            exact ⟨ret_u64 (by have := G.out; omega), rfl⟩
        · by_cases c2 : R = H
          · have c2' : (R == H) = true := beq_iff_eq.2 c2
            by_cases c3 : Q % 2 = 1
            · have c3' : (Q % 2 == 1) = true := beq_iff_eq.2 c3
              have G : Hid (fromS v = (L + 1022) * 4503599627370496 + (Q + 1)) := by show _ = _; rw [F.out, if_pos (Or.inr ⟨c2, c3⟩)]
              clear F c2 c3
              by_cases k63 : L < 63
              · go_wp2
                go_ret
                exact ⟨ret_u64 (by have := G.out; omega), rfl⟩
              · clear d
                have k63' : ((L : Int) + 1 < 64) = False := by simp; omega
                clear k63
                go_wp2
                go_ret
                exact ⟨ret_u64 (by have := G.out; omega), rfl⟩
            · have c3' : (Q % 2 == 1) = false := beq_eq_false_iff_ne.2 c3
              have G : Hid (fromS v = (L + 1022) * 4503599627370496 + (Q + 0)) := by show _ = _; rw [F.out, if_neg (by omega)]
              clear F c2 c3
              by_cases k63 : L < 63
              · go_wp2
                go_ret
                exact ⟨ret_u64 (by have := G.out; omega), rfl⟩
              · clear d
                have k63' : ((L : Int) + 1 < 64) = False := by simp; omega
                clear k63
                go_wp2
                go_ret
                exact ⟨ret_u64 (by have := G.out; omega), rfl⟩
          · have c2' : (R == H) = false := beq_eq_false_iff_ne.2 c2
            have G : Hid (fromS v = (L + 1022) * 4503599627370496 + (Q + 0)) := by show _ = _; rw [F.out, if_neg (by omega)]
            clear F c2
            by_cases k63 : L < 63
            · go_wp2
              go_ret
              exact ⟨ret_u64 (by have := G.out; omega), rfl⟩
            · clear d
              have k63' : ((L : Int) + 1 < 64) = False := by simp; omega
              clear k63
              go_wp2
              go_ret
              exact ⟨ret_u64 (by have := G.out; omega), rfl⟩
end Go.Proofs.Ytiobojdkjnaolaa
