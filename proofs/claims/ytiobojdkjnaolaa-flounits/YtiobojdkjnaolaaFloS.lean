/-
  What the document's own answer Units (bit by bit) comes to: a contract, for every world; it changes nothing.
  Conditions: the word is 0 to 2^64 - 1, the shift a number of 64 bits with a sign.
-/
import Derived.Test.YtiobojdkjnaolaaFloR
namespace Go.Proofs.Ytiobojdkjnaolaa
open Go.RowKit

/-- a times 2^c, rounded down. -/
def vl (a : Nat) (c : Int) : Nat := if c < 0 then a / 2 ^ (-c).toNat else a * 2 ^ c.toNat
theorem vl_un {r : Nat} {s : Int} (h : -2000 ≤ s) : vl (Fl.mg r) (-1074 + (Fl.pl r : Int) + s) = Fl.un r s := by
  unfold vl
  split
  · rename_i k; rw [Fl.un_lo h k]
  · rename_i k; rw [Fl.un_hi h (by omega)]
theorem vl_up {a : Nat} {c : Int} (h : 0 < c) : vl (a * 2) (c - 1) = vl a c := by
  unfold vl
  rw [if_neg (by omega), if_neg (by omega), Nat.mul_assoc, ← Nat.pow_succ']
  congr 2; omega
theorem vl_down {a : Nat} {c : Int} (h : c < 0) : vl (a / 2) (c + 1) = vl a c := by
  unfold vl
  rw [if_pos h]
  by_cases k : c + 1 < 0
  · rw [if_pos k, Nat.div_div_eq_div_mul, ← Nat.pow_succ']
    congr 2; omega
  · rw [if_neg k, show (c + 1).toNat = 0 by omega, show (-c).toNat = 1 by omega]; simp
theorem vl_big {a : Nat} {c : Int} (h : 0 < c) (k : 9223372036854775808 ≤ a) : 18446744073709551616 ≤ vl a c := by
  unfold vl
  rw [if_neg (by omega)]
  have : 2 ^ 1 ≤ 2 ^ c.toNat := Nat.pow_le_pow_right (by omega) (by omega)
  calc 18446744073709551616 = 9223372036854775808 * 2 ^ 1 := rfl
    _ ≤ a * 2 ^ c.toNat := Nat.mul_le_mul k this
theorem vl_zero (c : Int) : vl 0 c = 0 := by unfold vl; split <;> simp
theorem vl_end (a : Nat) : vl a 0 = a := by unfold vl; simp

theorem kind_inf (x : Int) : (kindS x == 3) = decide (x % 9223372036854775808 = 9218868437227405312) := by
  unfold kindS
  by_cases k : x % 9223372036854775808 = 9218868437227405312
  · rw [if_neg (by omega), if_pos k, decide_eq_true k]; rfl
  · rw [decide_eq_false k, if_neg k]
    refine beq_eq_false_iff_ne.2 ?_
    repeat' split
    all_goals omega

set_option maxHeartbeats 2000000 in
theorem refunits_fin (x s : Int) (h0 : 0 < x) (h1 : x < 9218868437227405312) (w : World) :
    Calls Try.prog 21 #[.int .u64 x, .int .i64 s] w fun e w' => e = .returned (.tuple #[.int .u64 (unitV x s), .int .i64 (unitK x s)]) ∧ w' = w := by
  have hw : Word x := ⟨by omega, by omega⟩
  have A := hide (fun w => refkind_any x hw w)
  have E := hide (fun w => refexp_any x hw w)
  have G := hide (fun w => reffrac_any x hw w)
  have ke : (kindS x == 4) = false := by rw [kind_nan]; exact decide_eq_false (by omega)
  have ki : (kindS x == 3) = false := by rw [kind_inf]; exact decide_eq_false (by omega)
  have S := Fl.and_sign hw.1 hw.2
  rw [if_neg (by omega)] at S
  have U : Hid (vl (Fl.mg x.toNat) (-1074 + (Fl.pl x.toNat : Int) + clampS s) = Fl.un x.toNat (clampS s)) := vl_un (clamp_bounds s).1
  have V := hide (units_of s h0 h1)
  have hm := hide (Fl.mg_lt x.toNat)
  have C : Hid ((s < -2000 → clampS s = -2000) ∧ (2000 < s → clampS s = 2000) ∧ (-2000 ≤ s → s ≤ 2000 → clampS s = s)) := by
    refine ⟨?_, ?_, ?_⟩ <;> intros <;> unfold clampS
    · rw [if_pos (by omega)]
    · rw [if_neg (by omega), if_pos (by omega)]
    · rw [if_neg (by omega), if_neg (by omega)]
  have P : Hid ((x < 4503599627370496 → (Fl.mg x.toNat : Int) = x ∧ Fl.pl x.toNat = 0) ∧ (4503599627370496 ≤ x → (Fl.mg x.toNat : Int) = 4503599627370496 + x % 4503599627370496 ∧ (Fl.pl x.toNat : Int) = x / 4503599627370496 - 1)) := by
    refine ⟨fun k => ⟨?_, ?_⟩, fun k => ⟨?_, ?_⟩⟩
    · unfold Fl.mg; split <;> omega
    · unfold Fl.pl; omega
    · unfold Fl.mg; split <;> omega
    · unfold Fl.pl; omega
  have q : x / 4503599627370496 % 2048 = x / 4503599627370496 := by omega
  rw [q] at E
  clear q
  rcases (show s < -2000 ∨ 2000 < s ∨ (-2000 ≤ s ∧ s ≤ 2000) by omega) with ks | ks | ⟨ks, ks'⟩ <;> rcases (show x < 4503599627370496 ∨ 4503599627370496 ≤ x by omega) with kx | kx
  all_goals
    go_enter Try.func21, Try.ntmps21
    go_wp2_with (first
      | (go_at_call 10; refine (A.out _).mono ?_; rintro e w' ⟨rfl, rfl⟩)
      | (go_at_call 29; refine (E.out _).mono ?_; rintro e w' ⟨rfl, rfl⟩)
      | (go_at_call 30; refine (G.out _).mono ?_; rintro e w' ⟨rfl, rfl⟩))
    go_loop [6, 7] (fun m e => ∃ a : Nat, ∃ c : Int, m = .int .u64 a ∧ e = .int .i64 c ∧ a < 18446744073709551616 ∧ -5000 < c ∧ c < 5000 ∧ Hid (vl a c = Fl.un x.toNat (clampS s))) (fun _ e => (intOf e).toNat)
    case atStart =>
      have f := P.out
      have g := C.out
      have hm' := hm.out
      have hp : Fl.pl x.toNat ≤ 2046 := by unfold Fl.pl; omega
      have cb := clamp_bounds s
      exact ⟨Fl.mg x.toNat, -1074 + (Fl.pl x.toNat : Int) + clampS s, congrArg (Value.int .u64) (by omega), congrArg (Value.int .i64) (by omega), by omega, by omega, by omega, U⟩
    case round =>
      obtain ⟨a, c, rfl, rfl, ha, c0, c1, HV⟩ := hrel
      clear A E G S U hm C P ks kx ke ki hw
      by_cases kc : 0 < c
      · by_cases ka : 9223372036854775808 ≤ (a : Int)
        · have F1 : Hid (unitV x s = 18446744073709551615) := by
            show _ = _
            have := vl_big kc (show 9223372036854775808 ≤ a by omega)
            rw [V.out.1, if_neg (by rw [← HV.out]; omega)]
          have F2 : Hid (unitK x s = 2) := by
            show _ = _
            have := vl_big kc (show 9223372036854775808 ≤ a by omega)
            rw [V.out.2, if_neg (by rw [← HV.out]; omega)]
          clear V HV
          go_wp2
          go_ret2
          exact ⟨ret_two F1.out.symm F2.out.symm, rfl⟩
        · go_wp2
          exact ⟨⟨a * 2, c - 1, by simp, rfl, by omega, by omega, by omega, (vl_up kc).trans HV.out⟩, by simp only [intOf]; omega⟩
      · go_wp2_with fail
        go_loop [6, 7] (fun m e => ∃ a : Nat, ∃ c : Int, m = .int .u64 a ∧ e = .int .i64 c ∧ a < 18446744073709551616 ∧ -5000 < c ∧ c ≤ 0 ∧ Hid (vl a c = Fl.un x.toNat (clampS s))) (fun _ e => (-(intOf e)).toNat)
        case atStart => exact ⟨a, c, rfl, rfl, ha, c0, by omega, HV⟩
        case round =>
          clear ha c0 c1 HV kc
          obtain ⟨a, c, rfl, rfl, ha, c0, c1, HV⟩ := hrel
          by_cases kc : c < 0
          · by_cases ka : 0 < (a : Int)
            · go_wp2
              exact ⟨⟨a / 2, c + 1, by simp, rfl, by omega, by omega, by omega, (vl_down kc).trans HV.out⟩, by simp only [intOf]; omega⟩
            · have F : Hid (unitV x s = (a : Int) ∧ unitK x s = 0) := by
                have ez : a = 0 := by omega
                subst ez
                have e0 : Fl.un x.toNat (clampS s) = 0 := HV.out.symm.trans (vl_zero c)
                refine ⟨?_, ?_⟩
                · rw [V.out.1, e0]; rfl
                · rw [V.out.2, e0]; rfl
              clear V HV
              go_wp2
              go_ret2
              exact ⟨ret_two F.out.1.symm F.out.2.symm, rfl⟩
          · have F : Hid (unitV x s = (a : Int) ∧ unitK x s = 0) := by
              have ez : c = 0 := by omega
              subst ez
              have e0 : Fl.un x.toNat (clampS s) = a := HV.out.symm.trans (vl_end a)
              refine ⟨?_, ?_⟩
              · rw [V.out.1, e0, if_pos ha]
              · rw [V.out.2, e0, if_pos ha]
            clear V HV
            go_wp2
            go_ret2
            exact ⟨ret_two F.out.1.symm F.out.2.symm, rfl⟩

set_option maxHeartbeats 1000000 in
theorem refunits_any (x s : Int) (h : Word x) (w : World) :
    Calls Try.prog 21 #[.int .u64 x, .int .i64 s] w fun e w' => e = .returned (.tuple #[.int .u64 (unitV x s), .int .i64 (unitK x s)]) ∧ w' = w := by
  by_cases kf : 0 < x ∧ x < 9218868437227405312
  · exact refunits_fin x s kf.1 kf.2 w
  have A := hide (fun w => refkind_any x h w)
  have E := hide (fun w => refexp_any x h w)
  have G := hide (fun w => reffrac_any x h w)
  have ke := kind_nan x
  have ki := kind_inf x
  have S := Fl.and_sign h.1 h.2
  obtain ⟨h0, h1⟩ := h
  by_cases kn : 9218868437227405312 < x % 9223372036854775808
  · have F1 : Hid (unitV x s = 0) := by show _ = _; unfold unitV; rw [if_pos kn]
    have F2 : Hid (unitK x s = 3) := by show _ = _; unfold unitK; rw [if_pos kn]
    rw [show nanI x = true from decide_eq_true kn] at ke
    clear ki S kn kf
    go_enter Try.func21, Try.ntmps21
    go_wp2_with (go_at_call 10; refine (A.out _).mono ?_; rintro e w' ⟨rfl, rfl⟩)
    go_ret2
    exact ⟨ret_two F1.out.symm F2.out.symm, rfl⟩
  · rw [show nanI x = false from decide_eq_false kn] at ke
    by_cases k1 : 9223372036854775808 < x
    · have F1 : Hid (unitV x s = 0) := by show _ = _; unfold unitV; rw [if_neg kn, if_pos (by omega)]
      have F2 : Hid (unitK x s = 1) := by show _ = _; unfold unitK; rw [if_neg kn, if_pos k1]
      rw [if_pos (by omega)] at S
      have e1 : (x != 9223372036854775808) = true := by rw [bne, beq_eq_false_iff_ne.2 (by omega)]; rfl
      clear ki kn k1 kf
      go_enter Try.func21, Try.ntmps21
      go_wp2_with (go_at_call 10; refine (A.out _).mono ?_; rintro e w' ⟨rfl, rfl⟩)
      go_ret2
      exact ⟨ret_two F1.out.symm F2.out.symm, rfl⟩
    · by_cases k3 : x = 9218868437227405312
      · have F1 : Hid (unitV x s = 18446744073709551615) := by
          show _ = _; unfold unitV; rw [if_neg kn, if_neg (by omega), if_pos k3]
        have F2 : Hid (unitK x s = 2) := by
          show _ = _; unfold unitK; rw [if_neg kn, if_neg k1, if_neg (by omega), if_pos k3]
        rw [if_neg (by omega)] at S
        rw [decide_eq_true (by omega)] at ki
        clear kn k1 kf k3
        go_enter Try.func21, Try.ntmps21
        go_wp2_with (go_at_call 10; refine (A.out _).mono ?_; rintro e w' ⟨rfl, rfl⟩)
        go_ret2
        exact ⟨ret_two F1.out.symm F2.out.symm, rfl⟩
      · have k2 : x = 0 ∨ x = 9223372036854775808 := by omega
        have F1 : Hid (unitV x s = 0) := by
          show _ = _; unfold unitV; rw [if_neg kn]
          rcases k2 with rfl | rfl
          · rw [if_neg (by omega), if_neg (by omega)]
            rw [show (0 : Int).toNat = 0 from rfl, Fl.un_zero]; rfl
          · rw [if_pos (by omega)]
        have F2 : Hid (unitK x s = 0) := by
          show _ = _; unfold unitK; rw [if_neg kn, if_neg k1]
          rcases k2 with rfl | rfl
          · rw [if_neg (by omega), if_neg (by omega)]
            rw [show (0 : Int).toNat = 0 from rfl, Fl.un_zero]; rfl
          · rw [if_pos rfl]
        rw [decide_eq_false (by omega)] at ki
        have q : x / 4503599627370496 % 2048 = 0 := by omega
        have q2 : x % 4503599627370496 = 0 := by omega
        rw [q] at E
        rw [q2] at G
        clear q q2 kn k1 kf k3
        rcases (show s < -2000 ∨ 2000 < s ∨ (-2000 ≤ s ∧ s ≤ 2000) by omega) with ks | ks | ⟨ks, ks'⟩ <;> rcases k2 with k2 | k2
        all_goals
          subst k2
          first | rw [if_pos (by omega)] at S | rw [if_neg (by omega)] at S
          go_enter Try.func21, Try.ntmps21
          go_wp2_with (first
            | (go_at_call 10; refine (A.out _).mono ?_; rintro e w' ⟨rfl, rfl⟩)
            | (go_at_call 29; refine (E.out _).mono ?_; rintro e w' ⟨rfl, rfl⟩)
            | (go_at_call 30; refine (G.out _).mono ?_; rintro e w' ⟨rfl, rfl⟩))
          go_ret2
          exact ⟨ret_two F1.out.symm F2.out.symm, rfl⟩
end Go.Proofs.Ytiobojdkjnaolaa
