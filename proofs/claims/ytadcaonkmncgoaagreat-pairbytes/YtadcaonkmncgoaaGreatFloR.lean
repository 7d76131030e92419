/-
  What the document's own answers Kind, Key, Of, Less come to: contracts, for every world; they change nothing.
  Conditions: each argument is a word (0 to 2^64 - 1).
-/
import Derived.Test.YtadcaonkmncgoaaGreatFloZ
namespace Go.Proofs.YtadcaonkmncgoaaGreat
open Go.RowKit
set_option maxRecDepth 20000

theorem refexp_any (x : Int) (h : Word x) (w : World) :
    Calls Tryz.prog 59 #[.int .u64 x] w fun e w' => e = .returned (.int .i64 (x / 4503599627370496 % 2048)) ∧ w' = w := by
  obtain ⟨h0, h1⟩ := h
  have A := Fl.and_exp (x := x / 4503599627370496) (by omega) (by omega)
  go_enter Tryz.func59, Tryz.ntmps59
  go_wp2
  go_ret
  exact ⟨rfl, rfl⟩
theorem reffrac_any (x : Int) (h : Word x) (w : World) :
    Calls Tryz.prog 60 #[.int .u64 x] w fun e w' => e = .returned (.int .u64 (x % 4503599627370496)) ∧ w' = w := by
  obtain ⟨h0, h1⟩ := h
  have A := Fl.and_frac h0 h1
  go_enter Tryz.func60, Tryz.ntmps60
  go_wp2
  go_ret
  exact ⟨rfl, rfl⟩

set_option maxHeartbeats 400000 in
theorem refkind_any (x : Int) (h : Word x) (w : World) :
    Calls Tryz.prog 33 #[.int .u64 x] w fun e w' => e = .returned (.int .i64 (kindS x)) ∧ w' = w := by
  have E := hide (fun w => refexp_any x h w)
  have G := hide (fun w => reffrac_any x h w)
  obtain ⟨h0, h1⟩ := h
  have H : Hid (kindS x = if x / 4503599627370496 % 2048 = 2047 ∧ 0 < x % 4503599627370496 then 4 else if x / 4503599627370496 % 2048 = 2047 then 3 else if 0 < x / 4503599627370496 % 2048 then 1 else if 0 < x % 4503599627370496 then 2 else 0) := by
    show _ = _
    unfold kindS
    repeat' split
    all_goals omega
  have b1 : 0 ≤ x / 4503599627370496 % 2048 := by omega
  have b2 : 0 ≤ x % 4503599627370496 := by omega
  clear h0 h1
  generalize x / 4503599627370496 % 2048 = p at *
  generalize x % 4503599627370496 = q at *
  by_cases k : p = 2047
  · have k' : (p == 2047) = true := beq_iff_eq.2 k
    by_cases k2 : 0 < q
    · have F : Hid (kindS x = 4) := by show _ = _; rw [H.out, if_pos ⟨k, k2⟩]
      clear H k
      go_enter Tryz.func33, Tryz.ntmps33
      go_wp2_with (first
        | (go_at_call 59; refine (E.out _).mono ?_; rintro e w' ⟨rfl, rfl⟩)
        | (go_at_call 60; refine (G.out _).mono ?_; rintro e w' ⟨rfl, rfl⟩))
      go_ret
      exact ⟨ret_u64 F.out.symm, rfl⟩
    · have F : Hid (kindS x = 3) := by show _ = _; rw [H.out, if_neg (fun c => k2 c.2), if_pos k]
      clear H k
      go_enter Tryz.func33, Tryz.ntmps33
      go_wp2_with (first
        | (go_at_call 59; refine (E.out _).mono ?_; rintro e w' ⟨rfl, rfl⟩)
        | (go_at_call 60; refine (G.out _).mono ?_; rintro e w' ⟨rfl, rfl⟩))
      go_ret
      exact ⟨ret_u64 F.out.symm, rfl⟩
  · have k' : (p == 2047) = false := beq_eq_false_iff_ne.2 k
    by_cases k1 : 0 < p
    · have F : Hid (kindS x = 1) := by show _ = _; rw [H.out, if_neg (fun c => k c.1), if_neg k, if_pos k1]
      clear H k
      go_enter Tryz.func33, Tryz.ntmps33
      go_wp2_with (first
        | (go_at_call 59; refine (E.out _).mono ?_; rintro e w' ⟨rfl, rfl⟩)
        | (go_at_call 60; refine (G.out _).mono ?_; rintro e w' ⟨rfl, rfl⟩))
      go_ret
      exact ⟨ret_u64 F.out.symm, rfl⟩
    · by_cases k2 : 0 < q
      · have F : Hid (kindS x = 2) := by show _ = _; rw [H.out, if_neg (fun c => k c.1), if_neg k, if_neg k1, if_pos k2]
        clear H k
        go_enter Tryz.func33, Tryz.ntmps33
        go_wp2_with (first
          | (go_at_call 59; refine (E.out _).mono ?_; rintro e w' ⟨rfl, rfl⟩)
          | (go_at_call 60; refine (G.out _).mono ?_; rintro e w' ⟨rfl, rfl⟩))
        go_ret
        exact ⟨ret_u64 F.out.symm, rfl⟩
      · have F : Hid (kindS x = 0) := by show _ = _; rw [H.out, if_neg (fun c => k c.1), if_neg k, if_neg k1, if_neg k2]
        clear H k
        go_enter Tryz.func33, Tryz.ntmps33
        go_wp2_with (first
          | (go_at_call 59; refine (E.out _).mono ?_; rintro e w' ⟨rfl, rfl⟩)
          | (go_at_call 60; refine (G.out _).mono ?_; rintro e w' ⟨rfl, rfl⟩))
        go_ret
        exact ⟨ret_u64 F.out.symm, rfl⟩

theorem refkey_any (x : Int) (h : Word x) (w : World) :
    Calls Tryz.prog 61 #[.int .u64 x] w fun e w' => e = .returned (.int .u64 (keyS x)) ∧ w' = w := by
  obtain ⟨h0, h1⟩ := h
  have A := Fl.and_sign h0 h1
  by_cases k : 9223372036854775808 ≤ x
  · rw [if_pos k] at A
    have H : Hid (bits .xor .u64 x 18446744073709551615 = keyS x) := by
      show _ = _
      rw [Fl.xor_all h0 h1]; unfold keyS; rw [if_pos k]
    go_enter Tryz.func61, Tryz.ntmps61
    go_wp2
    go_ret
    exact ⟨ret_u64 H.out, rfl⟩
  · rw [if_neg k] at A
    have H : Hid (bits .or .u64 x 9223372036854775808 = keyS x) := by
      show _ = _
      rw [Fl.or_sign h0 (by omega)]; unfold keyS; rw [if_neg k]
    go_enter Tryz.func61, Tryz.ntmps61
    go_wp2
    go_ret
    exact ⟨ret_u64 H.out, rfl⟩

theorem kind_nan (x : Int) : (kindS x == 4) = nanI x := by
  unfold kindS nanI
  by_cases k : 9218868437227405312 < x % 9223372036854775808
  · rw [if_pos k, decide_eq_true k]; rfl
  · rw [if_neg k, decide_eq_false k]
    refine beq_eq_false_iff_ne.2 ?_
    repeat' split
    all_goals omega
theorem kind_ne (x : Int) : (kindS x != 4) = !nanI x := by rw [bne, kind_nan]
theorem kind_fits (x : Int) : 0 ≤ kindS x ∧ kindS x ≤ 4 := by
  unfold kindS
  repeat' split
  all_goals omega

set_option maxHeartbeats 400000 in
theorem refless_any (x y : Int) (hx : Word x) (hy : Word y) (w : World) :
    Calls Tryz.prog 34 #[.int .u64 x, .int .u64 y] w fun e w' => e = .returned (.bool (lessB x y)) ∧ w' = w := by
  have A := hide (fun w => refkind_any x hx w)
  have B := hide (fun w => refkind_any y hy w)
  have C := hide (fun w => refkey_any x hx w)
  have D := hide (fun w => refkey_any y hy w)
  have kx := kind_ne x
  have ky := kind_ne y
  cases nx : nanI x
  · replace kx : (kindS x != 4) = true := by rw [kx, nx]; rfl
    cases ny : nanI y
    · replace ky : (kindS y != 4) = true := by rw [ky, ny]; rfl
      have F : Hid (lessB x y = decide (keyS x < keyS y)) := by show _ = _; unfold lessB; rw [nx, ny]; simp
      clear nx ny hx hy
      go_enter Tryz.func34, Tryz.ntmps34
      go_wp2_with fail
      refine (A.out _).mono ?_
      rintro e w1 ⟨rfl, rfl⟩
      go_wp2_with fail
      refine (B.out _).mono ?_
      rintro e w1 ⟨rfl, rfl⟩
      go_wp2_with fail
      refine (C.out _).mono ?_
      rintro e w1 ⟨rfl, rfl⟩
      go_wp2_with fail
      refine (D.out _).mono ?_
      rintro e w1 ⟨rfl, rfl⟩
      go_wp2
      go_ret
      exact ⟨ret_bool F.out.symm, rfl⟩
    · replace ky : (kindS y != 4) = false := by rw [ky, ny]; rfl
      have F : Hid (lessB x y = false) := by show _ = _; unfold lessB; rw [nx, ny]; simp
      clear nx ny hx hy
      go_enter Tryz.func34, Tryz.ntmps34
      go_wp2_with fail
      refine (A.out _).mono ?_
      rintro e w1 ⟨rfl, rfl⟩
      go_wp2_with fail
      refine (B.out _).mono ?_
      rintro e w1 ⟨rfl, rfl⟩
      go_wp2
      go_ret
      exact ⟨ret_bool F.out.symm, rfl⟩
  · replace kx : (kindS x != 4) = false := by rw [kx, nx]; rfl
    have F : Hid (lessB x y = false) := by show _ = _; unfold lessB; rw [nx]; simp
    clear nx hx hy ky
    go_enter Tryz.func34, Tryz.ntmps34
    go_wp2_with fail
    refine (A.out _).mono ?_
    rintro e w1 ⟨rfl, rfl⟩
    go_wp2
    go_ret
    exact ⟨ret_bool F.out.symm, rfl⟩

end Go.Proofs.YtadcaonkmncgoaaGreat
