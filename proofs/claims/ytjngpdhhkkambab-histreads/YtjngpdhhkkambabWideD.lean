/-
  What math/bits.Div64 comes to where it does not panic: the quotient of 128 bits by 64, and what is left; it changes nothing.
  Conditions: each argument is a word; the upper half is below the divisor.
-/
import Derived.Test.YtjngpdhhkkambabWideA
import Derived.Test.YtjngpdhhkkambabWideK
import Derived.Test.YtjngpdhhkkambabWideM
import Derived.Test.YtjngpdhhkkambabShelf
import Derived.BigQuiet
import Derived.Deep.Cut
import Derived.Deep.CutRange
import Derived.Deep.CutBlock
namespace Go.Proofs.Ytjngpdhhkkambab
open Go.RowKit

theorem lz_at (y : Int) (s : Nat) (h0 : 0 ≤ y) (h1 : y < 18446744073709551616) (hs : 64 - (Lib.bitLen y.toNat : Int) = s) (w : World) :
    Calls Try.prog 64 #[.int .u64 y] w fun e w' => e = .returned (.int .i64 (s : Int)) ∧ w' = w := by
  rw [← hs]
  exact Try.bits_LeadingZeros64 y w h0 (by omega)

/-- The numbers that Div64 makes ahead of its first guess, and what is known of them. -/
theorem frame_of (hi lo y : Int) (s : Nat) (i0 : 0 ≤ hi) (i1 : hi < 18446744073709551616) (l0 : 0 ≤ lo) (l1 : lo < 18446744073709551616) (y0 : 0 ≤ y) (y1 : y < 18446744073709551616) (h : hi < y) (hs : s ≤ 63)
    (hv1 : 9223372036854775808 ≤ y.toNat * 2 ^ s) (hv2 : y.toNat * 2 ^ s < 18446744073709551616) :
    ∃ V V1 V0 U L D1 D0 : Int,
      Hid (IntKind.u64.wrap (y * 2 ^ s) = V ∧ IntKind.u64.wrap (y * 2 ^ s) / 4294967296 = V1 ∧ bits .and .u64 (IntKind.u64.wrap (y * 2 ^ s)) 4294967295 = V0 ∧ bits .or .u64 (IntKind.u64.wrap (hi * 2 ^ s)) (lo / 2 ^ (64 - s)) = U ∧ IntKind.u64.wrap (lo * 2 ^ s) = L ∧ IntKind.u64.wrap (lo * 2 ^ s) / 4294967296 = D1 ∧ bits .and .u64 (IntKind.u64.wrap (lo * 2 ^ s)) 4294967295 = D0) ∧
      Hid (V = V1 * 4294967296 + V0 ∧ V = y * 2 ^ s ∧ (U * 4294967296 + D1) * 4294967296 + D0 = (hi * 18446744073709551616 + lo) * 2 ^ s) ∧
      9223372036854775808 ≤ V ∧ V < 18446744073709551616 ∧ 2147483648 ≤ V1 ∧ V1 < 4294967296 ∧ 0 ≤ V0 ∧ V0 < 4294967296 ∧ 0 ≤ U ∧ U < V ∧ 0 ≤ D1 ∧ D1 < 4294967296 ∧ 0 ≤ D0 ∧ D0 < 4294967296 ∧ 0 ≤ L ∧ L < 18446744073709551616 := by
  obtain ⟨hi, rfl⟩ := Int.eq_ofNat_of_zero_le i0
  obtain ⟨lo, rfl⟩ := Int.eq_ofNat_of_zero_le l0
  obtain ⟨y, rfl⟩ := Int.eq_ofNat_of_zero_le y0
  rw [Int.toNat_natCast] at hv1 hv2
  obtain ⟨q1, q2, q3⟩ := Kn.upper hi lo s hs (by omega)
  have hp : 0 < 2 ^ s := Nat.two_pow_pos s
  have hlt : hi * 2 ^ s < y * 2 ^ s := Nat.mul_lt_mul_of_pos_right (by omega) hp
  have c1 : ((y : Int) * 2 ^ s) = ((y * 2 ^ s : Nat) : Int) := by simp
  have c2 : ((hi : Int) * 2 ^ s) = ((hi * 2 ^ s : Nat) : Int) := by simp
  have c3 : ((lo : Int) * 2 ^ s) = ((lo * 2 ^ s : Nat) : Int) := by simp
  have c4 : ((lo : Int) / 2 ^ (64 - s)) = ((lo / 2 ^ (64 - s) : Nat) : Int) := by simp
  have c5 : (((hi : Int) * 18446744073709551616 + lo) * 2 ^ s) = (((hi * 18446744073709551616 + lo) * 2 ^ s : Nat) : Int) := by simp
  have w1 : IntKind.u64.wrap ((y * 2 ^ s : Nat) : Int) = ((y * 2 ^ s : Nat) : Int) := Kn.wrap_id (by omega) (by omega)
  have w2 : IntKind.u64.wrap ((hi * 2 ^ s : Nat) : Int) = ((hi * 2 ^ s : Nat) : Int) := Kn.wrap_id (by omega) (by omega)
  have w3 : IntKind.u64.wrap ((lo * 2 ^ s : Nat) : Int) = ((lo * 2 ^ s % 18446744073709551616 : Nat) : Int) := by rw [IntKind.wrap_u64]; omega
  have w4 := Kn.or_add s hi (lo / 2 ^ (64 - s)) (by omega) q1 hs
  have w5 := Kn.and_mask (x := ((y * 2 ^ s : Nat) : Int)) (by omega) (by omega)
  have w6 := Kn.and_mask (x := ((lo * 2 ^ s % 18446744073709551616 : Nat) : Int)) (by omega) (by omega)
  have hd := Nat.mul_lt_mul_of_pos_right (show hi * 18446744073709551616 + lo < y * 18446744073709551616 by omega) hp
  have hu : (hi * 18446744073709551616 + lo) * 2 ^ s / 18446744073709551616 < y * 2 ^ s := by
    rw [Nat.div_lt_iff_lt_mul (by omega)]
    rw [Nat.mul_right_comm] at hd
    exact hd
  rw [c1, c2, c3, c4, c5, w1, w2, w3, w4, w5, w6, q2, q3]
  clear c1 c2 c3 c4 c5 w1 w2 w3 w4 w5 w6 q1 q2 q3 hd hlt hp
  generalize (hi * 18446744073709551616 + lo) * 2 ^ s = M at hu ⊢
  generalize y * 2 ^ s = V at hv1 hv2 hu ⊢
  refine ⟨(V : Int), (V : Int) / 4294967296, (V : Int) % 4294967296, ((M / 18446744073709551616 : Nat) : Int), ((M % 18446744073709551616 : Nat) : Int), ((M % 18446744073709551616 : Nat) : Int) / 4294967296, ((M % 18446744073709551616 : Nat) : Int) % 4294967296, hide ⟨rfl, rfl, rfl, rfl, rfl, rfl, rfl⟩, hide ⟨?_, rfl, ?_⟩, ?_⟩
  · omega
  · omega
  exact ⟨by omega, by omega, by omega, by omega, by omega, by omega, by omega, by omega, by omega, by omega, by omega, by omega, by omega, by omega⟩

set_option maxHeartbeats 400000 in
set_option maxRecDepth 100000 in
theorem div64_great (hi lo y : Int) (hh : Word hi) (hl : Word lo) (hy : Word y) (h0 : 0 < hi) (h : hi < y) (w : World) :
    Calls Try.prog 60 #[.int .u64 hi, .int .u64 lo, .int .u64 y] w fun e w' => e = .returned (.tuple #[.int .u64 ((hi * 18446744073709551616 + lo) / y), .int .u64 ((hi * 18446744073709551616 + lo) % y)]) ∧ w' = w := by
  obtain ⟨i0, i1⟩ := hh
  obtain ⟨l0, l1⟩ := hl
  obtain ⟨y0, y1⟩ := hy
  obtain ⟨s, hs, hbl, hv1, hv2⟩ := Kn.moved y.toNat (by omega) (by omega)
  have Lz := hide (fun w => lz_at y s y0 y1 hbl w)
  clear hbl
  obtain ⟨V, V1, V0, U, L, D1, D0, HE, HF, v1, v2, p0, p1, p2, p3, u0, u1, d0, d1, d2, d3, t0, t1⟩ := frame_of hi lo y s i0 i1 l0 l1 y0 y1 h hs hv1 hv2
  clear hv1 hv2
  have s0 : 0 ≤ (s : Int) := by omega
  have s1 : (s : Int) ≤ 63 := by omega
  have e1 : (y == 0) = false := beq_eq_false_iff_ne.2 (by omega)
  have e2 : decide (y ≤ hi) = false := by simp; omega
  have e3 : (hi == 0) = false := beq_eq_false_iff_ne.2 (by omega)
  go_enter Try.func60, Try.ntmps60
  go_upto_region 14 with (go_at_call 64; refine (Lz.out _).mono ?_; rintro e w' ⟨rfl, rfl⟩)
  go_cut [2, 8, 9, 10, 11, 12, 13, 14] from 19 (fun a b c d e f g h wx => a = .int .u64 V ∧ b = .int .u64 (s : Int) ∧ c = .int .u64 V1 ∧ d = .int .u64 V0 ∧ e = .int .u64 U ∧ f = .int .u64 L ∧ g = .int .u64 D1 ∧ h = .int .u64 D0 ∧ wx = w')
  case first =>
    go_wp2
    go_meet
    case rel =>
      obtain ⟨a1, a2, a3, a4, a5, a6, a7⟩ := HE.out
      exact ⟨congrArg (Value.int .u64) a1, rfl, congrArg (Value.int .u64) a2, congrArg (Value.int .u64) a3, congrArg (Value.int .u64) a4, congrArg (Value.int .u64) a5, congrArg (Value.int .u64) a6, congrArg (Value.int .u64) a7, rfl⟩
  case rest =>
    obtain ⟨rfl, rfl, rfl, rfl, rfl, rfl, rfl, rfl, rfl⟩ := hcut
    clear HE Lz
    have HK : Hid (U * 4294967296 + D1 < V * 4294967296) := hide (by omega)
    obtain ⟨Q1, HQ1⟩ : ∃ Q1 : Int, Hid (Q1 = (U * 4294967296 + D1) / V) := ⟨_, rfl⟩
    obtain ⟨k1, k2, k3, k4, k5, k6⟩ := Kn.left_of (v1 := V1) u0 (by omega) (by omega)
    have HL : Hid (U = U / V1 * V1 + U % V1) := k2
    have HM : Hid ((U - U / V1 * V1 % 18446744073709551616) % 18446744073709551616 = U % V1) := k1
    clear k1 k2
    go_upto_block 0 with fail
    go_cut [15, 16] from 19 (fun q r wx => q = .int .u64 Q1 ∧ wx = wc)
    case first =>
      go_wp2_with fail
      go_loop [15, 16] (fun q r => ∃ a b : Int, q = .int .u64 a ∧ r = .int .u64 b ∧ Hid (U = a * V1 + b) ∧ Hid (Q1 ≤ a) ∧ 0 ≤ a ∧ a < 18446744073709551616 ∧ 0 ≤ b ∧ b < 4294967296) (fun q _ => (intOf q).toNat)
      case atStart =>
        refine ⟨U / V1, U % V1, rfl, congrArg (Value.int .u64) ?_, HL.out, ?_, k5, by omega, k3, by omega⟩
        · rw [IntKind.wrap_u64, IntKind.wrap_u64]; exact HM.out
        · obtain ⟨f1, _, _⟩ := HF.out
          show Q1 ≤ U / V1
          rw [HQ1.out, f1]; exact Kn.guess u0 (by omega) p2 d0 d1
      case round =>
        obtain ⟨a, b, rfl, rfl, HU, HA, a0, a1, b0, b1⟩ := hrel
        by_cases t1 : 4294967296 ≤ a
        · obtain ⟨g1, g2, g3⟩ := Kn.turn HF.out.1 HQ1.out HU.out HA.out (by omega) u1 u0 d0 d1 (Or.inl t1)
          have G1 := hide g1; have G2 := hide g2
          clear g1 g2
          by_cases t2 : 4294967296 ≤ b + V1
          · have G3 : Hid (a - 1 = Q1) := Kn.broke HF.out.1 HQ1.out G2.out G1.out (by omega) u1 (by omega) p2 p3 d0 t2
            go_wp2
            go_meet
            case rel => exact ⟨congrArg (Value.int .u64) G3.out, rfl⟩
          · go_wp2
            go_round
            case rel => exact ⟨a - 1, b + V1, rfl, rfl, G2, G1, g3, by omega, by omega, by omega⟩
            case measure => simp [intOf]; omega
        · obtain ⟨m0, m1⟩ := Kn.mul_bound a0 (show a < 4294967296 by omega) p2 p3
          by_cases t3 : 4294967296 * b + D1 < a * V0
          · obtain ⟨g1, g2, g3⟩ := Kn.turn HF.out.1 HQ1.out HU.out HA.out (by omega) u1 u0 d0 d1 (Or.inr t3)
            have G1 := hide g1; have G2 := hide g2
            clear g1 g2
            by_cases t2 : 4294967296 ≤ b + V1
            · have G3 : Hid (a - 1 = Q1) := Kn.broke HF.out.1 HQ1.out G2.out G1.out (by omega) u1 (by omega) p2 p3 d0 t2
              go_wp2
              go_meet
              case rel => exact ⟨congrArg (Value.int .u64) G3.out, rfl⟩
            · go_wp2
              go_round
              case rel => exact ⟨a - 1, b + V1, rfl, rfl, G2, G1, g3, by omega, by omega, by omega⟩
              case measure => simp [intOf]; omega
          · have G3 : Hid (a = Q1) := Kn.stop HF.out.1 HQ1.out HU.out HA.out (by omega) (by omega)
            go_wp2
            go_meet
            case rel => exact ⟨congrArg (Value.int .u64) G3.out, rfl⟩
    case rest =>
      obtain ⟨rfl, rfl⟩ := hcut
      obtain ⟨j1, j2, j3⟩ := Kn.rest_of (u := U) (v := V) (d := D1) (by omega) v2
      rw [← HQ1.out] at j1
      obtain ⟨R, HR⟩ : ∃ R : Int, Hid (R = (U * 4294967296 + D1) % V) := ⟨_, rfl⟩
      rw [← HR.out] at j1 j2 j3
      have J1 := hide j1
      clear j1 HL HM k3 k4 k5 k6
      go_upto_region 21 with fail
      go_cut [17] from 19 (fun x wx => x = .int .u64 R ∧ wx = wc)
      case first =>
        go_wp2
        go_meet
        case rel =>
          refine ⟨congrArg (Value.int .u64) ?_, rfl⟩
          simp only [IntKind.wrap_u64]
          exact J1.out
      case rest =>
        obtain ⟨rfl, rfl⟩ := hcut
        clear J1
        obtain ⟨Q0, HQ0⟩ : ∃ Q0 : Int, Hid (Q0 = (R * 4294967296 + D0) / V) := ⟨_, rfl⟩
        obtain ⟨k1, k2, k3, k4, k5, k6⟩ := Kn.left_of (v1 := V1) j2 (by omega) (by omega)
        have HL : Hid (R = R / V1 * V1 + R % V1) := k2
        have HM : Hid ((R - R / V1 * V1 % 18446744073709551616) % 18446744073709551616 = R % V1) := k1
        clear k1 k2
        go_upto_block 2 with fail
        go_cut [18, 16] from 19 (fun q r wx => q = .int .u64 Q0 ∧ wx = wc)
        case first =>
          go_wp2_with fail
          go_loop [18, 16] (fun q r => ∃ a b : Int, q = .int .u64 a ∧ r = .int .u64 b ∧ Hid (R = a * V1 + b) ∧ Hid (Q0 ≤ a) ∧ 0 ≤ a ∧ a < 18446744073709551616 ∧ 0 ≤ b ∧ b < 4294967296) (fun q _ => (intOf q).toNat)
          case atStart =>
            refine ⟨R / V1, R % V1, rfl, congrArg (Value.int .u64) ?_, HL.out, ?_, k5, by omega, k3, by omega⟩
            · rw [IntKind.wrap_u64, IntKind.wrap_u64]; exact HM.out
            · obtain ⟨f1, _, _⟩ := HF.out
              show Q0 ≤ R / V1
              rw [HQ0.out, f1]; exact Kn.guess j2 (by omega) p2 d2 d3
          case round =>
            obtain ⟨a, b, rfl, rfl, HU, HA, a0, a1, b0, b1⟩ := hrel
            by_cases t1 : 4294967296 ≤ a
            · obtain ⟨g1, g2, g3⟩ := Kn.turn HF.out.1 HQ0.out HU.out HA.out (by omega) j3 j2 d2 d3 (Or.inl t1)
              have G1 := hide g1; have G2 := hide g2
              clear g1 g2
              by_cases t2 : 4294967296 ≤ b + V1
              · have G3 : Hid (a - 1 = Q0) := Kn.broke HF.out.1 HQ0.out G2.out G1.out (by omega) j3 (by omega) p2 p3 d2 t2
                go_wp2
                go_meet
                case rel => exact ⟨congrArg (Value.int .u64) G3.out, rfl⟩
              · go_wp2
                go_round
                case rel => exact ⟨a - 1, b + V1, rfl, rfl, G2, G1, g3, by omega, by omega, by omega⟩
                case measure => simp [intOf]; omega
            · obtain ⟨m0, m1⟩ := Kn.mul_bound a0 (show a < 4294967296 by omega) p2 p3
              by_cases t3 : 4294967296 * b + D0 < a * V0
              · obtain ⟨g1, g2, g3⟩ := Kn.turn HF.out.1 HQ0.out HU.out HA.out (by omega) j3 j2 d2 d3 (Or.inr t3)
                have G1 := hide g1; have G2 := hide g2
                clear g1 g2
                by_cases t2 : 4294967296 ≤ b + V1
                · have G3 : Hid (a - 1 = Q0) := Kn.broke HF.out.1 HQ0.out G2.out G1.out (by omega) j3 (by omega) p2 p3 d2 t2
                  go_wp2
                  go_meet
                  case rel => exact ⟨congrArg (Value.int .u64) G3.out, rfl⟩
                · go_wp2
                  go_round
                  case rel => exact ⟨a - 1, b + V1, rfl, rfl, G2, G1, g3, by omega, by omega, by omega⟩
                  case measure => simp [intOf]; omega
              · have G3 : Hid (a = Q0) := Kn.stop HF.out.1 HQ0.out HU.out HA.out (by omega) (by omega)
                go_wp2
                go_meet
                case rel => exact ⟨congrArg (Value.int .u64) G3.out, rfl⟩
        case rest =>
          obtain ⟨rfl, rfl⟩ := hcut
          clear HL HM k3 k4 k5 k6
          obtain ⟨m1, m2, m3⟩ := Kn.rest_of (u := R) (v := V) (d := D0) (by omega) v2
          obtain ⟨f1, f2, f3⟩ := HF.out
          obtain ⟨o1, o2⟩ := Kn.two (u := U) (v := V) (a := D1) (b := D0) (by omega)
          have hp : (0 : Int) < 2 ^ s := Int.pow_pos (by omega)
          obtain ⟨z1, z2⟩ := Kn.scaled (n := hi * 18446744073709551616 + lo) (y := y) hp
          have n1 := Kn.q_digit (u := U) (v := V) (d := D1) (by omega) u1 d1
          have n2 := Kn.q_digit (u := R) (v := V) (d := D0) (by omega) j3 d3
          have n3 : 0 ≤ (U * 4294967296 + D1) / V := Int.ediv_nonneg (by omega) (by omega)
          have n4 : 0 ≤ (R * 4294967296 + D0) / V := Int.ediv_nonneg (by omega) (by omega)
          rw [← HQ1.out] at n1 n3 o1
          rw [← HQ0.out] at n2 n4
          rw [← HR.out] at o1 o2
          rw [← HQ0.out] at o1 m1
          rw [f3] at o1 o2
          have F1 : Hid ((hi * 18446744073709551616 + lo) / y = Q1 * 4294967296 + Q0) := by
            show _ = _
            rw [← z1, ← f2]; exact o1
          have F2 : Hid ((((R * 4294967296 % 18446744073709551616 + D0) % 18446744073709551616 - Q0 * V % 18446744073709551616) % 18446744073709551616) / 2 ^ s = (hi * 18446744073709551616 + lo) % y) := by
            show _ = _
            rw [m1, ← o2, f2, z2, Int.mul_ediv_cancel _ (by omega)]
          clear f1 f2 f3 o1 o2 z1 z2 m1 m2 m3 HF HQ1 HQ0 HR
          go_wp2
          simp only [IntKind.wrap_u64]
          go_ret2
          exact ⟨ret_two F1.out.symm F2.out, rfl⟩

set_option maxHeartbeats 400000 in
theorem div64_small (lo y : Int) (hl : Word lo) (hy : Word y) (h : 0 < y) (w : World) :
    Calls Try.prog 60 #[.int .u64 0, .int .u64 lo, .int .u64 y] w fun e w' => e = .returned (.tuple #[.int .u64 (lo / y), .int .u64 (lo % y)]) ∧ ∃ n, w' = w.drewN n := by
  obtain ⟨l0, l1⟩ := hl
  obtain ⟨y0, y1⟩ := hy
  have e1 : (y == 0) = false := beq_eq_false_iff_ne.2 (by omega)
  have e2 : decide (y ≤ 0) = false := by simp; omega
  go_enter Try.func60, Try.ntmps60
  go_upto_region 6 with fail
  go_quiet (fail)
  go_wp2
  go_ret2
  exact ⟨ret_two rfl rfl, _, rfl⟩

theorem div64_any (hi lo y : Int) (hh : Word hi) (hl : Word lo) (hy : Word y) (h : hi < y) (w : World) :
    Calls Try.prog 60 #[.int .u64 hi, .int .u64 lo, .int .u64 y] w fun e w' => e = .returned (.tuple #[.int .u64 ((hi * 18446744073709551616 + lo) / y), .int .u64 ((hi * 18446744073709551616 + lo) % y)]) ∧ ∃ n, w' = w.drewN n := by
  by_cases h0 : 0 < hi
  · refine (div64_great hi lo y hh hl hy h0 h w).mono ?_
    rintro e w' ⟨he, hw⟩
    exact ⟨he, 0, hw⟩
  · have e0 : hi = 0 := by have := hh.1; omega
    subst e0
    refine (div64_small lo y hl hy h w).mono ?_
    rintro e w' ⟨he, hw⟩
    rw [Int.zero_mul, Int.zero_add]
    exact ⟨he, hw⟩
end Go.Proofs.Ytjngpdhhkkambab
