/-
  Statement VfsOnce over the landed file system: a contract, for every world (written by gen/vfslh.gen.py).
  Conditions: the arguments are told.
-/
import Derived.Test.YthlkmjaflomflaaVfsLa
import Derived.Test.YthlkmjaflomflaaVfsLo
import Derived.Test.YthlkmjaflomflaaVfsLg
import Derived.Test.YthlkmjaflomflaaPlace
namespace Go.Proofs.Ythlkmjaflomflaa
open Go.RowKit Go.Maps
set_option maxRecDepth 20000
set_option linter.unusedVariables false

set_option maxHeartbeats 16000000 in
theorem once_walk (space : Bool) (after : Int) (a : Option Addr) (n c : Nat) (zs : List Int) (w : World) (ha : (Lit.int .i64 after).wf = true) (h1 : IsRow .u8 w a n c zs) :
    Calls Try.prog 4 #[.bool space, .int .i64 after, .slice a n c] w fun e w' => e = .returned (.bool true) ∧ Below w.heap.size w w' := by
  obtain ⟨hnc1, -, hc1, r1⟩ := row_of h1
  obtain ⟨data, hdata⟩ : ∃ data, zs.take n = data := ⟨_, rfl⟩
  rw [hdata] at r1
  have R1 := hide r1
  have hdl := R1.out.1
  obtain ⟨p, hp, hp4⟩ : ∃ p : Nat, after % 5 = (p : Int) ∧ p ≤ 4 := by
    have q1 := Int.emod_nonneg after (show (5 : Int) ≠ 0 by omega)
    have q2 := Int.emod_lt_of_pos after (show (0 : Int) < 5 by omega)
    exact ⟨(after % 5).toNat, by omega, by omega⟩
  have PL := hide (fun u => place_any after 5 (by omega) (by omega) u)
  rw [hp] at PL
  clear h1 r1 hdata hp
  by_cases hb1 : 2000 < n
  · have d1 : decide ((2000 : Int) < (n : Int)) = true := decide_eq_true (by omega)
    have d2 : decide (2000 < n) = true := decide_eq_true hb1
    clear hdl PL
    go_enter Try.func4, Try.ntmps4
    go_wp2_with fail
    with_reducible refine (awakeV_any _).mono ?_
    rintro e u0 ⟨rfl, b0⟩
    have B0 := hide b0
    clear b0
    go_wp2_with fail
    with_reducible refine (awakeV_any _).mono ?_
    rintro e u1 ⟨rfl, b1⟩
    have B1 := hide (bel_to B0.out (Nat.le_refl _) b1)
    clear b1 B0
    go_wp2
    go_ret
    exact ⟨rfl, B1.out⟩
  · have hn1 : n ≤ 2000 := by omega
    have d1 : decide ((2000 : Int) < (n : Int)) = false := decide_eq_false (by omega)
    have d2 : decide (2000 < n) = false := decide_eq_false hb1
    clear hb1
    cases space with
    | true =>
      go_enter Try.func4, Try.ntmps4
      go_wp2_with fail
      with_reducible refine (awakeV_any _).mono ?_
      rintro e u0 ⟨rfl, b0⟩
      have BW0 := hide b0
      clear b0
      go_wp2_with fail
      with_reducible refine (lnew_any _).mono ?_
      rintro e u1 ⟨g, rfl, hm⟩
      have H1 := hide (onL_from' BW0.out hm)
      clear hm BW0
      go_wp2_with fail
      with_reducible refine (PL.out _).mono ?_
      rintro e u ⟨rfl, hu⟩
      rw [hu]
      clear hu PL
      have CR := hide (on_create H1.out limB0 (by omega) ⟨#[97]⟩ (by decide))
      rw [ex_create] at CR
      clear H1
      go_wp2_with fail
      with_reducible refine CR.out.mono ?_
      rintro e u2 ⟨rfl, h2⟩
      have H2 := hide h2
      have AR := hide (on_arm h2 14 (p : Int) (by decide) (by simp [Lit.wf, IntKind.min, IntKind.max, IntKind.signed, IntKind.bits]; omega))
      rw [on_armed 14 p data (by omega)] at AR
      clear h2 CR H2
      go_wp2_with fail
      with_reducible refine AR.out.mono ?_
      rintro e u3 ⟨rfl, h3⟩
      have H3 : Hid (OnL w.heap.size w u3 g (onS 14 p 0 data)) := h3
      clear h3 AR
      go_wp2
      go_loopw [10, 11] (fun x i wr => ∃ j : Nat, j ≤ 7 ∧ i = .int .i64 (j : Int) ∧ x = .int .i64 ((accB data p j).length : Int) ∧ Hid (OnL w.heap.size w wr g (onS 14 p j data))) (fun _ i _ => 7 - (intOf i).toNat)
      case atStart => exact ⟨0, by omega, rfl, rfl, H3.out⟩
      case round =>
        clear H3
        obtain ⟨j, hj, rfl, rfl, HO⟩ := hrel
        obtain ⟨v, rfl⟩ : ∃ v, v = wr := ⟨wr, rfl⟩
        have hal : (accB data p j).length ≤ 14000 := by
          have := accB_le data p j
          have h7 : j * data.length ≤ 7 * 2000 := Nat.mul_le_mul hj (by omega)
          omega
        have LS : Hid (LimB 20000 (onS 14 p j data)) := onS_lim (by
          have h7 : j * data.length ≤ 7 * 2000 := Nat.mul_le_mul hj (by omega)
          omega)
        by_cases hlt : j < 7
        · have i2 : decide ((j : Int) < 7) = true := decide_eq_true (by omega)
          have i3 : (j : Int) < 7 := by omega
          have BM := hide (bytes8_any a n c data v (R1.out.below HO.out.bel (Nat.le_refl _)) hc1 (by omega))
          have AC := accB_len data p j
          have ST : Hid (appendF (onS 14 p j data) ⟨#[97]⟩ data = (onS 14 p (j + 1) data, if j = p then 14 else 0)) := on_step (by omega) (by omega)
          have w1 : IntKind.i64.wrap ((j : Int) + 1) = ((j + 1 : Nat) : Int) := by rw [IntKind.wrap_i64]; omega
          have w2 : IntKind.i64.wrap ((n : Int) / 2) = ((n / 2 : Nat) : Int) := by rw [IntKind.wrap_i64]; omega
          have hq2 : (n : Int).tdiv 2 = ((n / 2 : Nat) : Int) := by rw [Int.tdiv_eq_ediv_of_nonneg (by omega)]; omega
          have hq3 : (n : Int) / 2 = ((n / 2 : Nat) : Int) := by omega
          have w4 : IntKind.i64.wrap ((n / 2 : Nat) : Int) = ((n / 2 : Nat) : Int) := by rw [IntKind.wrap_i64]; omega
          rw [hdl] at AC
          obtain ⟨q2, hq4⟩ : ∃ q2 : Nat, n / 2 = q2 := ⟨_, rfl⟩
          have hq2n : q2 ≤ n := by omega
          rw [hq4] at AC w2 hq2 hq3 w4
          clear w2
          clear hq4
          go_wp2_with fail
          with_reducible refine BM.out.mono ?_
          rintro e v1 ⟨xa, xc, rfl, ox, b1⟩
          have AP := hide (on_append (HO.out.below b1) LS.out (by omega) ⟨#[97]⟩ (by decide) xa n xc data (ownB_row ox (by omega) R1.out.bytes) (by omega) (OwnG.capped ox).1)
          rw [ST.out] at AP
          clear ox b1 BM HO
          by_cases hjp : j = p
          · rw [if_pos hjp] at AC AP
            have z1 : ((j : Int) == (p : Int)) = true := by simp; omega
            have w3 : IntKind.i64.wrap (((accB data p j).length : Int) + (q2 : Int)) = ((accB data p (j + 1)).length : Int) := by rw [IntKind.wrap_i64]; omega
            obtain ⟨A0, hA0⟩ : ∃ A0 : Nat, (accB data p j).length = A0 := ⟨_, rfl⟩
            obtain ⟨A1, hA1⟩ : ∃ A1 : Nat, (accB data p (j + 1)).length = A1 := ⟨_, rfl⟩
            have HA1 := hide hA1
            rw [hA0, hA1] at w3
            rw [hA0]
            clear hA0 hA1 AC hal ST LS
            go_wp2_with fail
            with_reducible refine AP.out.mono ?_
            rintro e v2 ⟨rfl, h2⟩
            have H2 := hide h2
            clear h2 AP
            go_wp2
            go_roundw
            case rel => exact ⟨j + 1, by omega, by go_num, by rw [HA1.out], H2.out⟩
            case measure => simp [intOf]; omega
          · rw [if_neg hjp] at AC AP
            have z1 : ((j : Int) == (p : Int)) = false := by simp; omega
            have w3 : IntKind.i64.wrap (((accB data p j).length : Int) + (n : Int)) = ((accB data p (j + 1)).length : Int) := by rw [IntKind.wrap_i64]; omega
            obtain ⟨A0, hA0⟩ : ∃ A0 : Nat, (accB data p j).length = A0 := ⟨_, rfl⟩
            obtain ⟨A1, hA1⟩ : ∃ A1 : Nat, (accB data p (j + 1)).length = A1 := ⟨_, rfl⟩
            have HA1 := hide hA1
            rw [hA0, hA1] at w3
            rw [hA0]
            clear hA0 hA1 AC hal ST LS
            go_wp2_with fail
            with_reducible refine AP.out.mono ?_
            rintro e v2 ⟨rfl, h2⟩
            have H2 := hide h2
            clear h2 AP
            go_wp2
            go_roundw
            case rel => exact ⟨j + 1, by omega, by go_num, by rw [HA1.out], H2.out⟩
            case measure => simp [intOf]; omega
        · obtain rfl : j = 7 := by omega
          have i2 : decide (((7 : Nat) : Int) < 7) = false := by decide
          have i3 : ¬ ((7 : Nat) : Int) < 7 := by omega
          have RD := hide (on_read HO.out LS.out (by omega) ⟨#[97]⟩ (by decide))
          rw [onS_read] at RD
          obtain ⟨A0, hA0⟩ : ∃ A0 : Nat, (accB data p 7).length = A0 := ⟨_, rfl⟩
          rw [hA0]
          have HA0 := hide hA0
          clear hA0 hal
          go_wp2_with fail
          with_reducible refine RD.out.mono ?_
          rintro e v2 ⟨b2, ar, ac, rfl, o2⟩
          have H2 := hide (HO.out.below b2)
          have CL := hide (on_calls H2.out)
          rw [HA0.out]
          clear b2 o2 RD HO
          go_wp2_with fail
          with_reducible refine CL.out.mono ?_
          rintro e v3 ⟨rfl, hv⟩
          rw [hv]
          clear hv CL
          have e8 : (onS 14 p 7 data).n = 8 := rfl
          rw [e8]
          clear e8
          go_wp2
          go_ret
          exact ⟨rfl, H2.out.bel⟩
    | false =>
      go_enter Try.func4, Try.ntmps4
      go_wp2_with fail
      with_reducible refine (awakeV_any _).mono ?_
      rintro e u0 ⟨rfl, b0⟩
      have BW0 := hide b0
      clear b0
      go_wp2_with fail
      with_reducible refine (lnew_any _).mono ?_
      rintro e u1 ⟨g, rfl, hm⟩
      have H1 := hide (onL_from' BW0.out hm)
      clear hm BW0
      go_wp2_with fail
      with_reducible refine (PL.out _).mono ?_
      rintro e u ⟨rfl, hu⟩
      rw [hu]
      clear hu PL
      have CR := hide (on_create H1.out limB0 (by omega) ⟨#[97]⟩ (by decide))
      rw [ex_create] at CR
      clear H1
      go_wp2_with fail
      with_reducible refine CR.out.mono ?_
      rintro e u2 ⟨rfl, h2⟩
      have H2 := hide h2
      have AR := hide (on_arm h2 15 (p : Int) (by decide) (by simp [Lit.wf, IntKind.min, IntKind.max, IntKind.signed, IntKind.bits]; omega))
      rw [on_armed 15 p data (by omega)] at AR
      clear h2 CR H2
      go_wp2_with fail
      with_reducible refine AR.out.mono ?_
      rintro e u3 ⟨rfl, h3⟩
      have H3 : Hid (OnL w.heap.size w u3 g (onS 15 p 0 data)) := h3
      clear h3 AR
      go_wp2
      go_loopw [10, 11] (fun x i wr => ∃ j : Nat, j ≤ 7 ∧ i = .int .i64 (j : Int) ∧ x = .int .i64 ((accB data p j).length : Int) ∧ Hid (OnL w.heap.size w wr g (onS 15 p j data))) (fun _ i _ => 7 - (intOf i).toNat)
      case atStart => exact ⟨0, by omega, rfl, rfl, H3.out⟩
      case round =>
        clear H3
        obtain ⟨j, hj, rfl, rfl, HO⟩ := hrel
        obtain ⟨v, rfl⟩ : ∃ v, v = wr := ⟨wr, rfl⟩
        have hal : (accB data p j).length ≤ 14000 := by
          have := accB_le data p j
          have h7 : j * data.length ≤ 7 * 2000 := Nat.mul_le_mul hj (by omega)
          omega
        have LS : Hid (LimB 20000 (onS 15 p j data)) := onS_lim (by
          have h7 : j * data.length ≤ 7 * 2000 := Nat.mul_le_mul hj (by omega)
          omega)
        by_cases hlt : j < 7
        · have i2 : decide ((j : Int) < 7) = true := decide_eq_true (by omega)
          have i3 : (j : Int) < 7 := by omega
          have BM := hide (bytes8_any a n c data v (R1.out.below HO.out.bel (Nat.le_refl _)) hc1 (by omega))
          have AC := accB_len data p j
          have ST : Hid (appendF (onS 15 p j data) ⟨#[97]⟩ data = (onS 15 p (j + 1) data, if j = p then 15 else 0)) := on_step (by omega) (by omega)
          have w1 : IntKind.i64.wrap ((j : Int) + 1) = ((j + 1 : Nat) : Int) := by rw [IntKind.wrap_i64]; omega
          have w2 : IntKind.i64.wrap ((n : Int) / 2) = ((n / 2 : Nat) : Int) := by rw [IntKind.wrap_i64]; omega
          have hq2 : (n : Int).tdiv 2 = ((n / 2 : Nat) : Int) := by rw [Int.tdiv_eq_ediv_of_nonneg (by omega)]; omega
          have hq3 : (n : Int) / 2 = ((n / 2 : Nat) : Int) := by omega
          have w4 : IntKind.i64.wrap ((n / 2 : Nat) : Int) = ((n / 2 : Nat) : Int) := by rw [IntKind.wrap_i64]; omega
          rw [hdl] at AC
          obtain ⟨q2, hq4⟩ : ∃ q2 : Nat, n / 2 = q2 := ⟨_, rfl⟩
          have hq2n : q2 ≤ n := by omega
          rw [hq4] at AC w2 hq2 hq3 w4
          clear w2
          clear hq4
          go_wp2_with fail
          with_reducible refine BM.out.mono ?_
          rintro e v1 ⟨xa, xc, rfl, ox, b1⟩
          have AP := hide (on_append (HO.out.below b1) LS.out (by omega) ⟨#[97]⟩ (by decide) xa n xc data (ownB_row ox (by omega) R1.out.bytes) (by omega) (OwnG.capped ox).1)
          rw [ST.out] at AP
          clear ox b1 BM HO
          by_cases hjp : j = p
          · rw [if_pos hjp] at AC AP
            have z1 : ((j : Int) == (p : Int)) = true := by simp; omega
            have w3 : IntKind.i64.wrap (((accB data p j).length : Int) + (q2 : Int)) = ((accB data p (j + 1)).length : Int) := by rw [IntKind.wrap_i64]; omega
            obtain ⟨A0, hA0⟩ : ∃ A0 : Nat, (accB data p j).length = A0 := ⟨_, rfl⟩
            obtain ⟨A1, hA1⟩ : ∃ A1 : Nat, (accB data p (j + 1)).length = A1 := ⟨_, rfl⟩
            have HA1 := hide hA1
            rw [hA0, hA1] at w3
            rw [hA0]
            clear hA0 hA1 AC hal ST LS
            go_wp2_with fail
            with_reducible refine AP.out.mono ?_
            rintro e v2 ⟨rfl, h2⟩
            have H2 := hide h2
            clear h2 AP
            go_wp2
            go_roundw
            case rel => exact ⟨j + 1, by omega, by go_num, by rw [HA1.out], H2.out⟩
            case measure => simp [intOf]; omega
          · rw [if_neg hjp] at AC AP
            have z1 : ((j : Int) == (p : Int)) = false := by simp; omega
            have w3 : IntKind.i64.wrap (((accB data p j).length : Int) + (n : Int)) = ((accB data p (j + 1)).length : Int) := by rw [IntKind.wrap_i64]; omega
            obtain ⟨A0, hA0⟩ : ∃ A0 : Nat, (accB data p j).length = A0 := ⟨_, rfl⟩
            obtain ⟨A1, hA1⟩ : ∃ A1 : Nat, (accB data p (j + 1)).length = A1 := ⟨_, rfl⟩
            have HA1 := hide hA1
            rw [hA0, hA1] at w3
            rw [hA0]
            clear hA0 hA1 AC hal ST LS
            go_wp2_with fail
            with_reducible refine AP.out.mono ?_
            rintro e v2 ⟨rfl, h2⟩
            have H2 := hide h2
            clear h2 AP
            go_wp2
            go_roundw
            case rel => exact ⟨j + 1, by omega, by go_num, by rw [HA1.out], H2.out⟩
            case measure => simp [intOf]; omega
        · obtain rfl : j = 7 := by omega
          have i2 : decide (((7 : Nat) : Int) < 7) = false := by decide
          have i3 : ¬ ((7 : Nat) : Int) < 7 := by omega
          have RD := hide (on_read HO.out LS.out (by omega) ⟨#[97]⟩ (by decide))
          rw [onS_read] at RD
          obtain ⟨A0, hA0⟩ : ∃ A0 : Nat, (accB data p 7).length = A0 := ⟨_, rfl⟩
          rw [hA0]
          have HA0 := hide hA0
          clear hA0 hal
          go_wp2_with fail
          with_reducible refine RD.out.mono ?_
          rintro e v2 ⟨b2, ar, ac, rfl, o2⟩
          have H2 := hide (HO.out.below b2)
          have CL := hide (on_calls H2.out)
          rw [HA0.out]
          clear b2 o2 RD HO
          go_wp2_with fail
          with_reducible refine CL.out.mono ?_
          rintro e v3 ⟨rfl, hv⟩
          rw [hv]
          clear hv CL
          have e8 : (onS 15 p 7 data).n = 8 := rfl
          rw [e8]
          clear e8
          go_wp2
          go_ret
          exact ⟨rfl, H2.out.bel⟩

end Go.Proofs.Ythlkmjaflomflaa
