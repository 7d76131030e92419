/-
  Statement IndexValues over what is asked: the values of any name, and how many have each, broken off anywhere, and again: a contract, for every world.
  Conditions: the index does what is asked.
-/
import Derived.Test.YtpffhpnmbpjifaaIdxA
import Derived.Test.YtpffhpnmbpjifaaIdxWa
import Derived.Test.YtpffhpnmbpjifaaPlace
import Derived.BigQuiet
import Derived.Deep.QuietTactic
namespace Go.Proofs.Ytpffhpnmbpjifaa
open Go.RowKit
set_option maxRecDepth 20000

set_option maxHeartbeats 8000000 in
theorem values_of {At : World → Nat → (Nat → Prop) → Lx → Prop} (I : IxI At) (IV : IxV At) (a : Option Addr) (n c : Nat) (sets : Lx) (nm : ByteArray) (most : Int) (w : World) (hs : RowLL w a n sets) (hnm : nm.size ≤ 9223372036854775807) :
    Calls Try.prog 4 #[.slice a n c, .string nm, .int .i64 most] w fun e w' => e = .returned (.bool true) ∧ Below w.heap.size w w' := by
  have HI := hide I
  have LD := hide (laid_of I a n c sets w hs)
  obtain ⟨L, hLd⟩ : ∃ L, Hid (laidX (sets.take 60) = L) := ⟨_, rfl⟩
  have GL := laidX_good (sets.take 60)
  rw [hLd.out] at LD GL
  have hL60 : L.length ≤ 60 := by have := GL.2; rw [List.length_take] at this; omega
  have hV60 : (valsX L nm).length ≤ 60 := Nat.le_trans (len_valsX L nm) hL60
  have VA := hide (fun g S v (h : At v g S L) => IV.vals g S L nm v h hnm)
  have RV := hide (fun g S v (h : XAt v g S L) => rvals_any g S L nm v h (by omega))
  generalize valsX L nm = vs at *
  obtain ⟨M, hM⟩ : ∃ M, Hid (vs.length = M) := ⟨_, rfl⟩
  rw [hM.out] at hV60
  clear I IV hs GL hLd
  go_enter Try.func4, Try.ntmps4
  go_wp2_with fail
  with_reducible refine LD.out.mono ?_
  rintro e u1 ⟨g1, g2, rfl, ⟨S1, S2, t1, t2, -, -, -⟩, b1⟩
  have T1 := hide t1
  have RW := hide (RV.out g2 S2 u1 t2)
  have BW := hide b1
  clear t1 t2 b1 LD RV
  go_wp2_with fail
  with_reducible refine RW.out.mono ?_
  rintro e u2 ⟨a2, n2, c2, rfl, o2, b2⟩
  obtain rfl : n2 = M := by have := OwnV.len o2; rw [hM.out] at this; exact this.symm
  have O2 := hide o2
  have B2 := hide (bel_to BW.out (Nat.le_refl _) b2)
  have VX := hide (VA.out g1 S1 u2 (HI.out.below T1.out b2))
  clear o2 b2 RW VA BW
  go_wp2_with fail
  with_reducible refine VX.out.mono ?_
  rintro e u3 ⟨F, rfl, tf, b3⟩
  have TF := hide tf
  have O3 := hide (OwnV.below O2.out b3 (Nat.le_refl _))
  have B3 := hide (bel_to B2.out (Nat.le_refl _) b3)
  clear tf b3 VX O2 B2 T1
  go_wp2
  go_loopw [12] (fun i wr => ∃ k : Nat, k ≤ 2 ∧ i = .int .i64 k ∧ Hid (Below u3.heap.size u3 wr)) (fun i _ => 2 - (intOf i).toNat)
  case atStart => exact ⟨0, by omega, rfl, Below.refl _ _⟩
  case round =>
    obtain ⟨k, hk, rfl, BU⟩ := hrel
    obtain ⟨u, rfl⟩ : ∃ u, u = wr := ⟨wr, rfl⟩
    by_cases hlt : k < 2
    · have i2 : (k : Int) < 2 := by omega
      have PL := hide (place_any most 9 (by decide) (by decide) u)
      obtain ⟨r, hr, hr9⟩ : ∃ r : Nat, most % 9 = (r : Int) ∧ r < 9 := by
        have h1 := Int.emod_nonneg most (show (9 : Int) ≠ 0 by decide)
        have h2 := Int.emod_lt_of_pos most (show (0 : Int) < 9 by decide)
        exact ⟨(most % 9).toNat, by omega, by omega⟩
      rw [hr] at PL
      clear hr
      rcases (show k = 0 ∨ k = 1 by omega) with rfl | rfl
      · go_wp2_with fail
        with_reducible refine PL.out.mono ?_
        rintro e v1 ⟨rfl, hv1⟩
        rw [hv1]
        clear hv1 PL
        have VC := hide (TF.out u BU.out ((1 : Int) + (r : Int)) (by simp [Lit.wf, IntKind.min, IntKind.max, IntKind.signed, IntKind.bits]; omega))
        rw [show ((1 : Int) + (r : Int)).toNat = r + 1 by omega] at VC
        go_wp2_with fail
        with_reducible refine VC.out.mono ?_
        rintro e v2 ⟨a5, n5, c5, rfl, o5, b5⟩
        have hn5 : n5 = min (r + 1) n2 := by have := OwnV.len o5; rw [List.length_take, hM.out] at this; omega
        have O5 := hide o5
        have BU5 := hide (bel_to BU.out (Nat.le_refl _) b5)
        have O6 := hide (OwnV.below O3.out BU5.out (Nat.le_refl _))
        have m1 : min ((1 : Int) + (r : Int)) (n2 : Int) = (n5 : Int) := by omega
        have m2 : min (n2 : Int) ((1 : Int) + (r : Int)) = (n5 : Int) := by omega
        have m3 : (if (n2 : Int) < ((1 : Int) + (r : Int)) then (n2 : Int) else ((1 : Int) + (r : Int))) = (n5 : Int) := by split <;> omega
        have m4 : ((n5 : Int) != (n5 : Int)) = false := by simp
        have HN5 := hide hn5
        have hn52 : n5 ≤ n2 := by omega
        clear o5 b5 VC hn5
        go_wp2
        go_loopw [15] (fun i wr => ∃ j : Nat, j ≤ n5 ∧ i = .int .i64 j ∧ Hid (Below v2.heap.size v2 wr)) (fun i _ => n5 - (intOf i).toNat)
        case atStart => exact ⟨0, by omega, rfl, Below.refl _ _⟩
        case round =>
          obtain ⟨j, hj, rfl, BV⟩ := hrel
          by_cases hjt : j < n5
          · obtain ⟨x1, y1, rfl, -, hy1, -, p0, p1, -⟩ := (OwnV.below O5.out BV.out (Nat.le_refl _)).at' hjt
            obtain ⟨x2, y2, rfl, -, hy2, -, q0, q1, -⟩ := (OwnV.below O6.out BV.out (Nat.le_refl _)).at' (show j < n2 by omega)
            have e12 : y1 = y2 := by
              rw [List.getElem?_take] at hy1
              split at hy1
              · rw [hy1] at hy2; cases hy2; rfl
              · cases hy1
            subst e12
            have j1 : (0 : Int) ≤ (j : Int) := by omega
            have j2 : (j : Int) < (n5 : Int) := by omega
            have j3 : (j : Int) < (n2 : Int) := by omega
            obtain ⟨ys, yn⟩ := y1
            dsimp only at p0 p1 q0 q1
            have t3 : (ys.toList == ys.toList) = true := by simp
            clear hy1 hy2
            go_wp2
            go_quiet (fail)
            go_wp2
            go_roundw
            case rel => exact ⟨j + 1, by omega, by go_num, bel_drewN BV.out _⟩
            case measure => simp [intOf]; omega
          · have j2 : ¬ (j : Int) < (n5 : Int) := by omega
            have BU6 := hide (bel_to BU5.out (Nat.le_refl _) BV.out)
            clear O5 O6 BU5 BV
            go_wp2
            go_roundw
            case rel => exact ⟨1, by omega, by go_num, BU6⟩
            case measure => simp [intOf]
      · go_wp2_with fail
        with_reducible refine PL.out.mono ?_
        rintro e v1 ⟨rfl, hv1⟩
        rw [hv1]
        clear hv1 PL
        have VC := hide (TF.out u BU.out (1000 : Int) (by decide))
        rw [show (1000 : Int).toNat = 1000 by omega] at VC
        go_wp2_with fail
        with_reducible refine VC.out.mono ?_
        rintro e v2 ⟨a5, n5, c5, rfl, o5, b5⟩
        have hn5 : n5 = min 1000 n2 := by have := OwnV.len o5; rw [List.length_take, hM.out] at this; omega
        have O5 := hide o5
        have BU5 := hide (bel_to BU.out (Nat.le_refl _) b5)
        have O6 := hide (OwnV.below O3.out BU5.out (Nat.le_refl _))
        have m1 : min (1000 : Int) (n2 : Int) = (n5 : Int) := by omega
        have m2 : min (n2 : Int) (1000 : Int) = (n5 : Int) := by omega
        have m3 : (if (n2 : Int) < (1000 : Int) then (n2 : Int) else (1000 : Int)) = (n5 : Int) := by split <;> omega
        have m4 : ((n5 : Int) != (n5 : Int)) = false := by simp
        have HN5 := hide hn5
        have hn52 : n5 ≤ n2 := by omega
        clear o5 b5 VC hn5
        go_wp2
        go_loopw [15] (fun i wr => ∃ j : Nat, j ≤ n5 ∧ i = .int .i64 j ∧ Hid (Below v2.heap.size v2 wr)) (fun i _ => n5 - (intOf i).toNat)
        case atStart => exact ⟨0, by omega, rfl, Below.refl _ _⟩
        case round =>
          obtain ⟨j, hj, rfl, BV⟩ := hrel
          by_cases hjt : j < n5
          · obtain ⟨x1, y1, rfl, -, hy1, -, p0, p1, -⟩ := (OwnV.below O5.out BV.out (Nat.le_refl _)).at' hjt
            obtain ⟨x2, y2, rfl, -, hy2, -, q0, q1, -⟩ := (OwnV.below O6.out BV.out (Nat.le_refl _)).at' (show j < n2 by omega)
            have e12 : y1 = y2 := by
              rw [List.getElem?_take] at hy1
              split at hy1
              · rw [hy1] at hy2; cases hy2; rfl
              · cases hy1
            subst e12
            have j1 : (0 : Int) ≤ (j : Int) := by omega
            have j2 : (j : Int) < (n5 : Int) := by omega
            have j3 : (j : Int) < (n2 : Int) := by omega
            obtain ⟨ys, yn⟩ := y1
            dsimp only at p0 p1 q0 q1
            have t3 : (ys.toList == ys.toList) = true := by simp
            clear hy1 hy2
            go_wp2
            go_quiet (fail)
            go_wp2
            go_roundw
            case rel => exact ⟨j + 1, by omega, by go_num, bel_drewN BV.out _⟩
            case measure => simp [intOf]; omega
          · have j2 : ¬ (j : Int) < (n5 : Int) := by omega
            have BU6 := hide (bel_to BU5.out (Nat.le_refl _) BV.out)
            clear O5 O6 BU5 BV
            go_wp2
            go_roundw
            case rel => exact ⟨2, by omega, by go_num, BU6⟩
            case measure => simp [intOf]
    · have i2 : ¬ (k : Int) < 2 := by omega
      have AW := hide (awakeX_of HI.out u)
      go_wp2_with fail
      with_reducible refine AW.out.mono ?_
      rintro e v9 ⟨rfl, b9⟩
      have B9 := hide (bel_to B3.out (Nat.le_refl _) (bel_to BU.out (Nat.le_refl _) b9))
      clear b9 AW
      go_wp2
      go_ret
      exact ⟨rfl, B9.out⟩
end Go.Proofs.Ytpffhpnmbpjifaa
