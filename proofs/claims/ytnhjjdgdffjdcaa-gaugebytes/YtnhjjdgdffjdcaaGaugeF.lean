/-
  The document's reader of a word's eight bytes: contracts, for every world: the reader alone turns.
  Conditions: the reader's bytes lie in memory older than itself.
-/
import Derived.Test.YtnhjjdgdffjdcaaGaugeZ
import Derived.Test.YtnhjjdgdffjdcaaNumB
import Derived.Deep.RegionHeld3
namespace Go.Proofs.Ytnhjjdgdffjdcaa
open Go.RowKit

set_option maxHeartbeats 2000000 in
theorem fixbad_any (g : Nat) (a : Option Addr) (n cap : Nat) (p : Int) (w : World) (hrb : RB w g a n cap p true) :
    Calls Try.prog 41 #[.pointer (some ⟨g, 0, none⟩)] w fun e w' => e = .returned (.int .u64 0) ∧ Only g w w' ∧ RB w' g a n cap p true := by
  obtain ⟨c0, c1, c2, cf⟩ := hrb.cell
  have cf2 := cf 2
  have RS := hide (fun j => (hrb.drewN j).spoil)
  have OS := hide (fun j => ((Only.refl g w).drewN j).setCell 2 (.bool true))
  clear cf hrb
  go_enter Try.func41, Try.ntmps41
  go_wp2_with fail
  go_quiet (fail)
  go_wp2
  go_ret
  exact ⟨rfl, OS.out _, RS.out _⟩

set_option maxHeartbeats 2000000 in
theorem fixno_any (g : Nat) (a : Option Addr) (n cap t : Nat) (w : World) (_hn : n ≤ 281474976710656) (ht : t ≤ n) (h8 : (n : Int) - (t : Int) < 8) (hrb : RB w g a n cap (t : Int) false) :
    Calls Try.prog 41 #[.pointer (some ⟨g, 0, none⟩)] w fun e w' => e = .returned (.int .u64 0) ∧ Only g w w' ∧ RB w' g a n cap (t : Int) true := by
  obtain ⟨c0, c1, c2, cf⟩ := hrb.cell
  have cf2 := cf 2
  have RS := hide (fun j => (hrb.drewN j).spoil)
  have OS := hide (fun j => ((Only.refl g w).drewN j).setCell 2 (.bool true))
  clear cf hrb
  go_enter Try.func41, Try.ntmps41
  go_wp2_with fail
  go_quiet (fail)
  go_wp2
  go_ret
  exact ⟨rfl, OS.out _, RS.out _⟩

set_option maxHeartbeats 2000000 in
theorem fixok_any (g : Nat) (a : Option Addr) (n cap t : Nat) (zs : List Int) (w0 w : World) (hr : Row .u8 w0 a n zs) (hg : w0.heap.size ≤ g) (hb : Below w0.heap.size w0 w) (h8 : t + 8 ≤ n) (hrb : RB w g a n cap (t : Int) false) :
    Calls Try.prog 41 #[.pointer (some ⟨g, 0, none⟩)] w fun e w' => e = .returned (.int .u64 (n8 zs t 8)) ∧ Only g w w' ∧ RB w' g a n cap (t + 8 : Int) false := by
  have HZ : Hid (Bytes8 zs) := hr.bytes
  have hn := hr.2.1
  have i8 : ¬ (n : Int) - (t : Int) < 8 := by omega
  obtain ⟨_, _, _, h0 | ⟨b, off, rfl, hcell⟩⟩ := hr.below hb (Nat.le_refl _)
  · omega
  have HC : Hid (∀ W, Only g w W → ∀ i, i < n → W.cell? ⟨b, off + i, none⟩ = some (.int .u8 (zs.getD i 0))) := by
    intro W hW i hi
    obtain ⟨_, _, _, h0 | ⟨b', off', he, hcell'⟩⟩ := hr.below (hb.trans (hW.below hg)) (Nat.le_refl _)
    · omega
    · simp only [Option.some.injEq, Addr.mk.injEq, and_true] at he
      obtain ⟨rfl, rfl⟩ := he
      exact hcell' i hi
  have HRB := hide hrb
  obtain ⟨c0, c1, c2, _⟩ := hrb.cell
  clear hrb hcell hr
  go_enter Try.func41, Try.ntmps41
  go_wp2_with fail
  go_quiet (fail)
  have HD := hide ((Only.refl g w).drewN nq)
  have HR := hide (HRB.out.drewN nq)
  generalize w.drewN nq = wa at HD HR ⊢
  clear c0 c1 c2 HRB
  go_wp2_with fail
  go_loopw [3, 4] (fun x i wr => ∃ j : Nat, x = .int .u64 (n8 zs t j) ∧ i = .int .i64 j ∧ j ≤ 8 ∧ Hid (Only g w wr) ∧ Hid (RB wr g (some ⟨b, off, none⟩) n cap (t : Int) false)) (fun _ i _ => 8 - (intOf i).toNat)
  case atStart => exact ⟨0, rfl, rfl, by omega, HD, HR⟩
  case round =>
    obtain ⟨j, rfl, rfl, hj, HO, HR⟩ := hrel
    by_cases hu : j < 8
    · have i1 : (j : Int) < 8 := by omega
      obtain ⟨V0, V1⟩ := n8_bound HZ.out t j
      obtain ⟨z0, z1⟩ := getD_byte HZ.out (t + j)
      have hs : Hid (n8 zs t (j + 1) = n8 zs t j + zs.getD (t + j) 0 * 2 ^ (8 * j)) := rfl
      have b1 := HC.out wr HO.out (t + j) (by omega)
      generalize n8 zs t j = V at V0 V1 hs ⊢
      generalize zs.getD (t + j) 0 = z at b1 z0 z1 hs
      obtain ⟨e1, _, e3, e4⟩ := or8 j hu V0 V1 z0 z1
      rw [← hs.out] at e3 e4
      obtain ⟨X, hX⟩ : ∃ X, Hid (n8 zs t (j + 1) = X) := ⟨_, rfl⟩
      rw [hX.out] at e3 e4 hs
      have em : 0 ≤ z * 2 ^ (8 * j) := Int.mul_nonneg z0 (Int.le_of_lt (p8_pos j))
      obtain ⟨D, hD⟩ : ∃ D, z * 2 ^ (8 * j) = D := ⟨_, rfl⟩
      rw [hD] at hs em
      rw [hD] at e1
      have hadd : V + D = X := hs.out.symm
      have i2 : (0 : Int) ≤ (t : Int) + (j : Int) := by omega
      have i3 : (t : Int) + (j : Int) < (n : Int) := by omega
      have i4 : ((t : Int) + (j : Int)).toNat = t + j := by omega
      obtain ⟨c0, c1, c2, _⟩ := HR.out.cell
      clear V1
      go_upto_region 8 with fail
      go_quiet (fail)
      have HO2 := hide (HO.out.drewN nq)
      have HR2 := hide (HR.out.drewN nq)
      generalize wr.drewN nq = wb at HO2 HR2 ⊢
      clear c0 c1 c2 b1
      go_wp2
      go_roundw
      case rel => exact ⟨j + 1, by rw [hX.out], by go_num, by omega, HO2, HR2⟩
      case measure => simp [intOf]; omega
    · have hj8 : j = 8 := by omega
      subst hj8
      have i1 : ¬ ((8 : Nat) : Int) < 8 := by omega
      obtain ⟨c0, c1, c2, cf⟩ := HR.out.cell
      have cf1 := cf 1
      have OS := hide (HO.out.setCell 1 (.int .i64 ((t : Int) + 8)))
      have RS := hide (HR.out.place ((t : Int) + 8))
      clear cf
      go_wp2
      go_ret
      exact ⟨rfl, OS.out, RS.out⟩
end Go.Proofs.Ytnhjjdgdffjdcaa
