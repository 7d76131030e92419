/-
  The law of layer 8 on any list: whether it may be, how many unlike things it stands for, of any layer that keeps its contracts.
  Conditions: the contracts.
-/
import Derived.Test.YtlhiikibbppodaaKmvI
namespace Go.Proofs.Ytlhiikibbppodaa
open Go.RowKit

/-- What is asked of Check and of a list's Distinct. -/
structure KmvIC : Prop where
  check : ∀ (a : Option Addr) (n cap : Nat) (l : List Int) (w : World), Row .u64 w a n l → Calls Try.prog 24 #[.slice a n cap] w fun e w' => e = .returned (.bool (chkK l)) ∧ Below w.heap.size w w'
  dist : ∀ (a : Option Addr) (n cap : Nat) (l : List Int) (w : World), Row .u64 w a n l → Calls Try.prog 25 #[.slice a n cap] w fun e w' => e = .returned (.int .u64 (distK l)) ∧ Below w.heap.size w w'

set_option maxHeartbeats 1000000 in
theorem checks_of {At : World → Nat → (Nat → Prop) → List Int → Prop} (I : KmvI At) (IC : KmvIC) (HD : DivK 28) (a : Option Addr) (n cap : Nat) (zs : List Int) (w : World) (w0 : IsRow .u64 w a n cap zs) :
    Calls Try.prog 4 #[.slice a n cap] w fun e w' => e = .returned (.bool true) ∧ Below w.heap.size w w' := by
  obtain ⟨a1, a2, a3, RA⟩ := row_of w0
  rw [show kb .u64 = 8 from rfl] at a2
  clear w0
  generalize zs.take n = l at RA
  have HA := hide RA
  have HI := hide I
  have HIC := hide IC
  have NA := hide (fun W (bl : Below w.heap.size w W) => numsK_any a n cap l W (HA.out.below bl (Nat.le_refl _)) a3 (by omega))
  have HDD := hide HD
  clear RA I IC HD a1 a2 a3
  have N1 := hide (NA.out w (Below.refl _ _))
  go_enter Try.func4, Try.ntmps4
  go_wp2_with fail
  refine N1.out.mono ?_
  rintro e w1 ⟨b1, k1, rfl, o1, bl1⟩
  have C1 := hide (HIC.out.check b1 n k1 l w1 (OwnU.rowU o1 HA.out.2.1 HA.out.words))
  have B1 := hide bl1
  clear o1 bl1 N1
  go_wp2_with fail
  refine C1.out.mono ?_
  rintro e w2 ⟨rfl, bl2⟩
  have B2 : Hid (Below w.heap.size w w2) := B1.out.trans (bl2.mono B1.out.size)
  have R2 := hide (refchk_any a n cap l w2 (HA.out.below B2.out (Nat.le_refl _)))
  clear bl2 C1 B1
  go_wp2_with fail
  refine R2.out.mono ?_
  rintro e w3 ⟨rfl, q, rfl⟩
  have B3 := hide (bel_drewN B2.out q)
  generalize w2.drewN q = w3 at *
  have N3 := hide (NA.out w3 B3.out)
  clear R2 B2
  have t1 : (chkK l == chkK l) = true := by simp
  generalize chkK l = t at *
  go_wp2_with fail
  refine N3.out.mono ?_
  rintro e w4 ⟨b4, k4, rfl, o4, bl4⟩
  have D4 := hide (HIC.out.dist b4 n k4 l w4 (OwnU.rowU o4 HA.out.2.1 HA.out.words))
  have B4 : Hid (Below w.heap.size w w4) := B3.out.trans (bl4.mono B3.out.size)
  clear o4 bl4 N3 B3
  go_wp2_with fail
  refine D4.out.mono ?_
  rintro e w5 ⟨rfl, bl5⟩
  have B5 : Hid (Below w.heap.size w w5) := B4.out.trans (bl5.mono B4.out.size)
  have R5 := hide (refdist_any HDD.out a n cap l w5 (HA.out.below B5.out (Nat.le_refl _)))
  clear bl5 D4 B4
  go_wp2_with fail
  refine R5.out.mono ?_
  rintro e w6 ⟨rfl, q, rfl⟩
  have B6 := hide (bel_drewN B5.out q)
  generalize w5.drewN q = w6 at *
  have A6 := hide (awakeK_any HI.out w6)
  clear R5 B5
  have t2 : (distK l == distK l) = true := by simp
  generalize distK l = d at *
  go_wp2_with fail
  refine A6.out.mono ?_
  rintro e w7 ⟨rfl, bl7⟩
  have B7 : Hid (Below w.heap.size w w7) := B6.out.trans (bl7.mono B6.out.size)
  clear bl7 A6 B6
  go_wp2
  go_ret
  exact ⟨rfl, B7.out⟩
end Go.Proofs.Ytlhiikibbppodaa
