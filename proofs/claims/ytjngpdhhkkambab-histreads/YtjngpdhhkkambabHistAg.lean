/-
  The document's examples for package hist hold: a contract, for every world.
  Conditions: none.
-/
import Derived.Test.YtjngpdhhkkambabHistAc
import Derived.Test.YtjngpdhhkkambabHistAe
namespace Go.Proofs.Ytjngpdhhkkambab
open Go.RowKit

theorem spS_addH {w : World} {g : Nat} {H : List Int} (hH : HistAt w g H) {v n : Int} (hv : 0 ≤ v ∧ v < 18446744073709551616) (hn : 0 ≤ n ∧ n < 18446744073709551616) : spS (addH H v n) = addN (spS H) (bucketS v) n := by
  obtain ⟨b0, b1⟩ := bucketS_range hv.1 hv.2
  exact spS_add hH.len hH.words b0 b1 hn

theorem awake_list : addN (addN [] (bucketS 5) 1) (bucketS 300) 1 = [(5, 1), (278, 1)] := by decide +kernel
theorem awake_half : quantS [(5, 1), (278, 1)] 1 2 = (5, 0) := by decide +kernel
theorem awake_all : quantS [(5, 1), (278, 1)] 1 1 = (300, 0) := by decide +kernel

set_option maxHeartbeats 4000000 in
theorem awake_any (w : World) : Calls Try.prog 13 #[] w fun e w' => e = .returned (.bool true) ∧ Below w.heap.size w w' := by
  have N := hide (new_any w)
  have LO := hide (fun w => low_in 278 w (by omega) (by omega))
  have HI := hide (fun w => high_in 278 w (by omega) (by omega))
  have BU := hide (fun w => bucket_any 300 w ⟨by omega, by omega⟩)
  rw [show lowS 278 = 300 by decide +kernel] at LO
  rw [show highS 278 = 301 by decide +kernel] at HI
  rw [show bucketS 300 = 278 by decide +kernel] at BU
  go_enter Try.func13, Try.ntmps13
  go_wp2_with fail
  refine N.out.mono ?_
  rintro e w1 ⟨rfl, h1, b1⟩
  have B1 := hide b1
  have A1 := hide (hadd_any w.heap.size H0 5 1 w1 ⟨by omega, by omega⟩ ⟨by omega, by omega⟩ h1)
  have E1 := hide (spS_addH h1 (v := 5) (n := 1) ⟨by omega, by omega⟩ ⟨by omega, by omega⟩)
  clear h1 b1 N
  go_wp2_with fail
  refine A1.out.mono ?_
  rintro e w2 ⟨rfl, h2, c2⟩
  have B2 : Hid (Below w.heap.size w w2) := B1.out.trans (c2.below B1.out.size (fun k hk e => by omega))
  have A2 := hide (hadd_any w.heap.size _ 300 1 w2 ⟨by omega, by omega⟩ ⟨by omega, by omega⟩ h2)
  have E2 := hide (spS_addH h2 (v := 300) (n := 1) ⟨by omega, by omega⟩ ⟨by omega, by omega⟩)
  clear h2 c2 A1 B1
  go_wp2_with fail
  refine A2.out.mono ?_
  rintro e w3 ⟨rfl, h3, c3⟩
  have B3 : Hid (Below w.heap.size w w3) := B2.out.trans (c3.below B2.out.size (fun k hk e => by omega))
  have E3 : Hid (spS (addH (addH H0 5 1) 300 1) = [(5, 1), (278, 1)]) := by
    show _ = _
    rw [E2.out, E1.out, spS_H0]
    exact awake_list
  have H3 := hide h3
  have Q1 := hide (hquant_any w.heap.size _ 1 2 w3 h3 ⟨by omega, by omega⟩ ⟨by omega, by omega⟩)
  have Q2 := hide (fun W (b : Below w3.heap.size w3 W) => hquant_any w.heap.size _ 1 1 W (h3.below b h3.lt) ⟨by omega, by omega⟩ ⟨by omega, by omega⟩)
  rw [E3.out, awake_half] at Q1
  rw [E3.out, awake_all] at Q2
  clear h3 c3 A2 B2 E1 E2 E3 H3
  go_wp2_with fail
  refine Q1.out.mono ?_
  rintro e w4 ⟨rfl, b4⟩
  have Q3 := hide (Q2.out w4 b4)
  have B4 : Hid (Below w.heap.size w w4) := B3.out.trans (b4.mono B3.out.size)
  clear Q1 Q2 b4 B3
  go_wp2_with fail
  refine Q3.out.mono ?_
  rintro e w5 ⟨rfl, b5⟩
  have B5 : Hid (Below w.heap.size w w5) := B4.out.trans (b5.mono B4.out.size)
  clear Q3 b5 B4
  go_wp2_with fail
  refine (LO.out _).mono ?_
  rintro e w6 ⟨rfl, rfl⟩
  go_wp2_with fail
  refine (HI.out _).mono ?_
  rintro e w7 ⟨rfl, rfl⟩
  go_wp2_with fail
  refine (BU.out _).mono ?_
  rintro e w8 ⟨rfl, rfl⟩
  go_wp2
  go_ret
  exact ⟨rfl, B5.out⟩
end Go.Proofs.Ytjngpdhhkkambab
