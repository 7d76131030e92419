/-
  The law MatchParses, walked: any text is read as the document reads it; the document's examples hold (written by gen/matyj.gen.py).
  Conditions: none.
-/
import Derived.Test.YthebcmkainplnaaMatYz
import Derived.Test.YthebcmkainplnaaMatJ
namespace Go.Proofs.Ythebcmkainplnaa
open Go.RowKit
set_option maxRecDepth 20000

theorem psP_one {l : List UInt8} {m m2 : Mt} {er er2 : Int} (h : (dpS 0 0 l = true ∧ m = zeroM ∧ er = 18) ∨ (dpS 0 0 l = false ∧ parseM l = none ∧ m = zeroM ∧ er = 17) ∨ (dpS 0 0 l = false ∧ parseM l = some m ∧ er = 0)) (h2 : (dpS 0 0 l = true ∧ m2 = zeroM ∧ er2 = 18) ∨ (dpS 0 0 l = false ∧ parseM l = none ∧ m2 = zeroM ∧ er2 = 17) ∨ (dpS 0 0 l = false ∧ parseM l = some m2 ∧ er2 = 0)) : er2 = er ∧ m2 = m := by
  rcases h with ⟨a, b, c⟩ | ⟨a, a', b, c⟩ | ⟨a, b, c⟩ <;> rcases h2 with ⟨d, e, f⟩ | ⟨d, d', e, f⟩ | ⟨d, e, f⟩ <;> simp_all

set_option maxHeartbeats 4000000 in
theorem parsesM_any (s : ByteArray) (w : World) (hz : s.size ≤ 9223372036854775807) :
    Calls Try.prog 6 #[.string s] w fun e w' => e = .returned (.bool true) ∧ Below w.heap.size w w' := by
  have AW := hide awakeM_any
  by_cases hs : s.size ≤ 20000
  · have t1 : ¬ (20000 : Int) < (s.size : Int) := by omega
    have PP := hide (parseT_any s w hs)
    have PR := hide (fun u => parseR_any s u hs)
    go_enter Try.func6, Try.ntmps6
    go_wp2_with fail
    with_reducible refine PP.out.mono ?_
    rintro e v1 ⟨k1, ⟨op1, nm1, vl1, va1, vn1, vc1, ka1, kn1, kc1⟩, m1, er1, rfl, s1, p1⟩
    dsimp only
    obtain ⟨v2, hv2⟩ : ∃ v2, Hid (v1.alloc (.cells #[.int .i64 op1, .string nm1, .string vl1, .slice va1 vn1 vc1, .slice ka1 kn1 kc1] 25) = v2) := ⟨_, rfl⟩
    have A2 : Hid (Below v1.heap.size v1 v2) := by rw [← hv2.out]; exact (Below.refl _ _).alloc (Nat.le_refl _) _
    have X2 : Hid (BoxM v2 v1.heap.size ⟨op1, nm1, vl1, va1, vn1, vc1, ka1, kn1, kc1⟩) := by rw [← hv2.out]; exact boxM_new v1 ⟨op1, nm1, vl1, va1, vn1, vc1, ka1, kn1, kc1⟩
    have S2 := hide (s1.below A2.out)
    have L2 := hide (bel_to k1 (Nat.le_refl _) A2.out)
    have P1 := hide p1
    clear PP k1 s1 p1 A2
    go_upto_region 4 with fail
    rw [hv2.out]
    clear hv2
    go_wp2_with fail
    with_reducible refine (PR.out _).mono ?_
    rintro e v3 ⟨k3, ⟨op2, nm2, vl2, va2, vn2, vc2, ka2, kn2, kc2⟩, m2, er2, rfl, s3, p3⟩
    obtain ⟨rfl, rfl⟩ := psP_one P1.out p3
    dsimp only
    obtain ⟨v4, hv4⟩ : ∃ v4, Hid (v3.alloc (.cells #[.int .i64 op2, .string nm2, .string vl2, .slice va2 vn2 vc2, .slice ka2 kn2 kc2] 25) = v4) := ⟨_, rfl⟩
    have A4 : Hid (Below v3.heap.size v3 v4) := by rw [← hv4.out]; exact (Below.refl _ _).alloc (Nat.le_refl _) _
    have Y4 : Hid (BoxM v4 v3.heap.size ⟨op2, nm2, vl2, va2, vn2, vc2, ka2, kn2, kc2⟩) := by rw [← hv4.out]; exact boxM_new v3 ⟨op2, nm2, vl2, va2, vn2, vc2, ka2, kn2, kc2⟩
    have X3 := hide (X2.out.block (k3.block _ X2.out.lt))
    have X4 := hide (X3.out.block (A4.out.block _ X3.out.lt))
    have S4 := hide ((S2.out.below k3).below A4.out)
    have R4 := hide (s3.below A4.out)
    have L4 := hide (bel_to (bel_to L2.out (Nat.le_refl _) k3) (Nat.le_refl _) A4.out)
    have SM := hide (same_any m2 _ ⟨op1, nm1, vl1, va1, vn1, vc1, ka1, kn1, kc1⟩ m2 _ ⟨op2, nm2, vl2, va2, vn2, vc2, ka2, kn2, kc2⟩ v4 S4.out R4.out)
    rw [sameB_self] at SM
    dsimp only at SM
    have ee : (er2 == er2) = true := by simp
    clear k3 s3 p3 P1 X2 X3 S2 L2 A4 PR
    go_upto_region 5 with fail
    rw [hv4.out]
    clear hv4
    obtain ⟨b0, b1, b2, b3, b4, _⟩ := X4.out.all
    obtain ⟨c0, c1, c2, c3, c4, _⟩ := Y4.out.all
    dsimp only at b0 b1 b2 b3 b4 c0 c1 c2 c3 c4
    go_wp2_with fail
    with_reducible refine SM.out.mono ?_
    rintro e v5 ⟨rfl, k5⟩
    have L5 := hide (bel_to L4.out (Nat.le_refl _) k5)
    clear k5 b0 b1 b2 b3 b4 c0 c1 c2 c3 c4 SM
    go_wp2_with fail
    with_reducible refine (AW.out _).mono ?_
    rintro e v6 ⟨rfl, k6⟩
    have L6 := hide (bel_to L5.out (Nat.le_refl _) k6)
    clear k6
    go_wp2
    go_ret
    exact ⟨rfl, L6.out⟩
  · have t1 : (20000 : Int) < (s.size : Int) := by omega
    go_enter Try.func6, Try.ntmps6
    go_wp2_with fail
    with_reducible refine (AW.out _).mono ?_
    rintro e v1 ⟨rfl, k1⟩
    have L1 := hide k1
    clear k1
    go_wp2
    go_ret
    exact ⟨rfl, L1.out⟩
end Go.Proofs.Ythebcmkainplnaa
