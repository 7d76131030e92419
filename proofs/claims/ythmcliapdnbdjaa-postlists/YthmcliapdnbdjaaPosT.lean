/-
  The law PostLists, walked over what is asked of post.
  Conditions: post's functions do what is asked.
-/
import Derived.Test.YthmcliapdnbdjaaPosL
namespace Go.Proofs.Ythmcliapdnbdjaa
open Go.RowKit
set_option maxRecDepth 20000

set_option maxHeartbeats 16000000 in
theorem lists_of (H : PoI) (a : Option Addr) (n cap : Nat) (zs : List Int) (p : Int) (w : World) (hs : SlI w a n cap zs) (hp : (Lit.int .i64 p).wf = true) :
    Calls Try.prog 6 #[.slice a n cap, .int .i64 p] w fun e w' => e = .returned (.bool true) ∧ Below w.heap.size w w' := by
  have AW := hide (awake_of H)
  have HS := hide hs
  have HZ := hide hs.1.1
  have hn0 := hs.1.2.1
  have hcap := hs.2.1
  have HP := hide hp
  clear hs hp
  by_cases hn : 200 < n
  · have t1 : (200 : Int) < (n : Int) := by omega
    go_enter Try.func6, Try.ntmps6
    go_wp2_with fail
    with_reducible refine (AW.out _).mono ?_
    rintro e u ⟨rfl, b⟩
    go_wp2
    go_ret
    exact ⟨rfl, b⟩
  · have t1 : ¬ (200 : Int) < (n : Int) := by omega
    have RR := hide (rrises_any a n cap zs w HS.out)
    by_cases hu : upI zs
    · rw [decide_eq_true hu] at RR
      have HU := hide hu
      clear hu
      go_enter Try.func6, Try.ntmps6
      go_wp2_with fail
      with_reducible refine RR.out.mono ?_
      rintro e u1 ⟨rfl, b1⟩
      have L1 := hide b1
      clear b1 RR
      go_upto_region 4 with fail
      generalize hmm : (if (n : Int) < p then (n : Int) else p) = mm
      have hmm2 : mm = min (n : Int) p := by rw [← hmm]; split <;> omega
      obtain ⟨M, hM, hMn, hMt⟩ : ∃ M : Nat, (if 0 < mm then mm else 0) = (M : Int) ∧ M ≤ n ∧ M = min p.toNat n := ⟨min p.toNat n, by split <;> omega, by omega, rfl⟩
      rw [hM]
      clear hmm hmm2
      have HTK : Hid (zs.take M = zs.take p.toNat) := by
        show _ = _
        rw [List.take_eq_take_iff, HZ.out]
        omega
      clear hM hMt
      have st := slice_toI a n cap M (by omega)
      have L1D : Hid (Below w.heap.size w u1.drew) := L1.out.drew
      have C1 := hide (fun u (hu : Below w.heap.size w u) => ints_any a n cap zs u (HS.out.below hu (Nat.le_refl _)) (by omega))
      refine wp_region_held_drew (S := fun _ => True) (by kernel_rfl) trivial (fun hHeld => ?_)
      refine held_take (i := 0) (d := (some 20)) (v := ?_) rfl rfl (by kernel_rfl) (by kernel_rfl) (by kernel_rfl) (fun _ _ _ h => h) (Or.inl ⟨by rfl, ?_⟩) (by first | assumption | rfl | trivial) ?_
      rotate_left 1
      · (intro w hSw; (try dsimp only at hSw); (try subst hSw); go_simp; try with_reducible rfl)
      simp only [Act.put, List.setIfInBounds_toArray, List.set_cons_zero, List.set_cons_succ]
      refine held_take (i := 3) (d := (some 23)) (v := ?_) rfl rfl (by kernel_rfl) (by kernel_rfl) (by kernel_rfl) (fun _ _ _ h => h) (Or.inl ⟨by rfl, ?_⟩) (by first | assumption | rfl | trivial) ?_
      rotate_left 1
      · (intro w hSw; (try dsimp only at hSw); (try subst hSw); go_simp; try with_reducible rfl)
      simp only [Act.put, List.setIfInBounds_toArray, List.set_cons_zero, List.set_cons_succ]
      refine held_take (i := 5) (d := (some 25)) (v := ?_) rfl rfl (by kernel_rfl) (by kernel_rfl) (by kernel_rfl) (fun _ _ _ h => h) (Or.inl ⟨by rfl, ?_⟩) (by first | assumption | rfl | trivial) ?_
      rotate_left 1
      · (intro w hSw; (try dsimp only at hSw); (try subst hSw); go_simp; try with_reducible rfl)
      simp only [Act.put, List.setIfInBounds_toArray, List.set_cons_zero, List.set_cons_succ]
      refine held_take (i := 6) (d := (some 26)) (v := ?_) rfl rfl (by kernel_rfl) (by kernel_rfl) (by kernel_rfl) (fun _ _ _ h => h) (Or.inl ⟨by rfl, ?_⟩) (by first | assumption | rfl | trivial) ?_
      rotate_left 1
      · (intro w hSw; (try dsimp only at hSw); (try subst hSw); go_simp; try with_reducible rfl)
      simp only [Act.put, List.setIfInBounds_toArray, List.set_cons_zero, List.set_cons_succ]
      refine held_take (i := 7) (d := (some 27)) (v := ?_) rfl rfl (by kernel_rfl) (by kernel_rfl) (by kernel_rfl) (fun _ _ _ h => h) (Or.inl ⟨by rfl, ?_⟩) (by first | assumption | rfl | trivial) ?_
      rotate_left 1
      · (intro w hSw; (try dsimp only at hSw); (try subst hSw); go_simp; try with_reducible rfl)
      simp only [Act.put, List.setIfInBounds_toArray, List.set_cons_zero, List.set_cons_succ]
      clear hHeld
      refine held_next (i := 1) (by kernel_rfl) rfl (by rfl) (fun K1 hK1 => ?_)
      go_simp
      with_reducible refine (C1.out _ L1D.out).mono ?_
      rintro e u2 ⟨a2, c2, rfl, o2, b2⟩
      have L2 := hide (bel_to L1D.out (Nat.le_refl _) b2)
      have X2 := hide (MineI.sl o2 (by omega) HS.out.wf)
      clear o2 b2 C1 L1D
      go_wp2_with fail
      refine hK1.out _ _ trivial ?_
      clear hK1
      have C2 := hide (H.from' a2 n c2 zs u2 X2.out (by omega))
      rw [most_one HU.out] at C2
      refine held_next (i := 2) (by kernel_rfl) rfl (by rfl) (fun K1 hK1 => ?_)
      go_simp
      with_reducible refine C2.out.mono ?_
      rintro e u3 ⟨F, rfl, t3, b3⟩
      have L3 := hide (bel_to L2.out (Nat.le_refl _) b3)
      have C3 := hide (t3.lst u3 (Below.refl _ _) p HP.out)
      clear t3 b3 C2 X2 L2
      go_wp2_with fail
      refine hK1.out _ _ trivial ?_
      clear hK1
      refine held_next (i := 4) (by kernel_rfl) rfl (by rfl) (fun K1 hK1 => ?_)
      go_simp
      with_reducible refine C3.out.mono ?_
      rintro e u4 ⟨a4, n4, c4, rfl, s4, b4⟩
      have L4 := hide (bel_to L3.out (Nat.le_refl _) b4)
      have P4 : Hid (SlI u4 a M cap (zs.take p.toNat)) := by
        have := (HS.out.below L4.out (Nat.le_refl _))
        refine ⟨?_, by omega, this.2.2⟩
        have q := this.1.to M hMn
        rwa [HTK.out] at q
      have C4 := hide (samei_any a4 n4 c4 _ a M cap _ u4 s4 P4.out)
      rw [decide_eq_true rfl] at C4
      clear s4 b4 C3 P4 L3
      go_wp2_with fail
      refine hK1.out _ _ trivial ?_
      clear hK1
      refine held_next (i := 8) (by kernel_rfl) rfl (by rfl) (fun K1 hK1 => ?_)
      go_simp
      with_reducible refine C4.out.mono ?_
      rintro e u5 ⟨rfl, b5⟩
      have L5 := hide (bel_to L4.out (Nat.le_refl _) b5)
      clear b5 C4 L4
      go_wp2_with fail
      refine hK1.out _ _ trivial ?_
      clear hK1
      refine held_take (i := 9) (d := (some 29)) (v := ?_) rfl rfl (by kernel_rfl) (by kernel_rfl) (by kernel_rfl) (fun _ _ _ h => h) (Or.inl ⟨by rfl, ?_⟩) (by first | assumption | rfl | trivial) ?_
      rotate_left 1
      · (intro w hSw; (try dsimp only at hSw); (try subst hSw); go_simp; try with_reducible rfl)
      simp only [Act.put, List.setIfInBounds_toArray, List.set_cons_zero, List.set_cons_succ]
      refine held_next (i := 10) (by kernel_rfl) rfl (by rfl) (fun K1 hK1 => ?_)
      go_simp
      with_reducible refine (AW.out _).mono ?_
      rintro e u6 ⟨rfl, b6⟩
      have L6 := hide (bel_to L5.out (Nat.le_refl _) b6)
      clear b6 L5
      go_wp2_with fail
      refine hK1.out _ _ trivial ?_
      clear hK1
      refine held_take (i := 11) (d := (some 31)) (v := ?_) rfl rfl (by kernel_rfl) (by kernel_rfl) (by kernel_rfl) (fun _ _ _ h => h) (Or.inl ⟨by rfl, ?_⟩) (by first | assumption | rfl | trivial) ?_
      rotate_left 1
      · (intro w hSw; (try dsimp only at hSw); (try subst hSw); go_simp; try with_reducible rfl)
      simp only [Act.put, List.setIfInBounds_toArray, List.set_cons_zero, List.set_cons_succ]
      refine held_take (i := 12) (d := (some 4)) (v := ?_) rfl rfl (by kernel_rfl) (by kernel_rfl) (by kernel_rfl) (fun _ _ _ h => h) (Or.inl ⟨by rfl, ?_⟩) (by first | assumption | rfl | trivial) ?_
      rotate_left 1
      · (intro w hSw; (try dsimp only at hSw); (try subst hSw); go_simp; try with_reducible rfl)
      simp only [Act.put, List.setIfInBounds_toArray, List.set_cons_zero, List.set_cons_succ]
      refine wpAnyH_done (by kernel_rfl) ?_ _
      go_wp2
      go_ret
      exact ⟨rfl, L6.out⟩
    · rw [decide_eq_false hu] at RR
      clear hu
      go_enter Try.func6, Try.ntmps6
      go_wp2_with fail
      with_reducible refine RR.out.mono ?_
      rintro e u1 ⟨rfl, b1⟩
      have L1 := hide b1
      clear b1 RR
      go_wp2_with fail
      with_reducible refine (AW.out _).mono ?_
      rintro e u2 ⟨rfl, b2⟩
      have L2 := hide (bel_to L1.out (Nat.le_refl _) b2)
      clear b2 L1
      go_wp2
      go_ret
      exact ⟨rfl, L2.out⟩
end Go.Proofs.Ythmcliapdnbdjaa
