/-
  What the laws of layer 13 ask of post's functions: of an iterator, what the laws' own collector and List take of it; and that the laws' own 'both' then says yes.
  Conditions: as each theorem says.
-/
import Derived.Test.YthmcliapdnbdjaaPosM
import Derived.Test.YthmcliapdnbdjaaPlace
import Derived.Test.YthmcliapdnbdjaaVintR
import Derived.Deep.RegionHeld3
namespace Go.Proofs.Ythmcliapdnbdjaa
open Go.RowKit
set_option maxRecDepth 20000

/-- A list told: in memory, whatever it is. -/
def Told (l : List Int) (u : World) (e : Ending) (u' : World) : Prop := ∃ a n c, e = .returned (.slice a n c) ∧ SlI u' a n c l ∧ Below u.heap.size u u'
/-- An iterator that tells these, to the laws' collector and to List, as long as what was there stays. -/
structure Tells (F : Value) (w : World) (l : List Int) : Prop where
  col : ∀ u, Below w.heap.size w u → ∀ most : Int, (Lit.int .i64 most).wf = true → Calls Try.prog 25 #[F, .int .i64 most] u fun e u' => Told (l.take most.toNat) u e u'
  lst : ∀ u, Below w.heap.size w u → ∀ most : Int, (Lit.int .i64 most).wf = true → Calls Try.prog 23 #[F, .int .i64 most] u fun e u' => Told (l.take most.toNat) u e u'
theorem Tells.below {F : Value} {w w' : World} {l : List Int} (h : Tells F w l) (b : Below w.heap.size w w') : Tells F w' l :=
  ⟨fun u hu => h.col u (bel_to b (Nat.le_refl _) hu), fun u hu => h.lst u (bel_to b (Nat.le_refl _) hu)⟩
def Iter (l : List Int) (w : World) (e : Ending) (w' : World) : Prop := ∃ F, e = .returned F ∧ Tells F w' l ∧ Below w.heap.size w w'
/-- What the laws ask of post. -/
structure PoI : Prop where
  rises : ∀ a n cap zs w, SlI w a n cap zs → Calls Try.prog 11 #[.slice a n cap] w fun e w' => e = .returned (.bool (decide (upI zs))) ∧ Below w.heap.size w w'
  from' : ∀ a n cap zs w, SlI w a n cap zs → n ≤ 2000 → Calls Try.prog 18 #[.slice a n cap] w fun e w' => Iter (mostS [zs] 1) w e w'
  and' : ∀ a n cap xs b m capb ys w, SlI w a n cap xs → SlI w b m capb ys → n ≤ 2000 → m ≤ 2000 → Calls Try.prog 14 #[.slice a n cap, .slice b m capb] w fun e w' => Iter (mostS [xs, ys] 2) w e w'
  less : ∀ a n cap xs b m capb ys w, SlI w a n cap xs → SlI w b m capb ys → n ≤ 2000 → m ≤ 2000 → Calls Try.prog 16 #[.slice a n cap, .slice b m capb] w fun e w' => Iter (lessS xs ys) w e w'
  most : ∀ a n cap ls k w, RowII w a n ls → n ≤ cap → (a = none → cap = 0) → n ≤ 10 → (∀ l ∈ ls, l.length ≤ 2000) → (Lit.int .i64 k).wf = true → Calls Try.prog 21 #[.slice a n cap, .int .i64 k] w fun e w' => Iter (mostS ls k) w e w'
  or' : ∀ a n cap ls w, RowII w a n ls → n ≤ cap → (a = none → cap = 0) → n ≤ 10 → (∀ l ∈ ls, l.length ≤ 2000) → Calls Try.prog 22 #[.slice a n cap] w fun e w' => Iter (mostS ls 1) w e w'

theorem wfI {x : Int} (h0 : -9223372036854775808 ≤ x) (h1 : x ≤ 9223372036854775807) : (Lit.int .i64 x).wf = true := by
  simp [Lit.wf, IntKind.min, IntKind.max, IntKind.signed, IntKind.bits]
  omega
theorem Iter.mono' {l l' : List Int} {w : World} {e : Ending} {w' : World} (h : Iter l w e w') (hl : l = l') : Iter l' w e w' := hl ▸ h

set_option maxHeartbeats 8000000 in
theorem both_any (F : Value) (l : List Int) (a : Option Addr) (n cap : Nat) (most : Int) (w : World) (hF : Tells F w l) (hs : SlI w a n cap l) (hn : n ≤ 100000) :
    Calls Try.prog 13 #[F, .slice a n cap, .int .i64 most] w fun e w' => e = .returned (.bool true) ∧ Below w.heap.size w w' := by
  have PL := hide (place_any most 12 (by decide) (by decide) w)
  obtain ⟨K, hK, hK0, hK1⟩ : ∃ K : Nat, (1 + most % 12 : Int) = (K : Int) ∧ 1 ≤ K ∧ K ≤ 12 := ⟨(1 + most % 12).toNat, by omega, by omega, by omega⟩
  have HS := hide hs
  have HL := hide hs.1.1
  have hcap := hs.2.1
  have CO := hide (fun u (hu : Below w.heap.size w u) (m : Int) (hm : (Lit.int .i64 m).wf = true) => hF.col u hu m hm)
  have SA := hide (fun u x c n1 l1 y d n2 (q1 : SlI u x n1 c l1) (q2 : SlI u y n2 d l1) => (samei_any x n1 c l1 y n2 d l1 u q1 q2).mono fun e w' (h : e = .returned (.bool (decide (l1 = l1))) ∧ Below u.heap.size u w') => (⟨by rw [h.1, decide_eq_true rfl], h.2⟩ : e = .returned (.bool true) ∧ Below u.heap.size u w'))
  obtain ⟨M, hmin, hM1, hM2⟩ : ∃ M : Nat, (if n < K then (n : Int) else (K : Int)) = (M : Int) ∧ M = min K n ∧ M ≤ n := ⟨min K n, by split <;> omega, rfl, by omega⟩
  have st := slice_toI a n cap M (by omega)
  have S1 : Hid (SlI w a M cap (l.take K)) := by
    refine ⟨?_, by omega, hs.2.2⟩
    have := hs.1.to M hM2
    have e : l.take M = l.take K := by
      rw [List.take_eq_take_iff, hs.1.1]
      omega
    rwa [e] at this
  clear hM1
  have HT : Hid (l.take (((n : Int) + 2).toNat) = l) := List.take_of_length_le (by rw [hs.1.1]; omega)
  clear hs hF
  go_enter Try.func13, Try.ntmps13
  go_wp2_with fail
  with_reducible refine PL.out.mono ?_
  rintro e w' ⟨rfl, hw⟩
  rw [hw]
  clear hw PL
  have hKm : (most % 12) = (K : Int) - 1 := by omega
  go_upto_region 2 with fail
  rw [show (1 : Int) + ((K : Int) - 1) = (K : Int) by omega]
  clear hK hKm
  have hwr : IntKind.i64.wrap ((n : Int) + 2) = (n : Int) + 2 := by rw [IntKind.wrap_i64]; omega
  have B0 : Hid (Below w.heap.size w w.drew) := (Below.refl _ _).drew
  refine wp_region_held_drew (S := fun _ => True) (by kernel_rfl) trivial (fun hHeld => ?_)
  refine held_take (i := 0) (d := (some 11)) (v := ?_) rfl rfl (by kernel_rfl) (by kernel_rfl) (by kernel_rfl) (fun _ _ _ h => h) (Or.inl ⟨by rfl, ?_⟩) (by first | assumption | rfl | trivial) ?_
  rotate_left 1
  · (intro w hSw; (try dsimp only at hSw); (try subst hSw); go_simp; try with_reducible rfl)
  simp only [Act.put, List.setIfInBounds_toArray, List.set_cons_zero, List.set_cons_succ]
  refine held_take (i := 1) (d := (some 12)) (v := ?_) rfl rfl (by kernel_rfl) (by kernel_rfl) (by kernel_rfl) (fun _ _ _ h => h) (Or.inl ⟨by rfl, ?_⟩) (by first | assumption | rfl | trivial) ?_
  rotate_left 1
  · (intro w hSw; (try dsimp only at hSw); (try subst hSw); go_simp; try with_reducible rfl)
  simp only [Act.put, List.setIfInBounds_toArray, List.set_cons_zero, List.set_cons_succ]
  refine held_take (i := 3) (d := (some 14)) (v := ?_) rfl rfl (by kernel_rfl) (by kernel_rfl) (by kernel_rfl) (fun _ _ _ h => h) (Or.inl ⟨by rfl, ?_⟩) (by first | assumption | rfl | trivial) ?_
  rotate_left 1
  · (intro w hSw; (try dsimp only at hSw); (try subst hSw); go_simp; try with_reducible rfl)
  simp only [Act.put, List.setIfInBounds_toArray, List.set_cons_zero, List.set_cons_succ]
  refine held_take (i := 4) (d := (some 15)) (v := ?_) rfl rfl (by kernel_rfl) (by kernel_rfl) (by kernel_rfl) (fun _ _ _ h => h) (Or.inl ⟨by rfl, ?_⟩) (by first | assumption | rfl | trivial) ?_
  rotate_left 1
  · (intro w hSw; (try dsimp only at hSw); (try subst hSw); go_simp; try with_reducible rfl)
  simp only [Act.put, List.setIfInBounds_toArray, List.set_cons_zero, List.set_cons_succ]
  refine held_take (i := 5) (d := (some 16)) (v := ?_) rfl rfl (by kernel_rfl) (by kernel_rfl) (by kernel_rfl) (fun _ _ _ h => h) (Or.inl ⟨by rfl, ?_⟩) (by first | assumption | rfl | trivial) ?_
  rotate_left 1
  · (intro w hSw; (try dsimp only at hSw); (try subst hSw); go_simp; try with_reducible rfl)
  simp only [Act.put, List.setIfInBounds_toArray, List.set_cons_zero, List.set_cons_succ]
  refine held_take (i := 6) (d := (some 17)) (v := ?_) rfl rfl (by kernel_rfl) (by kernel_rfl) (by kernel_rfl) (fun _ _ _ h => h) (Or.inl ⟨by rfl, ?_⟩) (by first | assumption | rfl | trivial) ?_
  rotate_left 1
  · (intro w hSw; (try dsimp only at hSw); (try subst hSw); go_simp; try with_reducible rfl)
  simp only [Act.put, List.setIfInBounds_toArray, List.set_cons_zero, List.set_cons_succ]
  refine held_take (i := 7) (d := (some 18)) (v := ?_) rfl rfl (by kernel_rfl) (by kernel_rfl) (by kernel_rfl) (fun _ _ _ h => h) (Or.inl ⟨by rfl, ?_⟩) (by first | assumption | rfl | trivial) ?_
  rotate_left 1
  · (intro w hSw; (try dsimp only at hSw); (try subst hSw); go_simp; try with_reducible rfl)
  simp only [Act.put, List.setIfInBounds_toArray, List.set_cons_zero, List.set_cons_succ]
  refine held_take (i := 8) (d := (some 19)) (v := ?_) rfl rfl (by kernel_rfl) (by kernel_rfl) (by kernel_rfl) (fun _ _ _ h => h) (Or.inl ⟨by rfl, ?_⟩) (by first | assumption | rfl | trivial) ?_
  rotate_left 1
  · (intro w hSw; (try dsimp only at hSw); (try subst hSw); go_simp; try with_reducible rfl)
  simp only [Act.put, List.setIfInBounds_toArray, List.set_cons_zero, List.set_cons_succ]
  clear hHeld
  refine held_next (i := 2) (by kernel_rfl) rfl (by rfl) (fun K1 hK1 => ?_)
  go_simp
  with_reducible refine (CO.out _ B0.out _ (wfI (by omega) (by omega))).mono ?_
  rintro e u1 ⟨a1, n1, c1, rfl, s1, b1⟩
  rw [Int.toNat_natCast] at s1
  have B1 := hide (bel_to B0.out (Nat.le_refl _) b1)
  have Q1 := hide s1
  have P1 := hide (S1.out.below B1.out (Nat.le_refl _))
  clear s1 b1
  go_wp2_with fail
  refine hK1.out _ _ trivial ?_
  clear hK1
  have Z1 := hide (SA.out u1 _ _ _ _ _ _ _ Q1.out P1.out)
  refine held_next (i := 9) (by kernel_rfl) rfl (by rfl) (fun K1 hK1 => ?_)
  go_simp
  with_reducible refine Z1.out.mono ?_
  rintro e u2 ⟨rfl, b2⟩
  have B2 := hide (bel_to B1.out (Nat.le_refl _) b2)
  clear b2 Z1 Q1 P1 B1
  go_wp2_with fail
  refine hK1.out _ _ trivial ?_
  clear hK1
  refine held_take (i := 10) (d := (some 21)) (v := ?_) rfl rfl (by kernel_rfl) (by kernel_rfl) (by kernel_rfl) (fun _ _ _ h => h) (Or.inl ⟨by rfl, ?_⟩) (by first | assumption | rfl | trivial) ?_
  rotate_left 1
  · (intro w hSw; (try dsimp only at hSw); (try subst hSw); go_simp; try with_reducible rfl)
  simp only [Act.put, List.setIfInBounds_toArray, List.set_cons_zero, List.set_cons_succ]
  refine held_take (i := 11) (d := (some 22)) (v := ?_) rfl rfl (by kernel_rfl) (by kernel_rfl) (by kernel_rfl) (fun _ _ _ h => h) (Or.inl ⟨by rfl, ?_⟩) (by first | assumption | rfl | trivial) ?_
  rotate_left 1
  · (intro w hSw; (try dsimp only at hSw); (try subst hSw); go_simp; try with_reducible rfl)
  simp only [Act.put, List.setIfInBounds_toArray, List.set_cons_zero, List.set_cons_succ]
  refine held_take (i := 12) (d := (some 23)) (v := ?_) rfl rfl (by kernel_rfl) (by kernel_rfl) (by kernel_rfl) (fun _ _ _ h => h) (Or.inl ⟨by rfl, ?_⟩) (by first | assumption | rfl | trivial) ?_
  rotate_left 1
  · (intro w hSw; (try dsimp only at hSw); (try subst hSw); go_simp; try with_reducible rfl)
  simp only [Act.put, List.setIfInBounds_toArray, List.set_cons_zero, List.set_cons_succ]
  refine held_take (i := 13) (d := (some 24)) (v := ?_) rfl rfl (by kernel_rfl) (by kernel_rfl) (by kernel_rfl) (fun _ _ _ h => h) (Or.inl ⟨by rfl, ?_⟩) (by first | assumption | rfl | trivial) ?_
  rotate_left 1
  · (intro w hSw; (try dsimp only at hSw); (try subst hSw); go_simp; try with_reducible rfl)
  simp only [Act.put, List.setIfInBounds_toArray, List.set_cons_zero, List.set_cons_succ]
  refine held_take (i := 14) (d := (some 25)) (v := ?_) rfl rfl (by kernel_rfl) (by kernel_rfl) (by kernel_rfl) (fun _ _ _ h => h) (Or.inl ⟨by rfl, ?_⟩) (by first | assumption | rfl | trivial) ?_
  rotate_left 1
  · (intro w hSw; (try dsimp only at hSw); (try subst hSw); go_simp; try with_reducible rfl)
  simp only [Act.put, List.setIfInBounds_toArray, List.set_cons_zero, List.set_cons_succ]
  refine held_take (i := 16) (d := (some 27)) (v := ?_) rfl rfl (by kernel_rfl) (by kernel_rfl) (by kernel_rfl) (fun _ _ _ h => h) (Or.inl ⟨by rfl, ?_⟩) (by first | assumption | rfl | trivial) ?_
  rotate_left 1
  · (intro w hSw; (try dsimp only at hSw); (try subst hSw); go_simp; try with_reducible rfl)
  simp only [Act.put, List.setIfInBounds_toArray, List.set_cons_zero, List.set_cons_succ]
  refine held_next (i := 15) (by kernel_rfl) rfl (by rfl) (fun K1 hK1 => ?_)
  go_simp
  with_reducible refine (CO.out _ B2.out _ (wfI (by omega) (by omega))).mono ?_
  rintro e u3 ⟨a3, n3, c3, rfl, s3, b3⟩
  rw [HT.out] at s3
  have B3 := hide (bel_to B2.out (Nat.le_refl _) b3)
  have Q3 := hide s3
  have P3 := hide (HS.out.below B3.out (Nat.le_refl _))
  clear s3 b3 B2
  go_wp2_with fail
  refine hK1.out _ _ trivial ?_
  clear hK1
  have Z3 := hide (SA.out u3 _ _ _ _ _ _ _ Q3.out P3.out)
  refine held_next (i := 17) (by kernel_rfl) rfl (by rfl) (fun K1 hK1 => ?_)
  go_simp
  with_reducible refine Z3.out.mono ?_
  rintro e u4 ⟨rfl, b4⟩
  have B4 := hide (bel_to B3.out (Nat.le_refl _) b4)
  clear b4 Z3 Q3 P3 B3
  go_wp2_with fail
  refine hK1.out _ _ trivial ?_
  clear hK1
  refine held_take (i := 18) (d := (some 29)) (v := ?_) rfl rfl (by kernel_rfl) (by kernel_rfl) (by kernel_rfl) (fun _ _ _ h => h) (Or.inl ⟨by rfl, ?_⟩) (by first | assumption | rfl | trivial) ?_
  rotate_left 1
  · (intro w hSw; (try dsimp only at hSw); (try subst hSw); go_simp; try with_reducible rfl)
  simp only [Act.put, List.setIfInBounds_toArray, List.set_cons_zero, List.set_cons_succ]
  refine held_take (i := 19) (d := (some 6)) (v := ?_) rfl rfl (by kernel_rfl) (by kernel_rfl) (by kernel_rfl) (fun _ _ _ h => h) (Or.inl ⟨by rfl, ?_⟩) (by first | assumption | rfl | trivial) ?_
  rotate_left 1
  · (intro w hSw; (try dsimp only at hSw); (try subst hSw); go_simp; try with_reducible rfl)
  simp only [Act.put, List.setIfInBounds_toArray, List.set_cons_zero, List.set_cons_succ]
  refine wpAnyH_done (by kernel_rfl) ?_ _
  go_wp2
  go_ret
  exact ⟨rfl, B4.out⟩
end Go.Proofs.Ythmcliapdnbdjaa
