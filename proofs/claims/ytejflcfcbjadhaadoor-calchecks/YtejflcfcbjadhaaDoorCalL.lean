/-
  Statements CalChecks, CalFloors, CalLevels over what is asked: contracts, for every world.
  Conditions: cal does what is asked.
-/
import Derived.Test.YtejflcfcbjadhaaDoorCalI
import Derived.Test.YtejflcfcbjadhaaDoorCalT
import Derived.Deep.RegionHeld3
namespace Go.Proofs.YtejflcfcbjadhaaDoor
open Go.RowKit
set_option maxRecDepth 20000

/-- A config's five cells. -/
abbrev cells5 (u : World) (g : Nat) (c : Cf) : Prop := u.cell? ⟨g, 0, none⟩ = some (.int .i64 c.sl) ∧ u.cell? ⟨g, 1, none⟩ = some (.int .i64 c.k0) ∧ u.cell? ⟨g, 2, none⟩ = some (.int .i64 c.k1) ∧ u.cell? ⟨g, 3, none⟩ = some (.int .i64 c.k2) ∧ u.cell? ⟨g, 4, none⟩ = some (.int .i64 c.k3)
theorem rres_bel (l : Int) (w : World) : Calls Tryd.prog 12 #[.int .i64 l] w fun e w' => e = .returned (.int .i64 (resC l)) ∧ Below w.heap.size w w' :=
  (rres_any l w).mono fun e w' h => ⟨h.1, by rw [h.2]; exact Below.refl _ _⟩

set_option maxHeartbeats 4000000 in
theorem checks_of (K : CaChk) (R : CaRes) (H : CaHor) (L : CaLev) (c : Cf) (l : Int) (w : World) (tb : TbW w) (hc : CfW c) (hl : (Lit.int .i64 l).wf = true) :
    Calls Tryd.prog 3 #[cfV c, .int .i64 l] w fun e w' => e = .returned (.bool true) ∧ Below w.heap.size w w' := by
  obtain ⟨W, hW⟩ : ∃ W, Hid (w.alloc (.cells #[.int .i64 c.sl, .int .i64 c.k0, .int .i64 c.k1, .int .i64 c.k2, .int .i64 c.k3] 24) = W) := ⟨_, rfl⟩
  have LW : Hid (Below w.heap.size w W) := by rw [← hW.out]; exact (Below.refl _ _).alloc (Nat.le_refl _) _
  have B : Hid (BoxC W w.heap.size c) := by rw [← hW.out]; exact boxC_new w c
  have CL : Hid (∀ u, Below W.heap.size W u → cells5 u w.heap.size c ∧ Hid (Below W.heap.size W u)) := fun u hu => ⟨(B.out.below hu B.out.lt).all, hu⟩
  have KP : Hid (∀ v v', Below v.heap.size v v' → (cells5 v w.heap.size c ∧ Hid (Below W.heap.size W v)) → cells5 v' w.heap.size c ∧ Hid (Below W.heap.size W v')) := fun v v' hb h => CL.out v' (bel_to h.2.out (Nat.le_refl _) hb)
  have S1 := hide (CL.out W.drew (Below.refl _ _).drew)
  have T1 := hide (fun u => K.chk c u hc)
  have T2 := hide (fun u => rchk_any c u)
  have TU : Hid (∀ u, cells5 u w.heap.size c ∧ Hid (Below W.heap.size W u) → TbW u) := fun u h => tb.bel (bel_to LW.out (Nat.le_refl _) h.2.out)
  have T3 := hide (fun u h => R.res l u (TU.out u h) hl)
  have T4 := hide (fun u => rres_bel l u)
  have T5 := hide (fun u h => awakeC_of R H L u (TU.out u h))
  generalize chkC c = x at *
  generalize resC l = y at *
  clear K R H L hc hl B TU tb
  go_enter Tryd.func3, Tryd.ntmps3
  go_upto_region 1 with fail
  rw [hW.out]
  clear hW
  have tx : (x == x) = true := by cases x <;> rfl
  have ty : (y == y) = true := by simp
  go_region_held3 (fun u => cells5 u w.heap.size c ∧ Hid (Below W.heap.size W u)) (first | with_reducible exact S1.out | with_reducible exact KP.out _ _ (by assumption) (by assumption)) (first
    | (go_at_call 9; (with_reducible refine (T1.out _).mono ?_); rintro e v1 ⟨rfl, q1⟩)
    | (go_at_call 10; (with_reducible refine (T2.out _).mono ?_); rintro e v2 ⟨rfl, q2⟩)
    | (go_at_call 11; (with_reducible refine (T3.out _ (by assumption)).mono ?_); rintro e v3 ⟨rfl, q3⟩)
    | (go_at_call 12; (with_reducible refine (T4.out _).mono ?_); rintro e v4 ⟨rfl, q4⟩)
    | (go_at_call 13; (with_reducible refine (T5.out _ (by assumption)).mono ?_); rintro e v5 ⟨rfl, q5⟩))
  rename_i hh
  have F := hide (bel_to LW.out (Nat.le_refl _) hh.2.out)
  clear hh
  go_wp2
  go_ret
  exact ⟨rfl, F.out⟩

set_option maxHeartbeats 4000000 in
theorem floors_of (G : CaFlo) (R : CaRes) (H : CaHor) (L : CaLev) (a l : Int) (w : World) (tb : TbW w) (ha : (Lit.int .i64 a).wf = true) (hl : (Lit.int .i64 l).wf = true) :
    Calls Tryd.prog 4 #[.int .i64 a, .int .i64 l] w fun e w' => e = .returned (.bool true) ∧ Below w.heap.size w w' := by
  obtain ⟨ha0, ha1⟩ := i64_of_wf ha
  obtain ⟨hm, hm0, hm1⟩ := floorC_mult (l := l) ha0 ha1
  have T1 := hide (fun u b => G.flo a l u (tb.bel b) ha hl)
  have T2 := hide (fun u => rfloor_any a l u ha0 ha1)
  have T3 := hide (fun u b => G.flo (floorC a l) l u (tb.bel b) (wf64 hm0 hm1) hl)
  rw [hm] at T3
  have T5 := hide (fun u b => awakeC_of R H L u (tb.bel b))
  generalize floorC a l = x at *
  have tx : (x == x) = true := by simp
  clear G R H L tb hm ha hl
  go_enter Tryd.func4, Tryd.ntmps4
  go_wp2_with fail
  with_reducible refine (T1.out _ (Below.refl _ _)).mono ?_
  rintro e u1 ⟨rfl, b1⟩
  have B1 := hide b1
  clear b1 T1
  go_wp2_with fail
  with_reducible refine (T2.out _).mono ?_
  rintro e u2 ⟨rfl, b2⟩
  have B2 := hide (bel_to B1.out (Nat.le_refl _) b2)
  clear b2 T2 B1
  go_wp2_with fail
  with_reducible refine (T3.out _ B2.out).mono ?_
  rintro e u3 ⟨rfl, b3⟩
  have B3 := hide (bel_to B2.out (Nat.le_refl _) b3)
  clear b3 T3 B2
  go_wp2_with fail
  with_reducible refine (T5.out _ B3.out).mono ?_
  rintro e u4 ⟨rfl, b4⟩
  have B4 := hide (bel_to B3.out (Nat.le_refl _) b4)
  clear b4 T5 B3
  go_wp2
  go_ret
  exact ⟨rfl, B4.out⟩
end Go.Proofs.YtejflcfcbjadhaaDoor
