/-
  A call of the laws at both file systems (do): Cut, Rename, Arm: contracts, for every world (written by gen/vfspb.gen.py).
  Conditions: both lie in memory, apart; the call may be read.
-/
import Derived.Test.YthlkmjaflomflaaGreatVfsPb
namespace Go.Proofs.YthlkmjaflomflaaGreat
open Go.RowKit Go.Maps
set_option maxRecDepth 20000
set_option linter.unusedVariables false


set_option maxHeartbeats 8000000 in
theorem do3_any (w u : World) (g h : Nat) (F G : Fs) (m : Nat) (x : OpV) (ht : TwoV w.heap.size w u g h F G) (hF : LimB m F) (hG : LimB m G) (hm : m ≤ 400000000) (hx : OpW w x) (hd : x.data.length ≤ 500) (hk : x.k % 10 = 3) :
    Calls Tryz.prog 8 #[.pointer (some ⟨g, 0, none⟩), .pointer (some ⟨h, 0, none⟩), .agg #[.int .i64 x.k, .int .i64 x.a, .int .i64 x.b, .int .i64 x.n, .slice x.d.1 x.d.2.1 x.d.2.2, .slice x.p.1 x.p.2.1 x.p.2.2]] u fun e u' => DoP w F G x g h e u' := by
  obtain ⟨S, T, t⟩ := ht
  have NM := hide (fun u => name_any x.a u hx.a)
  have PL := hide (fun u => place_any x.k 10 (by omega) (by omega) u)
  rw [hk] at PL
  obtain ⟨s, hs⟩ : ∃ s, nmAt (x.a % 8).toNat = s := ⟨_, rfl⟩
  have hss : s.size ≤ 70 := by rw [← hs]; exact nmAt_size _
  rw [hs] at NM
  have EA : ∀ X : Fs, opF X (callV x) = cutF X s x.n := fun X => by
    have e : (callV x).k = 3 := by show (x.k % 10).toNat = _; rw [hk]; rfl
    unfold opF
    rw [if_neg (show ¬ ((callV x).k = 0) by omega)]
    rw [if_neg (show ¬ ((callV x).k = 1 ∨ (callV x).k = 2) by omega)]
    rw [if_pos (show (callV x).k = 3 by omega)]
    rw [← hs]; rfl
  rcases hPF : cutF F s x.n with ⟨XF, eL⟩
  rcases hPG : cutF G s x.n with ⟨XG, eR⟩
  have EF := hide ((EA F).trans hPF)
  have EG := hide ((EA G).trans hPG)
  have LF := hide hF.lim
  have LG := hide hG.lim
  have HX := hide hx
  obtain ⟨xk, xa, xb, xn, ⟨da, dn, dc⟩, ⟨pa, pn, pc⟩, data, picks⟩ := x
  dsimp only at NM PL hPF hPG ⊢
  obtain ⟨W0, hW0⟩ : ∃ W0, u.alloc (.cells #[.int .i64 xk, .int .i64 xa, .int .i64 xb, .int .i64 xn, .slice da dn dc, .slice pa pn pc] 36) = W0 := ⟨_, rfl⟩
  have B0 : Below u.heap.size u W0 := by rw [← hW0]; exact (Below.refl _ _).alloc (Nat.le_refl _) _
  have T0 := hide (t.below B0)
  have BX := hide (fun (v : World) (C : Nat → Prop) (c : Ch C W0 v) (hn : ¬ C u.heap.size) => box_keep (d := (da, dn, dc)) (p := (pa, pn, pc)) hW0 c hn)
  have NS : Hid (¬ S u.heap.size) := fun h => by have := t.l.lt _ h; omega
  have NT : Hid (¬ T u.heap.size) := fun h => by have := t.r.lt _ h; omega
  obtain ⟨c0, c1, c2, c3, c4, c5⟩ := BX.out W0 (fun _ => False) (Ch.refl _ _) id
  dsimp only at c4 c5
  have HW0 := hide hW0
  obtain ⟨gb, hgb⟩ : ∃ gb, u.heap.size = gb := ⟨_, rfl⟩
  rw [hgb] at c0 c1 c2 c3 c4 c5 BX NS NT
  have HGB := hide hgb
  clear hW0 t B0 hgb hk hx hF hG hs
  go_enter Tryz.func8, Tryz.ntmps8
  go_upto_region 1 with fail
  rw [HW0.out, HGB.out]
  clear HW0 HGB
  go_wp2_with fail
  with_reducible refine (NM.out _).mono ?_
  rintro e v ⟨rfl, hv⟩
  rw [hv]
  clear hv NM
  go_wp2_with fail
  with_reducible refine (PL.out _).mono ?_
  rintro e v ⟨rfl, hv⟩
  rw [hv]
  clear hv PL
  have CL := hide (lcut_any g S F s xn m W0.drew (T0.out.below (Below.refl _ _).drew).l LF.out (by omega) (by omega) HX.out.n)
  rw [hPF] at CL
  dsimp only at CL
  have T0d := hide (T0.out.below (Below.refl _ _).drew)
  go_upto_region 15 with fail
  refine wp_region_held_drew (S := fun v => v.cell? ⟨gb, 3, none⟩ = some (.int .i64 xn)) (by kernel_rfl) c3 (fun hHeld => ?_)
  refine held_take (i := 0) (d := (some 67)) (v := ?_) rfl rfl (by kernel_rfl) (by kernel_rfl) (by kernel_rfl) (fun _ _ _ h => h) (Or.inl ⟨by rfl, ?_⟩) (by first | assumption | rfl | trivial) ?_
  rotate_left 1
  · (intro w hSw; (try dsimp only at hSw); (try subst hSw); go_simp; try with_reducible rfl)
  simp only [Act.put, List.setIfInBounds_toArray, List.set_cons_zero, List.set_cons_succ]
  refine held_take (i := 1) (d := (some 68)) (v := ?_) rfl rfl (by kernel_rfl) (by kernel_rfl) (by kernel_rfl) (fun _ _ _ h => h) (Or.inl ⟨by rfl, ?_⟩) (by first | assumption | rfl | trivial) ?_
  rotate_left 1
  · (intro w hSw; (try dsimp only at hSw); (try subst hSw); go_simp; try with_reducible rfl)
  simp only [Act.put, List.setIfInBounds_toArray, List.set_cons_zero, List.set_cons_succ]
  refine held_take (i := 2) (d := (some 69)) (v := ?_) rfl rfl (by kernel_rfl) (by kernel_rfl) (by kernel_rfl) (fun _ _ _ h => h) (Or.inl ⟨by rfl, ?_⟩) (by first | assumption | rfl | trivial) ?_
  rotate_left 1
  · (intro w hSw; (try dsimp only at hSw); (try subst hSw); go_simp; try with_reducible rfl)
  simp only [Act.put, List.setIfInBounds_toArray, List.set_cons_zero, List.set_cons_succ]
  refine held_take (i := 3) (d := (some 70)) (v := ?_) rfl rfl (by kernel_rfl) (by kernel_rfl) (by kernel_rfl) (fun _ _ _ h => h) (Or.inl ⟨by rfl, ?_⟩) (by first | assumption | rfl | trivial) ?_
  rotate_left 1
  · (intro w hSw; (try dsimp only at hSw); (try subst hSw); go_simp; try with_reducible rfl)
  simp only [Act.put, List.setIfInBounds_toArray, List.set_cons_zero, List.set_cons_succ]
  refine held_take (i := 4) (d := (some 71)) (v := ?_) rfl rfl (by kernel_rfl) (by kernel_rfl) (by kernel_rfl) (fun _ _ _ h => h) (Or.inl ⟨by rfl, ?_⟩) (by first | assumption | rfl | trivial) ?_
  rotate_left 1
  · (intro w hSw; (try dsimp only at hSw); (try subst hSw); go_simp; try with_reducible rfl)
  simp only [Act.put, List.setIfInBounds_toArray, List.set_cons_zero, List.set_cons_succ]
  refine held_take (i := 5) (d := (some 72)) (v := ?_) rfl rfl (by kernel_rfl) (by kernel_rfl) (by kernel_rfl) (fun _ _ _ h => h) (Or.inl ⟨by rfl, ?_⟩) (by first | assumption | rfl | trivial) ?_
  rotate_left 1
  · (intro w hSw; (try dsimp only at hSw); (try subst hSw); go_simp; try with_reducible rfl)
  simp only [Act.put, List.setIfInBounds_toArray, List.set_cons_zero, List.set_cons_succ]
  refine held_take (i := 7) (d := (some 74)) (v := ?_) rfl rfl (by kernel_rfl) (by kernel_rfl) (by kernel_rfl) (fun _ _ _ h => h) (Or.inl ⟨by rfl, ?_⟩) (by first | assumption | rfl | trivial) ?_
  rotate_left 1
  · (intro w hSw; (try dsimp only at hSw); (try subst hSw); go_simp; try with_reducible rfl)
  simp only [Act.put, List.setIfInBounds_toArray, List.set_cons_zero, List.set_cons_succ]
  refine held_take (i := 8) (d := (some 75)) (v := ?_) rfl rfl (by kernel_rfl) (by kernel_rfl) (by kernel_rfl) (fun _ _ _ h => h) (Or.inl ⟨by rfl, ?_⟩) (by first | assumption | rfl | trivial) ?_
  rotate_left 1
  · (intro w hSw; (try dsimp only at hSw); (try subst hSw); go_simp; try with_reducible rfl)
  simp only [Act.put, List.setIfInBounds_toArray, List.set_cons_zero, List.set_cons_succ]
  refine held_take (i := 9) (d := (some 76)) (v := ?_) rfl rfl (by kernel_rfl) (by kernel_rfl) (by kernel_rfl) (fun _ _ _ h => h) (Or.inl ⟨by rfl, ?_⟩) (by first | assumption | rfl | trivial) ?_
  rotate_left 1
  · (intro w hSw; (try dsimp only at hSw); (try subst hSw); go_simp; try with_reducible rfl)
  simp only [Act.put, List.setIfInBounds_toArray, List.set_cons_zero, List.set_cons_succ]
  refine held_take (i := 10) (d := (some 77)) (v := ?_) rfl rfl (by kernel_rfl) (by kernel_rfl) (by kernel_rfl) (fun _ _ _ h => h) (Or.inl ⟨by rfl, ?_⟩) (by first | assumption | rfl | trivial) ?_
  rotate_left 1
  · (intro w hSw; (try dsimp only at hSw); (try subst hSw); go_simp; try with_reducible rfl)
  simp only [Act.put, List.setIfInBounds_toArray, List.set_cons_zero, List.set_cons_succ]
  refine held_next (i := 6) (by kernel_rfl) rfl (by rfl) (fun K1 hK1 => ?_)
  go_simp
  with_reducible refine CL.out.mono ?_
  rintro e u1 ⟨rfl, st⟩
  obtain ⟨⟨S1, t1, hS1⟩, k1⟩ := T0d.out.leftC st
  have K0 : Ch S W0 u1 := ((Ch.of_below (Below.refl W0.heap.size W0).drew).more (fun _ _ h => h.elim)).trans k1
  have x3 := (BX.out u1 S K0 NS.out).2.2.2.1
  have HK0 := hide K0
  have CR := hide (rcut_any h T G s xn m u1 t1.r LG.out (by omega) (by omega) HX.out.n)
  rw [hPG] at CR
  dsimp only at CR
  have T1 := hide t1
  clear st t1 k1 hS1 CL T0 T0d c0 c1 c2 c4 c5 K0
  go_wp2_with fail
  refine hK1.out _ _ x3 ?_
  clear hK1
  refine held_next (i := 11) (by kernel_rfl) rfl (by rfl) (fun K1 hK1 => ?_)
  go_simp
  with_reducible refine CR.out.mono ?_
  rintro e u2 ⟨rfl, st⟩
  obtain ⟨⟨T2, t2, -⟩, k2⟩ := T1.out.rightC st
  have x4 := (BX.out u2 (fun j => S j ∨ T j) ((HK0.out.more (fun _ _ h => Or.inl h)).trans (k2.more (fun _ _ h => Or.inr h))) (fun h => h.elim NS.out NT.out)).2.2.2.1
  have FIN := hide (doP_of EF.out EG.out t2.two)
  clear st t2 k2 CR T1 HK0 BX
  go_wp2_with fail
  refine hK1.out _ _ x4 ?_
  clear hK1
  refine held_take (i := 12) (d := (some 79)) (v := ?_) rfl rfl (by kernel_rfl) (by kernel_rfl) (by kernel_rfl) (fun _ _ _ h => h) (Or.inl ⟨by rfl, ?_⟩) (by first | assumption | rfl | trivial) ?_
  rotate_left 1
  · (intro w hSw; (try dsimp only at hSw); (try subst hSw); go_simp; try with_reducible rfl)
  simp only [Act.put, List.setIfInBounds_toArray, List.set_cons_zero, List.set_cons_succ]
  refine held_take (i := 13) (d := (some 6)) (v := ?_) rfl rfl (by kernel_rfl) (by kernel_rfl) (by kernel_rfl) (fun _ _ _ h => h) (Or.inl ⟨by rfl, ?_⟩) (by first | assumption | rfl | trivial) ?_
  rotate_left 1
  · (intro w hSw; (try dsimp only at hSw); (try subst hSw); go_simp; try with_reducible rfl)
  simp only [Act.put, List.setIfInBounds_toArray, List.set_cons_zero, List.set_cons_succ]
  refine held_take (i := 14) (d := (some 7)) (v := ?_) rfl rfl (by kernel_rfl) (by kernel_rfl) (by kernel_rfl) (fun _ _ _ h => h) (Or.inl ⟨by rfl, ?_⟩) (by first | assumption | rfl | trivial) ?_
  rotate_left 1
  · (intro w hSw; (try dsimp only at hSw); (try subst hSw); go_simp; try with_reducible rfl)
  simp only [Act.put, List.setIfInBounds_toArray, List.set_cons_zero, List.set_cons_succ]
  refine held_take (i := 15) (d := (some 8)) (v := ?_) rfl rfl (by kernel_rfl) (by kernel_rfl) (by kernel_rfl) (fun _ _ _ h => h) (Or.inl ⟨by rfl, ?_⟩) (by first | assumption | rfl | trivial) ?_
  rotate_left 1
  · (intro w hSw; (try dsimp only at hSw); (try subst hSw); go_simp; try with_reducible rfl)
  simp only [Act.put, List.setIfInBounds_toArray, List.set_cons_zero, List.set_cons_succ]
  clear hHeld
  refine wpAnyH_done (by kernel_rfl) ?_ _
  go_wp2
  refine bodyPost_ret (v := .tuple #[.pointer (some ⟨g, 0, none⟩), .pointer (some ⟨h, 0, none⟩), .bool (eL == eR)]) (by simp [results, Tryz.results8, go_sem]) rfl ?_
  exact FIN.out

set_option maxHeartbeats 8000000 in
theorem do5_any (w u : World) (g h : Nat) (F G : Fs) (m : Nat) (x : OpV) (ht : TwoV w.heap.size w u g h F G) (hF : LimB m F) (hG : LimB m G) (hm : m ≤ 400000000) (hx : OpW w x) (hd : x.data.length ≤ 500) (hk : x.k % 10 = 5) :
    Calls Tryz.prog 8 #[.pointer (some ⟨g, 0, none⟩), .pointer (some ⟨h, 0, none⟩), .agg #[.int .i64 x.k, .int .i64 x.a, .int .i64 x.b, .int .i64 x.n, .slice x.d.1 x.d.2.1 x.d.2.2, .slice x.p.1 x.p.2.1 x.p.2.2]] u fun e u' => DoP w F G x g h e u' := by
  obtain ⟨S, T, t⟩ := ht
  have NM := hide (fun u => name_any x.a u hx.a)
  have PL := hide (fun u => place_any x.k 10 (by omega) (by omega) u)
  rw [hk] at PL
  obtain ⟨s, hs⟩ : ∃ s, nmAt (x.a % 8).toNat = s := ⟨_, rfl⟩
  have hss : s.size ≤ 70 := by rw [← hs]; exact nmAt_size _
  rw [hs] at NM
  have NB := hide (fun u => name_any x.b u hx.b)
  obtain ⟨tn, htn⟩ : ∃ t, nmAt (x.b % 8).toNat = t := ⟨_, rfl⟩
  have htt : tn.size ≤ 70 := by rw [← htn]; exact nmAt_size _
  rw [htn] at NB
  have EA : ∀ X : Fs, opF X (callV x) = renameF X s tn := fun X => by
    have e : (callV x).k = 5 := by show (x.k % 10).toNat = _; rw [hk]; rfl
    unfold opF
    rw [if_neg (show ¬ ((callV x).k = 0) by omega)]
    rw [if_neg (show ¬ ((callV x).k = 1 ∨ (callV x).k = 2) by omega)]
    rw [if_neg (show ¬ ((callV x).k = 3) by omega)]
    rw [if_neg (show ¬ ((callV x).k = 4) by omega)]
    rw [if_pos (show (callV x).k = 5 by omega)]
    rw [← hs, ← htn]; rfl
  rcases hPF : renameF F s tn with ⟨XF, eL⟩
  rcases hPG : renameF G s tn with ⟨XG, eR⟩
  have EF := hide ((EA F).trans hPF)
  have EG := hide ((EA G).trans hPG)
  have LF := hide hF.lim
  have LG := hide hG.lim
  have HX := hide hx
  obtain ⟨xk, xa, xb, xn, ⟨da, dn, dc⟩, ⟨pa, pn, pc⟩, data, picks⟩ := x
  dsimp only at NM PL hPF hPG NB ⊢
  obtain ⟨W0, hW0⟩ : ∃ W0, u.alloc (.cells #[.int .i64 xk, .int .i64 xa, .int .i64 xb, .int .i64 xn, .slice da dn dc, .slice pa pn pc] 36) = W0 := ⟨_, rfl⟩
  have B0 : Below u.heap.size u W0 := by rw [← hW0]; exact (Below.refl _ _).alloc (Nat.le_refl _) _
  have T0 := hide (t.below B0)
  have BX := hide (fun (v : World) (C : Nat → Prop) (c : Ch C W0 v) (hn : ¬ C u.heap.size) => box_keep (d := (da, dn, dc)) (p := (pa, pn, pc)) hW0 c hn)
  have NS : Hid (¬ S u.heap.size) := fun h => by have := t.l.lt _ h; omega
  have NT : Hid (¬ T u.heap.size) := fun h => by have := t.r.lt _ h; omega
  obtain ⟨c0, c1, c2, c3, c4, c5⟩ := BX.out W0 (fun _ => False) (Ch.refl _ _) id
  dsimp only at c4 c5
  have HW0 := hide hW0
  obtain ⟨gb, hgb⟩ : ∃ gb, u.heap.size = gb := ⟨_, rfl⟩
  rw [hgb] at c0 c1 c2 c3 c4 c5 BX NS NT
  have HGB := hide hgb
  clear hW0 t B0 hgb hk hx hF hG hs htn
  go_enter Tryz.func8, Tryz.ntmps8
  go_upto_region 1 with fail
  rw [HW0.out, HGB.out]
  clear HW0 HGB
  go_wp2_with fail
  with_reducible refine (NM.out _).mono ?_
  rintro e v ⟨rfl, hv⟩
  rw [hv]
  clear hv NM
  go_wp2_with fail
  with_reducible refine (PL.out _).mono ?_
  rintro e v ⟨rfl, hv⟩
  rw [hv]
  clear hv PL
  have CL := hide (lrename_any g S F s tn m W0.drew (T0.out.below (Below.refl _ _).drew).l LF.out (by omega) (by omega) (by omega))
  rw [hPF] at CL
  dsimp only at CL
  have T0d := hide (T0.out.below (Below.refl _ _).drew)
  go_upto_region 19 with fail
  refine wp_region_held_drew (S := fun v => v.cell? ⟨gb, 2, none⟩ = some (.int .i64 xb)) (by kernel_rfl) c2 (fun hHeld => ?_)
  refine held_take (i := 0) (d := (some 93)) (v := ?_) rfl rfl (by kernel_rfl) (by kernel_rfl) (by kernel_rfl) (fun _ _ _ h => h) (Or.inl ⟨by rfl, ?_⟩) (by first | assumption | rfl | trivial) ?_
  rotate_left 1
  · (intro w hSw; (try dsimp only at hSw); (try subst hSw); go_simp; try with_reducible rfl)
  simp only [Act.put, List.setIfInBounds_toArray, List.set_cons_zero, List.set_cons_succ]
  refine held_take (i := 1) (d := (some 94)) (v := ?_) rfl rfl (by kernel_rfl) (by kernel_rfl) (by kernel_rfl) (fun _ _ _ h => h) (Or.inl ⟨by rfl, ?_⟩) (by first | assumption | rfl | trivial) ?_
  rotate_left 1
  · (intro w hSw; (try dsimp only at hSw); (try subst hSw); go_simp; try with_reducible rfl)
  simp only [Act.put, List.setIfInBounds_toArray, List.set_cons_zero, List.set_cons_succ]
  refine held_take (i := 2) (d := (some 95)) (v := ?_) rfl rfl (by kernel_rfl) (by kernel_rfl) (by kernel_rfl) (fun _ _ _ h => h) (Or.inl ⟨by rfl, ?_⟩) (by first | assumption | rfl | trivial) ?_
  rotate_left 1
  · (intro w hSw; (try dsimp only at hSw); (try subst hSw); go_simp; try with_reducible rfl)
  simp only [Act.put, List.setIfInBounds_toArray, List.set_cons_zero, List.set_cons_succ]
  refine held_take (i := 3) (d := (some 96)) (v := ?_) rfl rfl (by kernel_rfl) (by kernel_rfl) (by kernel_rfl) (fun _ _ _ h => h) (Or.inl ⟨by rfl, ?_⟩) (by first | assumption | rfl | trivial) ?_
  rotate_left 1
  · (intro w hSw; (try dsimp only at hSw); (try subst hSw); go_simp; try with_reducible rfl)
  simp only [Act.put, List.setIfInBounds_toArray, List.set_cons_zero, List.set_cons_succ]
  refine held_take (i := 4) (d := (some 97)) (v := ?_) rfl rfl (by kernel_rfl) (by kernel_rfl) (by kernel_rfl) (fun _ _ _ h => h) (Or.inl ⟨by rfl, ?_⟩) (by first | assumption | rfl | trivial) ?_
  rotate_left 1
  · (intro w hSw; (try dsimp only at hSw); (try subst hSw); go_simp; try with_reducible rfl)
  simp only [Act.put, List.setIfInBounds_toArray, List.set_cons_zero, List.set_cons_succ]
  refine held_take (i := 5) (d := (some 98)) (v := ?_) rfl rfl (by kernel_rfl) (by kernel_rfl) (by kernel_rfl) (fun _ _ _ h => h) (Or.inl ⟨by rfl, ?_⟩) (by first | assumption | rfl | trivial) ?_
  rotate_left 1
  · (intro w hSw; (try dsimp only at hSw); (try subst hSw); go_simp; try with_reducible rfl)
  simp only [Act.put, List.setIfInBounds_toArray, List.set_cons_zero, List.set_cons_succ]
  refine held_take (i := 8) (d := (some 101)) (v := ?_) rfl rfl (by kernel_rfl) (by kernel_rfl) (by kernel_rfl) (fun _ _ _ h => h) (Or.inl ⟨by rfl, ?_⟩) (by first | assumption | rfl | trivial) ?_
  rotate_left 1
  · (intro w hSw; (try dsimp only at hSw); (try subst hSw); go_simp; try with_reducible rfl)
  simp only [Act.put, List.setIfInBounds_toArray, List.set_cons_zero, List.set_cons_succ]
  refine held_take (i := 9) (d := (some 102)) (v := ?_) rfl rfl (by kernel_rfl) (by kernel_rfl) (by kernel_rfl) (fun _ _ _ h => h) (Or.inl ⟨by rfl, ?_⟩) (by first | assumption | rfl | trivial) ?_
  rotate_left 1
  · (intro w hSw; (try dsimp only at hSw); (try subst hSw); go_simp; try with_reducible rfl)
  simp only [Act.put, List.setIfInBounds_toArray, List.set_cons_zero, List.set_cons_succ]
  refine held_take (i := 10) (d := (some 103)) (v := ?_) rfl rfl (by kernel_rfl) (by kernel_rfl) (by kernel_rfl) (fun _ _ _ h => h) (Or.inl ⟨by rfl, ?_⟩) (by first | assumption | rfl | trivial) ?_
  rotate_left 1
  · (intro w hSw; (try dsimp only at hSw); (try subst hSw); go_simp; try with_reducible rfl)
  simp only [Act.put, List.setIfInBounds_toArray, List.set_cons_zero, List.set_cons_succ]
  refine held_take (i := 11) (d := (some 104)) (v := ?_) rfl rfl (by kernel_rfl) (by kernel_rfl) (by kernel_rfl) (fun _ _ _ h => h) (Or.inl ⟨by rfl, ?_⟩) (by first | assumption | rfl | trivial) ?_
  rotate_left 1
  · (intro w hSw; (try dsimp only at hSw); (try subst hSw); go_simp; try with_reducible rfl)
  simp only [Act.put, List.setIfInBounds_toArray, List.set_cons_zero, List.set_cons_succ]
  refine held_next (i := 6) (by kernel_rfl) rfl (by rfl) (fun K1 hK1 => ?_)
  go_simp
  with_reducible refine (NB.out _).mono ?_
  rintro e v ⟨rfl, hv⟩
  rw [hv]
  clear hv
  go_wp2_with fail
  refine hK1.out _ _ c2 ?_
  clear hK1
  refine held_next (i := 7) (by kernel_rfl) rfl (by rfl) (fun K1 hK1 => ?_)
  go_simp
  with_reducible refine CL.out.mono ?_
  rintro e u1 ⟨rfl, st⟩
  obtain ⟨⟨S1, t1, hS1⟩, k1⟩ := T0d.out.leftC st
  have K0 : Ch S W0 u1 := ((Ch.of_below (Below.refl W0.heap.size W0).drew).more (fun _ _ h => h.elim)).trans k1
  have x3 := (BX.out u1 S K0 NS.out).2.2.1
  have HK0 := hide K0
  have CR := hide (rrename_any h T G s tn m u1 t1.r LG.out (by omega) (by omega) (by omega))
  rw [hPG] at CR
  dsimp only at CR
  have T1 := hide t1
  clear st t1 k1 hS1 CL T0 T0d c0 c1 c3 c4 c5 K0
  go_wp2_with fail
  refine hK1.out _ _ x3 ?_
  clear hK1
  refine held_next (i := 12) (by kernel_rfl) rfl (by rfl) (fun K1 hK1 => ?_)
  go_simp
  with_reducible refine (NB.out _).mono ?_
  rintro e v ⟨rfl, hv⟩
  rw [hv]
  clear hv
  go_wp2_with fail
  refine hK1.out _ _ x3 ?_
  clear hK1
  refine held_next (i := 13) (by kernel_rfl) rfl (by rfl) (fun K1 hK1 => ?_)
  go_simp
  with_reducible refine CR.out.mono ?_
  rintro e u2 ⟨rfl, st⟩
  obtain ⟨⟨T2, t2, -⟩, k2⟩ := T1.out.rightC st
  have x4 := (BX.out u2 (fun j => S j ∨ T j) ((HK0.out.more (fun _ _ h => Or.inl h)).trans (k2.more (fun _ _ h => Or.inr h))) (fun h => h.elim NS.out NT.out)).2.2.1
  have FIN := hide (doP_of EF.out EG.out t2.two)
  clear st t2 k2 CR T1 HK0 BX
  go_wp2_with fail
  refine hK1.out _ _ x4 ?_
  clear hK1
  refine held_take (i := 14) (d := (some 107)) (v := ?_) rfl rfl (by kernel_rfl) (by kernel_rfl) (by kernel_rfl) (fun _ _ _ h => h) (Or.inl ⟨by rfl, ?_⟩) (by first | assumption | rfl | trivial) ?_
  rotate_left 1
  · (intro w hSw; (try dsimp only at hSw); (try subst hSw); go_simp; try with_reducible rfl)
  simp only [Act.put, List.setIfInBounds_toArray, List.set_cons_zero, List.set_cons_succ]
  refine held_take (i := 15) (d := (some 6)) (v := ?_) rfl rfl (by kernel_rfl) (by kernel_rfl) (by kernel_rfl) (fun _ _ _ h => h) (Or.inl ⟨by rfl, ?_⟩) (by first | assumption | rfl | trivial) ?_
  rotate_left 1
  · (intro w hSw; (try dsimp only at hSw); (try subst hSw); go_simp; try with_reducible rfl)
  simp only [Act.put, List.setIfInBounds_toArray, List.set_cons_zero, List.set_cons_succ]
  refine held_take (i := 16) (d := (some 7)) (v := ?_) rfl rfl (by kernel_rfl) (by kernel_rfl) (by kernel_rfl) (fun _ _ _ h => h) (Or.inl ⟨by rfl, ?_⟩) (by first | assumption | rfl | trivial) ?_
  rotate_left 1
  · (intro w hSw; (try dsimp only at hSw); (try subst hSw); go_simp; try with_reducible rfl)
  simp only [Act.put, List.setIfInBounds_toArray, List.set_cons_zero, List.set_cons_succ]
  refine held_take (i := 17) (d := (some 8)) (v := ?_) rfl rfl (by kernel_rfl) (by kernel_rfl) (by kernel_rfl) (fun _ _ _ h => h) (Or.inl ⟨by rfl, ?_⟩) (by first | assumption | rfl | trivial) ?_
  rotate_left 1
  · (intro w hSw; (try dsimp only at hSw); (try subst hSw); go_simp; try with_reducible rfl)
  simp only [Act.put, List.setIfInBounds_toArray, List.set_cons_zero, List.set_cons_succ]
  clear hHeld
  refine wpAnyH_done (by kernel_rfl) ?_ _
  go_wp2
  refine bodyPost_ret (v := .tuple #[.pointer (some ⟨g, 0, none⟩), .pointer (some ⟨h, 0, none⟩), .bool (eL == eR)]) (by simp [results, Tryz.results8, go_sem]) rfl ?_
  exact FIN.out
theorem arm_ix0 : ∀ v : World, (Instr.index 70 (.agg #[.int .i64 0, .int .i64 14, .int .i64 15, .int .i64 1]) (.int .i64 ((0 : Nat) : Int))).run Tryz.prog v = .ok (.int .i64 (armK 0)) v := fun _ => by kernel_rfl
theorem arm_ix1 : ∀ v : World, (Instr.index 70 (.agg #[.int .i64 0, .int .i64 14, .int .i64 15, .int .i64 1]) (.int .i64 ((1 : Nat) : Int))).run Tryz.prog v = .ok (.int .i64 (armK 1)) v := fun _ => by kernel_rfl
theorem arm_ix2 : ∀ v : World, (Instr.index 70 (.agg #[.int .i64 0, .int .i64 14, .int .i64 15, .int .i64 1]) (.int .i64 ((2 : Nat) : Int))).run Tryz.prog v = .ok (.int .i64 (armK 2)) v := fun _ => by kernel_rfl
theorem arm_ix3 : ∀ v : World, (Instr.index 70 (.agg #[.int .i64 0, .int .i64 14, .int .i64 15, .int .i64 1]) (.int .i64 ((3 : Nat) : Int))).run Tryz.prog v = .ok (.int .i64 (armK 3)) v := fun _ => by kernel_rfl

set_option maxHeartbeats 8000000 in
theorem do8_any (w u : World) (g h : Nat) (F G : Fs) (m : Nat) (x : OpV) (ht : TwoV w.heap.size w u g h F G) (hF : LimB m F) (hG : LimB m G) (hm : m ≤ 400000000) (hx : OpW w x) (hd : x.data.length ≤ 500) (hk : x.k % 10 = 8) :
    Calls Tryz.prog 8 #[.pointer (some ⟨g, 0, none⟩), .pointer (some ⟨h, 0, none⟩), .agg #[.int .i64 x.k, .int .i64 x.a, .int .i64 x.b, .int .i64 x.n, .slice x.d.1 x.d.2.1 x.d.2.2, .slice x.p.1 x.p.2.1 x.p.2.2]] u fun e u' => DoP w F G x g h e u' := by
  obtain ⟨S, T, t⟩ := ht
  have NM := hide (fun u => name_any x.a u hx.a)
  have PL := hide (fun u => place_any x.k 10 (by omega) (by omega) u)
  rw [hk] at PL
  obtain ⟨s, hs⟩ : ∃ s, nmAt (x.a % 8).toNat = s := ⟨_, rfl⟩
  have hss : s.size ≤ 70 := by rw [← hs]; exact nmAt_size _
  rw [hs] at NM
  obtain ⟨q, hq, hq4⟩ : ∃ q : Nat, x.b % 4 = (q : Int) ∧ q < 4 := by
    have q1 := Int.emod_nonneg x.b (show (4 : Int) ≠ 0 by omega)
    have q2 := Int.emod_lt_of_pos x.b (show (0 : Int) < 4 by omega)
    exact ⟨(x.b % 4).toNat, by omega, by omega⟩
  have P4 := hide (fun u => place_any x.b 4 (by omega) (by omega) u)
  rw [hq] at P4
  have ix : ∀ v : World, (Instr.index 70 (.agg #[.int .i64 0, .int .i64 14, .int .i64 15, .int .i64 1]) (.int .i64 (q : Int))).run Tryz.prog v = .ok (.int .i64 (armK q)) v := by
    intro v
    match q, hq4 with
    | 0, _ => exact arm_ix0 v
    | 1, _ => exact arm_ix1 v
    | 2, _ => exact arm_ix2 v
    | 3, _ => exact arm_ix3 v
  have hak := armK_wf q hq4
  have hqq : armK (x.b % 4).toNat = armK q := by rw [hq]; rfl
  obtain ⟨ak, hakq⟩ : ∃ ak, armK q = ak := ⟨_, rfl⟩
  rw [hakq] at ix hak hqq
  have HAK := hide hak
  have EA : ∀ X : Fs, opF X (callV x) = armF X ak x.n := fun X => by
    have e : (callV x).k = 8 := by show (x.k % 10).toNat = _; rw [hk]; rfl
    unfold opF
    rw [if_neg (show ¬ ((callV x).k = 0) by omega)]
    rw [if_neg (show ¬ ((callV x).k = 1 ∨ (callV x).k = 2) by omega)]
    rw [if_neg (show ¬ ((callV x).k = 3) by omega)]
    rw [if_neg (show ¬ ((callV x).k = 4) by omega)]
    rw [if_neg (show ¬ ((callV x).k = 5) by omega)]
    rw [if_neg (show ¬ ((callV x).k = 6) by omega)]
    rw [if_neg (show ¬ ((callV x).k = 7) by omega)]
    rw [if_pos (show (callV x).k = 8 by omega)]
    rw [← hqq]; rfl
  rcases hPF : armF F ak x.n with ⟨XF, eL⟩
  rcases hPG : armF G ak x.n with ⟨XG, eR⟩
  have EF := hide ((EA F).trans hPF)
  have EG := hide ((EA G).trans hPG)
  have LF := hide hF.lim
  have LG := hide hG.lim
  have HX := hide hx
  obtain ⟨xk, xa, xb, xn, ⟨da, dn, dc⟩, ⟨pa, pn, pc⟩, data, picks⟩ := x
  dsimp only at NM PL hPF hPG P4 ⊢
  obtain ⟨W0, hW0⟩ : ∃ W0, u.alloc (.cells #[.int .i64 xk, .int .i64 xa, .int .i64 xb, .int .i64 xn, .slice da dn dc, .slice pa pn pc] 36) = W0 := ⟨_, rfl⟩
  have B0 : Below u.heap.size u W0 := by rw [← hW0]; exact (Below.refl _ _).alloc (Nat.le_refl _) _
  have T0 := hide (t.below B0)
  have BX := hide (fun (v : World) (C : Nat → Prop) (c : Ch C W0 v) (hn : ¬ C u.heap.size) => box_keep (d := (da, dn, dc)) (p := (pa, pn, pc)) hW0 c hn)
  have NS : Hid (¬ S u.heap.size) := fun h => by have := t.l.lt _ h; omega
  have NT : Hid (¬ T u.heap.size) := fun h => by have := t.r.lt _ h; omega
  obtain ⟨c0, c1, c2, c3, c4, c5⟩ := BX.out W0 (fun _ => False) (Ch.refl _ _) id
  dsimp only at c4 c5
  have HW0 := hide hW0
  obtain ⟨gb, hgb⟩ : ∃ gb, u.heap.size = gb := ⟨_, rfl⟩
  rw [hgb] at c0 c1 c2 c3 c4 c5 BX NS NT
  have HGB := hide hgb
  clear hW0 t B0 hgb hk hx hF hG hs hqq hakq hak hq
  go_enter Tryz.func8, Tryz.ntmps8
  go_upto_region 1 with fail
  rw [HW0.out, HGB.out]
  clear HW0 HGB
  go_wp2_with fail
  with_reducible refine (NM.out _).mono ?_
  rintro e v ⟨rfl, hv⟩
  rw [hv]
  clear hv NM
  go_wp2_with fail
  with_reducible refine (PL.out _).mono ?_
  rintro e v ⟨rfl, hv⟩
  rw [hv]
  clear hv PL
  go_wp2_with fail
  with_reducible refine (P4.out _).mono ?_
  rintro e v ⟨rfl, hv⟩
  rw [hv]
  clear hv P4
  have CL := hide (larm_any g S F ak xn W0.drew (T0.out.below (Below.refl _ _).drew).l HAK.out HX.out.n)
  rw [hPF] at CL
  dsimp only at CL
  have T0d := hide (T0.out.below (Below.refl _ _).drew)
  go_upto_region 26 with fail
  refine wp_region_held_drew (S := fun v => v.cell? ⟨gb, 3, none⟩ = some (.int .i64 xn)) (by kernel_rfl) c3 (fun hHeld => ?_)
  refine held_take (i := 0) (d := (some 135)) (v := ?_) rfl rfl (by kernel_rfl) (by kernel_rfl) (by kernel_rfl) (fun _ _ _ h => h) (Or.inl ⟨by rfl, ?_⟩) (by first | assumption | rfl | trivial) ?_
  rotate_left 1
  · (intro w hSw; (try dsimp only at hSw); (try subst hSw); go_simp; try with_reducible rfl)
  simp only [Act.put, List.setIfInBounds_toArray, List.set_cons_zero, List.set_cons_succ]
  refine held_take (i := 1) (d := (some 136)) (v := ?_) rfl rfl (by kernel_rfl) (by kernel_rfl) (by kernel_rfl) (fun _ _ _ h => h) (Or.inl ⟨by rfl, ?_⟩) (by first | assumption | rfl | trivial) ?_
  rotate_left 1
  · (intro w hSw; (try dsimp only at hSw); (try subst hSw); go_simp; try with_reducible rfl)
  simp only [Act.put, List.setIfInBounds_toArray, List.set_cons_zero, List.set_cons_succ]
  refine held_take (i := 2) (d := (some 137)) (v := ?_) rfl rfl (by kernel_rfl) (by kernel_rfl) (by kernel_rfl) (fun _ _ _ h => h) (Or.inl ⟨by rfl, ?_⟩) (by first | assumption | rfl | trivial) ?_
  rotate_left 1
  · (intro w hSw; (try dsimp only at hSw); (try subst hSw); go_simp; try with_reducible rfl)
  simp only [Act.put, List.setIfInBounds_toArray, List.set_cons_zero, List.set_cons_succ]
  refine held_take (i := 3) (d := (some 138)) (v := ?_) rfl rfl (by kernel_rfl) (by kernel_rfl) (by kernel_rfl) (fun _ _ _ h => h) (Or.inl ⟨by rfl, ?_⟩) (by first | assumption | rfl | trivial) ?_
  rotate_left 1
  · (intro w hSw; (try dsimp only at hSw); (try subst hSw); go_simp; try with_reducible rfl)
  simp only [Act.put, List.setIfInBounds_toArray, List.set_cons_zero, List.set_cons_succ]
  refine held_take (i := 4) (d := (some 139)) (v := ?_) rfl rfl (by kernel_rfl) (by kernel_rfl) (by kernel_rfl) (fun _ _ _ h => h) (Or.inl ⟨by rfl, ?_⟩) (by first | assumption | rfl | trivial) ?_
  rotate_left 1
  · (intro w hSw; (try dsimp only at hSw); (try subst hSw); go_simp; try with_reducible rfl)
  simp only [Act.put, List.setIfInBounds_toArray, List.set_cons_zero, List.set_cons_succ]
  refine held_take (i := 5) (d := (some 140)) (v := ?_) rfl rfl (by kernel_rfl) (by kernel_rfl) (by kernel_rfl) (fun _ _ _ h => h) (Or.inl ⟨by rfl, ?_⟩) (by first | assumption | rfl | trivial) ?_
  rotate_left 1
  · (intro w hSw; (try dsimp only at hSw); (try subst hSw); go_simp; try with_reducible rfl)
  simp only [Act.put, List.setIfInBounds_toArray, List.set_cons_zero, List.set_cons_succ]
  refine held_take (i := 7) (d := (some 142)) (v := ?_) rfl rfl (by kernel_rfl) (by kernel_rfl) (by kernel_rfl) (fun _ _ _ h => h) (Or.inl ⟨by rfl, ?_⟩) (by first | assumption | rfl | trivial) ?_
  rotate_left 1
  · (intro w hSw; (try dsimp only at hSw); (try subst hSw); go_simp; try with_reducible rfl)
  simp only [Act.put, List.setIfInBounds_toArray, List.set_cons_zero, List.set_cons_succ]
  refine held_take (i := 8) (d := (some 143)) (v := ?_) rfl rfl (by kernel_rfl) (by kernel_rfl) (by kernel_rfl) (fun _ _ _ h => h) (Or.inl ⟨by rfl, ?_⟩) (by first | assumption | rfl | trivial) ?_
  rotate_left 1
  · (intro w hSw; (try dsimp only at hSw); (try subst hSw); go_simp; try with_reducible rfl)
  simp only [Act.put, List.setIfInBounds_toArray, List.set_cons_zero, List.set_cons_succ]
  refine held_take (i := 9) (d := (some 144)) (v := ?_) rfl rfl (by kernel_rfl) (by kernel_rfl) (by kernel_rfl) (fun _ _ _ h => h) (Or.inl ⟨by rfl, ?_⟩) (by first | assumption | rfl | trivial) ?_
  rotate_left 1
  · (intro w hSw; (try dsimp only at hSw); (try subst hSw); go_simp; try with_reducible rfl)
  simp only [Act.put, List.setIfInBounds_toArray, List.set_cons_zero, List.set_cons_succ]
  refine held_take (i := 10) (d := (some 145)) (v := ?_) rfl rfl (by kernel_rfl) (by kernel_rfl) (by kernel_rfl) (fun _ _ _ h => h) (Or.inl ⟨by rfl, ?_⟩) (by first | assumption | rfl | trivial) ?_
  rotate_left 1
  · (intro w hSw; (try dsimp only at hSw); (try subst hSw); go_simp; try with_reducible rfl)
  simp only [Act.put, List.setIfInBounds_toArray, List.set_cons_zero, List.set_cons_succ]
  refine held_next (i := 6) (by kernel_rfl) rfl (by rfl) (fun K1 hK1 => ?_)
  go_simp
  with_reducible refine CL.out.mono ?_
  rintro e u1 ⟨rfl, st⟩
  obtain ⟨⟨S1, t1, hS1⟩, k1⟩ := T0d.out.leftC st
  have K0 : Ch S W0 u1 := ((Ch.of_below (Below.refl W0.heap.size W0).drew).more (fun _ _ h => h.elim)).trans k1
  have x3 := (BX.out u1 S K0 NS.out).2.2.2.1
  have HK0 := hide K0
  have CR := hide (rarm_any h T G ak xn u1 t1.r HX.out.n)
  rw [hPG] at CR
  dsimp only at CR
  have T1 := hide t1
  clear st t1 k1 hS1 CL T0 T0d c0 c1 c2 c4 c5 K0
  go_wp2_with fail
  refine hK1.out _ _ x3 ?_
  clear hK1
  refine held_next (i := 11) (by kernel_rfl) rfl (by rfl) (fun K1 hK1 => ?_)
  go_simp
  with_reducible refine CR.out.mono ?_
  rintro e u2 ⟨rfl, st⟩
  obtain ⟨⟨T2, t2, -⟩, k2⟩ := T1.out.rightC st
  have x4 := (BX.out u2 (fun j => S j ∨ T j) ((HK0.out.more (fun _ _ h => Or.inl h)).trans (k2.more (fun _ _ h => Or.inr h))) (fun h => h.elim NS.out NT.out)).2.2.2.1
  have FIN := hide (doP_of EF.out EG.out t2.two)
  clear st t2 k2 CR T1 HK0 BX
  go_wp2_with fail
  refine hK1.out _ _ x4 ?_
  clear hK1
  refine held_take (i := 12) (d := (some 147)) (v := ?_) rfl rfl (by kernel_rfl) (by kernel_rfl) (by kernel_rfl) (fun _ _ _ h => h) (Or.inl ⟨by rfl, ?_⟩) (by first | assumption | rfl | trivial) ?_
  rotate_left 1
  · (intro w hSw; (try dsimp only at hSw); (try subst hSw); go_simp; try with_reducible rfl)
  simp only [Act.put, List.setIfInBounds_toArray, List.set_cons_zero, List.set_cons_succ]
  refine held_take (i := 13) (d := (some 6)) (v := ?_) rfl rfl (by kernel_rfl) (by kernel_rfl) (by kernel_rfl) (fun _ _ _ h => h) (Or.inl ⟨by rfl, ?_⟩) (by first | assumption | rfl | trivial) ?_
  rotate_left 1
  · (intro w hSw; (try dsimp only at hSw); (try subst hSw); go_simp; try with_reducible rfl)
  simp only [Act.put, List.setIfInBounds_toArray, List.set_cons_zero, List.set_cons_succ]
  refine held_take (i := 14) (d := (some 7)) (v := ?_) rfl rfl (by kernel_rfl) (by kernel_rfl) (by kernel_rfl) (fun _ _ _ h => h) (Or.inl ⟨by rfl, ?_⟩) (by first | assumption | rfl | trivial) ?_
  rotate_left 1
  · (intro w hSw; (try dsimp only at hSw); (try subst hSw); go_simp; try with_reducible rfl)
  simp only [Act.put, List.setIfInBounds_toArray, List.set_cons_zero, List.set_cons_succ]
  refine held_take (i := 15) (d := (some 8)) (v := ?_) rfl rfl (by kernel_rfl) (by kernel_rfl) (by kernel_rfl) (fun _ _ _ h => h) (Or.inl ⟨by rfl, ?_⟩) (by first | assumption | rfl | trivial) ?_
  rotate_left 1
  · (intro w hSw; (try dsimp only at hSw); (try subst hSw); go_simp; try with_reducible rfl)
  simp only [Act.put, List.setIfInBounds_toArray, List.set_cons_zero, List.set_cons_succ]
  clear hHeld
  refine wpAnyH_done (by kernel_rfl) ?_ _
  go_wp2
  refine bodyPost_ret (v := .tuple #[.pointer (some ⟨g, 0, none⟩), .pointer (some ⟨h, 0, none⟩), .bool (eL == eR)]) (by simp [results, Tryz.results8, go_sem]) rfl ?_
  exact FIN.out
end Go.Proofs.YthlkmjaflomflaaGreat
