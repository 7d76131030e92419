/-
  A call of the laws at both file systems (do): defs, and the calls of one name alone: contracts, for every world (written by gen/vfspb.gen.py).
  Conditions: both lie in memory, apart; the call may be read.
-/
import Derived.Test.YthlkmjaflomflaaGreatVfsPa
import Derived.Test.YthlkmjaflomflaaGreatVfsV
namespace Go.Proofs.YthlkmjaflomflaaGreat
open Go.RowKit Go.Maps
set_option maxRecDepth 20000
set_option linter.unusedVariables false

/-- What a call is armed with. -/
def armK (j : Nat) : Int := [0, 14, 15, 1].getD j 0
theorem armK_wf (j : Nat) (h : j < 4) : (Lit.int .i64 (armK j)).wf = true := by
  have : ∀ j, j < 4 → (Lit.int .i64 (armK j)).wf = true := by decide +kernel
  exact this j h
/-- The call that a script's row names. -/
def callV (x : OpV) : CallV := ⟨(x.k % 10).toNat, nmAt (x.a % 8).toNat, nmAt (x.b % 8).toNat, x.n, armK (x.b % 4).toNat, x.data, x.picks⟩
/-- What do tells. -/
def DoP (w : World) (F G : Fs) (x : OpV) (g h : Nat) (e : Ending) (u' : World) : Prop := ∃ g' h', e = .returned (.tuple #[.pointer (some ⟨g', 0, none⟩), .pointer (some ⟨h', 0, none⟩), .bool ((opF F (callV x)).2 == (opF G (callV x)).2)]) ∧ TwoV w.heap.size w u' g' h' (opF F (callV x)).1 (opF G (callV x)).1 ∧ (x.k % 10 ≠ 9 → g' = g ∧ h' = h)
theorem doP_of {w u' : World} {F G : Fs} {x : OpV} {g h : Nat} {A B : Fs × Int} (eA : opF F (callV x) = A) (eB : opF G (callV x) = B) (t : TwoV w.heap.size w u' g h A.1 B.1) : DoP w F G x g h (.returned (.tuple #[.pointer (some ⟨g, 0, none⟩), .pointer (some ⟨h, 0, none⟩), .bool (A.2 == B.2)])) u' := by
  subst eA eB
  exact ⟨g, h, rfl, t, fun _ => ⟨rfl, rfl⟩⟩
/-- The call's own box: its last four cells, as long as it is left alone. -/
theorem box_keep {u W0 : World} {k a b n : Int} {d p : H3} {e : TypeId} (hW : u.alloc (.cells #[.int .i64 k, .int .i64 a, .int .i64 b, .int .i64 n, .slice d.1 d.2.1 d.2.2, .slice p.1 p.2.1 p.2.2] e) = W0) {v : World} {C : Nat → Prop} (c : Ch C W0 v) (hn : ¬ C u.heap.size) :
    v.cell? ⟨u.heap.size, 0, none⟩ = some (.int .i64 k) ∧ v.cell? ⟨u.heap.size, 1, none⟩ = some (.int .i64 a) ∧ v.cell? ⟨u.heap.size, 2, none⟩ = some (.int .i64 b) ∧ v.cell? ⟨u.heap.size, 3, none⟩ = some (.int .i64 n) ∧ v.cell? ⟨u.heap.size, 4, none⟩ = some (.slice d.1 d.2.1 d.2.2) ∧ v.cell? ⟨u.heap.size, 5, none⟩ = some (.slice p.1 p.2.1 p.2.2) := by
  subst hW
  have h0 := c.block u.heap.size (by simp) hn
  have h1 := h0.trans (heap_alloc_new u _)
  refine ⟨?_, ?_, ?_, ?_, ?_, ?_⟩
  · rw [cell_of_row v u.heap.size 0 _ _ (0, 0) h1]; rfl
  · rw [cell_of_row v u.heap.size 1 _ _ (0, 0) h1]; rfl
  · rw [cell_of_row v u.heap.size 2 _ _ (0, 0) h1]; rfl
  · rw [cell_of_row v u.heap.size 3 _ _ (0, 0) h1]; rfl
  · rw [cell_of_row v u.heap.size 4 _ _ (0, 0) h1]; rfl
  · rw [cell_of_row v u.heap.size 5 _ _ (0, 0) h1]; rfl
theorem TwoA.leftC {base : Nat} {w u v : World} {g h : Nat} {S T : Nat → Prop} {F G X : Fs} (t : TwoA base w u g h S T F G) (s : StepV LAt u v g S X) : (∃ S', TwoA base w v g h S' T X G ∧ ∀ k, S' k → S k ∨ u.heap.size ≤ k) ∧ Ch S u v := by
  refine ⟨t.left s, ?_⟩
  obtain ⟨_, _, _, c⟩ := s
  exact c
theorem TwoA.rightC {base : Nat} {w u v : World} {g h : Nat} {S T : Nat → Prop} {F G X : Fs} (t : TwoA base w u g h S T F G) (s : StepV RAt u v h T X) : (∃ T', TwoA base w v g h S T' F X ∧ ∀ k, T' k → T k ∨ u.heap.size ≤ k) ∧ Ch T u v := by
  refine ⟨t.right s, ?_⟩
  obtain ⟨_, _, _, c⟩ := s
  exact c

set_option maxHeartbeats 8000000 in
theorem do0_any (w u : World) (g h : Nat) (F G : Fs) (m : Nat) (x : OpV) (ht : TwoV w.heap.size w u g h F G) (hF : LimB m F) (hG : LimB m G) (hm : m ≤ 400000000) (hx : OpW w x) (hd : x.data.length ≤ 500) (hk : x.k % 10 = 0) :
    Calls Tryz.prog 8 #[.pointer (some ⟨g, 0, none⟩), .pointer (some ⟨h, 0, none⟩), .agg #[.int .i64 x.k, .int .i64 x.a, .int .i64 x.b, .int .i64 x.n, .slice x.d.1 x.d.2.1 x.d.2.2, .slice x.p.1 x.p.2.1 x.p.2.2]] u fun e u' => DoP w F G x g h e u' := by
  obtain ⟨S, T, t⟩ := ht
  have NM := hide (fun u => name_any x.a u hx.a)
  have PL := hide (fun u => place_any x.k 10 (by omega) (by omega) u)
  rw [hk] at PL
  obtain ⟨s, hs⟩ : ∃ s, nmAt (x.a % 8).toNat = s := ⟨_, rfl⟩
  have hss : s.size ≤ 70 := by rw [← hs]; exact nmAt_size _
  rw [hs] at NM
  have EA : ∀ X : Fs, opF X (callV x) = createF X s := fun X => by
    have e : (callV x).k = 0 := by show (x.k % 10).toNat = _; rw [hk]; rfl
    unfold opF
    rw [if_pos (show (callV x).k = 0 by omega)]
    rw [← hs]; rfl
  rcases hPF : createF F s with ⟨XF, eL⟩
  rcases hPG : createF G s with ⟨XG, eR⟩
  have EF := hide ((EA F).trans hPF)
  have EG := hide ((EA G).trans hPG)
  have LF := hide hF.lim
  have LG := hide hG.lim
  have HX := hide hx
  obtain ⟨xk, xa, xb, xn, ⟨da, dn, dc⟩, ⟨pa, pn, pc⟩, data, picks⟩ := x
  dsimp only at NM PL hPF hPG ⊢
  obtain ⟨W0, hW0⟩ : ∃ W0, u.alloc (.cells #[.int .i64 xk, .int .i64 xa, .int .i64 xb, .int .i64 xn, .slice da dn dc, .slice pa pn pc] 36) = W0 := ⟨_, rfl⟩
  have B0 : Below u.heap.size u W0 := by rw [← hW0]; exact (Below.refl _ _).alloc (Nat.le_refl _) _
  have T0 := hide (t.below B0)
  have BX := hide (fun (v : World) (C : Nat → Prop) (c : Ch C W0 v) (hn : ¬ C u.heap.size) => box_keep (d := (da, dn, dc)) (p := (pa, pn, pc)) hW0 c hn)
  have NS : Hid (¬ S u.heap.size) := fun h => by have := t.l.lt _ h; omega
  have NT : Hid (¬ T u.heap.size) := fun h => by have := t.r.lt _ h; omega
  obtain ⟨c0, c1, c2, c3, c4, c5⟩ := BX.out W0 (fun _ => False) (Ch.refl _ _) id
  dsimp only at c4 c5
  have HW0 := hide hW0
  obtain ⟨gb, hgb⟩ : ∃ gb, u.heap.size = gb := ⟨_, rfl⟩
  rw [hgb] at c0 c1 c2 c3 c4 c5 BX NS NT
  have HGB := hide hgb
  clear hW0 t B0 hgb hk hx hF hG hs
  go_enter Tryz.func8, Tryz.ntmps8
  go_upto_region 1 with fail
  rw [HW0.out, HGB.out]
  clear HW0 HGB
  go_wp2_with fail
  with_reducible refine (NM.out _).mono ?_
  rintro e v ⟨rfl, hv⟩
  rw [hv]
  clear hv NM
  go_wp2_with fail
  with_reducible refine (PL.out _).mono ?_
  rintro e v ⟨rfl, hv⟩
  rw [hv]
  clear hv PL
  have CL := hide (lcreate_any g S F s m W0 T0.out.l LF.out (by omega) (by omega))
  rw [hPF] at CL
  dsimp only at CL
  go_wp2_with fail
  with_reducible refine CL.out.mono ?_
  rintro e u1 ⟨rfl, st⟩
  obtain ⟨⟨S1, t1, hS1⟩, k1⟩ := T0.out.leftC st
  have CR := hide (rcreate_any h T G s m u1 t1.r LG.out (by omega) (by omega))
  rw [hPG] at CR
  dsimp only at CR
  have T1 := hide t1
  clear st t1 k1 hS1 CL T0 c0 c1 c2 c3 c4 c5
  go_wp2_with fail
  with_reducible refine CR.out.mono ?_
  rintro e u2 ⟨rfl, st⟩
  obtain ⟨⟨T2, t2, -⟩, -⟩ := T1.out.rightC st
  have FIN := hide (doP_of EF.out EG.out t2.two)
  clear st t2 CR T1
  go_wp2
  refine bodyPost_ret (v := .tuple #[.pointer (some ⟨g, 0, none⟩), .pointer (some ⟨h, 0, none⟩), .bool (eL == eR)]) (by simp [results, Tryz.results8, go_sem]) rfl ?_
  exact FIN.out

set_option maxHeartbeats 8000000 in
theorem do4_any (w u : World) (g h : Nat) (F G : Fs) (m : Nat) (x : OpV) (ht : TwoV w.heap.size w u g h F G) (hF : LimB m F) (hG : LimB m G) (hm : m ≤ 400000000) (hx : OpW w x) (hd : x.data.length ≤ 500) (hk : x.k % 10 = 4) :
    Calls Tryz.prog 8 #[.pointer (some ⟨g, 0, none⟩), .pointer (some ⟨h, 0, none⟩), .agg #[.int .i64 x.k, .int .i64 x.a, .int .i64 x.b, .int .i64 x.n, .slice x.d.1 x.d.2.1 x.d.2.2, .slice x.p.1 x.p.2.1 x.p.2.2]] u fun e u' => DoP w F G x g h e u' := by
  obtain ⟨S, T, t⟩ := ht
  have NM := hide (fun u => name_any x.a u hx.a)
  have PL := hide (fun u => place_any x.k 10 (by omega) (by omega) u)
  rw [hk] at PL
  obtain ⟨s, hs⟩ : ∃ s, nmAt (x.a % 8).toNat = s := ⟨_, rfl⟩
  have hss : s.size ≤ 70 := by rw [← hs]; exact nmAt_size _
  rw [hs] at NM
  have EA : ∀ X : Fs, opF X (callV x) = syncF X s := fun X => by
    have e : (callV x).k = 4 := by show (x.k % 10).toNat = _; rw [hk]; rfl
    unfold opF
    rw [if_neg (show ¬ ((callV x).k = 0) by omega)]
    rw [if_neg (show ¬ ((callV x).k = 1 ∨ (callV x).k = 2) by omega)]
    rw [if_neg (show ¬ ((callV x).k = 3) by omega)]
    rw [if_pos (show (callV x).k = 4 by omega)]
    rw [← hs]; rfl
  rcases hPF : syncF F s with ⟨XF, eL⟩
  rcases hPG : syncF G s with ⟨XG, eR⟩
  have EF := hide ((EA F).trans hPF)
  have EG := hide ((EA G).trans hPG)
  have LF := hide hF.lim
  have LG := hide hG.lim
  have HX := hide hx
  obtain ⟨xk, xa, xb, xn, ⟨da, dn, dc⟩, ⟨pa, pn, pc⟩, data, picks⟩ := x
  dsimp only at NM PL hPF hPG ⊢
  obtain ⟨W0, hW0⟩ : ∃ W0, u.alloc (.cells #[.int .i64 xk, .int .i64 xa, .int .i64 xb, .int .i64 xn, .slice da dn dc, .slice pa pn pc] 36) = W0 := ⟨_, rfl⟩
  have B0 : Below u.heap.size u W0 := by rw [← hW0]; exact (Below.refl _ _).alloc (Nat.le_refl _) _
  have T0 := hide (t.below B0)
  have BX := hide (fun (v : World) (C : Nat → Prop) (c : Ch C W0 v) (hn : ¬ C u.heap.size) => box_keep (d := (da, dn, dc)) (p := (pa, pn, pc)) hW0 c hn)
  have NS : Hid (¬ S u.heap.size) := fun h => by have := t.l.lt _ h; omega
  have NT : Hid (¬ T u.heap.size) := fun h => by have := t.r.lt _ h; omega
  obtain ⟨c0, c1, c2, c3, c4, c5⟩ := BX.out W0 (fun _ => False) (Ch.refl _ _) id
  dsimp only at c4 c5
  have HW0 := hide hW0
  obtain ⟨gb, hgb⟩ : ∃ gb, u.heap.size = gb := ⟨_, rfl⟩
  rw [hgb] at c0 c1 c2 c3 c4 c5 BX NS NT
  have HGB := hide hgb
  clear hW0 t B0 hgb hk hx hF hG hs
  go_enter Tryz.func8, Tryz.ntmps8
  go_upto_region 1 with fail
  rw [HW0.out, HGB.out]
  clear HW0 HGB
  go_wp2_with fail
  with_reducible refine (NM.out _).mono ?_
  rintro e v ⟨rfl, hv⟩
  rw [hv]
  clear hv NM
  go_wp2_with fail
  with_reducible refine (PL.out _).mono ?_
  rintro e v ⟨rfl, hv⟩
  rw [hv]
  clear hv PL
  have CL := hide (lsync_any g S F s m W0 T0.out.l LF.out (by omega) (by omega))
  rw [hPF] at CL
  dsimp only at CL
  go_wp2_with fail
  with_reducible refine CL.out.mono ?_
  rintro e u1 ⟨rfl, st⟩
  obtain ⟨⟨S1, t1, hS1⟩, k1⟩ := T0.out.leftC st
  have CR := hide (rsync_any h T G s m u1 t1.r LG.out (by omega) (by omega))
  rw [hPG] at CR
  dsimp only at CR
  have T1 := hide t1
  clear st t1 k1 hS1 CL T0 c0 c1 c2 c3 c4 c5
  go_wp2_with fail
  with_reducible refine CR.out.mono ?_
  rintro e u2 ⟨rfl, st⟩
  obtain ⟨⟨T2, t2, -⟩, -⟩ := T1.out.rightC st
  have FIN := hide (doP_of EF.out EG.out t2.two)
  clear st t2 CR T1
  go_wp2
  refine bodyPost_ret (v := .tuple #[.pointer (some ⟨g, 0, none⟩), .pointer (some ⟨h, 0, none⟩), .bool (eL == eR)]) (by simp [results, Tryz.results8, go_sem]) rfl ?_
  exact FIN.out

set_option maxHeartbeats 8000000 in
theorem do6_any (w u : World) (g h : Nat) (F G : Fs) (m : Nat) (x : OpV) (ht : TwoV w.heap.size w u g h F G) (hF : LimB m F) (hG : LimB m G) (hm : m ≤ 400000000) (hx : OpW w x) (hd : x.data.length ≤ 500) (hk : x.k % 10 = 6) :
    Calls Tryz.prog 8 #[.pointer (some ⟨g, 0, none⟩), .pointer (some ⟨h, 0, none⟩), .agg #[.int .i64 x.k, .int .i64 x.a, .int .i64 x.b, .int .i64 x.n, .slice x.d.1 x.d.2.1 x.d.2.2, .slice x.p.1 x.p.2.1 x.p.2.2]] u fun e u' => DoP w F G x g h e u' := by
  obtain ⟨S, T, t⟩ := ht
  have NM := hide (fun u => name_any x.a u hx.a)
  have PL := hide (fun u => place_any x.k 10 (by omega) (by omega) u)
  rw [hk] at PL
  obtain ⟨s, hs⟩ : ∃ s, nmAt (x.a % 8).toNat = s := ⟨_, rfl⟩
  have hss : s.size ≤ 70 := by rw [← hs]; exact nmAt_size _
  rw [hs] at NM
  have EA : ∀ X : Fs, opF X (callV x) = removeF X s := fun X => by
    have e : (callV x).k = 6 := by show (x.k % 10).toNat = _; rw [hk]; rfl
    unfold opF
    rw [if_neg (show ¬ ((callV x).k = 0) by omega)]
    rw [if_neg (show ¬ ((callV x).k = 1 ∨ (callV x).k = 2) by omega)]
    rw [if_neg (show ¬ ((callV x).k = 3) by omega)]
    rw [if_neg (show ¬ ((callV x).k = 4) by omega)]
    rw [if_neg (show ¬ ((callV x).k = 5) by omega)]
    rw [if_pos (show (callV x).k = 6 by omega)]
    rw [← hs]; rfl
  rcases hPF : removeF F s with ⟨XF, eL⟩
  rcases hPG : removeF G s with ⟨XG, eR⟩
  have EF := hide ((EA F).trans hPF)
  have EG := hide ((EA G).trans hPG)
  have LF := hide hF.lim
  have LG := hide hG.lim
  have HX := hide hx
  obtain ⟨xk, xa, xb, xn, ⟨da, dn, dc⟩, ⟨pa, pn, pc⟩, data, picks⟩ := x
  dsimp only at NM PL hPF hPG ⊢
  obtain ⟨W0, hW0⟩ : ∃ W0, u.alloc (.cells #[.int .i64 xk, .int .i64 xa, .int .i64 xb, .int .i64 xn, .slice da dn dc, .slice pa pn pc] 36) = W0 := ⟨_, rfl⟩
  have B0 : Below u.heap.size u W0 := by rw [← hW0]; exact (Below.refl _ _).alloc (Nat.le_refl _) _
  have T0 := hide (t.below B0)
  have BX := hide (fun (v : World) (C : Nat → Prop) (c : Ch C W0 v) (hn : ¬ C u.heap.size) => box_keep (d := (da, dn, dc)) (p := (pa, pn, pc)) hW0 c hn)
  have NS : Hid (¬ S u.heap.size) := fun h => by have := t.l.lt _ h; omega
  have NT : Hid (¬ T u.heap.size) := fun h => by have := t.r.lt _ h; omega
  obtain ⟨c0, c1, c2, c3, c4, c5⟩ := BX.out W0 (fun _ => False) (Ch.refl _ _) id
  dsimp only at c4 c5
  have HW0 := hide hW0
  obtain ⟨gb, hgb⟩ : ∃ gb, u.heap.size = gb := ⟨_, rfl⟩
  rw [hgb] at c0 c1 c2 c3 c4 c5 BX NS NT
  have HGB := hide hgb
  clear hW0 t B0 hgb hk hx hF hG hs
  go_enter Tryz.func8, Tryz.ntmps8
  go_upto_region 1 with fail
  rw [HW0.out, HGB.out]
  clear HW0 HGB
  go_wp2_with fail
  with_reducible refine (NM.out _).mono ?_
  rintro e v ⟨rfl, hv⟩
  rw [hv]
  clear hv NM
  go_wp2_with fail
  with_reducible refine (PL.out _).mono ?_
  rintro e v ⟨rfl, hv⟩
  rw [hv]
  clear hv PL
  have CL := hide (lremove_any g S F s m W0 T0.out.l LF.out (by omega) (by omega))
  rw [hPF] at CL
  dsimp only at CL
  go_wp2_with fail
  with_reducible refine CL.out.mono ?_
  rintro e u1 ⟨rfl, st⟩
  obtain ⟨⟨S1, t1, hS1⟩, k1⟩ := T0.out.leftC st
  have CR := hide (rremove_any h T G s m u1 t1.r LG.out (by omega) (by omega))
  rw [hPG] at CR
  dsimp only at CR
  have T1 := hide t1
  clear st t1 k1 hS1 CL T0 c0 c1 c2 c3 c4 c5
  go_wp2_with fail
  with_reducible refine CR.out.mono ?_
  rintro e u2 ⟨rfl, st⟩
  obtain ⟨⟨T2, t2, -⟩, -⟩ := T1.out.rightC st
  have FIN := hide (doP_of EF.out EG.out t2.two)
  clear st t2 CR T1
  go_wp2
  refine bodyPost_ret (v := .tuple #[.pointer (some ⟨g, 0, none⟩), .pointer (some ⟨h, 0, none⟩), .bool (eL == eR)]) (by simp [results, Tryz.results8, go_sem]) rfl ?_
  exact FIN.out

set_option maxHeartbeats 8000000 in
theorem do7_any (w u : World) (g h : Nat) (F G : Fs) (m : Nat) (x : OpV) (ht : TwoV w.heap.size w u g h F G) (hF : LimB m F) (hG : LimB m G) (hm : m ≤ 400000000) (hx : OpW w x) (hd : x.data.length ≤ 500) (hk : x.k % 10 = 7) :
    Calls Tryz.prog 8 #[.pointer (some ⟨g, 0, none⟩), .pointer (some ⟨h, 0, none⟩), .agg #[.int .i64 x.k, .int .i64 x.a, .int .i64 x.b, .int .i64 x.n, .slice x.d.1 x.d.2.1 x.d.2.2, .slice x.p.1 x.p.2.1 x.p.2.2]] u fun e u' => DoP w F G x g h e u' := by
  obtain ⟨S, T, t⟩ := ht
  have NM := hide (fun u => name_any x.a u hx.a)
  have PL := hide (fun u => place_any x.k 10 (by omega) (by omega) u)
  rw [hk] at PL
  obtain ⟨s, hs⟩ : ∃ s, nmAt (x.a % 8).toNat = s := ⟨_, rfl⟩
  have hss : s.size ≤ 70 := by rw [← hs]; exact nmAt_size _
  rw [hs] at NM
  have EA : ∀ X : Fs, opF X (callV x) = syncdirF X := fun X => by
    have e : (callV x).k = 7 := by show (x.k % 10).toNat = _; rw [hk]; rfl
    unfold opF
    rw [if_neg (show ¬ ((callV x).k = 0) by omega)]
    rw [if_neg (show ¬ ((callV x).k = 1 ∨ (callV x).k = 2) by omega)]
    rw [if_neg (show ¬ ((callV x).k = 3) by omega)]
    rw [if_neg (show ¬ ((callV x).k = 4) by omega)]
    rw [if_neg (show ¬ ((callV x).k = 5) by omega)]
    rw [if_neg (show ¬ ((callV x).k = 6) by omega)]
    rw [if_pos (show (callV x).k = 7 by omega)]
  rcases hPF : syncdirF F with ⟨XF, eL⟩
  rcases hPG : syncdirF G with ⟨XG, eR⟩
  have EF := hide ((EA F).trans hPF)
  have EG := hide ((EA G).trans hPG)
  have LF := hide hF.lim
  have LG := hide hG.lim
  have HX := hide hx
  obtain ⟨xk, xa, xb, xn, ⟨da, dn, dc⟩, ⟨pa, pn, pc⟩, data, picks⟩ := x
  dsimp only at NM PL hPF hPG ⊢
  obtain ⟨W0, hW0⟩ : ∃ W0, u.alloc (.cells #[.int .i64 xk, .int .i64 xa, .int .i64 xb, .int .i64 xn, .slice da dn dc, .slice pa pn pc] 36) = W0 := ⟨_, rfl⟩
  have B0 : Below u.heap.size u W0 := by rw [← hW0]; exact (Below.refl _ _).alloc (Nat.le_refl _) _
  have T0 := hide (t.below B0)
  have BX := hide (fun (v : World) (C : Nat → Prop) (c : Ch C W0 v) (hn : ¬ C u.heap.size) => box_keep (d := (da, dn, dc)) (p := (pa, pn, pc)) hW0 c hn)
  have NS : Hid (¬ S u.heap.size) := fun h => by have := t.l.lt _ h; omega
  have NT : Hid (¬ T u.heap.size) := fun h => by have := t.r.lt _ h; omega
  obtain ⟨c0, c1, c2, c3, c4, c5⟩ := BX.out W0 (fun _ => False) (Ch.refl _ _) id
  dsimp only at c4 c5
  have HW0 := hide hW0
  obtain ⟨gb, hgb⟩ : ∃ gb, u.heap.size = gb := ⟨_, rfl⟩
  rw [hgb] at c0 c1 c2 c3 c4 c5 BX NS NT
  have HGB := hide hgb
  clear hW0 t B0 hgb hk hx hF hG hs
  go_enter Tryz.func8, Tryz.ntmps8
  go_upto_region 1 with fail
  rw [HW0.out, HGB.out]
  clear HW0 HGB
  go_wp2_with fail
  with_reducible refine (NM.out _).mono ?_
  rintro e v ⟨rfl, hv⟩
  rw [hv]
  clear hv NM
  go_wp2_with fail
  with_reducible refine (PL.out _).mono ?_
  rintro e v ⟨rfl, hv⟩
  rw [hv]
  clear hv PL
  have CL := hide (lsyncdir_any g S F m W0 T0.out.l LF.out (by omega))
  rw [hPF] at CL
  dsimp only at CL
  go_wp2_with fail
  with_reducible refine CL.out.mono ?_
  rintro e u1 ⟨rfl, st⟩
  obtain ⟨⟨S1, t1, hS1⟩, k1⟩ := T0.out.leftC st
  have CR := hide (rsyncdir_any h T G m u1 t1.r LG.out (by omega))
  rw [hPG] at CR
  dsimp only at CR
  have T1 := hide t1
  clear st t1 k1 hS1 CL T0 c0 c1 c2 c3 c4 c5
  go_wp2_with fail
  with_reducible refine CR.out.mono ?_
  rintro e u2 ⟨rfl, st⟩
  obtain ⟨⟨T2, t2, -⟩, -⟩ := T1.out.rightC st
  have FIN := hide (doP_of EF.out EG.out t2.two)
  clear st t2 CR T1
  go_wp2
  refine bodyPost_ret (v := .tuple #[.pointer (some ⟨g, 0, none⟩), .pointer (some ⟨h, 0, none⟩), .bool (eL == eR)]) (by simp [results, Tryz.results8, go_sem]) rfl ?_
  exact FIN.out
end Go.Proofs.YthlkmjaflomflaaGreat
