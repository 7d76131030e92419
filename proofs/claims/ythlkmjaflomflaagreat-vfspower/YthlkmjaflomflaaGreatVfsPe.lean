/-
  A call of the laws at both file systems (do): Crash, Append: contracts, for every world (written by gen/vfspb.gen.py).
  Conditions: both lie in memory, apart; the call may be read.
-/
import Derived.Test.YthlkmjaflomflaaGreatVfsPb
import Derived.Test.YthlkmjaflomflaaGreatVfsLi
namespace Go.Proofs.YthlkmjaflomflaaGreat
open Go.RowKit Go.Maps
set_option maxRecDepth 20000
set_option linter.unusedVariables false

theorem by_set : ∀ (l : List Int) (k : Nat) (z : Int), (l.flatMap byV).set k (.int .u8 z) = (l.set k z).flatMap byV
  | [], k, z => by simp
  | x :: t, 0, z => rfl
  | x :: t, k + 1, z => by
    rw [List.flatMap_cons, List.set_cons_succ, List.flatMap_cons, ← by_set t k z]
    rfl

set_option maxHeartbeats 8000000 in
theorem do9_any (w u : World) (g h : Nat) (F G : Fs) (m : Nat) (x : OpV) (ht : TwoV w.heap.size w u g h F G) (hF : LimB m F) (hG : LimB m G) (hm : m ≤ 400000000) (hx : OpW w x) (hd : x.data.length ≤ 500) (hk : x.k % 10 = 9) :
    Calls Tryz.prog 8 #[.pointer (some ⟨g, 0, none⟩), .pointer (some ⟨h, 0, none⟩), .agg #[.int .i64 x.k, .int .i64 x.a, .int .i64 x.b, .int .i64 x.n, .slice x.d.1 x.d.2.1 x.d.2.2, .slice x.p.1 x.p.2.1 x.p.2.2]] u fun e u' => DoP w F G x g h e u' := by
  obtain ⟨S, T, t⟩ := ht
  have NM := hide (fun u => name_any x.a u hx.a)
  have PL := hide (fun u => place_any x.k 10 (by omega) (by omega) u)
  rw [hk] at PL
  obtain ⟨s, hs⟩ : ∃ s, nmAt (x.a % 8).toNat = s := ⟨_, rfl⟩
  have hss : s.size ≤ 70 := by rw [← hs]; exact nmAt_size _
  rw [hs] at NM
  have EA : ∀ X : Fs, opF X (callV x) = (crashF X x.n x.picks, 0) := fun X => by
    have e : (callV x).k = 9 := by show (x.k % 10).toNat = _; rw [hk]; rfl
    unfold opF
    rw [if_neg (show ¬ ((callV x).k = 0) by omega)]
    rw [if_neg (show ¬ ((callV x).k = 1 ∨ (callV x).k = 2) by omega)]
    rw [if_neg (show ¬ ((callV x).k = 3) by omega)]
    rw [if_neg (show ¬ ((callV x).k = 4) by omega)]
    rw [if_neg (show ¬ ((callV x).k = 5) by omega)]
    rw [if_neg (show ¬ ((callV x).k = 6) by omega)]
    rw [if_neg (show ¬ ((callV x).k = 7) by omega)]
    rw [if_neg (show ¬ ((callV x).k = 8) by omega)]
    rfl
  have hEA := hide EA
  have HK9 := hide hk
  have LF := hide hF.lim
  have LG := hide hG.lim
  have HX := hide hx
  obtain ⟨xk, xa, xb, xn, ⟨da, dn, dc⟩, ⟨pa, pn, pc⟩, data, picks⟩ := x
  dsimp only at NM PL hEA HK9 ⊢
  obtain ⟨W0, hW0⟩ : ∃ W0, u.alloc (.cells #[.int .i64 xk, .int .i64 xa, .int .i64 xb, .int .i64 xn, .slice da dn dc, .slice pa pn pc] 36) = W0 := ⟨_, rfl⟩
  have B0 : Below u.heap.size u W0 := by rw [← hW0]; exact (Below.refl _ _).alloc (Nat.le_refl _) _
  have T0 := hide (t.below B0)
  have BX := hide (fun (v : World) (C : Nat → Prop) (c : Ch C W0 v) (hn : ¬ C u.heap.size) => box_keep (d := (da, dn, dc)) (p := (pa, pn, pc)) hW0 c hn)
  have NS : Hid (¬ S u.heap.size) := fun h => by have := t.l.lt _ h; omega
  have NT : Hid (¬ T u.heap.size) := fun h => by have := t.r.lt _ h; omega
  obtain ⟨c0, c1, c2, c3, c4, c5⟩ := BX.out W0 (fun _ => False) (Ch.refl _ _) id
  dsimp only at c4 c5
  have HW0 := hide hW0
  obtain ⟨gb, hgb⟩ : ∃ gb, u.heap.size = gb := ⟨_, rfl⟩
  rw [hgb] at c0 c1 c2 c3 c4 c5 BX NS NT
  have HGB := hide hgb
  clear EA hW0 t B0 hgb hk hx hF hG hs
  go_enter Tryz.func8, Tryz.ntmps8
  go_upto_region 1 with fail
  rw [HW0.out, HGB.out]
  clear HW0 HGB
  go_wp2_with fail
  with_reducible refine (NM.out _).mono ?_
  rintro e v ⟨rfl, hv⟩
  rw [hv]
  clear hv NM
  go_wp2_with fail
  with_reducible refine (PL.out _).mono ?_
  rintro e v ⟨rfl, hv⟩
  rw [hv]
  clear hv PL
  have IN := hide (ints8_any pa pn pc picks W0.drew ((HX.out.picks.row.below T0.out.bel (Nat.le_refl _)).below (Below.refl _ _).drew (Nat.le_refl _)) HX.out.picks.nil HX.out.pmax)
  have hpm := HX.out.pmax
  dsimp only at hpm
  go_upto_region 27 with fail
  refine wp_region_held_drew (S := fun v => v.cell? ⟨gb, 3, none⟩ = some (.int .i64 xn) ∧ v.cell? ⟨gb, 5, none⟩ = some (.slice pa pn pc)) (by kernel_rfl) ⟨c3, c5⟩ (fun hHeld => ?_)
  refine held_take (i := 0) (d := (some 148)) (v := ?_) rfl rfl (by kernel_rfl) (by kernel_rfl) (by kernel_rfl) (fun _ _ _ h => h) (Or.inl ⟨by rfl, ?_⟩) (by first | assumption | rfl | trivial) ?_
  rotate_left 1
  · (intro w hSw; (try dsimp only at hSw); (try subst hSw); go_simp; try with_reducible rfl)
  simp only [Act.put, List.setIfInBounds_toArray, List.set_cons_zero, List.set_cons_succ]
  refine held_take (i := 1) (d := (some 149)) (v := ?_) rfl rfl (by kernel_rfl) (by kernel_rfl) (by kernel_rfl) (fun _ _ _ h => h) (Or.inl ⟨by rfl, ?_⟩) (by first | assumption | rfl | trivial) ?_
  rotate_left 1
  · (intro w hSw; (try dsimp only at hSw); (try subst hSw); go_simp; try with_reducible rfl)
  simp only [Act.put, List.setIfInBounds_toArray, List.set_cons_zero, List.set_cons_succ]
  refine held_take (i := 2) (d := (some 150)) (v := ?_) rfl rfl (by kernel_rfl) (by kernel_rfl) (by kernel_rfl) (fun _ _ _ h => h) (Or.inl ⟨by rfl, ?_⟩) (by first | assumption | rfl | trivial) ?_
  rotate_left 1
  · (intro w hSw; (try dsimp only at hSw); (try subst hSw); go_simp; try with_reducible rfl)
  simp only [Act.put, List.setIfInBounds_toArray, List.set_cons_zero, List.set_cons_succ]
  refine held_take (i := 3) (d := (some 151)) (v := ?_) rfl rfl (by kernel_rfl) (by kernel_rfl) (by kernel_rfl) (fun _ _ _ h => h) (Or.inl ⟨by rfl, ?_⟩) (by first | assumption | rfl | trivial) ?_
  rotate_left 1
  · (intro w hSw; (try dsimp only at hSw); (try subst hSw); go_simp; try with_reducible rfl)
  simp only [Act.put, List.setIfInBounds_toArray, List.set_cons_zero, List.set_cons_succ]
  refine held_take (i := 4) (d := (some 152)) (v := ?_) rfl rfl (by kernel_rfl) (by kernel_rfl) (by kernel_rfl) (fun _ _ _ h => h) (Or.inl ⟨by rfl, ?_⟩) (by first | assumption | rfl | trivial) ?_
  rotate_left 1
  · (intro w hSw; (try dsimp only at hSw); (try subst hSw); go_simp; try with_reducible rfl)
  simp only [Act.put, List.setIfInBounds_toArray, List.set_cons_zero, List.set_cons_succ]
  refine held_next (i := 5) (by kernel_rfl) rfl (by rfl) (fun K1 hK1 => ?_)
  go_simp
  with_reducible refine IN.out.mono ?_
  rintro e u1 ⟨ya, yc, rfl, r1, b1⟩
  have B1 : Hid (Below W0.heap.size W0 u1) := (Below.refl _ _).drew.trans b1
  have T1 := hide (T0.out.below B1.out)
  have x1 := BX.out u1 (fun _ => False) (Ch.of_below B1.out) id
  have x13 := x1.2.2.2.1
  have x15 := x1.2.2.2.2.2
  have CL := hide (lcrash_any g S F xn ya pn yc picks m u1 T1.out.l LF.out (by omega) HX.out.n r1 (by omega))
  clear b1 r1 x1 IN T0
  go_wp2_with fail
  refine hK1.out _ _ ⟨x13, x15⟩ ?_
  clear hK1
  refine held_next (i := 6) (by kernel_rfl) rfl (by rfl) (fun K1 hK1 => ?_)
  go_simp
  with_reducible refine CL.out.mono ?_
  rintro e u2 ⟨g2, rfl, md⟩
  obtain ⟨S2, l2, hS2, b2⟩ := md
  have M2 : Hid (MadeV LAt u1 u2 g2 (crashF F xn picks)) := ⟨S2, l2, hS2, b2⟩
  have B2 : Hid (Below W0.heap.size W0 u2) := bel_to B1.out (Nat.le_refl _) b2
  have T2 := hide (T1.out.below b2)
  have x2 := BX.out u2 (fun _ => False) (Ch.of_below B2.out) id
  have x23 := x2.2.2.2.1
  have x25 := x2.2.2.2.2.2
  have CR := hide (rcrash_any h T G xn pa pn pc picks m u2 T2.out.r LG.out (by omega) HX.out.n (HX.out.picks.row.below T2.out.bel (Nat.le_refl _)) (by show pn ≤ _; omega))
  clear l2 hS2 b2 x2 CL
  go_wp2_with fail
  refine hK1.out _ _ ⟨x23, x25⟩ ?_
  clear hK1
  refine held_take (i := 7) (d := (some 14)) (v := ?_) rfl rfl (by kernel_rfl) (by kernel_rfl) (by kernel_rfl) (fun _ _ _ h => h) (Or.inl ⟨by rfl, ?_⟩) (by first | assumption | rfl | trivial) ?_
  rotate_left 1
  · (intro w hSw; (try dsimp only at hSw); (try subst hSw); go_simp; try with_reducible rfl)
  simp only [Act.put, List.setIfInBounds_toArray, List.set_cons_zero, List.set_cons_succ]
  clear hHeld
  refine wpAnyH_done (by kernel_rfl) ?_ _
  clear x13 x15 c0 c1 c2 c3 c4 c5
  go_wp2_with fail
  with_reducible refine CR.out.mono ?_
  rintro e u3 ⟨h2, rfl, md⟩
  have M3 := hide (two_made (base := w.heap.size) T1.out.bel T1.out.sz M2.out md)
  have FIN : Hid (DoP w F G ⟨xk, xa, xb, xn, (da, dn, dc), (pa, pn, pc), data, picks⟩ g h (.returned (.tuple #[.pointer (some ⟨g2, 0, none⟩), .pointer (some ⟨h2, 0, none⟩), .bool true])) u3) := by
    refine ⟨g2, h2, ?_, ?_, fun q => absurd HK9.out q⟩
    · rw [hEA.out, hEA.out]; rfl
    · rw [hEA.out, hEA.out]; exact M3.out
  clear md CR M2 M3 T1 T2 B1 B2 x23 x25 BX
  go_wp2
  refine bodyPost_ret (v := .tuple #[.pointer (some ⟨g2, 0, none⟩), .pointer (some ⟨h2, 0, none⟩), .bool true]) (by simp [results, Tryz.results8, go_sem]) rfl ?_
  exact FIN.out

set_option maxHeartbeats 8000000 in
theorem do1_any (w u : World) (g h : Nat) (F G : Fs) (m : Nat) (x : OpV) (ht : TwoV w.heap.size w u g h F G) (hF : LimB m F) (hG : LimB m G) (hm : m ≤ 400000000) (hx : OpW w x) (hd : x.data.length ≤ 500) (hk : x.k % 10 = 1) :
    Calls Tryz.prog 8 #[.pointer (some ⟨g, 0, none⟩), .pointer (some ⟨h, 0, none⟩), .agg #[.int .i64 x.k, .int .i64 x.a, .int .i64 x.b, .int .i64 x.n, .slice x.d.1 x.d.2.1 x.d.2.2, .slice x.p.1 x.p.2.1 x.p.2.2]] u fun e u' => DoP w F G x g h e u' := by
  obtain ⟨S, T, t⟩ := ht
  have NM := hide (fun u => name_any x.a u hx.a)
  have PL := hide (fun u => place_any x.k 10 (by omega) (by omega) u)
  rw [hk] at PL
  obtain ⟨s, hs⟩ : ∃ s, nmAt (x.a % 8).toNat = s := ⟨_, rfl⟩
  have hss : s.size ≤ 70 := by rw [← hs]; exact nmAt_size _
  rw [hs] at NM
  have EA : ∀ X : Fs, opF X (callV x) = appendF X s x.data := fun X => by
    have e : (callV x).k = 1 := by show (x.k % 10).toNat = _; rw [hk]; rfl
    unfold opF
    rw [if_neg (show ¬ ((callV x).k = 0) by omega)]
    rw [if_pos (show (callV x).k = 1 ∨ (callV x).k = 2 by omega)]
    rw [← hs]; rfl
  rcases hPF : appendF F s x.data with ⟨XF, eL⟩
  rcases hPG : appendF G s x.data with ⟨XG, eR⟩
  have EF := hide ((EA F).trans hPF)
  have EG := hide ((EA G).trans hPG)
  have hdl := hide hd
  have hrow := hide hx.data
  have LF := hide hF.lim
  have LG := hide hG.lim
  have HX := hide hx
  obtain ⟨xk, xa, xb, xn, ⟨da, dn, dc⟩, ⟨pa, pn, pc⟩, data, picks⟩ := x
  dsimp only at NM PL hPF hPG hdl hrow ⊢
  obtain ⟨W0, hW0⟩ : ∃ W0, u.alloc (.cells #[.int .i64 xk, .int .i64 xa, .int .i64 xb, .int .i64 xn, .slice da dn dc, .slice pa pn pc] 36) = W0 := ⟨_, rfl⟩
  have B0 : Below u.heap.size u W0 := by rw [← hW0]; exact (Below.refl _ _).alloc (Nat.le_refl _) _
  have T0 := hide (t.below B0)
  have BX := hide (fun (v : World) (C : Nat → Prop) (c : Ch C W0 v) (hn : ¬ C u.heap.size) => box_keep (d := (da, dn, dc)) (p := (pa, pn, pc)) hW0 c hn)
  have NS : Hid (¬ S u.heap.size) := fun h => by have := t.l.lt _ h; omega
  have NT : Hid (¬ T u.heap.size) := fun h => by have := t.r.lt _ h; omega
  obtain ⟨c0, c1, c2, c3, c4, c5⟩ := BX.out W0 (fun _ => False) (Ch.refl _ _) id
  dsimp only at c4 c5
  have HW0 := hide hW0
  obtain ⟨gb, hgb⟩ : ∃ gb, u.heap.size = gb := ⟨_, rfl⟩
  rw [hgb] at c0 c1 c2 c3 c4 c5 BX NS NT
  have HGB := hide hgb
  clear hW0 t B0 hgb hk hx hF hG hs
  go_enter Tryz.func8, Tryz.ntmps8
  go_upto_region 1 with fail
  rw [HW0.out, HGB.out]
  clear HW0 HGB
  go_wp2_with fail
  with_reducible refine (NM.out _).mono ?_
  rintro e v ⟨rfl, hv⟩
  rw [hv]
  clear hv NM
  go_wp2_with fail
  with_reducible refine (PL.out _).mono ?_
  rintro e v ⟨rfl, hv⟩
  rw [hv]
  clear hv PL
  have hdn : dn ≤ 500 := by have := hrow.out.row.1; have := hdl.out; dsimp only at *; omega
  have BY := hide (bytes8_any da dn dc data W0 (hrow.out.row.below T0.out.bel (Nat.le_refl _)) hrow.out.nil (by omega))
  have HZS := hide hrow.out.row.bytes
  clear c0 c1 c2 c3 c5
  go_wp2_with fail
  with_reducible refine BY.out.mono ?_
  rintro e u1 ⟨ya, yc, rfl, o1, b1⟩
  have B1 := hide b1
  have T1 := hide (T0.out.below b1)
  have O1 := hide o1
  have CL := hide (lappend_any g S F s ya dn yc data m u1 T1.out.l LF.out (by omega) (by omega) (ownB_row o1 (by omega) HZS.out) (by omega) (OwnG.capped o1).1)
  rw [hPF] at CL
  dsimp only at CL
  clear b1 o1 BY
  go_wp2_with fail
  with_reducible refine CL.out.mono ?_
  rintro e u2 ⟨rfl, st⟩
  obtain ⟨⟨S2, t2, hS2⟩, k2⟩ := T1.out.leftC st
  have T2 := hide t2
  have LS : Hid (∀ j, S j → j < W0.heap.size) := fun j hj => T0.out.l.lt j hj
  have LT : Hid (∀ j, T j → j < W0.heap.size) := fun j hj => T0.out.r.lt j hj
  have O2 : Hid (OwnB u2 W0.heap.size ya dn yc data) := OwnG.ch O1.out k2 (fun j hj hs => by have := (OwnG.cellsT O1.out j hj).2; have := LS.out j hs; omega)
  have NS2 : Hid (∀ j, (Value.slice ya dn yc).ownBlock = some j → ¬ S2 j ∧ ¬ T j ∧ w.heap.size ≤ j) := fun j hj => by
    have q := OwnG.cellsT O1.out j hj
    refine ⟨fun hs => ?_, fun hs => ?_, Nat.le_trans T0.out.sz q.2⟩
    · rcases hS2 j hs with e | e
      · have := LS.out j e; omega
      · have := q.1.lt; omega
    · have := LT.out j hs; omega
  have X2 : Hid (u2.cell? ⟨gb, 4, none⟩ = some (.slice da dn dc)) := (BX.out u2 S (((Ch.of_below B1.out).more (fun _ _ h => h.elim)).trans k2) NS.out).2.2.2.2.1
  have HGL : Hid (gb < W0.heap.size) := World.block_lt_of_cell? W0 _ c4
  clear st t2 hS2 k2 CL c4 O1 T1 LS B1
  go_wp2
  go_loopw [12] (fun i wr => ∃ (k : Nat) (zs : List Int), k ≤ dn ∧ i = .int .i64 (k : Int) ∧ Hid (OwnB wr W0.heap.size ya dn yc zs) ∧ Hid (TwoA w.heap.size w wr g h S2 T XF G) ∧ Hid (wr.cell? ⟨gb, 4, none⟩ = some (.slice da dn dc))) (fun i _ => dn - (intOf i).toNat)
  case atStart => exact ⟨0, data, by omega, rfl, O2.out, T2.out, X2.out⟩
  case round =>
    clear O2 T2 X2
    obtain ⟨k, zs, hk, rfl, HO, HT, HX4⟩ := hrel
    obtain ⟨v, rfl⟩ : ∃ v, v = wr := ⟨wr, rfl⟩
    by_cases hlt : k < dn
    · obtain ⟨z, hz⟩ : ∃ z, zs[k]? = some z := ⟨_, List.getElem?_eq_getElem (by rw [OwnG.len byV_len (by decide) HO.out]; exact hlt)⟩
      obtain ⟨gy, rfl, -, hyc, hcell⟩ := OwnG.at byV_len (by decide) HO.out hz
      have y0 := hcell 0 _ rfl
      rw [Nat.mul_one, Nat.add_zero] at y0
      have FZ := World.ownsRow.frozenAt HO.out k
      have i1 : (0 : Int) ≤ (k : Int) := by omega
      have i2 : (k : Int) < (dn : Int) := by omega
      have wk : IntKind.i64.wrap ((k : Int) + 1) = ((k + 1 : Nat) : Int) := by rw [IntKind.wrap_i64]; omega
      have NG := NS2.out gy rfl
      have SET : Hid (∀ z' : Int, Hid (OwnB (v.setCell ⟨gy, k, none⟩ (.int .u8 z')) W0.heap.size (some ⟨gy, 0, none⟩) dn yc (zs.set k z')) ∧ Hid (TwoA w.heap.size w (v.setCell ⟨gy, k, none⟩ (.int .u8 z')) g h S2 T XF G) ∧ Hid ((v.setCell ⟨gy, k, none⟩ (.int .u8 z')).cell? ⟨gb, 4, none⟩ = some (.slice da dn dc))) := fun z' => by
        have q1 := (World.ownsRow.stored HO.out k (.int .u8 z')).1
        rw [by_set] at q1
        have hgy := (OwnG.cellsT HO.out gy rfl).2
        refine ⟨q1, HT.out.keep (ch_set v gy k (.int .u8 z')) (fun j hj e => NG.1 (e ▸ hj)) (fun j hj e => NG.2.1 (e ▸ hj)) (fun j e => e ▸ NG.2.2), ?_⟩
        have hne : gb ≠ gy := by have := HGL.out; omega
        exact (World.cell?_setCell_other v ⟨gy, k, none⟩ ⟨gb, 4, none⟩ _ (by simp)).trans HX4.out
      clear hz hcell HO HT HX4 NG NS2
      go_wp2
      go_roundw
      case rel => exact ⟨k + 1, _, by omega, by go_num, (SET.out _).1, (SET.out _).2.1, (SET.out _).2.2⟩
      case measure => simp [intOf]; omega
    · obtain rfl : k = dn := by omega
      have i2 : ¬ (k : Int) < (k : Int) := by omega
      have x4 := HX4.out
      have CR := hide (rappend_any h T G s da k dc data m v HT.out.r LG.out (by omega) (by omega) (hrow.out.row.below HT.out.bel (Nat.le_refl _)) (by omega) hrow.out.cap (fun b off e hne hT => by
        have h1 := HT.out.rs b hT
        rcases hrow.out.row.2.2.2 with h0 | ⟨b', off', e', hc⟩
        · exact hne h0
        · rw [e] at e'
          obtain ⟨rfl, rfl⟩ : b = b' ∧ off = off' := by simpa using e'
          have h2 := World.block_lt_of_cell? w _ (hc 0 (by show 0 < k; omega))
          have h3 : b < w.heap.size := h2
          omega))
      rw [hPG] at CR
      dsimp only at CR
      clear HO HX4 NS2
      go_wp2_with fail
      with_reducible refine CR.out.mono ?_
      rintro e u3 ⟨rfl, st⟩
      obtain ⟨⟨T3, t3, -⟩, -⟩ := HT.out.rightC st
      have FIN := hide (doP_of EF.out EG.out t3.two)
      clear st t3 CR HT
      go_wp2
      refine bodyPost_ret (v := .tuple #[.pointer (some ⟨g, 0, none⟩), .pointer (some ⟨h, 0, none⟩), .bool (eL == eR)]) (by simp [results, Tryz.results8, go_sem]) rfl ?_
      exact FIN.out

set_option maxHeartbeats 8000000 in
theorem do2_any (w u : World) (g h : Nat) (F G : Fs) (m : Nat) (x : OpV) (ht : TwoV w.heap.size w u g h F G) (hF : LimB m F) (hG : LimB m G) (hm : m ≤ 400000000) (hx : OpW w x) (hd : x.data.length ≤ 500) (hk : x.k % 10 = 2) :
    Calls Tryz.prog 8 #[.pointer (some ⟨g, 0, none⟩), .pointer (some ⟨h, 0, none⟩), .agg #[.int .i64 x.k, .int .i64 x.a, .int .i64 x.b, .int .i64 x.n, .slice x.d.1 x.d.2.1 x.d.2.2, .slice x.p.1 x.p.2.1 x.p.2.2]] u fun e u' => DoP w F G x g h e u' := by
  obtain ⟨S, T, t⟩ := ht
  have NM := hide (fun u => name_any x.a u hx.a)
  have PL := hide (fun u => place_any x.k 10 (by omega) (by omega) u)
  rw [hk] at PL
  obtain ⟨s, hs⟩ : ∃ s, nmAt (x.a % 8).toNat = s := ⟨_, rfl⟩
  have hss : s.size ≤ 70 := by rw [← hs]; exact nmAt_size _
  rw [hs] at NM
  have EA : ∀ X : Fs, opF X (callV x) = appendF X s x.data := fun X => by
    have e : (callV x).k = 2 := by show (x.k % 10).toNat = _; rw [hk]; rfl
    unfold opF
    rw [if_neg (show ¬ ((callV x).k = 0) by omega)]
    rw [if_pos (show (callV x).k = 1 ∨ (callV x).k = 2 by omega)]
    rw [← hs]; rfl
  rcases hPF : appendF F s x.data with ⟨XF, eL⟩
  rcases hPG : appendF G s x.data with ⟨XG, eR⟩
  have EF := hide ((EA F).trans hPF)
  have EG := hide ((EA G).trans hPG)
  have hdl := hide hd
  have hrow := hide hx.data
  have LF := hide hF.lim
  have LG := hide hG.lim
  have HX := hide hx
  obtain ⟨xk, xa, xb, xn, ⟨da, dn, dc⟩, ⟨pa, pn, pc⟩, data, picks⟩ := x
  dsimp only at NM PL hPF hPG hdl hrow ⊢
  obtain ⟨W0, hW0⟩ : ∃ W0, u.alloc (.cells #[.int .i64 xk, .int .i64 xa, .int .i64 xb, .int .i64 xn, .slice da dn dc, .slice pa pn pc] 36) = W0 := ⟨_, rfl⟩
  have B0 : Below u.heap.size u W0 := by rw [← hW0]; exact (Below.refl _ _).alloc (Nat.le_refl _) _
  have T0 := hide (t.below B0)
  have BX := hide (fun (v : World) (C : Nat → Prop) (c : Ch C W0 v) (hn : ¬ C u.heap.size) => box_keep (d := (da, dn, dc)) (p := (pa, pn, pc)) hW0 c hn)
  have NS : Hid (¬ S u.heap.size) := fun h => by have := t.l.lt _ h; omega
  have NT : Hid (¬ T u.heap.size) := fun h => by have := t.r.lt _ h; omega
  obtain ⟨c0, c1, c2, c3, c4, c5⟩ := BX.out W0 (fun _ => False) (Ch.refl _ _) id
  dsimp only at c4 c5
  have HW0 := hide hW0
  obtain ⟨gb, hgb⟩ : ∃ gb, u.heap.size = gb := ⟨_, rfl⟩
  rw [hgb] at c0 c1 c2 c3 c4 c5 BX NS NT
  have HGB := hide hgb
  clear hW0 t B0 hgb hk hx hF hG hs
  go_enter Tryz.func8, Tryz.ntmps8
  go_upto_region 1 with fail
  rw [HW0.out, HGB.out]
  clear HW0 HGB
  go_wp2_with fail
  with_reducible refine (NM.out _).mono ?_
  rintro e v ⟨rfl, hv⟩
  rw [hv]
  clear hv NM
  go_wp2_with fail
  with_reducible refine (PL.out _).mono ?_
  rintro e v ⟨rfl, hv⟩
  rw [hv]
  clear hv PL
  have hdn : dn ≤ 500 := by have := hrow.out.row.1; have := hdl.out; dsimp only at *; omega
  have BY := hide (bytes8_any da dn dc data W0 (hrow.out.row.below T0.out.bel (Nat.le_refl _)) hrow.out.nil (by omega))
  have HZS := hide hrow.out.row.bytes
  clear c0 c1 c2 c3 c5
  go_wp2_with fail
  with_reducible refine BY.out.mono ?_
  rintro e u1 ⟨ya, yc, rfl, o1, b1⟩
  have B1 := hide b1
  have T1 := hide (T0.out.below b1)
  have O1 := hide o1
  have CL := hide (lappend_any g S F s ya dn yc data m u1 T1.out.l LF.out (by omega) (by omega) (ownB_row o1 (by omega) HZS.out) (by omega) (OwnG.capped o1).1)
  rw [hPF] at CL
  dsimp only at CL
  clear b1 o1 BY
  go_wp2_with fail
  with_reducible refine CL.out.mono ?_
  rintro e u2 ⟨rfl, st⟩
  obtain ⟨⟨S2, t2, hS2⟩, k2⟩ := T1.out.leftC st
  have T2 := hide t2
  have LS : Hid (∀ j, S j → j < W0.heap.size) := fun j hj => T0.out.l.lt j hj
  have LT : Hid (∀ j, T j → j < W0.heap.size) := fun j hj => T0.out.r.lt j hj
  have O2 : Hid (OwnB u2 W0.heap.size ya dn yc data) := OwnG.ch O1.out k2 (fun j hj hs => by have := (OwnG.cellsT O1.out j hj).2; have := LS.out j hs; omega)
  have NS2 : Hid (∀ j, (Value.slice ya dn yc).ownBlock = some j → ¬ S2 j ∧ ¬ T j ∧ w.heap.size ≤ j) := fun j hj => by
    have q := OwnG.cellsT O1.out j hj
    refine ⟨fun hs => ?_, fun hs => ?_, Nat.le_trans T0.out.sz q.2⟩
    · rcases hS2 j hs with e | e
      · have := LS.out j e; omega
      · have := q.1.lt; omega
    · have := LT.out j hs; omega
  have X2 : Hid (u2.cell? ⟨gb, 4, none⟩ = some (.slice da dn dc)) := (BX.out u2 S (((Ch.of_below B1.out).more (fun _ _ h => h.elim)).trans k2) NS.out).2.2.2.2.1
  have HGL : Hid (gb < W0.heap.size) := World.block_lt_of_cell? W0 _ c4
  clear st t2 hS2 k2 CL c4 O1 T1 LS B1
  go_wp2
  go_loopw [12] (fun i wr => ∃ (k : Nat) (zs : List Int), k ≤ dn ∧ i = .int .i64 (k : Int) ∧ Hid (OwnB wr W0.heap.size ya dn yc zs) ∧ Hid (TwoA w.heap.size w wr g h S2 T XF G) ∧ Hid (wr.cell? ⟨gb, 4, none⟩ = some (.slice da dn dc))) (fun i _ => dn - (intOf i).toNat)
  case atStart => exact ⟨0, data, by omega, rfl, O2.out, T2.out, X2.out⟩
  case round =>
    clear O2 T2 X2
    obtain ⟨k, zs, hk, rfl, HO, HT, HX4⟩ := hrel
    obtain ⟨v, rfl⟩ : ∃ v, v = wr := ⟨wr, rfl⟩
    by_cases hlt : k < dn
    · obtain ⟨z, hz⟩ : ∃ z, zs[k]? = some z := ⟨_, List.getElem?_eq_getElem (by rw [OwnG.len byV_len (by decide) HO.out]; exact hlt)⟩
      obtain ⟨gy, rfl, -, hyc, hcell⟩ := OwnG.at byV_len (by decide) HO.out hz
      have y0 := hcell 0 _ rfl
      rw [Nat.mul_one, Nat.add_zero] at y0
      have FZ := World.ownsRow.frozenAt HO.out k
      have i1 : (0 : Int) ≤ (k : Int) := by omega
      have i2 : (k : Int) < (dn : Int) := by omega
      have wk : IntKind.i64.wrap ((k : Int) + 1) = ((k + 1 : Nat) : Int) := by rw [IntKind.wrap_i64]; omega
      have NG := NS2.out gy rfl
      have SET : Hid (∀ z' : Int, Hid (OwnB (v.setCell ⟨gy, k, none⟩ (.int .u8 z')) W0.heap.size (some ⟨gy, 0, none⟩) dn yc (zs.set k z')) ∧ Hid (TwoA w.heap.size w (v.setCell ⟨gy, k, none⟩ (.int .u8 z')) g h S2 T XF G) ∧ Hid ((v.setCell ⟨gy, k, none⟩ (.int .u8 z')).cell? ⟨gb, 4, none⟩ = some (.slice da dn dc))) := fun z' => by
        have q1 := (World.ownsRow.stored HO.out k (.int .u8 z')).1
        rw [by_set] at q1
        have hgy := (OwnG.cellsT HO.out gy rfl).2
        refine ⟨q1, HT.out.keep (ch_set v gy k (.int .u8 z')) (fun j hj e => NG.1 (e ▸ hj)) (fun j hj e => NG.2.1 (e ▸ hj)) (fun j e => e ▸ NG.2.2), ?_⟩
        have hne : gb ≠ gy := by have := HGL.out; omega
        exact (World.cell?_setCell_other v ⟨gy, k, none⟩ ⟨gb, 4, none⟩ _ (by simp)).trans HX4.out
      clear hz hcell HO HT HX4 NG NS2
      go_wp2
      go_roundw
      case rel => exact ⟨k + 1, _, by omega, by go_num, (SET.out _).1, (SET.out _).2.1, (SET.out _).2.2⟩
      case measure => simp [intOf]; omega
    · obtain rfl : k = dn := by omega
      have i2 : ¬ (k : Int) < (k : Int) := by omega
      have x4 := HX4.out
      have CR := hide (rappend_any h T G s da k dc data m v HT.out.r LG.out (by omega) (by omega) (hrow.out.row.below HT.out.bel (Nat.le_refl _)) (by omega) hrow.out.cap (fun b off e hne hT => by
        have h1 := HT.out.rs b hT
        rcases hrow.out.row.2.2.2 with h0 | ⟨b', off', e', hc⟩
        · exact hne h0
        · rw [e] at e'
          obtain ⟨rfl, rfl⟩ : b = b' ∧ off = off' := by simpa using e'
          have h2 := World.block_lt_of_cell? w _ (hc 0 (by show 0 < k; omega))
          have h3 : b < w.heap.size := h2
          omega))
      rw [hPG] at CR
      dsimp only at CR
      clear HO HX4 NS2
      go_wp2_with fail
      with_reducible refine CR.out.mono ?_
      rintro e u3 ⟨rfl, st⟩
      obtain ⟨⟨T3, t3, -⟩, -⟩ := HT.out.rightC st
      have FIN := hide (doP_of EF.out EG.out t3.two)
      clear st t3 CR HT
      go_wp2
      refine bodyPost_ret (v := .tuple #[.pointer (some ⟨g, 0, none⟩), .pointer (some ⟨h, 0, none⟩), .bool (eL == eR)]) (by simp [results, Tryz.results8, go_sem]) rfl ?_
      exact FIN.out
end Go.Proofs.YthlkmjaflomflaaGreat
