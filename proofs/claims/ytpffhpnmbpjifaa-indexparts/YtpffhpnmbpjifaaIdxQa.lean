/-
  Statement IndexParts over what is asked: the values of a name, and those without, part all series: a contract, for every world.
  Conditions: the index does what is asked.
-/
import Derived.Test.YtpffhpnmbpjifaaIdxA
import Derived.Test.YtpffhpnmbpjifaaIdxW
import Derived.Test.YtpffhpnmbpjifaaIdxQ
import Derived.BigQuiet
import Derived.Deep.QuietTactic
namespace Go.Proofs.Ytpffhpnmbpjifaa
open Go.RowKit
set_option maxRecDepth 20000

theorem mine_stored {w : World} {base g n cap : Nat} {zs : List Int} (h : MineI w base (some ⟨g, 0, none⟩) n cap zs) (j : Nat) (z : Int) :
    MineI (w.setCell ⟨g, j, none⟩ (.int .i64 z)) base (some ⟨g, 0, none⟩) n cap (zs.set j z) := by
  have := (World.ownsRow.stored h j (.int .i64 z)).1
  rw [← List.map_set] at this
  exact this
theorem mine_cell {w : World} {base g n cap : Nat} {zs : List Int} (h : MineI w base (some ⟨g, 0, none⟩) n cap zs) {k : Nat} (hk : k < n) : w.cell? ⟨g, k, none⟩ = some (.int .i64 (zs.getD k 0)) ∧ w.frozen? ⟨g, k, none⟩ = false := by
  have hl := Own.len h
  refine ⟨?_, World.ownsRow.frozenAt h k⟩
  have h1 := World.ownsRow.cellAt h k (by omega)
  rw [h1, List.getElem?_map, List.getElem?_eq_getElem (by omega), List.getD_eq_getElem?_getD, List.getElem?_eq_getElem (by omega)]
  rfl
theorem mine_drew {w : World} {base n cap : Nat} {a : Option Addr} {zs : List Int} (h : MineI w base a n cap zs) (q : Nat) : MineI (w.drewN q) base a n cap zs := h
theorem ownV_ch {S : Nat → Prop} {w w' : World} {base n cap : Nat} {a : Option Addr} {l : List Vn} (h : OwnV w base a n cap l) (c : Ch S w w') (hn : ∀ g, base ≤ g → ¬ S g) : OwnV w' base a n cap l := by
  refine row_ch h c (fun g hg => hn g ?_)
  rcases h.2 with ⟨h1, _⟩ | ⟨g', c', cur, h1, h2, _⟩
  · simp only [Value.slice.injEq] at h1
    obtain ⟨rfl, _⟩ := h1
    simp [Value.ownBlock] at hg
  · simp only [Value.slice.injEq] at h1
    obtain ⟨rfl, _⟩ := h1
    simp [Value.ownBlock] at hg
    omega
theorem mine_chQ {S : Nat → Prop} {w w' : World} {base n cap : Nat} {a : Option Addr} {l : List Int} (h : MineI w base a n cap l) (c : Ch S w w') (hn : ∀ g, base ≤ g → ¬ S g) : MineI w' base a n cap l := row_ch h c (fun g hg => hn g (own_block h g hg))

set_option maxHeartbeats 8000000 in
theorem parts_of {At : World → Nat → (Nat → Prop) → Lx → Prop} (I : IxI At) (IV : IxV At) (a : Option Addr) (n c : Nat) (sets : Lx) (nm : ByteArray) (w : World) (hs : RowLL w a n sets) (hnm : nm.size ≤ 9223372036854775807) :
    Calls Try.prog 6 #[.slice a n c, .string nm] w fun e w' => e = .returned (.bool true) ∧ Below w.heap.size w w' := by
  obtain ⟨i1, hi1, hz10, hz11, hz12⟩ := info_parts Try.infoI
  have HI := hide I
  have LD := hide (laid_of I a n c sets w hs)
  obtain ⟨L, hLd⟩ : ∃ L, Hid (laidX (sets.take 60) = L) := ⟨_, rfl⟩
  have GL := laidX_good (sets.take 60)
  rw [hLd.out] at LD GL
  have hL60 : L.length ≤ 60 := by have := GL.2; rw [List.length_take] at this; omega
  have hV60 : (valsX L nm).length ≤ 60 := Nat.le_trans (len_valsX L nm) hL60
  have VA := hide (fun g S v (h : At v g S L) => IV.vals g S L nm v h hnm)
  have PA := hide (fun g S v x (h : At v g S L) (hx : x.size ≤ 9223372036854775807) => I.post g S L nm x v h hnm hx)
  have LE := hide (fun g S v (h : At v g S L) => I.len g S L v h)
  have P1 : Hid (∀ (k : Nat) (y : Vn), (valsX L nm)[k]? = some y → y.1.size ≤ 9223372036854775807 ∧ y.1 ≠ .empty ∧ (postX L nm y.1).length = y.2 ∧ (postX L nm y.1).foldl bumpZ (cntQ L nm ((keysV (valsX L nm)).take k)) = cntQ L nm ((keysV (valsX L nm)).take (k + 1))) := fun k y hy => by
    have hm := List.mem_of_getElem? hy
    have := vals_size nm GL.1 y hm
    exact ⟨by omega, vals_ne L nm y hm, vals_count hm, by rw [keys_take hy]; exact cntQ_round L nm _ _⟩
  have P2 : Hid ((postX L nm ⟨#[]⟩).foldl bumpZ (cntQ L nm ((keysV (valsX L nm)).take (valsX L nm).length)) = cntQ L nm ((keysV (valsX L nm)).take ((valsX L nm).length + 1))) := by
    show _ = _
    rw [(keys_last _).1]
    exact cntQ_round L nm _ _
  have P3 : Hid (cntQ L nm ((keysV (valsX L nm)).take ((valsX L nm).length + 1)) = List.replicate L.length 1) := by
    show _ = _
    rw [(keys_last _).2]
    exact cntQ_end L nm
  have P4 : Hid (cntQ L nm ((keysV (valsX L nm)).take 0) = List.replicate L.length 0) := cntQ_start L nm
  have P5 : Hid (∀ k, (∀ y ∈ cntQ L nm ((keysV (valsX L nm)).take k), 0 ≤ y ∧ y ≤ 100) ∧ (cntQ L nm ((keysV (valsX L nm)).take k)).length = L.length) := fun k => ⟨fun y hy => by
    have h1 := cntQ_fit L nm _ y hy
    have h2 : ((keysV (valsX L nm)).take k).length ≤ 61 := by rw [List.length_take, keys_len]; omega
    omega, cntQ_len _ _ _⟩
  have P6 : Hid (∀ v, (∀ z ∈ postX L nm v, 0 ≤ z ∧ z < L.length) ∧ (postX L nm v).length ≤ 60) := fun v => ⟨idxs_wf _ L, Nat.le_trans (idxs_len _ _ L) hL60⟩
  generalize valsX L nm = vs at *
  obtain ⟨M, hM⟩ : ∃ M, Hid (vs.length = M) := ⟨_, rfl⟩
  rw [hM.out] at hV60 P2 P3
  generalize hq : (fun k => cntQ L nm ((keysV vs).take k)) = C at *
  have hq' : ∀ k, cntQ L nm ((keysV vs).take k) = C k := fun k => by rw [← hq]
  simp only [hq'] at P1 P2 P3 P4 P5
  clear hq hq'
  generalize postX L nm = PX at *
  obtain ⟨N, hN⟩ : ∃ N, Hid (L.length = N) := ⟨_, rfl⟩
  simp only [hN.out] at LE P3 P4 P5 P6 hL60
  clear I IV hs GL hLd
  go_enter Try.func6, Try.ntmps6
  go_wp2_with fail
  with_reducible refine LD.out.mono ?_
  rintro e u1 ⟨g1, g2, rfl, ⟨S1, S2, t1, t2, -, -, -⟩, b1⟩
  have T1 := hide t1
  have LX := hide (LE.out g1 S1 u1 t1)
  have BW := hide b1
  clear t1 t2 b1 LD LE
  go_wp2_with fail
  with_reducible refine LX.out.mono ?_
  rintro e u2 ⟨rfl, b2⟩
  have B2 := hide (bel_to BW.out (Nat.le_refl _) b2)
  have S1L : Hid (∀ k, S1 k → k < u2.heap.size) := fun k hk => by have := HI.out.lt T1.out k hk; have := b2.size; omega
  have T2 := hide (HI.out.below T1.out b2)
  clear b2 LX BW T1
  go_wp2_with (refine wpList_make_full _ rfl _ _ 38 rfl u2.heap.size 3 i1 (.int .i64 0) 1 Try.underlying38 hi1 hz10 hz11 .i64 .i64 _ _ N rfl rfl rfl rfl (by rw [hz12]; omega) (by unfold maxLen; omega) (Nat.le_refl _) ?_)
  intro u3 o3 g3
  obtain ⟨gs, hgs⟩ : ∃ gs, Hid (u2.heap.size = gs) := ⟨_, rfl⟩
  have B23 : Hid (Below u2.heap.size u2 u3) := (Below.refl _ _).grown g3 (Nat.le_refl _) (fun k hk => by simp at hk)
  have O3 : Hid (MineI u3 gs (some ⟨gs, 0, none⟩) N N (C 0)) := by
    show u3.ownsRow _ _ _ _ _ _
    rw [P4.out, List.map_replicate, ← hgs.out]
    rw [← toList_madeCells_one]; exact o3
  have GS3 : Hid (gs < u3.heap.size) := by
    obtain ⟨_, h | ⟨g, c, cur, h1, _, h3, _⟩⟩ := id O3.out
    · simp at h
    · simp only [Value.slice.injEq, Option.some.injEq, Addr.mk.injEq, and_true, true_and] at h1
      obtain ⟨rfl, _⟩ := h1
      exact (Array.getElem?_eq_some_iff.1 h3).1
  have B3 := hide (bel_to B2.out (Nat.le_refl _) B23.out)
  have T3 := hide (HI.out.below T2.out B23.out)
  have SN : Hid (∀ k, S1 k → k < gs) := fun k hk => by have := S1L.out k hk; rw [← hgs.out]; exact this
  have WG : Hid (w.heap.size ≤ gs) := by show _ ≤ _; rw [← hgs.out]; exact B2.out.size
  rw [hgs.out]
  have VX := hide (VA.out g1 S1 u3 T3.out)
  clear o3 g3 B2 B23 T2 S1L VA hgs hi1 hz10 hz11 hz12
  go_wp2_with fail
  with_reducible refine VX.out.mono ?_
  rintro e u4 ⟨F, rfl, tf, b4⟩
  have VC := hide (tf u4 (Below.refl _ _) (1000 : Int) (by decide))
  rw [show (1000 : Int).toNat = 1000 by omega, List.take_of_length_le (by rw [hM.out]; omega)] at VC
  have B4 := hide (bel_to B3.out (Nat.le_refl _) b4)
  have O4 := hide (Own.below O3.out b4 (Nat.le_refl _))
  have T4 := hide (HI.out.below T3.out b4)
  have GS4 : Hid (gs < u4.heap.size) := Nat.lt_of_lt_of_le GS3.out b4.size
  clear tf b4 VX B3 O3 T3 GS3
  go_wp2_with fail
  with_reducible refine VC.out.mono ?_
  rintro e u5 ⟨a5, n5, c5, rfl, o5, b5⟩
  obtain rfl : n5 = M := by have := OwnV.len o5; rw [hM.out] at this; exact this.symm
  have V5 := hide o5
  have B5 := hide (bel_to B4.out (Nat.le_refl _) b5)
  have O5 := hide (Own.below O4.out b5 (Nat.le_refl _))
  have T5 := hide (HI.out.below T4.out b5)
  have GS5 : Hid (gs < u5.heap.size) := Nat.lt_of_lt_of_le GS4.out b5.size
  clear o5 b5 VC B4 O4 T4
  have KEY : Hid (∀ wr, Ch (fun k => k = gs) u5 wr → At wr g1 S1 L ∧ OwnV wr u4.heap.size a5 n5 c5 vs ∧ Below w.heap.size w wr) := fun wr h => ⟨HI.out.keep T5.out h (fun k hk e => by have := SN.out k hk; omega), ownV_ch V5.out h (fun g hg e => by have := GS4.out; omega), B5.out.trans (h.below B5.out.size (fun k hk e => by have := WG.out; omega))⟩
  clear V5 B5 T5 SN GS4 WG
  go_wp2
  go_loopw [10] (fun i wr => ∃ k : Nat, k ≤ n5 + 1 ∧ i = .int .i64 k ∧ Hid (MineI wr gs (some ⟨gs, 0, none⟩) N N (C k)) ∧ Hid (Ch (fun k => k = gs) u5 wr)) (fun i _ => n5 + 1 - (intOf i).toNat)
  case atStart => exact ⟨0, by omega, rfl, O5, Ch.refl _ _⟩
  case round =>
    obtain ⟨k, hk, rfl, HO, HC⟩ := hrel
    obtain ⟨u, rfl⟩ : ∃ u, u = wr := ⟨wr, rfl⟩
    obtain ⟨A6, V6, B6⟩ := KEY.out u HC.out
    have A6 := hide A6
    have V6 := hide V6
    have B6 := hide B6
    by_cases hlt : k < n5
    · obtain ⟨x1, y1, rfl, -, hy1, -, p0, p1, -⟩ := V6.out.at' hlt
      obtain ⟨ys, yn⟩ := y1
      obtain ⟨hs1, hs2, hs3, hs4⟩ := P1.out k _ hy1
      dsimp only at p0 p1 hs1 hs2 hs3 hs4
      have ST := hide hs4
      have PP := hide (PA.out g1 S1 u ys A6.out hs1)
      have x1l : x1 < u.heap.size := World.block_lt_of_cell? u _ p1
      have P1V : Hid (∀ v, Below u.heap.size u v → v.cell? ⟨x1, k * 2 + 1, none⟩ = some (.int .i64 (yn : Int))) := fun v hb => (hb.cell (p := ⟨x1, k * 2 + 1, none⟩) x1l).trans p1
      have k0 : (0 : Int) ≤ (k : Int) := by omega
      have k1 : (k : Int) ≤ (n5 : Int) := by omega
      have k2 : (k : Int) < (n5 : Int) := by omega
      have HS3 := hide hs3
      have T1 : Hid ((ys.toList == (⟨#[]⟩ : ByteArray).toList) = false ∧ ¬ ys.toList = [] ∧ ys.toList.isEmpty = false) := by
        have h2 : ¬ ys.toList = [] := fun q => hs2 (ba_ext (q.trans (show (ByteArray.empty).toList = [] by decide +kernel).symm))
        refine ⟨by rw [ba_eq]; exact decide_eq_false hs2, h2, ?_⟩
        cases hq : ys.toList with
        | nil => exact absurd hq h2
        | cons _ _ => rfl
      clear hs1 hs2 hs3 hs4 x1l p1
      go_wp2_with fail
      with_reducible refine PP.out.mono ?_
      rintro e v1 ⟨a7, n7, c7, rfl, o7, b7⟩
      have p1 := P1V.out v1 b7
      obtain rfl : yn = n7 := by have := Own.len o7; have := HS3.out; omega
      obtain ⟨t1, t2, t3⟩ := T1.out
      have m4 : ((yn : Int) != (yn : Int)) = false := by simp
      clear P1V HS3 T1 PP p0
      have hN7 := hide (Own.len o7)
      obtain ⟨hz1, hz2⟩ := P6.out ys
      have yn60 : yn ≤ 60 := by have := hN7.out; omega
      have SL7 := hide (MineI.sl o7 (by omega) (fun z hz => by have := hz1 z hz; simp [Lit.wf, IntKind.min, IntKind.max, IntKind.signed, IntKind.bits]; omega))
      have HO7 := hide (Own.below HO.out b7 (Nat.le_refl _))
      have HC7 : Hid (Ch (fun k => k = gs) u5 v1) := HC.out.trans ((Ch.of_below b7).more (fun _ _ h => h.elim))
      have OU := hide o7
      have UG : Hid (gs < u.heap.size) := Nat.lt_of_lt_of_le GS5.out HC.out.size
      have HZ : Hid (∀ j, j < yn → ∃ m : Nat, m < N ∧ (PX ys).getD j 0 = (m : Int)) := fun j hj => by
        have := hz1 _ (getD_mem' (show j < (PX ys).length by rw [hN7.out]; exact hj))
        exact ⟨((PX ys).getD j 0).toNat, by omega, by omega⟩
      have HF : Hid (∀ j, j ≤ yn → (∀ y ∈ ((PX ys).take j).foldl bumpZ (C k), 0 ≤ y ∧ y ≤ 200) ∧ (((PX ys).take j).foldl bumpZ (C k)).length = N) := fun j hj => by
        refine ⟨fun y hy => ?_, by rw [bumps_len]; exact (P5.out k).2⟩
        have h1 := bumps_fit _ (C k) 100 (by decide) (P5.out k).1 y hy
        rw [List.length_take] at h1
        omega
      have HT : Hid (∀ j, j < yn → ((PX ys).take (j + 1)).foldl bumpZ (C k) = bumpZ (((PX ys).take j).foldl bumpZ (C k)) ((PX ys).getD j 0)) := fun j hj => by
        rw [take_get (by rw [hN7.out]; exact hj), List.foldl_append]
        rfl
      have HE : Hid (((PX ys).take yn).foldl bumpZ (C k) = C (k + 1)) := by
        show _ = _
        rw [← hN7.out, List.take_length]
        exact ST.out
      have HA : Hid (∀ j, j < yn → ∀ W, Ch (fun k => k = gs) v1 W → ∃ b off, a7 = some ⟨b, off, none⟩ ∧ W.cell? ⟨b, off + j, none⟩ = some (.int .i64 ((PX ys).getD j 0))) := fun j hj W hW =>
        (MineI.sl (mine_chQ OU.out hW (fun g hg e => by have := UG.out; omega)) (by omega) SL7.out.wf).at' hj
      generalize PX ys = zs at *
      clear hz1 hz2 OU SL7 o7 b7 UG hN7 HO HC
      go_wp2
      go_loopw [13] (fun i wr => ∃ j : Nat, j ≤ yn ∧ i = .int .i64 j ∧ Hid (MineI wr gs (some ⟨gs, 0, none⟩) N N ((zs.take j).foldl bumpZ (C k))) ∧ Hid (Ch (fun k => k = gs) v1 wr)) (fun i _ => yn - (intOf i).toNat)
      case atStart => exact ⟨0, by omega, rfl, HO7, Ch.refl _ _⟩
      case round =>
        obtain ⟨j, hj, rfl, IO, IC⟩ := hrel
        obtain ⟨W, rfl⟩ : ∃ W, W = wr := ⟨wr, rfl⟩
        by_cases hjt : j < yn
        · obtain ⟨b, off, rfl, q0⟩ := HA.out j hjt W IC.out
          obtain ⟨m, hm, hmz⟩ := HZ.out j hjt
          rw [hmz] at q0
          obtain ⟨q1, q2⟩ := mine_cell IO.out hm
          have HF1 := hide (HF.out j (by omega))
          obtain ⟨h0, h2⟩ := HF1.out.1 _ (getD_mem' (show m < ((zs.take j).foldl bumpZ (C k)).length by rw [HF1.out.2]; exact hm))
          have IO2 : Hid (MineI (W.setCell ⟨gs, m, none⟩ (.int .i64 (((zs.take j).foldl bumpZ (C k)).getD m 0 + 1))) gs (some ⟨gs, 0, none⟩) N N ((zs.take (j + 1)).foldl bumpZ (C k))) := by
            show MineI _ _ _ _ _ _
            rw [HT.out j hjt, hmz]
            exact mine_stored IO.out m _
          have IC2 : Hid (∀ v, Ch (fun k => k = gs) v1 (W.setCell ⟨gs, m, none⟩ v)) := fun v => IC.out.trans (ch_set W gs m v)
          generalize ((zs.take j).foldl bumpZ (C k)).getD m 0 = cz at *
          have j1 : (0 : Int) ≤ (j : Int) := by omega
          have j2 : (j : Int) < (yn : Int) := by omega
          have m1 : (0 : Int) ≤ (m : Int) := by omega
          have m2 : (m : Int) < (N : Int) := by omega
          have m3 : ¬ (m : Int) < 0 := by omega
          have m4 : ¬ (N : Int) ≤ (m : Int) := by omega
          have m5 : decide ((m : Int) < 0) = false := decide_eq_false m3
          have m6 : decide ((N : Int) ≤ (m : Int)) = false := decide_eq_false m4
          have wz : IntKind.i64.wrap (cz + 1) = cz + 1 := by rw [IntKind.wrap_i64]; omega
          clear HF1 IO IC hmz
          go_wp2
          go_roundw
          case rel => exact ⟨j + 1, by omega, by go_num, IO2, IC2.out _⟩
          case measure => simp [intOf]; omega
        · have j2 : ¬ (j : Int) < (yn : Int) := by omega
          obtain rfl : j = yn := by omega
          have IO2 := IO
          rw [HE.out] at IO2
          have IC2 : Hid (Ch (fun k => k = gs) u5 W) := HC7.out.trans IC.out
          go_wp2
          go_roundw
          case rel => exact ⟨k + 1, by omega, by go_num, IO2, IC2⟩
          case measure => simp [intOf]; omega
    · by_cases hle : k = n5
      · subst hle
        have ST := P2
        have PP := hide (PA.out g1 S1 u ⟨#[]⟩ A6.out (by decide))
        have k1 : (k : Int) ≤ (k : Int) := by omega
        have k2 : ¬ (k : Int) < (k : Int) := by omega
        have k3 : decide ((k : Int) < (k : Int)) = false := decide_eq_false k2
        go_wp2_with fail
        with_reducible refine PP.out.mono ?_
        rintro e v1 ⟨a7, n7, c7, rfl, o7, b7⟩
        clear PP
        have hN7 := hide (Own.len o7)
        obtain ⟨hz1, hz2⟩ := P6.out ⟨#[]⟩
        have n760 : n7 ≤ 60 := by have := hN7.out; omega
        have SL7 := hide (MineI.sl o7 (by omega) (fun z hz => by have := hz1 z hz; simp [Lit.wf, IntKind.min, IntKind.max, IntKind.signed, IntKind.bits]; omega))
        have HO7 := hide (Own.below HO.out b7 (Nat.le_refl _))
        have HC7 : Hid (Ch (fun k => k = gs) u5 v1) := HC.out.trans ((Ch.of_below b7).more (fun _ _ h => h.elim))
        have OU := hide o7
        have UG : Hid (gs < u.heap.size) := Nat.lt_of_lt_of_le GS5.out HC.out.size
        have HZ : Hid (∀ j, j < n7 → ∃ m : Nat, m < N ∧ (PX ⟨#[]⟩).getD j 0 = (m : Int)) := fun j hj => by
          have := hz1 _ (getD_mem' (show j < (PX ⟨#[]⟩).length by rw [hN7.out]; exact hj))
          exact ⟨((PX ⟨#[]⟩).getD j 0).toNat, by omega, by omega⟩
        have HF : Hid (∀ j, j ≤ n7 → (∀ y ∈ ((PX ⟨#[]⟩).take j).foldl bumpZ (C k), 0 ≤ y ∧ y ≤ 200) ∧ (((PX ⟨#[]⟩).take j).foldl bumpZ (C k)).length = N) := fun j hj => by
          refine ⟨fun y hy => ?_, by rw [bumps_len]; exact (P5.out k).2⟩
          have h1 := bumps_fit _ (C k) 100 (by decide) (P5.out k).1 y hy
          rw [List.length_take] at h1
          omega
        have HT : Hid (∀ j, j < n7 → ((PX ⟨#[]⟩).take (j + 1)).foldl bumpZ (C k) = bumpZ (((PX ⟨#[]⟩).take j).foldl bumpZ (C k)) ((PX ⟨#[]⟩).getD j 0)) := fun j hj => by
          rw [take_get (by rw [hN7.out]; exact hj), List.foldl_append]
          rfl
        have HE : Hid (((PX ⟨#[]⟩).take n7).foldl bumpZ (C k) = C (k + 1)) := by
          show _ = _
          rw [← hN7.out, List.take_length]
          exact ST.out
        have HA : Hid (∀ j, j < n7 → ∀ W, Ch (fun k => k = gs) v1 W → ∃ b off, a7 = some ⟨b, off, none⟩ ∧ W.cell? ⟨b, off + j, none⟩ = some (.int .i64 ((PX ⟨#[]⟩).getD j 0))) := fun j hj W hW =>
          (MineI.sl (mine_chQ OU.out hW (fun g hg e => by have := UG.out; omega)) (by omega) SL7.out.wf).at' hj
        generalize PX ⟨#[]⟩ = zs at *
        clear hz1 hz2 OU SL7 o7 b7 UG hN7 HO HC
        go_wp2
        go_loopw [13] (fun i wr => ∃ j : Nat, j ≤ n7 ∧ i = .int .i64 j ∧ Hid (MineI wr gs (some ⟨gs, 0, none⟩) N N ((zs.take j).foldl bumpZ (C k))) ∧ Hid (Ch (fun k => k = gs) v1 wr)) (fun i _ => n7 - (intOf i).toNat)
        case atStart => exact ⟨0, by omega, rfl, HO7, Ch.refl _ _⟩
        case round =>
          obtain ⟨j, hj, rfl, IO, IC⟩ := hrel
          obtain ⟨W, rfl⟩ : ∃ W, W = wr := ⟨wr, rfl⟩
          by_cases hjt : j < n7
          · obtain ⟨b, off, rfl, q0⟩ := HA.out j hjt W IC.out
            obtain ⟨m, hm, hmz⟩ := HZ.out j hjt
            rw [hmz] at q0
            obtain ⟨q1, q2⟩ := mine_cell IO.out hm
            have HF1 := hide (HF.out j (by omega))
            obtain ⟨h0, h2⟩ := HF1.out.1 _ (getD_mem' (show m < ((zs.take j).foldl bumpZ (C k)).length by rw [HF1.out.2]; exact hm))
            have IO2 : Hid (MineI (W.setCell ⟨gs, m, none⟩ (.int .i64 (((zs.take j).foldl bumpZ (C k)).getD m 0 + 1))) gs (some ⟨gs, 0, none⟩) N N ((zs.take (j + 1)).foldl bumpZ (C k))) := by
              show MineI _ _ _ _ _ _
              rw [HT.out j hjt, hmz]
              exact mine_stored IO.out m _
            have IC2 : Hid (∀ v, Ch (fun k => k = gs) v1 (W.setCell ⟨gs, m, none⟩ v)) := fun v => IC.out.trans (ch_set W gs m v)
            generalize ((zs.take j).foldl bumpZ (C k)).getD m 0 = cz at *
            have j1 : (0 : Int) ≤ (j : Int) := by omega
            have j2 : (j : Int) < (n7 : Int) := by omega
            have m1 : (0 : Int) ≤ (m : Int) := by omega
            have m2 : (m : Int) < (N : Int) := by omega
            have m3 : ¬ (m : Int) < 0 := by omega
            have m4 : ¬ (N : Int) ≤ (m : Int) := by omega
            have m5 : decide ((m : Int) < 0) = false := decide_eq_false m3
            have m6 : decide ((N : Int) ≤ (m : Int)) = false := decide_eq_false m4
            have wz : IntKind.i64.wrap (cz + 1) = cz + 1 := by rw [IntKind.wrap_i64]; omega
            clear HF1 IO IC hmz
            go_wp2
            go_roundw
            case rel => exact ⟨j + 1, by omega, by go_num, IO2, IC2.out _⟩
            case measure => simp [intOf]; omega
          · have j2 : ¬ (j : Int) < (n7 : Int) := by omega
            obtain rfl : j = n7 := by omega
            have IO2 := IO
            rw [HE.out] at IO2
            have IC2 : Hid (Ch (fun k => k = gs) u5 W) := HC7.out.trans IC.out
            go_wp2
            go_roundw
            case rel => exact ⟨k + 1, by omega, by go_num, IO2, IC2⟩
            case measure => simp [intOf]
      · obtain rfl : k = n5 + 1 := by omega
        have k1 : ¬ ((n5 + 1 : Nat) : Int) ≤ (n5 : Int) := by omega
        have HO9 := HO
        rw [P3.out] at HO9
        clear HO PA P1 P2 P3 P4 P5 P6
        go_wp2
        go_loopw [14] (fun i wr => ∃ j : Nat, j ≤ N ∧ i = .int .i64 j ∧ wr = u) (fun i _ => N - (intOf i).toNat)
        case atStart => exact ⟨0, by omega, rfl, rfl⟩
        case round =>
          obtain ⟨j, hj, rfl, rfl⟩ := hrel
          by_cases hjt : j < N
          · obtain ⟨q1, -⟩ := mine_cell HO9.out hjt
            rw [show (List.replicate N (1 : Int)).getD j 0 = 1 by rw [List.getD_eq_getElem?_getD, List.getElem?_replicate, if_pos hjt]; rfl] at q1
            have j1 : (0 : Int) ≤ (j : Int) := by omega
            have j2 : (j : Int) < (N : Int) := by omega
            go_wp2
            go_roundw
            case rel => exact ⟨j + 1, by omega, by go_num, trivial⟩
            case measure => simp [intOf]; omega
          · have j2 : ¬ (j : Int) < (N : Int) := by omega
            have AW := hide (awakeX_of HI.out wr)
            go_wp2_with fail
            with_reducible refine AW.out.mono ?_
            rintro e v9 ⟨rfl, b9⟩
            have B9 := hide (bel_to B6.out (Nat.le_refl _) b9)
            clear b9 AW
            go_wp2
            go_ret
            exact ⟨rfl, B9.out⟩
end Go.Proofs.Ytpffhpnmbpjifaa
