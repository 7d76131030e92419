/-
  Statement IndexAll over what is asked: to select is to go through all: a contract, for every world.
  Conditions: the index does what is asked.
-/
import Derived.Test.YtpffhpnmbpjifaaGreatIdxA
import Derived.Test.YtpffhpnmbpjifaaGreatIdxS
import Derived.Test.YtpffhpnmbpjifaaGreatMatG
import Derived.Test.YtpffhpnmbpjifaaGreatMatC
import Derived.Test.YtpffhpnmbpjifaaGreatLabZa
namespace Go.Proofs.YtpffhpnmbpjifaaGreat
open Go.RowKit
set_option maxRecDepth 20000

set_option maxHeartbeats 8000000 in
theorem alls_of {At : World → Nat → (Nat → Prop) → Lx → Prop} (I : IxI At) (IS : IxS At) (a : Option Addr) (n c : Nat) (sets : Lx) (S : Nat → Prop) (m : Mt) (h : Hm) (w : World) (hs : RowLL w a n sets) (q : SeeM S w m h) :
    Calls Tryz.prog 4 #[.slice a n c, .agg #[.int .i64 h.op, .string h.nm, .string h.vl, .slice h.va h.vn h.vc, .slice h.ka h.kn h.kc]] w fun e w' => e = .returned (.bool true) ∧ Below w.heap.size w w' := by
  obtain ⟨op, nm, vl, va, vn, vc, ka, kn, kc⟩ := h
  dsimp only
  obtain ⟨i0, hi, hz0, hz1, hz2⟩ := info_parts Tryz.infoI
  have HI := hide I
  have HS := hide IS
  obtain ⟨wb, hwb⟩ : ∃ wb, Hid (w.alloc (.cells #[.int .i64 op, .string nm, .string vl, .slice va vn vc, .slice ka kn kc] 26) = wb) := ⟨_, rfl⟩
  have BA : Hid (Below w.heap.size w wb) := by rw [← hwb.out]; exact (Below.refl _ _).alloc (Nat.le_refl _) _
  have BX : Hid (BoxM wb w.heap.size ⟨op, nm, vl, va, vn, vc, ka, kn, kc⟩) := by rw [← hwb.out]; exact boxM_new w ⟨op, nm, vl, va, vn, vc, ka, kn, kc⟩
  have CL : Hid (∀ W, Below wb.heap.size wb W → W.cell? ⟨w.heap.size, 0, none⟩ = some (.int .i64 op) ∧ W.cell? ⟨w.heap.size, 1, none⟩ = some (.string nm) ∧ W.cell? ⟨w.heap.size, 2, none⟩ = some (.string vl) ∧ W.cell? ⟨w.heap.size, 3, none⟩ = some (.slice va vn vc) ∧ W.cell? ⟨w.heap.size, 4, none⟩ = some (.slice ka kn kc)) := fun W hb => by
    obtain ⟨d0, d1, d2, d3, d4, -⟩ := BoxM.all (BX.out.block (hb.block w.heap.size (BoxM.lt BX.out)))
    exact ⟨d0, d1, d2, d3, d4⟩
  have SM : Hid (∀ W, Below wb.heap.size wb W → SeeM S W m ⟨op, nm, vl, va, vn, vc, ka, kn, kc⟩) := fun W hb => (q.below BA.out).below hb
  have LD := hide (laid_of I a n c sets wb (hs.below BA.out (Nat.le_refl _)))
  obtain ⟨L, hLd⟩ : ∃ L, Hid (laidX (sets.take 60) = L) := ⟨_, rfl⟩
  have GL := laidX_good (sets.take 60)
  rw [hLd.out] at LD GL
  have hL60 : L.length ≤ 60 := by have := GL.2; rw [List.length_take] at this; omega
  have MSL : Hid (∀ (W : World) base x n1 c1, MineI W base x n1 c1 (selX L m) → SlI W x n1 c1 (selX L m)) := fun W base x n1 c1 q => MineI.sl q (by
    have h1 := q.len
    have h2 := idxs_len (evalP m) 0 L
    unfold selX at h1
    omega) (idx_wf (by omega))
  have GX := hide GL.1
  clear hs q I IS hLd BX
  go_enter Tryz.func4, Tryz.ntmps4
  go_wp2_with fail
  rw [hwb.out]
  with_reducible refine LD.out.mono ?_
  rintro e u1 ⟨g1, g2, rfl, ⟨S1, S2, t1, t2, -, -, -⟩, b1⟩
  have B1 := hide b1
  have T1 := hide t1
  have T2 := hide t2
  have TN := hide (tinyT_any S m ⟨op, nm, vl, va, vn, vc, ka, kn, kc⟩ u1 (SM.out u1 b1))
  obtain ⟨d0, d1, d2, d3, d4⟩ := CL.out u1 b1
  dsimp only at TN
  clear t1 t2 b1 LD hwb
  go_wp2_with fail
  with_reducible refine TN.out.mono ?_
  rintro e u2 ⟨rfl, b2⟩
  have B2 := hide (bel_to B1.out (Nat.le_refl _) b2)
  have X2 := hide (HI.out.below T1.out b2)
  have Y2 := hide (T2.out.below b2)
  clear d0 d1 d2 d3 d4 b2 TN T1 T2 B1
  cases ht : tinyM m with
  | false =>
    have AW := hide (awakeX_of HI.out u2)
    go_wp2_with fail
    with_reducible refine AW.out.mono ?_
    rintro e v9 ⟨rfl, b9⟩
    have B9 := hide (BA.out.trans ((bel_to B2.out (Nat.le_refl _) b9).mono BA.out.size))
    clear b9 AW
    go_wp2
    go_ret
    exact ⟨rfl, B9.out⟩
  | true =>
    obtain ⟨d0, d1, d2, d3, d4⟩ := CL.out u2 B2.out
    have CM := hide (refchkM_any S m ⟨op, nm, vl, va, vn, vc, ka, kn, kc⟩ u2 (SM.out u2 B2.out))
    dsimp only at CM
    clear ht
    go_wp2_with fail
    with_reducible refine CM.out.mono ?_
    rintro e u3 ⟨rfl, b3⟩
    have B3 := hide (bel_to B2.out (Nat.le_refl _) b3)
    have X3 := hide (HI.out.below X2.out b3)
    have Y3 := hide (Y2.out.below b3)
    clear d0 d1 d2 d3 d4 b3 CM B2 X2 Y2
    cases hck : chkM m with
    | false =>
      have AW := hide (awakeX_of HI.out u3)
      go_wp2_with fail
      with_reducible refine AW.out.mono ?_
      rintro e v9 ⟨rfl, b9⟩
      have B9 := hide (BA.out.trans ((bel_to B3.out (Nat.le_refl _) b9).mono BA.out.size))
      clear b9 AW
      go_wp2
      go_ret
      exact ⟨rfl, B9.out⟩
    | true =>
      obtain ⟨ax, cx, hc, -, -⟩ := Y3.out.open'
      have HC := hide hc
      obtain ⟨mm, hm⟩ : ∃ m, Hid (L.length = m) := ⟨_, rfl⟩
      rw [hm.out] at HC hL60
      have HLN : Hid (∀ k, (idxs (evalP m) 0 (L.take k)).length ≤ 5000) := fun k => by
        have h1 := idxs_len (evalP m) 0 (L.take k)
        have h2 := hm.out
        rw [List.length_take] at h1
        omega
      have EV := hide (fun l al nl cl W (hW : Below wb.heap.size wb W) (hr : RowL W al nl l) => evalT_any l S m ⟨op, nm, vl, va, vn, vc, ka, kn, kc⟩ al nl cl W (SM.out W hW) hck hr)
      dsimp only at EV
      have LB : Hid (∀ (k : Nat) x, L[k]? = some x → atX L (k : Int) = some x ∧ ∀ (W : World) base a n c, OwnL W base a n c x → RowL W a n x) := fun k x hx => by
        refine ⟨by unfold atX; rw [if_pos (by omega), Int.toNat_natCast]; exact hx, fun W base a n c ho => ho.row ?_ ?_⟩
        · have h1 := ho.len
          have h2 := chkL_parts (GX.out x (List.mem_of_getElem? hx))
          omega
        · intro y hy
          have h2 := (chkL_parts (GX.out x (List.mem_of_getElem? hx))).2.2 y hy
          have h3 := h2.1
          unfold nameB at h3
          simp only [Bool.and_eq_true, decide_eq_true_eq] at h3
          exact ⟨by omega, by omega⟩
      clear hc
      go_wp2
      go_loopw [8, 9] (fun o i wr => ∃ (k : Nat) (ao : Option Addr) (M co : Nat), k ≤ mm ∧ i = .int .i64 k ∧ o = .slice ao M co ∧ M ≤ 5000 ∧ Hid (MineI wr u3.heap.size ao M co (idxs (evalP m) 0 (L.take k))) ∧ Hid (Below u3.heap.size u3 wr)) (fun _ i _ => mm - (intOf i).toNat)
      case atStart => exact ⟨0, none, 0, 0, by omega, rfl, rfl, by omega, own_nil _ _ _ _, Below.refl _ _⟩
      case round =>
        obtain ⟨k, ao, M, co, hk, rfl, rfl, hM, OW, BW⟩ := hrel
        obtain ⟨u, rfl⟩ : ∃ u, u = wr := ⟨wr, rfl⟩
        have hcu : u.cell? ⟨g2, 0, none⟩ = some (.slice ax mm cx) := by
          rw [BW.out.cell (p := ⟨g2, 0, none⟩) (World.block_lt_of_cell? u3 _ HC.out)]
          exact HC.out
        have X4 := hide (HI.out.below X3.out BW.out)
        have B4 := hide (bel_to B3.out (Nat.le_refl _) BW.out)
        by_cases hlt : k < mm
        · have hx : L[k]? = some (L[k]'(by rw [hm.out]; exact hlt)) := List.getElem?_eq_getElem _
          generalize L[k]'(by rw [hm.out]; exact hlt) = x at hx
          obtain ⟨hx1, hx2⟩ := LB.out k x hx
          have HX2 := hide hx2
          have LA := hide (HI.out.labels g1 S1 L (k : Int) u X4.out (by simp [Lit.wf, IntKind.min, IntKind.max, IntKind.signed, IntKind.bits]; omega))
          rw [hx1] at LA
          have ST := hide (idxs_step (p := evalP m) hx)
          have i1 : (0 : Int) ≤ (k : Int) := by omega
          have i2 : (k : Int) < (mm : Int) := by omega
          clear hx hx1 hx2
          go_wp2_with fail
          with_reducible refine LA.out.mono ?_
          rintro e v1 ⟨b5, al, cl, rfl, o5⟩
          have B5 := hide (bel_to B4.out (Nat.le_refl _) b5)
          have BW5 := hide (bel_to BW.out (Nat.le_refl _) b5)
          have O5 := hide (OW.out.below b5 (Nat.le_refl _))
          have EX := hide (EV.out x al x.length cl v1 B5.out (HX2.out _ _ _ _ _ o5))
          obtain ⟨d0, d1, d2, d3, d4⟩ := CL.out v1 B5.out
          clear o5 b5 LA B4 BW OW hcu X4 HX2
          go_wp2_with fail
          with_reducible refine EX.out.mono ?_
          rintro e v2 ⟨rfl, b6⟩
          have B6 := hide (bel_to BW5.out (Nat.le_refl _) b6)
          have O6 := hide (O5.out.below b6 (Nat.le_refl _))
          clear d0 d1 d2 d3 d4 b6 EX B5 BW5 O5
          cases hp : evalP m x with
          | true =>
            rw [hp, if_pos rfl] at ST
            rw [show evalM x m = true from hp]
            clear hp
            have RV := hide ((one_introw v2 (k : Int) 3).2 (by simp [Lit.wf, IntKind.min, IntKind.max, IntKind.signed, IntKind.bits]; omega))
            have OA := hide O6.out.alloc
            go_wp2_with (at_builtin; refine wpList_append_ints _ rfl _ _ 33 rfl u3.heap.size 3 i0 Tryz.underlying33 hi hz0 hz1 hz2 ao M co _ rfl (OA.out _) (some ⟨v2.heap.size, 0, none⟩) 1 1 [(k : Int)] rfl RV.out (fun h => by cases h) (by omega) (Nat.le_trans B6.out.size (by simp)) ?_)
            intro a7 c7 w7 o7 b7 _
            rw [← ST.out] at o7
            have hM7 : M + 1 ≤ 5000 := by rw [← o7.len]; exact HLN.out (k + 1)
            have O7 := hide o7
            have B7 := hide ((bel_al B6.out (Nat.le_refl _) _).trans b7)
            clear o7 b7 OA RV O6 B6 ST
            go_wp2
            go_roundw
            case rel => exact ⟨k + 1, a7, M + 1, c7, by omega, by go_num, rfl, hM7, O7, B7⟩
            case measure => simp [intOf]; omega
          | false =>
            rw [hp, if_neg (by decide), List.append_nil] at ST
            rw [show evalM x m = false from hp]
            clear hp
            rw [← ST.out] at O6
            clear ST
            go_wp2
            go_roundw
            case rel => exact ⟨k + 1, ao, M, co, by omega, by go_num, rfl, hM, O6, B6⟩
            case measure => simp [intOf]; omega
        · have i2 : ¬ (k : Int) < (mm : Int) := by omega
          have O5 : Hid (MineI u u3.heap.size ao M co (selX L m)) := by
            have := OW.out
            rw [List.take_of_length_le (by rw [hm.out]; omega)] at this
            exact this
          have SX := hide (HS.out.sel g1 S1 S L m ⟨op, nm, vl, va, vn, vc, ka, kn, kc⟩ u X4.out (SM.out u B4.out))
          obtain ⟨d0, d1, d2, d3, d4⟩ := CL.out u B4.out
          dsimp only at SX
          go_wp2_with fail
          with_reducible refine SX.out.mono ?_
          rintro e v1 ⟨b5, p5⟩
          rw [if_pos hck] at p5
          obtain ⟨a5, n5, c5, rfl, o5⟩ := p5
          have SI := hide (samei_any a5 n5 c5 _ ao M co _ v1 (MSL.out _ _ _ _ _ o5) ((MSL.out _ _ _ _ _ O5.out).below b5 (Nat.le_refl _)))
          rw [decide_eq_true (rfl : selX L m = selX L m)] at SI
          have B5 := hide (bel_to B4.out (Nat.le_refl _) b5)
          clear o5 b5 SX d0 d1 d2 d3 d4 hcu
          go_wp2_with fail
          with_reducible refine SI.out.mono ?_
          rintro e v2 ⟨rfl, b6⟩
          have B6 := hide (bel_to B5.out (Nat.le_refl _) b6)
          clear b6 SI B5
          have AW := hide (awakeX_of HI.out v2)
          go_wp2_with fail
          with_reducible refine AW.out.mono ?_
          rintro e v9 ⟨rfl, b9⟩
          have B9 := hide (BA.out.trans ((bel_to B6.out (Nat.le_refl _) b9).mono BA.out.size))
          clear b9 AW
          go_wp2
          go_ret
          exact ⟨rfl, B9.out⟩
end Go.Proofs.YtpffhpnmbpjifaaGreat
