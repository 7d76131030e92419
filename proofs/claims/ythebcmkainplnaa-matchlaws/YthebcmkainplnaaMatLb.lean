/-
  The document's look at a matcher of Among: a contract, for every world: the count alone turns (written by gen/matlb.gen.py).
  Conditions: the matcher lies in blocks apart from the count's.
-/
import Derived.Test.YthebcmkainplnaaMatLa
namespace Go.Proofs.Ythebcmkainplnaa
open Go.RowKit
set_option maxRecDepth 20000

theorem sumB'_take {vs : List ByteArray} {j : Nat} {s : ByteArray} (h : vs[j]? = some s) : sumB' (vs.take (j + 1)) = sumB' (vs.take j) + s.size := by
  unfold sumB'
  rw [List.take_add_one, h]
  simp
theorem sumB'_le (vs : List ByteArray) (j : Nat) : sumB' (vs.take j) ≤ sumB' vs := by
  have : sumB' vs = sumB' (vs.take j) + sumB' (vs.drop j) := by
    unfold sumB'
    rw [← List.sum_append_nat, ← List.map_append, List.take_append_drop]
  omega
/-- How the count stands behind the name and j values. -/
def Stand4 (ok : Bool) (n b : Nat) (nm : ByteArray) (vs : List ByteArray) (j b' : Nat) (bad : Bool) : Prop :=
  (bad = true ∧ lookR ok n b (nm.size + sumB' vs) = none) ∨ (bad = false ∧ ok = true ∧ b' = b + nm.size + sumB' (vs.take j))
theorem stand4_start {ok bad : Bool} {n b b1 : Nat} {nm : ByteArray} {vs : List ByteArray} (m : MoreT b b1 (!ok) bad nm) : Stand4 ok n b nm vs 0 b1 bad := by
  unfold MoreT at m
  unfold Stand4 lookR
  by_cases a : 4096 < b + nm.size
  · rw [if_pos a] at m
    exact Or.inl ⟨m, by rw [if_neg (by omega)]⟩
  · rw [if_neg a] at m
    obtain ⟨rfl, rfl⟩ := m
    cases ok with
    | false => exact Or.inl ⟨rfl, by rw [if_neg (by simp)]⟩
    | true => exact Or.inr ⟨rfl, rfl, by rw [List.take_zero]; rfl⟩
theorem stand4_step {ok bad : Bool} {n b b1 b2 j : Nat} {nm s : ByteArray} {vs : List ByteArray} (q : Stand4 ok n b nm vs j b1 false) (hs : vs[j]? = some s) (m : MoreT b1 b2 false bad s) : Stand4 ok n b nm vs (j + 1) b2 bad := by
  rcases q with ⟨h, _⟩ | ⟨_, h1, h2⟩
  · cases h
  · unfold MoreT at m
    have ht := sumB'_take hs
    have hl := sumB'_le vs (j + 1)
    by_cases a : 4096 < b1 + s.size
    · rw [if_pos a] at m
      exact Or.inl ⟨m, by unfold lookR; rw [if_neg (by omega)]⟩
    · rw [if_neg a] at m
      exact Or.inr ⟨m.1, h1, by omega⟩
theorem stand4_end {ok bad : Bool} {n b b' g : Nat} {nm : ByteArray} {vs : List ByteArray} {u : World} (q : Stand4 ok n b nm vs vs.length b' bad) (hb : b' ≤ 4096) (s : SZ u g ((n : Int) + 1) b' bad) :
    match lookR ok n b (nm.size + sumB' vs) with
    | none => ∃ n b : Int, SZ u g n b true
    | some r => SZ u g r.1 r.2 false := by
  rcases q with ⟨rfl, h⟩ | ⟨rfl, rfl, h2⟩
  · rw [h]; exact ⟨_, _, s⟩
  · rw [List.take_length] at h2
    unfold lookR
    rw [if_pos ⟨rfl, by omega⟩, show b + (nm.size + sumB' vs) = b' by omega]
    exact s
theorem stand4_bad {ok : Bool} {n b b' g j : Nat} {nm : ByteArray} {vs : List ByteArray} {u : World} (q : Stand4 ok n b nm vs j b' true) (s : SZ u g ((n : Int) + 1) b' true) :
    match lookR ok n b (nm.size + sumB' vs) with
    | none => ∃ n b : Int, SZ u g n b true
    | some r => SZ u g r.1 r.2 false := by
  rcases q with ⟨_, h⟩ | ⟨h, _⟩
  · rw [h]; exact ⟨_, _, s⟩
  · cases h

set_option maxHeartbeats 8000000 in
theorem look_4 (S : Nat → Prop) (nm vl : ByteArray) (va : Option Addr) (vn vc : Nat) (ka : Option Addr) (kn kc : Nat) (vs : List ByteArray) (d n b g : Nat) (w : World) (hw : HmW ⟨4, nm, vl, va, vn, vc, ka, kn, kc⟩) (hv : TxR S w va vn vs) (hS : ∀ k, S k → k ≠ g) (hb : SZ w g n b false) (hd : d ≤ 8) (hn : n < 64) (hb4 : b ≤ 4096) :
    Calls Try.prog 30 #[.pointer (some ⟨g, 0, none⟩), .agg #[.int .i64 4, .string nm, .string vl, .slice va vn vc, .slice ka kn kc], .int .i64 d] w fun e w' => LookP (lookR ((decide (vl.size = 0) && decide (kn = 0)) && (nameB nm && valsB vs)) n b (nm.size + sumB' vs)) g w w' e := by
  have C := hide (fun W => bare_ftf ⟨4, nm, vl, va, vn, vc, ka, kn, kc⟩ W hw)
  dsimp only at C
  have w1 : nm.size ≤ 9223372036854775807 := hw.nm
  have w2 : vl.size ≤ 9223372036854775807 := hw.vl
  have w3 : vn * 16 ≤ 140737488355328 := hv.2.1
  have CN := hide (fun W => refname_any nm W w1)
  have CV := hide (fun W (q : TxR S W va vn vs) => values_any S va vn vc vs W q)
  have HV := hide hv
  have HVL := hide hv.1
  have HS := hide hS
  generalize (decide (vl.size = 0) && decide (kn = 0)) = f at C ⊢
  generalize nameB nm = k at CN ⊢
  generalize valsB vs = t at CV ⊢
  obtain ⟨W, hW⟩ : ∃ W, Hid ((w.alloc (.cells #[.int .i64 4, .string nm, .string vl, .slice va vn vc, .slice ka kn kc] 25)).setCell ⟨g, 0, none⟩ (.int .i64 ((n : Int) + 1)) = W) := ⟨_, rfl⟩
  have B : Hid (Beg w W g n b ⟨4, nm, vl, va, vn, vc, ka, kn, kc⟩) := by rw [← hW.out]; exact beg_of (h := ⟨4, nm, vl, va, vn, vc, ka, kn, kc⟩) hb
  have HNE := hide B.out.ne
  have B1 := hide (hb.block (w' := w.alloc (.cells #[.int .i64 4, .string nm, .string vl, .slice va vn vc, .slice ka kn kc] 25)) (Below.heap_alloc w _ g hb.lt))
  obtain ⟨c0, _, _, cf⟩ := B1.out.cell
  have cf0 := cf 0
  obtain ⟨d0, d1, d2, _⟩ := B.out.cnt.cell
  obtain ⟨e0, e1, e2, e3, e4, _⟩ := B.out.box.all
  dsimp only at e0 e1 e2 e3 e4
  have a1 : ¬ (64 : Int) < (n : Int) + 1 := by omega
  have a2 : ¬ (8 : Int) < (d : Int) := by omega
  clear hb B1 cf hw hv hS
  go_enter Try.func30, Try.ntmps30
  go_upto_region 2 with fail
  rw [hW.out]
  clear hW c0 cf0
  go_wp2_with fail
  with_reducible refine (C.out _).mono ?_
  rintro e v ⟨rfl, b2⟩
  have B2 := hide (B.out.below b2)
  clear b2 d0 d1 d2 e0 e1 e2 e3 e4 B C
  obtain ⟨d0, d1, d2, df⟩ := B2.out.cnt.cell
  have df2 := df 2
  obtain ⟨e0, e1, e2, e3, e4, _⟩ := B2.out.box.all
  dsimp only at e0 e1 e2 e3 e4
  clear df
  cases f with
  | false =>
    have S0 : Hid (BoxM (v.setCell ⟨g, 2, none⟩ (.bool true)) w.heap.size ⟨4, nm, vl, va, vn, vc, ka, kn, kc⟩ ∧ SZ (v.setCell ⟨g, 2, none⟩ (.bool true)) g ((n : Int) + 1) b true ∧ Ch (fun k => k = g) w (v.setCell ⟨g, 2, none⟩ (.bool true))) := ⟨B2.out.box.block (Below.heap_setCell _ _ _ _ B2.out.ne), B2.out.cnt.mark _, B2.out.ch.trans (ch_set v g 2 _)⟩
    go_upto_region 16 with fail
    generalize v.setCell ⟨g, 2, none⟩ (.bool true) = u at S0 ⊢
    clear e0 e1 e2 e3 e4 d0 d1 d2 df2
    obtain ⟨S1, S2, S3⟩ := S0.out
    obtain ⟨e0, e1, e2, e3, e4, _⟩ := S1.all
    dsimp only at e0 e1 e2 e3 e4
    have T1 := hide (sztext_any nm g ((n : Int) + 1) b true u w1 hb4 S2)
    have HH := hide (And.intro S1 S3)
    clear S0 S1 S2 S3
    go_wp2_with fail
    with_reducible refine T1.out.mono ?_
    rintro e u1 ⟨rfl, c1, b1, bad1, s1, hb1, m1⟩
    have M1 : Hid (Stand4 (false && (k && t)) n b nm vs 0 b1 bad1) := stand4_start m1
    have X1 := hide (HH.out.1.block (c1.block _ HH.out.1.lt HNE.out))
    have C1 := hide (HH.out.2.trans c1)
    have SS1 := hide s1
    clear e0 e1 e2 e3 e4 c1 s1 m1 HH T1
    go_wp2
    go_loopw [6] (fun i wr => ∃ (j b' : Nat) (bad' : Bool), j ≤ vn ∧ i = .int .i64 j ∧ b' ≤ 4096 ∧ Hid (SZ wr g ((n : Int) + 1) b' bad') ∧ Hid (BoxM wr w.heap.size ⟨4, nm, vl, va, vn, vc, ka, kn, kc⟩) ∧ Hid (Ch (fun k => k = g) w wr) ∧ Hid (Stand4 (false && (k && t)) n b nm vs j b' bad')) (fun i _ => vn - (intOf i).toNat)
    case atStart => exact ⟨0, b1, bad1, by omega, rfl, hb1, SS1, X1, C1, M1⟩
    case round =>
      obtain ⟨j, b', bad', hj, rfl, hb', HZ, HX, HC, HM⟩ := hrel
      obtain ⟨u3, rfl⟩ : ∃ u3, u3 = wr := ⟨wr, rfl⟩
      clear SS1 X1 C1 M1
      obtain ⟨e0, e1, e2, e3, e4, _⟩ := HX.out.all
      dsimp only at e0 e1 e2 e3 e4
      obtain ⟨d0, d1, d2, _⟩ := HZ.out.cell
      by_cases hlt : j < vn
      · have i1 : (0 : Int) ≤ (j : Int) := by omega
        have i2 : (j : Int) < (vn : Int) := by omega
        cases bad' with
        | true =>
          go_wp2
          go_end0
          exact ⟨rfl, HC.out, stand4_bad HM.out HZ.out⟩
        | false =>
          obtain ⟨x1, y1, s, rfl, hs, hsz, _, hc⟩ := (HV.out.ch HC.out (fun k hk => HS.out k hk)).at' hlt
          have HXS := hide hs
          have T2 := hide (sztext_any s g ((n : Int) + 1) b' false u3 hsz hb' HZ.out)
          clear hs
          go_wp2_with fail
          with_reducible refine T2.out.mono ?_
          rintro e u4 ⟨rfl, c4, b5, bad5, s5, hb5, m5⟩
          have M5 := hide (stand4_step HM.out HXS.out m5)
          have X5 := hide (HX.out.block (c4.block _ HX.out.lt HNE.out))
          have C5 := hide (HC.out.trans c4)
          have S5 := hide s5
          clear c4 s5 m5 T2 e0 e1 e2 e3 e4 d0 d1 d2 hc
          go_wp2
          go_roundw
          case rel => exact ⟨j + 1, b5, bad5, by omega, by go_num, hb5, S5, X5, C5, M5⟩
          case measure => simp [intOf]; omega
      · obtain ⟨j0, hj0⟩ : ∃ j0, j0 = j := ⟨j, rfl⟩
        have : vn = j0 := by omega
        subst this
        subst hj0
        have HE := hide (stand4_end (u := u3) (g := g) (by rw [HVL.out]; exact HM.out) hb' HZ.out)
        go_wp2
        go_end0
        exact ⟨rfl, HC.out, HE.out⟩
  | true =>
    go_wp2_with fail
    with_reducible refine (CN.out _).mono ?_
    rintro e v3 ⟨rfl, hq⟩
    have B3 : Hid (Beg w v3 g n b ⟨4, nm, vl, va, vn, vc, ka, kn, kc⟩) := by rw [hq]; exact B2.out
    clear hq B2 d0 d1 d2 df2 e0 e1 e2 e3 e4 CN
    obtain ⟨d0, d1, d2, df⟩ := B3.out.cnt.cell
    have df2 := df 2
    obtain ⟨e0, e1, e2, e3, e4, _⟩ := B3.out.box.all
    dsimp only at e0 e1 e2 e3 e4
    clear df
    cases k with
    | false =>
      have S0 : Hid (BoxM (v3.setCell ⟨g, 2, none⟩ (.bool true)) w.heap.size ⟨4, nm, vl, va, vn, vc, ka, kn, kc⟩ ∧ SZ (v3.setCell ⟨g, 2, none⟩ (.bool true)) g ((n : Int) + 1) b true ∧ Ch (fun k => k = g) w (v3.setCell ⟨g, 2, none⟩ (.bool true))) := ⟨B3.out.box.block (Below.heap_setCell _ _ _ _ B3.out.ne), B3.out.cnt.mark _, B3.out.ch.trans (ch_set v3 g 2 _)⟩
      go_upto_region 16 with fail
      generalize v3.setCell ⟨g, 2, none⟩ (.bool true) = u at S0 ⊢
      clear e0 e1 e2 e3 e4 d0 d1 d2 df2
      obtain ⟨S1, S2, S3⟩ := S0.out
      obtain ⟨e0, e1, e2, e3, e4, _⟩ := S1.all
      dsimp only at e0 e1 e2 e3 e4
      have T1 := hide (sztext_any nm g ((n : Int) + 1) b true u w1 hb4 S2)
      have HH := hide (And.intro S1 S3)
      clear S0 S1 S2 S3
      go_wp2_with fail
      with_reducible refine T1.out.mono ?_
      rintro e u1 ⟨rfl, c1, b1, bad1, s1, hb1, m1⟩
      have M1 : Hid (Stand4 (true && (false && t)) n b nm vs 0 b1 bad1) := stand4_start m1
      have X1 := hide (HH.out.1.block (c1.block _ HH.out.1.lt HNE.out))
      have C1 := hide (HH.out.2.trans c1)
      have SS1 := hide s1
      clear e0 e1 e2 e3 e4 c1 s1 m1 HH T1
      go_wp2
      go_loopw [6] (fun i wr => ∃ (j b' : Nat) (bad' : Bool), j ≤ vn ∧ i = .int .i64 j ∧ b' ≤ 4096 ∧ Hid (SZ wr g ((n : Int) + 1) b' bad') ∧ Hid (BoxM wr w.heap.size ⟨4, nm, vl, va, vn, vc, ka, kn, kc⟩) ∧ Hid (Ch (fun k => k = g) w wr) ∧ Hid (Stand4 (true && (false && t)) n b nm vs j b' bad')) (fun i _ => vn - (intOf i).toNat)
      case atStart => exact ⟨0, b1, bad1, by omega, rfl, hb1, SS1, X1, C1, M1⟩
      case round =>
        obtain ⟨j, b', bad', hj, rfl, hb', HZ, HX, HC, HM⟩ := hrel
        obtain ⟨u3, rfl⟩ : ∃ u3, u3 = wr := ⟨wr, rfl⟩
        clear SS1 X1 C1 M1
        obtain ⟨e0, e1, e2, e3, e4, _⟩ := HX.out.all
        dsimp only at e0 e1 e2 e3 e4
        obtain ⟨d0, d1, d2, _⟩ := HZ.out.cell
        by_cases hlt : j < vn
        · have i1 : (0 : Int) ≤ (j : Int) := by omega
          have i2 : (j : Int) < (vn : Int) := by omega
          cases bad' with
          | true =>
            go_wp2
            go_end0
            exact ⟨rfl, HC.out, stand4_bad HM.out HZ.out⟩
          | false =>
            obtain ⟨x1, y1, s, rfl, hs, hsz, _, hc⟩ := (HV.out.ch HC.out (fun k hk => HS.out k hk)).at' hlt
            have HXS := hide hs
            have T2 := hide (sztext_any s g ((n : Int) + 1) b' false u3 hsz hb' HZ.out)
            clear hs
            go_wp2_with fail
            with_reducible refine T2.out.mono ?_
            rintro e u4 ⟨rfl, c4, b5, bad5, s5, hb5, m5⟩
            have M5 := hide (stand4_step HM.out HXS.out m5)
            have X5 := hide (HX.out.block (c4.block _ HX.out.lt HNE.out))
            have C5 := hide (HC.out.trans c4)
            have S5 := hide s5
            clear c4 s5 m5 T2 e0 e1 e2 e3 e4 d0 d1 d2 hc
            go_wp2
            go_roundw
            case rel => exact ⟨j + 1, b5, bad5, by omega, by go_num, hb5, S5, X5, C5, M5⟩
            case measure => simp [intOf]; omega
        · obtain ⟨j0, hj0⟩ : ∃ j0, j0 = j := ⟨j, rfl⟩
          have : vn = j0 := by omega
          subst this
          subst hj0
          have HE := hide (stand4_end (u := u3) (g := g) (by rw [HVL.out]; exact HM.out) hb' HZ.out)
          go_wp2
          go_end0
          exact ⟨rfl, HC.out, HE.out⟩
    | true =>
      go_wp2_with fail
      with_reducible refine (CV.out _ (HV.out.ch B3.out.ch (fun k hk => HS.out k hk))).mono ?_
      rintro e v4 ⟨rfl, q, hq⟩
      have B4 : Hid (Beg w v4 g n b ⟨4, nm, vl, va, vn, vc, ka, kn, kc⟩) := by rw [hq]; exact B3.out.below (bel_drewN (Below.refl _ _) q)
      clear hq B3 d0 d1 d2 df2 e0 e1 e2 e3 e4 CV
      obtain ⟨d0, d1, d2, df⟩ := B4.out.cnt.cell
      have df2 := df 2
      obtain ⟨e0, e1, e2, e3, e4, _⟩ := B4.out.box.all
      dsimp only at e0 e1 e2 e3 e4
      clear df
      cases t with
      | false =>
        have S0 : Hid (BoxM (v4.setCell ⟨g, 2, none⟩ (.bool true)) w.heap.size ⟨4, nm, vl, va, vn, vc, ka, kn, kc⟩ ∧ SZ (v4.setCell ⟨g, 2, none⟩ (.bool true)) g ((n : Int) + 1) b true ∧ Ch (fun k => k = g) w (v4.setCell ⟨g, 2, none⟩ (.bool true))) := ⟨B4.out.box.block (Below.heap_setCell _ _ _ _ B4.out.ne), B4.out.cnt.mark _, B4.out.ch.trans (ch_set v4 g 2 _)⟩
        go_upto_region 16 with fail
        generalize v4.setCell ⟨g, 2, none⟩ (.bool true) = u at S0 ⊢
        clear e0 e1 e2 e3 e4 d0 d1 d2 df2
        obtain ⟨S1, S2, S3⟩ := S0.out
        obtain ⟨e0, e1, e2, e3, e4, _⟩ := S1.all
        dsimp only at e0 e1 e2 e3 e4
        have T1 := hide (sztext_any nm g ((n : Int) + 1) b true u w1 hb4 S2)
        have HH := hide (And.intro S1 S3)
        clear S0 S1 S2 S3
        go_wp2_with fail
        with_reducible refine T1.out.mono ?_
        rintro e u1 ⟨rfl, c1, b1, bad1, s1, hb1, m1⟩
        have M1 : Hid (Stand4 (true && (true && false)) n b nm vs 0 b1 bad1) := stand4_start m1
        have X1 := hide (HH.out.1.block (c1.block _ HH.out.1.lt HNE.out))
        have C1 := hide (HH.out.2.trans c1)
        have SS1 := hide s1
        clear e0 e1 e2 e3 e4 c1 s1 m1 HH T1
        go_wp2
        go_loopw [6] (fun i wr => ∃ (j b' : Nat) (bad' : Bool), j ≤ vn ∧ i = .int .i64 j ∧ b' ≤ 4096 ∧ Hid (SZ wr g ((n : Int) + 1) b' bad') ∧ Hid (BoxM wr w.heap.size ⟨4, nm, vl, va, vn, vc, ka, kn, kc⟩) ∧ Hid (Ch (fun k => k = g) w wr) ∧ Hid (Stand4 (true && (true && false)) n b nm vs j b' bad')) (fun i _ => vn - (intOf i).toNat)
        case atStart => exact ⟨0, b1, bad1, by omega, rfl, hb1, SS1, X1, C1, M1⟩
        case round =>
          obtain ⟨j, b', bad', hj, rfl, hb', HZ, HX, HC, HM⟩ := hrel
          obtain ⟨u3, rfl⟩ : ∃ u3, u3 = wr := ⟨wr, rfl⟩
          clear SS1 X1 C1 M1
          obtain ⟨e0, e1, e2, e3, e4, _⟩ := HX.out.all
          dsimp only at e0 e1 e2 e3 e4
          obtain ⟨d0, d1, d2, _⟩ := HZ.out.cell
          by_cases hlt : j < vn
          · have i1 : (0 : Int) ≤ (j : Int) := by omega
            have i2 : (j : Int) < (vn : Int) := by omega
            cases bad' with
            | true =>
              go_wp2
              go_end0
              exact ⟨rfl, HC.out, stand4_bad HM.out HZ.out⟩
            | false =>
              obtain ⟨x1, y1, s, rfl, hs, hsz, _, hc⟩ := (HV.out.ch HC.out (fun k hk => HS.out k hk)).at' hlt
              have HXS := hide hs
              have T2 := hide (sztext_any s g ((n : Int) + 1) b' false u3 hsz hb' HZ.out)
              clear hs
              go_wp2_with fail
              with_reducible refine T2.out.mono ?_
              rintro e u4 ⟨rfl, c4, b5, bad5, s5, hb5, m5⟩
              have M5 := hide (stand4_step HM.out HXS.out m5)
              have X5 := hide (HX.out.block (c4.block _ HX.out.lt HNE.out))
              have C5 := hide (HC.out.trans c4)
              have S5 := hide s5
              clear c4 s5 m5 T2 e0 e1 e2 e3 e4 d0 d1 d2 hc
              go_wp2
              go_roundw
              case rel => exact ⟨j + 1, b5, bad5, by omega, by go_num, hb5, S5, X5, C5, M5⟩
              case measure => simp [intOf]; omega
          · obtain ⟨j0, hj0⟩ : ∃ j0, j0 = j := ⟨j, rfl⟩
            have : vn = j0 := by omega
            subst this
            subst hj0
            have HE := hide (stand4_end (u := u3) (g := g) (by rw [HVL.out]; exact HM.out) hb' HZ.out)
            go_wp2
            go_end0
            exact ⟨rfl, HC.out, HE.out⟩
      | true =>
        have S0 : Hid (BoxM (v4.setCell ⟨g, 2, none⟩ (.bool false)) w.heap.size ⟨4, nm, vl, va, vn, vc, ka, kn, kc⟩ ∧ SZ (v4.setCell ⟨g, 2, none⟩ (.bool false)) g ((n : Int) + 1) b false ∧ Ch (fun k => k = g) w (v4.setCell ⟨g, 2, none⟩ (.bool false))) := ⟨B4.out.box.block (Below.heap_setCell _ _ _ _ B4.out.ne), B4.out.cnt.mark _, B4.out.ch.trans (ch_set v4 g 2 _)⟩
        go_upto_region 16 with fail
        generalize v4.setCell ⟨g, 2, none⟩ (.bool false) = u at S0 ⊢
        clear e0 e1 e2 e3 e4 d0 d1 d2 df2
        obtain ⟨S1, S2, S3⟩ := S0.out
        obtain ⟨e0, e1, e2, e3, e4, _⟩ := S1.all
        dsimp only at e0 e1 e2 e3 e4
        have T1 := hide (sztext_any nm g ((n : Int) + 1) b false u w1 hb4 S2)
        have HH := hide (And.intro S1 S3)
        clear S0 S1 S2 S3
        go_wp2_with fail
        with_reducible refine T1.out.mono ?_
        rintro e u1 ⟨rfl, c1, b1, bad1, s1, hb1, m1⟩
        have M1 : Hid (Stand4 (true && (true && true)) n b nm vs 0 b1 bad1) := stand4_start m1
        have X1 := hide (HH.out.1.block (c1.block _ HH.out.1.lt HNE.out))
        have C1 := hide (HH.out.2.trans c1)
        have SS1 := hide s1
        clear e0 e1 e2 e3 e4 c1 s1 m1 HH T1
        go_wp2
        go_loopw [6] (fun i wr => ∃ (j b' : Nat) (bad' : Bool), j ≤ vn ∧ i = .int .i64 j ∧ b' ≤ 4096 ∧ Hid (SZ wr g ((n : Int) + 1) b' bad') ∧ Hid (BoxM wr w.heap.size ⟨4, nm, vl, va, vn, vc, ka, kn, kc⟩) ∧ Hid (Ch (fun k => k = g) w wr) ∧ Hid (Stand4 (true && (true && true)) n b nm vs j b' bad')) (fun i _ => vn - (intOf i).toNat)
        case atStart => exact ⟨0, b1, bad1, by omega, rfl, hb1, SS1, X1, C1, M1⟩
        case round =>
          obtain ⟨j, b', bad', hj, rfl, hb', HZ, HX, HC, HM⟩ := hrel
          obtain ⟨u3, rfl⟩ : ∃ u3, u3 = wr := ⟨wr, rfl⟩
          clear SS1 X1 C1 M1
          obtain ⟨e0, e1, e2, e3, e4, _⟩ := HX.out.all
          dsimp only at e0 e1 e2 e3 e4
          obtain ⟨d0, d1, d2, _⟩ := HZ.out.cell
          by_cases hlt : j < vn
          · have i1 : (0 : Int) ≤ (j : Int) := by omega
            have i2 : (j : Int) < (vn : Int) := by omega
            cases bad' with
            | true =>
              go_wp2
              go_end0
              exact ⟨rfl, HC.out, stand4_bad HM.out HZ.out⟩
            | false =>
              obtain ⟨x1, y1, s, rfl, hs, hsz, _, hc⟩ := (HV.out.ch HC.out (fun k hk => HS.out k hk)).at' hlt
              have HXS := hide hs
              have T2 := hide (sztext_any s g ((n : Int) + 1) b' false u3 hsz hb' HZ.out)
              clear hs
              go_wp2_with fail
              with_reducible refine T2.out.mono ?_
              rintro e u4 ⟨rfl, c4, b5, bad5, s5, hb5, m5⟩
              have M5 := hide (stand4_step HM.out HXS.out m5)
              have X5 := hide (HX.out.block (c4.block _ HX.out.lt HNE.out))
              have C5 := hide (HC.out.trans c4)
              have S5 := hide s5
              clear c4 s5 m5 T2 e0 e1 e2 e3 e4 d0 d1 d2 hc
              go_wp2
              go_roundw
              case rel => exact ⟨j + 1, b5, bad5, by omega, by go_num, hb5, S5, X5, C5, M5⟩
              case measure => simp [intOf]; omega
          · obtain ⟨j0, hj0⟩ : ∃ j0, j0 = j := ⟨j, rfl⟩
            have : vn = j0 := by omega
            subst this
            subst hj0
            have HE := hide (stand4_end (u := u3) (g := g) (by rw [HVL.out]; exact HM.out) hb' HZ.out)
            go_wp2
            go_end0
            exact ⟨rfl, HC.out, HE.out⟩
end Go.Proofs.Ythebcmkainplnaa
