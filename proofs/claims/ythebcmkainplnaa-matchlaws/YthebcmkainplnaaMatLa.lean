/-
  The document's look at a matcher of Is, Isnt, Begins: contracts, for every world: the count alone turns (written by gen/matla.gen.py).
  Conditions: the matcher lies in blocks apart from the count's.
-/
import Derived.Test.YthebcmkainplnaaMatL
namespace Go.Proofs.Ythebcmkainplnaa
open Go.RowKit
set_option maxRecDepth 20000

/-- What is told of a part without kids: whether it may be, its bytes. -/
def lookR (ok : Bool) (n b s : Nat) : Option (Nat × Nat) := if ok = true ∧ b + s ≤ 4096 then some (n + 1, b + s) else none
theorem look_fin {bad bad1 bad2 : Bool} {n b b1 b2 g : Nat} {x y : ByteArray} {u : World} (m1 : MoreT b b1 bad bad1 x) (m2 : MoreT b1 b2 bad1 bad2 y) (s : SZ u g ((n : Int) + 1) b2 bad2) :
    match lookR (!bad) n b (x.size + y.size) with
    | none => ∃ n b : Int, SZ u g n b true
    | some r => SZ u g r.1 r.2 false := by
  unfold MoreT at m1 m2
  unfold lookR
  by_cases a1 : 4096 < b + x.size
  · rw [if_pos a1] at m1
    subst m1
    rw [if_neg (by omega)]
    have : bad2 = true := by
      by_cases a2 : 4096 < b1 + y.size
      · rwa [if_pos a2] at m2
      · rw [if_neg a2] at m2; exact m2.1
    subst this
    exact ⟨_, _, s⟩
  · rw [if_neg a1] at m1
    obtain ⟨rfl, rfl⟩ := m1
    by_cases a2 : 4096 < b + x.size + y.size
    · rw [if_pos a2] at m2
      subst m2
      rw [if_neg (by omega)]
      exact ⟨_, _, s⟩
    · rw [if_neg a2] at m2
      obtain ⟨rfl, rfl⟩ := m2
      cases bad2 with
      | true => rw [if_neg (by simp)]; exact ⟨_, _, s⟩
      | false =>
        rw [if_pos ⟨rfl, by omega⟩]
        rw [show b + (x.size + y.size) = b + x.size + y.size by omega]
        exact s

set_option maxHeartbeats 8000000 in
theorem look_1 (nm vl : ByteArray) (va : Option Addr) (vn vc : Nat) (ka : Option Addr) (kn kc : Nat) (d n b g : Nat) (w : World) (hw : HmW ⟨1, nm, vl, va, vn, vc, ka, kn, kc⟩) (hb : SZ w g n b false) (hd : d ≤ 8) (hn : n < 64) (hb4 : b ≤ 4096) :
    Calls Try.prog 30 #[.pointer (some ⟨g, 0, none⟩), .agg #[.int .i64 1, .string nm, .string vl, .slice va vn vc, .slice ka kn kc], .int .i64 d] w fun e w' => LookP (lookR ((decide (vn = 0) && decide (kn = 0)) && (nameB nm && decide (vl.size ≤ 64))) n b (nm.size + vl.size)) g w w' e := by
  have C := hide (fun W => bare_tff ⟨1, nm, vl, va, vn, vc, ka, kn, kc⟩ W hw)
  dsimp only at C
  have w1 : nm.size ≤ 9223372036854775807 := hw.nm
  have w2 : vl.size ≤ 9223372036854775807 := hw.vl
  have CN := hide (fun W => refname_any nm W w1)
  generalize (decide (vn = 0) && decide (kn = 0)) = f at C ⊢
  generalize nameB nm = k at CN ⊢
  generalize ht : decide (vl.size ≤ 64) = t
  have HT := hide ht
  clear ht
  obtain ⟨W, hW⟩ : ∃ W, Hid ((w.alloc (.cells #[.int .i64 1, .string nm, .string vl, .slice va vn vc, .slice ka kn kc] 25)).setCell ⟨g, 0, none⟩ (.int .i64 ((n : Int) + 1)) = W) := ⟨_, rfl⟩
  have B : Hid (Beg w W g n b ⟨1, nm, vl, va, vn, vc, ka, kn, kc⟩) := by rw [← hW.out]; exact beg_of (h := ⟨1, nm, vl, va, vn, vc, ka, kn, kc⟩) hb
  have HNE := hide B.out.ne
  have B1 := hide (hb.block (w' := w.alloc (.cells #[.int .i64 1, .string nm, .string vl, .slice va vn vc, .slice ka kn kc] 25)) (Below.heap_alloc w _ g hb.lt))
  obtain ⟨c0, _, _, cf⟩ := B1.out.cell
  have cf0 := cf 0
  obtain ⟨d0, d1, d2, _⟩ := B.out.cnt.cell
  obtain ⟨e0, e1, e2, e3, e4, _⟩ := B.out.box.all
  dsimp only at e0 e1 e2 e3 e4
  have a1 : ¬ (64 : Int) < (n : Int) + 1 := by omega
  have a2 : ¬ (8 : Int) < (d : Int) := by omega
  clear hb B1 cf hw
  go_enter Try.func30, Try.ntmps30
  go_upto_region 2 with fail
  rw [hW.out]
  clear hW c0 cf0
  go_wp2_with fail
  with_reducible refine (C.out _).mono ?_
  rintro e v ⟨rfl, b2⟩
  have B2 := hide (B.out.below b2)
  clear b2 d0 d1 d2 e0 e1 e2 e3 e4 B C
  obtain ⟨d0, d1, d2, df⟩ := B2.out.cnt.cell
  have df2 := df 2
  obtain ⟨e0, e1, e2, e3, e4, _⟩ := B2.out.box.all
  dsimp only at e0 e1 e2 e3 e4
  clear df
  cases f with
  | false =>
    have S0 : Hid (BoxM (v.setCell ⟨g, 2, none⟩ (.bool true)) w.heap.size ⟨1, nm, vl, va, vn, vc, ka, kn, kc⟩ ∧ SZ (v.setCell ⟨g, 2, none⟩ (.bool true)) g ((n : Int) + 1) b true ∧ Ch (fun k => k = g) w (v.setCell ⟨g, 2, none⟩ (.bool true))) := ⟨B2.out.box.block (Below.heap_setCell _ _ _ _ B2.out.ne), B2.out.cnt.mark _, B2.out.ch.trans (ch_set v g 2 _)⟩
    go_upto_region 12 with fail
    generalize v.setCell ⟨g, 2, none⟩ (.bool true) = u at S0 ⊢
    clear e0 e1 e2 e3 e4 d0 d1 d2 df2
    obtain ⟨S1, S2, S3⟩ := S0.out
    obtain ⟨e0, e1, e2, e3, e4, _⟩ := S1.all
    dsimp only at e0 e1 e2 e3 e4
    have T1 := hide (sztext_any nm g ((n : Int) + 1) b true u w1 hb4 S2)
    have HS := hide (And.intro S1 S3)
    clear S0 S1 S2 S3
    go_wp2_with fail
    with_reducible refine T1.out.mono ?_
    rintro e u1 ⟨rfl, c1, b1, bad1, s1, hb1, m1⟩
    have M1 := hide m1
    have X1 := hide (HS.out.1.block (c1.block _ HS.out.1.lt HNE.out))
    have C1 := hide (HS.out.2.trans c1)
    have T2 := hide (sztext_any vl g ((n : Int) + 1) b1 bad1 u1 w2 hb1 s1)
    clear e0 e1 e2 e3 e4 c1 s1 m1 HS T1 hb1
    obtain ⟨e0, e1, e2, e3, e4, _⟩ := X1.out.all
    dsimp only at e0 e1 e2 e3 e4
    go_wp2_with fail
    with_reducible refine T2.out.mono ?_
    rintro e u2 ⟨rfl, c2, b2, bad2, s2, _, m2⟩
    have M2 := hide m2
    have C2 := hide (C1.out.trans c2)
    have SS := hide s2
    clear e0 e1 e2 e3 e4 c2 s2 m2 C1 X1 T2
    go_wp2
    go_end0
    refine ⟨rfl, C2.out, ?_⟩
    exact look_fin M1.out M2.out SS.out
  | true =>
    go_wp2_with fail
    with_reducible refine (CN.out _).mono ?_
    rintro e v3 ⟨rfl, hq⟩
    have B3 : Hid (Beg w v3 g n b ⟨1, nm, vl, va, vn, vc, ka, kn, kc⟩) := by rw [hq]; exact B2.out
    clear hq B2 d0 d1 d2 df2 e0 e1 e2 e3 e4 CN
    obtain ⟨d0, d1, d2, df⟩ := B3.out.cnt.cell
    have df2 := df 2
    obtain ⟨e0, e1, e2, e3, e4, _⟩ := B3.out.box.all
    dsimp only at e0 e1 e2 e3 e4
    clear df
    cases k with
    | false =>
      have S0 : Hid (BoxM (v3.setCell ⟨g, 2, none⟩ (.bool true)) w.heap.size ⟨1, nm, vl, va, vn, vc, ka, kn, kc⟩ ∧ SZ (v3.setCell ⟨g, 2, none⟩ (.bool true)) g ((n : Int) + 1) b true ∧ Ch (fun k => k = g) w (v3.setCell ⟨g, 2, none⟩ (.bool true))) := ⟨B3.out.box.block (Below.heap_setCell _ _ _ _ B3.out.ne), B3.out.cnt.mark _, B3.out.ch.trans (ch_set v3 g 2 _)⟩
      go_upto_region 12 with fail
      generalize v3.setCell ⟨g, 2, none⟩ (.bool true) = u at S0 ⊢
      clear e0 e1 e2 e3 e4 d0 d1 d2 df2
      obtain ⟨S1, S2, S3⟩ := S0.out
      obtain ⟨e0, e1, e2, e3, e4, _⟩ := S1.all
      dsimp only at e0 e1 e2 e3 e4
      have T1 := hide (sztext_any nm g ((n : Int) + 1) b true u w1 hb4 S2)
      have HS := hide (And.intro S1 S3)
      clear S0 S1 S2 S3
      go_wp2_with fail
      with_reducible refine T1.out.mono ?_
      rintro e u1 ⟨rfl, c1, b1, bad1, s1, hb1, m1⟩
      have M1 := hide m1
      have X1 := hide (HS.out.1.block (c1.block _ HS.out.1.lt HNE.out))
      have C1 := hide (HS.out.2.trans c1)
      have T2 := hide (sztext_any vl g ((n : Int) + 1) b1 bad1 u1 w2 hb1 s1)
      clear e0 e1 e2 e3 e4 c1 s1 m1 HS T1 hb1
      obtain ⟨e0, e1, e2, e3, e4, _⟩ := X1.out.all
      dsimp only at e0 e1 e2 e3 e4
      go_wp2_with fail
      with_reducible refine T2.out.mono ?_
      rintro e u2 ⟨rfl, c2, b2, bad2, s2, _, m2⟩
      have M2 := hide m2
      have C2 := hide (C1.out.trans c2)
      have SS := hide s2
      clear e0 e1 e2 e3 e4 c2 s2 m2 C1 X1 T2
      go_wp2
      go_end0
      refine ⟨rfl, C2.out, ?_⟩
      exact look_fin M1.out M2.out SS.out
    | true =>
      by_cases hs : vl.size ≤ 64
      · have t1 : ¬ (64 : Int) < (vl.size : Int) := by omega
        have t2 : decide ((64 : Int) < (vl.size : Int)) = false := decide_eq_false t1
        obtain rfl : t = true := by rw [← HT.out]; exact decide_eq_true hs
        have S0 : Hid (BoxM (v3.setCell ⟨g, 2, none⟩ (.bool false)) w.heap.size ⟨1, nm, vl, va, vn, vc, ka, kn, kc⟩ ∧ SZ (v3.setCell ⟨g, 2, none⟩ (.bool false)) g ((n : Int) + 1) b false ∧ Ch (fun k => k = g) w (v3.setCell ⟨g, 2, none⟩ (.bool false))) := ⟨B3.out.box.block (Below.heap_setCell _ _ _ _ B3.out.ne), B3.out.cnt.mark _, B3.out.ch.trans (ch_set v3 g 2 _)⟩
        go_upto_region 12 with fail
        generalize v3.setCell ⟨g, 2, none⟩ (.bool false) = u at S0 ⊢
        clear e0 e1 e2 e3 e4 d0 d1 d2 df2
        obtain ⟨S1, S2, S3⟩ := S0.out
        obtain ⟨e0, e1, e2, e3, e4, _⟩ := S1.all
        dsimp only at e0 e1 e2 e3 e4
        have T1 := hide (sztext_any nm g ((n : Int) + 1) b false u w1 hb4 S2)
        have HS := hide (And.intro S1 S3)
        clear S0 S1 S2 S3
        go_wp2_with fail
        with_reducible refine T1.out.mono ?_
        rintro e u1 ⟨rfl, c1, b1, bad1, s1, hb1, m1⟩
        have M1 := hide m1
        have X1 := hide (HS.out.1.block (c1.block _ HS.out.1.lt HNE.out))
        have C1 := hide (HS.out.2.trans c1)
        have T2 := hide (sztext_any vl g ((n : Int) + 1) b1 bad1 u1 w2 hb1 s1)
        clear e0 e1 e2 e3 e4 c1 s1 m1 HS T1 hb1
        obtain ⟨e0, e1, e2, e3, e4, _⟩ := X1.out.all
        dsimp only at e0 e1 e2 e3 e4
        go_wp2_with fail
        with_reducible refine T2.out.mono ?_
        rintro e u2 ⟨rfl, c2, b2, bad2, s2, _, m2⟩
        have M2 := hide m2
        have C2 := hide (C1.out.trans c2)
        have SS := hide s2
        clear e0 e1 e2 e3 e4 c2 s2 m2 C1 X1 T2
        go_wp2
        go_end0
        refine ⟨rfl, C2.out, ?_⟩
        exact look_fin M1.out M2.out SS.out
      · have t1 : (64 : Int) < (vl.size : Int) := by omega
        have t2 : decide ((64 : Int) < (vl.size : Int)) = true := decide_eq_true t1
        obtain rfl : t = false := by rw [← HT.out]; exact decide_eq_false hs
        have S0 : Hid (BoxM (v3.setCell ⟨g, 2, none⟩ (.bool true)) w.heap.size ⟨1, nm, vl, va, vn, vc, ka, kn, kc⟩ ∧ SZ (v3.setCell ⟨g, 2, none⟩ (.bool true)) g ((n : Int) + 1) b true ∧ Ch (fun k => k = g) w (v3.setCell ⟨g, 2, none⟩ (.bool true))) := ⟨B3.out.box.block (Below.heap_setCell _ _ _ _ B3.out.ne), B3.out.cnt.mark _, B3.out.ch.trans (ch_set v3 g 2 _)⟩
        go_upto_region 12 with fail
        generalize v3.setCell ⟨g, 2, none⟩ (.bool true) = u at S0 ⊢
        clear e0 e1 e2 e3 e4 d0 d1 d2 df2
        obtain ⟨S1, S2, S3⟩ := S0.out
        obtain ⟨e0, e1, e2, e3, e4, _⟩ := S1.all
        dsimp only at e0 e1 e2 e3 e4
        have T1 := hide (sztext_any nm g ((n : Int) + 1) b true u w1 hb4 S2)
        have HS := hide (And.intro S1 S3)
        clear S0 S1 S2 S3
        go_wp2_with fail
        with_reducible refine T1.out.mono ?_
        rintro e u1 ⟨rfl, c1, b1, bad1, s1, hb1, m1⟩
        have M1 := hide m1
        have X1 := hide (HS.out.1.block (c1.block _ HS.out.1.lt HNE.out))
        have C1 := hide (HS.out.2.trans c1)
        have T2 := hide (sztext_any vl g ((n : Int) + 1) b1 bad1 u1 w2 hb1 s1)
        clear e0 e1 e2 e3 e4 c1 s1 m1 HS T1 hb1
        obtain ⟨e0, e1, e2, e3, e4, _⟩ := X1.out.all
        dsimp only at e0 e1 e2 e3 e4
        go_wp2_with fail
        with_reducible refine T2.out.mono ?_
        rintro e u2 ⟨rfl, c2, b2, bad2, s2, _, m2⟩
        have M2 := hide m2
        have C2 := hide (C1.out.trans c2)
        have SS := hide s2
        clear e0 e1 e2 e3 e4 c2 s2 m2 C1 X1 T2
        go_wp2
        go_end0
        refine ⟨rfl, C2.out, ?_⟩
        exact look_fin M1.out M2.out SS.out
set_option maxHeartbeats 8000000 in
theorem look_2 (nm vl : ByteArray) (va : Option Addr) (vn vc : Nat) (ka : Option Addr) (kn kc : Nat) (d n b g : Nat) (w : World) (hw : HmW ⟨2, nm, vl, va, vn, vc, ka, kn, kc⟩) (hb : SZ w g n b false) (hd : d ≤ 8) (hn : n < 64) (hb4 : b ≤ 4096) :
    Calls Try.prog 30 #[.pointer (some ⟨g, 0, none⟩), .agg #[.int .i64 2, .string nm, .string vl, .slice va vn vc, .slice ka kn kc], .int .i64 d] w fun e w' => LookP (lookR ((decide (vn = 0) && decide (kn = 0)) && (nameB nm && decide (vl.size ≤ 64))) n b (nm.size + vl.size)) g w w' e := by
  have C := hide (fun W => bare_tff ⟨2, nm, vl, va, vn, vc, ka, kn, kc⟩ W hw)
  dsimp only at C
  have w1 : nm.size ≤ 9223372036854775807 := hw.nm
  have w2 : vl.size ≤ 9223372036854775807 := hw.vl
  have CN := hide (fun W => refname_any nm W w1)
  generalize (decide (vn = 0) && decide (kn = 0)) = f at C ⊢
  generalize nameB nm = k at CN ⊢
  generalize ht : decide (vl.size ≤ 64) = t
  have HT := hide ht
  clear ht
  obtain ⟨W, hW⟩ : ∃ W, Hid ((w.alloc (.cells #[.int .i64 2, .string nm, .string vl, .slice va vn vc, .slice ka kn kc] 25)).setCell ⟨g, 0, none⟩ (.int .i64 ((n : Int) + 1)) = W) := ⟨_, rfl⟩
  have B : Hid (Beg w W g n b ⟨2, nm, vl, va, vn, vc, ka, kn, kc⟩) := by rw [← hW.out]; exact beg_of (h := ⟨2, nm, vl, va, vn, vc, ka, kn, kc⟩) hb
  have HNE := hide B.out.ne
  have B1 := hide (hb.block (w' := w.alloc (.cells #[.int .i64 2, .string nm, .string vl, .slice va vn vc, .slice ka kn kc] 25)) (Below.heap_alloc w _ g hb.lt))
  obtain ⟨c0, _, _, cf⟩ := B1.out.cell
  have cf0 := cf 0
  obtain ⟨d0, d1, d2, _⟩ := B.out.cnt.cell
  obtain ⟨e0, e1, e2, e3, e4, _⟩ := B.out.box.all
  dsimp only at e0 e1 e2 e3 e4
  have a1 : ¬ (64 : Int) < (n : Int) + 1 := by omega
  have a2 : ¬ (8 : Int) < (d : Int) := by omega
  clear hb B1 cf hw
  go_enter Try.func30, Try.ntmps30
  go_upto_region 2 with fail
  rw [hW.out]
  clear hW c0 cf0
  go_wp2_with fail
  with_reducible refine (C.out _).mono ?_
  rintro e v ⟨rfl, b2⟩
  have B2 := hide (B.out.below b2)
  clear b2 d0 d1 d2 e0 e1 e2 e3 e4 B C
  obtain ⟨d0, d1, d2, df⟩ := B2.out.cnt.cell
  have df2 := df 2
  obtain ⟨e0, e1, e2, e3, e4, _⟩ := B2.out.box.all
  dsimp only at e0 e1 e2 e3 e4
  clear df
  cases f with
  | false =>
    have S0 : Hid (BoxM (v.setCell ⟨g, 2, none⟩ (.bool true)) w.heap.size ⟨2, nm, vl, va, vn, vc, ka, kn, kc⟩ ∧ SZ (v.setCell ⟨g, 2, none⟩ (.bool true)) g ((n : Int) + 1) b true ∧ Ch (fun k => k = g) w (v.setCell ⟨g, 2, none⟩ (.bool true))) := ⟨B2.out.box.block (Below.heap_setCell _ _ _ _ B2.out.ne), B2.out.cnt.mark _, B2.out.ch.trans (ch_set v g 2 _)⟩
    go_upto_region 12 with fail
    generalize v.setCell ⟨g, 2, none⟩ (.bool true) = u at S0 ⊢
    clear e0 e1 e2 e3 e4 d0 d1 d2 df2
    obtain ⟨S1, S2, S3⟩ := S0.out
    obtain ⟨e0, e1, e2, e3, e4, _⟩ := S1.all
    dsimp only at e0 e1 e2 e3 e4
    have T1 := hide (sztext_any nm g ((n : Int) + 1) b true u w1 hb4 S2)
    have HS := hide (And.intro S1 S3)
    clear S0 S1 S2 S3
    go_wp2_with fail
    with_reducible refine T1.out.mono ?_
    rintro e u1 ⟨rfl, c1, b1, bad1, s1, hb1, m1⟩
    have M1 := hide m1
    have X1 := hide (HS.out.1.block (c1.block _ HS.out.1.lt HNE.out))
    have C1 := hide (HS.out.2.trans c1)
    have T2 := hide (sztext_any vl g ((n : Int) + 1) b1 bad1 u1 w2 hb1 s1)
    clear e0 e1 e2 e3 e4 c1 s1 m1 HS T1 hb1
    obtain ⟨e0, e1, e2, e3, e4, _⟩ := X1.out.all
    dsimp only at e0 e1 e2 e3 e4
    go_wp2_with fail
    with_reducible refine T2.out.mono ?_
    rintro e u2 ⟨rfl, c2, b2, bad2, s2, _, m2⟩
    have M2 := hide m2
    have C2 := hide (C1.out.trans c2)
    have SS := hide s2
    clear e0 e1 e2 e3 e4 c2 s2 m2 C1 X1 T2
    go_wp2
    go_end0
    refine ⟨rfl, C2.out, ?_⟩
    exact look_fin M1.out M2.out SS.out
  | true =>
    go_wp2_with fail
    with_reducible refine (CN.out _).mono ?_
    rintro e v3 ⟨rfl, hq⟩
    have B3 : Hid (Beg w v3 g n b ⟨2, nm, vl, va, vn, vc, ka, kn, kc⟩) := by rw [hq]; exact B2.out
    clear hq B2 d0 d1 d2 df2 e0 e1 e2 e3 e4 CN
    obtain ⟨d0, d1, d2, df⟩ := B3.out.cnt.cell
    have df2 := df 2
    obtain ⟨e0, e1, e2, e3, e4, _⟩ := B3.out.box.all
    dsimp only at e0 e1 e2 e3 e4
    clear df
    cases k with
    | false =>
      have S0 : Hid (BoxM (v3.setCell ⟨g, 2, none⟩ (.bool true)) w.heap.size ⟨2, nm, vl, va, vn, vc, ka, kn, kc⟩ ∧ SZ (v3.setCell ⟨g, 2, none⟩ (.bool true)) g ((n : Int) + 1) b true ∧ Ch (fun k => k = g) w (v3.setCell ⟨g, 2, none⟩ (.bool true))) := ⟨B3.out.box.block (Below.heap_setCell _ _ _ _ B3.out.ne), B3.out.cnt.mark _, B3.out.ch.trans (ch_set v3 g 2 _)⟩
      go_upto_region 12 with fail
      generalize v3.setCell ⟨g, 2, none⟩ (.bool true) = u at S0 ⊢
      clear e0 e1 e2 e3 e4 d0 d1 d2 df2
      obtain ⟨S1, S2, S3⟩ := S0.out
      obtain ⟨e0, e1, e2, e3, e4, _⟩ := S1.all
      dsimp only at e0 e1 e2 e3 e4
      have T1 := hide (sztext_any nm g ((n : Int) + 1) b true u w1 hb4 S2)
      have HS := hide (And.intro S1 S3)
      clear S0 S1 S2 S3
      go_wp2_with fail
      with_reducible refine T1.out.mono ?_
      rintro e u1 ⟨rfl, c1, b1, bad1, s1, hb1, m1⟩
      have M1 := hide m1
      have X1 := hide (HS.out.1.block (c1.block _ HS.out.1.lt HNE.out))
      have C1 := hide (HS.out.2.trans c1)
      have T2 := hide (sztext_any vl g ((n : Int) + 1) b1 bad1 u1 w2 hb1 s1)
      clear e0 e1 e2 e3 e4 c1 s1 m1 HS T1 hb1
      obtain ⟨e0, e1, e2, e3, e4, _⟩ := X1.out.all
      dsimp only at e0 e1 e2 e3 e4
      go_wp2_with fail
      with_reducible refine T2.out.mono ?_
      rintro e u2 ⟨rfl, c2, b2, bad2, s2, _, m2⟩
      have M2 := hide m2
      have C2 := hide (C1.out.trans c2)
      have SS := hide s2
      clear e0 e1 e2 e3 e4 c2 s2 m2 C1 X1 T2
      go_wp2
      go_end0
      refine ⟨rfl, C2.out, ?_⟩
      exact look_fin M1.out M2.out SS.out
    | true =>
      by_cases hs : vl.size ≤ 64
      · have t1 : ¬ (64 : Int) < (vl.size : Int) := by omega
        have t2 : decide ((64 : Int) < (vl.size : Int)) = false := decide_eq_false t1
        obtain rfl : t = true := by rw [← HT.out]; exact decide_eq_true hs
        have S0 : Hid (BoxM (v3.setCell ⟨g, 2, none⟩ (.bool false)) w.heap.size ⟨2, nm, vl, va, vn, vc, ka, kn, kc⟩ ∧ SZ (v3.setCell ⟨g, 2, none⟩ (.bool false)) g ((n : Int) + 1) b false ∧ Ch (fun k => k = g) w (v3.setCell ⟨g, 2, none⟩ (.bool false))) := ⟨B3.out.box.block (Below.heap_setCell _ _ _ _ B3.out.ne), B3.out.cnt.mark _, B3.out.ch.trans (ch_set v3 g 2 _)⟩
        go_upto_region 12 with fail
        generalize v3.setCell ⟨g, 2, none⟩ (.bool false) = u at S0 ⊢
        clear e0 e1 e2 e3 e4 d0 d1 d2 df2
        obtain ⟨S1, S2, S3⟩ := S0.out
        obtain ⟨e0, e1, e2, e3, e4, _⟩ := S1.all
        dsimp only at e0 e1 e2 e3 e4
        have T1 := hide (sztext_any nm g ((n : Int) + 1) b false u w1 hb4 S2)
        have HS := hide (And.intro S1 S3)
        clear S0 S1 S2 S3
        go_wp2_with fail
        with_reducible refine T1.out.mono ?_
        rintro e u1 ⟨rfl, c1, b1, bad1, s1, hb1, m1⟩
        have M1 := hide m1
        have X1 := hide (HS.out.1.block (c1.block _ HS.out.1.lt HNE.out))
        have C1 := hide (HS.out.2.trans c1)
        have T2 := hide (sztext_any vl g ((n : Int) + 1) b1 bad1 u1 w2 hb1 s1)
        clear e0 e1 e2 e3 e4 c1 s1 m1 HS T1 hb1
        obtain ⟨e0, e1, e2, e3, e4, _⟩ := X1.out.all
        dsimp only at e0 e1 e2 e3 e4
        go_wp2_with fail
        with_reducible refine T2.out.mono ?_
        rintro e u2 ⟨rfl, c2, b2, bad2, s2, _, m2⟩
        have M2 := hide m2
        have C2 := hide (C1.out.trans c2)
        have SS := hide s2
        clear e0 e1 e2 e3 e4 c2 s2 m2 C1 X1 T2
        go_wp2
        go_end0
        refine ⟨rfl, C2.out, ?_⟩
        exact look_fin M1.out M2.out SS.out
      · have t1 : (64 : Int) < (vl.size : Int) := by omega
        have t2 : decide ((64 : Int) < (vl.size : Int)) = true := decide_eq_true t1
        obtain rfl : t = false := by rw [← HT.out]; exact decide_eq_false hs
        have S0 : Hid (BoxM (v3.setCell ⟨g, 2, none⟩ (.bool true)) w.heap.size ⟨2, nm, vl, va, vn, vc, ka, kn, kc⟩ ∧ SZ (v3.setCell ⟨g, 2, none⟩ (.bool true)) g ((n : Int) + 1) b true ∧ Ch (fun k => k = g) w (v3.setCell ⟨g, 2, none⟩ (.bool true))) := ⟨B3.out.box.block (Below.heap_setCell _ _ _ _ B3.out.ne), B3.out.cnt.mark _, B3.out.ch.trans (ch_set v3 g 2 _)⟩
        go_upto_region 12 with fail
        generalize v3.setCell ⟨g, 2, none⟩ (.bool true) = u at S0 ⊢
        clear e0 e1 e2 e3 e4 d0 d1 d2 df2
        obtain ⟨S1, S2, S3⟩ := S0.out
        obtain ⟨e0, e1, e2, e3, e4, _⟩ := S1.all
        dsimp only at e0 e1 e2 e3 e4
        have T1 := hide (sztext_any nm g ((n : Int) + 1) b true u w1 hb4 S2)
        have HS := hide (And.intro S1 S3)
        clear S0 S1 S2 S3
        go_wp2_with fail
        with_reducible refine T1.out.mono ?_
        rintro e u1 ⟨rfl, c1, b1, bad1, s1, hb1, m1⟩
        have M1 := hide m1
        have X1 := hide (HS.out.1.block (c1.block _ HS.out.1.lt HNE.out))
        have C1 := hide (HS.out.2.trans c1)
        have T2 := hide (sztext_any vl g ((n : Int) + 1) b1 bad1 u1 w2 hb1 s1)
        clear e0 e1 e2 e3 e4 c1 s1 m1 HS T1 hb1
        obtain ⟨e0, e1, e2, e3, e4, _⟩ := X1.out.all
        dsimp only at e0 e1 e2 e3 e4
        go_wp2_with fail
        with_reducible refine T2.out.mono ?_
        rintro e u2 ⟨rfl, c2, b2, bad2, s2, _, m2⟩
        have M2 := hide m2
        have C2 := hide (C1.out.trans c2)
        have SS := hide s2
        clear e0 e1 e2 e3 e4 c2 s2 m2 C1 X1 T2
        go_wp2
        go_end0
        refine ⟨rfl, C2.out, ?_⟩
        exact look_fin M1.out M2.out SS.out
set_option maxHeartbeats 8000000 in
theorem look_3 (nm vl : ByteArray) (va : Option Addr) (vn vc : Nat) (ka : Option Addr) (kn kc : Nat) (d n b g : Nat) (w : World) (hw : HmW ⟨3, nm, vl, va, vn, vc, ka, kn, kc⟩) (hb : SZ w g n b false) (hd : d ≤ 8) (hn : n < 64) (hb4 : b ≤ 4096) :
    Calls Try.prog 30 #[.pointer (some ⟨g, 0, none⟩), .agg #[.int .i64 3, .string nm, .string vl, .slice va vn vc, .slice ka kn kc], .int .i64 d] w fun e w' => LookP (lookR ((decide (vn = 0) && decide (kn = 0)) && (nameB nm && decide (vl.size ≤ 64))) n b (nm.size + vl.size)) g w w' e := by
  have C := hide (fun W => bare_tff ⟨3, nm, vl, va, vn, vc, ka, kn, kc⟩ W hw)
  dsimp only at C
  have w1 : nm.size ≤ 9223372036854775807 := hw.nm
  have w2 : vl.size ≤ 9223372036854775807 := hw.vl
  have CN := hide (fun W => refname_any nm W w1)
  generalize (decide (vn = 0) && decide (kn = 0)) = f at C ⊢
  generalize nameB nm = k at CN ⊢
  generalize ht : decide (vl.size ≤ 64) = t
  have HT := hide ht
  clear ht
  obtain ⟨W, hW⟩ : ∃ W, Hid ((w.alloc (.cells #[.int .i64 3, .string nm, .string vl, .slice va vn vc, .slice ka kn kc] 25)).setCell ⟨g, 0, none⟩ (.int .i64 ((n : Int) + 1)) = W) := ⟨_, rfl⟩
  have B : Hid (Beg w W g n b ⟨3, nm, vl, va, vn, vc, ka, kn, kc⟩) := by rw [← hW.out]; exact beg_of (h := ⟨3, nm, vl, va, vn, vc, ka, kn, kc⟩) hb
  have HNE := hide B.out.ne
  have B1 := hide (hb.block (w' := w.alloc (.cells #[.int .i64 3, .string nm, .string vl, .slice va vn vc, .slice ka kn kc] 25)) (Below.heap_alloc w _ g hb.lt))
  obtain ⟨c0, _, _, cf⟩ := B1.out.cell
  have cf0 := cf 0
  obtain ⟨d0, d1, d2, _⟩ := B.out.cnt.cell
  obtain ⟨e0, e1, e2, e3, e4, _⟩ := B.out.box.all
  dsimp only at e0 e1 e2 e3 e4
  have a1 : ¬ (64 : Int) < (n : Int) + 1 := by omega
  have a2 : ¬ (8 : Int) < (d : Int) := by omega
  clear hb B1 cf hw
  go_enter Try.func30, Try.ntmps30
  go_upto_region 2 with fail
  rw [hW.out]
  clear hW c0 cf0
  go_wp2_with fail
  with_reducible refine (C.out _).mono ?_
  rintro e v ⟨rfl, b2⟩
  have B2 := hide (B.out.below b2)
  clear b2 d0 d1 d2 e0 e1 e2 e3 e4 B C
  obtain ⟨d0, d1, d2, df⟩ := B2.out.cnt.cell
  have df2 := df 2
  obtain ⟨e0, e1, e2, e3, e4, _⟩ := B2.out.box.all
  dsimp only at e0 e1 e2 e3 e4
  clear df
  cases f with
  | false =>
    have S0 : Hid (BoxM (v.setCell ⟨g, 2, none⟩ (.bool true)) w.heap.size ⟨3, nm, vl, va, vn, vc, ka, kn, kc⟩ ∧ SZ (v.setCell ⟨g, 2, none⟩ (.bool true)) g ((n : Int) + 1) b true ∧ Ch (fun k => k = g) w (v.setCell ⟨g, 2, none⟩ (.bool true))) := ⟨B2.out.box.block (Below.heap_setCell _ _ _ _ B2.out.ne), B2.out.cnt.mark _, B2.out.ch.trans (ch_set v g 2 _)⟩
    go_upto_region 12 with fail
    generalize v.setCell ⟨g, 2, none⟩ (.bool true) = u at S0 ⊢
    clear e0 e1 e2 e3 e4 d0 d1 d2 df2
    obtain ⟨S1, S2, S3⟩ := S0.out
    obtain ⟨e0, e1, e2, e3, e4, _⟩ := S1.all
    dsimp only at e0 e1 e2 e3 e4
    have T1 := hide (sztext_any nm g ((n : Int) + 1) b true u w1 hb4 S2)
    have HS := hide (And.intro S1 S3)
    clear S0 S1 S2 S3
    go_wp2_with fail
    with_reducible refine T1.out.mono ?_
    rintro e u1 ⟨rfl, c1, b1, bad1, s1, hb1, m1⟩
    have M1 := hide m1
    have X1 := hide (HS.out.1.block (c1.block _ HS.out.1.lt HNE.out))
    have C1 := hide (HS.out.2.trans c1)
    have T2 := hide (sztext_any vl g ((n : Int) + 1) b1 bad1 u1 w2 hb1 s1)
    clear e0 e1 e2 e3 e4 c1 s1 m1 HS T1 hb1
    obtain ⟨e0, e1, e2, e3, e4, _⟩ := X1.out.all
    dsimp only at e0 e1 e2 e3 e4
    go_wp2_with fail
    with_reducible refine T2.out.mono ?_
    rintro e u2 ⟨rfl, c2, b2, bad2, s2, _, m2⟩
    have M2 := hide m2
    have C2 := hide (C1.out.trans c2)
    have SS := hide s2
    clear e0 e1 e2 e3 e4 c2 s2 m2 C1 X1 T2
    go_wp2
    go_end0
    refine ⟨rfl, C2.out, ?_⟩
    exact look_fin M1.out M2.out SS.out
  | true =>
    go_wp2_with fail
    with_reducible refine (CN.out _).mono ?_
    rintro e v3 ⟨rfl, hq⟩
    have B3 : Hid (Beg w v3 g n b ⟨3, nm, vl, va, vn, vc, ka, kn, kc⟩) := by rw [hq]; exact B2.out
    clear hq B2 d0 d1 d2 df2 e0 e1 e2 e3 e4 CN
    obtain ⟨d0, d1, d2, df⟩ := B3.out.cnt.cell
    have df2 := df 2
    obtain ⟨e0, e1, e2, e3, e4, _⟩ := B3.out.box.all
    dsimp only at e0 e1 e2 e3 e4
    clear df
    cases k with
    | false =>
      have S0 : Hid (BoxM (v3.setCell ⟨g, 2, none⟩ (.bool true)) w.heap.size ⟨3, nm, vl, va, vn, vc, ka, kn, kc⟩ ∧ SZ (v3.setCell ⟨g, 2, none⟩ (.bool true)) g ((n : Int) + 1) b true ∧ Ch (fun k => k = g) w (v3.setCell ⟨g, 2, none⟩ (.bool true))) := ⟨B3.out.box.block (Below.heap_setCell _ _ _ _ B3.out.ne), B3.out.cnt.mark _, B3.out.ch.trans (ch_set v3 g 2 _)⟩
      go_upto_region 12 with fail
      generalize v3.setCell ⟨g, 2, none⟩ (.bool true) = u at S0 ⊢
      clear e0 e1 e2 e3 e4 d0 d1 d2 df2
      obtain ⟨S1, S2, S3⟩ := S0.out
      obtain ⟨e0, e1, e2, e3, e4, _⟩ := S1.all
      dsimp only at e0 e1 e2 e3 e4
      have T1 := hide (sztext_any nm g ((n : Int) + 1) b true u w1 hb4 S2)
      have HS := hide (And.intro S1 S3)
      clear S0 S1 S2 S3
      go_wp2_with fail
      with_reducible refine T1.out.mono ?_
      rintro e u1 ⟨rfl, c1, b1, bad1, s1, hb1, m1⟩
      have M1 := hide m1
      have X1 := hide (HS.out.1.block (c1.block _ HS.out.1.lt HNE.out))
      have C1 := hide (HS.out.2.trans c1)
      have T2 := hide (sztext_any vl g ((n : Int) + 1) b1 bad1 u1 w2 hb1 s1)
      clear e0 e1 e2 e3 e4 c1 s1 m1 HS T1 hb1
      obtain ⟨e0, e1, e2, e3, e4, _⟩ := X1.out.all
      dsimp only at e0 e1 e2 e3 e4
      go_wp2_with fail
      with_reducible refine T2.out.mono ?_
      rintro e u2 ⟨rfl, c2, b2, bad2, s2, _, m2⟩
      have M2 := hide m2
      have C2 := hide (C1.out.trans c2)
      have SS := hide s2
      clear e0 e1 e2 e3 e4 c2 s2 m2 C1 X1 T2
      go_wp2
      go_end0
      refine ⟨rfl, C2.out, ?_⟩
      exact look_fin M1.out M2.out SS.out
    | true =>
      by_cases hs : vl.size ≤ 64
      · have t1 : ¬ (64 : Int) < (vl.size : Int) := by omega
        have t2 : decide ((64 : Int) < (vl.size : Int)) = false := decide_eq_false t1
        obtain rfl : t = true := by rw [← HT.out]; exact decide_eq_true hs
        have S0 : Hid (BoxM (v3.setCell ⟨g, 2, none⟩ (.bool false)) w.heap.size ⟨3, nm, vl, va, vn, vc, ka, kn, kc⟩ ∧ SZ (v3.setCell ⟨g, 2, none⟩ (.bool false)) g ((n : Int) + 1) b false ∧ Ch (fun k => k = g) w (v3.setCell ⟨g, 2, none⟩ (.bool false))) := ⟨B3.out.box.block (Below.heap_setCell _ _ _ _ B3.out.ne), B3.out.cnt.mark _, B3.out.ch.trans (ch_set v3 g 2 _)⟩
        go_upto_region 12 with fail
        generalize v3.setCell ⟨g, 2, none⟩ (.bool false) = u at S0 ⊢
        clear e0 e1 e2 e3 e4 d0 d1 d2 df2
        obtain ⟨S1, S2, S3⟩ := S0.out
        obtain ⟨e0, e1, e2, e3, e4, _⟩ := S1.all
        dsimp only at e0 e1 e2 e3 e4
        have T1 := hide (sztext_any nm g ((n : Int) + 1) b false u w1 hb4 S2)
        have HS := hide (And.intro S1 S3)
        clear S0 S1 S2 S3
        go_wp2_with fail
        with_reducible refine T1.out.mono ?_
        rintro e u1 ⟨rfl, c1, b1, bad1, s1, hb1, m1⟩
        have M1 := hide m1
        have X1 := hide (HS.out.1.block (c1.block _ HS.out.1.lt HNE.out))
        have C1 := hide (HS.out.2.trans c1)
        have T2 := hide (sztext_any vl g ((n : Int) + 1) b1 bad1 u1 w2 hb1 s1)
        clear e0 e1 e2 e3 e4 c1 s1 m1 HS T1 hb1
        obtain ⟨e0, e1, e2, e3, e4, _⟩ := X1.out.all
        dsimp only at e0 e1 e2 e3 e4
        go_wp2_with fail
        with_reducible refine T2.out.mono ?_
        rintro e u2 ⟨rfl, c2, b2, bad2, s2, _, m2⟩
        have M2 := hide m2
        have C2 := hide (C1.out.trans c2)
        have SS := hide s2
        clear e0 e1 e2 e3 e4 c2 s2 m2 C1 X1 T2
        go_wp2
        go_end0
        refine ⟨rfl, C2.out, ?_⟩
        exact look_fin M1.out M2.out SS.out
      · have t1 : (64 : Int) < (vl.size : Int) := by omega
        have t2 : decide ((64 : Int) < (vl.size : Int)) = true := decide_eq_true t1
        obtain rfl : t = false := by rw [← HT.out]; exact decide_eq_false hs
        have S0 : Hid (BoxM (v3.setCell ⟨g, 2, none⟩ (.bool true)) w.heap.size ⟨3, nm, vl, va, vn, vc, ka, kn, kc⟩ ∧ SZ (v3.setCell ⟨g, 2, none⟩ (.bool true)) g ((n : Int) + 1) b true ∧ Ch (fun k => k = g) w (v3.setCell ⟨g, 2, none⟩ (.bool true))) := ⟨B3.out.box.block (Below.heap_setCell _ _ _ _ B3.out.ne), B3.out.cnt.mark _, B3.out.ch.trans (ch_set v3 g 2 _)⟩
        go_upto_region 12 with fail
        generalize v3.setCell ⟨g, 2, none⟩ (.bool true) = u at S0 ⊢
        clear e0 e1 e2 e3 e4 d0 d1 d2 df2
        obtain ⟨S1, S2, S3⟩ := S0.out
        obtain ⟨e0, e1, e2, e3, e4, _⟩ := S1.all
        dsimp only at e0 e1 e2 e3 e4
        have T1 := hide (sztext_any nm g ((n : Int) + 1) b true u w1 hb4 S2)
        have HS := hide (And.intro S1 S3)
        clear S0 S1 S2 S3
        go_wp2_with fail
        with_reducible refine T1.out.mono ?_
        rintro e u1 ⟨rfl, c1, b1, bad1, s1, hb1, m1⟩
        have M1 := hide m1
        have X1 := hide (HS.out.1.block (c1.block _ HS.out.1.lt HNE.out))
        have C1 := hide (HS.out.2.trans c1)
        have T2 := hide (sztext_any vl g ((n : Int) + 1) b1 bad1 u1 w2 hb1 s1)
        clear e0 e1 e2 e3 e4 c1 s1 m1 HS T1 hb1
        obtain ⟨e0, e1, e2, e3, e4, _⟩ := X1.out.all
        dsimp only at e0 e1 e2 e3 e4
        go_wp2_with fail
        with_reducible refine T2.out.mono ?_
        rintro e u2 ⟨rfl, c2, b2, bad2, s2, _, m2⟩
        have M2 := hide m2
        have C2 := hide (C1.out.trans c2)
        have SS := hide s2
        clear e0 e1 e2 e3 e4 c2 s2 m2 C1 X1 T2
        go_wp2
        go_end0
        refine ⟨rfl, C2.out, ?_⟩
        exact look_fin M1.out M2.out SS.out
end Go.Proofs.Ythebcmkainplnaa
