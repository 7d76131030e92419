/-
  The document's look at a matcher, one op at a time (All; Is, Isnt, Begins): contracts, for every world: the count alone turns. The document's look at a matcher of Is, Isnt, Begins: contracts, for every world: the count alone turns (written by gen/matla.gen.py). The document's look at a matcher of Among: a contract, for every world: the count alone turns (written by gen/matlb.gen.py). The document's look at a matcher of And, Or, Not: contracts over its kids', for every world: the count alone turns (written by gen/matlc.gen.py). The document's look at any matcher, and its Check: contracts, for every world. The document's Check of a matcher: a contract, for every world.
  Conditions: the matcher lies in blocks apart from the count's; the matcher lies in blocks apart from the count's; its kids are looked at as told; the matcher lies in memory, apart from the count; the matcher lies in memory.
-/
import Derived.Test.YtpffhpnmbpjifaaGreatMatU
import Derived.Test.YtpffhpnmbpjifaaGreatMatV
namespace Go.Proofs.YtpffhpnmbpjifaaGreat
open Go.RowKit
set_option maxRecDepth 20000

/-- What a look leaves. -/
def LookP (r : Option (Nat × Nat)) (g : Nat) (w w' : World) (e : Ending) : Prop :=
  e = .returned (.tuple #[]) ∧ Ch (fun k => k = g) w w' ∧ match r with
  | none => ∃ n b : Int, SZ w' g n b true
  | some r => SZ w' g r.1 r.2 false
/-- How a look begins: the matcher's box is made, the parts are counted. -/
structure Beg (w W : World) (g n b : Nat) (h : Hm) : Prop where
  box : BoxM W w.heap.size h
  cnt : SZ W g ((n : Int) + 1) b false
  ch : Ch (fun k => k = g) w W
  ne : w.heap.size ≠ g
theorem beg_of {w : World} {g n b : Nat} {h : Hm} (q : SZ w g n b false) : Beg w ((w.alloc (.cells #[.int .i64 h.op, .string h.nm, .string h.vl, .slice h.va h.vn h.vc, .slice h.ka h.kn h.kc] 26)).setCell ⟨g, 0, none⟩ (.int .i64 ((n : Int) + 1))) g n b h := by
  have hne : w.heap.size ≠ g := by have := q.lt; omega
  exact ⟨(boxM_new w h).block (Below.heap_setCell _ _ _ _ hne), (q.block (Below.heap_alloc w _ g q.lt)).parts _, ((Ch.refl _ w).alloc _).trans (ch_set _ g 0 _), hne⟩
theorem Beg.below {w W W' : World} {g n b : Nat} {h : Hm} (q : Beg w W g n b h) (hb : Below W.heap.size W W') : Beg w W' g n b h :=
  ⟨q.box.block (hb.block _ q.box.lt), q.cnt.block (hb.block _ q.cnt.lt), q.ch.trans ((Ch.of_below hb).more (fun _ _ => False.elim)), q.ne⟩

set_option maxHeartbeats 4000000 in
/-- Too many parts, or too deep. -/
theorem look_no (h : Hm) (d n b g : Nat) (w : World) (hb : SZ w g n b false) (hd : d ≤ 9) (hn : n ≤ 64) (hbad : 64 < n + 1 ∨ 8 < d) :
    Calls Tryz.prog 27 #[.pointer (some ⟨g, 0, none⟩), .agg #[.int .i64 h.op, .string h.nm, .string h.vl, .slice h.va h.vn h.vc, .slice h.ka h.kn h.kc], .int .i64 d] w fun e w' => LookP none g w w' e := by
  obtain ⟨W, hW⟩ : ∃ W, Hid ((w.alloc (.cells #[.int .i64 h.op, .string h.nm, .string h.vl, .slice h.va h.vn h.vc, .slice h.ka h.kn h.kc] 26)).setCell ⟨g, 0, none⟩ (.int .i64 ((n : Int) + 1)) = W) := ⟨_, rfl⟩
  have B : Hid (Beg w W g n b h) := by rw [← hW.out]; exact beg_of hb
  have B1 := hide (hb.block (w' := w.alloc (.cells #[.int .i64 h.op, .string h.nm, .string h.vl, .slice h.va h.vn h.vc, .slice h.ka h.kn h.kc] 26)) (Below.heap_alloc w _ g hb.lt))
  obtain ⟨c0, _, _, cf⟩ := B1.out.cell
  have cf0 := cf 0
  obtain ⟨d0, d1, d2, df⟩ := B.out.cnt.cell
  have df2 := df 2
  have E : Hid (Ch (fun k => k = g) w (W.setCell ⟨g, 2, none⟩ (.bool true)) ∧ ∃ n b : Int, SZ (W.setCell ⟨g, 2, none⟩ (.bool true)) g n b true) := ⟨B.out.ch.trans (ch_set W g 2 _), _, _, B.out.cnt.mark true⟩
  clear hb B1 cf df
  by_cases a1 : (64 : Int) < (n : Int) + 1
  · clear hbad
    go_enter Tryz.func27, Tryz.ntmps27
    go_upto_region 2 with fail
    rw [hW.out]
    clear hW c0 cf0
    go_wp2
    (try simp only [Exit.inBlock, Exit.then]); refine bodyPost_ret (results_none rfl _ _ _) rfl ?_
    exact ⟨rfl, E.out⟩
  · have a2 : (8 : Int) < (d : Int) := by omega
    clear hbad
    go_enter Tryz.func27, Tryz.ntmps27
    go_upto_region 2 with fail
    rw [hW.out]
    clear hW c0 cf0
    go_wp2
    (try simp only [Exit.inBlock, Exit.then]); refine bodyPost_ret (results_none rfl _ _ _) rfl ?_
    exact ⟨rfl, E.out⟩

set_option maxHeartbeats 4000000 in
/-- All. -/
theorem look_0 (h : Hm) (d n b g : Nat) (w : World) (hw : HmW h) (hb : SZ w g n b false) (hd : d ≤ 8) (hn : n < 64) (h0 : h.op = 0) :
    Calls Tryz.prog 27 #[.pointer (some ⟨g, 0, none⟩), .agg #[.int .i64 h.op, .string h.nm, .string h.vl, .slice h.va h.vn h.vc, .slice h.ka h.kn h.kc], .int .i64 d] w fun e w' => LookP (if (decide (h.vl.size = 0) && (decide (h.nm.size = 0) && (decide (h.vn = 0) && decide (h.kn = 0)))) = true then some (n + 1, b) else none) g w w' e := by
  have C := hide (fun W => bare_fff h W hw)
  generalize hf : (decide (h.vl.size = 0) && (decide (h.nm.size = 0) && (decide (h.vn = 0) && decide (h.kn = 0)))) = f at C ⊢
  clear hf
  generalize hr : (if f = true then some (n + 1, b) else (none : Option (Nat × Nat))) = r
  have HR := hide hr
  clear hr
  obtain ⟨op, nm, vl, va, vn, vc, ka, kn, kc⟩ := h
  dsimp only at h0 C ⊢
  subst h0
  obtain ⟨W, hW⟩ : ∃ W, Hid ((w.alloc (.cells #[.int .i64 0, .string nm, .string vl, .slice va vn vc, .slice ka kn kc] 26)).setCell ⟨g, 0, none⟩ (.int .i64 ((n : Int) + 1)) = W) := ⟨_, rfl⟩
  have B : Hid (Beg w W g n b ⟨0, nm, vl, va, vn, vc, ka, kn, kc⟩) := by rw [← hW.out]; exact beg_of (h := ⟨0, nm, vl, va, vn, vc, ka, kn, kc⟩) hb
  have B1 := hide (hb.block (w' := w.alloc (.cells #[.int .i64 0, .string nm, .string vl, .slice va vn vc, .slice ka kn kc] 26)) (Below.heap_alloc w _ g hb.lt))
  obtain ⟨c0, _, _, cf⟩ := B1.out.cell
  have cf0 := cf 0
  obtain ⟨d0, d1, d2, _⟩ := B.out.cnt.cell
  obtain ⟨e0, e1, e2, e3, e4, _⟩ := B.out.box.all
  dsimp only at e0 e1 e2 e3 e4
  have a1 : ¬ (64 : Int) < (n : Int) + 1 := by omega
  have a2 : ¬ (8 : Int) < (d : Int) := by omega
  clear hb B1 cf hw
  go_enter Tryz.func27, Tryz.ntmps27
  go_upto_region 2 with fail
  rw [hW.out]
  clear hW c0 cf0
  go_wp2_with fail
  with_reducible refine (C.out _).mono ?_
  rintro e w2 ⟨rfl, b2⟩
  have B2 := hide (B.out.below b2)
  clear b2 d0 d1 d2 e0 e1 e2 e3 e4 B C
  obtain ⟨d0, d1, d2, df⟩ := B2.out.cnt.cell
  have df2 := df 2
  have E : Hid (Ch (fun k => k = g) w (w2.setCell ⟨g, 2, none⟩ (.bool (!f))) ∧ SZ (w2.setCell ⟨g, 2, none⟩ (.bool (!f))) g ((n : Int) + 1) b (!f)) := ⟨B2.out.ch.trans (ch_set w2 g 2 _), B2.out.cnt.mark _⟩
  clear df
  go_wp2
  go_end0
  refine ⟨rfl, E.out.1, ?_⟩
  rw [← HR.out]
  cases f with
  | true => exact E.out.2
  | false => exact ⟨_, _, E.out.2⟩
end Go.Proofs.YtpffhpnmbpjifaaGreat

namespace Go.Proofs.YtpffhpnmbpjifaaGreat
open Go.RowKit
set_option maxRecDepth 20000

/-- What is told of a part without kids: whether it may be, its bytes. -/
def lookR (ok : Bool) (n b s : Nat) : Option (Nat × Nat) := if ok = true ∧ b + s ≤ 4096 then some (n + 1, b + s) else none
theorem look_fin {bad bad1 bad2 : Bool} {n b b1 b2 g : Nat} {x y : ByteArray} {u : World} (m1 : MoreT b b1 bad bad1 x) (m2 : MoreT b1 b2 bad1 bad2 y) (s : SZ u g ((n : Int) + 1) b2 bad2) :
    match lookR (!bad) n b (x.size + y.size) with
    | none => ∃ n b : Int, SZ u g n b true
    | some r => SZ u g r.1 r.2 false := by
  unfold MoreT at m1 m2
  unfold lookR
  by_cases a1 : 4096 < b + x.size
  · rw [if_pos a1] at m1
    subst m1
    rw [if_neg (by omega)]
    have : bad2 = true := by
      by_cases a2 : 4096 < b1 + y.size
      · rwa [if_pos a2] at m2
      · rw [if_neg a2] at m2; exact m2.1
    subst this
    exact ⟨_, _, s⟩
  · rw [if_neg a1] at m1
    obtain ⟨rfl, rfl⟩ := m1
    by_cases a2 : 4096 < b + x.size + y.size
    · rw [if_pos a2] at m2
      subst m2
      rw [if_neg (by omega)]
      exact ⟨_, _, s⟩
    · rw [if_neg a2] at m2
      obtain ⟨rfl, rfl⟩ := m2
      cases bad2 with
      | true => rw [if_neg (by simp)]; exact ⟨_, _, s⟩
      | false =>
        rw [if_pos ⟨rfl, by omega⟩]
        rw [show b + (x.size + y.size) = b + x.size + y.size by omega]
        exact s

set_option maxHeartbeats 8000000 in
theorem look_1 (nm vl : ByteArray) (va : Option Addr) (vn vc : Nat) (ka : Option Addr) (kn kc : Nat) (d n b g : Nat) (w : World) (hw : HmW ⟨1, nm, vl, va, vn, vc, ka, kn, kc⟩) (hb : SZ w g n b false) (hd : d ≤ 8) (hn : n < 64) (hb4 : b ≤ 4096) :
    Calls Tryz.prog 27 #[.pointer (some ⟨g, 0, none⟩), .agg #[.int .i64 1, .string nm, .string vl, .slice va vn vc, .slice ka kn kc], .int .i64 d] w fun e w' => LookP (lookR ((decide (vn = 0) && decide (kn = 0)) && (nameB nm && decide (vl.size ≤ 64))) n b (nm.size + vl.size)) g w w' e := by
  have C := hide (fun W => bare_tff ⟨1, nm, vl, va, vn, vc, ka, kn, kc⟩ W hw)
  dsimp only at C
  have w1 : nm.size ≤ 9223372036854775807 := hw.nm
  have w2 : vl.size ≤ 9223372036854775807 := hw.vl
  have CN := hide (fun W => refname_any nm W w1)
  generalize (decide (vn = 0) && decide (kn = 0)) = f at C ⊢
  generalize nameB nm = k at CN ⊢
  generalize ht : decide (vl.size ≤ 64) = t
  have HT := hide ht
  clear ht
  obtain ⟨W, hW⟩ : ∃ W, Hid ((w.alloc (.cells #[.int .i64 1, .string nm, .string vl, .slice va vn vc, .slice ka kn kc] 26)).setCell ⟨g, 0, none⟩ (.int .i64 ((n : Int) + 1)) = W) := ⟨_, rfl⟩
  have B : Hid (Beg w W g n b ⟨1, nm, vl, va, vn, vc, ka, kn, kc⟩) := by rw [← hW.out]; exact beg_of (h := ⟨1, nm, vl, va, vn, vc, ka, kn, kc⟩) hb
  have HNE := hide B.out.ne
  have B1 := hide (hb.block (w' := w.alloc (.cells #[.int .i64 1, .string nm, .string vl, .slice va vn vc, .slice ka kn kc] 26)) (Below.heap_alloc w _ g hb.lt))
  obtain ⟨c0, _, _, cf⟩ := B1.out.cell
  have cf0 := cf 0
  obtain ⟨d0, d1, d2, _⟩ := B.out.cnt.cell
  obtain ⟨e0, e1, e2, e3, e4, _⟩ := B.out.box.all
  dsimp only at e0 e1 e2 e3 e4
  have a1 : ¬ (64 : Int) < (n : Int) + 1 := by omega
  have a2 : ¬ (8 : Int) < (d : Int) := by omega
  clear hb B1 cf hw
  go_enter Tryz.func27, Tryz.ntmps27
  go_upto_region 2 with fail
  rw [hW.out]
  clear hW c0 cf0
  go_wp2_with fail
  with_reducible refine (C.out _).mono ?_
  rintro e v ⟨rfl, b2⟩
  have B2 := hide (B.out.below b2)
  clear b2 d0 d1 d2 e0 e1 e2 e3 e4 B C
  obtain ⟨d0, d1, d2, df⟩ := B2.out.cnt.cell
  have df2 := df 2
  obtain ⟨e0, e1, e2, e3, e4, _⟩ := B2.out.box.all
  dsimp only at e0 e1 e2 e3 e4
  clear df
  cases f with
  | false =>
    have S0 : Hid (BoxM (v.setCell ⟨g, 2, none⟩ (.bool true)) w.heap.size ⟨1, nm, vl, va, vn, vc, ka, kn, kc⟩ ∧ SZ (v.setCell ⟨g, 2, none⟩ (.bool true)) g ((n : Int) + 1) b true ∧ Ch (fun k => k = g) w (v.setCell ⟨g, 2, none⟩ (.bool true))) := ⟨B2.out.box.block (Below.heap_setCell _ _ _ _ B2.out.ne), B2.out.cnt.mark _, B2.out.ch.trans (ch_set v g 2 _)⟩
    go_upto_region 12 with fail
    generalize v.setCell ⟨g, 2, none⟩ (.bool true) = u at S0 ⊢
    clear e0 e1 e2 e3 e4 d0 d1 d2 df2
    obtain ⟨S1, S2, S3⟩ := S0.out
    obtain ⟨e0, e1, e2, e3, e4, _⟩ := S1.all
    dsimp only at e0 e1 e2 e3 e4
    have T1 := hide (sztext_any nm g ((n : Int) + 1) b true u w1 hb4 S2)
    have HS := hide (And.intro S1 S3)
    clear S0 S1 S2 S3
    go_wp2_with fail
    with_reducible refine T1.out.mono ?_
    rintro e u1 ⟨rfl, c1, b1, bad1, s1, hb1, m1⟩
    have M1 := hide m1
    have X1 := hide (HS.out.1.block (c1.block _ HS.out.1.lt HNE.out))
    have C1 := hide (HS.out.2.trans c1)
    have T2 := hide (sztext_any vl g ((n : Int) + 1) b1 bad1 u1 w2 hb1 s1)
    clear e0 e1 e2 e3 e4 c1 s1 m1 HS T1 hb1
    obtain ⟨e0, e1, e2, e3, e4, _⟩ := X1.out.all
    dsimp only at e0 e1 e2 e3 e4
    go_wp2_with fail
    with_reducible refine T2.out.mono ?_
    rintro e u2 ⟨rfl, c2, b2, bad2, s2, _, m2⟩
    have M2 := hide m2
    have C2 := hide (C1.out.trans c2)
    have SS := hide s2
    clear e0 e1 e2 e3 e4 c2 s2 m2 C1 X1 T2
    go_wp2
    go_end0
    refine ⟨rfl, C2.out, ?_⟩
    exact look_fin M1.out M2.out SS.out
  | true =>
    go_wp2_with fail
    with_reducible refine (CN.out _).mono ?_
    rintro e v3 ⟨rfl, hq⟩
    have B3 : Hid (Beg w v3 g n b ⟨1, nm, vl, va, vn, vc, ka, kn, kc⟩) := by rw [hq]; exact B2.out
    clear hq B2 d0 d1 d2 df2 e0 e1 e2 e3 e4 CN
    obtain ⟨d0, d1, d2, df⟩ := B3.out.cnt.cell
    have df2 := df 2
    obtain ⟨e0, e1, e2, e3, e4, _⟩ := B3.out.box.all
    dsimp only at e0 e1 e2 e3 e4
    clear df
    cases k with
    | false =>
      have S0 : Hid (BoxM (v3.setCell ⟨g, 2, none⟩ (.bool true)) w.heap.size ⟨1, nm, vl, va, vn, vc, ka, kn, kc⟩ ∧ SZ (v3.setCell ⟨g, 2, none⟩ (.bool true)) g ((n : Int) + 1) b true ∧ Ch (fun k => k = g) w (v3.setCell ⟨g, 2, none⟩ (.bool true))) := ⟨B3.out.box.block (Below.heap_setCell _ _ _ _ B3.out.ne), B3.out.cnt.mark _, B3.out.ch.trans (ch_set v3 g 2 _)⟩
      go_upto_region 12 with fail
      generalize v3.setCell ⟨g, 2, none⟩ (.bool true) = u at S0 ⊢
      clear e0 e1 e2 e3 e4 d0 d1 d2 df2
      obtain ⟨S1, S2, S3⟩ := S0.out
      obtain ⟨e0, e1, e2, e3, e4, _⟩ := S1.all
      dsimp only at e0 e1 e2 e3 e4
      have T1 := hide (sztext_any nm g ((n : Int) + 1) b true u w1 hb4 S2)
      have HS := hide (And.intro S1 S3)
      clear S0 S1 S2 S3
      go_wp2_with fail
      with_reducible refine T1.out.mono ?_
      rintro e u1 ⟨rfl, c1, b1, bad1, s1, hb1, m1⟩
      have M1 := hide m1
      have X1 := hide (HS.out.1.block (c1.block _ HS.out.1.lt HNE.out))
      have C1 := hide (HS.out.2.trans c1)
      have T2 := hide (sztext_any vl g ((n : Int) + 1) b1 bad1 u1 w2 hb1 s1)
      clear e0 e1 e2 e3 e4 c1 s1 m1 HS T1 hb1
      obtain ⟨e0, e1, e2, e3, e4, _⟩ := X1.out.all
      dsimp only at e0 e1 e2 e3 e4
      go_wp2_with fail
      with_reducible refine T2.out.mono ?_
      rintro e u2 ⟨rfl, c2, b2, bad2, s2, _, m2⟩
      have M2 := hide m2
      have C2 := hide (C1.out.trans c2)
      have SS := hide s2
      clear e0 e1 e2 e3 e4 c2 s2 m2 C1 X1 T2
      go_wp2
      go_end0
      refine ⟨rfl, C2.out, ?_⟩
      exact look_fin M1.out M2.out SS.out
    | true =>
      by_cases hs : vl.size ≤ 64
      · have t1 : ¬ (64 : Int) < (vl.size : Int) := by omega
        have t2 : decide ((64 : Int) < (vl.size : Int)) = false := decide_eq_false t1
        obtain rfl : t = true := by rw [← HT.out]; exact decide_eq_true hs
        have S0 : Hid (BoxM (v3.setCell ⟨g, 2, none⟩ (.bool false)) w.heap.size ⟨1, nm, vl, va, vn, vc, ka, kn, kc⟩ ∧ SZ (v3.setCell ⟨g, 2, none⟩ (.bool false)) g ((n : Int) + 1) b false ∧ Ch (fun k => k = g) w (v3.setCell ⟨g, 2, none⟩ (.bool false))) := ⟨B3.out.box.block (Below.heap_setCell _ _ _ _ B3.out.ne), B3.out.cnt.mark _, B3.out.ch.trans (ch_set v3 g 2 _)⟩
        go_upto_region 12 with fail
        generalize v3.setCell ⟨g, 2, none⟩ (.bool false) = u at S0 ⊢
        clear e0 e1 e2 e3 e4 d0 d1 d2 df2
        obtain ⟨S1, S2, S3⟩ := S0.out
        obtain ⟨e0, e1, e2, e3, e4, _⟩ := S1.all
        dsimp only at e0 e1 e2 e3 e4
        have T1 := hide (sztext_any nm g ((n : Int) + 1) b false u w1 hb4 S2)
        have HS := hide (And.intro S1 S3)
        clear S0 S1 S2 S3
        go_wp2_with fail
        with_reducible refine T1.out.mono ?_
        rintro e u1 ⟨rfl, c1, b1, bad1, s1, hb1, m1⟩
        have M1 := hide m1
        have X1 := hide (HS.out.1.block (c1.block _ HS.out.1.lt HNE.out))
        have C1 := hide (HS.out.2.trans c1)
        have T2 := hide (sztext_any vl g ((n : Int) + 1) b1 bad1 u1 w2 hb1 s1)
        clear e0 e1 e2 e3 e4 c1 s1 m1 HS T1 hb1
        obtain ⟨e0, e1, e2, e3, e4, _⟩ := X1.out.all
        dsimp only at e0 e1 e2 e3 e4
        go_wp2_with fail
        with_reducible refine T2.out.mono ?_
        rintro e u2 ⟨rfl, c2, b2, bad2, s2, _, m2⟩
        have M2 := hide m2
        have C2 := hide (C1.out.trans c2)
        have SS := hide s2
        clear e0 e1 e2 e3 e4 c2 s2 m2 C1 X1 T2
        go_wp2
        go_end0
        refine ⟨rfl, C2.out, ?_⟩
        exact look_fin M1.out M2.out SS.out
      · have t1 : (64 : Int) < (vl.size : Int) := by omega
        have t2 : decide ((64 : Int) < (vl.size : Int)) = true := decide_eq_true t1
        obtain rfl : t = false := by rw [← HT.out]; exact decide_eq_false hs
        have S0 : Hid (BoxM (v3.setCell ⟨g, 2, none⟩ (.bool true)) w.heap.size ⟨1, nm, vl, va, vn, vc, ka, kn, kc⟩ ∧ SZ (v3.setCell ⟨g, 2, none⟩ (.bool true)) g ((n : Int) + 1) b true ∧ Ch (fun k => k = g) w (v3.setCell ⟨g, 2, none⟩ (.bool true))) := ⟨B3.out.box.block (Below.heap_setCell _ _ _ _ B3.out.ne), B3.out.cnt.mark _, B3.out.ch.trans (ch_set v3 g 2 _)⟩
        go_upto_region 12 with fail
        generalize v3.setCell ⟨g, 2, none⟩ (.bool true) = u at S0 ⊢
        clear e0 e1 e2 e3 e4 d0 d1 d2 df2
        obtain ⟨S1, S2, S3⟩ := S0.out
        obtain ⟨e0, e1, e2, e3, e4, _⟩ := S1.all
        dsimp only at e0 e1 e2 e3 e4
        have T1 := hide (sztext_any nm g ((n : Int) + 1) b true u w1 hb4 S2)
        have HS := hide (And.intro S1 S3)
        clear S0 S1 S2 S3
        go_wp2_with fail
        with_reducible refine T1.out.mono ?_
        rintro e u1 ⟨rfl, c1, b1, bad1, s1, hb1, m1⟩
        have M1 := hide m1
        have X1 := hide (HS.out.1.block (c1.block _ HS.out.1.lt HNE.out))
        have C1 := hide (HS.out.2.trans c1)
        have T2 := hide (sztext_any vl g ((n : Int) + 1) b1 bad1 u1 w2 hb1 s1)
        clear e0 e1 e2 e3 e4 c1 s1 m1 HS T1 hb1
        obtain ⟨e0, e1, e2, e3, e4, _⟩ := X1.out.all
        dsimp only at e0 e1 e2 e3 e4
        go_wp2_with fail
        with_reducible refine T2.out.mono ?_
        rintro e u2 ⟨rfl, c2, b2, bad2, s2, _, m2⟩
        have M2 := hide m2
        have C2 := hide (C1.out.trans c2)
        have SS := hide s2
        clear e0 e1 e2 e3 e4 c2 s2 m2 C1 X1 T2
        go_wp2
        go_end0
        refine ⟨rfl, C2.out, ?_⟩
        exact look_fin M1.out M2.out SS.out
set_option maxHeartbeats 8000000 in
theorem look_2 (nm vl : ByteArray) (va : Option Addr) (vn vc : Nat) (ka : Option Addr) (kn kc : Nat) (d n b g : Nat) (w : World) (hw : HmW ⟨2, nm, vl, va, vn, vc, ka, kn, kc⟩) (hb : SZ w g n b false) (hd : d ≤ 8) (hn : n < 64) (hb4 : b ≤ 4096) :
    Calls Tryz.prog 27 #[.pointer (some ⟨g, 0, none⟩), .agg #[.int .i64 2, .string nm, .string vl, .slice va vn vc, .slice ka kn kc], .int .i64 d] w fun e w' => LookP (lookR ((decide (vn = 0) && decide (kn = 0)) && (nameB nm && decide (vl.size ≤ 64))) n b (nm.size + vl.size)) g w w' e := by
  have C := hide (fun W => bare_tff ⟨2, nm, vl, va, vn, vc, ka, kn, kc⟩ W hw)
  dsimp only at C
  have w1 : nm.size ≤ 9223372036854775807 := hw.nm
  have w2 : vl.size ≤ 9223372036854775807 := hw.vl
  have CN := hide (fun W => refname_any nm W w1)
  generalize (decide (vn = 0) && decide (kn = 0)) = f at C ⊢
  generalize nameB nm = k at CN ⊢
  generalize ht : decide (vl.size ≤ 64) = t
  have HT := hide ht
  clear ht
  obtain ⟨W, hW⟩ : ∃ W, Hid ((w.alloc (.cells #[.int .i64 2, .string nm, .string vl, .slice va vn vc, .slice ka kn kc] 26)).setCell ⟨g, 0, none⟩ (.int .i64 ((n : Int) + 1)) = W) := ⟨_, rfl⟩
  have B : Hid (Beg w W g n b ⟨2, nm, vl, va, vn, vc, ka, kn, kc⟩) := by rw [← hW.out]; exact beg_of (h := ⟨2, nm, vl, va, vn, vc, ka, kn, kc⟩) hb
  have HNE := hide B.out.ne
  have B1 := hide (hb.block (w' := w.alloc (.cells #[.int .i64 2, .string nm, .string vl, .slice va vn vc, .slice ka kn kc] 26)) (Below.heap_alloc w _ g hb.lt))
  obtain ⟨c0, _, _, cf⟩ := B1.out.cell
  have cf0 := cf 0
  obtain ⟨d0, d1, d2, _⟩ := B.out.cnt.cell
  obtain ⟨e0, e1, e2, e3, e4, _⟩ := B.out.box.all
  dsimp only at e0 e1 e2 e3 e4
  have a1 : ¬ (64 : Int) < (n : Int) + 1 := by omega
  have a2 : ¬ (8 : Int) < (d : Int) := by omega
  clear hb B1 cf hw
  go_enter Tryz.func27, Tryz.ntmps27
  go_upto_region 2 with fail
  rw [hW.out]
  clear hW c0 cf0
  go_wp2_with fail
  with_reducible refine (C.out _).mono ?_
  rintro e v ⟨rfl, b2⟩
  have B2 := hide (B.out.below b2)
  clear b2 d0 d1 d2 e0 e1 e2 e3 e4 B C
  obtain ⟨d0, d1, d2, df⟩ := B2.out.cnt.cell
  have df2 := df 2
  obtain ⟨e0, e1, e2, e3, e4, _⟩ := B2.out.box.all
  dsimp only at e0 e1 e2 e3 e4
  clear df
  cases f with
  | false =>
    have S0 : Hid (BoxM (v.setCell ⟨g, 2, none⟩ (.bool true)) w.heap.size ⟨2, nm, vl, va, vn, vc, ka, kn, kc⟩ ∧ SZ (v.setCell ⟨g, 2, none⟩ (.bool true)) g ((n : Int) + 1) b true ∧ Ch (fun k => k = g) w (v.setCell ⟨g, 2, none⟩ (.bool true))) := ⟨B2.out.box.block (Below.heap_setCell _ _ _ _ B2.out.ne), B2.out.cnt.mark _, B2.out.ch.trans (ch_set v g 2 _)⟩
    go_upto_region 12 with fail
    generalize v.setCell ⟨g, 2, none⟩ (.bool true) = u at S0 ⊢
    clear e0 e1 e2 e3 e4 d0 d1 d2 df2
    obtain ⟨S1, S2, S3⟩ := S0.out
    obtain ⟨e0, e1, e2, e3, e4, _⟩ := S1.all
    dsimp only at e0 e1 e2 e3 e4
    have T1 := hide (sztext_any nm g ((n : Int) + 1) b true u w1 hb4 S2)
    have HS := hide (And.intro S1 S3)
    clear S0 S1 S2 S3
    go_wp2_with fail
    with_reducible refine T1.out.mono ?_
    rintro e u1 ⟨rfl, c1, b1, bad1, s1, hb1, m1⟩
    have M1 := hide m1
    have X1 := hide (HS.out.1.block (c1.block _ HS.out.1.lt HNE.out))
    have C1 := hide (HS.out.2.trans c1)
    have T2 := hide (sztext_any vl g ((n : Int) + 1) b1 bad1 u1 w2 hb1 s1)
    clear e0 e1 e2 e3 e4 c1 s1 m1 HS T1 hb1
    obtain ⟨e0, e1, e2, e3, e4, _⟩ := X1.out.all
    dsimp only at e0 e1 e2 e3 e4
    go_wp2_with fail
    with_reducible refine T2.out.mono ?_
    rintro e u2 ⟨rfl, c2, b2, bad2, s2, _, m2⟩
    have M2 := hide m2
    have C2 := hide (C1.out.trans c2)
    have SS := hide s2
    clear e0 e1 e2 e3 e4 c2 s2 m2 C1 X1 T2
    go_wp2
    go_end0
    refine ⟨rfl, C2.out, ?_⟩
    exact look_fin M1.out M2.out SS.out
  | true =>
    go_wp2_with fail
    with_reducible refine (CN.out _).mono ?_
    rintro e v3 ⟨rfl, hq⟩
    have B3 : Hid (Beg w v3 g n b ⟨2, nm, vl, va, vn, vc, ka, kn, kc⟩) := by rw [hq]; exact B2.out
    clear hq B2 d0 d1 d2 df2 e0 e1 e2 e3 e4 CN
    obtain ⟨d0, d1, d2, df⟩ := B3.out.cnt.cell
    have df2 := df 2
    obtain ⟨e0, e1, e2, e3, e4, _⟩ := B3.out.box.all
    dsimp only at e0 e1 e2 e3 e4
    clear df
    cases k with
    | false =>
      have S0 : Hid (BoxM (v3.setCell ⟨g, 2, none⟩ (.bool true)) w.heap.size ⟨2, nm, vl, va, vn, vc, ka, kn, kc⟩ ∧ SZ (v3.setCell ⟨g, 2, none⟩ (.bool true)) g ((n : Int) + 1) b true ∧ Ch (fun k => k = g) w (v3.setCell ⟨g, 2, none⟩ (.bool true))) := ⟨B3.out.box.block (Below.heap_setCell _ _ _ _ B3.out.ne), B3.out.cnt.mark _, B3.out.ch.trans (ch_set v3 g 2 _)⟩
      go_upto_region 12 with fail
      generalize v3.setCell ⟨g, 2, none⟩ (.bool true) = u at S0 ⊢
      clear e0 e1 e2 e3 e4 d0 d1 d2 df2
      obtain ⟨S1, S2, S3⟩ := S0.out
      obtain ⟨e0, e1, e2, e3, e4, _⟩ := S1.all
      dsimp only at e0 e1 e2 e3 e4
      have T1 := hide (sztext_any nm g ((n : Int) + 1) b true u w1 hb4 S2)
      have HS := hide (And.intro S1 S3)
      clear S0 S1 S2 S3
      go_wp2_with fail
      with_reducible refine T1.out.mono ?_
      rintro e u1 ⟨rfl, c1, b1, bad1, s1, hb1, m1⟩
      have M1 := hide m1
      have X1 := hide (HS.out.1.block (c1.block _ HS.out.1.lt HNE.out))
      have C1 := hide (HS.out.2.trans c1)
      have T2 := hide (sztext_any vl g ((n : Int) + 1) b1 bad1 u1 w2 hb1 s1)
      clear e0 e1 e2 e3 e4 c1 s1 m1 HS T1 hb1
      obtain ⟨e0, e1, e2, e3, e4, _⟩ := X1.out.all
      dsimp only at e0 e1 e2 e3 e4
      go_wp2_with fail
      with_reducible refine T2.out.mono ?_
      rintro e u2 ⟨rfl, c2, b2, bad2, s2, _, m2⟩
      have M2 := hide m2
      have C2 := hide (C1.out.trans c2)
      have SS := hide s2
      clear e0 e1 e2 e3 e4 c2 s2 m2 C1 X1 T2
      go_wp2
      go_end0
      refine ⟨rfl, C2.out, ?_⟩
      exact look_fin M1.out M2.out SS.out
    | true =>
      by_cases hs : vl.size ≤ 64
      · have t1 : ¬ (64 : Int) < (vl.size : Int) := by omega
        have t2 : decide ((64 : Int) < (vl.size : Int)) = false := decide_eq_false t1
        obtain rfl : t = true := by rw [← HT.out]; exact decide_eq_true hs
        have S0 : Hid (BoxM (v3.setCell ⟨g, 2, none⟩ (.bool false)) w.heap.size ⟨2, nm, vl, va, vn, vc, ka, kn, kc⟩ ∧ SZ (v3.setCell ⟨g, 2, none⟩ (.bool false)) g ((n : Int) + 1) b false ∧ Ch (fun k => k = g) w (v3.setCell ⟨g, 2, none⟩ (.bool false))) := ⟨B3.out.box.block (Below.heap_setCell _ _ _ _ B3.out.ne), B3.out.cnt.mark _, B3.out.ch.trans (ch_set v3 g 2 _)⟩
        go_upto_region 12 with fail
        generalize v3.setCell ⟨g, 2, none⟩ (.bool false) = u at S0 ⊢
        clear e0 e1 e2 e3 e4 d0 d1 d2 df2
        obtain ⟨S1, S2, S3⟩ := S0.out
        obtain ⟨e0, e1, e2, e3, e4, _⟩ := S1.all
        dsimp only at e0 e1 e2 e3 e4
        have T1 := hide (sztext_any nm g ((n : Int) + 1) b false u w1 hb4 S2)
        have HS := hide (And.intro S1 S3)
        clear S0 S1 S2 S3
        go_wp2_with fail
        with_reducible refine T1.out.mono ?_
        rintro e u1 ⟨rfl, c1, b1, bad1, s1, hb1, m1⟩
        have M1 := hide m1
        have X1 := hide (HS.out.1.block (c1.block _ HS.out.1.lt HNE.out))
        have C1 := hide (HS.out.2.trans c1)
        have T2 := hide (sztext_any vl g ((n : Int) + 1) b1 bad1 u1 w2 hb1 s1)
        clear e0 e1 e2 e3 e4 c1 s1 m1 HS T1 hb1
        obtain ⟨e0, e1, e2, e3, e4, _⟩ := X1.out.all
        dsimp only at e0 e1 e2 e3 e4
        go_wp2_with fail
        with_reducible refine T2.out.mono ?_
        rintro e u2 ⟨rfl, c2, b2, bad2, s2, _, m2⟩
        have M2 := hide m2
        have C2 := hide (C1.out.trans c2)
        have SS := hide s2
        clear e0 e1 e2 e3 e4 c2 s2 m2 C1 X1 T2
        go_wp2
        go_end0
        refine ⟨rfl, C2.out, ?_⟩
        exact look_fin M1.out M2.out SS.out
      · have t1 : (64 : Int) < (vl.size : Int) := by omega
        have t2 : decide ((64 : Int) < (vl.size : Int)) = true := decide_eq_true t1
        obtain rfl : t = false := by rw [← HT.out]; exact decide_eq_false hs
        have S0 : Hid (BoxM (v3.setCell ⟨g, 2, none⟩ (.bool true)) w.heap.size ⟨2, nm, vl, va, vn, vc, ka, kn, kc⟩ ∧ SZ (v3.setCell ⟨g, 2, none⟩ (.bool true)) g ((n : Int) + 1) b true ∧ Ch (fun k => k = g) w (v3.setCell ⟨g, 2, none⟩ (.bool true))) := ⟨B3.out.box.block (Below.heap_setCell _ _ _ _ B3.out.ne), B3.out.cnt.mark _, B3.out.ch.trans (ch_set v3 g 2 _)⟩
        go_upto_region 12 with fail
        generalize v3.setCell ⟨g, 2, none⟩ (.bool true) = u at S0 ⊢
        clear e0 e1 e2 e3 e4 d0 d1 d2 df2
        obtain ⟨S1, S2, S3⟩ := S0.out
        obtain ⟨e0, e1, e2, e3, e4, _⟩ := S1.all
        dsimp only at e0 e1 e2 e3 e4
        have T1 := hide (sztext_any nm g ((n : Int) + 1) b true u w1 hb4 S2)
        have HS := hide (And.intro S1 S3)
        clear S0 S1 S2 S3
        go_wp2_with fail
        with_reducible refine T1.out.mono ?_
        rintro e u1 ⟨rfl, c1, b1, bad1, s1, hb1, m1⟩
        have M1 := hide m1
        have X1 := hide (HS.out.1.block (c1.block _ HS.out.1.lt HNE.out))
        have C1 := hide (HS.out.2.trans c1)
        have T2 := hide (sztext_any vl g ((n : Int) + 1) b1 bad1 u1 w2 hb1 s1)
        clear e0 e1 e2 e3 e4 c1 s1 m1 HS T1 hb1
        obtain ⟨e0, e1, e2, e3, e4, _⟩ := X1.out.all
        dsimp only at e0 e1 e2 e3 e4
        go_wp2_with fail
        with_reducible refine T2.out.mono ?_
        rintro e u2 ⟨rfl, c2, b2, bad2, s2, _, m2⟩
        have M2 := hide m2
        have C2 := hide (C1.out.trans c2)
        have SS := hide s2
        clear e0 e1 e2 e3 e4 c2 s2 m2 C1 X1 T2
        go_wp2
        go_end0
        refine ⟨rfl, C2.out, ?_⟩
        exact look_fin M1.out M2.out SS.out
set_option maxHeartbeats 8000000 in
theorem look_3 (nm vl : ByteArray) (va : Option Addr) (vn vc : Nat) (ka : Option Addr) (kn kc : Nat) (d n b g : Nat) (w : World) (hw : HmW ⟨3, nm, vl, va, vn, vc, ka, kn, kc⟩) (hb : SZ w g n b false) (hd : d ≤ 8) (hn : n < 64) (hb4 : b ≤ 4096) :
    Calls Tryz.prog 27 #[.pointer (some ⟨g, 0, none⟩), .agg #[.int .i64 3, .string nm, .string vl, .slice va vn vc, .slice ka kn kc], .int .i64 d] w fun e w' => LookP (lookR ((decide (vn = 0) && decide (kn = 0)) && (nameB nm && decide (vl.size ≤ 64))) n b (nm.size + vl.size)) g w w' e := by
  have C := hide (fun W => bare_tff ⟨3, nm, vl, va, vn, vc, ka, kn, kc⟩ W hw)
  dsimp only at C
  have w1 : nm.size ≤ 9223372036854775807 := hw.nm
  have w2 : vl.size ≤ 9223372036854775807 := hw.vl
  have CN := hide (fun W => refname_any nm W w1)
  generalize (decide (vn = 0) && decide (kn = 0)) = f at C ⊢
  generalize nameB nm = k at CN ⊢
  generalize ht : decide (vl.size ≤ 64) = t
  have HT := hide ht
  clear ht
  obtain ⟨W, hW⟩ : ∃ W, Hid ((w.alloc (.cells #[.int .i64 3, .string nm, .string vl, .slice va vn vc, .slice ka kn kc] 26)).setCell ⟨g, 0, none⟩ (.int .i64 ((n : Int) + 1)) = W) := ⟨_, rfl⟩
  have B : Hid (Beg w W g n b ⟨3, nm, vl, va, vn, vc, ka, kn, kc⟩) := by rw [← hW.out]; exact beg_of (h := ⟨3, nm, vl, va, vn, vc, ka, kn, kc⟩) hb
  have HNE := hide B.out.ne
  have B1 := hide (hb.block (w' := w.alloc (.cells #[.int .i64 3, .string nm, .string vl, .slice va vn vc, .slice ka kn kc] 26)) (Below.heap_alloc w _ g hb.lt))
  obtain ⟨c0, _, _, cf⟩ := B1.out.cell
  have cf0 := cf 0
  obtain ⟨d0, d1, d2, _⟩ := B.out.cnt.cell
  obtain ⟨e0, e1, e2, e3, e4, _⟩ := B.out.box.all
  dsimp only at e0 e1 e2 e3 e4
  have a1 : ¬ (64 : Int) < (n : Int) + 1 := by omega
  have a2 : ¬ (8 : Int) < (d : Int) := by omega
  clear hb B1 cf hw
  go_enter Tryz.func27, Tryz.ntmps27
  go_upto_region 2 with fail
  rw [hW.out]
  clear hW c0 cf0
  go_wp2_with fail
  with_reducible refine (C.out _).mono ?_
  rintro e v ⟨rfl, b2⟩
  have B2 := hide (B.out.below b2)
  clear b2 d0 d1 d2 e0 e1 e2 e3 e4 B C
  obtain ⟨d0, d1, d2, df⟩ := B2.out.cnt.cell
  have df2 := df 2
  obtain ⟨e0, e1, e2, e3, e4, _⟩ := B2.out.box.all
  dsimp only at e0 e1 e2 e3 e4
  clear df
  cases f with
  | false =>
    have S0 : Hid (BoxM (v.setCell ⟨g, 2, none⟩ (.bool true)) w.heap.size ⟨3, nm, vl, va, vn, vc, ka, kn, kc⟩ ∧ SZ (v.setCell ⟨g, 2, none⟩ (.bool true)) g ((n : Int) + 1) b true ∧ Ch (fun k => k = g) w (v.setCell ⟨g, 2, none⟩ (.bool true))) := ⟨B2.out.box.block (Below.heap_setCell _ _ _ _ B2.out.ne), B2.out.cnt.mark _, B2.out.ch.trans (ch_set v g 2 _)⟩
    go_upto_region 12 with fail
    generalize v.setCell ⟨g, 2, none⟩ (.bool true) = u at S0 ⊢
    clear e0 e1 e2 e3 e4 d0 d1 d2 df2
    obtain ⟨S1, S2, S3⟩ := S0.out
    obtain ⟨e0, e1, e2, e3, e4, _⟩ := S1.all
    dsimp only at e0 e1 e2 e3 e4
    have T1 := hide (sztext_any nm g ((n : Int) + 1) b true u w1 hb4 S2)
    have HS := hide (And.intro S1 S3)
    clear S0 S1 S2 S3
    go_wp2_with fail
    with_reducible refine T1.out.mono ?_
    rintro e u1 ⟨rfl, c1, b1, bad1, s1, hb1, m1⟩
    have M1 := hide m1
    have X1 := hide (HS.out.1.block (c1.block _ HS.out.1.lt HNE.out))
    have C1 := hide (HS.out.2.trans c1)
    have T2 := hide (sztext_any vl g ((n : Int) + 1) b1 bad1 u1 w2 hb1 s1)
    clear e0 e1 e2 e3 e4 c1 s1 m1 HS T1 hb1
    obtain ⟨e0, e1, e2, e3, e4, _⟩ := X1.out.all
    dsimp only at e0 e1 e2 e3 e4
    go_wp2_with fail
    with_reducible refine T2.out.mono ?_
    rintro e u2 ⟨rfl, c2, b2, bad2, s2, _, m2⟩
    have M2 := hide m2
    have C2 := hide (C1.out.trans c2)
    have SS := hide s2
    clear e0 e1 e2 e3 e4 c2 s2 m2 C1 X1 T2
    go_wp2
    go_end0
    refine ⟨rfl, C2.out, ?_⟩
    exact look_fin M1.out M2.out SS.out
  | true =>
    go_wp2_with fail
    with_reducible refine (CN.out _).mono ?_
    rintro e v3 ⟨rfl, hq⟩
    have B3 : Hid (Beg w v3 g n b ⟨3, nm, vl, va, vn, vc, ka, kn, kc⟩) := by rw [hq]; exact B2.out
    clear hq B2 d0 d1 d2 df2 e0 e1 e2 e3 e4 CN
    obtain ⟨d0, d1, d2, df⟩ := B3.out.cnt.cell
    have df2 := df 2
    obtain ⟨e0, e1, e2, e3, e4, _⟩ := B3.out.box.all
    dsimp only at e0 e1 e2 e3 e4
    clear df
    cases k with
    | false =>
      have S0 : Hid (BoxM (v3.setCell ⟨g, 2, none⟩ (.bool true)) w.heap.size ⟨3, nm, vl, va, vn, vc, ka, kn, kc⟩ ∧ SZ (v3.setCell ⟨g, 2, none⟩ (.bool true)) g ((n : Int) + 1) b true ∧ Ch (fun k => k = g) w (v3.setCell ⟨g, 2, none⟩ (.bool true))) := ⟨B3.out.box.block (Below.heap_setCell _ _ _ _ B3.out.ne), B3.out.cnt.mark _, B3.out.ch.trans (ch_set v3 g 2 _)⟩
      go_upto_region 12 with fail
      generalize v3.setCell ⟨g, 2, none⟩ (.bool true) = u at S0 ⊢
      clear e0 e1 e2 e3 e4 d0 d1 d2 df2
      obtain ⟨S1, S2, S3⟩ := S0.out
      obtain ⟨e0, e1, e2, e3, e4, _⟩ := S1.all
      dsimp only at e0 e1 e2 e3 e4
      have T1 := hide (sztext_any nm g ((n : Int) + 1) b true u w1 hb4 S2)
      have HS := hide (And.intro S1 S3)
      clear S0 S1 S2 S3
      go_wp2_with fail
      with_reducible refine T1.out.mono ?_
      rintro e u1 ⟨rfl, c1, b1, bad1, s1, hb1, m1⟩
      have M1 := hide m1
      have X1 := hide (HS.out.1.block (c1.block _ HS.out.1.lt HNE.out))
      have C1 := hide (HS.out.2.trans c1)
      have T2 := hide (sztext_any vl g ((n : Int) + 1) b1 bad1 u1 w2 hb1 s1)
      clear e0 e1 e2 e3 e4 c1 s1 m1 HS T1 hb1
      obtain ⟨e0, e1, e2, e3, e4, _⟩ := X1.out.all
      dsimp only at e0 e1 e2 e3 e4
      go_wp2_with fail
      with_reducible refine T2.out.mono ?_
      rintro e u2 ⟨rfl, c2, b2, bad2, s2, _, m2⟩
      have M2 := hide m2
      have C2 := hide (C1.out.trans c2)
      have SS := hide s2
      clear e0 e1 e2 e3 e4 c2 s2 m2 C1 X1 T2
      go_wp2
      go_end0
      refine ⟨rfl, C2.out, ?_⟩
      exact look_fin M1.out M2.out SS.out
    | true =>
      by_cases hs : vl.size ≤ 64
      · have t1 : ¬ (64 : Int) < (vl.size : Int) := by omega
        have t2 : decide ((64 : Int) < (vl.size : Int)) = false := decide_eq_false t1
        obtain rfl : t = true := by rw [← HT.out]; exact decide_eq_true hs
        have S0 : Hid (BoxM (v3.setCell ⟨g, 2, none⟩ (.bool false)) w.heap.size ⟨3, nm, vl, va, vn, vc, ka, kn, kc⟩ ∧ SZ (v3.setCell ⟨g, 2, none⟩ (.bool false)) g ((n : Int) + 1) b false ∧ Ch (fun k => k = g) w (v3.setCell ⟨g, 2, none⟩ (.bool false))) := ⟨B3.out.box.block (Below.heap_setCell _ _ _ _ B3.out.ne), B3.out.cnt.mark _, B3.out.ch.trans (ch_set v3 g 2 _)⟩
        go_upto_region 12 with fail
        generalize v3.setCell ⟨g, 2, none⟩ (.bool false) = u at S0 ⊢
        clear e0 e1 e2 e3 e4 d0 d1 d2 df2
        obtain ⟨S1, S2, S3⟩ := S0.out
        obtain ⟨e0, e1, e2, e3, e4, _⟩ := S1.all
        dsimp only at e0 e1 e2 e3 e4
        have T1 := hide (sztext_any nm g ((n : Int) + 1) b false u w1 hb4 S2)
        have HS := hide (And.intro S1 S3)
        clear S0 S1 S2 S3
        go_wp2_with fail
        with_reducible refine T1.out.mono ?_
        rintro e u1 ⟨rfl, c1, b1, bad1, s1, hb1, m1⟩
        have M1 := hide m1
        have X1 := hide (HS.out.1.block (c1.block _ HS.out.1.lt HNE.out))
        have C1 := hide (HS.out.2.trans c1)
        have T2 := hide (sztext_any vl g ((n : Int) + 1) b1 bad1 u1 w2 hb1 s1)
        clear e0 e1 e2 e3 e4 c1 s1 m1 HS T1 hb1
        obtain ⟨e0, e1, e2, e3, e4, _⟩ := X1.out.all
        dsimp only at e0 e1 e2 e3 e4
        go_wp2_with fail
        with_reducible refine T2.out.mono ?_
        rintro e u2 ⟨rfl, c2, b2, bad2, s2, _, m2⟩
        have M2 := hide m2
        have C2 := hide (C1.out.trans c2)
        have SS := hide s2
        clear e0 e1 e2 e3 e4 c2 s2 m2 C1 X1 T2
        go_wp2
        go_end0
        refine ⟨rfl, C2.out, ?_⟩
        exact look_fin M1.out M2.out SS.out
      · have t1 : (64 : Int) < (vl.size : Int) := by omega
        have t2 : decide ((64 : Int) < (vl.size : Int)) = true := decide_eq_true t1
        obtain rfl : t = false := by rw [← HT.out]; exact decide_eq_false hs
        have S0 : Hid (BoxM (v3.setCell ⟨g, 2, none⟩ (.bool true)) w.heap.size ⟨3, nm, vl, va, vn, vc, ka, kn, kc⟩ ∧ SZ (v3.setCell ⟨g, 2, none⟩ (.bool true)) g ((n : Int) + 1) b true ∧ Ch (fun k => k = g) w (v3.setCell ⟨g, 2, none⟩ (.bool true))) := ⟨B3.out.box.block (Below.heap_setCell _ _ _ _ B3.out.ne), B3.out.cnt.mark _, B3.out.ch.trans (ch_set v3 g 2 _)⟩
        go_upto_region 12 with fail
        generalize v3.setCell ⟨g, 2, none⟩ (.bool true) = u at S0 ⊢
        clear e0 e1 e2 e3 e4 d0 d1 d2 df2
        obtain ⟨S1, S2, S3⟩ := S0.out
        obtain ⟨e0, e1, e2, e3, e4, _⟩ := S1.all
        dsimp only at e0 e1 e2 e3 e4
        have T1 := hide (sztext_any nm g ((n : Int) + 1) b true u w1 hb4 S2)
        have HS := hide (And.intro S1 S3)
        clear S0 S1 S2 S3
        go_wp2_with fail
        with_reducible refine T1.out.mono ?_
        rintro e u1 ⟨rfl, c1, b1, bad1, s1, hb1, m1⟩
        have M1 := hide m1
        have X1 := hide (HS.out.1.block (c1.block _ HS.out.1.lt HNE.out))
        have C1 := hide (HS.out.2.trans c1)
        have T2 := hide (sztext_any vl g ((n : Int) + 1) b1 bad1 u1 w2 hb1 s1)
        clear e0 e1 e2 e3 e4 c1 s1 m1 HS T1 hb1
        obtain ⟨e0, e1, e2, e3, e4, _⟩ := X1.out.all
        dsimp only at e0 e1 e2 e3 e4
        go_wp2_with fail
        with_reducible refine T2.out.mono ?_
        rintro e u2 ⟨rfl, c2, b2, bad2, s2, _, m2⟩
        have M2 := hide m2
        have C2 := hide (C1.out.trans c2)
        have SS := hide s2
        clear e0 e1 e2 e3 e4 c2 s2 m2 C1 X1 T2
        go_wp2
        go_end0
        refine ⟨rfl, C2.out, ?_⟩
        exact look_fin M1.out M2.out SS.out
end Go.Proofs.YtpffhpnmbpjifaaGreat

namespace Go.Proofs.YtpffhpnmbpjifaaGreat
open Go.RowKit
set_option maxRecDepth 20000

theorem sumB'_take {vs : List ByteArray} {j : Nat} {s : ByteArray} (h : vs[j]? = some s) : sumB' (vs.take (j + 1)) = sumB' (vs.take j) + s.size := by
  unfold sumB'
  rw [List.take_add_one, h]
  simp
theorem sumB'_le (vs : List ByteArray) (j : Nat) : sumB' (vs.take j) ≤ sumB' vs := by
  have : sumB' vs = sumB' (vs.take j) + sumB' (vs.drop j) := by
    unfold sumB'
    rw [← List.sum_append_nat, ← List.map_append, List.take_append_drop]
  omega
/-- How the count stands behind the name and j values. -/
def Stand4 (ok : Bool) (n b : Nat) (nm : ByteArray) (vs : List ByteArray) (j b' : Nat) (bad : Bool) : Prop :=
  (bad = true ∧ lookR ok n b (nm.size + sumB' vs) = none) ∨ (bad = false ∧ ok = true ∧ b' = b + nm.size + sumB' (vs.take j))
theorem stand4_start {ok bad : Bool} {n b b1 : Nat} {nm : ByteArray} {vs : List ByteArray} (m : MoreT b b1 (!ok) bad nm) : Stand4 ok n b nm vs 0 b1 bad := by
  unfold MoreT at m
  unfold Stand4 lookR
  by_cases a : 4096 < b + nm.size
  · rw [if_pos a] at m
    exact Or.inl ⟨m, by rw [if_neg (by omega)]⟩
  · rw [if_neg a] at m
    obtain ⟨rfl, rfl⟩ := m
    cases ok with
    | false => exact Or.inl ⟨rfl, by rw [if_neg (by simp)]⟩
    | true => exact Or.inr ⟨rfl, rfl, by rw [List.take_zero]; rfl⟩
theorem stand4_step {ok bad : Bool} {n b b1 b2 j : Nat} {nm s : ByteArray} {vs : List ByteArray} (q : Stand4 ok n b nm vs j b1 false) (hs : vs[j]? = some s) (m : MoreT b1 b2 false bad s) : Stand4 ok n b nm vs (j + 1) b2 bad := by
  rcases q with ⟨h, _⟩ | ⟨_, h1, h2⟩
  · cases h
  · unfold MoreT at m
    have ht := sumB'_take hs
    have hl := sumB'_le vs (j + 1)
    by_cases a : 4096 < b1 + s.size
    · rw [if_pos a] at m
      exact Or.inl ⟨m, by unfold lookR; rw [if_neg (by omega)]⟩
    · rw [if_neg a] at m
      exact Or.inr ⟨m.1, h1, by omega⟩
theorem stand4_end {ok bad : Bool} {n b b' g : Nat} {nm : ByteArray} {vs : List ByteArray} {u : World} (q : Stand4 ok n b nm vs vs.length b' bad) (hb : b' ≤ 4096) (s : SZ u g ((n : Int) + 1) b' bad) :
    match lookR ok n b (nm.size + sumB' vs) with
    | none => ∃ n b : Int, SZ u g n b true
    | some r => SZ u g r.1 r.2 false := by
  rcases q with ⟨rfl, h⟩ | ⟨rfl, rfl, h2⟩
  · rw [h]; exact ⟨_, _, s⟩
  · rw [List.take_length] at h2
    unfold lookR
    rw [if_pos ⟨rfl, by omega⟩, show b + (nm.size + sumB' vs) = b' by omega]
    exact s
theorem stand4_bad {ok : Bool} {n b b' g j : Nat} {nm : ByteArray} {vs : List ByteArray} {u : World} (q : Stand4 ok n b nm vs j b' true) (s : SZ u g ((n : Int) + 1) b' true) :
    match lookR ok n b (nm.size + sumB' vs) with
    | none => ∃ n b : Int, SZ u g n b true
    | some r => SZ u g r.1 r.2 false := by
  rcases q with ⟨_, h⟩ | ⟨h, _⟩
  · rw [h]; exact ⟨_, _, s⟩
  · cases h

set_option maxHeartbeats 8000000 in
theorem look_4 (S : Nat → Prop) (nm vl : ByteArray) (va : Option Addr) (vn vc : Nat) (ka : Option Addr) (kn kc : Nat) (vs : List ByteArray) (d n b g : Nat) (w : World) (hw : HmW ⟨4, nm, vl, va, vn, vc, ka, kn, kc⟩) (hv : TxR S w va vn vs) (hS : ∀ k, S k → k ≠ g) (hb : SZ w g n b false) (hd : d ≤ 8) (hn : n < 64) (hb4 : b ≤ 4096) :
    Calls Tryz.prog 27 #[.pointer (some ⟨g, 0, none⟩), .agg #[.int .i64 4, .string nm, .string vl, .slice va vn vc, .slice ka kn kc], .int .i64 d] w fun e w' => LookP (lookR ((decide (vl.size = 0) && decide (kn = 0)) && (nameB nm && valsB vs)) n b (nm.size + sumB' vs)) g w w' e := by
  have C := hide (fun W => bare_ftf ⟨4, nm, vl, va, vn, vc, ka, kn, kc⟩ W hw)
  dsimp only at C
  have w1 : nm.size ≤ 9223372036854775807 := hw.nm
  have w2 : vl.size ≤ 9223372036854775807 := hw.vl
  have w3 : vn * 16 ≤ 140737488355328 := hv.2.1
  have CN := hide (fun W => refname_any nm W w1)
  have CV := hide (fun W (q : TxR S W va vn vs) => values_any S va vn vc vs W q)
  have HV := hide hv
  have HVL := hide hv.1
  have HS := hide hS
  generalize (decide (vl.size = 0) && decide (kn = 0)) = f at C ⊢
  generalize nameB nm = k at CN ⊢
  generalize valsB vs = t at CV ⊢
  obtain ⟨W, hW⟩ : ∃ W, Hid ((w.alloc (.cells #[.int .i64 4, .string nm, .string vl, .slice va vn vc, .slice ka kn kc] 26)).setCell ⟨g, 0, none⟩ (.int .i64 ((n : Int) + 1)) = W) := ⟨_, rfl⟩
  have B : Hid (Beg w W g n b ⟨4, nm, vl, va, vn, vc, ka, kn, kc⟩) := by rw [← hW.out]; exact beg_of (h := ⟨4, nm, vl, va, vn, vc, ka, kn, kc⟩) hb
  have HNE := hide B.out.ne
  have B1 := hide (hb.block (w' := w.alloc (.cells #[.int .i64 4, .string nm, .string vl, .slice va vn vc, .slice ka kn kc] 26)) (Below.heap_alloc w _ g hb.lt))
  obtain ⟨c0, _, _, cf⟩ := B1.out.cell
  have cf0 := cf 0
  obtain ⟨d0, d1, d2, _⟩ := B.out.cnt.cell
  obtain ⟨e0, e1, e2, e3, e4, _⟩ := B.out.box.all
  dsimp only at e0 e1 e2 e3 e4
  have a1 : ¬ (64 : Int) < (n : Int) + 1 := by omega
  have a2 : ¬ (8 : Int) < (d : Int) := by omega
  clear hb B1 cf hw hv hS
  go_enter Tryz.func27, Tryz.ntmps27
  go_upto_region 2 with fail
  rw [hW.out]
  clear hW c0 cf0
  go_wp2_with fail
  with_reducible refine (C.out _).mono ?_
  rintro e v ⟨rfl, b2⟩
  have B2 := hide (B.out.below b2)
  clear b2 d0 d1 d2 e0 e1 e2 e3 e4 B C
  obtain ⟨d0, d1, d2, df⟩ := B2.out.cnt.cell
  have df2 := df 2
  obtain ⟨e0, e1, e2, e3, e4, _⟩ := B2.out.box.all
  dsimp only at e0 e1 e2 e3 e4
  clear df
  cases f with
  | false =>
    have S0 : Hid (BoxM (v.setCell ⟨g, 2, none⟩ (.bool true)) w.heap.size ⟨4, nm, vl, va, vn, vc, ka, kn, kc⟩ ∧ SZ (v.setCell ⟨g, 2, none⟩ (.bool true)) g ((n : Int) + 1) b true ∧ Ch (fun k => k = g) w (v.setCell ⟨g, 2, none⟩ (.bool true))) := ⟨B2.out.box.block (Below.heap_setCell _ _ _ _ B2.out.ne), B2.out.cnt.mark _, B2.out.ch.trans (ch_set v g 2 _)⟩
    go_upto_region 16 with fail
    generalize v.setCell ⟨g, 2, none⟩ (.bool true) = u at S0 ⊢
    clear e0 e1 e2 e3 e4 d0 d1 d2 df2
    obtain ⟨S1, S2, S3⟩ := S0.out
    obtain ⟨e0, e1, e2, e3, e4, _⟩ := S1.all
    dsimp only at e0 e1 e2 e3 e4
    have T1 := hide (sztext_any nm g ((n : Int) + 1) b true u w1 hb4 S2)
    have HH := hide (And.intro S1 S3)
    clear S0 S1 S2 S3
    go_wp2_with fail
    with_reducible refine T1.out.mono ?_
    rintro e u1 ⟨rfl, c1, b1, bad1, s1, hb1, m1⟩
    have M1 : Hid (Stand4 (false && (k && t)) n b nm vs 0 b1 bad1) := stand4_start m1
    have X1 := hide (HH.out.1.block (c1.block _ HH.out.1.lt HNE.out))
    have C1 := hide (HH.out.2.trans c1)
    have SS1 := hide s1
    clear e0 e1 e2 e3 e4 c1 s1 m1 HH T1
    go_wp2
    go_loopw [6] (fun i wr => ∃ (j b' : Nat) (bad' : Bool), j ≤ vn ∧ i = .int .i64 j ∧ b' ≤ 4096 ∧ Hid (SZ wr g ((n : Int) + 1) b' bad') ∧ Hid (BoxM wr w.heap.size ⟨4, nm, vl, va, vn, vc, ka, kn, kc⟩) ∧ Hid (Ch (fun k => k = g) w wr) ∧ Hid (Stand4 (false && (k && t)) n b nm vs j b' bad')) (fun i _ => vn - (intOf i).toNat)
    case atStart => exact ⟨0, b1, bad1, by omega, rfl, hb1, SS1, X1, C1, M1⟩
    case round =>
      obtain ⟨j, b', bad', hj, rfl, hb', HZ, HX, HC, HM⟩ := hrel
      obtain ⟨u3, rfl⟩ : ∃ u3, u3 = wr := ⟨wr, rfl⟩
      clear SS1 X1 C1 M1
      obtain ⟨e0, e1, e2, e3, e4, _⟩ := HX.out.all
      dsimp only at e0 e1 e2 e3 e4
      obtain ⟨d0, d1, d2, _⟩ := HZ.out.cell
      by_cases hlt : j < vn
      · have i1 : (0 : Int) ≤ (j : Int) := by omega
        have i2 : (j : Int) < (vn : Int) := by omega
        cases bad' with
        | true =>
          go_wp2
          go_end0
          exact ⟨rfl, HC.out, stand4_bad HM.out HZ.out⟩
        | false =>
          obtain ⟨x1, y1, s, rfl, hs, hsz, _, hc⟩ := (HV.out.ch HC.out (fun k hk => HS.out k hk)).at' hlt
          have HXS := hide hs
          have T2 := hide (sztext_any s g ((n : Int) + 1) b' false u3 hsz hb' HZ.out)
          clear hs
          go_wp2_with fail
          with_reducible refine T2.out.mono ?_
          rintro e u4 ⟨rfl, c4, b5, bad5, s5, hb5, m5⟩
          have M5 := hide (stand4_step HM.out HXS.out m5)
          have X5 := hide (HX.out.block (c4.block _ HX.out.lt HNE.out))
          have C5 := hide (HC.out.trans c4)
          have S5 := hide s5
          clear c4 s5 m5 T2 e0 e1 e2 e3 e4 d0 d1 d2 hc
          go_wp2
          go_roundw
          case rel => exact ⟨j + 1, b5, bad5, by omega, by go_num, hb5, S5, X5, C5, M5⟩
          case measure => simp [intOf]; omega
      · obtain ⟨j0, hj0⟩ : ∃ j0, j0 = j := ⟨j, rfl⟩
        have : vn = j0 := by omega
        subst this
        subst hj0
        have HE := hide (stand4_end (u := u3) (g := g) (by rw [HVL.out]; exact HM.out) hb' HZ.out)
        go_wp2
        go_end0
        exact ⟨rfl, HC.out, HE.out⟩
  | true =>
    go_wp2_with fail
    with_reducible refine (CN.out _).mono ?_
    rintro e v3 ⟨rfl, hq⟩
    have B3 : Hid (Beg w v3 g n b ⟨4, nm, vl, va, vn, vc, ka, kn, kc⟩) := by rw [hq]; exact B2.out
    clear hq B2 d0 d1 d2 df2 e0 e1 e2 e3 e4 CN
    obtain ⟨d0, d1, d2, df⟩ := B3.out.cnt.cell
    have df2 := df 2
    obtain ⟨e0, e1, e2, e3, e4, _⟩ := B3.out.box.all
    dsimp only at e0 e1 e2 e3 e4
    clear df
    cases k with
    | false =>
      have S0 : Hid (BoxM (v3.setCell ⟨g, 2, none⟩ (.bool true)) w.heap.size ⟨4, nm, vl, va, vn, vc, ka, kn, kc⟩ ∧ SZ (v3.setCell ⟨g, 2, none⟩ (.bool true)) g ((n : Int) + 1) b true ∧ Ch (fun k => k = g) w (v3.setCell ⟨g, 2, none⟩ (.bool true))) := ⟨B3.out.box.block (Below.heap_setCell _ _ _ _ B3.out.ne), B3.out.cnt.mark _, B3.out.ch.trans (ch_set v3 g 2 _)⟩
      go_upto_region 16 with fail
      generalize v3.setCell ⟨g, 2, none⟩ (.bool true) = u at S0 ⊢
      clear e0 e1 e2 e3 e4 d0 d1 d2 df2
      obtain ⟨S1, S2, S3⟩ := S0.out
      obtain ⟨e0, e1, e2, e3, e4, _⟩ := S1.all
      dsimp only at e0 e1 e2 e3 e4
      have T1 := hide (sztext_any nm g ((n : Int) + 1) b true u w1 hb4 S2)
      have HH := hide (And.intro S1 S3)
      clear S0 S1 S2 S3
      go_wp2_with fail
      with_reducible refine T1.out.mono ?_
      rintro e u1 ⟨rfl, c1, b1, bad1, s1, hb1, m1⟩
      have M1 : Hid (Stand4 (true && (false && t)) n b nm vs 0 b1 bad1) := stand4_start m1
      have X1 := hide (HH.out.1.block (c1.block _ HH.out.1.lt HNE.out))
      have C1 := hide (HH.out.2.trans c1)
      have SS1 := hide s1
      clear e0 e1 e2 e3 e4 c1 s1 m1 HH T1
      go_wp2
      go_loopw [6] (fun i wr => ∃ (j b' : Nat) (bad' : Bool), j ≤ vn ∧ i = .int .i64 j ∧ b' ≤ 4096 ∧ Hid (SZ wr g ((n : Int) + 1) b' bad') ∧ Hid (BoxM wr w.heap.size ⟨4, nm, vl, va, vn, vc, ka, kn, kc⟩) ∧ Hid (Ch (fun k => k = g) w wr) ∧ Hid (Stand4 (true && (false && t)) n b nm vs j b' bad')) (fun i _ => vn - (intOf i).toNat)
      case atStart => exact ⟨0, b1, bad1, by omega, rfl, hb1, SS1, X1, C1, M1⟩
      case round =>
        obtain ⟨j, b', bad', hj, rfl, hb', HZ, HX, HC, HM⟩ := hrel
        obtain ⟨u3, rfl⟩ : ∃ u3, u3 = wr := ⟨wr, rfl⟩
        clear SS1 X1 C1 M1
        obtain ⟨e0, e1, e2, e3, e4, _⟩ := HX.out.all
        dsimp only at e0 e1 e2 e3 e4
        obtain ⟨d0, d1, d2, _⟩ := HZ.out.cell
        by_cases hlt : j < vn
        · have i1 : (0 : Int) ≤ (j : Int) := by omega
          have i2 : (j : Int) < (vn : Int) := by omega
          cases bad' with
          | true =>
            go_wp2
            go_end0
            exact ⟨rfl, HC.out, stand4_bad HM.out HZ.out⟩
          | false =>
            obtain ⟨x1, y1, s, rfl, hs, hsz, _, hc⟩ := (HV.out.ch HC.out (fun k hk => HS.out k hk)).at' hlt
            have HXS := hide hs
            have T2 := hide (sztext_any s g ((n : Int) + 1) b' false u3 hsz hb' HZ.out)
            clear hs
            go_wp2_with fail
            with_reducible refine T2.out.mono ?_
            rintro e u4 ⟨rfl, c4, b5, bad5, s5, hb5, m5⟩
            have M5 := hide (stand4_step HM.out HXS.out m5)
            have X5 := hide (HX.out.block (c4.block _ HX.out.lt HNE.out))
            have C5 := hide (HC.out.trans c4)
            have S5 := hide s5
            clear c4 s5 m5 T2 e0 e1 e2 e3 e4 d0 d1 d2 hc
            go_wp2
            go_roundw
            case rel => exact ⟨j + 1, b5, bad5, by omega, by go_num, hb5, S5, X5, C5, M5⟩
            case measure => simp [intOf]; omega
        · obtain ⟨j0, hj0⟩ : ∃ j0, j0 = j := ⟨j, rfl⟩
          have : vn = j0 := by omega
          subst this
          subst hj0
          have HE := hide (stand4_end (u := u3) (g := g) (by rw [HVL.out]; exact HM.out) hb' HZ.out)
          go_wp2
          go_end0
          exact ⟨rfl, HC.out, HE.out⟩
    | true =>
      go_wp2_with fail
      with_reducible refine (CV.out _ (HV.out.ch B3.out.ch (fun k hk => HS.out k hk))).mono ?_
      rintro e v4 ⟨rfl, q, hq⟩
      have B4 : Hid (Beg w v4 g n b ⟨4, nm, vl, va, vn, vc, ka, kn, kc⟩) := by rw [hq]; exact B3.out.below (bel_drewN (Below.refl _ _) q)
      clear hq B3 d0 d1 d2 df2 e0 e1 e2 e3 e4 CV
      obtain ⟨d0, d1, d2, df⟩ := B4.out.cnt.cell
      have df2 := df 2
      obtain ⟨e0, e1, e2, e3, e4, _⟩ := B4.out.box.all
      dsimp only at e0 e1 e2 e3 e4
      clear df
      cases t with
      | false =>
        have S0 : Hid (BoxM (v4.setCell ⟨g, 2, none⟩ (.bool true)) w.heap.size ⟨4, nm, vl, va, vn, vc, ka, kn, kc⟩ ∧ SZ (v4.setCell ⟨g, 2, none⟩ (.bool true)) g ((n : Int) + 1) b true ∧ Ch (fun k => k = g) w (v4.setCell ⟨g, 2, none⟩ (.bool true))) := ⟨B4.out.box.block (Below.heap_setCell _ _ _ _ B4.out.ne), B4.out.cnt.mark _, B4.out.ch.trans (ch_set v4 g 2 _)⟩
        go_upto_region 16 with fail
        generalize v4.setCell ⟨g, 2, none⟩ (.bool true) = u at S0 ⊢
        clear e0 e1 e2 e3 e4 d0 d1 d2 df2
        obtain ⟨S1, S2, S3⟩ := S0.out
        obtain ⟨e0, e1, e2, e3, e4, _⟩ := S1.all
        dsimp only at e0 e1 e2 e3 e4
        have T1 := hide (sztext_any nm g ((n : Int) + 1) b true u w1 hb4 S2)
        have HH := hide (And.intro S1 S3)
        clear S0 S1 S2 S3
        go_wp2_with fail
        with_reducible refine T1.out.mono ?_
        rintro e u1 ⟨rfl, c1, b1, bad1, s1, hb1, m1⟩
        have M1 : Hid (Stand4 (true && (true && false)) n b nm vs 0 b1 bad1) := stand4_start m1
        have X1 := hide (HH.out.1.block (c1.block _ HH.out.1.lt HNE.out))
        have C1 := hide (HH.out.2.trans c1)
        have SS1 := hide s1
        clear e0 e1 e2 e3 e4 c1 s1 m1 HH T1
        go_wp2
        go_loopw [6] (fun i wr => ∃ (j b' : Nat) (bad' : Bool), j ≤ vn ∧ i = .int .i64 j ∧ b' ≤ 4096 ∧ Hid (SZ wr g ((n : Int) + 1) b' bad') ∧ Hid (BoxM wr w.heap.size ⟨4, nm, vl, va, vn, vc, ka, kn, kc⟩) ∧ Hid (Ch (fun k => k = g) w wr) ∧ Hid (Stand4 (true && (true && false)) n b nm vs j b' bad')) (fun i _ => vn - (intOf i).toNat)
        case atStart => exact ⟨0, b1, bad1, by omega, rfl, hb1, SS1, X1, C1, M1⟩
        case round =>
          obtain ⟨j, b', bad', hj, rfl, hb', HZ, HX, HC, HM⟩ := hrel
          obtain ⟨u3, rfl⟩ : ∃ u3, u3 = wr := ⟨wr, rfl⟩
          clear SS1 X1 C1 M1
          obtain ⟨e0, e1, e2, e3, e4, _⟩ := HX.out.all
          dsimp only at e0 e1 e2 e3 e4
          obtain ⟨d0, d1, d2, _⟩ := HZ.out.cell
          by_cases hlt : j < vn
          · have i1 : (0 : Int) ≤ (j : Int) := by omega
            have i2 : (j : Int) < (vn : Int) := by omega
            cases bad' with
            | true =>
              go_wp2
              go_end0
              exact ⟨rfl, HC.out, stand4_bad HM.out HZ.out⟩
            | false =>
              obtain ⟨x1, y1, s, rfl, hs, hsz, _, hc⟩ := (HV.out.ch HC.out (fun k hk => HS.out k hk)).at' hlt
              have HXS := hide hs
              have T2 := hide (sztext_any s g ((n : Int) + 1) b' false u3 hsz hb' HZ.out)
              clear hs
              go_wp2_with fail
              with_reducible refine T2.out.mono ?_
              rintro e u4 ⟨rfl, c4, b5, bad5, s5, hb5, m5⟩
              have M5 := hide (stand4_step HM.out HXS.out m5)
              have X5 := hide (HX.out.block (c4.block _ HX.out.lt HNE.out))
              have C5 := hide (HC.out.trans c4)
              have S5 := hide s5
              clear c4 s5 m5 T2 e0 e1 e2 e3 e4 d0 d1 d2 hc
              go_wp2
              go_roundw
              case rel => exact ⟨j + 1, b5, bad5, by omega, by go_num, hb5, S5, X5, C5, M5⟩
              case measure => simp [intOf]; omega
          · obtain ⟨j0, hj0⟩ : ∃ j0, j0 = j := ⟨j, rfl⟩
            have : vn = j0 := by omega
            subst this
            subst hj0
            have HE := hide (stand4_end (u := u3) (g := g) (by rw [HVL.out]; exact HM.out) hb' HZ.out)
            go_wp2
            go_end0
            exact ⟨rfl, HC.out, HE.out⟩
      | true =>
        have S0 : Hid (BoxM (v4.setCell ⟨g, 2, none⟩ (.bool false)) w.heap.size ⟨4, nm, vl, va, vn, vc, ka, kn, kc⟩ ∧ SZ (v4.setCell ⟨g, 2, none⟩ (.bool false)) g ((n : Int) + 1) b false ∧ Ch (fun k => k = g) w (v4.setCell ⟨g, 2, none⟩ (.bool false))) := ⟨B4.out.box.block (Below.heap_setCell _ _ _ _ B4.out.ne), B4.out.cnt.mark _, B4.out.ch.trans (ch_set v4 g 2 _)⟩
        go_upto_region 16 with fail
        generalize v4.setCell ⟨g, 2, none⟩ (.bool false) = u at S0 ⊢
        clear e0 e1 e2 e3 e4 d0 d1 d2 df2
        obtain ⟨S1, S2, S3⟩ := S0.out
        obtain ⟨e0, e1, e2, e3, e4, _⟩ := S1.all
        dsimp only at e0 e1 e2 e3 e4
        have T1 := hide (sztext_any nm g ((n : Int) + 1) b false u w1 hb4 S2)
        have HH := hide (And.intro S1 S3)
        clear S0 S1 S2 S3
        go_wp2_with fail
        with_reducible refine T1.out.mono ?_
        rintro e u1 ⟨rfl, c1, b1, bad1, s1, hb1, m1⟩
        have M1 : Hid (Stand4 (true && (true && true)) n b nm vs 0 b1 bad1) := stand4_start m1
        have X1 := hide (HH.out.1.block (c1.block _ HH.out.1.lt HNE.out))
        have C1 := hide (HH.out.2.trans c1)
        have SS1 := hide s1
        clear e0 e1 e2 e3 e4 c1 s1 m1 HH T1
        go_wp2
        go_loopw [6] (fun i wr => ∃ (j b' : Nat) (bad' : Bool), j ≤ vn ∧ i = .int .i64 j ∧ b' ≤ 4096 ∧ Hid (SZ wr g ((n : Int) + 1) b' bad') ∧ Hid (BoxM wr w.heap.size ⟨4, nm, vl, va, vn, vc, ka, kn, kc⟩) ∧ Hid (Ch (fun k => k = g) w wr) ∧ Hid (Stand4 (true && (true && true)) n b nm vs j b' bad')) (fun i _ => vn - (intOf i).toNat)
        case atStart => exact ⟨0, b1, bad1, by omega, rfl, hb1, SS1, X1, C1, M1⟩
        case round =>
          obtain ⟨j, b', bad', hj, rfl, hb', HZ, HX, HC, HM⟩ := hrel
          obtain ⟨u3, rfl⟩ : ∃ u3, u3 = wr := ⟨wr, rfl⟩
          clear SS1 X1 C1 M1
          obtain ⟨e0, e1, e2, e3, e4, _⟩ := HX.out.all
          dsimp only at e0 e1 e2 e3 e4
          obtain ⟨d0, d1, d2, _⟩ := HZ.out.cell
          by_cases hlt : j < vn
          · have i1 : (0 : Int) ≤ (j : Int) := by omega
            have i2 : (j : Int) < (vn : Int) := by omega
            cases bad' with
            | true =>
              go_wp2
              go_end0
              exact ⟨rfl, HC.out, stand4_bad HM.out HZ.out⟩
            | false =>
              obtain ⟨x1, y1, s, rfl, hs, hsz, _, hc⟩ := (HV.out.ch HC.out (fun k hk => HS.out k hk)).at' hlt
              have HXS := hide hs
              have T2 := hide (sztext_any s g ((n : Int) + 1) b' false u3 hsz hb' HZ.out)
              clear hs
              go_wp2_with fail
              with_reducible refine T2.out.mono ?_
              rintro e u4 ⟨rfl, c4, b5, bad5, s5, hb5, m5⟩
              have M5 := hide (stand4_step HM.out HXS.out m5)
              have X5 := hide (HX.out.block (c4.block _ HX.out.lt HNE.out))
              have C5 := hide (HC.out.trans c4)
              have S5 := hide s5
              clear c4 s5 m5 T2 e0 e1 e2 e3 e4 d0 d1 d2 hc
              go_wp2
              go_roundw
              case rel => exact ⟨j + 1, b5, bad5, by omega, by go_num, hb5, S5, X5, C5, M5⟩
              case measure => simp [intOf]; omega
          · obtain ⟨j0, hj0⟩ : ∃ j0, j0 = j := ⟨j, rfl⟩
            have : vn = j0 := by omega
            subst this
            subst hj0
            have HE := hide (stand4_end (u := u3) (g := g) (by rw [HVL.out]; exact HM.out) hb' HZ.out)
            go_wp2
            go_end0
            exact ⟨rfl, HC.out, HE.out⟩
end Go.Proofs.YtpffhpnmbpjifaaGreat

namespace Go.Proofs.YtpffhpnmbpjifaaGreat
open Go.RowKit
set_option maxRecDepth 20000

theorem look_le (m : Mt) : ∀ d n b r, lookF m d n b = some r → r.1 ≤ 64 ∧ r.2 ≤ 4096 := by
  refine Mt.ind (P := fun m => ∀ d n b r, lookF m d n b = some r → r.1 ≤ 64 ∧ r.2 ≤ 4096) ?_ m
  intro m ih d n b r h
  rw [lookF_eq] at h
  split at h
  · cases h
  · rename_i hc
    have : ∀ (ks : List Mt) (d n b : Nat) (r : Nat × Nat), (∀ k ∈ ks, ∀ d n b r, lookF k d n b = some r → r.1 ≤ 64 ∧ r.2 ≤ 4096) → n ≤ 64 → b ≤ 4096 → lookKs ks d n b = some r → r.1 ≤ 64 ∧ r.2 ≤ 4096 := by
      intro ks
      induction ks with
      | nil => intro d n b r _ hn hb h; simp [lookKs] at h; subst h; exact ⟨hn, hb⟩
      | cons x t iht =>
        intro d n b r hk hn hb h
        rw [lookKs] at h
        cases hx : lookF x d n b with
        | none => rw [hx] at h; cases h
        | some y =>
          rw [hx] at h
          have h1 := hk x (by simp) d n b y hx
          exact iht d y.1 y.2 r (fun k hk' => hk k (by simp [hk'])) h1.1 h1.2 h
    exact this m.ks _ _ _ _ ih (by omega) (by omega) h
/-- How the count stands behind j kids. -/
def StandK (R : Option (Nat × Nat)) (ks : List Mt) (d n b j : Nat) (g : Nat) (bad : Bool) (wr : World) : Prop :=
  ∃ x y : Int, SZ wr g x y bad ∧ ((bad = true ∧ R = none) ∨ (bad = false ∧ R = lookKs ks d n b ∧ ∃ nn bb : Nat, x = nn ∧ y = bb ∧ nn ≤ 64 ∧ bb ≤ 4096 ∧ lookKs (ks.take j) d n b = some (nn, bb)))
theorem StandK.bad {R : Option (Nat × Nat)} {ks : List Mt} {d n b j g : Nat} {wr : World} (q : StandK R ks d n b j g true wr) : R = none ∧ ∃ n b : Int, SZ wr g n b true := by
  obtain ⟨x, y, s, ⟨_, h⟩ | ⟨h, _⟩⟩ := q
  · exact ⟨h, x, y, s⟩
  · cases h
theorem StandK.good {R : Option (Nat × Nat)} {ks : List Mt} {d n b j g : Nat} {wr : World} (q : StandK R ks d n b j g false wr) : R = lookKs ks d n b ∧ ∃ nn bb : Nat, SZ wr g nn bb false ∧ nn ≤ 64 ∧ bb ≤ 4096 ∧ lookKs (ks.take j) d n b = some (nn, bb) := by
  obtain ⟨x, y, s, ⟨h, _⟩ | ⟨_, h1, nn, bb, rfl, rfl, h2, h3, h4⟩⟩ := q
  · cases h
  · exact ⟨h1, nn, bb, s, h2, h3, h4⟩
theorem StandK.cell {R : Option (Nat × Nat)} {ks : List Mt} {d n b j g : Nat} {bad : Bool} {wr : World} (q : StandK R ks d n b j g bad wr) : wr.cell? ⟨g, 2, none⟩ = some (.bool bad) := by
  obtain ⟨x, y, s, _⟩ := q
  exact s.cell.2.2.1
theorem StandK.fin {R : Option (Nat × Nat)} {ks : List Mt} {d n b g : Nat} {bad : Bool} {w wr : World} (q : StandK R ks d n b ks.length g bad wr) (c : Ch (fun k => k = g) w wr) : LookP R g w wr (.returned (.tuple #[])) := by
  refine ⟨rfl, c, ?_⟩
  cases bad with
  | true =>
    obtain ⟨h1, h2⟩ := q.bad
    subst h1
    exact h2
  | false =>
    obtain ⟨h1, nn, bb, h2, _, _, h3⟩ := q.good
    rw [List.take_length] at h3
    rw [h3] at h1
    subst h1
    exact h2
theorem LookP.stand {R : Option (Nat × Nat)} {ks : List Mt} {k : Mt} {d n b j g nn bb : Nat} {w w' : World} {e : Ending} (p : LookP (lookF k d nn bb) g w w' e) (h : R = lookKs ks d n b) (hk : ks[j]? = some k) (hl : lookKs (ks.take j) d n b = some (nn, bb)) : ∃ bad, StandK R ks d n b (j + 1) g bad w' := by
  have ha := lookKs_append (ks.take j) k d n b
  rw [← take_kid hk, hl, Option.bind_some] at ha
  obtain ⟨_, _, p⟩ := p
  cases hf : lookF k d nn bb with
  | none =>
    rw [hf] at p ha
    obtain ⟨x, y, s⟩ := p
    refine ⟨true, x, y, s, Or.inl ⟨rfl, ?_⟩⟩
    rw [h, ← List.take_append_drop (j + 1) ks]
    exact lookKs_none ha
  | some r =>
    rw [hf] at p ha
    have hr := look_le k d nn bb r hf
    exact ⟨false, _, _, p, Or.inr ⟨rfl, h, r.1, r.2, rfl, rfl, hr.1, hr.2, ha⟩⟩

set_option maxHeartbeats 8000000 in
theorem look_5 (S : Nat → Prop) (m : Mt) (nm vl : ByteArray) (va : Option Addr) (vn vc : Nat) (ka : Option Addr) (kn kc : Nat) (d n b g : Nat) (w : World) (R : Option (Nat × Nat)) (q : SeeM S w m ⟨5, nm, vl, va, vn, vc, ka, kn, kc⟩) (hS : ∀ k, S k → k ≠ g) (hb : SZ w g n b false) (hd : d ≤ 8) (hn : n < 64) (hb4 : b ≤ 4096)
    (IH0 : ∀ k ∈ m.ks, ∀ (S : Nat → Prop) (h : Hm) (d n b g : Nat) (w : World), SeeM S w k h → (∀ k, S k → k ≠ g) → SZ w g n b false → d ≤ 9 → n ≤ 64 → b ≤ 4096 → Calls Tryz.prog 27 #[.pointer (some ⟨g, 0, none⟩), .agg #[.int .i64 h.op, .string h.nm, .string h.vl, .slice h.va h.vn h.vc, .slice h.ka h.kn h.kc], .int .i64 d] w fun e w' => LookP (lookF k d n b) g w w' e)
    (hyes : ((decide (vl.size = 0) && (decide (nm.size = 0) && decide (vn = 0)))) = true → R = lookKs m.ks (d + 1) (n + 1) b) (hno : ((decide (vl.size = 0) && (decide (nm.size = 0) && decide (vn = 0)))) = false → R = none) :
    Calls Tryz.prog 27 #[.pointer (some ⟨g, 0, none⟩), .agg #[.int .i64 5, .string nm, .string vl, .slice va vn vc, .slice ka kn kc], .int .i64 d] w fun e w' => LookP R g w w' e := by
  obtain ⟨-, -, -, hw, hv, hk, -⟩ := seeM_iff.1 q
  dsimp only at hv hk
  have C := hide (fun W => bare_fft ⟨5, nm, vl, va, vn, vc, ka, kn, kc⟩ W hw)
  dsimp only at C
  have w1 : nm.size ≤ 9223372036854775807 := hw.nm
  have w2 : vl.size ≤ 9223372036854775807 := hw.vl
  have w4 : kn * 88 ≤ 140737488355328 := hw.kn
  have HQ := hide q
  have HKL := hide hk
  have HS := hide hS
  have IH := hide IH0
  have HY := hide hyes
  have HNO := hide hno
  clear hyes hno IH0
  generalize (decide (vl.size = 0) && (decide (nm.size = 0) && decide (vn = 0))) = f at C HY HNO
  obtain ⟨W, hW⟩ : ∃ W, Hid ((w.alloc (.cells #[.int .i64 5, .string nm, .string vl, .slice va vn vc, .slice ka kn kc] 26)).setCell ⟨g, 0, none⟩ (.int .i64 ((n : Int) + 1)) = W) := ⟨_, rfl⟩
  have B : Hid (Beg w W g n b ⟨5, nm, vl, va, vn, vc, ka, kn, kc⟩) := by rw [← hW.out]; exact beg_of (h := ⟨5, nm, vl, va, vn, vc, ka, kn, kc⟩) hb
  have HNE := hide B.out.ne
  have B1 := hide (hb.block (w' := w.alloc (.cells #[.int .i64 5, .string nm, .string vl, .slice va vn vc, .slice ka kn kc] 26)) (Below.heap_alloc w _ g hb.lt))
  obtain ⟨c0, _, _, cf⟩ := B1.out.cell
  have cf0 := cf 0
  obtain ⟨d0, d1, d2, _⟩ := B.out.cnt.cell
  obtain ⟨e0, e1, e2, e3, e4, _⟩ := B.out.box.all
  dsimp only at e0 e1 e2 e3 e4
  have a1 : ¬ (64 : Int) < (n : Int) + 1 := by omega
  have a2 : ¬ (8 : Int) < (d : Int) := by omega
  clear hb B1 cf hw hv hk hS q
  go_enter Tryz.func27, Tryz.ntmps27
  go_upto_region 2 with fail
  rw [hW.out]
  clear hW c0 cf0
  go_wp2_with fail
  with_reducible refine (C.out _).mono ?_
  rintro e v ⟨rfl, b2⟩
  have B2 := hide (B.out.below b2)
  clear b2 d0 d1 d2 e0 e1 e2 e3 e4 B C
  obtain ⟨d0, d1, d2, df⟩ := B2.out.cnt.cell
  have df2 := df 2
  obtain ⟨e0, e1, e2, e3, e4, _⟩ := B2.out.box.all
  dsimp only at e0 e1 e2 e3 e4
  clear df
  cases f with
  | false =>
    have HR := hide (HNO.out rfl)
    have S0 : Hid (BoxM (v.setCell ⟨g, 2, none⟩ (.bool true)) w.heap.size ⟨5, nm, vl, va, vn, vc, ka, kn, kc⟩ ∧ SZ (v.setCell ⟨g, 2, none⟩ (.bool true)) g ((n : Int) + 1) b true ∧ Ch (fun k => k = g) w (v.setCell ⟨g, 2, none⟩ (.bool true))) := ⟨B2.out.box.block (Below.heap_setCell _ _ _ _ B2.out.ne), B2.out.cnt.mark _, B2.out.ch.trans (ch_set v g 2 _)⟩
    go_upto_region 25 with fail
    generalize v.setCell ⟨g, 2, none⟩ (.bool true) = u at S0 ⊢
    clear e0 e1 e2 e3 e4 d0 d1 d2 df2 B2
    have ST : Hid (StandK R m.ks (d + 1) (n + 1) b 0 g true u) := ⟨_, _, S0.out.2.1, Or.inl ⟨rfl, HR.out⟩⟩
    go_wp2
    go_loopw [7] (fun i wr => ∃ (j : Nat) (bad : Bool), j ≤ kn ∧ i = .int .i64 j ∧ Hid (StandK R m.ks (d + 1) (n + 1) b j g bad wr) ∧ Hid (BoxM wr w.heap.size ⟨5, nm, vl, va, vn, vc, ka, kn, kc⟩) ∧ Hid (Ch (fun k => k = g) w wr)) (fun i _ => kn - (intOf i).toNat)
    case atStart => exact ⟨0, true, by omega, rfl, ST, S0.out.1, S0.out.2.2⟩
    case round =>
      obtain ⟨j, bad, hj, rfl, HM, HX, HC⟩ := hrel
      obtain ⟨u3, rfl⟩ : ∃ u3, u3 = wr := ⟨wr, rfl⟩
      clear ST S0
      obtain ⟨e0, e1, e2, e3, e4, _⟩ := HX.out.all
      dsimp only at e0 e1 e2 e3 e4
      have d2 := HM.out.cell
      by_cases hlt : j < kn
      · have i1 : (0 : Int) ≤ (j : Int) := by omega
        have i2 : (j : Int) < (kn : Int) := by omega
        cases bad with
        | true =>
          obtain ⟨hR, hE⟩ := HM.out.bad
          have HE := hide (And.intro hR hE)
          clear hR hE
          go_wp2
          go_end0
          rw [HE.out.1]
          exact ⟨rfl, HC.out, HE.out.2⟩
        | false =>
          obtain ⟨x1, y1, kd, h', e, hkd, -, q5, qk⟩ := (HQ.out.ch HC.out (fun k hk => HS.out k hk)).kid hlt
          obtain ⟨p0, p1, p2, p3, p4, p5, p6, p7, p8⟩ := h'
          dsimp only at e
          subst e
          obtain ⟨g0, g1, g2, g3, g4⟩ := q5.all
          dsimp only at g0 g1 g2 g3 g4
          obtain ⟨hR, nn, bb, hz, hnn, hbb, hl⟩ := HM.out.good
          have T := hide (IH.out kd (List.mem_of_getElem? hkd) S _ (d + 1) nn bb g u3 qk HS.out hz (by omega) hnn hbb)
          rw [show ((d + 1 : Nat) : Int) = (d : Int) + 1 from rfl] at T
          dsimp only at T
          have HK := hide (And.intro hR (And.intro hkd hl))
          clear hkd q5 qk hR hz hl hnn hbb
          go_wp2_with fail
          with_reducible refine T.out.mono ?_
          intro e u4 p
          obtain ⟨bad4, st4⟩ := p.stand HK.out.1 HK.out.2.1 HK.out.2.2
          obtain ⟨rfl, c4, -⟩ := p
          have M5 := hide st4
          have X5 := hide (HX.out.block (c4.block _ HX.out.lt HNE.out))
          have C5 := hide (HC.out.trans c4)
          clear c4 st4 T e0 e1 e2 e3 e4 d2 g0 g1 g2 g3 g4 HM HX HC
          go_wp2
          go_roundw
          case rel => exact ⟨j + 1, bad4, by omega, by go_num, M5, X5, C5⟩
          case measure => simp [intOf]; omega
      · obtain ⟨j0, hj0⟩ : ∃ j0, j0 = j := ⟨j, rfl⟩
        have : kn = j0 := by omega
        subst this
        subst hj0
        have HE := hide (StandK.fin (ks := m.ks) (d := d + 1) (n := n + 1) (b := b) (bad := bad) (by rw [HKL.out]; exact HM.out) HC.out)
        go_wp2
        go_end0
        exact HE.out
  | true =>
    have HR := hide (HY.out rfl)
    have S0 : Hid (BoxM (v.setCell ⟨g, 2, none⟩ (.bool false)) w.heap.size ⟨5, nm, vl, va, vn, vc, ka, kn, kc⟩ ∧ SZ (v.setCell ⟨g, 2, none⟩ (.bool false)) g ((n : Int) + 1) b false ∧ Ch (fun k => k = g) w (v.setCell ⟨g, 2, none⟩ (.bool false))) := ⟨B2.out.box.block (Below.heap_setCell _ _ _ _ B2.out.ne), B2.out.cnt.mark _, B2.out.ch.trans (ch_set v g 2 _)⟩
    go_upto_region 25 with fail
    generalize v.setCell ⟨g, 2, none⟩ (.bool false) = u at S0 ⊢
    clear e0 e1 e2 e3 e4 d0 d1 d2 df2 B2
    have ST : Hid (StandK R m.ks (d + 1) (n + 1) b 0 g false u) := ⟨_, _, S0.out.2.1, Or.inr ⟨rfl, HR.out, n + 1, b, rfl, rfl, by omega, hb4, by rw [List.take_zero, lookKs]⟩⟩
    go_wp2
    go_loopw [7] (fun i wr => ∃ (j : Nat) (bad : Bool), j ≤ kn ∧ i = .int .i64 j ∧ Hid (StandK R m.ks (d + 1) (n + 1) b j g bad wr) ∧ Hid (BoxM wr w.heap.size ⟨5, nm, vl, va, vn, vc, ka, kn, kc⟩) ∧ Hid (Ch (fun k => k = g) w wr)) (fun i _ => kn - (intOf i).toNat)
    case atStart => exact ⟨0, false, by omega, rfl, ST, S0.out.1, S0.out.2.2⟩
    case round =>
      obtain ⟨j, bad, hj, rfl, HM, HX, HC⟩ := hrel
      obtain ⟨u3, rfl⟩ : ∃ u3, u3 = wr := ⟨wr, rfl⟩
      clear ST S0
      obtain ⟨e0, e1, e2, e3, e4, _⟩ := HX.out.all
      dsimp only at e0 e1 e2 e3 e4
      have d2 := HM.out.cell
      by_cases hlt : j < kn
      · have i1 : (0 : Int) ≤ (j : Int) := by omega
        have i2 : (j : Int) < (kn : Int) := by omega
        cases bad with
        | true =>
          obtain ⟨hR, hE⟩ := HM.out.bad
          have HE := hide (And.intro hR hE)
          clear hR hE
          go_wp2
          go_end0
          rw [HE.out.1]
          exact ⟨rfl, HC.out, HE.out.2⟩
        | false =>
          obtain ⟨x1, y1, kd, h', e, hkd, -, q5, qk⟩ := (HQ.out.ch HC.out (fun k hk => HS.out k hk)).kid hlt
          obtain ⟨p0, p1, p2, p3, p4, p5, p6, p7, p8⟩ := h'
          dsimp only at e
          subst e
          obtain ⟨g0, g1, g2, g3, g4⟩ := q5.all
          dsimp only at g0 g1 g2 g3 g4
          obtain ⟨hR, nn, bb, hz, hnn, hbb, hl⟩ := HM.out.good
          have T := hide (IH.out kd (List.mem_of_getElem? hkd) S _ (d + 1) nn bb g u3 qk HS.out hz (by omega) hnn hbb)
          rw [show ((d + 1 : Nat) : Int) = (d : Int) + 1 from rfl] at T
          dsimp only at T
          have HK := hide (And.intro hR (And.intro hkd hl))
          clear hkd q5 qk hR hz hl hnn hbb
          go_wp2_with fail
          with_reducible refine T.out.mono ?_
          intro e u4 p
          obtain ⟨bad4, st4⟩ := p.stand HK.out.1 HK.out.2.1 HK.out.2.2
          obtain ⟨rfl, c4, -⟩ := p
          have M5 := hide st4
          have X5 := hide (HX.out.block (c4.block _ HX.out.lt HNE.out))
          have C5 := hide (HC.out.trans c4)
          clear c4 st4 T e0 e1 e2 e3 e4 d2 g0 g1 g2 g3 g4 HM HX HC
          go_wp2
          go_roundw
          case rel => exact ⟨j + 1, bad4, by omega, by go_num, M5, X5, C5⟩
          case measure => simp [intOf]; omega
      · obtain ⟨j0, hj0⟩ : ∃ j0, j0 = j := ⟨j, rfl⟩
        have : kn = j0 := by omega
        subst this
        subst hj0
        have HE := hide (StandK.fin (ks := m.ks) (d := d + 1) (n := n + 1) (b := b) (bad := bad) (by rw [HKL.out]; exact HM.out) HC.out)
        go_wp2
        go_end0
        exact HE.out
set_option maxHeartbeats 8000000 in
theorem look_6 (S : Nat → Prop) (m : Mt) (nm vl : ByteArray) (va : Option Addr) (vn vc : Nat) (ka : Option Addr) (kn kc : Nat) (d n b g : Nat) (w : World) (R : Option (Nat × Nat)) (q : SeeM S w m ⟨6, nm, vl, va, vn, vc, ka, kn, kc⟩) (hS : ∀ k, S k → k ≠ g) (hb : SZ w g n b false) (hd : d ≤ 8) (hn : n < 64) (hb4 : b ≤ 4096)
    (IH0 : ∀ k ∈ m.ks, ∀ (S : Nat → Prop) (h : Hm) (d n b g : Nat) (w : World), SeeM S w k h → (∀ k, S k → k ≠ g) → SZ w g n b false → d ≤ 9 → n ≤ 64 → b ≤ 4096 → Calls Tryz.prog 27 #[.pointer (some ⟨g, 0, none⟩), .agg #[.int .i64 h.op, .string h.nm, .string h.vl, .slice h.va h.vn h.vc, .slice h.ka h.kn h.kc], .int .i64 d] w fun e w' => LookP (lookF k d n b) g w w' e)
    (hyes : ((decide (vl.size = 0) && (decide (nm.size = 0) && decide (vn = 0)))) = true → R = lookKs m.ks (d + 1) (n + 1) b) (hno : ((decide (vl.size = 0) && (decide (nm.size = 0) && decide (vn = 0)))) = false → R = none) :
    Calls Tryz.prog 27 #[.pointer (some ⟨g, 0, none⟩), .agg #[.int .i64 6, .string nm, .string vl, .slice va vn vc, .slice ka kn kc], .int .i64 d] w fun e w' => LookP R g w w' e := by
  obtain ⟨-, -, -, hw, hv, hk, -⟩ := seeM_iff.1 q
  dsimp only at hv hk
  have C := hide (fun W => bare_fft ⟨6, nm, vl, va, vn, vc, ka, kn, kc⟩ W hw)
  dsimp only at C
  have w1 : nm.size ≤ 9223372036854775807 := hw.nm
  have w2 : vl.size ≤ 9223372036854775807 := hw.vl
  have w4 : kn * 88 ≤ 140737488355328 := hw.kn
  have HQ := hide q
  have HKL := hide hk
  have HS := hide hS
  have IH := hide IH0
  have HY := hide hyes
  have HNO := hide hno
  clear hyes hno IH0
  generalize (decide (vl.size = 0) && (decide (nm.size = 0) && decide (vn = 0))) = f at C HY HNO
  obtain ⟨W, hW⟩ : ∃ W, Hid ((w.alloc (.cells #[.int .i64 6, .string nm, .string vl, .slice va vn vc, .slice ka kn kc] 26)).setCell ⟨g, 0, none⟩ (.int .i64 ((n : Int) + 1)) = W) := ⟨_, rfl⟩
  have B : Hid (Beg w W g n b ⟨6, nm, vl, va, vn, vc, ka, kn, kc⟩) := by rw [← hW.out]; exact beg_of (h := ⟨6, nm, vl, va, vn, vc, ka, kn, kc⟩) hb
  have HNE := hide B.out.ne
  have B1 := hide (hb.block (w' := w.alloc (.cells #[.int .i64 6, .string nm, .string vl, .slice va vn vc, .slice ka kn kc] 26)) (Below.heap_alloc w _ g hb.lt))
  obtain ⟨c0, _, _, cf⟩ := B1.out.cell
  have cf0 := cf 0
  obtain ⟨d0, d1, d2, _⟩ := B.out.cnt.cell
  obtain ⟨e0, e1, e2, e3, e4, _⟩ := B.out.box.all
  dsimp only at e0 e1 e2 e3 e4
  have a1 : ¬ (64 : Int) < (n : Int) + 1 := by omega
  have a2 : ¬ (8 : Int) < (d : Int) := by omega
  clear hb B1 cf hw hv hk hS q
  go_enter Tryz.func27, Tryz.ntmps27
  go_upto_region 2 with fail
  rw [hW.out]
  clear hW c0 cf0
  go_wp2_with fail
  with_reducible refine (C.out _).mono ?_
  rintro e v ⟨rfl, b2⟩
  have B2 := hide (B.out.below b2)
  clear b2 d0 d1 d2 e0 e1 e2 e3 e4 B C
  obtain ⟨d0, d1, d2, df⟩ := B2.out.cnt.cell
  have df2 := df 2
  obtain ⟨e0, e1, e2, e3, e4, _⟩ := B2.out.box.all
  dsimp only at e0 e1 e2 e3 e4
  clear df
  cases f with
  | false =>
    have HR := hide (HNO.out rfl)
    have S0 : Hid (BoxM (v.setCell ⟨g, 2, none⟩ (.bool true)) w.heap.size ⟨6, nm, vl, va, vn, vc, ka, kn, kc⟩ ∧ SZ (v.setCell ⟨g, 2, none⟩ (.bool true)) g ((n : Int) + 1) b true ∧ Ch (fun k => k = g) w (v.setCell ⟨g, 2, none⟩ (.bool true))) := ⟨B2.out.box.block (Below.heap_setCell _ _ _ _ B2.out.ne), B2.out.cnt.mark _, B2.out.ch.trans (ch_set v g 2 _)⟩
    go_upto_region 25 with fail
    generalize v.setCell ⟨g, 2, none⟩ (.bool true) = u at S0 ⊢
    clear e0 e1 e2 e3 e4 d0 d1 d2 df2 B2
    have ST : Hid (StandK R m.ks (d + 1) (n + 1) b 0 g true u) := ⟨_, _, S0.out.2.1, Or.inl ⟨rfl, HR.out⟩⟩
    go_wp2
    go_loopw [7] (fun i wr => ∃ (j : Nat) (bad : Bool), j ≤ kn ∧ i = .int .i64 j ∧ Hid (StandK R m.ks (d + 1) (n + 1) b j g bad wr) ∧ Hid (BoxM wr w.heap.size ⟨6, nm, vl, va, vn, vc, ka, kn, kc⟩) ∧ Hid (Ch (fun k => k = g) w wr)) (fun i _ => kn - (intOf i).toNat)
    case atStart => exact ⟨0, true, by omega, rfl, ST, S0.out.1, S0.out.2.2⟩
    case round =>
      obtain ⟨j, bad, hj, rfl, HM, HX, HC⟩ := hrel
      obtain ⟨u3, rfl⟩ : ∃ u3, u3 = wr := ⟨wr, rfl⟩
      clear ST S0
      obtain ⟨e0, e1, e2, e3, e4, _⟩ := HX.out.all
      dsimp only at e0 e1 e2 e3 e4
      have d2 := HM.out.cell
      by_cases hlt : j < kn
      · have i1 : (0 : Int) ≤ (j : Int) := by omega
        have i2 : (j : Int) < (kn : Int) := by omega
        cases bad with
        | true =>
          obtain ⟨hR, hE⟩ := HM.out.bad
          have HE := hide (And.intro hR hE)
          clear hR hE
          go_wp2
          go_end0
          rw [HE.out.1]
          exact ⟨rfl, HC.out, HE.out.2⟩
        | false =>
          obtain ⟨x1, y1, kd, h', e, hkd, -, q5, qk⟩ := (HQ.out.ch HC.out (fun k hk => HS.out k hk)).kid hlt
          obtain ⟨p0, p1, p2, p3, p4, p5, p6, p7, p8⟩ := h'
          dsimp only at e
          subst e
          obtain ⟨g0, g1, g2, g3, g4⟩ := q5.all
          dsimp only at g0 g1 g2 g3 g4
          obtain ⟨hR, nn, bb, hz, hnn, hbb, hl⟩ := HM.out.good
          have T := hide (IH.out kd (List.mem_of_getElem? hkd) S _ (d + 1) nn bb g u3 qk HS.out hz (by omega) hnn hbb)
          rw [show ((d + 1 : Nat) : Int) = (d : Int) + 1 from rfl] at T
          dsimp only at T
          have HK := hide (And.intro hR (And.intro hkd hl))
          clear hkd q5 qk hR hz hl hnn hbb
          go_wp2_with fail
          with_reducible refine T.out.mono ?_
          intro e u4 p
          obtain ⟨bad4, st4⟩ := p.stand HK.out.1 HK.out.2.1 HK.out.2.2
          obtain ⟨rfl, c4, -⟩ := p
          have M5 := hide st4
          have X5 := hide (HX.out.block (c4.block _ HX.out.lt HNE.out))
          have C5 := hide (HC.out.trans c4)
          clear c4 st4 T e0 e1 e2 e3 e4 d2 g0 g1 g2 g3 g4 HM HX HC
          go_wp2
          go_roundw
          case rel => exact ⟨j + 1, bad4, by omega, by go_num, M5, X5, C5⟩
          case measure => simp [intOf]; omega
      · obtain ⟨j0, hj0⟩ : ∃ j0, j0 = j := ⟨j, rfl⟩
        have : kn = j0 := by omega
        subst this
        subst hj0
        have HE := hide (StandK.fin (ks := m.ks) (d := d + 1) (n := n + 1) (b := b) (bad := bad) (by rw [HKL.out]; exact HM.out) HC.out)
        go_wp2
        go_end0
        exact HE.out
  | true =>
    have HR := hide (HY.out rfl)
    have S0 : Hid (BoxM (v.setCell ⟨g, 2, none⟩ (.bool false)) w.heap.size ⟨6, nm, vl, va, vn, vc, ka, kn, kc⟩ ∧ SZ (v.setCell ⟨g, 2, none⟩ (.bool false)) g ((n : Int) + 1) b false ∧ Ch (fun k => k = g) w (v.setCell ⟨g, 2, none⟩ (.bool false))) := ⟨B2.out.box.block (Below.heap_setCell _ _ _ _ B2.out.ne), B2.out.cnt.mark _, B2.out.ch.trans (ch_set v g 2 _)⟩
    go_upto_region 25 with fail
    generalize v.setCell ⟨g, 2, none⟩ (.bool false) = u at S0 ⊢
    clear e0 e1 e2 e3 e4 d0 d1 d2 df2 B2
    have ST : Hid (StandK R m.ks (d + 1) (n + 1) b 0 g false u) := ⟨_, _, S0.out.2.1, Or.inr ⟨rfl, HR.out, n + 1, b, rfl, rfl, by omega, hb4, by rw [List.take_zero, lookKs]⟩⟩
    go_wp2
    go_loopw [7] (fun i wr => ∃ (j : Nat) (bad : Bool), j ≤ kn ∧ i = .int .i64 j ∧ Hid (StandK R m.ks (d + 1) (n + 1) b j g bad wr) ∧ Hid (BoxM wr w.heap.size ⟨6, nm, vl, va, vn, vc, ka, kn, kc⟩) ∧ Hid (Ch (fun k => k = g) w wr)) (fun i _ => kn - (intOf i).toNat)
    case atStart => exact ⟨0, false, by omega, rfl, ST, S0.out.1, S0.out.2.2⟩
    case round =>
      obtain ⟨j, bad, hj, rfl, HM, HX, HC⟩ := hrel
      obtain ⟨u3, rfl⟩ : ∃ u3, u3 = wr := ⟨wr, rfl⟩
      clear ST S0
      obtain ⟨e0, e1, e2, e3, e4, _⟩ := HX.out.all
      dsimp only at e0 e1 e2 e3 e4
      have d2 := HM.out.cell
      by_cases hlt : j < kn
      · have i1 : (0 : Int) ≤ (j : Int) := by omega
        have i2 : (j : Int) < (kn : Int) := by omega
        cases bad with
        | true =>
          obtain ⟨hR, hE⟩ := HM.out.bad
          have HE := hide (And.intro hR hE)
          clear hR hE
          go_wp2
          go_end0
          rw [HE.out.1]
          exact ⟨rfl, HC.out, HE.out.2⟩
        | false =>
          obtain ⟨x1, y1, kd, h', e, hkd, -, q5, qk⟩ := (HQ.out.ch HC.out (fun k hk => HS.out k hk)).kid hlt
          obtain ⟨p0, p1, p2, p3, p4, p5, p6, p7, p8⟩ := h'
          dsimp only at e
          subst e
          obtain ⟨g0, g1, g2, g3, g4⟩ := q5.all
          dsimp only at g0 g1 g2 g3 g4
          obtain ⟨hR, nn, bb, hz, hnn, hbb, hl⟩ := HM.out.good
          have T := hide (IH.out kd (List.mem_of_getElem? hkd) S _ (d + 1) nn bb g u3 qk HS.out hz (by omega) hnn hbb)
          rw [show ((d + 1 : Nat) : Int) = (d : Int) + 1 from rfl] at T
          dsimp only at T
          have HK := hide (And.intro hR (And.intro hkd hl))
          clear hkd q5 qk hR hz hl hnn hbb
          go_wp2_with fail
          with_reducible refine T.out.mono ?_
          intro e u4 p
          obtain ⟨bad4, st4⟩ := p.stand HK.out.1 HK.out.2.1 HK.out.2.2
          obtain ⟨rfl, c4, -⟩ := p
          have M5 := hide st4
          have X5 := hide (HX.out.block (c4.block _ HX.out.lt HNE.out))
          have C5 := hide (HC.out.trans c4)
          clear c4 st4 T e0 e1 e2 e3 e4 d2 g0 g1 g2 g3 g4 HM HX HC
          go_wp2
          go_roundw
          case rel => exact ⟨j + 1, bad4, by omega, by go_num, M5, X5, C5⟩
          case measure => simp [intOf]; omega
      · obtain ⟨j0, hj0⟩ : ∃ j0, j0 = j := ⟨j, rfl⟩
        have : kn = j0 := by omega
        subst this
        subst hj0
        have HE := hide (StandK.fin (ks := m.ks) (d := d + 1) (n := n + 1) (b := b) (bad := bad) (by rw [HKL.out]; exact HM.out) HC.out)
        go_wp2
        go_end0
        exact HE.out
set_option maxHeartbeats 8000000 in
theorem look_7 (S : Nat → Prop) (m : Mt) (nm vl : ByteArray) (va : Option Addr) (vn vc : Nat) (ka : Option Addr) (kn kc : Nat) (d n b g : Nat) (w : World) (R : Option (Nat × Nat)) (q : SeeM S w m ⟨7, nm, vl, va, vn, vc, ka, kn, kc⟩) (hS : ∀ k, S k → k ≠ g) (hb : SZ w g n b false) (hd : d ≤ 8) (hn : n < 64) (hb4 : b ≤ 4096)
    (IH0 : ∀ k ∈ m.ks, ∀ (S : Nat → Prop) (h : Hm) (d n b g : Nat) (w : World), SeeM S w k h → (∀ k, S k → k ≠ g) → SZ w g n b false → d ≤ 9 → n ≤ 64 → b ≤ 4096 → Calls Tryz.prog 27 #[.pointer (some ⟨g, 0, none⟩), .agg #[.int .i64 h.op, .string h.nm, .string h.vl, .slice h.va h.vn h.vc, .slice h.ka h.kn h.kc], .int .i64 d] w fun e w' => LookP (lookF k d n b) g w w' e)
    (hyes : ((decide (vl.size = 0) && (decide (nm.size = 0) && decide (vn = 0))) && decide (kn = 1)) = true → R = lookKs m.ks (d + 1) (n + 1) b) (hno : ((decide (vl.size = 0) && (decide (nm.size = 0) && decide (vn = 0))) && decide (kn = 1)) = false → R = none) :
    Calls Tryz.prog 27 #[.pointer (some ⟨g, 0, none⟩), .agg #[.int .i64 7, .string nm, .string vl, .slice va vn vc, .slice ka kn kc], .int .i64 d] w fun e w' => LookP R g w w' e := by
  obtain ⟨-, -, -, hw, hv, hk, -⟩ := seeM_iff.1 q
  dsimp only at hv hk
  have C := hide (fun W => bare_fft ⟨7, nm, vl, va, vn, vc, ka, kn, kc⟩ W hw)
  dsimp only at C
  have w1 : nm.size ≤ 9223372036854775807 := hw.nm
  have w2 : vl.size ≤ 9223372036854775807 := hw.vl
  have w4 : kn * 88 ≤ 140737488355328 := hw.kn
  have HQ := hide q
  have HKL := hide hk
  have HS := hide hS
  have IH := hide IH0
  have HY := hide hyes
  have HNO := hide hno
  clear hyes hno IH0
  generalize (decide (vl.size = 0) && (decide (nm.size = 0) && decide (vn = 0))) = f at C HY HNO
  obtain ⟨W, hW⟩ : ∃ W, Hid ((w.alloc (.cells #[.int .i64 7, .string nm, .string vl, .slice va vn vc, .slice ka kn kc] 26)).setCell ⟨g, 0, none⟩ (.int .i64 ((n : Int) + 1)) = W) := ⟨_, rfl⟩
  have B : Hid (Beg w W g n b ⟨7, nm, vl, va, vn, vc, ka, kn, kc⟩) := by rw [← hW.out]; exact beg_of (h := ⟨7, nm, vl, va, vn, vc, ka, kn, kc⟩) hb
  have HNE := hide B.out.ne
  have B1 := hide (hb.block (w' := w.alloc (.cells #[.int .i64 7, .string nm, .string vl, .slice va vn vc, .slice ka kn kc] 26)) (Below.heap_alloc w _ g hb.lt))
  obtain ⟨c0, _, _, cf⟩ := B1.out.cell
  have cf0 := cf 0
  obtain ⟨d0, d1, d2, _⟩ := B.out.cnt.cell
  obtain ⟨e0, e1, e2, e3, e4, _⟩ := B.out.box.all
  dsimp only at e0 e1 e2 e3 e4
  have a1 : ¬ (64 : Int) < (n : Int) + 1 := by omega
  have a2 : ¬ (8 : Int) < (d : Int) := by omega
  clear hb B1 cf hw hv hk hS q
  go_enter Tryz.func27, Tryz.ntmps27
  go_upto_region 2 with fail
  rw [hW.out]
  clear hW c0 cf0
  go_wp2_with fail
  with_reducible refine (C.out _).mono ?_
  rintro e v ⟨rfl, b2⟩
  have B2 := hide (B.out.below b2)
  clear b2 d0 d1 d2 e0 e1 e2 e3 e4 B C
  obtain ⟨d0, d1, d2, df⟩ := B2.out.cnt.cell
  have df2 := df 2
  obtain ⟨e0, e1, e2, e3, e4, _⟩ := B2.out.box.all
  dsimp only at e0 e1 e2 e3 e4
  clear df
  cases f with
  | false =>
    have HR := hide (HNO.out (Bool.false_and _))
    have S0 : Hid (BoxM (v.setCell ⟨g, 2, none⟩ (.bool true)) w.heap.size ⟨7, nm, vl, va, vn, vc, ka, kn, kc⟩ ∧ SZ (v.setCell ⟨g, 2, none⟩ (.bool true)) g ((n : Int) + 1) b true ∧ Ch (fun k => k = g) w (v.setCell ⟨g, 2, none⟩ (.bool true))) := ⟨B2.out.box.block (Below.heap_setCell _ _ _ _ B2.out.ne), B2.out.cnt.mark _, B2.out.ch.trans (ch_set v g 2 _)⟩
    go_upto_region 25 with fail
    generalize v.setCell ⟨g, 2, none⟩ (.bool true) = u at S0 ⊢
    clear e0 e1 e2 e3 e4 d0 d1 d2 df2 B2
    have ST : Hid (StandK R m.ks (d + 1) (n + 1) b 0 g true u) := ⟨_, _, S0.out.2.1, Or.inl ⟨rfl, HR.out⟩⟩
    go_wp2
    go_loopw [7] (fun i wr => ∃ (j : Nat) (bad : Bool), j ≤ kn ∧ i = .int .i64 j ∧ Hid (StandK R m.ks (d + 1) (n + 1) b j g bad wr) ∧ Hid (BoxM wr w.heap.size ⟨7, nm, vl, va, vn, vc, ka, kn, kc⟩) ∧ Hid (Ch (fun k => k = g) w wr)) (fun i _ => kn - (intOf i).toNat)
    case atStart => exact ⟨0, true, by omega, rfl, ST, S0.out.1, S0.out.2.2⟩
    case round =>
      obtain ⟨j, bad, hj, rfl, HM, HX, HC⟩ := hrel
      obtain ⟨u3, rfl⟩ : ∃ u3, u3 = wr := ⟨wr, rfl⟩
      clear ST S0
      obtain ⟨e0, e1, e2, e3, e4, _⟩ := HX.out.all
      dsimp only at e0 e1 e2 e3 e4
      have d2 := HM.out.cell
      by_cases hlt : j < kn
      · have i1 : (0 : Int) ≤ (j : Int) := by omega
        have i2 : (j : Int) < (kn : Int) := by omega
        cases bad with
        | true =>
          obtain ⟨hR, hE⟩ := HM.out.bad
          have HE := hide (And.intro hR hE)
          clear hR hE
          go_wp2
          go_end0
          rw [HE.out.1]
          exact ⟨rfl, HC.out, HE.out.2⟩
        | false =>
          obtain ⟨x1, y1, kd, h', e, hkd, -, q5, qk⟩ := (HQ.out.ch HC.out (fun k hk => HS.out k hk)).kid hlt
          obtain ⟨p0, p1, p2, p3, p4, p5, p6, p7, p8⟩ := h'
          dsimp only at e
          subst e
          obtain ⟨g0, g1, g2, g3, g4⟩ := q5.all
          dsimp only at g0 g1 g2 g3 g4
          obtain ⟨hR, nn, bb, hz, hnn, hbb, hl⟩ := HM.out.good
          have T := hide (IH.out kd (List.mem_of_getElem? hkd) S _ (d + 1) nn bb g u3 qk HS.out hz (by omega) hnn hbb)
          rw [show ((d + 1 : Nat) : Int) = (d : Int) + 1 from rfl] at T
          dsimp only at T
          have HK := hide (And.intro hR (And.intro hkd hl))
          clear hkd q5 qk hR hz hl hnn hbb
          go_wp2_with fail
          with_reducible refine T.out.mono ?_
          intro e u4 p
          obtain ⟨bad4, st4⟩ := p.stand HK.out.1 HK.out.2.1 HK.out.2.2
          obtain ⟨rfl, c4, -⟩ := p
          have M5 := hide st4
          have X5 := hide (HX.out.block (c4.block _ HX.out.lt HNE.out))
          have C5 := hide (HC.out.trans c4)
          clear c4 st4 T e0 e1 e2 e3 e4 d2 g0 g1 g2 g3 g4 HM HX HC
          go_wp2
          go_roundw
          case rel => exact ⟨j + 1, bad4, by omega, by go_num, M5, X5, C5⟩
          case measure => simp [intOf]; omega
      · obtain ⟨j0, hj0⟩ : ∃ j0, j0 = j := ⟨j, rfl⟩
        have : kn = j0 := by omega
        subst this
        subst hj0
        have HE := hide (StandK.fin (ks := m.ks) (d := d + 1) (n := n + 1) (b := b) (bad := bad) (by rw [HKL.out]; exact HM.out) HC.out)
        go_wp2
        go_end0
        exact HE.out
  | true =>
    by_cases h1 : kn = 1
    · have t1 : ((kn : Int) != 1) = false := by simp [h1]
      have HR := hide (HY.out (by rw [Bool.true_and]; exact decide_eq_true h1))
      clear h1
      have S0 : Hid (BoxM (v.setCell ⟨g, 2, none⟩ (.bool false)) w.heap.size ⟨7, nm, vl, va, vn, vc, ka, kn, kc⟩ ∧ SZ (v.setCell ⟨g, 2, none⟩ (.bool false)) g ((n : Int) + 1) b false ∧ Ch (fun k => k = g) w (v.setCell ⟨g, 2, none⟩ (.bool false))) := ⟨B2.out.box.block (Below.heap_setCell _ _ _ _ B2.out.ne), B2.out.cnt.mark _, B2.out.ch.trans (ch_set v g 2 _)⟩
      go_upto_region 25 with fail
      generalize v.setCell ⟨g, 2, none⟩ (.bool false) = u at S0 ⊢
      clear e0 e1 e2 e3 e4 d0 d1 d2 df2 B2
      have ST : Hid (StandK R m.ks (d + 1) (n + 1) b 0 g false u) := ⟨_, _, S0.out.2.1, Or.inr ⟨rfl, HR.out, n + 1, b, rfl, rfl, by omega, hb4, by rw [List.take_zero, lookKs]⟩⟩
      go_wp2
      go_loopw [7] (fun i wr => ∃ (j : Nat) (bad : Bool), j ≤ kn ∧ i = .int .i64 j ∧ Hid (StandK R m.ks (d + 1) (n + 1) b j g bad wr) ∧ Hid (BoxM wr w.heap.size ⟨7, nm, vl, va, vn, vc, ka, kn, kc⟩) ∧ Hid (Ch (fun k => k = g) w wr)) (fun i _ => kn - (intOf i).toNat)
      case atStart => exact ⟨0, false, by omega, rfl, ST, S0.out.1, S0.out.2.2⟩
      case round =>
        obtain ⟨j, bad, hj, rfl, HM, HX, HC⟩ := hrel
        obtain ⟨u3, rfl⟩ : ∃ u3, u3 = wr := ⟨wr, rfl⟩
        clear ST S0
        obtain ⟨e0, e1, e2, e3, e4, _⟩ := HX.out.all
        dsimp only at e0 e1 e2 e3 e4
        have d2 := HM.out.cell
        by_cases hlt : j < kn
        · have i1 : (0 : Int) ≤ (j : Int) := by omega
          have i2 : (j : Int) < (kn : Int) := by omega
          cases bad with
          | true =>
            obtain ⟨hR, hE⟩ := HM.out.bad
            have HE := hide (And.intro hR hE)
            clear hR hE
            go_wp2
            go_end0
            rw [HE.out.1]
            exact ⟨rfl, HC.out, HE.out.2⟩
          | false =>
            obtain ⟨x1, y1, kd, h', e, hkd, -, q5, qk⟩ := (HQ.out.ch HC.out (fun k hk => HS.out k hk)).kid hlt
            obtain ⟨p0, p1, p2, p3, p4, p5, p6, p7, p8⟩ := h'
            dsimp only at e
            subst e
            obtain ⟨g0, g1, g2, g3, g4⟩ := q5.all
            dsimp only at g0 g1 g2 g3 g4
            obtain ⟨hR, nn, bb, hz, hnn, hbb, hl⟩ := HM.out.good
            have T := hide (IH.out kd (List.mem_of_getElem? hkd) S _ (d + 1) nn bb g u3 qk HS.out hz (by omega) hnn hbb)
            rw [show ((d + 1 : Nat) : Int) = (d : Int) + 1 from rfl] at T
            dsimp only at T
            have HK := hide (And.intro hR (And.intro hkd hl))
            clear hkd q5 qk hR hz hl hnn hbb
            go_wp2_with fail
            with_reducible refine T.out.mono ?_
            intro e u4 p
            obtain ⟨bad4, st4⟩ := p.stand HK.out.1 HK.out.2.1 HK.out.2.2
            obtain ⟨rfl, c4, -⟩ := p
            have M5 := hide st4
            have X5 := hide (HX.out.block (c4.block _ HX.out.lt HNE.out))
            have C5 := hide (HC.out.trans c4)
            clear c4 st4 T e0 e1 e2 e3 e4 d2 g0 g1 g2 g3 g4 HM HX HC
            go_wp2
            go_roundw
            case rel => exact ⟨j + 1, bad4, by omega, by go_num, M5, X5, C5⟩
            case measure => simp [intOf]; omega
        · obtain ⟨j0, hj0⟩ : ∃ j0, j0 = j := ⟨j, rfl⟩
          have : kn = j0 := by omega
          subst this
          subst hj0
          have HE := hide (StandK.fin (ks := m.ks) (d := d + 1) (n := n + 1) (b := b) (bad := bad) (by rw [HKL.out]; exact HM.out) HC.out)
          go_wp2
          go_end0
          exact HE.out
    · have t1 : ((kn : Int) != 1) = true := by simp; omega
      have HR := hide (HNO.out (by rw [Bool.true_and]; exact decide_eq_false h1))
      clear h1
      have S0 : Hid (BoxM (v.setCell ⟨g, 2, none⟩ (.bool true)) w.heap.size ⟨7, nm, vl, va, vn, vc, ka, kn, kc⟩ ∧ SZ (v.setCell ⟨g, 2, none⟩ (.bool true)) g ((n : Int) + 1) b true ∧ Ch (fun k => k = g) w (v.setCell ⟨g, 2, none⟩ (.bool true))) := ⟨B2.out.box.block (Below.heap_setCell _ _ _ _ B2.out.ne), B2.out.cnt.mark _, B2.out.ch.trans (ch_set v g 2 _)⟩
      go_upto_region 25 with fail
      generalize v.setCell ⟨g, 2, none⟩ (.bool true) = u at S0 ⊢
      clear e0 e1 e2 e3 e4 d0 d1 d2 df2 B2
      have ST : Hid (StandK R m.ks (d + 1) (n + 1) b 0 g true u) := ⟨_, _, S0.out.2.1, Or.inl ⟨rfl, HR.out⟩⟩
      go_wp2
      go_loopw [7] (fun i wr => ∃ (j : Nat) (bad : Bool), j ≤ kn ∧ i = .int .i64 j ∧ Hid (StandK R m.ks (d + 1) (n + 1) b j g bad wr) ∧ Hid (BoxM wr w.heap.size ⟨7, nm, vl, va, vn, vc, ka, kn, kc⟩) ∧ Hid (Ch (fun k => k = g) w wr)) (fun i _ => kn - (intOf i).toNat)
      case atStart => exact ⟨0, true, by omega, rfl, ST, S0.out.1, S0.out.2.2⟩
      case round =>
        obtain ⟨j, bad, hj, rfl, HM, HX, HC⟩ := hrel
        obtain ⟨u3, rfl⟩ : ∃ u3, u3 = wr := ⟨wr, rfl⟩
        clear ST S0
        obtain ⟨e0, e1, e2, e3, e4, _⟩ := HX.out.all
        dsimp only at e0 e1 e2 e3 e4
        have d2 := HM.out.cell
        by_cases hlt : j < kn
        · have i1 : (0 : Int) ≤ (j : Int) := by omega
          have i2 : (j : Int) < (kn : Int) := by omega
          cases bad with
          | true =>
            obtain ⟨hR, hE⟩ := HM.out.bad
            have HE := hide (And.intro hR hE)
            clear hR hE
            go_wp2
            go_end0
            rw [HE.out.1]
            exact ⟨rfl, HC.out, HE.out.2⟩
          | false =>
            obtain ⟨x1, y1, kd, h', e, hkd, -, q5, qk⟩ := (HQ.out.ch HC.out (fun k hk => HS.out k hk)).kid hlt
            obtain ⟨p0, p1, p2, p3, p4, p5, p6, p7, p8⟩ := h'
            dsimp only at e
            subst e
            obtain ⟨g0, g1, g2, g3, g4⟩ := q5.all
            dsimp only at g0 g1 g2 g3 g4
            obtain ⟨hR, nn, bb, hz, hnn, hbb, hl⟩ := HM.out.good
            have T := hide (IH.out kd (List.mem_of_getElem? hkd) S _ (d + 1) nn bb g u3 qk HS.out hz (by omega) hnn hbb)
            rw [show ((d + 1 : Nat) : Int) = (d : Int) + 1 from rfl] at T
            dsimp only at T
            have HK := hide (And.intro hR (And.intro hkd hl))
            clear hkd q5 qk hR hz hl hnn hbb
            go_wp2_with fail
            with_reducible refine T.out.mono ?_
            intro e u4 p
            obtain ⟨bad4, st4⟩ := p.stand HK.out.1 HK.out.2.1 HK.out.2.2
            obtain ⟨rfl, c4, -⟩ := p
            have M5 := hide st4
            have X5 := hide (HX.out.block (c4.block _ HX.out.lt HNE.out))
            have C5 := hide (HC.out.trans c4)
            clear c4 st4 T e0 e1 e2 e3 e4 d2 g0 g1 g2 g3 g4 HM HX HC
            go_wp2
            go_roundw
            case rel => exact ⟨j + 1, bad4, by omega, by go_num, M5, X5, C5⟩
            case measure => simp [intOf]; omega
        · obtain ⟨j0, hj0⟩ : ∃ j0, j0 = j := ⟨j, rfl⟩
          have : kn = j0 := by omega
          subst this
          subst hj0
          have HE := hide (StandK.fin (ks := m.ks) (d := d + 1) (n := n + 1) (b := b) (bad := bad) (by rw [HKL.out]; exact HM.out) HC.out)
          go_wp2
          go_end0
          exact HE.out
end Go.Proofs.YtpffhpnmbpjifaaGreat

namespace Go.Proofs.YtpffhpnmbpjifaaGreat
open Go.RowKit
set_option maxRecDepth 20000

set_option maxHeartbeats 4000000 in
/-- Any other op. -/
theorem look_else (h : Hm) (d n b g : Nat) (w : World) (hb : SZ w g n b false) (hd : d ≤ 8) (hn : n < 64) (h0 : h.op ≠ 0) (h1 : h.op ≠ 1) (h2 : h.op ≠ 2) (h3 : h.op ≠ 3) (h4 : h.op ≠ 4) (h5 : h.op ≠ 5) (h6 : h.op ≠ 6) (h7 : h.op ≠ 7) :
    Calls Tryz.prog 27 #[.pointer (some ⟨g, 0, none⟩), .agg #[.int .i64 h.op, .string h.nm, .string h.vl, .slice h.va h.vn h.vc, .slice h.ka h.kn h.kc], .int .i64 d] w fun e w' => LookP none g w w' e := by
  obtain ⟨W, hW⟩ : ∃ W, Hid ((w.alloc (.cells #[.int .i64 h.op, .string h.nm, .string h.vl, .slice h.va h.vn h.vc, .slice h.ka h.kn h.kc] 26)).setCell ⟨g, 0, none⟩ (.int .i64 ((n : Int) + 1)) = W) := ⟨_, rfl⟩
  have B : Hid (Beg w W g n b h) := by rw [← hW.out]; exact beg_of hb
  have B1 := hide (hb.block (w' := w.alloc (.cells #[.int .i64 h.op, .string h.nm, .string h.vl, .slice h.va h.vn h.vc, .slice h.ka h.kn h.kc] 26)) (Below.heap_alloc w _ g hb.lt))
  obtain ⟨c0, _, _, cf⟩ := B1.out.cell
  have cf0 := cf 0
  obtain ⟨d0, d1, d2, df⟩ := B.out.cnt.cell
  obtain ⟨e0, e1, e2, e3, e4, _⟩ := B.out.box.all
  have df2 := df 2
  have E : Hid (Ch (fun k => k = g) w (W.setCell ⟨g, 2, none⟩ (.bool true)) ∧ ∃ n b : Int, SZ (W.setCell ⟨g, 2, none⟩ (.bool true)) g n b true) := ⟨B.out.ch.trans (ch_set W g 2 _), _, _, B.out.cnt.mark true⟩
  have a1 : ¬ (64 : Int) < (n : Int) + 1 := by omega
  have a2 : ¬ (8 : Int) < (d : Int) := by omega
  have k0 : (h.op == 0) = false := by simp [h0]
  have k1 : (h.op == 1) = false := by simp [h1]
  have k2 : (h.op == 2) = false := by simp [h2]
  have k3 : (h.op == 3) = false := by simp [h3]
  have k4 : (h.op == 4) = false := by simp [h4]
  have k5 : (h.op == 5) = false := by simp [h5]
  have k6 : (h.op == 6) = false := by simp [h6]
  have k7 : (h.op == 7) = false := by simp [h7]
  clear hb B1 cf df
  go_enter Tryz.func27, Tryz.ntmps27
  go_upto_region 2 with fail
  rw [hW.out]
  clear hW c0 cf0
  go_wp2
  go_end0
  exact ⟨rfl, E.out⟩

theorem len0 {α : Type} {l : List α} (h : l.length = 0) : l = [] := List.length_eq_zero_iff.1 h
theorem sumB'_nil : sumB' [] = 0 := rfl
theorem lookF_lone {m : Mt} {d n b t : Nat} {ok : Bool} (hn : n < 64) (hd : d ≤ 8) (hf : fitB m = ok) (hk : ok = true → m.ks = []) (ht : ok = true → ownT m = t) : lookF m d n b = lookR ok n b t := by
  rw [lookF_eq, hf]
  unfold lookR
  cases ok with
  | false => rw [if_pos (Or.inr (Or.inr (Or.inl rfl))), if_neg (by simp)]
  | true =>
    rw [hk rfl, ht rfl, lookKs]
    by_cases a : b + t ≤ 4096
    · rw [if_neg (by simp; omega), if_pos ⟨rfl, a⟩]
    · rw [if_pos (by omega), if_neg (by omega)]
theorem lookF_one {m : Mt} {d n b : Nat} (hn : n < 64) (hd : d ≤ 8) (hop : m.op = 1 ∨ m.op = 2 ∨ m.op = 3) : lookF m d n b = lookR ((decide (m.vs.length = 0) && decide (m.ks.length = 0)) && (nameB m.nm && decide (m.vl.size ≤ 64))) n b (m.nm.size + m.vl.size) := by
  refine lookF_lone hn hd ?_ ?_ ?_
  · unfold fitB
    rw [if_neg (by omega), if_pos hop, Bool.and_assoc]
  · intro h
    simp only [Bool.and_eq_true, decide_eq_true_eq] at h
    exact len0 h.1.2
  · intro h
    simp only [Bool.and_eq_true, decide_eq_true_eq] at h
    unfold ownT
    rw [len0 h.1.1, sumB'_nil]
    rfl
theorem lookF_among {m : Mt} {d n b : Nat} (hn : n < 64) (hd : d ≤ 8) (hop : m.op = 4) : lookF m d n b = lookR ((decide (m.vl.size = 0) && decide (m.ks.length = 0)) && (nameB m.nm && valsB m.vs)) n b (m.nm.size + sumB' m.vs) := by
  refine lookF_lone hn hd ?_ ?_ ?_
  · unfold fitB
    rw [if_neg (by omega), if_neg (by omega), if_pos hop, Bool.and_assoc]
  · intro h
    simp only [Bool.and_eq_true, decide_eq_true_eq] at h
    exact len0 h.1.2
  · intro h
    simp only [Bool.and_eq_true, decide_eq_true_eq] at h
    unfold ownT
    rw [h.1.1]
    rfl
theorem lookF_kids {m : Mt} {d n b : Nat} {ok : Bool} (hn : n < 64) (hd : d ≤ 8) (hb : b ≤ 4096) (hf : fitB m = ok) (ht : ok = true → ownT m = 0) : (ok = true → lookF m d n b = lookKs m.ks (d + 1) (n + 1) b) ∧ (ok = false → lookF m d n b = none) := by
  rw [lookF_eq, hf]
  refine ⟨?_, ?_⟩
  · rintro rfl
    rw [ht rfl, if_neg (by simp; omega)]
    rfl
  · rintro rfl
    rw [if_pos (Or.inr (Or.inr (Or.inl rfl)))]
theorem ownT_zero {m : Mt} (h1 : m.vl.size = 0) (h2 : m.nm.size = 0) (h3 : m.vs.length = 0) : ownT m = 0 := by
  unfold ownT
  rw [h1, h2, len0 h3, sumB'_nil]
theorem look_any (m : Mt) : ∀ (S : Nat → Prop) (h : Hm) (d n b g : Nat) (w : World), SeeM S w m h → (∀ k, S k → k ≠ g) → SZ w g n b false → d ≤ 9 → n ≤ 64 → b ≤ 4096 →
    Calls Tryz.prog 27 #[.pointer (some ⟨g, 0, none⟩), .agg #[.int .i64 h.op, .string h.nm, .string h.vl, .slice h.va h.vn h.vc, .slice h.ka h.kn h.kc], .int .i64 d] w fun e w' => LookP (lookF m d n b) g w w' e := by
  refine Mt.ind (P := fun m => ∀ (S : Nat → Prop) (h : Hm) (d n b g : Nat) (w : World), SeeM S w m h → (∀ k, S k → k ≠ g) → SZ w g n b false → d ≤ 9 → n ≤ 64 → b ≤ 4096 →
    Calls Tryz.prog 27 #[.pointer (some ⟨g, 0, none⟩), .agg #[.int .i64 h.op, .string h.nm, .string h.vl, .slice h.va h.vn h.vc, .slice h.ka h.kn h.kc], .int .i64 d] w fun e w' => LookP (lookF m d n b) g w w' e) ?_ m
  intro m ih S h d n b g w q hS hz hd hn hb
  have hT := lookF_eq m d n b
  by_cases c1 : 64 < n + 1 ∨ 8 < d
  · rw [hT, if_pos (by omega)]
    exact look_no h d n b g w hz hd hn c1
  · have hd8 : d ≤ 8 := by omega
    have hn63 : n < 64 := by omega
    obtain ⟨op, nm, vl, va, vn, vc, ka, kn, kc⟩ := h
    obtain ⟨e1, e2, e3, hw, hv, hk, -⟩ := seeM_iff.1 q
    dsimp only at e1 e2 e3 hv hk ⊢
    have hvl := hv.1
    by_cases k0 : op = 0
    · subst k0
      have := look_0 ⟨0, nm, vl, va, vn, vc, ka, kn, kc⟩ d n b g w hw hz hd8 hn63 rfl
      dsimp only at this
      have e : lookF m d n b = (if (decide (vl.size = 0) && (decide (nm.size = 0) && (decide (vn = 0) && decide (kn = 0)))) = true then some (n + 1, b) else none) := by
        rw [hT]
        have hf : fitB m = (decide (vl.size = 0) && (decide (nm.size = 0) && (decide (vn = 0) && decide (kn = 0)))) := by
          unfold fitB
          rw [if_pos e1.symm, ← e2, ← e3, hvl, hk, Bool.and_assoc, Bool.and_assoc]
        rw [hf]
        by_cases hok : (decide (vl.size = 0) && (decide (nm.size = 0) && (decide (vn = 0) && decide (kn = 0)))) = true
        · rw [if_pos hok]
          simp only [Bool.and_eq_true, decide_eq_true_eq] at hok
          obtain ⟨o1, o2, o3, o4⟩ := hok
          have hov : ownT m = 0 := by
            unfold ownT
            rw [← e2, ← e3, len0 (l := m.vs) (by rw [hvl]; exact o3), sumB'_nil, o1, o2]
          rw [hov, len0 (l := m.ks) (by rw [hk]; exact o4), lookKs, if_neg (by simp [o1, o2, o3, o4]; omega)]
          rfl
        · rw [if_neg hok, if_pos (Or.inr (Or.inr (Or.inl (by simpa using hok))))]
      rw [e]
      exact this
    · by_cases k1 : op = 1
      · subst k1
        rw [lookF_one hn63 hd8 (Or.inl e1.symm), hvl, hk, ← e2, ← e3]
        exact look_1 nm vl va vn vc ka kn kc d n b g w hw hz hd8 hn63 hb
      · by_cases k2 : op = 2
        · subst k2
          rw [lookF_one hn63 hd8 (Or.inr (Or.inl e1.symm)), hvl, hk, ← e2, ← e3]
          exact look_2 nm vl va vn vc ka kn kc d n b g w hw hz hd8 hn63 hb
        · by_cases k3 : op = 3
          · subst k3
            rw [lookF_one hn63 hd8 (Or.inr (Or.inr e1.symm)), hvl, hk, ← e2, ← e3]
            exact look_3 nm vl va vn vc ka kn kc d n b g w hw hz hd8 hn63 hb
          · by_cases k4 : op = 4
            · subst k4
              rw [lookF_among hn63 hd8 e1.symm, hk, ← e2, ← e3]
              exact look_4 S nm vl va vn vc ka kn kc m.vs d n b g w hw hv hS hz hd8 hn63 hb
            · have zero : (decide (vl.size = 0) && (decide (nm.size = 0) && decide (vn = 0))) = true → ownT m = 0 := fun h => by
                simp only [Bool.and_eq_true, decide_eq_true_eq] at h
                exact ownT_zero (by rw [← e3]; exact h.1) (by rw [← e2]; exact h.2.1) (by rw [hvl]; exact h.2.2)
              by_cases k5 : op = 5
              · subst k5
                have kk := lookF_kids (m := m) (d := d) (n := n) (b := b) (ok := (decide (vl.size = 0) && (decide (nm.size = 0) && decide (vn = 0)))) hn63 hd8 hb (by
                  unfold fitB
                  rw [if_neg (by omega), if_neg (by omega), if_neg (by omega), if_pos (by omega), ← e2, ← e3, hvl, ← e1]
                  simp [Bool.and_assoc]) zero
                exact look_5 S m nm vl va vn vc ka kn kc d n b g w _ q hS hz hd8 hn63 hb ih kk.1 kk.2
              · by_cases k6 : op = 6
                · subst k6
                  have kk := lookF_kids (m := m) (d := d) (n := n) (b := b) (ok := (decide (vl.size = 0) && (decide (nm.size = 0) && decide (vn = 0)))) hn63 hd8 hb (by
                    unfold fitB
                    rw [if_neg (by omega), if_neg (by omega), if_neg (by omega), if_pos (by omega), ← e2, ← e3, hvl, ← e1]
                    simp [Bool.and_assoc]) zero
                  exact look_6 S m nm vl va vn vc ka kn kc d n b g w _ q hS hz hd8 hn63 hb ih kk.1 kk.2
                · by_cases k7 : op = 7
                  · subst k7
                    have kk := lookF_kids (m := m) (d := d) (n := n) (b := b) (ok := (decide (vl.size = 0) && (decide (nm.size = 0) && decide (vn = 0))) && decide (kn = 1)) hn63 hd8 hb (by
                      unfold fitB
                      rw [if_neg (by omega), if_neg (by omega), if_neg (by omega), if_pos (by omega), ← e2, ← e3, hvl, hk, ← e1]
                      simp [Bool.and_assoc]) (fun h => zero (by rw [Bool.and_eq_true] at h; exact h.1))
                    exact look_7 S m nm vl va vn vc ka kn kc d n b g w _ q hS hz hd8 hn63 hb ih kk.1 kk.2
                  · have hf : fitB m = false := by
                      unfold fitB
                      rw [if_neg (by omega), if_neg (by omega), if_neg (by omega), if_neg (by omega)]
                    rw [hT, if_pos (Or.inr (Or.inr (Or.inl hf)))]
                    exact look_else ⟨op, nm, vl, va, vn, vc, ka, kn, kc⟩ d n b g w hz hd8 hn63 k0 k1 k2 k3 k4 k5 k6 k7
end Go.Proofs.YtpffhpnmbpjifaaGreat

namespace Go.Proofs.YtpffhpnmbpjifaaGreat
open Go.RowKit
set_option maxRecDepth 20000

theorem lookP_bad {m : Mt} {g : Nat} {w w' : World} {e : Ending} (h : LookP (lookF m 1 0 0) g w w' e) : e = .returned (.tuple #[]) ∧ Ch (fun k => k = g) w w' ∧ ∃ n b : Int, SZ w' g n b (!chkM m) := by
  obtain ⟨h1, h2, h3⟩ := h
  refine ⟨h1, h2, ?_⟩
  unfold chkM
  cases hf : lookF m 1 0 0 with
  | none => rw [hf] at h3; exact h3
  | some r => rw [hf] at h3; exact ⟨_, _, h3⟩
set_option maxHeartbeats 1000000 in
theorem refchkM_any (S : Nat → Prop) (m : Mt) (h : Hm) (w : World) (q : SeeM S w m h) :
    Calls Tryz.prog 12 #[.agg #[.int .i64 h.op, .string h.nm, .string h.vl, .slice h.va h.vn h.vc, .slice h.ka h.kn h.kc]] w fun e w' => e = .returned (.bool (chkM m)) ∧ Below w.heap.size w w' := by
  have BA := hide ((Below.refl w.heap.size w).alloc (Nat.le_refl _) (.cells #[.int .i64 h.op, .string h.nm, .string h.vl, .slice h.va h.vn h.vc, .slice h.ka h.kn h.kc] 26))
  have T := hide (fun (W : World) (b : Below w.heap.size w W) => look_any m (fun k => k < w.heap.size) h 1 0 0 W.heap.size (W.alloc (.cells #[.int .i64 0, .int .i64 0, .bool false] 61)) (((q.mono (fun k hk _ => hk)).below b).alloc _) (fun k hk => by have := b.size; omega) (heap_alloc_new W _) (by omega) (by omega) (by omega))
  have T1 := hide (T.out _ BA.out)
  have SZ0 : Hid ((w.alloc (.cells #[.int .i64 h.op, .string h.nm, .string h.vl, .slice h.va h.vn h.vc, .slice h.ka h.kn h.kc] 26)).heap.size = w.heap.size + 1) := by show _ = _; simp
  rw [SZ0.out, show ((1 : Nat) : Int) = 1 from rfl] at T1
  clear T q
  go_enter Tryz.func12, Tryz.ntmps12
  go_wp2_with fail
  with_reducible refine T1.out.mono ?_
  intro e w2 p
  obtain ⟨rfl, c, n, b, s⟩ := lookP_bad p
  have B2 : Hid (Below w.heap.size w w2) := by
    have b := BA.out.alloc (by simp) (.cells #[.int .i64 0, .int .i64 0, .bool false] 61)
    exact b.trans (c.below (by simp; omega) (fun k hk e => by omega))
  obtain ⟨_, _, d2, _⟩ := s.cell
  clear c p s T1
  cases hc : chkM m with
  | true =>
    rw [hc] at d2
    go_wp2
    go_ret
    exact ⟨by rw [hc]; rfl, B2.out⟩
  | false =>
    rw [hc] at d2
    go_wp2
    go_ret
    exact ⟨by rw [hc]; rfl, B2.out⟩
end Go.Proofs.YtpffhpnmbpjifaaGreat
