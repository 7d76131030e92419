/-
  The document's look at a matcher, one op at a time (All; Is, Isnt, Begins): contracts, for every world: the count alone turns.
  Conditions: the matcher lies in blocks apart from the count's.
-/
import Derived.Test.YthebcmkainplnaaMatU
import Derived.Test.YthebcmkainplnaaMatV
namespace Go.Proofs.Ythebcmkainplnaa
open Go.RowKit
set_option maxRecDepth 20000

/-- What a look leaves. -/
def LookP (r : Option (Nat × Nat)) (g : Nat) (w w' : World) (e : Ending) : Prop :=
  e = .returned (.tuple #[]) ∧ Ch (fun k => k = g) w w' ∧ match r with
  | none => ∃ n b : Int, SZ w' g n b true
  | some r => SZ w' g r.1 r.2 false
/-- How a look begins: the matcher's box is made, the parts are counted. -/
structure Beg (w W : World) (g n b : Nat) (h : Hm) : Prop where
  box : BoxM W w.heap.size h
  cnt : SZ W g ((n : Int) + 1) b false
  ch : Ch (fun k => k = g) w W
  ne : w.heap.size ≠ g
theorem beg_of {w : World} {g n b : Nat} {h : Hm} (q : SZ w g n b false) : Beg w ((w.alloc (.cells #[.int .i64 h.op, .string h.nm, .string h.vl, .slice h.va h.vn h.vc, .slice h.ka h.kn h.kc] 25)).setCell ⟨g, 0, none⟩ (.int .i64 ((n : Int) + 1))) g n b h := by
  have hne : w.heap.size ≠ g := by have := q.lt; omega
  exact ⟨(boxM_new w h).block (Below.heap_setCell _ _ _ _ hne), (q.block (Below.heap_alloc w _ g q.lt)).parts _, ((Ch.refl _ w).alloc _).trans (ch_set _ g 0 _), hne⟩
theorem Beg.below {w W W' : World} {g n b : Nat} {h : Hm} (q : Beg w W g n b h) (hb : Below W.heap.size W W') : Beg w W' g n b h :=
  ⟨q.box.block (hb.block _ q.box.lt), q.cnt.block (hb.block _ q.cnt.lt), q.ch.trans ((Ch.of_below hb).more (fun _ _ => False.elim)), q.ne⟩

set_option maxHeartbeats 4000000 in
/-- Too many parts, or too deep. -/
theorem look_no (h : Hm) (d n b g : Nat) (w : World) (hb : SZ w g n b false) (hd : d ≤ 9) (hn : n ≤ 64) (hbad : 64 < n + 1 ∨ 8 < d) :
    Calls Try.prog 30 #[.pointer (some ⟨g, 0, none⟩), .agg #[.int .i64 h.op, .string h.nm, .string h.vl, .slice h.va h.vn h.vc, .slice h.ka h.kn h.kc], .int .i64 d] w fun e w' => LookP none g w w' e := by
  obtain ⟨W, hW⟩ : ∃ W, Hid ((w.alloc (.cells #[.int .i64 h.op, .string h.nm, .string h.vl, .slice h.va h.vn h.vc, .slice h.ka h.kn h.kc] 25)).setCell ⟨g, 0, none⟩ (.int .i64 ((n : Int) + 1)) = W) := ⟨_, rfl⟩
  have B : Hid (Beg w W g n b h) := by rw [← hW.out]; exact beg_of hb
  have B1 := hide (hb.block (w' := w.alloc (.cells #[.int .i64 h.op, .string h.nm, .string h.vl, .slice h.va h.vn h.vc, .slice h.ka h.kn h.kc] 25)) (Below.heap_alloc w _ g hb.lt))
  obtain ⟨c0, _, _, cf⟩ := B1.out.cell
  have cf0 := cf 0
  obtain ⟨d0, d1, d2, df⟩ := B.out.cnt.cell
  have df2 := df 2
  have E : Hid (Ch (fun k => k = g) w (W.setCell ⟨g, 2, none⟩ (.bool true)) ∧ ∃ n b : Int, SZ (W.setCell ⟨g, 2, none⟩ (.bool true)) g n b true) := ⟨B.out.ch.trans (ch_set W g 2 _), _, _, B.out.cnt.mark true⟩
  clear hb B1 cf df
  by_cases a1 : (64 : Int) < (n : Int) + 1
  · clear hbad
    go_enter Try.func30, Try.ntmps30
    go_upto_region 2 with fail
    rw [hW.out]
    clear hW c0 cf0
    go_wp2
    (try simp only [Exit.inBlock, Exit.then]); refine bodyPost_ret (results_none rfl _ _ _) rfl ?_
    exact ⟨rfl, E.out⟩
  · have a2 : (8 : Int) < (d : Int) := by omega
    clear hbad
    go_enter Try.func30, Try.ntmps30
    go_upto_region 2 with fail
    rw [hW.out]
    clear hW c0 cf0
    go_wp2
    (try simp only [Exit.inBlock, Exit.then]); refine bodyPost_ret (results_none rfl _ _ _) rfl ?_
    exact ⟨rfl, E.out⟩

set_option maxHeartbeats 4000000 in
/-- All. -/
theorem look_0 (h : Hm) (d n b g : Nat) (w : World) (hw : HmW h) (hb : SZ w g n b false) (hd : d ≤ 8) (hn : n < 64) (h0 : h.op = 0) :
    Calls Try.prog 30 #[.pointer (some ⟨g, 0, none⟩), .agg #[.int .i64 h.op, .string h.nm, .string h.vl, .slice h.va h.vn h.vc, .slice h.ka h.kn h.kc], .int .i64 d] w fun e w' => LookP (if (decide (h.vl.size = 0) && (decide (h.nm.size = 0) && (decide (h.vn = 0) && decide (h.kn = 0)))) = true then some (n + 1, b) else none) g w w' e := by
  have C := hide (fun W => bare_fff h W hw)
  generalize hf : (decide (h.vl.size = 0) && (decide (h.nm.size = 0) && (decide (h.vn = 0) && decide (h.kn = 0)))) = f at C ⊢
  clear hf
  generalize hr : (if f = true then some (n + 1, b) else (none : Option (Nat × Nat))) = r
  have HR := hide hr
  clear hr
  obtain ⟨op, nm, vl, va, vn, vc, ka, kn, kc⟩ := h
  dsimp only at h0 C ⊢
  subst h0
  obtain ⟨W, hW⟩ : ∃ W, Hid ((w.alloc (.cells #[.int .i64 0, .string nm, .string vl, .slice va vn vc, .slice ka kn kc] 25)).setCell ⟨g, 0, none⟩ (.int .i64 ((n : Int) + 1)) = W) := ⟨_, rfl⟩
  have B : Hid (Beg w W g n b ⟨0, nm, vl, va, vn, vc, ka, kn, kc⟩) := by rw [← hW.out]; exact beg_of (h := ⟨0, nm, vl, va, vn, vc, ka, kn, kc⟩) hb
  have B1 := hide (hb.block (w' := w.alloc (.cells #[.int .i64 0, .string nm, .string vl, .slice va vn vc, .slice ka kn kc] 25)) (Below.heap_alloc w _ g hb.lt))
  obtain ⟨c0, _, _, cf⟩ := B1.out.cell
  have cf0 := cf 0
  obtain ⟨d0, d1, d2, _⟩ := B.out.cnt.cell
  obtain ⟨e0, e1, e2, e3, e4, _⟩ := B.out.box.all
  dsimp only at e0 e1 e2 e3 e4
  have a1 : ¬ (64 : Int) < (n : Int) + 1 := by omega
  have a2 : ¬ (8 : Int) < (d : Int) := by omega
  clear hb B1 cf hw
  go_enter Try.func30, Try.ntmps30
  go_upto_region 2 with fail
  rw [hW.out]
  clear hW c0 cf0
  go_wp2_with fail
  with_reducible refine (C.out _).mono ?_
  rintro e w2 ⟨rfl, b2⟩
  have B2 := hide (B.out.below b2)
  clear b2 d0 d1 d2 e0 e1 e2 e3 e4 B C
  obtain ⟨d0, d1, d2, df⟩ := B2.out.cnt.cell
  have df2 := df 2
  have E : Hid (Ch (fun k => k = g) w (w2.setCell ⟨g, 2, none⟩ (.bool (!f))) ∧ SZ (w2.setCell ⟨g, 2, none⟩ (.bool (!f))) g ((n : Int) + 1) b (!f)) := ⟨B2.out.ch.trans (ch_set w2 g 2 _), B2.out.cnt.mark _⟩
  clear df
  go_wp2
  go_end0
  refine ⟨rfl, E.out.1, ?_⟩
  rw [← HR.out]
  cases f with
  | true => exact E.out.2
  | false => exact ⟨_, _, E.out.2⟩
end Go.Proofs.Ythebcmkainplnaa
