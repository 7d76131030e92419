/-
  The document's own bytes of a sketch, and its own reader of one: contracts, for every world.
  Conditions: put: the sketch may be one; read: the reader's bytes lie in memory older than itself.
-/
import Derived.Test.YtadcaonkmncgoaaGreatPairBa
import Derived.Test.YtadcaonkmncgoaaGreatPairG
import Derived.Test.YtadcaonkmncgoaaGreatHistRz
import Derived.Test.YtadcaonkmncgoaaGreatGaugeBz
import Derived.Test.YtadcaonkmncgoaaGreatRiseC
namespace Go.Proofs.YtadcaonkmncgoaaGreat
open Go.RowKit
set_option maxRecDepth 20000

set_option maxHeartbeats 4000000 in
theorem refpput_any (h : Hd) (s : Sp) (w : World) (q : SeeP w h s) (ok : Ok s) :
    Calls Tryz.prog 9 #[(Value.agg #[.slice (Hd.a h) (Hd.n h) (Hd.c h), .slice (Hd.k h) (Hd.m h) (Hd.d h), .int .u64 (Gz.n s.g), .int .u64 (Gz.nans s.g), .int .u64 (Gz.lo s.g), .int .u64 (Gz.hi s.g)])] w fun e w' => ∃ a' c', e = .returned (.slice a' (putP s).length c') ∧ Mine w' w.heap.size a' (putP s).length c' (putP s) ∧ Below w.heap.size w w' := by
  obtain ⟨i0, hi, hz0, hz1, hz2⟩ := info_parts Tryz.info5
  have hP := putP_len ok
  have hs1 := good_size ok.h
  have hk1 := (chk_up ok.k).2
  have hR := putRk_len s.keys
  have hG := putG_len s.g
  have hH := putH_len ok.h
  have BR := hide (putR_byte (l := s.keys) (by omega))
  have BG := hide (putG_byte ok.g)
  obtain ⟨w0, hw0⟩ : ∃ w0, Hid (w.alloc (.cells #[.slice h.a h.n h.c, .slice h.k h.m h.d, .int .u64 s.g.n, .int .u64 s.g.nans, .int .u64 s.g.lo, .int .u64 s.g.hi] 28) = w0) := ⟨_, rfl⟩
  have B : Hid (SBox w0 w.heap.size h s.g) := by rw [← hw0.out]; exact SBox.new w _ _ _
  have L : Hid (Below w.heap.size w w0) := by rw [← hw0.out]; exact (Below.refl _ _).alloc (Nat.le_refl _) _
  have Q := hide (q.below L.out (Nat.le_refl _))
  have C1 := hide (fun W (x : SeeP W h s) => refputH_any h.a h.n h.c s.hist W x.rh ok.h.check)
  have C2 := hide (fun W (x : SeeP W h s) => refrise_any h.k h.m h.d s.keys W (by have := hk1; rw [x.rk.1] at this; omega) x.rk)
  have C3 := hide (fun W => refgput_any s.g W ok.g)
  have EP : Hid ((putH s.hist ++ putR s.keys) ++ putG s.g = putP s) := by show _ = _; unfold putP; rw [List.append_assoc]
  have EL : Hid ((putH s.hist).length + (putR s.keys).length + (putG s.g).length = (putP s).length) := by show _ = _; unfold putP; simp only [List.length_append]; omega
  obtain ⟨LH, hLH⟩ : ∃ x, Hid ((putH s.hist).length = x) := ⟨_, rfl⟩
  obtain ⟨LK, hLK⟩ : ∃ x, Hid ((putR s.keys).length = x) := ⟨_, rfl⟩
  obtain ⟨LG, hLG⟩ : ∃ x, Hid ((putG s.g).length = x) := ⟨_, rfl⟩
  rw [hLH.out] at C1 EL hH
  rw [hLK.out] at C2 EL hR
  rw [hLG.out] at C3 EL hG
  rw [← EL.out, ← EP.out]
  generalize putH s.hist = ZH at *
  generalize putR s.keys = ZK at *
  generalize putG s.g = ZG at *
  obtain ⟨k, hk⟩ : ∃ k, Hid (w.heap.size = k) := ⟨_, rfl⟩
  rw [hk.out] at B
  have BL : Hid (k < w0.heap.size) := B.out.lt
  have hb1 : LH ≤ 100000 := by omega
  have hb2 : LK ≤ 20000 := by omega
  have hb3 : LG ≤ 100 := by omega
  clear q ok EP EL hP hR hG hH hs1 hk1
  go_enter Tryz.func9, Tryz.ntmps9
  go_upto_region 1 with fail
  rw [hw0.out, hk.out]
  clear hw0
  obtain ⟨_, ⟨c0, c1, c2, c3, c4, c5⟩, _⟩ := B.out
  go_wp2_with fail
  with_reducible refine (C1.out _ Q.out).mono ?_
  rintro e v1 ⟨a1, k1, rfl, o1, b1⟩
  have O1 := hide o1
  have L1 : Hid (Below w0.heap.size w0 v1) := b1
  have B1 := hide (B.out.below b1 B.out.lt)
  have Q1 := hide (Q.out.below b1 (Nat.le_refl _))
  clear o1 b1 c0 c1 c2 c3 c4 c5 B Q C1
  obtain ⟨_, ⟨c0, c1, c2, c3, c4, c5⟩, _⟩ := B1.out
  go_wp2_with fail
  with_reducible refine (C2.out _ Q1.out).mono ?_
  rintro e v2 ⟨a2, k2, rfl, o2, b2⟩
  have O2 := hide (O1.out.below b2 (Nat.le_refl _))
  have R2 := hide (o2.row (by omega) (fits_wf BR.out))
  have N2 := hide (Own.capped o2).2
  have L2 : Hid (Below w0.heap.size w0 v2) := bel_to L1.out (Nat.le_refl _) b2
  have B2 := hide (B1.out.below b2 B1.out.lt)
  clear o2 b2 c0 c1 c2 c3 c4 c5 B1 Q1 C2 O1 L1
  go_wp2_with (at_builtin; refine wpList_append_row _ rfl _ _ 29 rfl w0.heap.size 5 i0 Tryz.underlying29 hi hz0 hz1 hz2 a1 LH k1 ZH rfl O2.out a2 LK k2 ZK rfl R2.out N2.out (by omega) L2.out.size ?_)
  intro a3 k3 v3 o3 b3
  have O3 := hide o3
  have L3 : Hid (Below w0.heap.size w0 v3) := L2.out.trans b3
  have B3 := hide (B2.out.below b3 BL.out)
  clear o3 b3 R2 N2 L2 B2 O2
  obtain ⟨_, ⟨c0, c1, c2, c3, c4, c5⟩, _⟩ := B3.out
  go_wp2_with fail
  with_reducible refine (C3.out _).mono ?_
  rintro e v4 ⟨a4, k4, rfl, o4, b4⟩
  have O4 := hide (O3.out.below b4 (Nat.le_refl _))
  have R4 := hide (o4.row (by omega) (fits_wf BG.out))
  have N4 := hide (Own.capped o4).2
  have L4 : Hid (Below w0.heap.size w0 v4) := bel_to L3.out (Nat.le_refl _) b4
  clear o4 b4 c0 c1 c2 c3 c4 c5 B3 C3 O3 L3
  go_wp2_with (at_builtin; refine wpList_append_row _ rfl _ _ 29 rfl w0.heap.size 5 i0 Tryz.underlying29 hi hz0 hz1 hz2 a3 (LH + LK) k3 (ZH ++ ZK) rfl O4.out a4 LG k4 ZG rfl R4.out N4.out (by omega) L4.out.size ?_)
  intro a5 k5 v5 o5 b5
  have O5 := hide (o5.mono L.out.size)
  have L5 : Hid (Below w.heap.size w v5) := bel_to L.out (Nat.le_refl _) (L4.out.trans b5)
  clear o5 b5
  go_wp2
  go_ret
  exact ⟨a5, k5, rfl, by rw [List.append_assoc]; exact O5.out, L5.out⟩

theorem rowb_set {w : World} {a : Option Addr} {n : Nat} {l : Bks} (h : RowB w a n l) {b : Nat} (hb : ∀ x, a = some x → x.block ≠ b) (o : Nat) (v : Value) : RowB (w.setCell ⟨b, o, none⟩ v) a n l := h.ch (ch_set w b o v) (fun _ x e => hb x e)
theorem rowu_set {w : World} {a : Option Addr} {n : Nat} {l : List Int} (h : Row .u64 w a n l) {b : Nat} (hb : ∀ x, a = some x → x.block ≠ b) (o : Nat) (v : Value) : Row .u64 (w.setCell ⟨b, o, none⟩ v) a n l := h.chU (ch_set w b o v) (fun x e => hb x e)
theorem sbox_setg {w : World} {b : Nat} {h : Hd} {g : Gz} (q : SBox w b h g) (z : Gz) : SBox ((((w.setCell ⟨b, 2, none⟩ (.int .u64 z.n)).setCell ⟨b, 3, none⟩ (.int .u64 z.nans)).setCell ⟨b, 4, none⟩ (.int .u64 z.lo)).setCell ⟨b, 5, none⟩ (.int .u64 z.hi)) b h z := by
  obtain ⟨l, ⟨c0, c1, c2, c3, c4, c5⟩, f⟩ := q
  exact ⟨by simp [go_sem, l], ⟨by simp [go_sem, c0], by simp [go_sem, c1], by simp [go_sem, c2], by simp [go_sem, c3], by simp [go_sem, c4], by simp [go_sem, c5]⟩, fun i => by simp [go_sem, f]⟩

/-- The reader, the answer's box, the sketch that is being read; all else is as it was. -/
structure Rh (w W : World) (g x y : Nat) (a : Option Addr) (n cap : Nat) (p : Int) (bad : Bool) (h : Hd) (s : Sp) : Prop where
  rb : RB W g a n cap p bad
  low : Ch (fun k => k = g) w W
  res : SBox W x hd0 g0
  box : SBox W y h s.g
  see : SeeP W h s
  ne : x ≠ y ∧ w.heap.size ≤ x ∧ w.heap.size ≤ y ∧ g < w.heap.size
  fa : ∀ b, h.a = some b → b.block ≠ x ∧ b.block ≠ y ∧ b.block ≠ g
  fk : ∀ b, h.k = some b → b.block ≠ x ∧ b.block ≠ y ∧ b.block ≠ g
section
variable {w W W' : World} {g x y : Nat} {a : Option Addr} {n cap : Nat} {p p' : Int} {bad bad' : Bool} {h : Hd} {s : Sp}
theorem Rh.ch (q : Rh w W g x y a n cap p bad h s) (c : Ch (fun k => k = g) W W') (rb : RB W' g a n cap p' bad') : Rh w W' g x y a n cap p' bad' h s := by
  have ne := q.ne
  exact ⟨rb, q.low.trans c, q.res.ch c (by omega), q.box.ch c (by omega),
    ⟨q.see.rh.ch c (fun _ b e => (q.fa b e).2.2), q.see.rk.chU c (fun b e => (q.fk b e).2.2), q.see.g, q.see.hc, q.see.kc, q.see.nh, q.see.nk, q.see.sh, q.see.sk⟩, q.ne, q.fa, q.fk⟩
theorem Rh.lt (q : Rh w W g x y a n cap p bad h s) : x < W.heap.size ∧ y < W.heap.size ∧ g < W.heap.size := ⟨q.res.lt, q.box.lt, q.rb.lt'⟩
theorem Rh.rby (q : Rh w W g x y a n cap p bad h s) (i : Nat) (v : Value) : RB (W.setCell ⟨y, i, none⟩ v) g a n cap p bad := q.rb.block (Below.heap_setCell W _ v g (by have := q.ne; show g ≠ y; omega))
theorem Rh.setH (q : Rh w W g x y a n cap p bad h s) {a1 : Option Addr} {n1 c1 base : Nat} {l : Bks} (o : OwnB W base a1 n1 c1 l) (hb : x < base ∧ y < base ∧ g < base) (hg : Good l) : Rh w (W.setCell ⟨y, 0, none⟩ (.slice a1 n1 c1)) g x y a n cap p bad ⟨a1, n1, c1, h.k, h.m, h.d⟩ ⟨l, s.keys, s.g⟩ := by
  have ne := q.ne
  have hn : n1 ≤ 7424 := by rw [← o.len]; exact good_size hg
  have hr := o.row (by omega) (good_fit hg)
  have fa : ∀ b, a1 = some b → b.block ≠ x ∧ b.block ≠ y ∧ b.block ≠ g := fun b e => by
    have := o.block b.block (by rw [e]; rfl)
    exact ⟨by omega, by omega, by omega⟩
  exact ⟨q.rby 0 _, ch_new q.low ne.2.2.1 0 _, q.res.far (p := ⟨y, 0, none⟩) (Ne.symm ne.1) _, q.box.seth a1 n1 c1,
    ⟨rowb_set hr (fun b e => (fa b e).2.1) 0 _, rowu_set q.see.rk (fun b e => (q.fk b e).2.1) 0 _, q.see.g, o.capped.1, q.see.kc, fun e => (o.capped.2 e).2, q.see.nk, by show n1 * 16 ≤ _; omega, q.see.sk⟩, q.ne, fa, q.fk⟩
theorem Rh.setK (q : Rh w W g x y a n cap p bad h s) {a1 : Option Addr} {n1 c1 base : Nat} {l : List Int} (o : MineL W base a1 n1 c1 l) (hb : x < base ∧ y < base ∧ g < base) (hl : n1 ≤ 1024) (hw : ∀ z ∈ l, W64 z) : Rh w (W.setCell ⟨y, 1, none⟩ (.slice a1 n1 c1)) g x y a n cap p bad ⟨h.a, h.n, h.c, a1, n1, c1⟩ ⟨s.hist, l, s.g⟩ := by
  have ne := q.ne
  have hr := Own.row o (by omega) (words_wf hw)
  have fk : ∀ b, a1 = some b → b.block ≠ x ∧ b.block ≠ y ∧ b.block ≠ g := fun b e => by
    have := own_block o b.block (by rw [e]; rfl)
    exact ⟨by omega, by omega, by omega⟩
  exact ⟨q.rby 1 _, ch_new q.low ne.2.2.1 1 _, q.res.far (p := ⟨y, 1, none⟩) (Ne.symm ne.1) _, q.box.setk a1 n1 c1,
    ⟨rowb_set q.see.rh (fun b e => (q.fa b e).2.1) 1 _, rowu_set hr (fun b e => (fk b e).2.1) 1 _, q.see.g, q.see.hc, (Own.capped o).1, q.see.nh, (Own.capped o).2, q.see.sh, by show n1 * 8 ≤ _; omega⟩, q.ne, q.fa, fk⟩
theorem Rh.setG (q : Rh w W g x y a n cap p bad h s) {z : Gz} (hz : GW z) : Rh w ((((W.setCell ⟨y, 2, none⟩ (.int .u64 z.n)).setCell ⟨y, 3, none⟩ (.int .u64 z.nans)).setCell ⟨y, 4, none⟩ (.int .u64 z.lo)).setCell ⟨y, 5, none⟩ (.int .u64 z.hi)) g x y a n cap p bad h ⟨s.hist, s.keys, z⟩ := by
  have ne := q.ne
  have gy : g ≠ y := by omega
  have fa := fun b e => (q.fa b e).2.1
  have fk := fun b e => (q.fk b e).2.1
  refine ⟨q.rb.block ?_, ch_new (ch_new (ch_new (ch_new q.low ne.2.2.1 2 _) ne.2.2.1 3 _) ne.2.2.1 4 _) ne.2.2.1 5 _,
    (((q.res.far (p := ⟨y, 2, none⟩) (Ne.symm ne.1) _).far (p := ⟨y, 3, none⟩) (Ne.symm ne.1) _).far (p := ⟨y, 4, none⟩) (Ne.symm ne.1) _).far (p := ⟨y, 5, none⟩) (Ne.symm ne.1) _, sbox_setg q.box z,
    ⟨rowb_set (rowb_set (rowb_set (rowb_set q.see.rh fa 2 _) fa 3 _) fa 4 _) fa 5 _, rowu_set (rowu_set (rowu_set (rowu_set q.see.rk fk 2 _) fk 3 _) fk 4 _) fk 5 _, hz, q.see.hc, q.see.kc, q.see.nh, q.see.nk, q.see.sh, q.see.sk⟩, q.ne, q.fa, q.fk⟩
  rw [Below.heap_setCell _ _ _ g gy, Below.heap_setCell _ _ _ g gy, Below.heap_setCell _ _ _ g gy, Below.heap_setCell _ _ _ g gy]
/-- The answer is written: what was read, or none. -/
theorem Rh.done (q : Rh w W g x y a n cap p bad h s) (h' : Hd) (z : Gz) : SBox (put6 W x h' z) x h' z ∧ Ch (fun k => k = g) w (put6 W x h' z) ∧ RB (put6 W x h' z) g a n cap p bad ∧ SeeP (put6 W x h' z) h s := by
  have ne := q.ne
  have gx : g ≠ x := by omega
  have fa := fun b e => (q.fa b e).1
  have fk := fun b e => (q.fk b e).1
  refine ⟨q.res.put h' z, ?_, q.rb.block ?_, ?_⟩
  · unfold put6
    exact ch_new (ch_new (ch_new (ch_new (ch_new (ch_new q.low ne.2.1 0 _) ne.2.1 1 _) ne.2.1 2 _) ne.2.1 3 _) ne.2.1 4 _) ne.2.1 5 _
  · unfold put6
    rw [Below.heap_setCell _ _ _ g gx, Below.heap_setCell _ _ _ g gx, Below.heap_setCell _ _ _ g gx, Below.heap_setCell _ _ _ g gx, Below.heap_setCell _ _ _ g gx, Below.heap_setCell _ _ _ g gx]
  · unfold put6
    exact ⟨rowb_set (rowb_set (rowb_set (rowb_set (rowb_set (rowb_set q.see.rh fa 0 _) fa 1 _) fa 2 _) fa 3 _) fa 4 _) fa 5 _, rowu_set (rowu_set (rowu_set (rowu_set (rowu_set (rowu_set q.see.rk fk 0 _) fk 1 _) fk 2 _) fk 3 _) fk 4 _) fk 5 _, q.see.g, q.see.hc, q.see.kc, q.see.nh, q.see.nk, q.see.sh, q.see.sk⟩
end
theorem rh_new (w : World) {g : Nat} {a : Option Addr} {n cap : Nat} {p : Int} (hrb : RB w g a n cap p false) : Rh w ((w.alloc (.cells #[.slice none 0 0, .slice none 0 0, .int .u64 0, .int .u64 0, .int .u64 0, .int .u64 0] 28)).alloc (.cells #[.slice none 0 0, .slice none 0 0, .int .u64 0, .int .u64 0, .int .u64 0, .int .u64 0] 28)) g w.heap.size (w.heap.size + 1) a n cap p false hd0 zeroP := by
  have b := bel2 w (.cells #[.slice none 0 0, .slice none 0 0, .int .u64 0, .int .u64 0, .int .u64 0, .int .u64 0] 28) (.cells #[.slice none 0 0, .slice none 0 0, .int .u64 0, .int .u64 0, .int .u64 0, .int .u64 0] 28)
  have hl := hrb.lt'
  refine ⟨hrb.block (b.block _ hl), (Ch.of_below b).more (fun _ _ e => e.elim), (SBox.new w _ hd0 g0).alloc _, ?_, see_zero _, ⟨by omega, Nat.le_refl _, by omega, hl⟩, (fun b e => by simp [hd0] at e), (fun b e => by simp [hd0] at e)⟩
  have := SBox.new (w.alloc (.cells #[.slice none 0 0, .slice none 0 0, .int .u64 0, .int .u64 0, .int .u64 0, .int .u64 0] 28)) 28 hd0 g0
  rwa [size_al] at this

/-- What the document's own reader of a sketch leaves. -/
def GotR (g : Nat) (a : Option Addr) (n cap : Nat) (r : Option (Sp × Int)) (w w' : World) (e : Ending) : Prop :=
  Ch (fun k => k = g) w w' ∧ match r with
  | none => e = .returned (.agg #[.slice none 0 0, .slice none 0 0, .int .u64 0, .int .u64 0, .int .u64 0, .int .u64 0]) ∧ ∃ p', RB w' g a n cap p' true
  | some q => (∃ h, e = .returned (Value.agg #[.slice (Hd.a h) (Hd.n h) (Hd.c h), .slice (Hd.k h) (Hd.m h) (Hd.d h), .int .u64 (Gz.n q.1.g), .int .u64 (Gz.nans q.1.g), .int .u64 (Gz.lo q.1.g), .int .u64 (Gz.hi q.1.g)]) ∧ SeeP w' h q.1) ∧ RB w' g a n cap q.2 false

/-- The rest of the reader where it is spoilt. -/
theorem gotR_none {g : Nat} {a : Option Addr} {n cap : Nat} {w w' : World} {e : Ending} (he : e = .returned (.agg #[.slice none 0 0, .slice none 0 0, .int .u64 0, .int .u64 0, .int .u64 0, .int .u64 0])) (c : Ch (fun k => k = g) w w') {p' : Int} (rb : RB w' g a n cap p' true) : GotR g a n cap none w w' e := ⟨c, he, p', rb⟩

set_option maxHeartbeats 8000000 in
theorem refpget_any (p : Int) (g : Nat) (a : Option Addr) (n cap : Nat) (zs : List Int) (w0 w : World) (hp : (Lit.int .i64 p).wf = true) (hc : n ≤ cap) (hr : Row .u8 w0 a n zs) (hg : w0.heap.size ≤ g) (hb : Below w0.heap.size w0 w) (hrb : RB w g a n cap p false) :
    Calls Tryz.prog 11 #[.pointer (some ⟨g, 0, none⟩)] w fun e w' => GotR g a n cap (getP zs p) w w' e := by
  have HZ : Hid (Bytes8 zs) := hr.bytes
  have hl := hr.1
  have hn := hr.2.1
  have BL : Hid (∀ W, Ch (fun k => k = g) w W → Below w0.heap.size w0 W) := fun W h => hb.trans (ch_lo h hg hb.size)
  have R0 := hide (rh_new w hrb)
  have DE := hide (dGet_eq HZ.out (p := p) (fun l e h => parH_place HZ.out h))
  have C1 := hide (fun W h s (q : Rh w W g w.heap.size (w.heap.size + 1) a n cap p false h s) => refgetH_any p g a n cap zs w0 W hp hc hr hg (BL.out _ q.low) q.rb)
  rw [← DE.out] at C1
  have C2 := hide (fun W q h s (hq : (Lit.int .i64 q).wf = true) (r : Rh w W g w.heap.size (w.heap.size + 1) a n cap q false h s) => rrise_ch q 1024 g a n cap zs w0 W hq (by decide) hc (Or.inr (by decide)) hr hg (BL.out _ r.low) r.rb)
  have C3 := hide (fun W q h s (hq : (Lit.int .i64 q).wf = true) (r : Rh w W g w.heap.size (w.heap.size + 1) a n cap q false h s) => refgget_any q g a n cap zs w0 W hq hr hg (BL.out _ r.low) r.rb)
  have D2 := hide (fun W q h s (r : Rh w W g w.heap.size (w.heap.size + 1) a n cap q true h s) => risebad_any g a n cap q 1024 W r.rb)
  have D3 := hide (fun W q h s (r : Rh w W g w.heap.size (w.heap.size + 1) a n cap q true h s) => ggetbad_any g a n cap q W r.rb)
  obtain ⟨x, hx⟩ : ∃ x, Hid (w.heap.size = x) := ⟨_, rfl⟩
  obtain ⟨y, hy⟩ : ∃ y, Hid (x + 1 = y) := ⟨_, rfl⟩
  rw [hx.out] at R0 C1 C2 C3 D2 D3
  rw [hy.out] at R0 C1 C2 C3 D2 D3
  clear hrb hb hp
  cases h1 : dGet zs p with
  | none =>
    have EP : getP zs p = none := by unfold getP; rw [h1]
    rw [EP]
    rw [h1] at C1
    simp only [GetP] at C1
    clear EP h1 C2 C3 DE
    go_enter Tryz.func11, Tryz.ntmps11
    go_upto_region 2 with fail
    generalize (w.alloc (.cells #[.slice none 0 0, .slice none 0 0, .int .u64 0, .int .u64 0, .int .u64 0, .int .u64 0] 28)).alloc (.cells #[.slice none 0 0, .slice none 0 0, .int .u64 0, .int .u64 0, .int .u64 0, .int .u64 0] 28) = u0 at R0 ⊢
    rw [hx.out, hy.out]
    clear hx hy
    go_wp2_with fail
    with_reducible refine (C1.out _ _ _ R0.out).mono ?_
    rintro e u1 ⟨k1, rfl, p1, hrb⟩
    have R1 := hide (R0.out.ch k1 hrb)
    have X1 := hide (R1.out.setH (ownB_nil _ u1.heap.size) R1.out.lt Good.nil)
    clear k1 hrb R0
    have z0 := R1.out.box.cells.1
    have z1 := R1.out.box.free 0
    go_upto_region 3 with fail
    generalize u1.setCell ⟨y, 0, none⟩ (.slice none 0 0) = u2 at X1 ⊢
    clear z0 z1 R1
    try dsimp only [hd0, zeroP] at X1
    go_wp2_with fail
    with_reducible refine (D2.out _ _ _ _ X1.out).mono ?_
    rintro e u3 ⟨rfl, k3, hrb⟩
    have R3 := hide (X1.out.ch k3 hrb)
    have X3 := hide (R3.out.setK (own_nil _ _ _ u3.heap.size) R3.out.lt (by omega) (fun z hz => by cases hz))
    clear k3 hrb X1
    have z0 := R3.out.box.cells.2.1
    have z1 := R3.out.box.free 1
    try dsimp only at z0
    go_upto_region 4 with fail
    generalize u3.setCell ⟨y, 1, none⟩ (.slice none 0 0) = u4 at X3 ⊢
    clear z0 z1 R3
    try dsimp only at X3
    go_wp2_with fail
    with_reducible refine (D3.out _ _ _ _ X3.out).mono ?_
    rintro e u5 ⟨rfl, k5, hrb⟩
    have R5 := hide (X3.out.ch k5 hrb)
    have X5 := hide (R5.out.setG g0W)
    dsimp only [g0] at X5
    clear k5 hrb X3
    obtain ⟨_, ⟨_, _, z2, z3, z4, z5⟩, zf⟩ := R5.out.box
    have f2 := zf 2
    have f3 := zf 3
    have f4 := zf 4
    have f5 := zf 5
    try dsimp only [g0] at z2 z3 z4 z5
    clear zf
    go_upto_region 5 with fail
    generalize (((u5.setCell ⟨y, 2, none⟩ (.int .u64 0)).setCell ⟨y, 3, none⟩ (.int .u64 0)).setCell ⟨y, 4, none⟩ (.int .u64 0)).setCell ⟨y, 5, none⟩ (.int .u64 0) = u6 at X5 ⊢
    clear z2 z3 z4 z5 f2 f3 f4 f5 R5
    have dB := X5.out.rb.cell.2.2.1
    have F := hide (X5.out.done hd0 g0)
    obtain ⟨_, ⟨d0, d1, d2, d3, d4, d5⟩, df⟩ := X5.out.res
    have f0 := df 0
    have f1 := df 1
    have f2 := df 2
    have f3 := df 3
    have f4 := df 4
    have f5 := df 5
    clear df
    dsimp only [hd0, g0] at d0 d1 d2 d3 d4 d5
    go_wp2
    obtain ⟨⟨_, ⟨e0, e1, e2, e3, e4, e5⟩, _⟩, q1, q2, q3⟩ := id F.out
    unfold put6 at e0 e1 e2 e3 e4 e5
    dsimp only [hd0, g0] at e0 e1 e2 e3 e4 e5
    exact bodyPost_ret (v := .agg #[.slice none 0 0, .slice none 0 0, .int .u64 0, .int .u64 0, .int .u64 0, .int .u64 0]) (by simp [results, Tryz.results11, go_sem, e0, e1, e2, e3, e4, e5]) rfl (gotR_none rfl q1 q2)
  | some q1 =>
    obtain ⟨l, nx⟩ := q1
    obtain ⟨hgl, n0, n1⟩ := dGet_in HZ.out h1
    have GH := hide hgl
    rw [h1] at C1
    simp only [GetP] at C1
    have WX := hide (i64_wf (x := nx) (by omega) (by omega))
    obtain ⟨LH, hLH⟩ : ∃ x, Hid (l.length = x) := ⟨_, rfl⟩
    rw [hLH.out] at C1
    clear n0 n1 hgl DE
    cases h2 : riseS zs nx 1024 with
    | none =>
      have EP : getP zs p = none := by unfold getP; rw [h1]; simp only; rw [h2]
      rw [EP]
      have C2' := hide (fun W h s r => C2.out W nx h s WX.out r)
      rw [h2] at C2'
      simp only [ReadC] at C2'
      clear EP h1 h2 C2 C3
      go_enter Tryz.func11, Tryz.ntmps11
      go_upto_region 2 with fail
      generalize (w.alloc (.cells #[.slice none 0 0, .slice none 0 0, .int .u64 0, .int .u64 0, .int .u64 0, .int .u64 0] 28)).alloc (.cells #[.slice none 0 0, .slice none 0 0, .int .u64 0, .int .u64 0, .int .u64 0, .int .u64 0] 28) = u0 at R0 ⊢
      rw [hx.out, hy.out]
      clear hx hy
      go_wp2_with fail
      with_reducible refine (C1.out _ _ _ R0.out).mono ?_
      rintro e u1 ⟨k1, ⟨a1, c1, rfl, o1⟩, hrb⟩
      have R1 := hide (R0.out.ch k1 hrb)
      have X1 := hide (R1.out.setH o1 R0.out.lt GH.out)
      clear k1 hrb o1 R0
      have z0 := R1.out.box.cells.1
      have z1 := R1.out.box.free 0
      go_upto_region 3 with fail
      generalize u1.setCell ⟨y, 0, none⟩ (.slice a1 LH c1) = u2 at X1 ⊢
      clear z0 z1 R1
      try dsimp only [hd0, zeroP] at X1
      go_wp2_with fail
      with_reducible refine (C2'.out _ _ _ X1.out).mono ?_
      rintro e u3 ⟨k3, rfl, p3, hrb⟩
      have R3 := hide (X1.out.ch k3 hrb)
      have X3 := hide (R3.out.setK (own_nil _ _ _ u3.heap.size) R3.out.lt (by omega) (fun z hz => by cases hz))
      clear k3 hrb X1
      have z0 := R3.out.box.cells.2.1
      have z1 := R3.out.box.free 1
      try dsimp only at z0
      go_upto_region 4 with fail
      generalize u3.setCell ⟨y, 1, none⟩ (.slice none 0 0) = u4 at X3 ⊢
      clear z0 z1 R3
      try dsimp only at X3
      go_wp2_with fail
      with_reducible refine (D3.out _ _ _ _ X3.out).mono ?_
      rintro e u5 ⟨rfl, k5, hrb⟩
      have R5 := hide (X3.out.ch k5 hrb)
      have X5 := hide (R5.out.setG g0W)
      dsimp only [g0] at X5
      clear k5 hrb X3
      obtain ⟨_, ⟨_, _, z2, z3, z4, z5⟩, zf⟩ := R5.out.box
      have f2 := zf 2
      have f3 := zf 3
      have f4 := zf 4
      have f5 := zf 5
      try dsimp only [g0] at z2 z3 z4 z5
      clear zf
      go_upto_region 5 with fail
      generalize (((u5.setCell ⟨y, 2, none⟩ (.int .u64 0)).setCell ⟨y, 3, none⟩ (.int .u64 0)).setCell ⟨y, 4, none⟩ (.int .u64 0)).setCell ⟨y, 5, none⟩ (.int .u64 0) = u6 at X5 ⊢
      clear z2 z3 z4 z5 f2 f3 f4 f5 R5
      have dB := X5.out.rb.cell.2.2.1
      have F := hide (X5.out.done hd0 g0)
      obtain ⟨_, ⟨d0, d1, d2, d3, d4, d5⟩, df⟩ := X5.out.res
      have f0 := df 0
      have f1 := df 1
      have f2 := df 2
      have f3 := df 3
      have f4 := df 4
      have f5 := df 5
      clear df
      dsimp only [hd0, g0] at d0 d1 d2 d3 d4 d5
      go_wp2
      obtain ⟨⟨_, ⟨e0, e1, e2, e3, e4, e5⟩, _⟩, q1, q2, q3⟩ := id F.out
      unfold put6 at e0 e1 e2 e3 e4 e5
      dsimp only [hd0, g0] at e0 e1 e2 e3 e4 e5
      exact bodyPost_ret (v := .agg #[.slice none 0 0, .slice none 0 0, .int .u64 0, .int .u64 0, .int .u64 0, .int .u64 0]) (by simp [results, Tryz.results11, go_sem, e0, e1, e2, e3, e4, e5]) rfl (gotR_none rfl q1 q2)
    | some q2 =>
      obtain ⟨ks, ny⟩ := q2
      obtain ⟨kw, kl, n0, n1⟩ := rise_in HZ.out h2
      have KW := hide kw
      have C2' := hide (fun W h s r => C2.out W nx h s WX.out r)
      rw [h2] at C2'
      simp only [ReadC] at C2'
      have WY := hide (i64_wf (x := ny) (by omega) (by omega))
      obtain ⟨LK, hLK⟩ : ∃ x, Hid (ks.length = x) := ⟨_, rfl⟩
      rw [hLK.out] at C2' kl
      clear n0 n1 kw C2
      cases h3 : getG zs ny with
      | none =>
        have EP : getP zs p = none := by unfold getP; rw [h1]; simp only; rw [h2]; simp only; rw [h3]
        rw [EP]
        have C3' := hide (fun W h s r => C3.out W ny h s WY.out r)
        rw [h3] at C3'
        simp only [GotP] at C3'
        clear EP h1 h2 h3 C3
        go_enter Tryz.func11, Tryz.ntmps11
        go_upto_region 2 with fail
        generalize (w.alloc (.cells #[.slice none 0 0, .slice none 0 0, .int .u64 0, .int .u64 0, .int .u64 0, .int .u64 0] 28)).alloc (.cells #[.slice none 0 0, .slice none 0 0, .int .u64 0, .int .u64 0, .int .u64 0, .int .u64 0] 28) = u0 at R0 ⊢
        rw [hx.out, hy.out]
        clear hx hy
        go_wp2_with fail
        with_reducible refine (C1.out _ _ _ R0.out).mono ?_
        rintro e u1 ⟨k1, ⟨a1, c1, rfl, o1⟩, hrb⟩
        have R1 := hide (R0.out.ch k1 hrb)
        have X1 := hide (R1.out.setH o1 R0.out.lt GH.out)
        clear k1 hrb o1 R0
        have z0 := R1.out.box.cells.1
        have z1 := R1.out.box.free 0
        go_upto_region 3 with fail
        generalize u1.setCell ⟨y, 0, none⟩ (.slice a1 LH c1) = u2 at X1 ⊢
        clear z0 z1 R1
        try dsimp only [hd0, zeroP] at X1
        go_wp2_with fail
        with_reducible refine (C2'.out _ _ _ X1.out).mono ?_
        rintro e u3 ⟨k3, a3, c3, rfl, o3, hrb⟩
        have R3 := hide (X1.out.ch k3 hrb)
        have X3 := hide (R3.out.setK o3 X1.out.lt kl KW.out)
        clear k3 hrb o3 X1
        have z0 := R3.out.box.cells.2.1
        have z1 := R3.out.box.free 1
        try dsimp only at z0
        go_upto_region 4 with fail
        generalize u3.setCell ⟨y, 1, none⟩ (.slice a3 LK c3) = u4 at X3 ⊢
        clear z0 z1 R3
        try dsimp only at X3
        go_wp2_with fail
        with_reducible refine (C3'.out _ _ _ X3.out).mono ?_
        rintro e u5 ⟨k5, rfl, p5, hrb⟩
        have R5 := hide (X3.out.ch k5 hrb)
        have X5 := hide (R5.out.setG g0W)
        dsimp only [g0] at X5
        clear k5 hrb X3
        obtain ⟨_, ⟨_, _, z2, z3, z4, z5⟩, zf⟩ := R5.out.box
        have f2 := zf 2
        have f3 := zf 3
        have f4 := zf 4
        have f5 := zf 5
        try dsimp only [g0] at z2 z3 z4 z5
        clear zf
        go_upto_region 5 with fail
        generalize (((u5.setCell ⟨y, 2, none⟩ (.int .u64 0)).setCell ⟨y, 3, none⟩ (.int .u64 0)).setCell ⟨y, 4, none⟩ (.int .u64 0)).setCell ⟨y, 5, none⟩ (.int .u64 0) = u6 at X5 ⊢
        clear z2 z3 z4 z5 f2 f3 f4 f5 R5
        have dB := X5.out.rb.cell.2.2.1
        have F := hide (X5.out.done hd0 g0)
        obtain ⟨_, ⟨d0, d1, d2, d3, d4, d5⟩, df⟩ := X5.out.res
        have f0 := df 0
        have f1 := df 1
        have f2 := df 2
        have f3 := df 3
        have f4 := df 4
        have f5 := df 5
        clear df
        dsimp only [hd0, g0] at d0 d1 d2 d3 d4 d5
        go_wp2
        obtain ⟨⟨_, ⟨e0, e1, e2, e3, e4, e5⟩, _⟩, q1, q2, q3⟩ := id F.out
        unfold put6 at e0 e1 e2 e3 e4 e5
        dsimp only [hd0, g0] at e0 e1 e2 e3 e4 e5
        exact bodyPost_ret (v := .agg #[.slice none 0 0, .slice none 0 0, .int .u64 0, .int .u64 0, .int .u64 0, .int .u64 0]) (by simp [results, Tryz.results11, go_sem, e0, e1, e2, e3, e4, e5]) rfl (gotR_none rfl q1 q2)
      | some q3 =>
        obtain ⟨z, nz⟩ := q3
        have GG := hide (getG_some HZ.out h3)
        have EP : getP zs p = some (⟨l, ks, z⟩, nz) := by unfold getP; rw [h1]; simp only; rw [h2]; simp only; rw [h3]
        rw [EP]
        have C3' := hide (fun W h s r => C3.out W ny h s WY.out r)
        rw [h3] at C3'
        simp only [GotP] at C3'
        clear EP h1 h2 h3 C3
        go_enter Tryz.func11, Tryz.ntmps11
        go_upto_region 2 with fail
        generalize (w.alloc (.cells #[.slice none 0 0, .slice none 0 0, .int .u64 0, .int .u64 0, .int .u64 0, .int .u64 0] 28)).alloc (.cells #[.slice none 0 0, .slice none 0 0, .int .u64 0, .int .u64 0, .int .u64 0, .int .u64 0] 28) = u0 at R0 ⊢
        rw [hx.out, hy.out]
        clear hx hy
        go_wp2_with fail
        with_reducible refine (C1.out _ _ _ R0.out).mono ?_
        rintro e u1 ⟨k1, ⟨a1, c1, rfl, o1⟩, hrb⟩
        have R1 := hide (R0.out.ch k1 hrb)
        have X1 := hide (R1.out.setH o1 R0.out.lt GH.out)
        clear k1 hrb o1 R0
        have z0 := R1.out.box.cells.1
        have z1 := R1.out.box.free 0
        go_upto_region 3 with fail
        generalize u1.setCell ⟨y, 0, none⟩ (.slice a1 LH c1) = u2 at X1 ⊢
        clear z0 z1 R1
        try dsimp only [hd0, zeroP] at X1
        go_wp2_with fail
        with_reducible refine (C2'.out _ _ _ X1.out).mono ?_
        rintro e u3 ⟨k3, a3, c3, rfl, o3, hrb⟩
        have R3 := hide (X1.out.ch k3 hrb)
        have X3 := hide (R3.out.setK o3 X1.out.lt kl KW.out)
        clear k3 hrb o3 X1
        have z0 := R3.out.box.cells.2.1
        have z1 := R3.out.box.free 1
        try dsimp only at z0
        go_upto_region 4 with fail
        generalize u3.setCell ⟨y, 1, none⟩ (.slice a3 LK c3) = u4 at X3 ⊢
        clear z0 z1 R3
        try dsimp only at X3
        go_wp2_with fail
        with_reducible refine (C3'.out _ _ _ X3.out).mono ?_
        rintro e u5 ⟨k5, rfl, hrb⟩
        have R5 := hide (X3.out.ch k5 hrb)
        have X5 := hide (R5.out.setG GG.out)
        clear k5 hrb X3
        obtain ⟨_, ⟨_, _, z2, z3, z4, z5⟩, zf⟩ := R5.out.box
        have f2 := zf 2
        have f3 := zf 3
        have f4 := zf 4
        have f5 := zf 5
        try dsimp only [g0] at z2 z3 z4 z5
        clear zf
        go_upto_region 5 with fail
        generalize (((u5.setCell ⟨y, 2, none⟩ (.int .u64 z.n)).setCell ⟨y, 3, none⟩ (.int .u64 z.nans)).setCell ⟨y, 4, none⟩ (.int .u64 z.lo)).setCell ⟨y, 5, none⟩ (.int .u64 z.hi) = u6 at X5 ⊢
        clear z2 z3 z4 z5 f2 f3 f4 f5 R5
        have dB := X5.out.rb.cell.2.2.1
        have F := hide (X5.out.done ⟨a1, LH, c1, a3, LK, c3⟩ z)
        obtain ⟨_, ⟨b0, b1, b2, b3, b4, b5⟩, _⟩ := X5.out.box
        try dsimp only at b0 b1 b2 b3 b4 b5
        obtain ⟨_, ⟨d0, d1, d2, d3, d4, d5⟩, df⟩ := X5.out.res
        have f0 := df 0
        have f1 := df 1
        have f2 := df 2
        have f3 := df 3
        have f4 := df 4
        have f5 := df 5
        clear df
        dsimp only [hd0, g0] at d0 d1 d2 d3 d4 d5
        go_wp2
        obtain ⟨⟨_, ⟨e0, e1, e2, e3, e4, e5⟩, _⟩, q1, q2, q3⟩ := id F.out
        unfold put6 at e0 e1 e2 e3 e4 e5
        dsimp only [hd0, g0] at e0 e1 e2 e3 e4 e5
        exact bodyPost_ret (v := .agg #[.slice a1 LH c1, .slice a3 LK c3, .int .u64 z.n, .int .u64 z.nans, .int .u64 z.lo, .int .u64 z.hi]) (by simp [results, Tryz.results11, go_sem, e0, e1, e2, e3, e4, e5]) rfl ⟨q1, ⟨⟨a1, LH, c1, a3, LK, c3⟩, rfl, q3⟩, q2⟩
end Go.Proofs.YtadcaonkmncgoaaGreat
