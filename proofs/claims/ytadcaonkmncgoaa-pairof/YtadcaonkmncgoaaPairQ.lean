/-
  The document's own sketch of observations: a contract, for every world.
  Conditions: the observations lie in memory.
-/
import Derived.Test.YtadcaonkmncgoaaPairX
import Derived.Test.YtadcaonkmncgoaaHistU
import Derived.Test.YtadcaonkmncgoaaKmvD
import Derived.Deep.RegionHeld3
import Derived.Test.YtadcaonkmncgoaaHistR
import Derived.Test.YtadcaonkmncgoaaGaugeR
namespace Go.Proofs.Ytadcaonkmncgoaa
open Go.RowKit
set_option maxRecDepth 20000

theorem take_ob {l : List Ob} {k : Nat} (h : k < l.length) : l.take (k + 1) = l.take k ++ [l.getD k ob0] := by
  rw [List.take_succ_eq_append_getElem h, List.getD_eq_getElem?_getD, List.getElem?_eq_getElem h]
  rfl
theorem ofP_more {l : List Ob} {k : Nat} (h : k < l.length) : ofP (l.take (k + 1)) = addP (ofP (l.take k)) (l.getD k ob0) := by
  rw [take_ob h]
  show (l.take k ++ [_]).foldl addP zeroP = _
  rw [List.foldl_append]
  rfl
theorem ob_getD {l : List Ob} (h : ∀ o ∈ l, ObW o) (i : Nat) : ObW (l.getD i ob0) := by
  by_cases hi : i < l.length
  · rw [List.getD_eq_getElem?_getD, List.getElem?_eq_getElem hi]
    exact h _ (List.getElem_mem hi)
  · rw [List.getD_eq_getElem?_getD, List.getElem?_eq_none (by omega)]
    exact ⟨⟨by decide, by decide⟩, ⟨by decide, by decide⟩, by decide⟩
theorem bk_wf {x : Int} (h0 : 0 ≤ x) (h1 : x ≤ 7423) : (Lit.int .i64 x).wf = true := by
  simp [Lit.wf, IntKind.min, IntKind.max, IntKind.signed, IntKind.bits]
  omega
theorem rowO_at {w : World} {a : Option Addr} {n : Nat} {l : List Ob} (h : RowO w a n l) {j : Nat} (hj : j < n) : ∃ b off, a = some ⟨b, off, none⟩ ∧ ∀ W, Below w.heap.size w W → W.cell? ⟨b, off + j * 3, none⟩ = some (.int .u64 (l.getD j ob0).v) ∧ W.cell? ⟨b, off + j * 3 + 1, none⟩ = some (.string (l.getD j ob0).t) ∧ W.cell? ⟨b, off + j * 3 + 2, none⟩ = some (.int .u64 (l.getD j ob0).b) := by
  obtain ⟨_, _, _, h0 | ⟨b, off, rfl, hc⟩⟩ := h
  · omega
  · refine ⟨b, off, rfl, fun W hW => ?_⟩
    have hlt : b < w.heap.size := World.block_lt_of_cell? w _ (hc j hj).1
    rw [hW.cell (p := ⟨b, off + j * 3, none⟩) hlt, hW.cell (p := ⟨b, off + j * 3 + 1, none⟩) hlt, hW.cell (p := ⟨b, off + j * 3 + 2, none⟩) hlt]
    exact hc j hj

theorem RowB.set {w : World} {a : Option Addr} {n : Nat} {l : Bks} (h : RowB w a n l) {b : Nat} (hb : ∀ x, a = some x → x.block ≠ b) (o : Nat) (v : Value) : RowB (w.setCell ⟨b, o, none⟩ v) a n l := by
  obtain ⟨h1, h2, h3, h4⟩ := h
  refine ⟨h1, h2, h3, ?_⟩
  rcases h4 with h4 | ⟨b', off, rfl, hc⟩
  · exact Or.inl h4
  · refine Or.inr ⟨b', off, rfl, fun i hi => ?_⟩
    have e : ∀ j, (w.setCell ⟨b, o, none⟩ v).cell? ⟨b', j, none⟩ = w.cell? ⟨b', j, none⟩ := fun j => World.cell?_of_block (w := w) (Below.heap_setCell w _ v b' (hb _ rfl))
    rw [e, e]
    exact hc i hi
theorem Row.set {k : IntKind} {w : World} {a : Option Addr} {n : Nat} {l : List Int} (h : Row k w a n l) {b : Nat} (hb : ∀ x, a = some x → x.block ≠ b) (o : Nat) (v : Value) : Row k (w.setCell ⟨b, o, none⟩ v) a n l := by
  obtain ⟨h1, h2, h3, h4⟩ := h
  refine ⟨h1, h2, h3, ?_⟩
  rcases h4 with h4 | ⟨b', off, rfl, hc⟩
  · exact Or.inl h4
  · refine Or.inr ⟨b', off, rfl, fun i hi => ?_⟩
    have e : ∀ j, (w.setCell ⟨b, o, none⟩ v).cell? ⟨b', j, none⟩ = w.cell? ⟨b', j, none⟩ := fun j => World.cell?_of_block (w := w) (Below.heap_setCell w _ v b' (hb _ rfl))
    rw [e]
    exact hc i hi
theorem SBox.setg {w : World} {b : Nat} {h : Hd} {g : Gz} (q : SBox w b h g) (z : Gz) : SBox ((((w.setCell ⟨b, 2, none⟩ (.int .u64 z.n)).setCell ⟨b, 3, none⟩ (.int .u64 z.nans)).setCell ⟨b, 4, none⟩ (.int .u64 z.lo)).setCell ⟨b, 5, none⟩ (.int .u64 z.hi)) b h z := by
  obtain ⟨l, ⟨c0, c1, c2, c3, c4, c5⟩, f⟩ := q
  exact ⟨by simp [go_sem, l], ⟨by simp [go_sem, c0], by simp [go_sem, c1], by simp [go_sem, c2], by simp [go_sem, c3], by simp [go_sem, c4], by simp [go_sem, c5]⟩, fun i => by simp [go_sem, f]⟩

/-- The document's own sketch that grows: its answer's box, its own box, its lists. -/
structure Rf (w W : World) (x y : Nat) (h : Hd) (s : Sp) : Prop where
  low : Below w.heap.size w W
  res : SBox W x hd0 g0
  box : SBox W y h s.g
  see : SeeP W h s
  ne : x ≠ y ∧ w.heap.size ≤ x ∧ w.heap.size ≤ y
  fa : ∀ b, h.a = some b → b.block ≠ x ∧ b.block ≠ y
  fk : ∀ b, h.k = some b → b.block ≠ x ∧ b.block ≠ y
section
variable {w W W' : World} {x y : Nat} {h : Hd} {s : Sp}
theorem Rf.below (q : Rf w W x y h s) (b : Below W.heap.size W W') : Rf w W' x y h s :=
  ⟨bel_to q.low (Nat.le_refl _) b, q.res.below b q.res.lt, q.box.below b q.box.lt, q.see.below b (Nat.le_refl _), q.ne, q.fa, q.fk⟩
theorem Rf.drew (q : Rf w W x y h s) : Rf w W.drew x y h s := q.below (Below.refl _ _).drew
theorem Rf.setH (q : Rf w W x y h s) {a : Option Addr} {n c base : Nat} {l : Bks} (o : OwnB W base a n c l) (hb : x < base ∧ y < base) (hg : Good l) : Rf w (W.setCell ⟨y, 0, none⟩ (.slice a n c)) x y ⟨a, n, c, h.k, h.m, h.d⟩ ⟨l, s.keys, s.g⟩ := by
  have hn : n ≤ 7424 := by rw [← o.len]; exact good_size hg
  have hr := o.row (by omega) (good_fit hg)
  have fa : ∀ b, a = some b → b.block ≠ x ∧ b.block ≠ y := fun b e => by
    have := o.block b.block (by rw [e]; rfl)
    exact ⟨by omega, by omega⟩
  exact ⟨q.low.setCell (p := ⟨y, 0, none⟩) q.ne.2.2 _, q.res.far (p := ⟨y, 0, none⟩) (Ne.symm q.ne.1) _, q.box.seth a n c,
    ⟨hr.set (fun b e => (fa b e).2) 0 _, q.see.rk.set (fun b e => (q.fk b e).2) 0 _, q.see.g, o.capped.1, q.see.kc, fun e => (o.capped.2 e).2, q.see.nk, by show n * 16 ≤ _; omega, q.see.sk⟩, q.ne, fa, q.fk⟩
theorem Rf.setK (q : Rf w W x y h s) {a : Option Addr} {c : Nat} {l : List Int} (hr : Row .u64 W a l.length l) (hc : l.length ≤ c) (hn : a = none → c = 0) (hl : l.length ≤ 1024) (fk : ∀ b, a = some b → b.block ≠ x ∧ b.block ≠ y) : Rf w (W.setCell ⟨y, 1, none⟩ (.slice a l.length c)) x y ⟨h.a, h.n, h.c, a, l.length, c⟩ ⟨s.hist, l, s.g⟩ :=
  ⟨q.low.setCell (p := ⟨y, 1, none⟩) q.ne.2.2 _, q.res.far (p := ⟨y, 1, none⟩) (Ne.symm q.ne.1) _, q.box.setk a l.length c,
    ⟨q.see.rh.set (fun b e => (q.fa b e).2) 1 _, hr.set (fun b e => (fk b e).2) 1 _, q.see.g, q.see.hc, hc, q.see.nh, hn, q.see.sh, by show l.length * 8 ≤ _; omega⟩, q.ne, q.fa, fk⟩
theorem Rf.setG (q : Rf w W x y h s) {z : Gz} (hz : GW z) : Rf w ((((W.setCell ⟨y, 2, none⟩ (.int .u64 z.n)).setCell ⟨y, 3, none⟩ (.int .u64 z.nans)).setCell ⟨y, 4, none⟩ (.int .u64 z.lo)).setCell ⟨y, 5, none⟩ (.int .u64 z.hi)) x y h ⟨s.hist, s.keys, z⟩ :=
  ⟨(((q.low.setCell (p := ⟨y, 2, none⟩) q.ne.2.2 _).setCell (p := ⟨y, 3, none⟩) q.ne.2.2 _).setCell (p := ⟨y, 4, none⟩) q.ne.2.2 _).setCell (p := ⟨y, 5, none⟩) q.ne.2.2 _,
    (((q.res.far (p := ⟨y, 2, none⟩) (Ne.symm q.ne.1) _).far (p := ⟨y, 3, none⟩) (Ne.symm q.ne.1) _).far (p := ⟨y, 4, none⟩) (Ne.symm q.ne.1) _).far (p := ⟨y, 5, none⟩) (Ne.symm q.ne.1) _, q.box.setg z,
    have fa := fun b e => (q.fa b e).2; have fk := fun b e => (q.fk b e).2; ⟨(((q.see.rh.set fa 2 _).set fa 3 _).set fa 4 _).set fa 5 _, (((q.see.rk.set fk 2 _).set fk 3 _).set fk 4 _).set fk 5 _, hz, q.see.hc, q.see.kc, q.see.nh, q.see.nk, q.see.sh, q.see.sk⟩, q.ne, q.fa, q.fk⟩
theorem Rf.done (q : Rf w W x y h s) : SeeP (put6 W x h s.g) h s ∧ Below w.heap.size w (put6 W x h s.g) := by
  have fa := fun b e => (q.fa b e).1
  have fk := fun b e => (q.fk b e).1
  exact ⟨⟨(((((q.see.rh.set fa 0 _).set fa 1 _).set fa 2 _).set fa 3 _).set fa 4 _).set fa 5 _, (((((q.see.rk.set fk 0 _).set fk 1 _).set fk 2 _).set fk 3 _).set fk 4 _).set fk 5 _, q.see.g, q.see.hc, q.see.kc, q.see.nh, q.see.nk, q.see.sh, q.see.sk⟩, below_put q.low q.ne.2.1 h s.g⟩
end

set_option maxHeartbeats 8000000 in
theorem refpof_any (a : Option Addr) (n cap : Nat) (l : List Ob) (w : World) (hr : RowO w a n l) :
    Calls Try.prog 11 #[.slice a n cap] w fun e w' => ∃ h, e = .returned (Value.agg #[.slice (Hd.a h) (Hd.n h) (Hd.c h), .slice (Hd.k h) (Hd.m h) (Hd.d h), .int .u64 (Gz.n ((ofP l).g)), .int .u64 (Gz.nans ((ofP l).g)), .int .u64 (Gz.lo ((ofP l).g)), .int .u64 (Gz.hi ((ofP l).g))]) ∧ SeeP w' h (ofP l) ∧ Below w.heap.size w w' := by
  obtain ⟨w0, hw0⟩ : ∃ w0, Hid ((w.alloc (.cells #[.slice none 0 0, .slice none 0 0, .int .u64 0, .int .u64 0, .int .u64 0, .int .u64 0] 30)).alloc (.cells #[.slice none 0 0, .slice none 0 0, .int .u64 0, .int .u64 0, .int .u64 0, .int .u64 0] 30) = w0) := ⟨_, rfl⟩
  obtain ⟨x, hx⟩ : ∃ x, Hid (w.heap.size = x) := ⟨_, rfl⟩
  obtain ⟨y, hy⟩ : ∃ y, Hid (x + 1 = y) := ⟨_, rfl⟩
  have Q0 : Hid (Rf w w0 x y hd0 zeroP) := by
    refine ⟨?_, ?_, ?_, see_zero _, ⟨?_, ?_, ?_⟩, (fun b e => by simp [hd0] at e), (fun b e => by simp [hd0] at e)⟩
    · rw [← hw0.out]; exact bel2 _ _ _
    · rw [← hw0.out, ← hx.out]; exact (SBox.new w _ hd0 g0).alloc _
    · rw [← hw0.out, ← hy.out, ← hx.out]
      have := SBox.new (w.alloc (.cells #[.slice none 0 0, .slice none 0 0, .int .u64 0, .int .u64 0, .int .u64 0, .int .u64 0] 30)) 30 hd0 g0
      rwa [size_al] at this
    · rw [← hy.out]; omega
    · rw [hx.out]; exact Nat.le_refl _
    · rw [← hy.out, hx.out]; omega
  have HR := hide hr
  have HL := hide hr.1
  have hn := hr.2.1
  have OW : Hid (∀ o ∈ l, ObW o) := hr.2.2.1
  obtain ⟨sl, hsl⟩ : ∃ s, Hid (ofP l = s) := ⟨_, rfl⟩
  rw [hsl.out]
  clear hr
  go_enter Try.func11, Try.ntmps11
  go_upto_region 2 with fail
  rw [hw0.out, hx.out, hy.out]
  clear hw0 hx hy
  go_wp2_with fail
  go_loopw [4] (fun i wr => ∃ j : Nat, j ≤ n ∧ i = .int .i64 j ∧ ∃ h, Hid (Rf w wr x y h (ofP (l.take j)))) (fun i _ => n - (intOf i).toNat)
  case atStart => exact ⟨0, by omega, rfl, hd0, Q0⟩
  case round =>
    obtain ⟨j, hj, rfl, h, HT⟩ := hrel
    by_cases hlt : j < n
    · obtain ⟨bb, off, rfl, hc⟩ := rowO_at HR.out hlt
      have HC := hide hc
      have HO := hide (ob_getD OW.out j)
      have HS := hide (ofP_more (l := l) (k := j) (by rw [HL.out]; exact hlt))
      have OK := hide (Ok.of (l := l.take j) (fun o ho => OW.out o (List.mem_of_mem_take ho)))
      have OK2 := hide (OK.out.add HO.out)
      clear hc
      generalize l.getD j ob0 = o at *
      generalize ofP (l.take j) = s at *
      have i1 : (0 : Int) ≤ (j : Int) := by omega
      have i2 : (j : Int) < (n : Int) := by omega
      have BR := bucketS_range HO.out.1.1 HO.out.1.2
      have C1 := hide (fun W => refbucket_any o.v W HO.out.1)
      have EA : Hid (addN s.hist (bucketS o.v) 1 = insS (bucketS o.v) 1 s.hist) := by show _ = _; unfold addN; rw [if_neg (by decide)]
      have C2 := hide (fun W (q : SeeP W h s) => rhadd_any h.a h.n h.c s.hist (bucketS o.v) 1 W q.rh (by have := good_size OK.out.h; rw [q.rh.1] at this; omega) (bk_wf BR.1 BR.2) ⟨by decide, by decide⟩)
      rw [EA.out] at C2
      have G2 : Hid (Good (insS (bucketS o.v) 1 s.hist)) := OK2.out.h
      obtain ⟨l2, hl2⟩ : ∃ l2, Hid (insS (bucketS o.v) 1 s.hist = l2) := ⟨_, rfl⟩
      have HS2 : Hid (ofP (l.take (j + 1)) = ⟨l2, hashK 1024 s.keys (fnvOf (numsOf o.t)), addG s.g o.b⟩) := by rw [HS.out, ← hl2.out]; rfl
      have KU := hide (chk_up OK.out.k)
      have C3 := hide (fun W h' (q : SeeP W h' ⟨l2, s.keys, s.g⟩) => refkadd_any h'.k h'.m h'.d s.keys o.t W q.rk KU.out.1 (by have := KU.out.2; rw [q.rk.1] at this; exact this) q.kc q.nk HO.out.2.2)
      unfold BackU at C3
      have K2 := hide (hashK_len 1024 s.keys (fnvOf (numsOf o.t)))
      have C4 := hide (fun W => refgadd_any s.g o.b OK.out.g HO.out.2.1 W)
      have GG : Hid (GW (addG s.g o.b)) := addG_word OK.out.g HO.out.2.1
      rw [hl2.out] at C2 G2
      generalize hashK 1024 s.keys (fnvOf (numsOf o.t)) = l3 at *
      generalize addG s.g o.b = g3 at *
      generalize bucketS o.v = bk at *
      obtain ⟨n2, hn2⟩ : ∃ n2, Hid (l2.length = n2) := ⟨_, rfl⟩
      rw [hn2.out] at C2
      clear EA OK OK2 KU hl2 HS BR
      go_upto_region 5 with fail
      go_cut [4] (fun i wx => i = .int .i64 (j : Int) ∧ ∃ h', Hid (Rf w wx x y h' ⟨l2, s.keys, s.g⟩))
      case first =>
        have HD := hide HT.out.drew
        obtain ⟨c0, c1, c2, c3, c4, c5⟩ := HT.out.box.cells
        obtain ⟨f0, f1, f2⟩ := HC.out wr HT.out.low
        go_region_with (first
          | (go_at_call 26; with_reducible refine (C1.out _).mono ?_; rintro e w' ⟨rfl, rfl⟩)
          | (go_at_call 25; with_reducible refine (C2.out _ HD.out.see).mono ?_; rintro e v7 ⟨a7, c7, rfl, o7, b7⟩; have T7 := hide (HD.out.below b7); have O7 := hide o7; have z0 := T7.out.box.cells.1; have z1 := T7.out.box.free 0; have LT := hide (And.intro HD.out.res.lt HD.out.box.lt)))
        all_goals
          go_wp2_with fail
          go_meet
          case rel => exact ⟨rfl, _, T7.out.setH O7.out LT.out G2.out⟩
      case rest =>
        obtain ⟨rfl, h4, T8⟩ := hcut
        clear HT C1 C2 G2
        generalize wc = wr at T8 ⊢
        go_upto_region 6 with fail
        go_cut [4] (fun i wx => i = .int .i64 (j : Int) ∧ ∃ h', Hid (Rf w wx x y h' ⟨l2, l3, s.g⟩))
        case first =>
          have HD := hide T8.out.drew
          obtain ⟨c0, c1, c2, c3, c4, c5⟩ := T8.out.box.cells
          obtain ⟨f0, f1, f2⟩ := HC.out wr T8.out.low
          dsimp only at c2 c3 c4 c5
          go_region_with (first
            | (go_at_call 27; with_reducible refine (C3.out _ _ HD.out.see).mono ?_; rintro e v7 ⟨a7, c7, rfl, r7, n7, m7, b7, d7⟩; have T7 := hide (HD.out.below b7); have R7 := hide r7; have N7 := hide n7; have M7 := hide m7; have z0 := T7.out.box.cells.2.1; have z1 := T7.out.box.free 1; have D7 := hide d7; have LT := hide (And.intro HD.out.res.lt HD.out.box.lt); clear d7 m7 n7 r7 b7))
          all_goals
            go_wp2_with fail
            go_meet
            case rel =>
              refine ⟨rfl, _, T7.out.setK R7.out N7.out M7.out K2.out (fun b e => ?_)⟩
              rcases D7.out with d | d
              · exact T8.out.fk b (by rw [← d]; exact e)
              · have := (d b e).1
                have := LT.out
                exact ⟨by omega, by omega⟩
        case rest =>
          obtain ⟨rfl, h5, T9⟩ := hcut
          clear T8 C3 K2
          generalize wc = wr at T9 ⊢
          go_upto_region 7 with fail
          have HD := hide T9.out.drew
          obtain ⟨c0, c1, c2, c3, c4, c5⟩ := T9.out.box.cells
          obtain ⟨f0, f1, f2⟩ := HC.out wr T9.out.low
          dsimp only at c2 c3 c4 c5
          go_region_with (first
            | (go_at_call 28; with_reducible refine (C4.out _).mono ?_; rintro e v7 ⟨rfl, b7⟩; have T7 := hide (HD.out.below b7); clear c0 c1 c2 c3 c4 c5; obtain ⟨c0, c1, c2, c3, c4, c5⟩ := T7.out.box.cells; have z2 := T7.out.box.free 2; have z3 := T7.out.box.free 3; have z4 := T7.out.box.free 4; have z5 := T7.out.box.free 5; dsimp only at c2 c3 c4 c5))
          all_goals
            have T10 := hide (T7.out.setG GG.out)
            have HE := hide HS2.out.symm
            dsimp only at T10
            rw [HE.out] at T10
            go_wp2
            go_roundw
            case rel => exact ⟨j + 1, by omega, by go_num, _, T10⟩
            case measure => simp [intOf]; omega
    · have hjn : j = n := by omega
      have e : l.take j = l := List.take_of_length_le (by rw [HL.out]; omega)
      rw [e, hsl.out] at HT
      have i3 : ¬ (j : Int) < (n : Int) := by omega
      obtain ⟨c0, c1, c2, c3, c4, c5⟩ := HT.out.box.cells
      have F := hide (HT.out.res.put h sl.g)
      have DN := hide HT.out.done
      obtain ⟨_, ⟨d0, d1, d2, d3, d4, d5⟩, df⟩ := HT.out.res
      have f0 := df 0
      have f1 := df 1
      have f2 := df 2
      have f3 := df 3
      have f4 := df 4
      have f5 := df 5
      clear df
      dsimp only [hd0, g0] at d0 d1 d2 d3 d4 d5
      go_wp2
      obtain ⟨_, ⟨e0, e1, e2, e3, e4, e5⟩, _⟩ := F.out
      unfold put6 at e0 e1 e2 e3 e4 e5
      exact bodyPost_ret (v := (Value.agg #[.slice (Hd.a h) (Hd.n h) (Hd.c h), .slice (Hd.k h) (Hd.m h) (Hd.d h), .int .u64 (Gz.n sl.g), .int .u64 (Gz.nans sl.g), .int .u64 (Gz.lo sl.g), .int .u64 (Gz.hi sl.g)])) (by simp [results, Try.results11, go_sem, e0, e1, e2, e3, e4, e5]) rfl ⟨h, rfl, DN.out.1, DN.out.2⟩
end Go.Proofs.Ytadcaonkmncgoaa
