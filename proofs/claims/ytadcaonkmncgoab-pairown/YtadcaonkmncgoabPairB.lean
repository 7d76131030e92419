/-
  The law that what is told is new memory, and what is handed in stays, over what the laws ask of the program's own Merge, Sum, Of, Empty.
  Conditions: as PaM, PaU, PaO, PaE say.
-/
import Derived.Test.YtadcaonkmncgoabPairZ
namespace Go.Proofs.Ytadcaonkmncgoab
open Go.RowKit
set_option maxRecDepth 20000

/-- A block of at least m cells that may be written. -/
def Blk (W : World) (x m : Nat) : Prop := ∃ cur t, W.heap[x]? = some (.cells cur t (0, 0)) ∧ m ≤ cur.size
section
variable {W W' : World} {x m : Nat}
theorem Blk.lt (b : Blk W x m) : x < W.heap.size := by
  obtain ⟨cur, t, h, _⟩ := b
  exact (Array.getElem?_eq_some_iff.1 h).1
theorem Blk.cell (b : Blk W x m) {i : Nat} (hi : i < m) : ∃ v, W.cell? ⟨x, i, none⟩ = some v := by
  obtain ⟨cur, t, h, hm⟩ := b
  rw [cell_of_row W x i _ _ _ h]
  exact ⟨_, Array.getElem?_eq_getElem (by omega)⟩
theorem Blk.fz (b : Blk W x m) (i : Nat) : W.frozen? ⟨x, i, none⟩ = false := by
  obtain ⟨cur, t, h, _⟩ := b
  exact frozen_of_row W x i _ _ h
theorem Blk.set (b : Blk W x m) (y i : Nat) (v : Value) : Blk (W.setCell ⟨y, i, none⟩ v) x m := by
  obtain ⟨cur, t, h, hm⟩ := b
  by_cases e : x = y
  · subst e
    exact ⟨_, t, heap_setCell_same W x i _ _ v h, by rw [Array.size_setIfInBounds]; exact hm⟩
  · exact ⟨cur, t, by rw [Below.heap_setCell W _ v x e]; exact h, hm⟩
theorem Blk.below (b : Blk W x m) {B : Nat} (h : Below B W W') (hB : W.heap.size ≤ B) : Blk W' x m := by
  have hl := b.lt
  obtain ⟨cur, t, h1, hm⟩ := b
  exact ⟨cur, t, (h.block x (by omega)).trans h1, hm⟩
theorem Blk.of {base size n cap : Nat} {e : TypeId} {a : Option Addr} {xs : List Value} (h : W.ownsRow base e size (.slice a n cap) n xs) : n = 0 ∨ ∃ x off, a = some ⟨x, off, none⟩ ∧ base ≤ x ∧ Blk W x (off + n * size) := by
  rcases h.2 with ⟨_, h1⟩ | ⟨g, c, cur, h1, h2, h3, h4, _, h6, _⟩
  · exact Or.inl h1
  · simp only [Value.slice.injEq, true_and] at h1
    obtain ⟨rfl, rfl⟩ := h1
    exact Or.inr ⟨g, 0, rfl, h2, cur, e, h3, by rw [h6, Nat.zero_add]; exact Nat.mul_le_mul_right _ h4⟩
end
/-- A sketch told in new memory: its box and its two lists may be written, what was there before stays. -/
structure Fr (vm W : World) (k : Nat) (h : Hd) (g : Gz) : Prop where
  low : Below vm.heap.size vm W
  box : SBox W k h g
  lh : h.n = 0 ∨ ∃ x off, h.a = some ⟨x, off, none⟩ ∧ vm.heap.size ≤ x ∧ x ≠ k ∧ Blk W x (off + h.n * 2)
  lk : h.m = 0 ∨ ∃ x off, h.k = some ⟨x, off, none⟩ ∧ vm.heap.size ≤ x ∧ x ≠ k ∧ Blk W x (off + h.m)
theorem Fr.of {vm v : World} {h : Hd} {s : Sp} (b : Below vm.heap.size vm v) (m : MadeP v vm.heap.size h s) (t : TypeId) {k : Nat} (hk : v.heap.size = k) :
    Fr vm (v.alloc (.cells #[.slice h.a h.n h.c, .slice h.k h.m h.d, .int .u64 s.g.n, .int .u64 s.g.nans, .int .u64 s.g.lo, .int .u64 s.g.hi] t)) k h s.g := by
  have bx := SBox.new v t h s.g
  rw [hk] at bx
  refine ⟨b.alloc b.size _, bx, ?_, ?_⟩
  · rcases Blk.of m.oh with e | ⟨x, off, e, h1, h2⟩
    · exact Or.inl e
    · exact Or.inr ⟨x, off, e, h1, by have := h2.lt; omega, h2.below ((Below.refl _ _).alloc (Nat.le_refl _) _) (Nat.le_refl _)⟩
  · rcases Blk.of m.ok with e | ⟨x, off, e, h1, h2⟩
    · exact Or.inl e
    · rw [Nat.mul_one] at h2
      exact Or.inr ⟨x, off, e, h1, by have := h2.lt; omega, h2.below ((Below.refl _ _).alloc (Nat.le_refl _) _) (Nat.le_refl _)⟩
theorem Fr.set {vm W : World} {k : Nat} {h : Hd} {g : Gz} (q : Fr vm W k h g) {y : Nat} (hy : vm.heap.size ≤ y) (hn : y ≠ k) (i : Nat) (v : Value) : Fr vm (W.setCell ⟨y, i, none⟩ v) k h g := by
  refine ⟨q.low.setCell (p := ⟨y, i, none⟩) hy _, q.box.far (p := ⟨y, i, none⟩) hn _, ?_, ?_⟩
  · rcases q.lh with e | ⟨x, off, e, h1, h2, h3⟩
    · exact Or.inl e
    · exact Or.inr ⟨x, off, e, h1, h2, h3.set y i v⟩
  · rcases q.lk with e | ⟨x, off, e, h1, h2, h3⟩
    · exact Or.inl e
    · exact Or.inr ⟨x, off, e, h1, h2, h3.set y i v⟩

set_option maxHeartbeats 8000000 in
theorem ownP_of (M : PaM) (U : PaU) (O : PaO) (E : PaE) (h0 : Hd) (s0 : Sp) (h1 : Hd) (s1 : Sp) (w : World) (q0 : SeeP w h0 s0) (q1 : SeeP w h1 s1) :
    Calls Try.prog 3 #[(Value.agg #[.slice (Hd.a h0) (Hd.n h0) (Hd.c h0), .slice (Hd.k h0) (Hd.m h0) (Hd.d h0), .int .u64 (Gz.n s0.g), .int .u64 (Gz.nans s0.g), .int .u64 (Gz.lo s0.g), .int .u64 (Gz.hi s0.g)]), (Value.agg #[.slice (Hd.a h1) (Hd.n h1) (Hd.c h1), .slice (Hd.k h1) (Hd.m h1) (Hd.d h1), .int .u64 (Gz.n s1.g), .int .u64 (Gz.nans s1.g), .int .u64 (Gz.lo s1.g), .int .u64 (Gz.hi s1.g)])] w fun e w' => e = .returned (.bool true) ∧ Below w.heap.size w w' := by
  have AW := hide (awakeP_any O E)
  obtain ⟨k0, hk0⟩ : ∃ k, Hid (w.heap.size = k) := ⟨_, rfl⟩
  obtain ⟨k1, hk1⟩ : ∃ k, Hid (k0 + 1 = k) := ⟨_, rfl⟩
  have P0 := hide ((pool_nil w).push q0 28 hk0.out)
  have P1 := hide (P0.out.push (q1.alloc _) 28 (by rw [size_al, hk0.out, hk1.out]))
  simp only [List.nil_append, List.cons_append] at P1
  have SK := hide (fun W h s (q : SeeP W h s) => sketch_any h s W q)
  have CA := hide (fun W (q : SeeP W h0 s0) => refpchk_any h0 s0 W q)
  have CB := hide (fun W (q : SeeP W h1 s1) => refpchk_any h1 s1 W q)
  have OK0 := hide (fun c => ok_of (s := s0) q0 c)
  clear q0 q1 P0 O E
  go_enter Try.func3, Try.ntmps3
  go_upto_region 1 with fail
  generalize ((w.alloc (.cells #[.slice h0.a h0.n h0.c, .slice h0.k h0.m h0.d, .int .u64 s0.g.n, .int .u64 s0.g.nans, .int .u64 s0.g.lo, .int .u64 s0.g.hi] 28)).alloc (.cells #[.slice h1.a h1.n h1.c, .slice h1.k h1.m h1.d, .int .u64 s1.g.n, .int .u64 s1.g.nans, .int .u64 s1.g.lo, .int .u64 s1.g.hi] 28)) = v0 at P1 ⊢
  rw [hk0.out, hk1.out]
  clear hk0 hk1
  obtain ⟨c0, c1, c2, c3, c4, c5⟩ := P1.out.at 0 rfl
  cases hc0 : chkP s0
  · rw [hc0] at CA
    go_wp2_with fail
    with_reducible refine (CA.out _ (P1.out.sees 0 rfl)).mono ?_
    rintro e v1 ⟨rfl, b⟩
    have P2 := hide (P1.out.below b)
    clear b c0 c1 c2 c3 c4 c5 P1
    go_wp2_with fail
    with_reducible refine (AW.out _).mono ?_
    rintro e u ⟨rfl, b⟩
    have T := hide (P2.out.below b)
    clear b
    go_wp2
    go_ret
    exact ⟨rfl, T.out.low⟩
  rw [hc0] at CA
  go_wp2_with fail
  with_reducible refine (CA.out _ (P1.out.sees 0 rfl)).mono ?_
  rintro e v1 ⟨rfl, b⟩
  have P2 := hide (P1.out.below b)
  clear b c0 c1 c2 c3 c4 c5 P1
  obtain ⟨c0, c1, c2, c3, c4, c5⟩ := P2.out.at 1 rfl
  cases hc1 : chkP s1
  · rw [hc1] at CB
    go_wp2_with fail
    with_reducible refine (CB.out _ (P2.out.sees 1 rfl)).mono ?_
    rintro e v2 ⟨rfl, b⟩
    have P3 := hide (P2.out.below b)
    clear b c0 c1 c2 c3 c4 c5 P2
    go_wp2_with fail
    with_reducible refine (AW.out _).mono ?_
    rintro e u ⟨rfl, b⟩
    have T := hide (P3.out.below b)
    clear b
    go_wp2
    go_ret
    exact ⟨rfl, T.out.low⟩
  rw [hc1] at CB
  go_wp2_with fail
  with_reducible refine (CB.out _ (P2.out.sees 1 rfl)).mono ?_
  rintro e v2 ⟨rfl, b⟩
  have P3 := hide (P2.out.below b)
  clear b c0 c1 c2 c3 c4 c5 P2
  have o0 := OK0.out hc0
  have M1 := hide (fun W h q q' => merge_pool M o0 ok_zero (merge_zero o0) W h hd0 q q')
  dsimp only [zeroP, hd0, g0] at M1
  have SU : Hid (∀ (v : World) (h : Hd), SeeP v h s0 → Calls Try.prog 10 #[.slice (some ⟨v.heap.size, 0, none⟩) 1 1] (v.alloc (.cells #[.slice h.a h.n h.c, .slice h.k h.m h.d, .int .u64 s0.g.n, .int .u64 s0.g.nans, .int .u64 s0.g.lo, .int .u64 s0.g.hi] 28)) fun e w' => ∃ h2, e = .returned (.tuple #[(Value.agg #[.slice (Hd.a h2) (Hd.n h2) (Hd.c h2), .slice (Hd.k h2) (Hd.m h2) (Hd.d h2), .int .u64 (Gz.n s0.g), .int .u64 (Gz.nans s0.g), .int .u64 (Gz.lo s0.g), .int .u64 (Gz.hi s0.g)]), .int .i64 0]) ∧ MadeP w' v.heap.size h2 s0 ∧ Below v.heap.size v w') := by
    intro v h q
    refine (U.sum _ 1 1 [(h, s0)] _ (rows_one q 28)).mono ?_
    rintro e w' ⟨hb, hm⟩
    rw [if_pos (by simp only [List.all_cons, List.all_nil, o0.chk]; rfl)] at hm
    have e1 : sumP ([(h, s0)].map (·.2)) = s0 := zero_merge o0
    rw [e1] at hm
    obtain ⟨h2, rfl, m⟩ := hm
    have hl : v.heap.size ≤ (v.alloc (.cells #[.slice h.a h.n h.c, .slice h.k h.m h.d, .int .u64 s0.g.n, .int .u64 s0.g.nans, .int .u64 s0.g.lo, .int .u64 s0.g.hi] 28)).heap.size := by rw [size_al]; omega
    exact ⟨h2, rfl, ⟨m.oh.mono hl, Own.mono m.ok hl, m.see⟩, ((Below.refl v.heap.size v).alloc (Nat.le_refl _) _).trans (hb.mono hl)⟩
  have SX := hide (fun W g g' (q : SeeP W g s0) (q' : SeeP W g' s0) => refpsame_any g s0 g' s0 W q q')
  rw [show decide (s0 = s0) = true from decide_eq_true rfl] at SX
  clear hc0 hc1 OK0 o0 CA CB M U
  obtain ⟨c0, c1, c2, c3, c4, c5⟩ := P3.out.at 0 rfl
  go_wp2_with fail
  with_reducible refine (SK.out _ _ _ (P3.out.sees 0 rfl)).mono ?_
  rintro e v3 ⟨h5, rfl, m, b⟩
  have P4 := hide (P3.out.below b)
  have M4 := hide m.see
  clear m b c0 c1 c2 c3 c4 c5 P3
  go_upto_region 4 with fail
  obtain ⟨k5, hk⟩ : ∃ k, Hid (v3.heap.size = k) := ⟨_, rfl⟩
  have P5 := hide (P4.out.push M4.out 28 hk.out)
  simp only [List.cons_append, List.nil_append] at P5
  generalize v3.alloc (.cells #[.slice h5.a h5.n h5.c, .slice h5.k h5.m h5.d, .int .u64 s0.g.n, .int .u64 s0.g.nans, .int .u64 s0.g.lo, .int .u64 s0.g.hi] 28) = vm at P5 ⊢
  rw [hk.out]
  clear hk P4 M4
  obtain ⟨c0, c1, c2, c3, c4, c5⟩ := P5.out.at 2 rfl
  go_wp2_with fail
  with_reducible refine (M1.out _ _ (P5.out.sees 2 rfl) (see_zero _)).mono ?_
  rintro e v4 ⟨h6, rfl, m, b⟩
  have B4 := hide b
  have M4 := hide m
  clear m b c0 c1 c2 c3 c4 c5 M1
  go_upto_region 5 with fail
  obtain ⟨k6, hk⟩ : ∃ k, Hid (v4.heap.size = k) := ⟨_, rfl⟩
  have F5 := hide (Fr.of B4.out M4.out 28 hk.out)
  have hn6 := M4.out.see.sh
  have hm6 := M4.out.see.sk
  generalize v4.alloc (.cells #[.slice h6.a h6.n h6.c, .slice h6.k h6.m h6.d, .int .u64 s0.g.n, .int .u64 s0.g.nans, .int .u64 s0.g.lo, .int .u64 s0.g.hi] 28) = v5 at F5 ⊢
  rw [hk.out]
  clear hk B4 M4
  go_wp2_with fail
  go_loopw [8] (fun i wr => ∃ j : Nat, j ≤ h6.n ∧ i = .int .i64 j ∧ Hid (Fr vm wr k6 h6 s0.g)) (fun i _ => h6.n - (intOf i).toNat)
  case atStart => exact ⟨0, by omega, rfl, F5⟩
  case round =>
    obtain ⟨j, hj, rfl, HT⟩ := hrel
    obtain ⟨c0, c1, c2, c3, c4, c5⟩ := HT.out.box.cells
    by_cases hlt : j < h6.n
    · obtain hz | ⟨x, off, ha, hx, hk, hb⟩ := HT.out.lh
      · omega
      obtain ⟨y0, f0⟩ := hb.cell (i := off + j * 2) (by omega)
      obtain ⟨y1, f1⟩ := hb.cell (i := off + j * 2 + 1) (by omega)
      have z0 := hb.fz (off + j * 2)
      have z1 := hb.fz (off + j * 2 + 1)
      rw [ha] at c0
      have i1 : (0 : Int) ≤ (j : Int) := by omega
      have i2 : (j : Int) < (h6.n : Int) := by omega
      have HF := hide ((HT.out.set hx hk (off + j * 2) (.int .i64 (-1))).set hx hk (off + j * 2 + 1) (.int .u64 0))
      clear ha hx hk hb
      go_wp2
      go_roundw
      case rel => exact ⟨j + 1, by omega, by go_num, HF⟩
      case measure => simp [intOf]; omega
    · have i3 : ¬ (j : Int) < (h6.n : Int) := by omega
      go_wp2_with fail
      clear c0 c1 c2 c3 c4 c5 i3 hlt hj
      go_loopw [9] (fun i wr => ∃ j : Nat, j ≤ h6.m ∧ i = .int .i64 j ∧ Hid (Fr vm wr k6 h6 s0.g)) (fun i _ => h6.m - (intOf i).toNat)
      case atStart => exact ⟨0, by omega, rfl, HT⟩
      case round =>
        obtain ⟨j, hj, rfl, HT⟩ := hrel
        obtain ⟨c0, c1, c2, c3, c4, c5⟩ := HT.out.box.cells
        by_cases hlt : j < h6.m
        · obtain hz | ⟨x, off, ha, hx, hk, hb⟩ := HT.out.lk
          · omega
          obtain ⟨y0, f0⟩ := hb.cell (i := off + j) (by omega)
          have z0 := hb.fz (off + j)
          rw [ha] at c1
          have i1 : (0 : Int) ≤ (j : Int) := by omega
          have i2 : (j : Int) < (h6.m : Int) := by omega
          have HF := hide (HT.out.set hx hk (off + j) (.int .u64 7))
          clear ha hx hk hb
          go_wp2
          go_roundw
          case rel => exact ⟨j + 1, by omega, by go_num, HF⟩
          case measure => simp [intOf]; omega
        · have i3 : ¬ (j : Int) < (h6.m : Int) := by omega
          have P6 := hide (P5.out.below HT.out.low)
          clear F5 hj hlt hn6 hm6
          go_upto_region 15 with fail
          clear c0 c1 c2 c3 c4 c5 HT i3
          obtain ⟨c0, c1, c2, c3, c4, c5⟩ := P6.out.at 2 rfl
          go_wp2_with fail
          with_reducible refine (SU.out _ _ (P6.out.sees 2 rfl)).mono ?_
          rintro e v7 ⟨h10, rfl, m, b⟩
          have B7 := hide b
          have M7 := hide m
          clear m b c0 c1 c2 c3 c4 c5 SU
          go_upto_region 16 with fail
          obtain ⟨k10, hk⟩ : ∃ k, Hid (v7.heap.size = k) := ⟨_, rfl⟩
          have F8 := hide (Fr.of B7.out M7.out 28 hk.out)
          have hn10 := M7.out.see.sh
          generalize v7.alloc (.cells #[.slice h10.a h10.n h10.c, .slice h10.k h10.m h10.d, .int .u64 s0.g.n, .int .u64 s0.g.nans, .int .u64 s0.g.lo, .int .u64 s0.g.hi] 28) = v8 at F8 ⊢
          rw [hk.out]
          clear hk B7 M7
          generalize wr = vm2 at *
          go_wp2_with fail
          go_loopw [12] (fun i wr => ∃ j : Nat, j ≤ h10.n ∧ i = .int .i64 j ∧ Hid (Fr vm2 wr k10 h10 s0.g)) (fun i _ => h10.n - (intOf i).toNat)
          case atStart => exact ⟨0, by omega, rfl, F8⟩
          case round =>
            obtain ⟨j, hj, rfl, HT⟩ := hrel
            obtain ⟨c0, c1, c2, c3, c4, c5⟩ := HT.out.box.cells
            by_cases hlt : j < h10.n
            · obtain hz | ⟨x, off, ha, hx, hk, hb⟩ := HT.out.lh
              · omega
              obtain ⟨y0, f0⟩ := hb.cell (i := off + j * 2) (by omega)
              obtain ⟨y1, f1⟩ := hb.cell (i := off + j * 2 + 1) (by omega)
              have z0 := hb.fz (off + j * 2)
              have z1 := hb.fz (off + j * 2 + 1)
              rw [ha] at c0
              have i1 : (0 : Int) ≤ (j : Int) := by omega
              have i2 : (j : Int) < (h10.n : Int) := by omega
              have HF := hide ((HT.out.set hx hk (off + j * 2) (.int .i64 (-2))).set hx hk (off + j * 2 + 1) (.int .u64 0))
              clear ha hx hk hb
              go_wp2
              go_roundw
              case rel => exact ⟨j + 1, by omega, by go_num, HF⟩
              case measure => simp [intOf]; omega
            · have i3 : ¬ (j : Int) < (h10.n : Int) := by omega
              have P8 := hide (P6.out.below HT.out.low)
              clear F8 hj hlt hn10
              go_upto_region 20 with fail
              clear c0 c1 c2 c3 c4 c5 HT i3
              obtain ⟨c0, c1, c2, c3, c4, c5⟩ := P8.out.at 2 rfl
              obtain ⟨d0, d1, d2, d3, d4, d5⟩ := P8.out.at 0 rfl
              go_wp2_with fail
              with_reducible refine (SX.out _ _ _ (P8.out.sees 2 rfl) (P8.out.sees 0 rfl)).mono ?_
              rintro e x0 ⟨rfl, b⟩
              have P9 := hide (P8.out.below b)
              clear b c0 c1 c2 c3 c4 c5 d0 d1 d2 d3 d4 d5 P8
              go_wp2_with fail
              with_reducible refine (AW.out _).mono ?_
              rintro e u ⟨rfl, b⟩
              have T := hide (P9.out.below b)
              clear b
              go_wp2
              go_ret
              exact ⟨rfl, T.out.low⟩
end Go.Proofs.Ytadcaonkmncgoab
