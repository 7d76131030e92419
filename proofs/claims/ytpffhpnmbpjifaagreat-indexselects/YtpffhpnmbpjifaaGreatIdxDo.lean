/-
  What meant and Select of the index come to: contracts, for every world (written by gen/idxdo.gen.py).
  Conditions: the index and the matcher lie in memory.
-/
import Derived.Test.YtpffhpnmbpjifaaGreatIdxDn
namespace Go.Proofs.YtpffhpnmbpjifaaGreat
open Go.RowKit Go.Maps
set_option maxRecDepth 20000

theorem begin_any (g : Nat) (S : Nat → Prop) (L : Lx) (nm st : ByteArray) (w : World) (h : IAt w g S L) (hnm : nm.size ≤ 9223372036854775807) :
    Calls Tryz.prog 43 #[.pointer (some ⟨g, 0, none⟩), .string nm, .string st] w fun e w' => PosP (bgS L nm st) w e w' := by
  by_cases hst : st.toList = []
  · have e : st = .empty := ba_ext (hst.trans ba_empty_list.symm)
    subst e
    exact begin0_any g S L nm w h
  · exact begin1_any g S L nm st w h hnm hst
theorem allX_any (g : Nat) (S : Nat → Prop) (L : Lx) (w : World) (h : IAt w g S L) :
    Calls Tryz.prog 42 #[.pointer (some ⟨g, 0, none⟩)] w fun e w' => PosP (uptoI L.length) w e w' := by
  obtain ⟨hG, hL, ax, cx, hs, bn, bp, nb, p, q, hnb, hB⟩ := h
  exact (all_any g S L L L ax cx hs bn bp nb p q w hB hL).mono fun e w' h => by
    obtain ⟨x, d, h1, h2, h3⟩ := h
    exact ⟨x, _, d, h1, h2, h3⟩
theorem restX_any (g : Nat) (S : Nat → Prop) (L : Lx) (b : Option Addr) (m d : Nat) (p : List Lb → Bool) (base : Nat) (w : World) (h : IAt w g S L) (hy : MineI w base b m d (idxs p 0 L)) :
    Calls Tryz.prog 37 #[.pointer (some ⟨g, 0, none⟩), .slice b m d] w fun e w' => PosP (idxs (fun l => !p l) 0 L) w e w' := by
  obtain ⟨hG, hL, ax, cx, hs, bn, bp, nb, p', q, hnb, hB⟩ := h
  have hl := hy.len
  have hl2 := idxs_len p 0 L
  refine (rest_any g S L L L ax cx hs bn bp nb p' q b m d (idxs p 0 L) w hB hL (MineI.sl hy (by omega) (fun z hz => by
    have := idxs_wf _ _ z hz
    exact wfI (by omega) (by omega)))).mono fun e w' h => ?_
  rw [less_idxs] at h
  exact h.posP
theorem PosP.from' {l : List Int} {w u : World} {e : Ending} {w' : World} (h : PosP l u e w') (hb : Below w.heap.size w u) : PosP l w e w' := by
  obtain ⟨a, n, c, h1, h3, h4⟩ := h
  exact ⟨a, n, c, h1, Own.mono h3 hb.size, bel_to hb (Nat.le_refl _) h4⟩

set_option maxHeartbeats 4000000 in
theorem meant_0 (L : Lx) (g : Nat) (S : Nat → Prop) (nm vl : ByteArray) (va : Option Addr) (vn vc : Nat) (ka : Option Addr) (kn kc : Nat) (w : World) (h : IAt w g S L) :
    Calls Tryz.prog 24 #[.pointer (some ⟨g, 0, none⟩), .agg #[.int .i64 0, .string nm, .string vl, .slice va vn vc, .slice ka kn kc]] w fun e w' => PosP (uptoI L.length) w e w' := by
  obtain ⟨W, hW⟩ : ∃ W, Hid (w.alloc (.cells #[.int .i64 0, .string nm, .string vl, .slice va vn vc, .slice ka kn kc] 26) = W) := ⟨_, rfl⟩
  have LW : Hid (Below w.heap.size w W) := by rw [← hW.out]; exact (Below.refl _ _).alloc (Nat.le_refl _) _
  have B : Hid (BoxM W w.heap.size ⟨0, nm, vl, va, vn, vc, ka, kn, kc⟩) := by rw [← hW.out]; exact boxM_new w ⟨0, nm, vl, va, vn, vc, ka, kn, kc⟩
  obtain ⟨b0, b1, b2, b3, b4, _⟩ := B.out.all
  dsimp only at b0 b1 b2 b3 b4
  have HA := hide (h.below LW.out)
  have T := hide (allX_any g S L W HA.out)
  clear h
  go_enter Tryz.func24, Tryz.ntmps24
  go_upto_region 1 with fail
  rw [hW.out]
  clear hW B
  go_wp2_with fail
  with_reducible refine T.out.mono ?_
  intro e u1 h1
  have H1 := hide (h1.from' LW.out)
  obtain ⟨a1, n1, d1, rfl, -⟩ := h1
  clear T b0 b1 b2 b3 b4
  go_wp2
  go_ret
  exact H1.out

set_option maxHeartbeats 4000000 in
theorem meant_1 (L : Lx) (g : Nat) (S : Nat → Prop) (nm vl : ByteArray) (va : Option Addr) (vn vc : Nat) (ka : Option Addr) (kn kc : Nat) (w : World) (h : IAt w g S L) (hnm : nm.size ≤ 9223372036854775807) (hvl : vl.size ≤ 9223372036854775807) :
    Calls Tryz.prog 24 #[.pointer (some ⟨g, 0, none⟩), .agg #[.int .i64 1, .string nm, .string vl, .slice va vn vc, .slice ka kn kc]] w fun e w' => PosP (postX L nm vl) w e w' := by
  obtain ⟨W, hW⟩ : ∃ W, Hid (w.alloc (.cells #[.int .i64 1, .string nm, .string vl, .slice va vn vc, .slice ka kn kc] 26) = W) := ⟨_, rfl⟩
  have LW : Hid (Below w.heap.size w W) := by rw [← hW.out]; exact (Below.refl _ _).alloc (Nat.le_refl _) _
  have B : Hid (BoxM W w.heap.size ⟨1, nm, vl, va, vn, vc, ka, kn, kc⟩) := by rw [← hW.out]; exact boxM_new w ⟨1, nm, vl, va, vn, vc, ka, kn, kc⟩
  obtain ⟨b0, b1, b2, b3, b4, _⟩ := B.out.all
  dsimp only at b0 b1 b2 b3 b4
  have HA := hide (h.below LW.out)
  have T := hide (post_any g S L nm vl W HA.out hnm hvl)
  clear h
  go_enter Tryz.func24, Tryz.ntmps24
  go_upto_region 1 with fail
  rw [hW.out]
  clear hW B
  go_wp2_with fail
  with_reducible refine T.out.mono ?_
  intro e u1 h1
  have H1 := hide (h1.from' LW.out)
  obtain ⟨a1, n1, d1, rfl, -⟩ := h1
  clear T b0 b1 b2 b3 b4
  go_wp2
  go_ret
  exact H1.out

set_option maxHeartbeats 4000000 in
theorem meant_2 (L : Lx) (g : Nat) (S : Nat → Prop) (nm vl : ByteArray) (va : Option Addr) (vn vc : Nat) (ka : Option Addr) (kn kc : Nat) (w : World) (h : IAt w g S L) (hnm : nm.size ≤ 9223372036854775807) (hvl : vl.size ≤ 9223372036854775807) :
    Calls Tryz.prog 24 #[.pointer (some ⟨g, 0, none⟩), .agg #[.int .i64 2, .string nm, .string vl, .slice va vn vc, .slice ka kn kc]] w fun e w' => PosP (idxs (fun l => !valP nm vl l) 0 L) w e w' := by
  obtain ⟨W, hW⟩ : ∃ W, Hid (w.alloc (.cells #[.int .i64 2, .string nm, .string vl, .slice va vn vc, .slice ka kn kc] 26) = W) := ⟨_, rfl⟩
  have LW : Hid (Below w.heap.size w W) := by rw [← hW.out]; exact (Below.refl _ _).alloc (Nat.le_refl _) _
  have B : Hid (BoxM W w.heap.size ⟨2, nm, vl, va, vn, vc, ka, kn, kc⟩) := by rw [← hW.out]; exact boxM_new w ⟨2, nm, vl, va, vn, vc, ka, kn, kc⟩
  obtain ⟨b0, b1, b2, b3, b4, _⟩ := B.out.all
  dsimp only at b0 b1 b2 b3 b4
  have HA := hide (h.below LW.out)
  have T := hide (post_any g S L nm vl W HA.out hnm hvl)
  clear h
  go_enter Tryz.func24, Tryz.ntmps24
  go_upto_region 1 with fail
  rw [hW.out]
  clear hW B
  go_wp2_with fail
  with_reducible refine T.out.mono ?_
  rintro e u1 ⟨a1, n1, d1, rfl, o1, c1⟩
  have T2 := hide (restX_any g S L a1 n1 d1 _ _ u1 (HA.out.below c1) o1)
  have L2 := hide (bel_to LW.out (Nat.le_refl _) c1)
  clear T b0 b1 b2 b3 b4 o1 c1
  go_wp2_with fail
  with_reducible refine T2.out.mono ?_
  intro e u2 h2
  have H2 := hide (h2.from' L2.out)
  obtain ⟨a2, n2, d2, rfl, -⟩ := h2
  clear T2
  go_wp2
  go_ret
  exact H2.out

set_option maxHeartbeats 4000000 in
theorem meant_3 (L : Lx) (g : Nat) (S : Nat → Prop) (nm vl : ByteArray) (va : Option Addr) (vn vc : Nat) (ka : Option Addr) (kn kc : Nat) (w : World) (h : IAt w g S L) (hnm : nm.size ≤ 9223372036854775807) :
    Calls Tryz.prog 24 #[.pointer (some ⟨g, 0, none⟩), .agg #[.int .i64 3, .string nm, .string vl, .slice va vn vc, .slice ka kn kc]] w fun e w' => PosP (bgS L nm vl) w e w' := by
  obtain ⟨W, hW⟩ : ∃ W, Hid (w.alloc (.cells #[.int .i64 3, .string nm, .string vl, .slice va vn vc, .slice ka kn kc] 26) = W) := ⟨_, rfl⟩
  have LW : Hid (Below w.heap.size w W) := by rw [← hW.out]; exact (Below.refl _ _).alloc (Nat.le_refl _) _
  have B : Hid (BoxM W w.heap.size ⟨3, nm, vl, va, vn, vc, ka, kn, kc⟩) := by rw [← hW.out]; exact boxM_new w ⟨3, nm, vl, va, vn, vc, ka, kn, kc⟩
  obtain ⟨b0, b1, b2, b3, b4, _⟩ := B.out.all
  dsimp only at b0 b1 b2 b3 b4
  have HA := hide (h.below LW.out)
  have T := hide (begin_any g S L nm vl W HA.out hnm)
  clear h
  go_enter Tryz.func24, Tryz.ntmps24
  go_upto_region 1 with fail
  rw [hW.out]
  clear hW B
  go_wp2_with fail
  with_reducible refine T.out.mono ?_
  intro e u1 h1
  have H1 := hide (h1.from' LW.out)
  obtain ⟨a1, n1, d1, rfl, -⟩ := h1
  clear T b0 b1 b2 b3 b4
  go_wp2
  go_ret
  exact H1.out

set_option maxHeartbeats 4000000 in
theorem meant_4 (L : Lx) (g : Nat) (S : Nat → Prop) (nm vl : ByteArray) (va : Option Addr) (vn vc : Nat) (ka : Option Addr) (kn kc : Nat) (w : World) (T : Nat → Prop) (vs : List ByteArray) (h : IAt w g S L) (hnm : nm.size ≤ 9223372036854775807) (hv : TxR T w va vn vs) (hn : vn ≤ 4096) :
    Calls Tryz.prog 24 #[.pointer (some ⟨g, 0, none⟩), .agg #[.int .i64 4, .string nm, .string vl, .slice va vn vc, .slice ka kn kc]] w fun e w' => PosP (amS L nm vs) w e w' := by
  obtain ⟨W, hW⟩ : ∃ W, Hid (w.alloc (.cells #[.int .i64 4, .string nm, .string vl, .slice va vn vc, .slice ka kn kc] 26) = W) := ⟨_, rfl⟩
  have LW : Hid (Below w.heap.size w W) := by rw [← hW.out]; exact (Below.refl _ _).alloc (Nat.le_refl _) _
  have B : Hid (BoxM W w.heap.size ⟨4, nm, vl, va, vn, vc, ka, kn, kc⟩) := by rw [← hW.out]; exact boxM_new w ⟨4, nm, vl, va, vn, vc, ka, kn, kc⟩
  obtain ⟨b0, b1, b2, b3, b4, _⟩ := B.out.all
  dsimp only at b0 b1 b2 b3 b4
  have HA := hide (h.below LW.out)
  have T := hide (among_any g S T L nm va vn vc vs W HA.out (hv.ch (Ch.of_below LW.out) (fun _ _ => id)) hn hnm)
  clear h
  go_enter Tryz.func24, Tryz.ntmps24
  go_upto_region 1 with fail
  rw [hW.out]
  clear hW B
  go_wp2_with fail
  with_reducible refine T.out.mono ?_
  intro e u1 h1
  have H1 := hide (h1.from' LW.out)
  obtain ⟨a1, n1, d1, rfl, -⟩ := h1
  clear T b0 b1 b2 b3 b4
  go_wp2
  go_ret
  exact H1.out

set_option maxHeartbeats 4000000 in
theorem meant_5 (L : Lx) (g : Nat) (S : Nat → Prop) (nm vl : ByteArray) (va : Option Addr) (vn vc : Nat) (ka : Option Addr) (kn kc : Nat) (w : World) (m : Mt) (ih : ∀ k ∈ m.ks, MnP L k) (T : Nat → Prop) (h : IAt w g S L) (q : SeeM T w m ⟨5, nm, vl, va, vn, vc, ka, kn, kc⟩) (ok : okM m) :
    Calls Tryz.prog 24 #[.pointer (some ⟨g, 0, none⟩), .agg #[.int .i64 5, .string nm, .string vl, .slice va vn vc, .slice ka kn kc]] w fun e w' => PosP (allS L m.ks) w e w' := by
  obtain ⟨W, hW⟩ : ∃ W, Hid (w.alloc (.cells #[.int .i64 5, .string nm, .string vl, .slice va vn vc, .slice ka kn kc] 26) = W) := ⟨_, rfl⟩
  have LW : Hid (Below w.heap.size w W) := by rw [← hW.out]; exact (Below.refl _ _).alloc (Nat.le_refl _) _
  have B : Hid (BoxM W w.heap.size ⟨5, nm, vl, va, vn, vc, ka, kn, kc⟩) := by rw [← hW.out]; exact boxM_new w ⟨5, nm, vl, va, vn, vc, ka, kn, kc⟩
  obtain ⟨b0, b1, b2, b3, b4, _⟩ := B.out.all
  dsimp only at b0 b1 b2 b3 b4
  have HA := hide (h.below LW.out)
  have T := hide (byAll_of L m ih g S T ⟨5, nm, vl, va, vn, vc, ka, kn, kc⟩ W HA.out (q.below LW.out) ok)
  dsimp only at T
  have w4 : kn * 88 ≤ 140737488355328 := (seeM_iff.1 q).2.2.2.1.kn
  clear q ih ok
  clear h
  go_enter Tryz.func24, Tryz.ntmps24
  go_upto_region 1 with fail
  rw [hW.out]
  clear hW B
  go_wp2_with fail
  with_reducible refine T.out.mono ?_
  intro e u1 h1
  have H1 := hide (h1.from' LW.out)
  obtain ⟨a1, n1, d1, rfl, -⟩ := h1
  clear T b0 b1 b2 b3 b4
  go_wp2
  go_ret
  exact H1.out

set_option maxHeartbeats 4000000 in
theorem meant_6 (L : Lx) (g : Nat) (S : Nat → Prop) (nm vl : ByteArray) (va : Option Addr) (vn vc : Nat) (ka : Option Addr) (kn kc : Nat) (w : World) (m : Mt) (ih : ∀ k ∈ m.ks, MnP L k) (T : Nat → Prop) (h : IAt w g S L) (q : SeeM T w m ⟨6, nm, vl, va, vn, vc, ka, kn, kc⟩) (ok : okM m) :
    Calls Tryz.prog 24 #[.pointer (some ⟨g, 0, none⟩), .agg #[.int .i64 6, .string nm, .string vl, .slice va vn vc, .slice ka kn kc]] w fun e w' => PosP (oneS L m.ks) w e w' := by
  obtain ⟨W, hW⟩ : ∃ W, Hid (w.alloc (.cells #[.int .i64 6, .string nm, .string vl, .slice va vn vc, .slice ka kn kc] 26) = W) := ⟨_, rfl⟩
  have LW : Hid (Below w.heap.size w W) := by rw [← hW.out]; exact (Below.refl _ _).alloc (Nat.le_refl _) _
  have B : Hid (BoxM W w.heap.size ⟨6, nm, vl, va, vn, vc, ka, kn, kc⟩) := by rw [← hW.out]; exact boxM_new w ⟨6, nm, vl, va, vn, vc, ka, kn, kc⟩
  obtain ⟨b0, b1, b2, b3, b4, _⟩ := B.out.all
  dsimp only at b0 b1 b2 b3 b4
  have HA := hide (h.below LW.out)
  have T := hide (byOne_of L m ih g S T ⟨6, nm, vl, va, vn, vc, ka, kn, kc⟩ W HA.out (q.below LW.out) ok)
  dsimp only at T
  have w4 : kn * 88 ≤ 140737488355328 := (seeM_iff.1 q).2.2.2.1.kn
  clear q ih ok
  clear h
  go_enter Tryz.func24, Tryz.ntmps24
  go_upto_region 1 with fail
  rw [hW.out]
  clear hW B
  go_wp2_with fail
  with_reducible refine T.out.mono ?_
  intro e u1 h1
  have H1 := hide (h1.from' LW.out)
  obtain ⟨a1, n1, d1, rfl, -⟩ := h1
  clear T b0 b1 b2 b3 b4
  go_wp2
  go_ret
  exact H1.out

set_option maxHeartbeats 4000000 in
theorem meant_7 (L : Lx) (g : Nat) (S : Nat → Prop) (nm vl : ByteArray) (va : Option Addr) (vn vc : Nat) (ka : Option Addr) (kn kc : Nat) (w : World) (m : Mt) (ih : ∀ k ∈ m.ks, MnP L k) (T : Nat → Prop) (h : IAt w g S L) (q : SeeM T w m ⟨7, nm, vl, va, vn, vc, ka, kn, kc⟩) (ok : okM m) :
    Calls Tryz.prog 24 #[.pointer (some ⟨g, 0, none⟩), .agg #[.int .i64 7, .string nm, .string vl, .slice va vn vc, .slice ka kn kc]] w fun e w' => PosP (idxs (fun l => !(m.ks.any (evalM l))) 0 L) w e w' := by
  obtain ⟨W, hW⟩ : ∃ W, Hid (w.alloc (.cells #[.int .i64 7, .string nm, .string vl, .slice va vn vc, .slice ka kn kc] 26) = W) := ⟨_, rfl⟩
  have LW : Hid (Below w.heap.size w W) := by rw [← hW.out]; exact (Below.refl _ _).alloc (Nat.le_refl _) _
  have B : Hid (BoxM W w.heap.size ⟨7, nm, vl, va, vn, vc, ka, kn, kc⟩) := by rw [← hW.out]; exact boxM_new w ⟨7, nm, vl, va, vn, vc, ka, kn, kc⟩
  obtain ⟨b0, b1, b2, b3, b4, _⟩ := B.out.all
  dsimp only at b0 b1 b2 b3 b4
  have HA := hide (h.below LW.out)
  have T := hide (byOne_of L m ih g S T ⟨7, nm, vl, va, vn, vc, ka, kn, kc⟩ W HA.out (q.below LW.out) ok)
  dsimp only at T
  have w4 : kn * 88 ≤ 140737488355328 := (seeM_iff.1 q).2.2.2.1.kn
  clear q ih ok
  clear h
  go_enter Tryz.func24, Tryz.ntmps24
  go_upto_region 1 with fail
  rw [hW.out]
  clear hW B
  go_wp2_with fail
  with_reducible refine T.out.mono ?_
  rintro e u1 ⟨a1, n1, d1, rfl, o1, c1⟩
  have T2 := hide (restX_any g S L a1 n1 d1 _ _ u1 (HA.out.below c1) o1)
  have L2 := hide (bel_to LW.out (Nat.le_refl _) c1)
  clear T b0 b1 b2 b3 b4 o1 c1
  go_wp2_with fail
  with_reducible refine T2.out.mono ?_
  intro e u2 h2
  have H2 := hide (h2.from' L2.out)
  obtain ⟨a2, n2, d2, rfl, -⟩ := h2
  clear T2
  go_wp2
  go_ret
  exact H2.out

/-- The sets that a matcher means, by its op. -/
theorem selX_eq (L : Lx) (m : Mt) : selX L m = idxs (fun l => if m.op = 0 then true
    else if m.op = 1 then decide (valL l m.nm = m.vl)
    else if m.op = 2 then decide (valL l m.nm ≠ m.vl)
    else if m.op = 3 then m.vl.toList.isPrefixOf (valL l m.nm).toList
    else if m.op = 4 then m.vs.any fun v => decide (v = valL l m.nm)
    else if m.op = 5 then m.ks.all (evalM l)
    else if m.op = 6 then m.ks.any (evalM l)
    else if m.op = 7 then (match m.ks with
      | [] => false
      | k :: _ => !evalM l k)
    else false) 0 L := by
  unfold selX
  congr 1
  funext l
  exact evalM_eq l m
theorem meant_any (L : Lx) (m : Mt) : MnP L m := by
  refine Mt.ind (P := MnP L) ?_ m
  intro m ih g S T h w hA q ok
  obtain ⟨op, nm, vl, va, vn, vc, ka, kn, kc⟩ := h
  obtain ⟨e1, e2, e3, hw, hv, hk, -⟩ := seeM_iff.1 q
  dsimp only at e1 e2 e3 hv hk ⊢
  have h1 : nm.size ≤ 9223372036854775807 := hw.nm
  have h2 : vl.size ≤ 9223372036854775807 := hw.vl
  have ho := ok.op
  have hvn : vn ≤ 4096 := by
    have h3 := (fit_own ok.fit).2.2.1
    have h4 := hv.1
    omega
  rw [← e1] at ho
  rw [selX_eq, ← e1, ← e2, ← e3]
  rcases ho with rfl | rfl | rfl | rfl | rfl | rfl | rfl | rfl
  · have := meant_0 L g S nm vl va vn vc ka kn kc w hA
    rw [upto_idxs] at this
    exact this
  · exact meant_1 L g S nm vl va vn vc ka kn kc w hA h1 h2
  · have := meant_2 L g S nm vl va vn vc ka kn kc w hA h1 h2
    rw [show (fun l => !valP nm vl l) = (fun l => decide (valL l nm ≠ vl)) by funext l; simp [valP]] at this
    exact this
  · exact meant_3 L g S nm vl va vn vc ka kn kc w hA h1
  · exact meant_4 L g S nm vl va vn vc ka kn kc w T m.vs hA h1 hv hvn
  · exact meant_5 L g S nm vl va vn vc ka kn kc w m ih T hA q ok
  · exact meant_6 L g S nm vl va vn vc ka kn kc w m ih T hA q ok
  · have h1 : m.ks.length = 1 := by
      rcases fit_names ok.fit with ⟨h, -⟩ | ⟨h, -⟩ | ⟨h, -⟩ | ⟨-, -, -, -, h⟩
      · omega
      · omega
      · omega
      · exact h e1.symm
    have := meant_7 L g S nm vl va vn vc ka kn kc w m ih T hA q ok
    rw [show (fun l => !(m.ks.any (evalM l))) = (fun l => match m.ks with | [] => false | k :: _ => !evalM l k) by
      funext l
      match hm : m.ks, h1 with
      | [k], _ => simp] at this
    exact this

set_option maxHeartbeats 4000000 in
theorem select_any (g : Nat) (S T : Nat → Prop) (L : Lx) (m : Mt) (h : Hm) (w : World) (hA : IAt w g S L) (q : SeeM T w m h) :
    Calls Tryz.prog 8 #[.pointer (some ⟨g, 0, none⟩), .agg #[.int .i64 h.op, .string h.nm, .string h.vl, .slice h.va h.vn h.vc, .slice h.ka h.kn h.kc]] w fun e w' => SelP L m w e w' := by
  obtain ⟨op, nm, vl, va, vn, vc, ka, kn, kc⟩ := h
  dsimp only
  obtain ⟨W, hW⟩ : ∃ W, Hid (w.alloc (.cells #[.int .i64 op, .string nm, .string vl, .slice va vn vc, .slice ka kn kc] 26) = W) := ⟨_, rfl⟩
  have LW : Hid (Below w.heap.size w W) := by rw [← hW.out]; exact (Below.refl _ _).alloc (Nat.le_refl _) _
  have B : Hid (BoxM W w.heap.size ⟨op, nm, vl, va, vn, vc, ka, kn, kc⟩) := by rw [← hW.out]; exact boxM_new w ⟨op, nm, vl, va, vn, vc, ka, kn, kc⟩
  have T1 := hide (chkM_any T m _ W (q.below LW.out))
  dsimp only at T1
  obtain ⟨b0, b1, b2, b3, b4, _⟩ := B.out.all
  dsimp only at b0 b1 b2 b3 b4
  cases hc : chkM m with
  | false =>
    rw [hc] at T1
    have F : Hid (∀ u, Below w.heap.size w u → SelP L m w (.returned (.tuple #[.slice none 0 0, .int .i64 5])) u) := fun u hu => by
      refine ⟨hu, ?_⟩
      rw [if_neg (by rw [hc]; decide)]
      exact ⟨_, _, rfl, fun _ => rfl⟩
    clear q hA hc
    go_enter Tryz.func8, Tryz.ntmps8
    go_upto_region 1 with fail
    rw [hW.out]
    clear hW
    go_wp2_with fail
    with_reducible refine T1.out.mono ?_
    rintro e v2 ⟨rfl, bv⟩
    have L2 := hide (bel_to LW.out (Nat.le_refl _) bv)
    clear T1 bv b0 b1 b2 b3 b4 B LW
    go_wp2
    refine bodyPost_ret (v := .tuple #[.slice none 0 0, .int .i64 5]) (by simp [results, Tryz.results8, go_sem]) rfl ?_
    exact F.out _ L2.out
  | true =>
    rw [hc] at T1
    have T2 := hide (fun (u : World) (hu : Below w.heap.size w u) => meant_any L m g S T _ u (hA.below hu) (q.below hu) (okM_of hc))
    dsimp only at T2
    have F : Hid (∀ u a n c, PosP (selX L m) w (.returned (.slice a n c)) u → SelP L m w (.returned (.tuple #[.slice a n c, .int .i64 0])) u) := fun u a n c hu => by
      obtain ⟨a', n', c', h1, h2, h3⟩ := hu
      cases h1
      refine ⟨h3, ?_⟩
      rw [if_pos hc]
      exact ⟨_, _, _, rfl, h2⟩
    clear q hA hc
    go_enter Tryz.func8, Tryz.ntmps8
    go_upto_region 1 with fail
    rw [hW.out]
    clear hW
    go_wp2_with fail
    with_reducible refine T1.out.mono ?_
    rintro e v2 ⟨rfl, bv⟩
    have B2 := hide (B.out.block (bv.block _ B.out.lt))
    have L2 := hide (bel_to LW.out (Nat.le_refl _) bv)
    clear T1 bv b0 b1 b2 b3 b4 B LW
    obtain ⟨b0, b1, b2, b3, b4, _⟩ := B2.out.all
    dsimp only at b0 b1 b2 b3 b4
    go_wp2_with fail
    with_reducible refine (T2.out _ L2.out).mono ?_
    intro e v3 h3
    have H3 := hide (h3.from' L2.out)
    obtain ⟨a3, n3, d3, rfl, -⟩ := h3
    clear T2 b0 b1 b2 b3 b4
    go_wp2
    refine bodyPost_ret (v := .tuple #[.slice a3 n3 d3, .int .i64 0]) (by simp [results, Tryz.results8, go_sem]) rfl ?_
    exact F.out _ _ _ _ H3.out
end Go.Proofs.YtpffhpnmbpjifaaGreat
