/-
  Sketches that may be, put together: plain laws of turning, grouping and of none; and the document's own two put together: a contract, for every world.
  Conditions: the sketches may be ones ('chkP'), and lie in memory.
-/
import Derived.Test.YtadcaonkmncgoaaPairM
import Derived.Test.YtadcaonkmncgoaaGoodK
import Derived.Deep.RegionHeld3
namespace Go.Proofs.Ytadcaonkmncgoaa
open Go.RowKit
set_option maxRecDepth 20000

/-- A sketch that may be. -/
structure Ok (s : Sp) : Prop where
  h : Good s.hist
  k : chkK s.keys = true
  w : ∀ x ∈ s.keys, W64 x
  g : GW s.g
  c : chkG s.g = true
theorem ok_of {w : World} {h : Hd} {s : Sp} (q : SeeP w h s) (c : chkP s = true) : Ok s := by
  unfold chkP at c
  simp only [Bool.and_eq_true] at c
  exact ⟨good_from c.1 q.rh.2.2.1, c.2.1, q.rk.words, q.g, c.2.2⟩
theorem Ok.chk {s : Sp} (h : Ok s) : chkP s = true := by
  unfold chkP
  have h1 : checkS s.hist = true := h.h.check
  rw [h1, h.k, h.c]; rfl
theorem mem_take_uni {a b : List Int} {n : Nat} {x : Int} (h : x ∈ (uni a b).take n) : x ∈ a ∨ x ∈ b := mem_uni.1 (List.mem_of_mem_take h)

theorem keep2s {w0 v v' : World} {k k' B : Nat} {h h' : Hd} {g g' : Gz} (hb : Below v.heap.size v v') (q : ((World.cell? v ⟨k, 0, none⟩ = some (.slice (Hd.a h) (Hd.n h) (Hd.c h))) ∧ (World.cell? v ⟨k, 1, none⟩ = some (.slice (Hd.k h) (Hd.m h) (Hd.d h))) ∧ (World.cell? v ⟨k, 2, none⟩ = some (.int .u64 (Gz.n g))) ∧ (World.cell? v ⟨k, 3, none⟩ = some (.int .u64 (Gz.nans g))) ∧ (World.cell? v ⟨k, 4, none⟩ = some (.int .u64 (Gz.lo g))) ∧ (World.cell? v ⟨k, 5, none⟩ = some (.int .u64 (Gz.hi g)))) ∧ ((World.cell? v ⟨k', 0, none⟩ = some (.slice (Hd.a h') (Hd.n h') (Hd.c h'))) ∧ (World.cell? v ⟨k', 1, none⟩ = some (.slice (Hd.k h') (Hd.m h') (Hd.d h'))) ∧ (World.cell? v ⟨k', 2, none⟩ = some (.int .u64 (Gz.n g'))) ∧ (World.cell? v ⟨k', 3, none⟩ = some (.int .u64 (Gz.nans g'))) ∧ (World.cell? v ⟨k', 4, none⟩ = some (.int .u64 (Gz.lo g'))) ∧ (World.cell? v ⟨k', 5, none⟩ = some (.int .u64 (Gz.hi g')))) ∧ Hid (k < v.heap.size ∧ k' < v.heap.size ∧ B ≤ v.heap.size ∧ Below B w0 v)) :
    ((World.cell? v' ⟨k, 0, none⟩ = some (.slice (Hd.a h) (Hd.n h) (Hd.c h))) ∧ (World.cell? v' ⟨k, 1, none⟩ = some (.slice (Hd.k h) (Hd.m h) (Hd.d h))) ∧ (World.cell? v' ⟨k, 2, none⟩ = some (.int .u64 (Gz.n g))) ∧ (World.cell? v' ⟨k, 3, none⟩ = some (.int .u64 (Gz.nans g))) ∧ (World.cell? v' ⟨k, 4, none⟩ = some (.int .u64 (Gz.lo g))) ∧ (World.cell? v' ⟨k, 5, none⟩ = some (.int .u64 (Gz.hi g)))) ∧ ((World.cell? v' ⟨k', 0, none⟩ = some (.slice (Hd.a h') (Hd.n h') (Hd.c h'))) ∧ (World.cell? v' ⟨k', 1, none⟩ = some (.slice (Hd.k h') (Hd.m h') (Hd.d h'))) ∧ (World.cell? v' ⟨k', 2, none⟩ = some (.int .u64 (Gz.n g'))) ∧ (World.cell? v' ⟨k', 3, none⟩ = some (.int .u64 (Gz.nans g'))) ∧ (World.cell? v' ⟨k', 4, none⟩ = some (.int .u64 (Gz.lo g'))) ∧ (World.cell? v' ⟨k', 5, none⟩ = some (.int .u64 (Gz.hi g')))) ∧ Hid (k < v'.heap.size ∧ k' < v'.heap.size ∧ B ≤ v'.heap.size ∧ Below B w0 v') := by
  obtain ⟨⟨c0, c1, c2, c3, c4, c5⟩, ⟨d0, d1, d2, d3, d4, d5⟩, l1, l2, l3, l4⟩ := q
  have s := hb.size
  exact ⟨⟨(hb.cell l1).trans c0, (hb.cell l1).trans c1, (hb.cell l1).trans c2, (hb.cell l1).trans c3, (hb.cell l1).trans c4, (hb.cell l1).trans c5⟩, ⟨(hb.cell l2).trans d0, (hb.cell l2).trans d1, (hb.cell l2).trans d2, (hb.cell l2).trans d3, (hb.cell l2).trans d4, (hb.cell l2).trans d5⟩, Nat.lt_of_lt_of_le l1 s, Nat.lt_of_lt_of_le l2 s, Nat.le_trans l3 s, l4.trans (hb.mono l3)⟩
theorem keep2p {w0 v : World} {k k' b B : Nat} {h h' : Hd} {g g' : Gz} (hne : Hid (k ≠ b ∧ k' ≠ b ∧ B ≤ b)) (hh : Hd) (gg : Gz) (q : ((World.cell? v ⟨k, 0, none⟩ = some (.slice (Hd.a h) (Hd.n h) (Hd.c h))) ∧ (World.cell? v ⟨k, 1, none⟩ = some (.slice (Hd.k h) (Hd.m h) (Hd.d h))) ∧ (World.cell? v ⟨k, 2, none⟩ = some (.int .u64 (Gz.n g))) ∧ (World.cell? v ⟨k, 3, none⟩ = some (.int .u64 (Gz.nans g))) ∧ (World.cell? v ⟨k, 4, none⟩ = some (.int .u64 (Gz.lo g))) ∧ (World.cell? v ⟨k, 5, none⟩ = some (.int .u64 (Gz.hi g)))) ∧ ((World.cell? v ⟨k', 0, none⟩ = some (.slice (Hd.a h') (Hd.n h') (Hd.c h'))) ∧ (World.cell? v ⟨k', 1, none⟩ = some (.slice (Hd.k h') (Hd.m h') (Hd.d h'))) ∧ (World.cell? v ⟨k', 2, none⟩ = some (.int .u64 (Gz.n g'))) ∧ (World.cell? v ⟨k', 3, none⟩ = some (.int .u64 (Gz.nans g'))) ∧ (World.cell? v ⟨k', 4, none⟩ = some (.int .u64 (Gz.lo g'))) ∧ (World.cell? v ⟨k', 5, none⟩ = some (.int .u64 (Gz.hi g')))) ∧ Hid (k < v.heap.size ∧ k' < v.heap.size ∧ B ≤ v.heap.size ∧ Below B w0 v)) :
    ((World.cell? ((put6 v b hh gg)) ⟨k, 0, none⟩ = some (.slice (Hd.a h) (Hd.n h) (Hd.c h))) ∧ (World.cell? ((put6 v b hh gg)) ⟨k, 1, none⟩ = some (.slice (Hd.k h) (Hd.m h) (Hd.d h))) ∧ (World.cell? ((put6 v b hh gg)) ⟨k, 2, none⟩ = some (.int .u64 (Gz.n g))) ∧ (World.cell? ((put6 v b hh gg)) ⟨k, 3, none⟩ = some (.int .u64 (Gz.nans g))) ∧ (World.cell? ((put6 v b hh gg)) ⟨k, 4, none⟩ = some (.int .u64 (Gz.lo g))) ∧ (World.cell? ((put6 v b hh gg)) ⟨k, 5, none⟩ = some (.int .u64 (Gz.hi g)))) ∧ ((World.cell? ((put6 v b hh gg)) ⟨k', 0, none⟩ = some (.slice (Hd.a h') (Hd.n h') (Hd.c h'))) ∧ (World.cell? ((put6 v b hh gg)) ⟨k', 1, none⟩ = some (.slice (Hd.k h') (Hd.m h') (Hd.d h'))) ∧ (World.cell? ((put6 v b hh gg)) ⟨k', 2, none⟩ = some (.int .u64 (Gz.n g'))) ∧ (World.cell? ((put6 v b hh gg)) ⟨k', 3, none⟩ = some (.int .u64 (Gz.nans g'))) ∧ (World.cell? ((put6 v b hh gg)) ⟨k', 4, none⟩ = some (.int .u64 (Gz.lo g'))) ∧ (World.cell? ((put6 v b hh gg)) ⟨k', 5, none⟩ = some (.int .u64 (Gz.hi g')))) ∧ Hid (k < (put6 v b hh gg).heap.size ∧ k' < (put6 v b hh gg).heap.size ∧ B ≤ (put6 v b hh gg).heap.size ∧ Below B w0 (put6 v b hh gg)) := by
  obtain ⟨⟨c0, c1, c2, c3, c4, c5⟩, ⟨d0, d1, d2, d3, d4, d5⟩, l1, l2, l3, l4⟩ := q
  obtain ⟨n1, n2, n3⟩ := hne.out
  have hz : (put6 v b hh gg).heap.size = v.heap.size := by simp [put6, World.setCell]
  have e : ∀ x, x ≠ b → ∀ i, (put6 v b hh gg).cell? ⟨x, i, none⟩ = v.cell? ⟨x, i, none⟩ := by
    intro x hx i
    refine World.cell?_of_block (w := v) ?_
    unfold put6
    rw [Below.heap_setCell _ _ _ x hx, Below.heap_setCell _ _ _ x hx, Below.heap_setCell _ _ _ x hx, Below.heap_setCell _ _ _ x hx, Below.heap_setCell _ _ _ x hx, Below.heap_setCell _ _ _ x hx]
  exact ⟨⟨(e k n1 0).trans c0, (e k n1 1).trans c1, (e k n1 2).trans c2, (e k n1 3).trans c3, (e k n1 4).trans c4, (e k n1 5).trans c5⟩, ⟨(e k' n2 0).trans d0, (e k' n2 1).trans d1, (e k' n2 2).trans d2, (e k' n2 3).trans d3, (e k' n2 4).trans d4, (e k' n2 5).trans d5⟩, by rw [hz]; exact l1, by rw [hz]; exact l2, by rw [hz]; exact l3, below_put l4 n3 _ _⟩

set_option maxHeartbeats 4000000 in
theorem refpmerge_any (h : Hd) (s : Sp) (h' : Hd) (s' : Sp) (w : World) (q : SeeP w h s) (q' : SeeP w h' s') (c : chkP s = true) (c' : chkP s' = true) :
    Calls Try.prog 19 #[(Value.agg #[.slice (Hd.a h) (Hd.n h) (Hd.c h), .slice (Hd.k h) (Hd.m h) (Hd.d h), .int .u64 (Gz.n s.g), .int .u64 (Gz.nans s.g), .int .u64 (Gz.lo s.g), .int .u64 (Gz.hi s.g)]), (Value.agg #[.slice (Hd.a h') (Hd.n h') (Hd.c h'), .slice (Hd.k h') (Hd.m h') (Hd.d h'), .int .u64 (Gz.n s'.g), .int .u64 (Gz.nans s'.g), .int .u64 (Gz.lo s'.g), .int .u64 (Gz.hi s'.g)])] w fun e w' => ∃ h2, e = .returned (Value.agg #[.slice (Hd.a h2) (Hd.n h2) (Hd.c h2), .slice (Hd.k h2) (Hd.m h2) (Hd.d h2), .int .u64 (Gz.n ((mergeP s s').g)), .int .u64 (Gz.nans ((mergeP s s').g)), .int .u64 (Gz.lo ((mergeP s s').g)), .int .u64 (Gz.hi ((mergeP s s').g))]) ∧ SeeP w' h2 (mergeP s s') ∧ Below w.heap.size w w' := by
  have ok := ok_of q c
  have ok' := ok_of q' c'
  have hs1 := good_size ok.h
  have hs2 := good_size ok'.h
  have hk1 := chk_up ok.k
  have hk2 := chk_up ok'.k
  have GM := hide (ok.h.mrg ok'.h)
  have GF := hide (good_fit GM.out)
  have GS := hide (good_size GM.out)
  rw [q.rh.1] at hs1
  rw [q'.rh.1] at hs2
  rw [q.rk.1] at hk1
  rw [q'.rk.1] at hk2
  have GW2 := hide (mergeG_word ok.g ok'.g)
  obtain ⟨w0, hw0⟩ : ∃ w0, Hid (((w.alloc (.cells #[.slice h.a h.n h.c, .slice h.k h.m h.d, .int .u64 s.g.n, .int .u64 s.g.nans, .int .u64 s.g.lo, .int .u64 s.g.hi] 30)).alloc (.cells #[.slice h'.a h'.n h'.c, .slice h'.k h'.m h'.d, .int .u64 s'.g.n, .int .u64 s'.g.nans, .int .u64 s'.g.lo, .int .u64 s'.g.hi] 30)).alloc (.cells #[.slice none 0 0, .slice none 0 0, .int .u64 0, .int .u64 0, .int .u64 0, .int .u64 0] 30) = w0) := ⟨_, rfl⟩
  have B : Hid (SBox w0 w.heap.size h s.g) := by rw [← hw0.out]; exact ((SBox.new w _ _ _).alloc _).alloc _
  have B' : Hid (SBox w0 (w.heap.size + 1) h' s'.g) := by
    rw [← hw0.out]
    have := (SBox.new (w.alloc (.cells #[.slice h.a h.n h.c, .slice h.k h.m h.d, .int .u64 s.g.n, .int .u64 s.g.nans, .int .u64 s.g.lo, .int .u64 s.g.hi] 30)) 30 h' s'.g).alloc (.cells #[.slice none 0 0, .slice none 0 0, .int .u64 0, .int .u64 0, .int .u64 0, .int .u64 0] 30)
    rwa [size_al] at this
  have A : Hid (SBox w0 (w.heap.size + 1 + 1) hd0 g0) := by
    rw [← hw0.out]
    have := SBox.new ((w.alloc (.cells #[.slice h.a h.n h.c, .slice h.k h.m h.d, .int .u64 s.g.n, .int .u64 s.g.nans, .int .u64 s.g.lo, .int .u64 s.g.hi] 30)).alloc (.cells #[.slice h'.a h'.n h'.c, .slice h'.k h'.m h'.d, .int .u64 s'.g.n, .int .u64 s'.g.nans, .int .u64 s'.g.lo, .int .u64 s'.g.hi] 30)) 30 hd0 g0
    rwa [size_al, size_al] at this
  have L : Hid (Below w.heap.size w w0) := by
    rw [← hw0.out]
    exact (bel2 _ _ _).alloc (by rw [size_al, size_al]; omega) _
  have C1 := hide (fun W (b : Below w.heap.size w W) => rhmerge_any h.a h.n h.c s.hist h'.a h'.n h'.c s'.hist W (q.rh.below b (Nat.le_refl _)) (q'.rh.below b (Nat.le_refl _)) (by omega))
  have C2 := hide (fun W (b : Below w.heap.size w W) => refmerge_own h.k h'.k h.m h'.m h.d h'.d s.keys s'.keys W (q.rk.below b (Nat.le_refl _)) (q'.rk.below b (Nat.le_refl _)) hk1.1 hk2.1 hk1.2 hk2.2)
  have C3 := hide (fun W => refgmerge_any s.g s'.g ok.g ok'.g W)
  show Calls Try.prog 19 #[(Value.agg #[.slice (Hd.a h) (Hd.n h) (Hd.c h), .slice (Hd.k h) (Hd.m h) (Hd.d h), .int .u64 (Gz.n s.g), .int .u64 (Gz.nans s.g), .int .u64 (Gz.lo s.g), .int .u64 (Gz.hi s.g)]), (Value.agg #[.slice (Hd.a h') (Hd.n h') (Hd.c h'), .slice (Hd.k h') (Hd.m h') (Hd.d h'), .int .u64 (Gz.n s'.g), .int .u64 (Gz.nans s'.g), .int .u64 (Gz.lo s'.g), .int .u64 (Gz.hi s'.g)])] w fun e w' => ∃ h2, e = .returned (Value.agg #[.slice (Hd.a h2) (Hd.n h2) (Hd.c h2), .slice (Hd.k h2) (Hd.m h2) (Hd.d h2), .int .u64 (Gz.n ((mergeG s.g s'.g))), .int .u64 (Gz.nans ((mergeG s.g s'.g))), .int .u64 (Gz.lo ((mergeG s.g s'.g))), .int .u64 (Gz.hi ((mergeG s.g s'.g)))]) ∧ SeeP w' h2 ⟨mrg s.hist s'.hist, (uni s.keys s'.keys).take 1024, mergeG s.g s'.g⟩ ∧ Below w.heap.size w w'
  have hkl : ((uni s.keys s'.keys).take 1024).length ≤ 1024 := by rw [List.length_take]; omega
  unfold BackO at C2
  generalize mergeG s.g s'.g = gm at *
  generalize mrg s.hist s'.hist = hm at *
  generalize (uni s.keys s'.keys).take 1024 = km at *
  obtain ⟨LH, hLH⟩ : ∃ n, Hid (hm.length = n) := ⟨_, rfl⟩
  obtain ⟨LK, hLK⟩ : ∃ n, Hid (km.length = n) := ⟨_, rfl⟩
  rw [hLH.out] at C1 GS
  rw [hLK.out] at C2 hkl
  clear ok ok' c c' q q' hk1 hk2 hs1 hs2
  obtain ⟨k, hk⟩ : ∃ k, Hid (w.heap.size = k) := ⟨_, rfl⟩
  obtain ⟨k', hk'⟩ : ∃ k', Hid (k + 1 = k') := ⟨_, rfl⟩
  obtain ⟨k2, hk2⟩ : ∃ k2, Hid (k' + 1 = k2) := ⟨_, rfl⟩
  rw [hk.out] at B B' A
  rw [hk'.out] at B' A
  rw [hk2.out] at A
  have NE : Hid (k ≠ k2 ∧ k' ≠ k2 ∧ w.heap.size ≤ k2) := ⟨by rw [← hk2.out, ← hk'.out]; omega, by rw [← hk2.out]; omega, by rw [← hk2.out, ← hk'.out, hk.out]; omega⟩
  have S0 : Hid (((World.cell? w0.drew ⟨k, 0, none⟩ = some (.slice (Hd.a h) (Hd.n h) (Hd.c h))) ∧ (World.cell? w0.drew ⟨k, 1, none⟩ = some (.slice (Hd.k h) (Hd.m h) (Hd.d h))) ∧ (World.cell? w0.drew ⟨k, 2, none⟩ = some (.int .u64 (Gz.n s.g))) ∧ (World.cell? w0.drew ⟨k, 3, none⟩ = some (.int .u64 (Gz.nans s.g))) ∧ (World.cell? w0.drew ⟨k, 4, none⟩ = some (.int .u64 (Gz.lo s.g))) ∧ (World.cell? w0.drew ⟨k, 5, none⟩ = some (.int .u64 (Gz.hi s.g)))) ∧ ((World.cell? w0.drew ⟨k', 0, none⟩ = some (.slice (Hd.a h') (Hd.n h') (Hd.c h'))) ∧ (World.cell? w0.drew ⟨k', 1, none⟩ = some (.slice (Hd.k h') (Hd.m h') (Hd.d h'))) ∧ (World.cell? w0.drew ⟨k', 2, none⟩ = some (.int .u64 (Gz.n s'.g))) ∧ (World.cell? w0.drew ⟨k', 3, none⟩ = some (.int .u64 (Gz.nans s'.g))) ∧ (World.cell? w0.drew ⟨k', 4, none⟩ = some (.int .u64 (Gz.lo s'.g))) ∧ (World.cell? w0.drew ⟨k', 5, none⟩ = some (.int .u64 (Gz.hi s'.g)))) ∧ Hid (k < w0.drew.heap.size ∧ k' < w0.drew.heap.size ∧ w.heap.size ≤ w0.drew.heap.size ∧ Below w.heap.size w w0.drew)) := ⟨B.out.cells, B'.out.cells, B.out.lt, B'.out.lt, L.out.size, L.out.drew⟩
  have AD := hide A.out.drew
  have KP : Hid (∀ (v : World) (a1 : Option Addr) (n1 : Nat) (a2 : Option Addr) (n2 : Nat), (((World.cell? v ⟨k, 0, none⟩ = some (.slice (Hd.a h) (Hd.n h) (Hd.c h))) ∧ (World.cell? v ⟨k, 1, none⟩ = some (.slice (Hd.k h) (Hd.m h) (Hd.d h))) ∧ (World.cell? v ⟨k, 2, none⟩ = some (.int .u64 (Gz.n s.g))) ∧ (World.cell? v ⟨k, 3, none⟩ = some (.int .u64 (Gz.nans s.g))) ∧ (World.cell? v ⟨k, 4, none⟩ = some (.int .u64 (Gz.lo s.g))) ∧ (World.cell? v ⟨k, 5, none⟩ = some (.int .u64 (Gz.hi s.g)))) ∧ ((World.cell? v ⟨k', 0, none⟩ = some (.slice (Hd.a h') (Hd.n h') (Hd.c h'))) ∧ (World.cell? v ⟨k', 1, none⟩ = some (.slice (Hd.k h') (Hd.m h') (Hd.d h'))) ∧ (World.cell? v ⟨k', 2, none⟩ = some (.int .u64 (Gz.n s'.g))) ∧ (World.cell? v ⟨k', 3, none⟩ = some (.int .u64 (Gz.nans s'.g))) ∧ (World.cell? v ⟨k', 4, none⟩ = some (.int .u64 (Gz.lo s'.g))) ∧ (World.cell? v ⟨k', 5, none⟩ = some (.int .u64 (Gz.hi s'.g)))) ∧ Hid (k < (v).heap.size ∧ k' < (v).heap.size ∧ w.heap.size ≤ (v).heap.size ∧ Below w.heap.size w v)) → (((World.cell? (((((((v.setCell ⟨k2, 0, none⟩ (.slice a1 LH n1)).setCell ⟨k2, 1, none⟩ (.slice a2 LK n2)).setCell ⟨k2, 2, none⟩ (.int .u64 gm.n)).setCell ⟨k2, 3, none⟩ (.int .u64 gm.nans)).setCell ⟨k2, 4, none⟩ (.int .u64 gm.lo)).setCell ⟨k2, 5, none⟩ (.int .u64 gm.hi))) ⟨k, 0, none⟩ = some (.slice (Hd.a h) (Hd.n h) (Hd.c h))) ∧ (World.cell? (((((((v.setCell ⟨k2, 0, none⟩ (.slice a1 LH n1)).setCell ⟨k2, 1, none⟩ (.slice a2 LK n2)).setCell ⟨k2, 2, none⟩ (.int .u64 gm.n)).setCell ⟨k2, 3, none⟩ (.int .u64 gm.nans)).setCell ⟨k2, 4, none⟩ (.int .u64 gm.lo)).setCell ⟨k2, 5, none⟩ (.int .u64 gm.hi))) ⟨k, 1, none⟩ = some (.slice (Hd.k h) (Hd.m h) (Hd.d h))) ∧ (World.cell? (((((((v.setCell ⟨k2, 0, none⟩ (.slice a1 LH n1)).setCell ⟨k2, 1, none⟩ (.slice a2 LK n2)).setCell ⟨k2, 2, none⟩ (.int .u64 gm.n)).setCell ⟨k2, 3, none⟩ (.int .u64 gm.nans)).setCell ⟨k2, 4, none⟩ (.int .u64 gm.lo)).setCell ⟨k2, 5, none⟩ (.int .u64 gm.hi))) ⟨k, 2, none⟩ = some (.int .u64 (Gz.n s.g))) ∧ (World.cell? (((((((v.setCell ⟨k2, 0, none⟩ (.slice a1 LH n1)).setCell ⟨k2, 1, none⟩ (.slice a2 LK n2)).setCell ⟨k2, 2, none⟩ (.int .u64 gm.n)).setCell ⟨k2, 3, none⟩ (.int .u64 gm.nans)).setCell ⟨k2, 4, none⟩ (.int .u64 gm.lo)).setCell ⟨k2, 5, none⟩ (.int .u64 gm.hi))) ⟨k, 3, none⟩ = some (.int .u64 (Gz.nans s.g))) ∧ (World.cell? (((((((v.setCell ⟨k2, 0, none⟩ (.slice a1 LH n1)).setCell ⟨k2, 1, none⟩ (.slice a2 LK n2)).setCell ⟨k2, 2, none⟩ (.int .u64 gm.n)).setCell ⟨k2, 3, none⟩ (.int .u64 gm.nans)).setCell ⟨k2, 4, none⟩ (.int .u64 gm.lo)).setCell ⟨k2, 5, none⟩ (.int .u64 gm.hi))) ⟨k, 4, none⟩ = some (.int .u64 (Gz.lo s.g))) ∧ (World.cell? (((((((v.setCell ⟨k2, 0, none⟩ (.slice a1 LH n1)).setCell ⟨k2, 1, none⟩ (.slice a2 LK n2)).setCell ⟨k2, 2, none⟩ (.int .u64 gm.n)).setCell ⟨k2, 3, none⟩ (.int .u64 gm.nans)).setCell ⟨k2, 4, none⟩ (.int .u64 gm.lo)).setCell ⟨k2, 5, none⟩ (.int .u64 gm.hi))) ⟨k, 5, none⟩ = some (.int .u64 (Gz.hi s.g)))) ∧ ((World.cell? (((((((v.setCell ⟨k2, 0, none⟩ (.slice a1 LH n1)).setCell ⟨k2, 1, none⟩ (.slice a2 LK n2)).setCell ⟨k2, 2, none⟩ (.int .u64 gm.n)).setCell ⟨k2, 3, none⟩ (.int .u64 gm.nans)).setCell ⟨k2, 4, none⟩ (.int .u64 gm.lo)).setCell ⟨k2, 5, none⟩ (.int .u64 gm.hi))) ⟨k', 0, none⟩ = some (.slice (Hd.a h') (Hd.n h') (Hd.c h'))) ∧ (World.cell? (((((((v.setCell ⟨k2, 0, none⟩ (.slice a1 LH n1)).setCell ⟨k2, 1, none⟩ (.slice a2 LK n2)).setCell ⟨k2, 2, none⟩ (.int .u64 gm.n)).setCell ⟨k2, 3, none⟩ (.int .u64 gm.nans)).setCell ⟨k2, 4, none⟩ (.int .u64 gm.lo)).setCell ⟨k2, 5, none⟩ (.int .u64 gm.hi))) ⟨k', 1, none⟩ = some (.slice (Hd.k h') (Hd.m h') (Hd.d h'))) ∧ (World.cell? (((((((v.setCell ⟨k2, 0, none⟩ (.slice a1 LH n1)).setCell ⟨k2, 1, none⟩ (.slice a2 LK n2)).setCell ⟨k2, 2, none⟩ (.int .u64 gm.n)).setCell ⟨k2, 3, none⟩ (.int .u64 gm.nans)).setCell ⟨k2, 4, none⟩ (.int .u64 gm.lo)).setCell ⟨k2, 5, none⟩ (.int .u64 gm.hi))) ⟨k', 2, none⟩ = some (.int .u64 (Gz.n s'.g))) ∧ (World.cell? (((((((v.setCell ⟨k2, 0, none⟩ (.slice a1 LH n1)).setCell ⟨k2, 1, none⟩ (.slice a2 LK n2)).setCell ⟨k2, 2, none⟩ (.int .u64 gm.n)).setCell ⟨k2, 3, none⟩ (.int .u64 gm.nans)).setCell ⟨k2, 4, none⟩ (.int .u64 gm.lo)).setCell ⟨k2, 5, none⟩ (.int .u64 gm.hi))) ⟨k', 3, none⟩ = some (.int .u64 (Gz.nans s'.g))) ∧ (World.cell? (((((((v.setCell ⟨k2, 0, none⟩ (.slice a1 LH n1)).setCell ⟨k2, 1, none⟩ (.slice a2 LK n2)).setCell ⟨k2, 2, none⟩ (.int .u64 gm.n)).setCell ⟨k2, 3, none⟩ (.int .u64 gm.nans)).setCell ⟨k2, 4, none⟩ (.int .u64 gm.lo)).setCell ⟨k2, 5, none⟩ (.int .u64 gm.hi))) ⟨k', 4, none⟩ = some (.int .u64 (Gz.lo s'.g))) ∧ (World.cell? (((((((v.setCell ⟨k2, 0, none⟩ (.slice a1 LH n1)).setCell ⟨k2, 1, none⟩ (.slice a2 LK n2)).setCell ⟨k2, 2, none⟩ (.int .u64 gm.n)).setCell ⟨k2, 3, none⟩ (.int .u64 gm.nans)).setCell ⟨k2, 4, none⟩ (.int .u64 gm.lo)).setCell ⟨k2, 5, none⟩ (.int .u64 gm.hi))) ⟨k', 5, none⟩ = some (.int .u64 (Gz.hi s'.g)))) ∧ Hid (k < (((((((v.setCell ⟨k2, 0, none⟩ (.slice a1 LH n1)).setCell ⟨k2, 1, none⟩ (.slice a2 LK n2)).setCell ⟨k2, 2, none⟩ (.int .u64 gm.n)).setCell ⟨k2, 3, none⟩ (.int .u64 gm.nans)).setCell ⟨k2, 4, none⟩ (.int .u64 gm.lo)).setCell ⟨k2, 5, none⟩ (.int .u64 gm.hi))).heap.size ∧ k' < (((((((v.setCell ⟨k2, 0, none⟩ (.slice a1 LH n1)).setCell ⟨k2, 1, none⟩ (.slice a2 LK n2)).setCell ⟨k2, 2, none⟩ (.int .u64 gm.n)).setCell ⟨k2, 3, none⟩ (.int .u64 gm.nans)).setCell ⟨k2, 4, none⟩ (.int .u64 gm.lo)).setCell ⟨k2, 5, none⟩ (.int .u64 gm.hi))).heap.size ∧ w.heap.size ≤ (((((((v.setCell ⟨k2, 0, none⟩ (.slice a1 LH n1)).setCell ⟨k2, 1, none⟩ (.slice a2 LK n2)).setCell ⟨k2, 2, none⟩ (.int .u64 gm.n)).setCell ⟨k2, 3, none⟩ (.int .u64 gm.nans)).setCell ⟨k2, 4, none⟩ (.int .u64 gm.lo)).setCell ⟨k2, 5, none⟩ (.int .u64 gm.hi))).heap.size ∧ Below w.heap.size w ((((((v.setCell ⟨k2, 0, none⟩ (.slice a1 LH n1)).setCell ⟨k2, 1, none⟩ (.slice a2 LK n2)).setCell ⟨k2, 2, none⟩ (.int .u64 gm.n)).setCell ⟨k2, 3, none⟩ (.int .u64 gm.nans)).setCell ⟨k2, 4, none⟩ (.int .u64 gm.lo)).setCell ⟨k2, 5, none⟩ (.int .u64 gm.hi))))) := fun v a1 n1 a2 n2 x => keep2p NE ⟨a1, LH, n1, a2, LK, n2⟩ gm x
  go_enter Try.func19, Try.ntmps19
  go_upto_region 1 with fail
  rw [hw0.out, hk.out, hk'.out, hk2.out]
  clear hw0 hk hk' hk2 B B' A
  go_region_held3 (fun w' => ((World.cell? w' ⟨k, 0, none⟩ = some (.slice (Hd.a h) (Hd.n h) (Hd.c h))) ∧ (World.cell? w' ⟨k, 1, none⟩ = some (.slice (Hd.k h) (Hd.m h) (Hd.d h))) ∧ (World.cell? w' ⟨k, 2, none⟩ = some (.int .u64 (Gz.n s.g))) ∧ (World.cell? w' ⟨k, 3, none⟩ = some (.int .u64 (Gz.nans s.g))) ∧ (World.cell? w' ⟨k, 4, none⟩ = some (.int .u64 (Gz.lo s.g))) ∧ (World.cell? w' ⟨k, 5, none⟩ = some (.int .u64 (Gz.hi s.g)))) ∧ ((World.cell? w' ⟨k', 0, none⟩ = some (.slice (Hd.a h') (Hd.n h') (Hd.c h'))) ∧ (World.cell? w' ⟨k', 1, none⟩ = some (.slice (Hd.k h') (Hd.m h') (Hd.d h'))) ∧ (World.cell? w' ⟨k', 2, none⟩ = some (.int .u64 (Gz.n s'.g))) ∧ (World.cell? w' ⟨k', 3, none⟩ = some (.int .u64 (Gz.nans s'.g))) ∧ (World.cell? w' ⟨k', 4, none⟩ = some (.int .u64 (Gz.lo s'.g))) ∧ (World.cell? w' ⟨k', 5, none⟩ = some (.int .u64 (Gz.hi s'.g)))) ∧ Hid (k < w'.heap.size ∧ k' < w'.heap.size ∧ w.heap.size ≤ w'.heap.size ∧ Below w.heap.size w w')) (first | with_reducible exact KP.out _ _ _ _ _ (by assumption) | with_reducible exact S0.out | with_reducible exact keep2s (by assumption) (by assumption)) (first
    | (go_at_call 39; with_reducible refine (C1.out _ S0.out.2.2.out.2.2.2).mono ?_; rintro e v1 ⟨a1, n1, rfl, o1, b1⟩; have S1 := hide (keep2s b1 S0.out); have O1 := hide o1; have A1 := hide (AD.out.below b1 AD.out.lt))
    | (go_at_call 40; with_reducible refine (C2.out _ S1.out.2.2.out.2.2.2).mono ?_; rintro e v2 ⟨a2, n2, rfl, r2, u2, b2⟩; have S2 := hide (keep2s b2 S1.out); have O2 := hide (O1.out.below b2 (Nat.le_refl _)); have R2 := hide r2.words; have U2 := hide u2; have A2 := hide (A1.out.below b2 A1.out.lt))
    | (go_at_call 41; with_reducible refine (C3.out _).mono ?_; rintro e v3 ⟨rfl, b3⟩; have S3 := hide (keep2s b3 S2.out); have O3 := hide (O2.out.below b3 (Nat.le_refl _)); have U3 := hide (Own.below U2.out b3 (Nat.le_refl _)); have A3 := hide (A2.out.below b3 A2.out.lt); obtain ⟨_, ⟨d0, d1, d2, d3, d4, d5⟩, df⟩ := A3.out; have f0 := df 0; have f1 := df 1; have f2 := df 2; have f3 := df 3; have f4 := df 4; have f5 := df 5; clear df; dsimp only [hd0, g0] at d0 d1 d2 d3 d4 d5))
  have F := hide (A3.out.put ⟨a1, LH, n1, a2, LK, n2⟩ gm)
  have zs : Hid (k2 < w0.heap.size ∧ w0.heap.size ≤ v1.heap.size) := ⟨AD.out.lt, b1.size⟩
  have M := hide (made_of (w := put6 v3 k2 ⟨a1, LH, n1, a2, LK, n2⟩ gm) (base := w0.heap.size) (h := ⟨a1, LH, n1, a2, LK, n2⟩) (s := ⟨hm, km, gm⟩) (ownb_put O3.out zs.out.1 _ _) (Own.mono (ownu_put U3.out (Nat.lt_of_lt_of_le zs.out.1 zs.out.2) _ _) zs.out.2) GF.out R2.out GW2.out (by have := GS.out; show LH * 16 ≤ _; omega) (by show LK * 8 ≤ _; omega))
  have L3 := hide (below_put S3.out.2.2.out.2.2.2 NE.out.2.2 ⟨a1, LH, n1, a2, LK, n2⟩ gm)
  go_wp2
  obtain ⟨_, ⟨e0, e1, e2, e3, e4, e5⟩, _⟩ := F.out
  unfold put6 at e0 e1 e2 e3 e4 e5
  dsimp only at e0 e1 e2 e3 e4 e5
  exact bodyPost_ret (v := .agg #[.slice a1 LH n1, .slice a2 LK n2, .int .u64 gm.n, .int .u64 gm.nans, .int .u64 gm.lo, .int .u64 gm.hi]) (by simp [results, Try.results19, go_sem, e0, e1, e2, e3, e4, e5]) rfl ⟨⟨a1, LH, n1, a2, LK, n2⟩, rfl, M.out.see, L3.out⟩
end Go.Proofs.Ytadcaonkmncgoaa
