/-
  Slices of sketches: as cells, in memory of the call's own, one more behind; the document's own two put together, told in new memory; what the law's shell hands on of a slice of sketches that came in.
  Conditions: the sketches lie in memory; put together: both may be ones.
-/
import Derived.Test.YtadcaonkmncgoaaPairJ
import Derived.Deep.RegionHeld3
import Derived.Laws.AppendOwnNone
import Derived.ChangeSlices
import Derived.ChangeArms
import Derived.Deep.SlicePairs
import Derived.OpenShut
import Derived.SizedLaws
import Derived.Lib.SmallJoins
import Derived.Deep.Strs
namespace Go.Proofs.Ytadcaonkmncgoaa
open Go.RowKit Go.ChangeShapes Go.WideShapes Go.Deep Go.Joins
set_option maxRecDepth 20000

set_option maxHeartbeats 4000000 in
theorem refpmerge_made (h : Hd) (s : Sp) (h' : Hd) (s' : Sp) (w : World) (q : SeeP w h s) (q' : SeeP w h' s') (c : chkP s = true) (c' : chkP s' = true) :
    Calls Try.prog 19 #[(Value.agg #[.slice (Hd.a h) (Hd.n h) (Hd.c h), .slice (Hd.k h) (Hd.m h) (Hd.d h), .int .u64 (Gz.n s.g), .int .u64 (Gz.nans s.g), .int .u64 (Gz.lo s.g), .int .u64 (Gz.hi s.g)]), (Value.agg #[.slice (Hd.a h') (Hd.n h') (Hd.c h'), .slice (Hd.k h') (Hd.m h') (Hd.d h'), .int .u64 (Gz.n s'.g), .int .u64 (Gz.nans s'.g), .int .u64 (Gz.lo s'.g), .int .u64 (Gz.hi s'.g)])] w fun e w' => ∃ h2, e = .returned (Value.agg #[.slice (Hd.a h2) (Hd.n h2) (Hd.c h2), .slice (Hd.k h2) (Hd.m h2) (Hd.d h2), .int .u64 (Gz.n ((mergeP s s').g)), .int .u64 (Gz.nans ((mergeP s s').g)), .int .u64 (Gz.lo ((mergeP s s').g)), .int .u64 (Gz.hi ((mergeP s s').g))]) ∧ MadeP w' w.heap.size h2 (mergeP s s') ∧ Below w.heap.size w w' := by
  have ok := ok_of q c
  have ok' := ok_of q' c'
  have hs1 := good_size ok.h
  have hs2 := good_size ok'.h
  have hk1 := chk_up ok.k
  have hk2 := chk_up ok'.k
  have GM := hide (ok.h.mrg ok'.h)
  have GF := hide (good_fit GM.out)
  have GS := hide (good_size GM.out)
  rw [q.rh.1] at hs1
  rw [q'.rh.1] at hs2
  rw [q.rk.1] at hk1
  rw [q'.rk.1] at hk2
  have GW2 := hide (mergeG_word ok.g ok'.g)
  obtain ⟨w0, hw0⟩ : ∃ w0, Hid (((w.alloc (.cells #[.slice h.a h.n h.c, .slice h.k h.m h.d, .int .u64 s.g.n, .int .u64 s.g.nans, .int .u64 s.g.lo, .int .u64 s.g.hi] 30)).alloc (.cells #[.slice h'.a h'.n h'.c, .slice h'.k h'.m h'.d, .int .u64 s'.g.n, .int .u64 s'.g.nans, .int .u64 s'.g.lo, .int .u64 s'.g.hi] 30)).alloc (.cells #[.slice none 0 0, .slice none 0 0, .int .u64 0, .int .u64 0, .int .u64 0, .int .u64 0] 30) = w0) := ⟨_, rfl⟩
  have B : Hid (SBox w0 w.heap.size h s.g) := by rw [← hw0.out]; exact ((SBox.new w _ _ _).alloc _).alloc _
  have B' : Hid (SBox w0 (w.heap.size + 1) h' s'.g) := by
    rw [← hw0.out]
    have := (SBox.new (w.alloc (.cells #[.slice h.a h.n h.c, .slice h.k h.m h.d, .int .u64 s.g.n, .int .u64 s.g.nans, .int .u64 s.g.lo, .int .u64 s.g.hi] 30)) 30 h' s'.g).alloc (.cells #[.slice none 0 0, .slice none 0 0, .int .u64 0, .int .u64 0, .int .u64 0, .int .u64 0] 30)
    rwa [size_al] at this
  have A : Hid (SBox w0 (w.heap.size + 1 + 1) hd0 g0) := by
    rw [← hw0.out]
    have := SBox.new ((w.alloc (.cells #[.slice h.a h.n h.c, .slice h.k h.m h.d, .int .u64 s.g.n, .int .u64 s.g.nans, .int .u64 s.g.lo, .int .u64 s.g.hi] 30)).alloc (.cells #[.slice h'.a h'.n h'.c, .slice h'.k h'.m h'.d, .int .u64 s'.g.n, .int .u64 s'.g.nans, .int .u64 s'.g.lo, .int .u64 s'.g.hi] 30)) 30 hd0 g0
    rwa [size_al, size_al] at this
  have L : Hid (Below w.heap.size w w0) := by
    rw [← hw0.out]
    exact (bel2 _ _ _).alloc (by rw [size_al, size_al]; omega) _
  have LW := hide L.out.size
  have C1 := hide (fun W (b : Below w.heap.size w W) => rhmerge_any h.a h.n h.c s.hist h'.a h'.n h'.c s'.hist W (q.rh.below b (Nat.le_refl _)) (q'.rh.below b (Nat.le_refl _)) (by omega))
  have C2 := hide (fun W (b : Below w.heap.size w W) => refmerge_own h.k h'.k h.m h'.m h.d h'.d s.keys s'.keys W (q.rk.below b (Nat.le_refl _)) (q'.rk.below b (Nat.le_refl _)) hk1.1 hk2.1 hk1.2 hk2.2)
  have C3 := hide (fun W => refgmerge_any s.g s'.g ok.g ok'.g W)
  show Calls Try.prog 19 #[(Value.agg #[.slice (Hd.a h) (Hd.n h) (Hd.c h), .slice (Hd.k h) (Hd.m h) (Hd.d h), .int .u64 (Gz.n s.g), .int .u64 (Gz.nans s.g), .int .u64 (Gz.lo s.g), .int .u64 (Gz.hi s.g)]), (Value.agg #[.slice (Hd.a h') (Hd.n h') (Hd.c h'), .slice (Hd.k h') (Hd.m h') (Hd.d h'), .int .u64 (Gz.n s'.g), .int .u64 (Gz.nans s'.g), .int .u64 (Gz.lo s'.g), .int .u64 (Gz.hi s'.g)])] w fun e w' => ∃ h2, e = .returned (Value.agg #[.slice (Hd.a h2) (Hd.n h2) (Hd.c h2), .slice (Hd.k h2) (Hd.m h2) (Hd.d h2), .int .u64 (Gz.n ((mergeG s.g s'.g))), .int .u64 (Gz.nans ((mergeG s.g s'.g))), .int .u64 (Gz.lo ((mergeG s.g s'.g))), .int .u64 (Gz.hi ((mergeG s.g s'.g)))]) ∧ MadeP w' w.heap.size h2 ⟨mrg s.hist s'.hist, (uni s.keys s'.keys).take 1024, mergeG s.g s'.g⟩ ∧ Below w.heap.size w w'
  have hkl : ((uni s.keys s'.keys).take 1024).length ≤ 1024 := by rw [List.length_take]; omega
  unfold BackO at C2
  generalize mergeG s.g s'.g = gm at *
  generalize mrg s.hist s'.hist = hm at *
  generalize (uni s.keys s'.keys).take 1024 = km at *
  obtain ⟨LH, hLH⟩ : ∃ n, Hid (hm.length = n) := ⟨_, rfl⟩
  obtain ⟨LK, hLK⟩ : ∃ n, Hid (km.length = n) := ⟨_, rfl⟩
  rw [hLH.out] at C1 GS
  rw [hLK.out] at C2 hkl
  clear ok ok' c c' q q' hk1 hk2 hs1 hs2
  obtain ⟨k, hk⟩ : ∃ k, Hid (w.heap.size = k) := ⟨_, rfl⟩
  obtain ⟨k', hk'⟩ : ∃ k', Hid (k + 1 = k') := ⟨_, rfl⟩
  obtain ⟨k2, hk2⟩ : ∃ k2, Hid (k' + 1 = k2) := ⟨_, rfl⟩
  rw [hk.out] at B B' A
  rw [hk'.out] at B' A
  rw [hk2.out] at A
  have NE : Hid (k ≠ k2 ∧ k' ≠ k2 ∧ w.heap.size ≤ k2) := ⟨by rw [← hk2.out, ← hk'.out]; omega, by rw [← hk2.out]; omega, by rw [← hk2.out, ← hk'.out, hk.out]; omega⟩
  have S0 : Hid (((World.cell? w0.drew ⟨k, 0, none⟩ = some (.slice (Hd.a h) (Hd.n h) (Hd.c h))) ∧ (World.cell? w0.drew ⟨k, 1, none⟩ = some (.slice (Hd.k h) (Hd.m h) (Hd.d h))) ∧ (World.cell? w0.drew ⟨k, 2, none⟩ = some (.int .u64 (Gz.n s.g))) ∧ (World.cell? w0.drew ⟨k, 3, none⟩ = some (.int .u64 (Gz.nans s.g))) ∧ (World.cell? w0.drew ⟨k, 4, none⟩ = some (.int .u64 (Gz.lo s.g))) ∧ (World.cell? w0.drew ⟨k, 5, none⟩ = some (.int .u64 (Gz.hi s.g)))) ∧ ((World.cell? w0.drew ⟨k', 0, none⟩ = some (.slice (Hd.a h') (Hd.n h') (Hd.c h'))) ∧ (World.cell? w0.drew ⟨k', 1, none⟩ = some (.slice (Hd.k h') (Hd.m h') (Hd.d h'))) ∧ (World.cell? w0.drew ⟨k', 2, none⟩ = some (.int .u64 (Gz.n s'.g))) ∧ (World.cell? w0.drew ⟨k', 3, none⟩ = some (.int .u64 (Gz.nans s'.g))) ∧ (World.cell? w0.drew ⟨k', 4, none⟩ = some (.int .u64 (Gz.lo s'.g))) ∧ (World.cell? w0.drew ⟨k', 5, none⟩ = some (.int .u64 (Gz.hi s'.g)))) ∧ Hid (k < w0.drew.heap.size ∧ k' < w0.drew.heap.size ∧ w.heap.size ≤ w0.drew.heap.size ∧ Below w.heap.size w w0.drew)) := ⟨B.out.cells, B'.out.cells, B.out.lt, B'.out.lt, L.out.size, L.out.drew⟩
  have AD := hide A.out.drew
  have KP : Hid (∀ (v : World) (a1 : Option Addr) (n1 : Nat) (a2 : Option Addr) (n2 : Nat), (((World.cell? v ⟨k, 0, none⟩ = some (.slice (Hd.a h) (Hd.n h) (Hd.c h))) ∧ (World.cell? v ⟨k, 1, none⟩ = some (.slice (Hd.k h) (Hd.m h) (Hd.d h))) ∧ (World.cell? v ⟨k, 2, none⟩ = some (.int .u64 (Gz.n s.g))) ∧ (World.cell? v ⟨k, 3, none⟩ = some (.int .u64 (Gz.nans s.g))) ∧ (World.cell? v ⟨k, 4, none⟩ = some (.int .u64 (Gz.lo s.g))) ∧ (World.cell? v ⟨k, 5, none⟩ = some (.int .u64 (Gz.hi s.g)))) ∧ ((World.cell? v ⟨k', 0, none⟩ = some (.slice (Hd.a h') (Hd.n h') (Hd.c h'))) ∧ (World.cell? v ⟨k', 1, none⟩ = some (.slice (Hd.k h') (Hd.m h') (Hd.d h'))) ∧ (World.cell? v ⟨k', 2, none⟩ = some (.int .u64 (Gz.n s'.g))) ∧ (World.cell? v ⟨k', 3, none⟩ = some (.int .u64 (Gz.nans s'.g))) ∧ (World.cell? v ⟨k', 4, none⟩ = some (.int .u64 (Gz.lo s'.g))) ∧ (World.cell? v ⟨k', 5, none⟩ = some (.int .u64 (Gz.hi s'.g)))) ∧ Hid (k < (v).heap.size ∧ k' < (v).heap.size ∧ w.heap.size ≤ (v).heap.size ∧ Below w.heap.size w v)) → (((World.cell? (((((((v.setCell ⟨k2, 0, none⟩ (.slice a1 LH n1)).setCell ⟨k2, 1, none⟩ (.slice a2 LK n2)).setCell ⟨k2, 2, none⟩ (.int .u64 gm.n)).setCell ⟨k2, 3, none⟩ (.int .u64 gm.nans)).setCell ⟨k2, 4, none⟩ (.int .u64 gm.lo)).setCell ⟨k2, 5, none⟩ (.int .u64 gm.hi))) ⟨k, 0, none⟩ = some (.slice (Hd.a h) (Hd.n h) (Hd.c h))) ∧ (World.cell? (((((((v.setCell ⟨k2, 0, none⟩ (.slice a1 LH n1)).setCell ⟨k2, 1, none⟩ (.slice a2 LK n2)).setCell ⟨k2, 2, none⟩ (.int .u64 gm.n)).setCell ⟨k2, 3, none⟩ (.int .u64 gm.nans)).setCell ⟨k2, 4, none⟩ (.int .u64 gm.lo)).setCell ⟨k2, 5, none⟩ (.int .u64 gm.hi))) ⟨k, 1, none⟩ = some (.slice (Hd.k h) (Hd.m h) (Hd.d h))) ∧ (World.cell? (((((((v.setCell ⟨k2, 0, none⟩ (.slice a1 LH n1)).setCell ⟨k2, 1, none⟩ (.slice a2 LK n2)).setCell ⟨k2, 2, none⟩ (.int .u64 gm.n)).setCell ⟨k2, 3, none⟩ (.int .u64 gm.nans)).setCell ⟨k2, 4, none⟩ (.int .u64 gm.lo)).setCell ⟨k2, 5, none⟩ (.int .u64 gm.hi))) ⟨k, 2, none⟩ = some (.int .u64 (Gz.n s.g))) ∧ (World.cell? (((((((v.setCell ⟨k2, 0, none⟩ (.slice a1 LH n1)).setCell ⟨k2, 1, none⟩ (.slice a2 LK n2)).setCell ⟨k2, 2, none⟩ (.int .u64 gm.n)).setCell ⟨k2, 3, none⟩ (.int .u64 gm.nans)).setCell ⟨k2, 4, none⟩ (.int .u64 gm.lo)).setCell ⟨k2, 5, none⟩ (.int .u64 gm.hi))) ⟨k, 3, none⟩ = some (.int .u64 (Gz.nans s.g))) ∧ (World.cell? (((((((v.setCell ⟨k2, 0, none⟩ (.slice a1 LH n1)).setCell ⟨k2, 1, none⟩ (.slice a2 LK n2)).setCell ⟨k2, 2, none⟩ (.int .u64 gm.n)).setCell ⟨k2, 3, none⟩ (.int .u64 gm.nans)).setCell ⟨k2, 4, none⟩ (.int .u64 gm.lo)).setCell ⟨k2, 5, none⟩ (.int .u64 gm.hi))) ⟨k, 4, none⟩ = some (.int .u64 (Gz.lo s.g))) ∧ (World.cell? (((((((v.setCell ⟨k2, 0, none⟩ (.slice a1 LH n1)).setCell ⟨k2, 1, none⟩ (.slice a2 LK n2)).setCell ⟨k2, 2, none⟩ (.int .u64 gm.n)).setCell ⟨k2, 3, none⟩ (.int .u64 gm.nans)).setCell ⟨k2, 4, none⟩ (.int .u64 gm.lo)).setCell ⟨k2, 5, none⟩ (.int .u64 gm.hi))) ⟨k, 5, none⟩ = some (.int .u64 (Gz.hi s.g)))) ∧ ((World.cell? (((((((v.setCell ⟨k2, 0, none⟩ (.slice a1 LH n1)).setCell ⟨k2, 1, none⟩ (.slice a2 LK n2)).setCell ⟨k2, 2, none⟩ (.int .u64 gm.n)).setCell ⟨k2, 3, none⟩ (.int .u64 gm.nans)).setCell ⟨k2, 4, none⟩ (.int .u64 gm.lo)).setCell ⟨k2, 5, none⟩ (.int .u64 gm.hi))) ⟨k', 0, none⟩ = some (.slice (Hd.a h') (Hd.n h') (Hd.c h'))) ∧ (World.cell? (((((((v.setCell ⟨k2, 0, none⟩ (.slice a1 LH n1)).setCell ⟨k2, 1, none⟩ (.slice a2 LK n2)).setCell ⟨k2, 2, none⟩ (.int .u64 gm.n)).setCell ⟨k2, 3, none⟩ (.int .u64 gm.nans)).setCell ⟨k2, 4, none⟩ (.int .u64 gm.lo)).setCell ⟨k2, 5, none⟩ (.int .u64 gm.hi))) ⟨k', 1, none⟩ = some (.slice (Hd.k h') (Hd.m h') (Hd.d h'))) ∧ (World.cell? (((((((v.setCell ⟨k2, 0, none⟩ (.slice a1 LH n1)).setCell ⟨k2, 1, none⟩ (.slice a2 LK n2)).setCell ⟨k2, 2, none⟩ (.int .u64 gm.n)).setCell ⟨k2, 3, none⟩ (.int .u64 gm.nans)).setCell ⟨k2, 4, none⟩ (.int .u64 gm.lo)).setCell ⟨k2, 5, none⟩ (.int .u64 gm.hi))) ⟨k', 2, none⟩ = some (.int .u64 (Gz.n s'.g))) ∧ (World.cell? (((((((v.setCell ⟨k2, 0, none⟩ (.slice a1 LH n1)).setCell ⟨k2, 1, none⟩ (.slice a2 LK n2)).setCell ⟨k2, 2, none⟩ (.int .u64 gm.n)).setCell ⟨k2, 3, none⟩ (.int .u64 gm.nans)).setCell ⟨k2, 4, none⟩ (.int .u64 gm.lo)).setCell ⟨k2, 5, none⟩ (.int .u64 gm.hi))) ⟨k', 3, none⟩ = some (.int .u64 (Gz.nans s'.g))) ∧ (World.cell? (((((((v.setCell ⟨k2, 0, none⟩ (.slice a1 LH n1)).setCell ⟨k2, 1, none⟩ (.slice a2 LK n2)).setCell ⟨k2, 2, none⟩ (.int .u64 gm.n)).setCell ⟨k2, 3, none⟩ (.int .u64 gm.nans)).setCell ⟨k2, 4, none⟩ (.int .u64 gm.lo)).setCell ⟨k2, 5, none⟩ (.int .u64 gm.hi))) ⟨k', 4, none⟩ = some (.int .u64 (Gz.lo s'.g))) ∧ (World.cell? (((((((v.setCell ⟨k2, 0, none⟩ (.slice a1 LH n1)).setCell ⟨k2, 1, none⟩ (.slice a2 LK n2)).setCell ⟨k2, 2, none⟩ (.int .u64 gm.n)).setCell ⟨k2, 3, none⟩ (.int .u64 gm.nans)).setCell ⟨k2, 4, none⟩ (.int .u64 gm.lo)).setCell ⟨k2, 5, none⟩ (.int .u64 gm.hi))) ⟨k', 5, none⟩ = some (.int .u64 (Gz.hi s'.g)))) ∧ Hid (k < (((((((v.setCell ⟨k2, 0, none⟩ (.slice a1 LH n1)).setCell ⟨k2, 1, none⟩ (.slice a2 LK n2)).setCell ⟨k2, 2, none⟩ (.int .u64 gm.n)).setCell ⟨k2, 3, none⟩ (.int .u64 gm.nans)).setCell ⟨k2, 4, none⟩ (.int .u64 gm.lo)).setCell ⟨k2, 5, none⟩ (.int .u64 gm.hi))).heap.size ∧ k' < (((((((v.setCell ⟨k2, 0, none⟩ (.slice a1 LH n1)).setCell ⟨k2, 1, none⟩ (.slice a2 LK n2)).setCell ⟨k2, 2, none⟩ (.int .u64 gm.n)).setCell ⟨k2, 3, none⟩ (.int .u64 gm.nans)).setCell ⟨k2, 4, none⟩ (.int .u64 gm.lo)).setCell ⟨k2, 5, none⟩ (.int .u64 gm.hi))).heap.size ∧ w.heap.size ≤ (((((((v.setCell ⟨k2, 0, none⟩ (.slice a1 LH n1)).setCell ⟨k2, 1, none⟩ (.slice a2 LK n2)).setCell ⟨k2, 2, none⟩ (.int .u64 gm.n)).setCell ⟨k2, 3, none⟩ (.int .u64 gm.nans)).setCell ⟨k2, 4, none⟩ (.int .u64 gm.lo)).setCell ⟨k2, 5, none⟩ (.int .u64 gm.hi))).heap.size ∧ Below w.heap.size w ((((((v.setCell ⟨k2, 0, none⟩ (.slice a1 LH n1)).setCell ⟨k2, 1, none⟩ (.slice a2 LK n2)).setCell ⟨k2, 2, none⟩ (.int .u64 gm.n)).setCell ⟨k2, 3, none⟩ (.int .u64 gm.nans)).setCell ⟨k2, 4, none⟩ (.int .u64 gm.lo)).setCell ⟨k2, 5, none⟩ (.int .u64 gm.hi))))) := fun v a1 n1 a2 n2 x => keep2p NE ⟨a1, LH, n1, a2, LK, n2⟩ gm x
  go_enter Try.func19, Try.ntmps19
  go_upto_region 1 with fail
  rw [hw0.out, hk.out, hk'.out, hk2.out]
  clear hw0 hk hk' hk2 B B' A
  go_region_held3 (fun w' => ((World.cell? w' ⟨k, 0, none⟩ = some (.slice (Hd.a h) (Hd.n h) (Hd.c h))) ∧ (World.cell? w' ⟨k, 1, none⟩ = some (.slice (Hd.k h) (Hd.m h) (Hd.d h))) ∧ (World.cell? w' ⟨k, 2, none⟩ = some (.int .u64 (Gz.n s.g))) ∧ (World.cell? w' ⟨k, 3, none⟩ = some (.int .u64 (Gz.nans s.g))) ∧ (World.cell? w' ⟨k, 4, none⟩ = some (.int .u64 (Gz.lo s.g))) ∧ (World.cell? w' ⟨k, 5, none⟩ = some (.int .u64 (Gz.hi s.g)))) ∧ ((World.cell? w' ⟨k', 0, none⟩ = some (.slice (Hd.a h') (Hd.n h') (Hd.c h'))) ∧ (World.cell? w' ⟨k', 1, none⟩ = some (.slice (Hd.k h') (Hd.m h') (Hd.d h'))) ∧ (World.cell? w' ⟨k', 2, none⟩ = some (.int .u64 (Gz.n s'.g))) ∧ (World.cell? w' ⟨k', 3, none⟩ = some (.int .u64 (Gz.nans s'.g))) ∧ (World.cell? w' ⟨k', 4, none⟩ = some (.int .u64 (Gz.lo s'.g))) ∧ (World.cell? w' ⟨k', 5, none⟩ = some (.int .u64 (Gz.hi s'.g)))) ∧ Hid (k < w'.heap.size ∧ k' < w'.heap.size ∧ w.heap.size ≤ w'.heap.size ∧ Below w.heap.size w w')) (first | with_reducible exact KP.out _ _ _ _ _ (by assumption) | with_reducible exact S0.out | with_reducible exact keep2s (by assumption) (by assumption)) (first
    | (go_at_call 39; with_reducible refine (C1.out _ S0.out.2.2.out.2.2.2).mono ?_; rintro e v1 ⟨a1, n1, rfl, o1, b1⟩; have S1 := hide (keep2s b1 S0.out); have O1 := hide o1; have A1 := hide (AD.out.below b1 AD.out.lt))
    | (go_at_call 40; with_reducible refine (C2.out _ S1.out.2.2.out.2.2.2).mono ?_; rintro e v2 ⟨a2, n2, rfl, r2, u2, b2⟩; have S2 := hide (keep2s b2 S1.out); have O2 := hide (O1.out.below b2 (Nat.le_refl _)); have R2 := hide r2.words; have U2 := hide u2; have A2 := hide (A1.out.below b2 A1.out.lt))
    | (go_at_call 41; with_reducible refine (C3.out _).mono ?_; rintro e v3 ⟨rfl, b3⟩; have S3 := hide (keep2s b3 S2.out); have O3 := hide (O2.out.below b3 (Nat.le_refl _)); have U3 := hide (Own.below U2.out b3 (Nat.le_refl _)); have A3 := hide (A2.out.below b3 A2.out.lt); obtain ⟨_, ⟨d0, d1, d2, d3, d4, d5⟩, df⟩ := A3.out; have f0 := df 0; have f1 := df 1; have f2 := df 2; have f3 := df 3; have f4 := df 4; have f5 := df 5; clear df; dsimp only [hd0, g0] at d0 d1 d2 d3 d4 d5))
  have F := hide (A3.out.put ⟨a1, LH, n1, a2, LK, n2⟩ gm)
  have zs : Hid (k2 < w0.heap.size ∧ w0.heap.size ≤ v1.heap.size) := ⟨AD.out.lt, b1.size⟩
  have M := hide (made_of (w := put6 v3 k2 ⟨a1, LH, n1, a2, LK, n2⟩ gm) (base := w0.heap.size) (h := ⟨a1, LH, n1, a2, LK, n2⟩) (s := ⟨hm, km, gm⟩) (ownb_put O3.out zs.out.1 _ _) (Own.mono (ownu_put U3.out (Nat.lt_of_lt_of_le zs.out.1 zs.out.2) _ _) zs.out.2) GF.out R2.out GW2.out (by have := GS.out; show LH * 16 ≤ _; omega) (by show LK * 8 ≤ _; omega))
  have L3 := hide (below_put S3.out.2.2.out.2.2.2 NE.out.2.2 ⟨a1, LH, n1, a2, LK, n2⟩ gm)
  go_wp2
  obtain ⟨_, ⟨e0, e1, e2, e3, e4, e5⟩, _⟩ := F.out
  unfold put6 at e0 e1 e2 e3 e4 e5
  dsimp only at e0 e1 e2 e3 e4 e5
  exact bodyPost_ret (v := .agg #[.slice a1 LH n1, .slice a2 LK n2, .int .u64 gm.n, .int .u64 gm.nans, .int .u64 gm.lo, .int .u64 gm.hi]) (by simp [results, Try.results19, go_sem, e0, e1, e2, e3, e4, e5]) rfl ⟨⟨a1, LH, n1, a2, LK, n2⟩, rfl, ⟨M.out.oh.mono LW.out, Own.mono M.out.ok LW.out, M.out.see⟩, L3.out⟩

theorem Try.infoS : (Try.prog.info? 30).map (fun i => (i.zero, i.size, i.bytes)) = some (some (.agg #[.slice none 0 0, .slice none 0 0, .int .u64 0, .int .u64 0, .int .u64 0, .int .u64 0]), 6, 80) := by kernel_rfl
def sixV (x : Hd × Sp) : List Value := [.slice x.1.a x.1.n x.1.c, .slice x.1.k x.1.m x.1.d, .int .u64 x.2.g.n, .int .u64 x.2.g.nans, .int .u64 x.2.g.lo, .int .u64 x.2.g.hi]
def flatS (l : List (Hd × Sp)) : List Value := l.flatMap sixV
theorem flatS_cons (x : Hd × Sp) (l : List (Hd × Sp)) : flatS (x :: l) = sixV x ++ flatS l := by simp [flatS]
theorem flatS_append (l m : List (Hd × Sp)) : flatS (l ++ m) = flatS l ++ flatS m := by simp [flatS]
theorem flatS_len (l : List (Hd × Sp)) : (flatS l).length = l.length * 6 := by
  induction l with
  | nil => rfl
  | cons x t ih => rw [flatS_cons, List.length_append, ih]; simp only [sixV, List.length_cons, List.length_nil]; omega
theorem flatS_get (l : List (Hd × Sp)) (i : Nat) (x : Hd × Sp) (h : l[i]? = some x) (r : Nat) (hr : r < 6) : (flatS l)[i * 6 + r]? = (sixV x)[r]? := by
  induction l generalizing i with
  | nil => simp at h
  | cons y t ih =>
    rw [flatS_cons]
    cases i with
    | zero =>
      simp only [List.getElem?_cons_zero, Option.some.injEq] at h
      subst h
      rw [Nat.zero_mul, Nat.zero_add, List.getElem?_append_left (by simp only [sixV, List.length_cons, List.length_nil]; omega)]
    | succ i =>
      simp only [List.getElem?_cons_succ] at h
      rw [List.getElem?_append_right (by simp only [sixV, List.length_cons, List.length_nil]; omega)]
      simp only [sixV, List.length_cons, List.length_nil]
      rw [show (i + 1) * 6 + r - (0 + 1 + 1 + 1 + 1 + 1 + 1) = i * 6 + r by omega]
      exact ih i h
theorem flatS_one (l : List (Hd × Sp)) : ∀ u ∈ flatS l, u.oneCell' = true := by
  intro u hu
  obtain ⟨x, _, hx⟩ := List.mem_flatMap.1 hu
  simp [sixV] at hx
  rcases hx with rfl | rfl | rfl | rfl | rfl | rfl <;> rfl

/-- Sketches in memory of the call's own. -/
def OwnS (w : World) (base : Nat) (a : Option Addr) (n cap : Nat) (l : List (Hd × Sp)) : Prop := w.ownsRow base 30 6 (.slice a n cap) n (flatS l)
theorem ownS_nil (w : World) (base : Nat) : OwnS w base none 0 0 [] := World.ownsRow_nil _ _ _ _
theorem ownS_form {w : World} {base n : Nat} {v : Value} {l : List (Hd × Sp)} (h : w.ownsRow base 30 6 v n (flatS l)) : ∃ a cap, v = .slice a n cap ∧ OwnS w base a n cap l := by
  have h0 := h
  rcases h.2 with ⟨rfl, rfl⟩ | ⟨g, cap, cur, rfl, _⟩
  · exact ⟨none, 0, rfl, h0⟩
  · exact ⟨_, _, rfl, h0⟩
theorem OwnS.len {w : World} {base n cap : Nat} {a : Option Addr} {l : List (Hd × Sp)} (h : OwnS w base a n cap l) : l.length = n := by
  have := h.1
  rw [flatS_len] at this
  omega
theorem OwnS.row {w : World} {base n cap : Nat} {a : Option Addr} {l : List (Hd × Sp)} (h : OwnS w base a n cap l) (hn : n * 80 ≤ 140737488355328) (hs : ∀ x ∈ l, SeeP w x.1 x.2) : RowS w a n l := by
  have hl := h.len
  refine ⟨hl, hn, hs, ?_⟩
  unfold OwnS at h
  rcases id h.2 with ⟨h1, h2⟩ | ⟨g, c, cur, h1, _⟩
  · exact Or.inl h2
  · right
    simp only [Value.slice.injEq, true_and] at h1
    obtain ⟨rfl, rfl⟩ := h1
    refine ⟨g, 0, rfl, fun i x hi => ?_⟩
    have hlt : i < l.length := (List.getElem?_eq_some_iff.1 hi).1
    have e : ∀ r, r < 6 → w.cell? ⟨g, i * 6 + r, none⟩ = (sixV x)[r]? := fun r hr => by
      rw [h.cellAt (i * 6 + r) (by omega), flatS_get l i x hi r hr]
    rw [Nat.zero_add]
    exact ⟨e 0 (by omega), e 1 (by omega), e 2 (by omega), e 3 (by omega), e 4 (by omega), e 5 (by omega)⟩
theorem OwnS.ch {S : Nat → Prop} {w w' : World} {base n cap : Nat} {a : Option Addr} {l : List (Hd × Sp)} (h : OwnS w base a n cap l) (c : Ch S w w') (hn : ∀ g, (Value.slice a n cap).ownBlock = some g → ¬ S g) : OwnS w' base a n cap l := row_ch h c hn
theorem OwnS.below {B : Nat} {w w' : World} {base n cap : Nat} {a : Option Addr} {l : List (Hd × Sp)} (h : OwnS w base a n cap l) (hb : Below B w w') (hB : w.heap.size ≤ B) : OwnS w' base a n cap l := h.ch (Ch.of_below (hb.mono hB)) (fun _ _ => id)
theorem OwnS.block {w : World} {base n cap : Nat} {a : Option Addr} {l : List (Hd × Sp)} (h : OwnS w base a n cap l) : ∀ g, (Value.slice a n cap).ownBlock = some g → base ≤ g := fun _ hg => (row_cells h hg).2
theorem six_cells (w : World) (x : Hd × Sp) (e : TypeId) (j : Nat) (u : Value) (h : (flatS [x])[j]? = some u) : (w.alloc (.cells #[.slice x.1.a x.1.n x.1.c, .slice x.1.k x.1.m x.1.d, .int .u64 x.2.g.n, .int .u64 x.2.g.nans, .int .u64 x.2.g.lo, .int .u64 x.2.g.hi] e)).cell? ((⟨w.heap.size, 0, none⟩ : Addr).add j) = some u := by
  rw [Addr.add_lit, World.cell?_alloc_mark]
  match j, h with
  | 0, h => simpa [flatS, sixV] using h
  | 1, h => simpa [flatS, sixV] using h
  | 2, h => simpa [flatS, sixV] using h
  | 3, h => simpa [flatS, sixV] using h
  | 4, h => simpa [flatS, sixV] using h
  | 5, h => simpa [flatS, sixV] using h
  | n + 6, h => simp [flatS, sixV] at h

/-- One sketch more behind a row of the call's own. -/
theorem wpList_append_ske {P : Program} (w : World) {ops : Array Oper} {rest : List Oper} {o : Oper} {a : Act} {Q : Exit → Act → World → Prop} (hgd : o.guard = none) (s x : Operand) (t : TypeId)
    (ho : o.op = .call { callee := .builtin .append, args := #[s, x], argTypes := #[t, t] })
    (base : Nat) (i : TypeInfo) (ht : P.underlying t = some (.slice 30)) (hi : P.info? 30 = some i) (hz : i.zero = some (.agg #[.slice none 0 0, .slice none 0 0, .int .u64 0, .int .u64 0, .int .u64 0, .int .u64 0])) (hsize : i.size = 6) (hby : i.bytes = 80)
    (ao : Option Addr) (n cap : Nat) (l : List (Hd × Sp)) (hs : a.eval s = .slice ao n cap) (hown : OwnS w base ao n cap l)
    (ad : Addr) (y : Hd × Sp) (hx : a.eval x = .slice (some ad) 1 1) (hc : ∀ j u, (flatS [y])[j]? = some u → w.cell? (ad.add j) = some u)
    (hbytes : (n + 1) * 80 ≤ 140737488355328) (hbase : base ≤ w.heap.size)
    (h : ∀ a' cap' w', OwnS w' base a' (n + 1) cap' (l ++ [y]) → w.grownBy w' (Value.slice ao n cap).ownBlock → wpList P ops Q rest (a.put o.dst (.slice a' (n + 1) cap')) w') : wpList P ops Q (o :: rest) a w := by
  refine wpList_append_own w hgd s x t ho base 30 i (.agg #[.slice none 0 0, .slice none 0 0, .int .u64 0, .int .u64 0, .int .u64 0, .int .u64 0]) 6 80 ht hi hz hsize hby rfl (by decide) _ n (flatS l) hs hown ad 1 1 (flatS [y]) hx (by rw [flatS_len]; rfl) hc (flatS_one [y]) (by unfold maxLen; omega) hbytes hbase ?_
  intro v' w' h1 h2 _
  rw [← flatS_append] at h1
  obtain ⟨a', cap', rfl, h3⟩ := ownS_form h1
  exact h a' cap' w' h3 h2

/-- What the walk is told of a slice of sketches. -/
def IsSks (w : World) (a : Option Addr) (len cap : Nat) (L : List (Hd × Sp)) : Prop := cap * 80 ≤ 140737488351232 ∧ len ≤ cap ∧ (a = none → len = 0 ∧ cap = 0) ∧ RowS w a len L
theorem weightsAll_in {H : Type} {P : Program} {e : TypeId} : ∀ {l : List (DataW H)} {d : DataW H}, d ∈ l → ∀ n ∈ d.weights P e, n ∈ DataW.weightsAll P e l
  | y :: r, d, h, n, hn => by
    simp only [DataW.weightsAll, List.mem_append]
    rcases List.mem_cons.1 h with rfl | h
    · exact Or.inl hn
    · exact Or.inr (weightsAll_in h n hn)

section
variable {H : Type} {enc : TypeId × Value → H} {W : World} {base : Nat} {held : Bool}
theorem ske_trod {fuel : Nat} {cs : List Value} {x : DataW H × List MemPlace} (hl : cs.length = 6) (hf : DataW.trod enc Try.prog W base (fun _ => true) held fuel 30 cs = some x)
    (hw : ∀ n ∈ x.1.weights Try.prog 30, n ≤ reachBytes) : ∃ y : Hd × Sp, cs = sixV y ∧ SeeP W y.1 y.2 := by
  obtain ⟨f0, f1, f2, hu, o0, o1, o2, t0, t1, t2⟩ := ske_fields
  match cs, hl with
  | [c0, c1, c2, c3, c4, c5], _ =>
    obtain ⟨y0, y1, y2, n, hx, _, h0, h1, h2⟩ := trod_struct3 hu hf
    rw [t0, o0, bks_cells] at h0
    rw [t1, o1, u64s_cells] at h1
    rw [t2, o2, gau_cells] at h2
    simp only [List.drop_zero, List.drop_succ_cons, List.take_succ_cons, List.take_zero] at h0 h1 h2
    subst hx
    have hwe : ∀ m ∈ DataW.weightsEach Try.prog [24, 25, 28] [y0.1, y1.1, y2.1], m ≤ reachBytes := by
      intro m hm
      refine hw m ?_
      simp only [DataW.weights, hu, List.map_cons, List.map_nil, t0, t1, t2]
      exact hm
    obtain ⟨ah, nh, ch, rfl⟩ := bks_form h0
    obtain ⟨hs, w0'⟩ := bks_is h0 (fun m hm => hwe m (DataW.weights_mem_each (j := 0) rfl rfl m hm))
    obtain ⟨ak, nk, ck, ks, rfl, w1'⟩ := u64s_is h1 (fun m hm => hwe m (DataW.weights_mem_each (j := 1) rfl rfl m hm))
    obtain ⟨g0, g1, g2, g3, hg, q0, q1, q2, q3, s0, s1, s2, s3⟩ := gau_fields
    obtain ⟨z0, z1, z2, z3, m, _, _, e0, e1, e2, e3⟩ := trod_struct4 hg h2
    rw [s0, q0, u64_cells] at e0
    rw [s1, q1, u64_cells] at e1
    rw [s2, q2, u64_cells] at e2
    rw [s3, q3, u64_cells] at e3
    simp only [List.drop_zero, List.drop_succ_cons, List.take_succ_cons, List.take_zero] at e0 e1 e2 e3
    obtain ⟨x0, d0, -, v0⟩ := DataW.trod_int Try.underlying26 e0
    obtain ⟨x1, d1, -, v1⟩ := DataW.trod_int Try.underlying26 e1
    obtain ⟨x2, d2, -, v2⟩ := DataW.trod_int Try.underlying26 e2
    obtain ⟨x3, d3, -, v3⟩ := DataW.trod_int Try.underlying26 e3
    simp only [List.cons.injEq, and_true] at d0 d1 d2 d3
    subst d0 d1 d2 d3
    exact ⟨(⟨ah, nh, ch, ak, nk, ck⟩, ⟨hs, ks.take nk, ⟨x0, x1, x2, x3⟩⟩), rfl, see_of w0' w1' ⟨word_of_wf v0, word_of_wf v1, word_of_wf v2, word_of_wf v3⟩⟩
end

theorem skes_open {H : Type} {enc : TypeId × Value → H} {W : World} {fuel : Nat} {a : Option Addr} {len cap : Nat} {x : DataW H × List MemPlace} {ts : List TypeId} {ds : List (DataW H)} (h : (DataW.weightsEach Try.prog ts ds).all (· ≤ reachBytes) = true) {j : Nat} (ht : ts[j]? = some 40) (hd : ds[j]? = some x.1)
    (hf : DataW.trod enc Try.prog W 0 (fun _ => true) true fuel 40 [.slice a len cap] = some x) : ∃ L, IsSks W a len cap L := by
  rcases open_slice Try.underlying40 hf with ⟨hcs, _⟩ | ⟨ad, l', c', m, n, D, Pl, hcs, _, hl, _, hm, rfl, hx⟩
  · simp at hcs
    obtain ⟨rfl, rfl, rfl⟩ := hcs
    exact ⟨[], by decide, by decide, fun _ => ⟨rfl, rfl⟩, rfl, by decide, by simp, Or.inl rfl⟩
  · simp at hcs
    obtain ⟨rfl, rfl, rfl⟩ := hcs
    simp only [if_true] at hm
    subst hm
    have hsz := sized_slice h (j := j) (t := 40) (e := 30) ht hd Try.underlying40
    rw [show Try.prog.bytesOf 30 = 80 from by kernel_rfl] at hsz
    simp only [List.length_map, List.length_range, reachBytes] at hsz
    have hwt : ∀ i, i < len → ∀ q ∈ (D i).weights Try.prog 30, q ≤ reachBytes := by
      intro i hi q hq
      have h1 := List.all_eq_true.1 h q (DataW.weights_mem_each ht hd q (by
        simp only [DataW.weights, Try.underlying40, List.mem_cons, List.mem_append]
        exact Or.inr (Or.inl (weightsAll_in (List.mem_map.2 ⟨i, List.mem_range.2 hi, rfl⟩) q hq))))
      simpa using h1
    have each : ∀ i, i < len → ∃ y : Hd × Sp, (∀ k v, (sixV y)[k]? = some v → W.cell? (ad.add (i * 6 + k)) = some v) ∧ SeeP W y.1 y.2 := by
      intro i hi
      obtain ⟨cs', h1, h2⟩ := hx i (by omega)
      rw [ske_cells] at h1
      obtain ⟨_, hlen, hcell⟩ := World.cells?_some h1
      obtain ⟨y, rfl, hs⟩ := ske_trod hlen h2 (hwt i hi)
      refine ⟨y, fun k v hv => ?_, hs⟩
      have hk : k < 6 := by have := (List.getElem?_eq_some_iff.1 hv).1; rw [hlen] at this; exact this
      have := hcell k (by omega)
      rw [add_add] at this
      rw [this, hv]
    have hall : ∀ k, k ≤ len → ∃ L : List (Hd × Sp), L.length = k ∧ (∀ x ∈ L, SeeP W x.1 x.2) ∧ ∀ i y, L[i]? = some y → ∀ q v, (sixV y)[q]? = some v → W.cell? (ad.add (i * 6 + q)) = some v := by
      intro k
      induction k with
      | zero => intro _; exact ⟨[], rfl, by simp, fun i y hi => by simp at hi⟩
      | succ k ih =>
        intro hk
        obtain ⟨L, h1, h2, h3⟩ := ih (by omega)
        obtain ⟨y, g1, g2⟩ := each k (by omega)
        refine ⟨L ++ [y], by simp [h1], ?_, fun i z hi => ?_⟩
        · intro z hz
          rcases List.mem_append.1 hz with hz | hz
          · exact h2 z hz
          · rw [List.mem_singleton.1 hz]; exact g2
        · by_cases hik : i < k
          · rw [List.getElem?_append_left (by omega)] at hi
            exact h3 i z hi
          · have hi2 : i < (L ++ [y]).length := (List.getElem?_eq_some_iff.1 hi).1
            simp only [List.length_append, List.length_cons, List.length_nil] at hi2
            have : i = k := by omega
            subst this
            rw [List.getElem?_append_right (by omega), h1] at hi
            simp at hi
            subst hi
            exact g1
    obtain ⟨L, h1, h2, h3⟩ := hall len (Nat.le_refl _)
    refine ⟨L, by omega, hl, fun h => by simp at h, h1, by omega, h2, ?_⟩
    by_cases h0 : len = 0
    · exact Or.inl h0
    · right
      obtain ⟨b, off, spot⟩ := ad
      have hs : spot = none := by
        have := h3 0 _ (List.getElem?_eq_getElem (show 0 < L.length by omega)) 0 _ rfl
        simpa [Addr.add] using World.cell?_spot this
      subst hs
      refine ⟨b, off, rfl, fun i y hi => ?_⟩
      have c0 := h3 i y hi 0 _ rfl
      have c1 := h3 i y hi 1 _ rfl
      have c2 := h3 i y hi 2 _ rfl
      have c3 := h3 i y hi 3 _ rfl
      have c4 := h3 i y hi 4 _ rfl
      have c5 := h3 i y hi 5 _ rfl
      rw [Addr.add_lit] at c0 c1 c2 c3 c4 c5
      exact ⟨c0, c1, c2, c3, c4, c5⟩
end Go.Proofs.Ytadcaonkmncgoaa
