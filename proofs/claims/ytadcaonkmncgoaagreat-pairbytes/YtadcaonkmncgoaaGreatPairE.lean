/-
  What the landed code says of sketches: may it be one, is it empty, are two the same: contracts, for every world.
  Conditions: the sketches lie in memory.
-/
import Derived.Test.YtadcaonkmncgoaaGreatPairI
import Derived.Test.YtadcaonkmncgoaaGreatHistAz
import Derived.Test.YtadcaonkmncgoaaGreatKmvNz
import Derived.Test.YtadcaonkmncgoaaGreatGaugeAz
import Derived.Deep.RegionHeld3
import Derived.Deep.DeepCutAuto
import Derived.Deep.LoopGhost
import Derived.Deep.Draws
import Derived.Shelf.RegionOpenPlain
namespace Go.Proofs.YtadcaonkmncgoaaGreat
open Go.RowKit Go.Shelf
set_option maxRecDepth 20000

theorem ends_ints {xs ys : List Int} {n : Nat} (hx : xs.length = n) (hy : ys.length = n) (h : ∀ j, j < n → xs.getD j 0 = ys.getD j 0) : xs = ys := by
  refine List.ext_getElem (by omega) fun i h1 h2 => ?_
  have := h i (by omega)
  rw [List.getD_eq_getElem?_getD, List.getD_eq_getElem?_getD, List.getElem?_eq_getElem h1, List.getElem?_eq_getElem h2] at this
  simpa using this
theorem ends_bks {xs ys : Bks} {n : Nat} (hx : xs.length = n) (hy : ys.length = n) (h : ∀ j, j < n → xs.getD j (0, 0) = ys.getD j (0, 0)) : xs = ys := by
  refine List.ext_getElem (by omega) fun i h1 h2 => ?_
  have := h i (by omega)
  rw [List.getD_eq_getElem?_getD, List.getD_eq_getElem?_getD, List.getElem?_eq_getElem h1, List.getElem?_eq_getElem h2] at this
  simpa using this

set_option maxHeartbeats 1000000 in
theorem pempty_any (h : Hd) (s : Sp) (w : World) (q : SeeP w h s) :
    Calls Tryz.prog 32 #[(Value.agg #[.slice (Hd.a h) (Hd.n h) (Hd.c h), .slice (Hd.k h) (Hd.m h) (Hd.d h), .int .u64 (Gz.n s.g), .int .u64 (Gz.nans s.g), .int .u64 (Gz.lo s.g), .int .u64 (Gz.hi s.g)])] w fun e w' => e = .returned (.bool (emptyP s)) ∧ Below w.heap.size w w' := by
  have L : Hid (Below w.heap.size w (w.alloc (.cells #[.slice h.a h.n h.c, .slice h.k h.m h.d, .int .u64 s.g.n, .int .u64 s.g.nans, .int .u64 s.g.lo, .int .u64 s.g.hi] 28))) := (Below.refl _ _).alloc (Nat.le_refl _) _
  have e1 : ((h.n : Int) == 0) = decide (s.hist.length = 0) := by rw [q.rh.1, Bool.eq_iff_iff]; simp
  have e2 : ((h.m : Int) == 0) = decide (s.keys.length = 0) := by rw [q.rk.1, Bool.eq_iff_iff]; simp
  unfold emptyP
  generalize decide (s.hist.length = 0) = b1 at *
  generalize decide (s.keys.length = 0) = b2 at *
  obtain ⟨b3, e3⟩ : ∃ b, (s.g.n == 0) = b := ⟨_, rfl⟩
  obtain ⟨b4, e4⟩ : ∃ b, (s.g.nans == 0) = b := ⟨_, rfl⟩
  rw [e3, e4]
  clear q
  cases b1
  · go_enter Tryz.func32, Tryz.ntmps32
    go_wp2
    go_ret
    exact ⟨rfl, L.out⟩
  cases b2
  · go_enter Tryz.func32, Tryz.ntmps32
    go_wp2
    go_ret
    exact ⟨rfl, L.out⟩
  cases b3
  · go_enter Tryz.func32, Tryz.ntmps32
    go_wp2
    go_ret
    exact ⟨rfl, L.out⟩
  · go_enter Tryz.func32, Tryz.ntmps32
    go_wp2
    go_ret
    exact ⟨rfl, L.out⟩

theorem paE : PaE := ⟨pempty_any⟩
end Go.Proofs.YtadcaonkmncgoaaGreat
