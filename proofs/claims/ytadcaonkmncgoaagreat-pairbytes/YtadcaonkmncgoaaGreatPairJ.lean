/-
  Sketches that may be, put together: turned round, grouped, with none: plain laws; what the laws ask of the program's own Sum.
  Conditions: the sketches may be ones.
-/
import Derived.Test.YtadcaonkmncgoaaGreatPairP
namespace Go.Proofs.YtadcaonkmncgoaaGreat
open Go.RowKit
set_option maxRecDepth 20000

theorem Sp.ext' {s t : Sp} (h : s.hist = t.hist) (k : s.keys = t.keys) (g : s.g = t.g) : s = t := by
  obtain ⟨_, _, _⟩ := s; obtain ⟨_, _, _⟩ := t
  simp only at h k g
  rw [h, k, g]
theorem Ok.merge {s t : Sp} (a : Ok s) (b : Ok t) : Ok (mergeP s t) := by
  have hw : ∀ x ∈ (uni s.keys t.keys).take 1024, W64 x := fun x hx => (mem_take_uni hx).elim (a.w x) (b.w x)
  exact ⟨a.h.mrg b.h, up_chk (up_take (up_uni (chk_up a.k).1) 1024) (by show ((uni s.keys t.keys).take 1024).length ≤ 1024; rw [List.length_take]; omega) hw, hw, mergeG_word a.g b.g, mergeG_chk a.g b.g a.c b.c⟩
theorem mergeP_turn {s t : Sp} (a : Ok s) (b : Ok t) : mergeP s t = mergeP t s :=
  Sp.ext' (mrg_comm a.h b.h) (by show (uni _ _).take 1024 = (uni _ _).take 1024; rw [uni_comm (chk_up a.k).1 (chk_up b.k).1]) (mergeG_turn a.g b.g a.c b.c)
theorem uni_take_right {a b : List Int} (ha : Up a) (hb : Up b) (n : Nat) : (uni a (b.take n)).take n = (uni a b).take n := by
  rw [uni_comm ha (up_take hb n), uni_take_left, uni_comm hb ha]
theorem mergeP_group {s t u : Sp} (a : Ok s) (b : Ok t) (c : Ok u) : mergeP (mergeP s t) u = mergeP s (mergeP t u) :=
  Sp.ext' (mrg_assoc a.h b.h c.h) (by
    show (uni ((uni s.keys t.keys).take 1024) u.keys).take 1024 = (uni s.keys ((uni t.keys u.keys).take 1024)).take 1024
    rw [uni_take_left, uni_take_right (chk_up a.k).1 (up_uni (chk_up b.k).1), uni_assoc (chk_up a.k).1]) (mergeG_group a.g b.g c.g a.c b.c c.c)
theorem ok_zero : Ok zeroP := ⟨⟨by decide, (fun x hx => by cases hx)⟩, by decide, (fun x hx => by cases hx), g0W, chk0⟩
theorem merge_zero {s : Sp} (a : Ok s) : mergeP s zeroP = s :=
  Sp.ext' (mrg_nil _) (by show (uni s.keys []).take 1024 = s.keys; rw [uni]; exact List.take_of_length_le (chk_up a.k).2) (merge_g0 a.g a.c)
theorem zero_merge {s : Sp} (a : Ok s) : mergeP zeroP s = s := by rw [mergeP_turn ok_zero a, merge_zero a]

/-- A slice of n sketches. -/
def RowS (w : World) (a : Option Addr) (n : Nat) (L : List (Hd × Sp)) : Prop :=
  L.length = n ∧ n * 80 ≤ 140737488355328 ∧ (∀ x ∈ L, SeeP w x.1 x.2) ∧
  (n = 0 ∨ ∃ b off, a = some ⟨b, off, none⟩ ∧ ∀ i x, L[i]? = some x → w.cell? ⟨b, off + i * 6, none⟩ = some (.slice x.1.a x.1.n x.1.c) ∧ w.cell? ⟨b, off + i * 6 + 1, none⟩ = some (.slice x.1.k x.1.m x.1.d) ∧ w.cell? ⟨b, off + i * 6 + 2, none⟩ = some (.int .u64 x.2.g.n) ∧ w.cell? ⟨b, off + i * 6 + 3, none⟩ = some (.int .u64 x.2.g.nans) ∧ w.cell? ⟨b, off + i * 6 + 4, none⟩ = some (.int .u64 x.2.g.lo) ∧ w.cell? ⟨b, off + i * 6 + 5, none⟩ = some (.int .u64 x.2.g.hi))
def sumP (L : List Sp) : Sp := L.foldl mergeP zeroP
section
variable {w v v' : World} {L : List (Nat × Hd × Sp)} {k0 k1 : Nat} {h0 h1 : Hd} {s0 s1 : Sp}
theorem keepL2 (i j : Nat) (e0 : L[i]? = some (k0, h0, s0)) (e1 : L[j]? = some (k1, h1, s1)) (hb : Below v.heap.size v v') (q : ((World.cell? v ⟨k0, 0, none⟩ = some (.slice (Hd.a h0) (Hd.n h0) (Hd.c h0))) ∧ (World.cell? v ⟨k0, 1, none⟩ = some (.slice (Hd.k h0) (Hd.m h0) (Hd.d h0))) ∧ (World.cell? v ⟨k0, 2, none⟩ = some (.int .u64 (Gz.n s0.g))) ∧ (World.cell? v ⟨k0, 3, none⟩ = some (.int .u64 (Gz.nans s0.g))) ∧ (World.cell? v ⟨k0, 4, none⟩ = some (.int .u64 (Gz.lo s0.g))) ∧ (World.cell? v ⟨k0, 5, none⟩ = some (.int .u64 (Gz.hi s0.g)))) ∧ ((World.cell? v ⟨k1, 0, none⟩ = some (.slice (Hd.a h1) (Hd.n h1) (Hd.c h1))) ∧ (World.cell? v ⟨k1, 1, none⟩ = some (.slice (Hd.k h1) (Hd.m h1) (Hd.d h1))) ∧ (World.cell? v ⟨k1, 2, none⟩ = some (.int .u64 (Gz.n s1.g))) ∧ (World.cell? v ⟨k1, 3, none⟩ = some (.int .u64 (Gz.nans s1.g))) ∧ (World.cell? v ⟨k1, 4, none⟩ = some (.int .u64 (Gz.lo s1.g))) ∧ (World.cell? v ⟨k1, 5, none⟩ = some (.int .u64 (Gz.hi s1.g)))) ∧ Hid (Pool w v L)) : ((World.cell? v' ⟨k0, 0, none⟩ = some (.slice (Hd.a h0) (Hd.n h0) (Hd.c h0))) ∧ (World.cell? v' ⟨k0, 1, none⟩ = some (.slice (Hd.k h0) (Hd.m h0) (Hd.d h0))) ∧ (World.cell? v' ⟨k0, 2, none⟩ = some (.int .u64 (Gz.n s0.g))) ∧ (World.cell? v' ⟨k0, 3, none⟩ = some (.int .u64 (Gz.nans s0.g))) ∧ (World.cell? v' ⟨k0, 4, none⟩ = some (.int .u64 (Gz.lo s0.g))) ∧ (World.cell? v' ⟨k0, 5, none⟩ = some (.int .u64 (Gz.hi s0.g)))) ∧ ((World.cell? v' ⟨k1, 0, none⟩ = some (.slice (Hd.a h1) (Hd.n h1) (Hd.c h1))) ∧ (World.cell? v' ⟨k1, 1, none⟩ = some (.slice (Hd.k h1) (Hd.m h1) (Hd.d h1))) ∧ (World.cell? v' ⟨k1, 2, none⟩ = some (.int .u64 (Gz.n s1.g))) ∧ (World.cell? v' ⟨k1, 3, none⟩ = some (.int .u64 (Gz.nans s1.g))) ∧ (World.cell? v' ⟨k1, 4, none⟩ = some (.int .u64 (Gz.lo s1.g))) ∧ (World.cell? v' ⟨k1, 5, none⟩ = some (.int .u64 (Gz.hi s1.g)))) ∧ Hid (Pool w v' L) :=
  have p := q.2.2.out.below hb
  ⟨p.at i e0, p.at j e1, p⟩
theorem keepA (i j : Nat) (e0 : L[i]? = some (k0, h0, s0)) (e1 : L[j]? = some (k1, h1, s1)) (p : Pool w v L) (o : Obj) : ((World.cell? ((v.alloc o)) ⟨k0, 0, none⟩ = some (.slice (Hd.a h0) (Hd.n h0) (Hd.c h0))) ∧ (World.cell? ((v.alloc o)) ⟨k0, 1, none⟩ = some (.slice (Hd.k h0) (Hd.m h0) (Hd.d h0))) ∧ (World.cell? ((v.alloc o)) ⟨k0, 2, none⟩ = some (.int .u64 (Gz.n s0.g))) ∧ (World.cell? ((v.alloc o)) ⟨k0, 3, none⟩ = some (.int .u64 (Gz.nans s0.g))) ∧ (World.cell? ((v.alloc o)) ⟨k0, 4, none⟩ = some (.int .u64 (Gz.lo s0.g))) ∧ (World.cell? ((v.alloc o)) ⟨k0, 5, none⟩ = some (.int .u64 (Gz.hi s0.g)))) ∧ ((World.cell? ((v.alloc o)) ⟨k1, 0, none⟩ = some (.slice (Hd.a h1) (Hd.n h1) (Hd.c h1))) ∧ (World.cell? ((v.alloc o)) ⟨k1, 1, none⟩ = some (.slice (Hd.k h1) (Hd.m h1) (Hd.d h1))) ∧ (World.cell? ((v.alloc o)) ⟨k1, 2, none⟩ = some (.int .u64 (Gz.n s1.g))) ∧ (World.cell? ((v.alloc o)) ⟨k1, 3, none⟩ = some (.int .u64 (Gz.nans s1.g))) ∧ (World.cell? ((v.alloc o)) ⟨k1, 4, none⟩ = some (.int .u64 (Gz.lo s1.g))) ∧ (World.cell? ((v.alloc o)) ⟨k1, 5, none⟩ = some (.int .u64 (Gz.hi s1.g)))) ∧ Hid (Pool w (v.alloc o) L) :=
  have p := p.alloc o
  ⟨p.at i e0, p.at j e1, p⟩
end
/-- A box that was made (with nothing in it) when the pool was as in 'Wa', and is yet to be written. -/
structure Zb (w Wa W : World) (L : List (Nat × Hd × Sp)) (b : Nat) : Prop where
  pool : Pool w Wa L
  eq : Wa.heap.size = b
  box : SBox W b hd0 g0
  low : Below Wa.heap.size Wa W
section
variable {w Wa W W' : World} {L : List (Nat × Hd × Sp)} {b : Nat}
theorem Zb.new (p : Pool w W L) (t : TypeId) : Zb w W (W.alloc (.cells #[.slice none 0 0, .slice none 0 0, .int .u64 0, .int .u64 0, .int .u64 0, .int .u64 0] t)) L W.heap.size :=
  ⟨p, rfl, SBox.new W t hd0 g0, (Below.refl _ _).alloc (Nat.le_refl _) _⟩
theorem Zb.below (z : Zb w Wa W L b) (h : Below W.heap.size W W') : Zb w Wa W' L b := ⟨z.pool, z.eq, z.box.below h z.box.lt, bel_to z.low (Nat.le_refl _) h⟩
theorem Zb.newd (p : Pool w W L) (t : TypeId) : Zb w W (W.alloc (.cells #[.slice none 0 0, .slice none 0 0, .int .u64 0, .int .u64 0, .int .u64 0, .int .u64 0] t)).drew L W.heap.size := (Zb.new p t).below (Below.refl _ _).drew
theorem Zb.kept (z : Zb w Wa W L b) (x0 x1 x2 x3 x4 x5 : Value) : Pool w ((((((W.setCell ⟨b, 0, none⟩ x0).setCell ⟨b, 1, none⟩ x1).setCell ⟨b, 2, none⟩ x2).setCell ⟨b, 3, none⟩ x3).setCell ⟨b, 4, none⟩ x4).setCell ⟨b, 5, none⟩ x5) L := by
  have hB : Wa.heap.size ≤ b := Nat.le_of_eq z.eq
  exact z.pool.below ((((((z.low.setCell (p := ⟨b, 0, none⟩) hB _).setCell (p := ⟨b, 1, none⟩) hB _).setCell (p := ⟨b, 2, none⟩) hB _).setCell (p := ⟨b, 3, none⟩) hB _).setCell (p := ⟨b, 4, none⟩) hB _).setCell (p := ⟨b, 5, none⟩) hB _)
theorem keepZ {k0 k1 : Nat} {h0 h1 : Hd} {s0 s1 : Sp} (i j : Nat) (e0 : L[i]? = some (k0, h0, s0)) (e1 : L[j]? = some (k1, h1, s1)) (z : Zb w Wa W L b) (x0 x1 x2 x3 x4 x5 : Value) :
    ((World.cell? (((((((W.setCell ⟨b, 0, none⟩ x0).setCell ⟨b, 1, none⟩ x1).setCell ⟨b, 2, none⟩ x2).setCell ⟨b, 3, none⟩ x3).setCell ⟨b, 4, none⟩ x4).setCell ⟨b, 5, none⟩ x5)) ⟨k0, 0, none⟩ = some (.slice (Hd.a h0) (Hd.n h0) (Hd.c h0))) ∧ (World.cell? (((((((W.setCell ⟨b, 0, none⟩ x0).setCell ⟨b, 1, none⟩ x1).setCell ⟨b, 2, none⟩ x2).setCell ⟨b, 3, none⟩ x3).setCell ⟨b, 4, none⟩ x4).setCell ⟨b, 5, none⟩ x5)) ⟨k0, 1, none⟩ = some (.slice (Hd.k h0) (Hd.m h0) (Hd.d h0))) ∧ (World.cell? (((((((W.setCell ⟨b, 0, none⟩ x0).setCell ⟨b, 1, none⟩ x1).setCell ⟨b, 2, none⟩ x2).setCell ⟨b, 3, none⟩ x3).setCell ⟨b, 4, none⟩ x4).setCell ⟨b, 5, none⟩ x5)) ⟨k0, 2, none⟩ = some (.int .u64 (Gz.n s0.g))) ∧ (World.cell? (((((((W.setCell ⟨b, 0, none⟩ x0).setCell ⟨b, 1, none⟩ x1).setCell ⟨b, 2, none⟩ x2).setCell ⟨b, 3, none⟩ x3).setCell ⟨b, 4, none⟩ x4).setCell ⟨b, 5, none⟩ x5)) ⟨k0, 3, none⟩ = some (.int .u64 (Gz.nans s0.g))) ∧ (World.cell? (((((((W.setCell ⟨b, 0, none⟩ x0).setCell ⟨b, 1, none⟩ x1).setCell ⟨b, 2, none⟩ x2).setCell ⟨b, 3, none⟩ x3).setCell ⟨b, 4, none⟩ x4).setCell ⟨b, 5, none⟩ x5)) ⟨k0, 4, none⟩ = some (.int .u64 (Gz.lo s0.g))) ∧ (World.cell? (((((((W.setCell ⟨b, 0, none⟩ x0).setCell ⟨b, 1, none⟩ x1).setCell ⟨b, 2, none⟩ x2).setCell ⟨b, 3, none⟩ x3).setCell ⟨b, 4, none⟩ x4).setCell ⟨b, 5, none⟩ x5)) ⟨k0, 5, none⟩ = some (.int .u64 (Gz.hi s0.g)))) ∧ ((World.cell? (((((((W.setCell ⟨b, 0, none⟩ x0).setCell ⟨b, 1, none⟩ x1).setCell ⟨b, 2, none⟩ x2).setCell ⟨b, 3, none⟩ x3).setCell ⟨b, 4, none⟩ x4).setCell ⟨b, 5, none⟩ x5)) ⟨k1, 0, none⟩ = some (.slice (Hd.a h1) (Hd.n h1) (Hd.c h1))) ∧ (World.cell? (((((((W.setCell ⟨b, 0, none⟩ x0).setCell ⟨b, 1, none⟩ x1).setCell ⟨b, 2, none⟩ x2).setCell ⟨b, 3, none⟩ x3).setCell ⟨b, 4, none⟩ x4).setCell ⟨b, 5, none⟩ x5)) ⟨k1, 1, none⟩ = some (.slice (Hd.k h1) (Hd.m h1) (Hd.d h1))) ∧ (World.cell? (((((((W.setCell ⟨b, 0, none⟩ x0).setCell ⟨b, 1, none⟩ x1).setCell ⟨b, 2, none⟩ x2).setCell ⟨b, 3, none⟩ x3).setCell ⟨b, 4, none⟩ x4).setCell ⟨b, 5, none⟩ x5)) ⟨k1, 2, none⟩ = some (.int .u64 (Gz.n s1.g))) ∧ (World.cell? (((((((W.setCell ⟨b, 0, none⟩ x0).setCell ⟨b, 1, none⟩ x1).setCell ⟨b, 2, none⟩ x2).setCell ⟨b, 3, none⟩ x3).setCell ⟨b, 4, none⟩ x4).setCell ⟨b, 5, none⟩ x5)) ⟨k1, 3, none⟩ = some (.int .u64 (Gz.nans s1.g))) ∧ (World.cell? (((((((W.setCell ⟨b, 0, none⟩ x0).setCell ⟨b, 1, none⟩ x1).setCell ⟨b, 2, none⟩ x2).setCell ⟨b, 3, none⟩ x3).setCell ⟨b, 4, none⟩ x4).setCell ⟨b, 5, none⟩ x5)) ⟨k1, 4, none⟩ = some (.int .u64 (Gz.lo s1.g))) ∧ (World.cell? (((((((W.setCell ⟨b, 0, none⟩ x0).setCell ⟨b, 1, none⟩ x1).setCell ⟨b, 2, none⟩ x2).setCell ⟨b, 3, none⟩ x3).setCell ⟨b, 4, none⟩ x4).setCell ⟨b, 5, none⟩ x5)) ⟨k1, 5, none⟩ = some (.int .u64 (Gz.hi s1.g)))) ∧ Hid (Pool w ((((((W.setCell ⟨b, 0, none⟩ x0).setCell ⟨b, 1, none⟩ x1).setCell ⟨b, 2, none⟩ x2).setCell ⟨b, 3, none⟩ x3).setCell ⟨b, 4, none⟩ x4).setCell ⟨b, 5, none⟩ x5) L) :=
  have p := z.kept x0 x1 x2 x3 x4 x5
  ⟨p.at i e0, p.at j e1, p⟩
theorem Zb.fin (z : Zb w Wa W L b) {base : Nat} {h : Hd} {s : Sp} (m : MadeP W base h s) (hb : b < base) : Pool w (put6 W b h s.g) (L ++ [(b, h, s)]) := by
  have p := z.kept (.slice h.a h.n h.c) (.slice h.k h.m h.d) (.int .u64 s.g.n) (.int .u64 s.g.nans) (.int .u64 s.g.lo) (.int .u64 s.g.hi)
  refine ⟨p.low, fun x hx => ?_, fun x hx => ?_⟩
  · rcases List.mem_append.1 hx with hx | hx
    · exact p.box x hx
    · rw [List.mem_singleton.1 hx]; exact z.box.put h s.g
  · rcases List.mem_append.1 hx with hx | hx
    · exact p.see x hx
    · rw [List.mem_singleton.1 hx]
      exact (made_of (ownb_put m.oh hb h s.g) (ownu_put m.ok hb h s.g) m.see.rh.2.2.1 m.see.rk.words m.see.g m.see.sh m.see.sk).see
theorem Zb.fin' (z : Zb w Wa W L b) {base : Nat} {h : Hd} {s : Sp} (m : MadeP W base h s) (hb : b < base) : Pool w ((((((W.setCell ⟨b, 0, none⟩ (.slice h.a h.n h.c)).setCell ⟨b, 1, none⟩ (.slice h.k h.m h.d)).setCell ⟨b, 2, none⟩ (.int .u64 s.g.n)).setCell ⟨b, 3, none⟩ (.int .u64 s.g.nans)).setCell ⟨b, 4, none⟩ (.int .u64 s.g.lo)).setCell ⟨b, 5, none⟩ (.int .u64 s.g.hi)) (L ++ [(b, h, s)]) := z.fin m hb
end
end Go.Proofs.YtadcaonkmncgoaaGreat
