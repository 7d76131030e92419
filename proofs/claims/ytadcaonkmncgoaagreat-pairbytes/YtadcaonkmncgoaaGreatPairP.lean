/-
  Several sketches in memory side by side, each in a box of the call's own; what was there before the call is as it was: what calls that make memory leave of them.
  Conditions: none.
-/
import Derived.Test.YtadcaonkmncgoaaGreatPairI
namespace Go.Proofs.YtadcaonkmncgoaaGreat
open Go.RowKit
set_option maxRecDepth 20000

/-- Sketches in boxes. -/
structure Pool (w W : World) (L : List (Nat × Hd × Sp)) : Prop where
  low : Below w.heap.size w W
  box : ∀ x ∈ L, SBox W x.1 x.2.1 x.2.2.g
  see : ∀ x ∈ L, SeeP W x.2.1 x.2.2
section
variable {w W W' : World} {L : List (Nat × Hd × Sp)}
theorem Pool.below (p : Pool w W L) (b : Below W.heap.size W W') : Pool w W' L :=
  ⟨bel_to p.low (Nat.le_refl _) b, fun x hx => (p.box x hx).below b (p.box x hx).lt, fun x hx => (p.see x hx).below b (Nat.le_refl _)⟩
theorem Pool.drew (p : Pool w W L) : Pool w W.drew L := p.below (Below.refl _ _).drew
theorem Pool.alloc (p : Pool w W L) (o : Obj) : Pool w (W.alloc o) L := p.below ((Below.refl _ _).alloc (Nat.le_refl _) o)
/-- One more box. -/
theorem Pool.push (p : Pool w W L) {h : Hd} {s : Sp} (q : SeeP W h s) (t : TypeId) {k : Nat} (hk : W.heap.size = k) :
    Pool w (W.alloc (.cells #[.slice h.a h.n h.c, .slice h.k h.m h.d, .int .u64 s.g.n, .int .u64 s.g.nans, .int .u64 s.g.lo, .int .u64 s.g.hi] t)) (L ++ [(k, h, s)]) := by
  have p' := p.alloc (.cells #[.slice h.a h.n h.c, .slice h.k h.m h.d, .int .u64 s.g.n, .int .u64 s.g.nans, .int .u64 s.g.lo, .int .u64 s.g.hi] t)
  refine ⟨p'.low, fun x hx => ?_, fun x hx => ?_⟩
  · rcases List.mem_append.1 hx with hx | hx
    · exact p'.box x hx
    · rw [List.mem_singleton.1 hx]
      have := SBox.new W t h s.g
      rw [hk] at this
      exact this
  · rcases List.mem_append.1 hx with hx | hx
    · exact p'.see x hx
    · rw [List.mem_singleton.1 hx]; exact q.alloc _
theorem pool_nil (w : World) : Pool w w [] := ⟨Below.refl _ _, (fun x hx => by cases hx), (fun x hx => by cases hx)⟩
/-- The i-th one's cells. -/
theorem Pool.at (p : Pool w W L) (i : Nat) {k : Nat} {h : Hd} {s : Sp} (e : L[i]? = some (k, h, s)) : ((World.cell? W ⟨k, 0, none⟩ = some (.slice (Hd.a h) (Hd.n h) (Hd.c h))) ∧ (World.cell? W ⟨k, 1, none⟩ = some (.slice (Hd.k h) (Hd.m h) (Hd.d h))) ∧ (World.cell? W ⟨k, 2, none⟩ = some (.int .u64 (Gz.n s.g))) ∧ (World.cell? W ⟨k, 3, none⟩ = some (.int .u64 (Gz.nans s.g))) ∧ (World.cell? W ⟨k, 4, none⟩ = some (.int .u64 (Gz.lo s.g))) ∧ (World.cell? W ⟨k, 5, none⟩ = some (.int .u64 (Gz.hi s.g)))) := (p.box _ (List.mem_of_getElem? e)).cells
theorem Pool.sees (p : Pool w W L) (i : Nat) {k : Nat} {h : Hd} {s : Sp} (e : L[i]? = some (k, h, s)) : SeeP W h s := p.see _ (List.mem_of_getElem? e)
end
end Go.Proofs.YtadcaonkmncgoaaGreat
