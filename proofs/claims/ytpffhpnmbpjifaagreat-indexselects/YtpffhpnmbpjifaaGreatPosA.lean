/-
  The document's examples of layer 13 hold (awake), over what is asked of post's functions.
  Conditions: post's functions do what is asked.
-/
import Derived.Test.YtpffhpnmbpjifaaGreatPosI
namespace Go.Proofs.YtpffhpnmbpjifaaGreat
open Go.RowKit
set_option maxRecDepth 20000

theorem sli_new (w : World) (zs : List Int) (e : TypeId) (hz : ∀ z ∈ zs, (Lit.int .i64 z).wf = true) (hn : zs.length ≤ 1000) : SlI (w.alloc (.cells (zs.map (Value.int .i64)).toArray e)) (some ⟨w.heap.size, 0, none⟩) zs.length zs.length zs := by
  refine ⟨⟨rfl, by omega, hz, Or.inr ⟨w.heap.size, 0, rfl, fun i hi => ?_⟩⟩, Nat.le_refl _, fun h => by cases h⟩
  have h := heap_alloc_new w (.cells (zs.map (Value.int .i64)).toArray e)
  simp only [World.cell?, h]
  simp [hi]
theorem rowii_new (w : World) (hs : List (Option Addr × Nat × Nat)) (ls : List (List Int)) (e : TypeId) (hl : ls.length = hs.length) (hn : hs.length ≤ 10)
    (hc : ∀ i (hi : i < hs.length), SlI w hs[i].1 hs[i].2.1 hs[i].2.2 (ls.getD i [])) : RowII (w.alloc (.cells (hs.map fun h => Value.slice h.1 h.2.1 h.2.2).toArray e)) (some ⟨w.heap.size, 0, none⟩) hs.length ls := by
  refine ⟨hl, by omega, Or.inr ⟨w.heap.size, 0, rfl, fun i hi => ⟨hs[i].1, hs[i].2.1, hs[i].2.2, ?_, (hc i hi).below ((Below.refl _ _).alloc (Nat.le_refl _) _) (Nat.le_refl _)⟩⟩⟩
  have h := heap_alloc_new w (.cells (hs.map fun h => Value.slice h.1 h.2.1 h.2.2).toArray e)
  simp only [World.cell?, h]
  simp [hi]
theorem ex_and : mostS [[1, 3, 5], [3, 4, 5]] 2 = [3, 5] := by decide +kernel
theorem ex_most : mostS [[1, 2], [2, 3], [2]] 2 = [2] := by decide +kernel
theorem ex_from : mostS [[1, 2]] 1 = [1, 2] := by decide +kernel

end Go.Proofs.YtpffhpnmbpjifaaGreat
