/-
  Worlds behind letters; what turned, behind draws and new blocks. No function is named.
  Conditions: as each theorem says.
-/
import Derived.Test.YthlkmjaflomflaaChK
namespace Go.Proofs.Ythlkmjaflomflaa
open Go.RowKit
theorem ch_drewS {S : Nat → Prop} {a b : World} (h : Ch S a b) (q : Nat) : Ch S a (b.drewN q) := ⟨h.os, h.tape, h.output, h.size, h.block⟩
theorem ch_bel {w v u : World} {g : Nat} (h : Ch (fun b => b = g) w v) (k : Below w.heap.size v u) : Ch (fun b => b = g) w u :=
  ⟨k.os.trans h.os, k.tape.trans h.tape, k.output.trans h.output, Nat.le_trans h.size k.size, fun i hi hn => (k.block i hi).trans (h.block i hi hn)⟩
/-- The world behind a letter. -/
theorem wp_world {P : Program} {c : Code} {Q : Exit → Act → World → Prop} {a : Act} {W : World} (S : World → Prop) (h : S W) (k : ∀ u, S u → Code.wp P c Q a u) : Code.wp P c Q a W := k W h
end Go.Proofs.Ythlkmjaflomflaa
