/-
  No cell of these rows narrows 'for every input' (looked for: loops, veiled, ifaces, maps, wideKeys, modest, calm, conditions, laid).
  DERIVED. THE GIVEN ROWS OF THIS SEAT. 4 by the template 'for every input the law returns true; each argument reads behind the call as it read before'; 0 by the template 'total and deterministic' (their statements: YtllipocbaknkpaaTotals.lean).
  GIVEN WITH THE SEED: the statements are not yours to turn. If you find one false, say at which input.
  Laid BY PROGRAM, IN A SANDBOX (cutbox-rows.mjs): the forced cells as the released guide's own fill.sh prints them over the translation 940d12f49df33085… (all of the seat's roots in one cut). By AI agents, Wed Nov 11 2026. No macro, syntax, notation, axiom, sorry.
-/
import Derived.Test.YtllipocbaknkpaaChecked
import GoSem.Claim
import GoSem.ClaimJoined
import GoSem.ClaimMapViews
import Derived.JoinedTies
import Derived.KernelRfl
namespace Go.Proofs.Ytllipocbaknkpaa
/- THE CELL 'sum', in the pinned program and in every row, IS THE sha256 OF THE DUMP (.gsa) THAT YtllipocbaknkpaaProg.lean LOADS. Nothing in Lean hashes anything: it is a label: what it is worth is what the hold of that sum in a sandbox is worth. -/
noncomputable def Try.pinned : Pinned := { name := "ytllipocbaknkpaa", sum := "940d12f49df330851861bfdba901ea44047349163b947faecb8c9b37820c7245", checked := Try.checked }
namespace Rows
def none {H : Type} : Left H := { results := [], args := [] }

/-- 'varvelaw06.FnvOf': WHATEVER THE INPUT: true; the input reads as it did. -/
def fnvOfSpec : ChangeSpec := { name := "fnvOf", fn := fun _ => fun
  | [d1, d2] => { results := [.lit (.bool true)], args := [d1, d2] }
  | _ => none }
def fnvOfRow : OpenClaim := { program := "ytllipocbaknkpaa", sum := "940d12f49df330851861bfdba901ea44047349163b947faecb8c9b37820c7245", func := "varve/varvelaw06.FnvOf", spec := "fnvOf", apart := false }
def FnvOfSaid : Prop := fnvOfRow.holds Try.pinned (OpenSpec.ofChange fnvOfSpec)

/-- ITS FALSE NEIGHBOUR: 'it returns false'. Refute it at one input. -/
def fnvOfWrong : ChangeSpec := { name := "fnvOf", fn := fun _ => fun
  | [d1, d2] => { results := [.lit (.bool false)], args := [d1, d2] }
  | _ => none }
def FnvOfWrongFalsely : Prop := fnvOfRow.holds Try.pinned (OpenSpec.ofChange fnvOfWrong)

/-- 'varvelaw06.FnvParts': WHATEVER THE INPUT: true; the input reads as it did. -/
def fnvPartsSpec : ChangeSpec := { name := "fnvParts", fn := fun _ => fun
  | [d1, d2] => { results := [.lit (.bool true)], args := [d1, d2] }
  | _ => none }
def fnvPartsRow : OpenClaim := { program := "ytllipocbaknkpaa", sum := "940d12f49df330851861bfdba901ea44047349163b947faecb8c9b37820c7245", func := "varve/varvelaw06.FnvParts", spec := "fnvParts", apart := false }
def FnvPartsSaid : Prop := fnvPartsRow.holds Try.pinned (OpenSpec.ofChange fnvPartsSpec)

/-- ITS FALSE NEIGHBOUR: 'it returns false'. Refute it at one input. -/
def fnvPartsWrong : ChangeSpec := { name := "fnvParts", fn := fun _ => fun
  | [d1, d2] => { results := [.lit (.bool false)], args := [d1, d2] }
  | _ => none }
def FnvPartsWrongFalsely : Prop := fnvPartsRow.holds Try.pinned (OpenSpec.ofChange fnvPartsWrong)

/-- 'varvelaw06.FnvEach': WHATEVER THE INPUT: true; the input reads as it did. -/
def fnvEachSpec : ChangeSpec := { name := "fnvEach", fn := fun _ => fun
  | [d1, d2] => { results := [.lit (.bool true)], args := [d1, d2] }
  | _ => none }
def fnvEachRow : OpenClaim := { program := "ytllipocbaknkpaa", sum := "940d12f49df330851861bfdba901ea44047349163b947faecb8c9b37820c7245", func := "varve/varvelaw06.FnvEach", spec := "fnvEach", unfollowed := true, recurses := true, apart := false }
def FnvEachSaid : Prop := fnvEachRow.holds Try.pinned (OpenSpec.ofChange fnvEachSpec)

/-- ITS FALSE NEIGHBOUR: 'it returns false'. Refute it at one input. -/
def fnvEachWrong : ChangeSpec := { name := "fnvEach", fn := fun _ => fun
  | [d1, d2] => { results := [.lit (.bool false)], args := [d1, d2] }
  | _ => none }
def FnvEachWrongFalsely : Prop := fnvEachRow.holds Try.pinned (OpenSpec.ofChange fnvEachWrong)

/-- 'varvelaw06.FnvLast': WHATEVER THE INPUT: true; the input reads as it did. -/
def fnvLastSpec : ChangeSpec := { name := "fnvLast", fn := fun _ => fun
  | [d1, d2, d3] => { results := [.lit (.bool true)], args := [d1, d2, d3] }
  | _ => none }
def fnvLastRow : OpenClaim := { program := "ytllipocbaknkpaa", sum := "940d12f49df330851861bfdba901ea44047349163b947faecb8c9b37820c7245", func := "varve/varvelaw06.FnvLast", spec := "fnvLast", apart := false }
def FnvLastSaid : Prop := fnvLastRow.holds Try.pinned (OpenSpec.ofChange fnvLastSpec)

/-- ITS FALSE NEIGHBOUR: 'it returns false'. Refute it at one input. -/
def fnvLastWrong : ChangeSpec := { name := "fnvLast", fn := fun _ => fun
  | [d1, d2, d3] => { results := [.lit (.bool false)], args := [d1, d2, d3] }
  | _ => none }
def FnvLastWrongFalsely : Prop := fnvLastRow.holds Try.pinned (OpenSpec.ofChange fnvLastWrong)

/- THE SECOND FORM. 'bulk': how many values and letters a reading holds, each counted each time it is reached (what is shared counts as often as it is met; a slice's spare places count too). A statement '..UptoSaid' is the law's where the arguments, and the package variables that the reading takes, are together of bulk at most 1048576: NARROWER than '..Said'. Prove '..Said' where nothing that the law and all that it calls make is longer than what came in: it says more and counts as full. Else prove '..UptoSaid'. A law counts once. -/
mutual
def uptoBulk {H : Type} : DataW H → Nat
  | .lit (.string bytes) => bytes.length + 1
  | .lit _ => 1
  | .nil => 1
  | .ptr d => uptoBulk d + 1
  | .slice elems spare => uptoBulkAll elems + uptoBulkAll spare + 1
  | .agg parts => uptoBulkAll parts + 1
  | .iface _ d => uptoBulk d + 1
  | .map entries => uptoBulkEntries entries + 1
  | .held _ => 1
def uptoBulkAll {H : Type} : List (DataW H) → Nat
  | [] => 0
  | d :: r => uptoBulk d + uptoBulkAll r
def uptoBulkEntries {H : Type} : List (Lit × DataW H) → Nat
  | [] => 0
  | x :: r => uptoBulkEntry x + uptoBulkEntries r
def uptoBulkEntry {H : Type} : Lit × DataW H → Nat
  | (.string bytes, d) => bytes.length + uptoBulk d + 1
  | (_, d) => uptoBulk d + 1
 end
def uptoSmall : (H : Type) → List (DataW H) → Bool := fun _ ds => decide (uptoBulkAll ds ≤ 1048576)
def OpenSpec.upto (s : _root_.Go.ChangeSpec) : _root_.Go.OpenSpec := { _root_.Go.OpenSpec.ofChange s with cond := some uptoSmall }

/-- 'varvelaw06.FnvOf', WHERE WHAT IT READS IS OF BULK AT MOST 1048576: true; the input reads as it did. -/
def fnvOfUptoRow : OpenClaim := { program := "ytllipocbaknkpaa", sum := "940d12f49df330851861bfdba901ea44047349163b947faecb8c9b37820c7245", func := "varve/varvelaw06.FnvOf", spec := "fnvOf", apart := false, narrowed := true }
def FnvOfUptoSaid : Prop := fnvOfUptoRow.holds Try.pinned (OpenSpec.upto fnvOfSpec)

/-- 'varvelaw06.FnvParts', WHERE WHAT IT READS IS OF BULK AT MOST 1048576: true; the input reads as it did. -/
def fnvPartsUptoRow : OpenClaim := { program := "ytllipocbaknkpaa", sum := "940d12f49df330851861bfdba901ea44047349163b947faecb8c9b37820c7245", func := "varve/varvelaw06.FnvParts", spec := "fnvParts", apart := false, narrowed := true }
def FnvPartsUptoSaid : Prop := fnvPartsUptoRow.holds Try.pinned (OpenSpec.upto fnvPartsSpec)

/-- 'varvelaw06.FnvEach', WHERE WHAT IT READS IS OF BULK AT MOST 1048576: true; the input reads as it did. -/
def fnvEachUptoRow : OpenClaim := { program := "ytllipocbaknkpaa", sum := "940d12f49df330851861bfdba901ea44047349163b947faecb8c9b37820c7245", func := "varve/varvelaw06.FnvEach", spec := "fnvEach", unfollowed := true, recurses := true, apart := false, narrowed := true }
def FnvEachUptoSaid : Prop := fnvEachUptoRow.holds Try.pinned (OpenSpec.upto fnvEachSpec)

/-- 'varvelaw06.FnvLast', WHERE WHAT IT READS IS OF BULK AT MOST 1048576: true; the input reads as it did. -/
def fnvLastUptoRow : OpenClaim := { program := "ytllipocbaknkpaa", sum := "940d12f49df330851861bfdba901ea44047349163b947faecb8c9b37820c7245", func := "varve/varvelaw06.FnvLast", spec := "fnvLast", apart := false, narrowed := true }
def FnvLastUptoSaid : Prop := fnvLastUptoRow.holds Try.pinned (OpenSpec.upto fnvLastSpec)

end Rows
end Go.Proofs.Ytllipocbaknkpaa
