/-
  No cell of these rows narrows 'for every input' (looked for: loops, veiled, ifaces, maps, wideKeys, modest, calm, conditions, laid).
  DERIVED. THE GIVEN ROWS OF THIS SEAT. 3 by the template 'for every input the law returns true; each argument reads behind the call as it read before'; 0 by the template 'total and deterministic' (their statements: YthlkmjaflomflaaTotals.lean).
  GIVEN WITH THE SEED: the statements are not yours to turn. If you find one false, say at which input.
  Laid BY PROGRAM, IN A SANDBOX (cutbox-rows.mjs): the forced cells as the released guide's own fill.sh prints them over the translation b1fa5d65a1bafd64… (all of the seat's roots in one cut). By AI agents, Wed Nov 11 2026. No macro, syntax, notation, axiom, sorry.
-/
import Derived.Test.YthlkmjaflomflaaChecked
import GoSem.Claim
import GoSem.ClaimJoined
import GoSem.ClaimMapViews
import Derived.JoinedTies
import Derived.KernelRfl
namespace Go.Proofs.Ythlkmjaflomflaa
/- THE CELL 'sum', in the pinned program and in every row, IS THE sha256 OF THE DUMP (.gsa) THAT YthlkmjaflomflaaProg.lean LOADS. Nothing in Lean hashes anything: it is a label: what it is worth is what the hold of that sum in a sandbox is worth. -/
noncomputable def Try.pinned : Pinned := { name := "ythlkmjaflomflaa", sum := "b1fa5d65a1bafd64a7172fb0be8fd43995dd1c064f2502d0d8f73f7bd81d25e8", checked := Try.checked }
namespace Rows
def none {H : Type} : Left H := { results := [], args := [] }

/-- 'varvelaw16.VfsSure': WHATEVER THE INPUT: true; the input reads as it did. -/
def vfsSureSpec : ChangeSpec := { name := "vfsSure", fn := fun _ => fun
  | [d1, d2, d3, d4] => { results := [.lit (.bool true)], args := [d1, d2, d3, d4] }
  | _ => none }
def vfsSureRow : OpenClaim := { program := "ythlkmjaflomflaa", sum := "b1fa5d65a1bafd64a7172fb0be8fd43995dd1c064f2502d0d8f73f7bd81d25e8", func := "varve/varvelaw16.VfsSure", spec := "vfsSure", inPlace := ["maps.clone"], unfollowed := true, recurses := true, apart := false }
def VfsSureSaid : Prop := vfsSureRow.holds Try.pinned (OpenSpec.ofChange vfsSureSpec)

/-- ITS FALSE NEIGHBOUR: 'it returns false'. Refute it at one input. -/
def vfsSureWrong : ChangeSpec := { name := "vfsSure", fn := fun _ => fun
  | [d1, d2, d3, d4] => { results := [.lit (.bool false)], args := [d1, d2, d3, d4] }
  | _ => none }
def VfsSureWrongFalsely : Prop := vfsSureRow.holds Try.pinned (OpenSpec.ofChange vfsSureWrong)

/-- 'varvelaw16.VfsOnce': WHATEVER THE INPUT: true; the input reads as it did. -/
def vfsOnceSpec : ChangeSpec := { name := "vfsOnce", fn := fun _ => fun
  | [d1, d2, d3] => { results := [.lit (.bool true)], args := [d1, d2, d3] }
  | _ => none }
def vfsOnceRow : OpenClaim := { program := "ythlkmjaflomflaa", sum := "b1fa5d65a1bafd64a7172fb0be8fd43995dd1c064f2502d0d8f73f7bd81d25e8", func := "varve/varvelaw16.VfsOnce", spec := "vfsOnce", inPlace := ["maps.clone"], unfollowed := true, recurses := true, apart := false }
def VfsOnceSaid : Prop := vfsOnceRow.holds Try.pinned (OpenSpec.ofChange vfsOnceSpec)

/-- ITS FALSE NEIGHBOUR: 'it returns false'. Refute it at one input. -/
def vfsOnceWrong : ChangeSpec := { name := "vfsOnce", fn := fun _ => fun
  | [d1, d2, d3] => { results := [.lit (.bool false)], args := [d1, d2, d3] }
  | _ => none }
def VfsOnceWrongFalsely : Prop := vfsOnceRow.holds Try.pinned (OpenSpec.ofChange vfsOnceWrong)

/-- 'varvelaw16.VfsRenames': WHATEVER THE INPUT: true; the input reads as it did. -/
def vfsRenamesSpec : ChangeSpec := { name := "vfsRenames", fn := fun _ => fun
  | [d1, d2, d3, d4] => { results := [.lit (.bool true)], args := [d1, d2, d3, d4] }
  | _ => none }
def vfsRenamesRow : OpenClaim := { program := "ythlkmjaflomflaa", sum := "b1fa5d65a1bafd64a7172fb0be8fd43995dd1c064f2502d0d8f73f7bd81d25e8", func := "varve/varvelaw16.VfsRenames", spec := "vfsRenames", inPlace := ["maps.clone"], unfollowed := true, recurses := true, apart := false }
def VfsRenamesSaid : Prop := vfsRenamesRow.holds Try.pinned (OpenSpec.ofChange vfsRenamesSpec)

/-- ITS FALSE NEIGHBOUR: 'it returns false'. Refute it at one input. -/
def vfsRenamesWrong : ChangeSpec := { name := "vfsRenames", fn := fun _ => fun
  | [d1, d2, d3, d4] => { results := [.lit (.bool false)], args := [d1, d2, d3, d4] }
  | _ => none }
def VfsRenamesWrongFalsely : Prop := vfsRenamesRow.holds Try.pinned (OpenSpec.ofChange vfsRenamesWrong)

/- THE SECOND FORM. 'bulk': how many values and letters a reading holds, each counted each time it is reached (what is shared counts as often as it is met; a slice's spare places count too). A statement '..UptoSaid' is the law's where the arguments, and the package variables that the reading takes, are together of bulk at most 1048576: NARROWER than '..Said'. Prove '..Said' where nothing that the law and all that it calls make is longer than what came in: it says more and counts as full. Else prove '..UptoSaid'. A law counts once. -/
mutual
def uptoBulk {H : Type} : DataW H → Nat
  | .lit (.string bytes) => bytes.length + 1
  | .lit _ => 1
  | .nil => 1
  | .ptr d => uptoBulk d + 1
  | .slice elems spare => uptoBulkAll elems + uptoBulkAll spare + 1
  | .agg parts => uptoBulkAll parts + 1
  | .iface _ d => uptoBulk d + 1
  | .map entries => uptoBulkEntries entries + 1
  | .held _ => 1
def uptoBulkAll {H : Type} : List (DataW H) → Nat
  | [] => 0
  | d :: r => uptoBulk d + uptoBulkAll r
def uptoBulkEntries {H : Type} : List (Lit × DataW H) → Nat
  | [] => 0
  | x :: r => uptoBulkEntry x + uptoBulkEntries r
def uptoBulkEntry {H : Type} : Lit × DataW H → Nat
  | (.string bytes, d) => bytes.length + uptoBulk d + 1
  | (_, d) => uptoBulk d + 1
 end
def uptoSmall : (H : Type) → List (DataW H) → Bool := fun _ ds => decide (uptoBulkAll ds ≤ 1048576)
def OpenSpec.upto (s : _root_.Go.ChangeSpec) : _root_.Go.OpenSpec := { _root_.Go.OpenSpec.ofChange s with cond := some uptoSmall }

/-- 'varvelaw16.VfsSure', WHERE WHAT IT READS IS OF BULK AT MOST 1048576: true; the input reads as it did. -/
def vfsSureUptoRow : OpenClaim := { program := "ythlkmjaflomflaa", sum := "b1fa5d65a1bafd64a7172fb0be8fd43995dd1c064f2502d0d8f73f7bd81d25e8", func := "varve/varvelaw16.VfsSure", spec := "vfsSure", inPlace := ["maps.clone"], unfollowed := true, recurses := true, apart := false, narrowed := true }
def VfsSureUptoSaid : Prop := vfsSureUptoRow.holds Try.pinned (OpenSpec.upto vfsSureSpec)

/-- 'varvelaw16.VfsOnce', WHERE WHAT IT READS IS OF BULK AT MOST 1048576: true; the input reads as it did. -/
def vfsOnceUptoRow : OpenClaim := { program := "ythlkmjaflomflaa", sum := "b1fa5d65a1bafd64a7172fb0be8fd43995dd1c064f2502d0d8f73f7bd81d25e8", func := "varve/varvelaw16.VfsOnce", spec := "vfsOnce", inPlace := ["maps.clone"], unfollowed := true, recurses := true, apart := false, narrowed := true }
def VfsOnceUptoSaid : Prop := vfsOnceUptoRow.holds Try.pinned (OpenSpec.upto vfsOnceSpec)

/-- 'varvelaw16.VfsRenames', WHERE WHAT IT READS IS OF BULK AT MOST 1048576: true; the input reads as it did. -/
def vfsRenamesUptoRow : OpenClaim := { program := "ythlkmjaflomflaa", sum := "b1fa5d65a1bafd64a7172fb0be8fd43995dd1c064f2502d0d8f73f7bd81d25e8", func := "varve/varvelaw16.VfsRenames", spec := "vfsRenames", inPlace := ["maps.clone"], unfollowed := true, recurses := true, apart := false, narrowed := true }
def VfsRenamesUptoSaid : Prop := vfsRenamesUptoRow.holds Try.pinned (OpenSpec.upto vfsRenamesSpec)

end Rows
end Go.Proofs.Ythlkmjaflomflaa
