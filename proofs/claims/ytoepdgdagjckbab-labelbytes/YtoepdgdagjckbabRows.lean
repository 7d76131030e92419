/-
  No cell of these rows narrows 'for every input' (looked for: loops, veiled, ifaces, maps, wideKeys, modest, calm, conditions, laid).
  DERIVED. THE GIVEN ROWS OF THIS SEAT. 5 by the template 'for every input the law returns true; each argument reads behind the call as it read before'; 0 by the template 'total and deterministic' (their statements: YtoepdgdagjckbabTotals.lean).
  GIVEN WITH THE SEED: the statements are not yours to turn. If you find one false, say at which input.
  Laid BY PROGRAM, IN A SANDBOX (cutbox-rows.mjs): the forced cells as the released guide's own fill.sh prints them over the translation 698d07cc195d3f10… (all of the seat's roots in one cut). By AI agents, Wed Nov 11 2026. No macro, syntax, notation, axiom, sorry.
-/
import Derived.Test.YtoepdgdagjckbabChecked
import GoSem.Claim
import GoSem.ClaimJoined
import GoSem.ClaimMapViews
import Derived.JoinedTies
import Derived.KernelRfl
namespace Go.Proofs.Ytoepdgdagjckbab
/- THE CELL 'sum', in the pinned program and in every row, IS THE sha256 OF THE DUMP (.gsa) THAT YtoepdgdagjckbabProg.lean LOADS. Nothing in Lean hashes anything: it is a label: what it is worth is what the hold of that sum in a sandbox is worth. -/
noncomputable def Try.pinned : Pinned := { name := "ytoepdgdagjckbab", sum := "698d07cc195d3f10e94e5a5c61a39d35ca5503cb903057386b1cd1439c9e8a22", checked := Try.checked }
namespace Rows
def none {H : Type} : Left H := { results := [], args := [] }

/-- 'varvelaw11.LabelBytes': WHATEVER THE INPUT: true; the input reads as it did. -/
def labelBytesSpec : ChangeSpec := { name := "labelBytes", fn := fun _ => fun
  | [d1, d2, d3] => { results := [.lit (.bool true)], args := [d1, d2, d3] }
  | _ => none }
def labelBytesRow : OpenClaim := { program := "ytoepdgdagjckbab", sum := "698d07cc195d3f10e94e5a5c61a39d35ca5503cb903057386b1cd1439c9e8a22", func := "varve/varvelaw11.LabelBytes", spec := "labelBytes", inPlace := ["internal/bytealg.abigen_runtime_cmpstring", "internal/abi.NoEscape"], unfollowed := true, recurses := true, apart := false }
def LabelBytesSaid : Prop := labelBytesRow.holds Try.pinned (OpenSpec.ofChange labelBytesSpec)

/-- ITS FALSE NEIGHBOUR: 'it returns false'. Refute it at one input. -/
def labelBytesWrong : ChangeSpec := { name := "labelBytes", fn := fun _ => fun
  | [d1, d2, d3] => { results := [.lit (.bool false)], args := [d1, d2, d3] }
  | _ => none }
def LabelBytesWrongFalsely : Prop := labelBytesRow.holds Try.pinned (OpenSpec.ofChange labelBytesWrong)

/-- 'varvelaw11.LabelTurns': WHATEVER THE INPUT: true; the input reads as it did. -/
def labelTurnsSpec : ChangeSpec := { name := "labelTurns", fn := fun _ => fun
  | [d1, d2, d3] => { results := [.lit (.bool true)], args := [d1, d2, d3] }
  | _ => none }
def labelTurnsRow : OpenClaim := { program := "ytoepdgdagjckbab", sum := "698d07cc195d3f10e94e5a5c61a39d35ca5503cb903057386b1cd1439c9e8a22", func := "varve/varvelaw11.LabelTurns", spec := "labelTurns", inPlace := ["internal/bytealg.abigen_runtime_cmpstring", "internal/abi.NoEscape"], unfollowed := true, recurses := true, apart := false }
def LabelTurnsSaid : Prop := labelTurnsRow.holds Try.pinned (OpenSpec.ofChange labelTurnsSpec)

/-- ITS FALSE NEIGHBOUR: 'it returns false'. Refute it at one input. -/
def labelTurnsWrong : ChangeSpec := { name := "labelTurns", fn := fun _ => fun
  | [d1, d2, d3] => { results := [.lit (.bool false)], args := [d1, d2, d3] }
  | _ => none }
def LabelTurnsWrongFalsely : Prop := labelTurnsRow.holds Try.pinned (OpenSpec.ofChange labelTurnsWrong)

/-- 'varvelaw11.LabelValues': WHATEVER THE INPUT: true; the input reads as it did. -/
def labelValuesSpec : ChangeSpec := { name := "labelValues", fn := fun _ => fun
  | [d1, d2] => { results := [.lit (.bool true)], args := [d1, d2] }
  | _ => none }
def labelValuesRow : OpenClaim := { program := "ytoepdgdagjckbab", sum := "698d07cc195d3f10e94e5a5c61a39d35ca5503cb903057386b1cd1439c9e8a22", func := "varve/varvelaw11.LabelValues", spec := "labelValues", inPlace := ["internal/bytealg.abigen_runtime_cmpstring", "internal/abi.NoEscape"], unfollowed := true, recurses := true, apart := false }
def LabelValuesSaid : Prop := labelValuesRow.holds Try.pinned (OpenSpec.ofChange labelValuesSpec)

/-- ITS FALSE NEIGHBOUR: 'it returns false'. Refute it at one input. -/
def labelValuesWrong : ChangeSpec := { name := "labelValues", fn := fun _ => fun
  | [d1, d2] => { results := [.lit (.bool false)], args := [d1, d2] }
  | _ => none }
def LabelValuesWrongFalsely : Prop := labelValuesRow.holds Try.pinned (OpenSpec.ofChange labelValuesWrong)

/-- 'varvelaw11.LabelStarts': WHATEVER THE INPUT: true; the input reads as it did. -/
def labelStartsSpec : ChangeSpec := { name := "labelStarts", fn := fun _ => fun
  | [d1, d2, d3] => { results := [.lit (.bool true)], args := [d1, d2, d3] }
  | _ => none }
def labelStartsRow : OpenClaim := { program := "ytoepdgdagjckbab", sum := "698d07cc195d3f10e94e5a5c61a39d35ca5503cb903057386b1cd1439c9e8a22", func := "varve/varvelaw11.LabelStarts", spec := "labelStarts", inPlace := ["internal/bytealg.abigen_runtime_cmpstring", "internal/abi.NoEscape"], unfollowed := true, recurses := true, apart := false }
def LabelStartsSaid : Prop := labelStartsRow.holds Try.pinned (OpenSpec.ofChange labelStartsSpec)

/-- ITS FALSE NEIGHBOUR: 'it returns false'. Refute it at one input. -/
def labelStartsWrong : ChangeSpec := { name := "labelStarts", fn := fun _ => fun
  | [d1, d2, d3] => { results := [.lit (.bool false)], args := [d1, d2, d3] }
  | _ => none }
def LabelStartsWrongFalsely : Prop := labelStartsRow.holds Try.pinned (OpenSpec.ofChange labelStartsWrong)

/-- 'varvelaw11.LabelBroken': WHATEVER THE INPUT: true; the input reads as it did. -/
def labelBrokenSpec : ChangeSpec := { name := "labelBroken", fn := fun _ => fun
  | [d1, d2, d3] => { results := [.lit (.bool true)], args := [d1, d2, d3] }
  | _ => none }
def labelBrokenRow : OpenClaim := { program := "ytoepdgdagjckbab", sum := "698d07cc195d3f10e94e5a5c61a39d35ca5503cb903057386b1cd1439c9e8a22", func := "varve/varvelaw11.LabelBroken", spec := "labelBroken", inPlace := ["internal/bytealg.abigen_runtime_cmpstring", "internal/abi.NoEscape", "internal/bytealg.IndexByteString", "internal/bytealg.IndexString"], unfollowed := true, recurses := true, named := ["internal/bytealg.MaxLen"], apart := false }
def LabelBrokenSaid : Prop := labelBrokenRow.holds Try.pinned (OpenSpec.ofChange labelBrokenSpec)

/-- ITS FALSE NEIGHBOUR: 'it returns false'. Refute it at one input. -/
def labelBrokenWrong : ChangeSpec := { name := "labelBroken", fn := fun _ => fun
  | [d1, d2, d3] => { results := [.lit (.bool false)], args := [d1, d2, d3] }
  | _ => none }
def LabelBrokenWrongFalsely : Prop := labelBrokenRow.holds Try.pinned (OpenSpec.ofChange labelBrokenWrong)

/- THE SECOND FORM. 'bulk': how many values and letters a reading holds, each counted each time it is reached (what is shared counts as often as it is met; a slice's spare places count too). A statement '..UptoSaid' is the law's where the arguments, and the package variables that the reading takes, are together of bulk at most 1048576: NARROWER than '..Said'. Prove '..Said' where nothing that the law and all that it calls make is longer than what came in: it says more and counts as full. Else prove '..UptoSaid'. A law counts once. -/
mutual
def uptoBulk {H : Type} : DataW H → Nat
  | .lit (.string bytes) => bytes.length + 1
  | .lit _ => 1
  | .nil => 1
  | .ptr d => uptoBulk d + 1
  | .slice elems spare => uptoBulkAll elems + uptoBulkAll spare + 1
  | .agg parts => uptoBulkAll parts + 1
  | .iface _ d => uptoBulk d + 1
  | .map entries => uptoBulkEntries entries + 1
  | .held _ => 1
def uptoBulkAll {H : Type} : List (DataW H) → Nat
  | [] => 0
  | d :: r => uptoBulk d + uptoBulkAll r
def uptoBulkEntries {H : Type} : List (Lit × DataW H) → Nat
  | [] => 0
  | x :: r => uptoBulkEntry x + uptoBulkEntries r
def uptoBulkEntry {H : Type} : Lit × DataW H → Nat
  | (.string bytes, d) => bytes.length + uptoBulk d + 1
  | (_, d) => uptoBulk d + 1
 end
def uptoSmall : (H : Type) → List (DataW H) → Bool := fun _ ds => decide (uptoBulkAll ds ≤ 1048576)
def OpenSpec.upto (s : _root_.Go.ChangeSpec) : _root_.Go.OpenSpec := { _root_.Go.OpenSpec.ofChange s with cond := some uptoSmall }

/-- 'varvelaw11.LabelBytes', WHERE WHAT IT READS IS OF BULK AT MOST 1048576: true; the input reads as it did. -/
def labelBytesUptoRow : OpenClaim := { program := "ytoepdgdagjckbab", sum := "698d07cc195d3f10e94e5a5c61a39d35ca5503cb903057386b1cd1439c9e8a22", func := "varve/varvelaw11.LabelBytes", spec := "labelBytes", inPlace := ["internal/bytealg.abigen_runtime_cmpstring", "internal/abi.NoEscape"], unfollowed := true, recurses := true, apart := false, narrowed := true }
def LabelBytesUptoSaid : Prop := labelBytesUptoRow.holds Try.pinned (OpenSpec.upto labelBytesSpec)

/-- 'varvelaw11.LabelTurns', WHERE WHAT IT READS IS OF BULK AT MOST 1048576: true; the input reads as it did. -/
def labelTurnsUptoRow : OpenClaim := { program := "ytoepdgdagjckbab", sum := "698d07cc195d3f10e94e5a5c61a39d35ca5503cb903057386b1cd1439c9e8a22", func := "varve/varvelaw11.LabelTurns", spec := "labelTurns", inPlace := ["internal/bytealg.abigen_runtime_cmpstring", "internal/abi.NoEscape"], unfollowed := true, recurses := true, apart := false, narrowed := true }
def LabelTurnsUptoSaid : Prop := labelTurnsUptoRow.holds Try.pinned (OpenSpec.upto labelTurnsSpec)

/-- 'varvelaw11.LabelValues', WHERE WHAT IT READS IS OF BULK AT MOST 1048576: true; the input reads as it did. -/
def labelValuesUptoRow : OpenClaim := { program := "ytoepdgdagjckbab", sum := "698d07cc195d3f10e94e5a5c61a39d35ca5503cb903057386b1cd1439c9e8a22", func := "varve/varvelaw11.LabelValues", spec := "labelValues", inPlace := ["internal/bytealg.abigen_runtime_cmpstring", "internal/abi.NoEscape"], unfollowed := true, recurses := true, apart := false, narrowed := true }
def LabelValuesUptoSaid : Prop := labelValuesUptoRow.holds Try.pinned (OpenSpec.upto labelValuesSpec)

/-- 'varvelaw11.LabelStarts', WHERE WHAT IT READS IS OF BULK AT MOST 1048576: true; the input reads as it did. -/
def labelStartsUptoRow : OpenClaim := { program := "ytoepdgdagjckbab", sum := "698d07cc195d3f10e94e5a5c61a39d35ca5503cb903057386b1cd1439c9e8a22", func := "varve/varvelaw11.LabelStarts", spec := "labelStarts", inPlace := ["internal/bytealg.abigen_runtime_cmpstring", "internal/abi.NoEscape"], unfollowed := true, recurses := true, apart := false, narrowed := true }
def LabelStartsUptoSaid : Prop := labelStartsUptoRow.holds Try.pinned (OpenSpec.upto labelStartsSpec)

/-- 'varvelaw11.LabelBroken', WHERE WHAT IT READS IS OF BULK AT MOST 1048576: true; the input reads as it did. -/
def labelBrokenUptoRow : OpenClaim := { program := "ytoepdgdagjckbab", sum := "698d07cc195d3f10e94e5a5c61a39d35ca5503cb903057386b1cd1439c9e8a22", func := "varve/varvelaw11.LabelBroken", spec := "labelBroken", inPlace := ["internal/bytealg.abigen_runtime_cmpstring", "internal/abi.NoEscape", "internal/bytealg.IndexByteString", "internal/bytealg.IndexString"], unfollowed := true, recurses := true, named := ["internal/bytealg.MaxLen"], apart := false, narrowed := true }
def LabelBrokenUptoSaid : Prop := labelBrokenUptoRow.holds Try.pinned (OpenSpec.upto labelBrokenSpec)

end Rows
end Go.Proofs.Ytoepdgdagjckbab
