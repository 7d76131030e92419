/-
  No cell of these rows narrows 'for every input' (looked for: loops, veiled, ifaces, maps, wideKeys, modest, calm, conditions, laid).
  DERIVED. THE GIVEN ROWS OF THIS SEAT. 6 by the template 'for every input the law returns true; each argument reads behind the call as it read before'; 0 by the template 'total and deterministic' (their statements: YtjngpdhhkkambabTotals.lean).
  GIVEN WITH THE SEED: the statements are not yours to turn. If you find one false, say at which input.
  Laid BY PROGRAM, IN A SANDBOX (cutbox-rows.mjs): the forced cells as the released guide's own fill.sh prints them over the translation c86f945f72ddd6d5… (all of the seat's roots in one cut). By AI agents, Wed Nov 11 2026. No macro, syntax, notation, axiom, sorry.
-/
import Derived.Test.YtjngpdhhkkambabChecked
import GoSem.Claim
import GoSem.ClaimJoined
import GoSem.ClaimMapViews
import Derived.JoinedTies
import Derived.KernelRfl
namespace Go.Proofs.Ytjngpdhhkkambab
/- THE CELL 'sum', in the pinned program and in every row, IS THE sha256 OF THE DUMP (.gsa) THAT YtjngpdhhkkambabProg.lean LOADS. Nothing in Lean hashes anything: it is a label: what it is worth is what the hold of that sum in a sandbox is worth. -/
noncomputable def Try.pinned : Pinned := { name := "ytjngpdhhkkambab", sum := "c86f945f72ddd6d55d82dc1617e31d672d9c49764c09dbddfa913793b9a2efce", checked := Try.checked }
namespace Rows
def none {H : Type} : Left H := { results := [], args := [] }

/-- 'varvelaw07.HistBytes': WHATEVER THE INPUT: true; the input reads as it did. -/
def histBytesSpec : ChangeSpec := { name := "histBytes", fn := fun _ => fun
  | [d1, d2] => { results := [.lit (.bool true)], args := [d1, d2] }
  | _ => none }
def histBytesRow : OpenClaim := { program := "ytjngpdhhkkambab", sum := "c86f945f72ddd6d55d82dc1617e31d672d9c49764c09dbddfa913793b9a2efce", func := "varve/varvelaw07.HistBytes", spec := "histBytes", named := ["math/bits.divideError", "math/bits.overflowError"], apart := false }
def HistBytesSaid : Prop := histBytesRow.holds Try.pinned (OpenSpec.ofChange histBytesSpec)

/-- ITS FALSE NEIGHBOUR: 'it returns false'. Refute it at one input. -/
def histBytesWrong : ChangeSpec := { name := "histBytes", fn := fun _ => fun
  | [d1, d2] => { results := [.lit (.bool false)], args := [d1, d2] }
  | _ => none }
def HistBytesWrongFalsely : Prop := histBytesRow.holds Try.pinned (OpenSpec.ofChange histBytesWrong)

/-- 'varvelaw07.HistReads': WHATEVER THE INPUT: true; the input reads as it did. -/
def histReadsSpec : ChangeSpec := { name := "histReads", fn := fun _ => fun
  | [d1, d2] => { results := [.lit (.bool true)], args := [d1, d2] }
  | _ => none }
def histReadsRow : OpenClaim := { program := "ytjngpdhhkkambab", sum := "c86f945f72ddd6d55d82dc1617e31d672d9c49764c09dbddfa913793b9a2efce", func := "varve/varvelaw07.HistReads", spec := "histReads", named := ["math/bits.divideError", "math/bits.overflowError"], apart := false }
def HistReadsSaid : Prop := histReadsRow.holds Try.pinned (OpenSpec.ofChange histReadsSpec)

/-- ITS FALSE NEIGHBOUR: 'it returns false'. Refute it at one input. -/
def histReadsWrong : ChangeSpec := { name := "histReads", fn := fun _ => fun
  | [d1, d2] => { results := [.lit (.bool false)], args := [d1, d2] }
  | _ => none }
def HistReadsWrongFalsely : Prop := histReadsRow.holds Try.pinned (OpenSpec.ofChange histReadsWrong)

/-- 'varvelaw07.HistHeld': WHATEVER THE INPUT: true; the input reads as it did. -/
def histHeldSpec : ChangeSpec := { name := "histHeld", fn := fun _ => fun
  | [d1, d2, d3, d4] => { results := [.lit (.bool true)], args := [d1, d2, d3, d4] }
  | _ => none }
def histHeldRow : OpenClaim := { program := "ytjngpdhhkkambab", sum := "c86f945f72ddd6d55d82dc1617e31d672d9c49764c09dbddfa913793b9a2efce", func := "varve/varvelaw07.HistHeld", spec := "histHeld", named := ["math/bits.divideError", "math/bits.overflowError"], apart := false }
def HistHeldSaid : Prop := histHeldRow.holds Try.pinned (OpenSpec.ofChange histHeldSpec)

/-- ITS FALSE NEIGHBOUR: 'it returns false'. Refute it at one input. -/
def histHeldWrong : ChangeSpec := { name := "histHeld", fn := fun _ => fun
  | [d1, d2, d3, d4] => { results := [.lit (.bool false)], args := [d1, d2, d3, d4] }
  | _ => none }
def HistHeldWrongFalsely : Prop := histHeldRow.holds Try.pinned (OpenSpec.ofChange histHeldWrong)

/-- 'varvelaw07.HistRises': WHATEVER THE INPUT: true; the input reads as it did. -/
def histRisesSpec : ChangeSpec := { name := "histRises", fn := fun _ => fun
  | [d1, d2, d3, d4] => { results := [.lit (.bool true)], args := [d1, d2, d3, d4] }
  | _ => none }
def histRisesRow : OpenClaim := { program := "ytjngpdhhkkambab", sum := "c86f945f72ddd6d55d82dc1617e31d672d9c49764c09dbddfa913793b9a2efce", func := "varve/varvelaw07.HistRises", spec := "histRises", named := ["math/bits.divideError", "math/bits.overflowError"], apart := false }
def HistRisesSaid : Prop := histRisesRow.holds Try.pinned (OpenSpec.ofChange histRisesSpec)

/-- ITS FALSE NEIGHBOUR: 'it returns false'. Refute it at one input. -/
def histRisesWrong : ChangeSpec := { name := "histRises", fn := fun _ => fun
  | [d1, d2, d3, d4] => { results := [.lit (.bool false)], args := [d1, d2, d3, d4] }
  | _ => none }
def HistRisesWrongFalsely : Prop := histRisesRow.holds Try.pinned (OpenSpec.ofChange histRisesWrong)

/-- 'varvelaw07.HistSplit': WHATEVER THE INPUT: true; the input reads as it did. -/
def histSplitSpec : ChangeSpec := { name := "histSplit", fn := fun _ => fun
  | [d1, d2] => { results := [.lit (.bool true)], args := [d1, d2] }
  | _ => none }
def histSplitRow : OpenClaim := { program := "ytjngpdhhkkambab", sum := "c86f945f72ddd6d55d82dc1617e31d672d9c49764c09dbddfa913793b9a2efce", func := "varve/varvelaw07.HistSplit", spec := "histSplit", named := ["math/bits.divideError", "math/bits.overflowError"], apart := false }
def HistSplitSaid : Prop := histSplitRow.holds Try.pinned (OpenSpec.ofChange histSplitSpec)

/-- ITS FALSE NEIGHBOUR: 'it returns false'. Refute it at one input. -/
def histSplitWrong : ChangeSpec := { name := "histSplit", fn := fun _ => fun
  | [d1, d2] => { results := [.lit (.bool false)], args := [d1, d2] }
  | _ => none }
def HistSplitWrongFalsely : Prop := histSplitRow.holds Try.pinned (OpenSpec.ofChange histSplitWrong)

/-- 'varvelaw07.HistTimes': WHATEVER THE INPUT: true; the input reads as it did. -/
def histTimesSpec : ChangeSpec := { name := "histTimes", fn := fun _ => fun
  | [d1, d2, d3] => { results := [.lit (.bool true)], args := [d1, d2, d3] }
  | _ => none }
def histTimesRow : OpenClaim := { program := "ytjngpdhhkkambab", sum := "c86f945f72ddd6d55d82dc1617e31d672d9c49764c09dbddfa913793b9a2efce", func := "varve/varvelaw07.HistTimes", spec := "histTimes", named := ["math/bits.divideError", "math/bits.overflowError"], apart := false }
def HistTimesSaid : Prop := histTimesRow.holds Try.pinned (OpenSpec.ofChange histTimesSpec)

/-- ITS FALSE NEIGHBOUR: 'it returns false'. Refute it at one input. -/
def histTimesWrong : ChangeSpec := { name := "histTimes", fn := fun _ => fun
  | [d1, d2, d3] => { results := [.lit (.bool false)], args := [d1, d2, d3] }
  | _ => none }
def HistTimesWrongFalsely : Prop := histTimesRow.holds Try.pinned (OpenSpec.ofChange histTimesWrong)

/- THE SECOND FORM. 'bulk': how many values and letters a reading holds, each counted each time it is reached (what is shared counts as often as it is met; a slice's spare places count too). A statement '..UptoSaid' is the law's where the arguments, and the package variables that the reading takes, are together of bulk at most 1048576: NARROWER than '..Said'. Prove '..Said' where nothing that the law and all that it calls make is longer than what came in: it says more and counts as full. Else prove '..UptoSaid'. A law counts once. -/
mutual
def uptoBulk {H : Type} : DataW H → Nat
  | .lit (.string bytes) => bytes.length + 1
  | .lit _ => 1
  | .nil => 1
  | .ptr d => uptoBulk d + 1
  | .slice elems spare => uptoBulkAll elems + uptoBulkAll spare + 1
  | .agg parts => uptoBulkAll parts + 1
  | .iface _ d => uptoBulk d + 1
  | .map entries => uptoBulkEntries entries + 1
  | .held _ => 1
def uptoBulkAll {H : Type} : List (DataW H) → Nat
  | [] => 0
  | d :: r => uptoBulk d + uptoBulkAll r
def uptoBulkEntries {H : Type} : List (Lit × DataW H) → Nat
  | [] => 0
  | x :: r => uptoBulkEntry x + uptoBulkEntries r
def uptoBulkEntry {H : Type} : Lit × DataW H → Nat
  | (.string bytes, d) => bytes.length + uptoBulk d + 1
  | (_, d) => uptoBulk d + 1
 end
def uptoSmall : (H : Type) → List (DataW H) → Bool := fun _ ds => decide (uptoBulkAll ds ≤ 1048576)
def OpenSpec.upto (s : _root_.Go.ChangeSpec) : _root_.Go.OpenSpec := { _root_.Go.OpenSpec.ofChange s with cond := some uptoSmall }

/-- 'varvelaw07.HistBytes', WHERE WHAT IT READS IS OF BULK AT MOST 1048576: true; the input reads as it did. -/
def histBytesUptoRow : OpenClaim := { program := "ytjngpdhhkkambab", sum := "c86f945f72ddd6d55d82dc1617e31d672d9c49764c09dbddfa913793b9a2efce", func := "varve/varvelaw07.HistBytes", spec := "histBytes", named := ["math/bits.divideError", "math/bits.overflowError"], apart := false, narrowed := true }
def HistBytesUptoSaid : Prop := histBytesUptoRow.holds Try.pinned (OpenSpec.upto histBytesSpec)

/-- 'varvelaw07.HistReads', WHERE WHAT IT READS IS OF BULK AT MOST 1048576: true; the input reads as it did. -/
def histReadsUptoRow : OpenClaim := { program := "ytjngpdhhkkambab", sum := "c86f945f72ddd6d55d82dc1617e31d672d9c49764c09dbddfa913793b9a2efce", func := "varve/varvelaw07.HistReads", spec := "histReads", named := ["math/bits.divideError", "math/bits.overflowError"], apart := false, narrowed := true }
def HistReadsUptoSaid : Prop := histReadsUptoRow.holds Try.pinned (OpenSpec.upto histReadsSpec)

/-- 'varvelaw07.HistHeld', WHERE WHAT IT READS IS OF BULK AT MOST 1048576: true; the input reads as it did. -/
def histHeldUptoRow : OpenClaim := { program := "ytjngpdhhkkambab", sum := "c86f945f72ddd6d55d82dc1617e31d672d9c49764c09dbddfa913793b9a2efce", func := "varve/varvelaw07.HistHeld", spec := "histHeld", named := ["math/bits.divideError", "math/bits.overflowError"], apart := false, narrowed := true }
def HistHeldUptoSaid : Prop := histHeldUptoRow.holds Try.pinned (OpenSpec.upto histHeldSpec)

/-- 'varvelaw07.HistRises', WHERE WHAT IT READS IS OF BULK AT MOST 1048576: true; the input reads as it did. -/
def histRisesUptoRow : OpenClaim := { program := "ytjngpdhhkkambab", sum := "c86f945f72ddd6d55d82dc1617e31d672d9c49764c09dbddfa913793b9a2efce", func := "varve/varvelaw07.HistRises", spec := "histRises", named := ["math/bits.divideError", "math/bits.overflowError"], apart := false, narrowed := true }
def HistRisesUptoSaid : Prop := histRisesUptoRow.holds Try.pinned (OpenSpec.upto histRisesSpec)

/-- 'varvelaw07.HistSplit', WHERE WHAT IT READS IS OF BULK AT MOST 1048576: true; the input reads as it did. -/
def histSplitUptoRow : OpenClaim := { program := "ytjngpdhhkkambab", sum := "c86f945f72ddd6d55d82dc1617e31d672d9c49764c09dbddfa913793b9a2efce", func := "varve/varvelaw07.HistSplit", spec := "histSplit", named := ["math/bits.divideError", "math/bits.overflowError"], apart := false, narrowed := true }
def HistSplitUptoSaid : Prop := histSplitUptoRow.holds Try.pinned (OpenSpec.upto histSplitSpec)

/-- 'varvelaw07.HistTimes', WHERE WHAT IT READS IS OF BULK AT MOST 1048576: true; the input reads as it did. -/
def histTimesUptoRow : OpenClaim := { program := "ytjngpdhhkkambab", sum := "c86f945f72ddd6d55d82dc1617e31d672d9c49764c09dbddfa913793b9a2efce", func := "varve/varvelaw07.HistTimes", spec := "histTimes", named := ["math/bits.divideError", "math/bits.overflowError"], apart := false, narrowed := true }
def HistTimesUptoSaid : Prop := histTimesUptoRow.holds Try.pinned (OpenSpec.upto histTimesSpec)

end Rows
end Go.Proofs.Ytjngpdhhkkambab
