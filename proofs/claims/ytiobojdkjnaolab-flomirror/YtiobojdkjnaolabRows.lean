/-
  No cell of these rows narrows 'for every input' (looked for: loops, veiled, ifaces, maps, wideKeys, modest, calm, conditions, laid).
  DERIVED. THE GIVEN ROWS OF THIS SEAT. 6 by the template 'for every input the law returns true; each argument reads behind the call as it read before'; 0 by the template 'total and deterministic' (their statements: YtiobojdkjnaolabTotals.lean).
  GIVEN WITH THE SEED: the statements are not yours to turn. If you find one false, say at which input.
  Laid BY PROGRAM, IN A SANDBOX (cutbox-rows.mjs): the forced cells as the released guide's own fill.sh prints them over the translation d6adb6653b258f7d… (all of the seat's roots in one cut). By AI agents, Wed Nov 11 2026. No macro, syntax, notation, axiom, sorry.
-/
import Derived.Test.YtiobojdkjnaolabChecked
import GoSem.Claim
import GoSem.ClaimJoined
import GoSem.ClaimMapViews
import Derived.JoinedTies
import Derived.KernelRfl
namespace Go.Proofs.Ytiobojdkjnaolab
/- THE CELL 'sum', in the pinned program and in every row, IS THE sha256 OF THE DUMP (.gsa) THAT YtiobojdkjnaolabProg.lean LOADS. Nothing in Lean hashes anything: it is a label: what it is worth is what the hold of that sum in a sandbox is worth. -/
noncomputable def Try.pinned : Pinned := { name := "ytiobojdkjnaolab", sum := "d6adb6653b258f7d61ad9620090e6519a22242f17aadacb9f1fb182974c768cb", checked := Try.checked }
namespace Rows
def none {H : Type} : Left H := { results := [], args := [] }

/-- 'varvelaw02.FloAdds': WHATEVER THE INPUT: true; the input reads as it did. -/
def floAddsSpec : ChangeSpec := { name := "floAdds", fn := fun _ => fun
  | [d1, d2] => { results := [.lit (.bool true)], args := [d1, d2] }
  | _ => none }
def floAddsRow : OpenClaim := { program := "ytiobojdkjnaolab", sum := "d6adb6653b258f7d61ad9620090e6519a22242f17aadacb9f1fb182974c768cb", func := "varve/varvelaw02.FloAdds", spec := "floAdds", inPlace := ["math.Float64frombits", "math.Float64bits"], apart := false }
def FloAddsSaid : Prop := floAddsRow.holds Try.pinned (OpenSpec.ofChange floAddsSpec)

/-- ITS FALSE NEIGHBOUR: 'it returns false'. Refute it at one input. -/
def floAddsWrong : ChangeSpec := { name := "floAdds", fn := fun _ => fun
  | [d1, d2] => { results := [.lit (.bool false)], args := [d1, d2] }
  | _ => none }
def FloAddsWrongFalsely : Prop := floAddsRow.holds Try.pinned (OpenSpec.ofChange floAddsWrong)

/-- 'varvelaw02.FloMachine': WHATEVER THE INPUT: true; the input reads as it did. -/
def floMachineSpec : ChangeSpec := { name := "floMachine", fn := fun _ => fun
  | [d1, d2] => { results := [.lit (.bool true)], args := [d1, d2] }
  | _ => none }
def floMachineRow : OpenClaim := { program := "ytiobojdkjnaolab", sum := "d6adb6653b258f7d61ad9620090e6519a22242f17aadacb9f1fb182974c768cb", func := "varve/varvelaw02.FloMachine", spec := "floMachine", inPlace := ["math.Float64frombits", "math.Float64bits"], apart := false }
def FloMachineSaid : Prop := floMachineRow.holds Try.pinned (OpenSpec.ofChange floMachineSpec)

/-- ITS FALSE NEIGHBOUR: 'it returns false'. Refute it at one input. -/
def floMachineWrong : ChangeSpec := { name := "floMachine", fn := fun _ => fun
  | [d1, d2] => { results := [.lit (.bool false)], args := [d1, d2] }
  | _ => none }
def FloMachineWrongFalsely : Prop := floMachineRow.holds Try.pinned (OpenSpec.ofChange floMachineWrong)

/-- 'varvelaw02.FloWhole': WHATEVER THE INPUT: true; the input reads as it did. -/
def floWholeSpec : ChangeSpec := { name := "floWhole", fn := fun _ => fun
  | [d1, d2] => { results := [.lit (.bool true)], args := [d1, d2] }
  | _ => none }
def floWholeRow : OpenClaim := { program := "ytiobojdkjnaolab", sum := "d6adb6653b258f7d61ad9620090e6519a22242f17aadacb9f1fb182974c768cb", func := "varve/varvelaw02.FloWhole", spec := "floWhole", inPlace := ["math.Float64bits", "math.Float64frombits"], apart := false }
def FloWholeSaid : Prop := floWholeRow.holds Try.pinned (OpenSpec.ofChange floWholeSpec)

/-- ITS FALSE NEIGHBOUR: 'it returns false'. Refute it at one input. -/
def floWholeWrong : ChangeSpec := { name := "floWhole", fn := fun _ => fun
  | [d1, d2] => { results := [.lit (.bool false)], args := [d1, d2] }
  | _ => none }
def FloWholeWrongFalsely : Prop := floWholeRow.holds Try.pinned (OpenSpec.ofChange floWholeWrong)

/-- 'varvelaw02.FloShifts': WHATEVER THE INPUT: true; the input reads as it did. -/
def floShiftsSpec : ChangeSpec := { name := "floShifts", fn := fun _ => fun
  | [d1, d2] => { results := [.lit (.bool true)], args := [d1, d2] }
  | _ => none }
def floShiftsRow : OpenClaim := { program := "ytiobojdkjnaolab", sum := "d6adb6653b258f7d61ad9620090e6519a22242f17aadacb9f1fb182974c768cb", func := "varve/varvelaw02.FloShifts", spec := "floShifts", inPlace := ["math.Float64bits", "math.Float64frombits"], apart := false }
def FloShiftsSaid : Prop := floShiftsRow.holds Try.pinned (OpenSpec.ofChange floShiftsSpec)

/-- ITS FALSE NEIGHBOUR: 'it returns false'. Refute it at one input. -/
def floShiftsWrong : ChangeSpec := { name := "floShifts", fn := fun _ => fun
  | [d1, d2] => { results := [.lit (.bool false)], args := [d1, d2] }
  | _ => none }
def FloShiftsWrongFalsely : Prop := floShiftsRow.holds Try.pinned (OpenSpec.ofChange floShiftsWrong)

/-- 'varvelaw02.FloNoughts': WHATEVER THE INPUT: true; the input reads as it did. -/
def floNoughtsSpec : ChangeSpec := { name := "floNoughts", fn := fun _ => fun
  | [d] => { results := [.lit (.bool true)], args := [d] }
  | _ => none }
def floNoughtsRow : OpenClaim := { program := "ytiobojdkjnaolab", sum := "d6adb6653b258f7d61ad9620090e6519a22242f17aadacb9f1fb182974c768cb", func := "varve/varvelaw02.FloNoughts", spec := "floNoughts", inPlace := ["math.Float64frombits", "math.Float64bits"], apart := false }
def FloNoughtsSaid : Prop := floNoughtsRow.holds Try.pinned (OpenSpec.ofChange floNoughtsSpec)

/-- ITS FALSE NEIGHBOUR: 'it returns false'. Refute it at one input. -/
def floNoughtsWrong : ChangeSpec := { name := "floNoughts", fn := fun _ => fun
  | [d] => { results := [.lit (.bool false)], args := [d] }
  | _ => none }
def FloNoughtsWrongFalsely : Prop := floNoughtsRow.holds Try.pinned (OpenSpec.ofChange floNoughtsWrong)

/-- 'varvelaw02.FloMirror': WHATEVER THE INPUT: true; the input reads as it did. -/
def floMirrorSpec : ChangeSpec := { name := "floMirror", fn := fun _ => fun
  | [d1, d2] => { results := [.lit (.bool true)], args := [d1, d2] }
  | _ => none }
def floMirrorRow : OpenClaim := { program := "ytiobojdkjnaolab", sum := "d6adb6653b258f7d61ad9620090e6519a22242f17aadacb9f1fb182974c768cb", func := "varve/varvelaw02.FloMirror", spec := "floMirror", inPlace := ["math.Float64frombits", "math.Float64bits"], apart := false }
def FloMirrorSaid : Prop := floMirrorRow.holds Try.pinned (OpenSpec.ofChange floMirrorSpec)

/-- ITS FALSE NEIGHBOUR: 'it returns false'. Refute it at one input. -/
def floMirrorWrong : ChangeSpec := { name := "floMirror", fn := fun _ => fun
  | [d1, d2] => { results := [.lit (.bool false)], args := [d1, d2] }
  | _ => none }
def FloMirrorWrongFalsely : Prop := floMirrorRow.holds Try.pinned (OpenSpec.ofChange floMirrorWrong)

/- THE SECOND FORM. 'bulk': how many values and letters a reading holds, each counted each time it is reached (what is shared counts as often as it is met; a slice's spare places count too). A statement '..UptoSaid' is the law's where the arguments, and the package variables that the reading takes, are together of bulk at most 1048576: NARROWER than '..Said'. Prove '..Said' where nothing that the law and all that it calls make is longer than what came in: it says more and counts as full. Else prove '..UptoSaid'. A law counts once. -/
mutual
def uptoBulk {H : Type} : DataW H → Nat
  | .lit (.string bytes) => bytes.length + 1
  | .lit _ => 1
  | .nil => 1
  | .ptr d => uptoBulk d + 1
  | .slice elems spare => uptoBulkAll elems + uptoBulkAll spare + 1
  | .agg parts => uptoBulkAll parts + 1
  | .iface _ d => uptoBulk d + 1
  | .map entries => uptoBulkEntries entries + 1
  | .held _ => 1
def uptoBulkAll {H : Type} : List (DataW H) → Nat
  | [] => 0
  | d :: r => uptoBulk d + uptoBulkAll r
def uptoBulkEntries {H : Type} : List (Lit × DataW H) → Nat
  | [] => 0
  | x :: r => uptoBulkEntry x + uptoBulkEntries r
def uptoBulkEntry {H : Type} : Lit × DataW H → Nat
  | (.string bytes, d) => bytes.length + uptoBulk d + 1
  | (_, d) => uptoBulk d + 1
 end
def uptoSmall : (H : Type) → List (DataW H) → Bool := fun _ ds => decide (uptoBulkAll ds ≤ 1048576)
def OpenSpec.upto (s : _root_.Go.ChangeSpec) : _root_.Go.OpenSpec := { _root_.Go.OpenSpec.ofChange s with cond := some uptoSmall }

/-- 'varvelaw02.FloAdds', WHERE WHAT IT READS IS OF BULK AT MOST 1048576: true; the input reads as it did. -/
def floAddsUptoRow : OpenClaim := { program := "ytiobojdkjnaolab", sum := "d6adb6653b258f7d61ad9620090e6519a22242f17aadacb9f1fb182974c768cb", func := "varve/varvelaw02.FloAdds", spec := "floAdds", inPlace := ["math.Float64frombits", "math.Float64bits"], apart := false, narrowed := true }
def FloAddsUptoSaid : Prop := floAddsUptoRow.holds Try.pinned (OpenSpec.upto floAddsSpec)

/-- 'varvelaw02.FloMachine', WHERE WHAT IT READS IS OF BULK AT MOST 1048576: true; the input reads as it did. -/
def floMachineUptoRow : OpenClaim := { program := "ytiobojdkjnaolab", sum := "d6adb6653b258f7d61ad9620090e6519a22242f17aadacb9f1fb182974c768cb", func := "varve/varvelaw02.FloMachine", spec := "floMachine", inPlace := ["math.Float64frombits", "math.Float64bits"], apart := false, narrowed := true }
def FloMachineUptoSaid : Prop := floMachineUptoRow.holds Try.pinned (OpenSpec.upto floMachineSpec)

/-- 'varvelaw02.FloWhole', WHERE WHAT IT READS IS OF BULK AT MOST 1048576: true; the input reads as it did. -/
def floWholeUptoRow : OpenClaim := { program := "ytiobojdkjnaolab", sum := "d6adb6653b258f7d61ad9620090e6519a22242f17aadacb9f1fb182974c768cb", func := "varve/varvelaw02.FloWhole", spec := "floWhole", inPlace := ["math.Float64bits", "math.Float64frombits"], apart := false, narrowed := true }
def FloWholeUptoSaid : Prop := floWholeUptoRow.holds Try.pinned (OpenSpec.upto floWholeSpec)

/-- 'varvelaw02.FloShifts', WHERE WHAT IT READS IS OF BULK AT MOST 1048576: true; the input reads as it did. -/
def floShiftsUptoRow : OpenClaim := { program := "ytiobojdkjnaolab", sum := "d6adb6653b258f7d61ad9620090e6519a22242f17aadacb9f1fb182974c768cb", func := "varve/varvelaw02.FloShifts", spec := "floShifts", inPlace := ["math.Float64bits", "math.Float64frombits"], apart := false, narrowed := true }
def FloShiftsUptoSaid : Prop := floShiftsUptoRow.holds Try.pinned (OpenSpec.upto floShiftsSpec)

/-- 'varvelaw02.FloNoughts', WHERE WHAT IT READS IS OF BULK AT MOST 1048576: true; the input reads as it did. -/
def floNoughtsUptoRow : OpenClaim := { program := "ytiobojdkjnaolab", sum := "d6adb6653b258f7d61ad9620090e6519a22242f17aadacb9f1fb182974c768cb", func := "varve/varvelaw02.FloNoughts", spec := "floNoughts", inPlace := ["math.Float64frombits", "math.Float64bits"], apart := false, narrowed := true }
def FloNoughtsUptoSaid : Prop := floNoughtsUptoRow.holds Try.pinned (OpenSpec.upto floNoughtsSpec)

/-- 'varvelaw02.FloMirror', WHERE WHAT IT READS IS OF BULK AT MOST 1048576: true; the input reads as it did. -/
def floMirrorUptoRow : OpenClaim := { program := "ytiobojdkjnaolab", sum := "d6adb6653b258f7d61ad9620090e6519a22242f17aadacb9f1fb182974c768cb", func := "varve/varvelaw02.FloMirror", spec := "floMirror", inPlace := ["math.Float64frombits", "math.Float64bits"], apart := false, narrowed := true }
def FloMirrorUptoSaid : Prop := floMirrorUptoRow.holds Try.pinned (OpenSpec.upto floMirrorSpec)

end Rows
end Go.Proofs.Ytiobojdkjnaolab
