/-
  NARROWER THAN 'FOR EVERY INPUT', by the rows' own cells (each row's printed sentence says how): CalChecks: laid · CalFloors: laid · CalLevels: laid · CalRises: laid · CalCoarse: laid · CalWindows: laid.
  DERIVED. THE GIVEN ROWS OF THIS SEAT. 6 by the template 'for every input the law returns true; each argument reads behind the call as it read before'; 0 by the template 'total and deterministic' (their statements: YtejflcfcbjadhaaDoorTotals.lean).
  GIVEN WITH THE SEED: the statements are not yours to turn. If you find one false, say at which input.
  Laid BY PROGRAM, IN A SANDBOX (cutbox-rows.mjs): the forced cells as the released guide's own fill.sh prints them over the translation 20277ee5e6f21eab… (all of the seat's roots in one cut). By AI agents, Wed Nov 11 2026. No macro, syntax, notation, axiom, sorry.
-/
import Derived.Test.YtejflcfcbjadhaaDoorChecked
import GoSem.Claim
import GoSem.ClaimJoined
import GoSem.ClaimMapViews
import Derived.JoinedTies
import Derived.KernelRfl
namespace Go.Proofs.YtejflcfcbjadhaaDoor
/- THE CELL 'sum', in the pinned program and in every row, IS THE sha256 OF THE DUMP (.gsa) THAT YtejflcfcbjadhaaDoorProg.lean LOADS. Nothing in Lean hashes anything: it is a label: what it is worth is what the hold of that sum in a sandbox is worth. -/
noncomputable def Tryd.pinned : Pinned := { name := "ytejflcfcbjadhaadoor", sum := "20277ee5e6f21eabacf087aa465c8de4809466f5f1abdb7f467881e2253d2c02", checked := Tryd.checked }
namespace Rows
def none {H : Type} : Left H := { results := [], args := [] }

/- WHAT THE LISTED PACKAGE-LEVEL VARIABLES READ AS WHEN THE CALL BEGINS. Each datum BY PROGRAM (the guide's laid-datum.mjs) off the statement by which the dump's own 'gosem.cut.vars' lays the variable. In a bare row this is a premise. The card (YtejflcfcbjadhaaDoorCards.lean) ties it to the program's text. -/
def laid_varve_cal_sizes {H : Type} : DataW H := .agg [.lit (.int .i64 1), .lit (.int .i64 6), .lit (.int .i64 360), .lit (.int .i64 8640)]

/-- 'varvelaw15.CalChecks': WHATEVER THE INPUT: true; the input reads as it did. -/
def calChecksSpec : ChangeSpec := { name := "calChecks", fn := fun _ => fun
  | [d1, d2] => { results := [.lit (.bool true)], args := [d1, d2] }
  | _ => none }
def calChecksRow : OpenClaim := { program := "ytejflcfcbjadhaadoor", sum := "20277ee5e6f21eabacf087aa465c8de4809466f5f1abdb7f467881e2253d2c02", func := "varve/varvelaw15.CalChecks", spec := "calChecks", named := ["varve/cal.sizes"], apart := false, laid := [("varve/cal.sizes", laid_varve_cal_sizes)] }
def CalChecksSaid : Prop := calChecksRow.holds Tryd.pinned (OpenSpec.ofChange calChecksSpec)

/-- ITS FALSE NEIGHBOUR: 'it returns false'. Refute it at one input. -/
def calChecksWrong : ChangeSpec := { name := "calChecks", fn := fun _ => fun
  | [d1, d2] => { results := [.lit (.bool false)], args := [d1, d2] }
  | _ => none }
def CalChecksWrongFalsely : Prop := calChecksRow.holds Tryd.pinned (OpenSpec.ofChange calChecksWrong)

/-- 'varvelaw15.CalFloors': WHATEVER THE INPUT: true; the input reads as it did. -/
def calFloorsSpec : ChangeSpec := { name := "calFloors", fn := fun _ => fun
  | [d1, d2] => { results := [.lit (.bool true)], args := [d1, d2] }
  | _ => none }
def calFloorsRow : OpenClaim := { program := "ytejflcfcbjadhaadoor", sum := "20277ee5e6f21eabacf087aa465c8de4809466f5f1abdb7f467881e2253d2c02", func := "varve/varvelaw15.CalFloors", spec := "calFloors", named := ["varve/cal.sizes"], apart := false, laid := [("varve/cal.sizes", laid_varve_cal_sizes)] }
def CalFloorsSaid : Prop := calFloorsRow.holds Tryd.pinned (OpenSpec.ofChange calFloorsSpec)

/-- ITS FALSE NEIGHBOUR: 'it returns false'. Refute it at one input. -/
def calFloorsWrong : ChangeSpec := { name := "calFloors", fn := fun _ => fun
  | [d1, d2] => { results := [.lit (.bool false)], args := [d1, d2] }
  | _ => none }
def CalFloorsWrongFalsely : Prop := calFloorsRow.holds Tryd.pinned (OpenSpec.ofChange calFloorsWrong)

/-- 'varvelaw15.CalLevels': WHATEVER THE INPUT: true; the input reads as it did. -/
def calLevelsSpec : ChangeSpec := { name := "calLevels", fn := fun _ => fun
  | [d1, d2, d3, d4] => { results := [.lit (.bool true)], args := [d1, d2, d3, d4] }
  | _ => none }
def calLevelsRow : OpenClaim := { program := "ytejflcfcbjadhaadoor", sum := "20277ee5e6f21eabacf087aa465c8de4809466f5f1abdb7f467881e2253d2c02", func := "varve/varvelaw15.CalLevels", spec := "calLevels", named := ["varve/cal.sizes"], apart := false, laid := [("varve/cal.sizes", laid_varve_cal_sizes)] }
def CalLevelsSaid : Prop := calLevelsRow.holds Tryd.pinned (OpenSpec.ofChange calLevelsSpec)

/-- ITS FALSE NEIGHBOUR: 'it returns false'. Refute it at one input. -/
def calLevelsWrong : ChangeSpec := { name := "calLevels", fn := fun _ => fun
  | [d1, d2, d3, d4] => { results := [.lit (.bool false)], args := [d1, d2, d3, d4] }
  | _ => none }
def CalLevelsWrongFalsely : Prop := calLevelsRow.holds Tryd.pinned (OpenSpec.ofChange calLevelsWrong)

/-- 'varvelaw15.CalRises': WHATEVER THE INPUT: true; the input reads as it did. -/
def calRisesSpec : ChangeSpec := { name := "calRises", fn := fun _ => fun
  | [d1, d2, d3, d4, d5] => { results := [.lit (.bool true)], args := [d1, d2, d3, d4, d5] }
  | _ => none }
def calRisesRow : OpenClaim := { program := "ytejflcfcbjadhaadoor", sum := "20277ee5e6f21eabacf087aa465c8de4809466f5f1abdb7f467881e2253d2c02", func := "varve/varvelaw15.CalRises", spec := "calRises", named := ["varve/cal.sizes"], apart := false, laid := [("varve/cal.sizes", laid_varve_cal_sizes)] }
def CalRisesSaid : Prop := calRisesRow.holds Tryd.pinned (OpenSpec.ofChange calRisesSpec)

/-- ITS FALSE NEIGHBOUR: 'it returns false'. Refute it at one input. -/
def calRisesWrong : ChangeSpec := { name := "calRises", fn := fun _ => fun
  | [d1, d2, d3, d4, d5] => { results := [.lit (.bool false)], args := [d1, d2, d3, d4, d5] }
  | _ => none }
def CalRisesWrongFalsely : Prop := calRisesRow.holds Tryd.pinned (OpenSpec.ofChange calRisesWrong)

/-- 'varvelaw15.CalCoarse': WHATEVER THE INPUT: true; the input reads as it did. -/
def calCoarseSpec : ChangeSpec := { name := "calCoarse", fn := fun _ => fun
  | [d1, d2] => { results := [.lit (.bool true)], args := [d1, d2] }
  | _ => none }
def calCoarseRow : OpenClaim := { program := "ytejflcfcbjadhaadoor", sum := "20277ee5e6f21eabacf087aa465c8de4809466f5f1abdb7f467881e2253d2c02", func := "varve/varvelaw15.CalCoarse", spec := "calCoarse", named := ["varve/cal.sizes"], apart := false, laid := [("varve/cal.sizes", laid_varve_cal_sizes)] }
def CalCoarseSaid : Prop := calCoarseRow.holds Tryd.pinned (OpenSpec.ofChange calCoarseSpec)

/-- ITS FALSE NEIGHBOUR: 'it returns false'. Refute it at one input. -/
def calCoarseWrong : ChangeSpec := { name := "calCoarse", fn := fun _ => fun
  | [d1, d2] => { results := [.lit (.bool false)], args := [d1, d2] }
  | _ => none }
def CalCoarseWrongFalsely : Prop := calCoarseRow.holds Tryd.pinned (OpenSpec.ofChange calCoarseWrong)

/-- 'varvelaw15.CalWindows': WHATEVER THE INPUT: true; the input reads as it did. -/
def calWindowsSpec : ChangeSpec := { name := "calWindows", fn := fun _ => fun
  | [d1, d2, d3, d4] => { results := [.lit (.bool true)], args := [d1, d2, d3, d4] }
  | _ => none }
def calWindowsRow : OpenClaim := { program := "ytejflcfcbjadhaadoor", sum := "20277ee5e6f21eabacf087aa465c8de4809466f5f1abdb7f467881e2253d2c02", func := "varve/varvelaw15.CalWindows", spec := "calWindows", unfollowed := true, recurses := true, named := ["varve/cal.sizes"], apart := false, laid := [("varve/cal.sizes", laid_varve_cal_sizes)] }
def CalWindowsSaid : Prop := calWindowsRow.holds Tryd.pinned (OpenSpec.ofChange calWindowsSpec)

/-- ITS FALSE NEIGHBOUR: 'it returns false'. Refute it at one input. -/
def calWindowsWrong : ChangeSpec := { name := "calWindows", fn := fun _ => fun
  | [d1, d2, d3, d4] => { results := [.lit (.bool false)], args := [d1, d2, d3, d4] }
  | _ => none }
def CalWindowsWrongFalsely : Prop := calWindowsRow.holds Tryd.pinned (OpenSpec.ofChange calWindowsWrong)

/- THE SECOND FORM. 'bulk': how many values and letters a reading holds, each counted each time it is reached (what is shared counts as often as it is met; a slice's spare places count too). A statement '..UptoSaid' is the law's where the arguments, and the package variables that the reading takes, are together of bulk at most 1048576: NARROWER than '..Said'. Prove '..Said' where nothing that the law and all that it calls make is longer than what came in: it says more and counts as full. Else prove '..UptoSaid'. A law counts once. -/
mutual
def uptoBulk {H : Type} : DataW H → Nat
  | .lit (.string bytes) => bytes.length + 1
  | .lit _ => 1
  | .nil => 1
  | .ptr d => uptoBulk d + 1
  | .slice elems spare => uptoBulkAll elems + uptoBulkAll spare + 1
  | .agg parts => uptoBulkAll parts + 1
  | .iface _ d => uptoBulk d + 1
  | .map entries => uptoBulkEntries entries + 1
  | .held _ => 1
def uptoBulkAll {H : Type} : List (DataW H) → Nat
  | [] => 0
  | d :: r => uptoBulk d + uptoBulkAll r
def uptoBulkEntries {H : Type} : List (Lit × DataW H) → Nat
  | [] => 0
  | x :: r => uptoBulkEntry x + uptoBulkEntries r
def uptoBulkEntry {H : Type} : Lit × DataW H → Nat
  | (.string bytes, d) => bytes.length + uptoBulk d + 1
  | (_, d) => uptoBulk d + 1
 end
def uptoSmall : (H : Type) → List (DataW H) → Bool := fun _ ds => decide (uptoBulkAll ds ≤ 1048576)
def OpenSpec.upto (s : _root_.Go.ChangeSpec) : _root_.Go.OpenSpec := { _root_.Go.OpenSpec.ofChange s with cond := some uptoSmall }

/-- 'varvelaw15.CalChecks', WHERE WHAT IT READS IS OF BULK AT MOST 1048576: true; the input reads as it did. -/
def calChecksUptoRow : OpenClaim := { program := "ytejflcfcbjadhaadoor", sum := "20277ee5e6f21eabacf087aa465c8de4809466f5f1abdb7f467881e2253d2c02", func := "varve/varvelaw15.CalChecks", spec := "calChecks", named := ["varve/cal.sizes"], apart := false, laid := [("varve/cal.sizes", laid_varve_cal_sizes)], narrowed := true }
def CalChecksUptoSaid : Prop := calChecksUptoRow.holds Tryd.pinned (OpenSpec.upto calChecksSpec)

/-- 'varvelaw15.CalFloors', WHERE WHAT IT READS IS OF BULK AT MOST 1048576: true; the input reads as it did. -/
def calFloorsUptoRow : OpenClaim := { program := "ytejflcfcbjadhaadoor", sum := "20277ee5e6f21eabacf087aa465c8de4809466f5f1abdb7f467881e2253d2c02", func := "varve/varvelaw15.CalFloors", spec := "calFloors", named := ["varve/cal.sizes"], apart := false, laid := [("varve/cal.sizes", laid_varve_cal_sizes)], narrowed := true }
def CalFloorsUptoSaid : Prop := calFloorsUptoRow.holds Tryd.pinned (OpenSpec.upto calFloorsSpec)

/-- 'varvelaw15.CalLevels', WHERE WHAT IT READS IS OF BULK AT MOST 1048576: true; the input reads as it did. -/
def calLevelsUptoRow : OpenClaim := { program := "ytejflcfcbjadhaadoor", sum := "20277ee5e6f21eabacf087aa465c8de4809466f5f1abdb7f467881e2253d2c02", func := "varve/varvelaw15.CalLevels", spec := "calLevels", named := ["varve/cal.sizes"], apart := false, laid := [("varve/cal.sizes", laid_varve_cal_sizes)], narrowed := true }
def CalLevelsUptoSaid : Prop := calLevelsUptoRow.holds Tryd.pinned (OpenSpec.upto calLevelsSpec)

/-- 'varvelaw15.CalRises', WHERE WHAT IT READS IS OF BULK AT MOST 1048576: true; the input reads as it did. -/
def calRisesUptoRow : OpenClaim := { program := "ytejflcfcbjadhaadoor", sum := "20277ee5e6f21eabacf087aa465c8de4809466f5f1abdb7f467881e2253d2c02", func := "varve/varvelaw15.CalRises", spec := "calRises", named := ["varve/cal.sizes"], apart := false, laid := [("varve/cal.sizes", laid_varve_cal_sizes)], narrowed := true }
def CalRisesUptoSaid : Prop := calRisesUptoRow.holds Tryd.pinned (OpenSpec.upto calRisesSpec)

/-- 'varvelaw15.CalCoarse', WHERE WHAT IT READS IS OF BULK AT MOST 1048576: true; the input reads as it did. -/
def calCoarseUptoRow : OpenClaim := { program := "ytejflcfcbjadhaadoor", sum := "20277ee5e6f21eabacf087aa465c8de4809466f5f1abdb7f467881e2253d2c02", func := "varve/varvelaw15.CalCoarse", spec := "calCoarse", named := ["varve/cal.sizes"], apart := false, laid := [("varve/cal.sizes", laid_varve_cal_sizes)], narrowed := true }
def CalCoarseUptoSaid : Prop := calCoarseUptoRow.holds Tryd.pinned (OpenSpec.upto calCoarseSpec)

/-- 'varvelaw15.CalWindows', WHERE WHAT IT READS IS OF BULK AT MOST 1048576: true; the input reads as it did. -/
def calWindowsUptoRow : OpenClaim := { program := "ytejflcfcbjadhaadoor", sum := "20277ee5e6f21eabacf087aa465c8de4809466f5f1abdb7f467881e2253d2c02", func := "varve/varvelaw15.CalWindows", spec := "calWindows", unfollowed := true, recurses := true, named := ["varve/cal.sizes"], apart := false, laid := [("varve/cal.sizes", laid_varve_cal_sizes)], narrowed := true }
def CalWindowsUptoSaid : Prop := calWindowsUptoRow.holds Tryd.pinned (OpenSpec.upto calWindowsSpec)

end Rows
end Go.Proofs.YtejflcfcbjadhaaDoor
