/-
  NARROWER THAN 'FOR EVERY INPUT', by the rows' own cells (each row's printed sentence says how): CalNests: laid · CalDays: laid · CalLasts: laid.
  DERIVED. THE GIVEN ROWS OF THIS SEAT. 3 by the template 'for every input the law returns true; each argument reads behind the call as it read before'; 0 by the template 'total and deterministic' (their statements: YtejflcfcbjadhabDoorTotals.lean).
  GIVEN WITH THE SEED: the statements are not yours to turn. If you find one false, say at which input.
  Laid BY PROGRAM, IN A SANDBOX (cutbox-rows.mjs): the forced cells as the released guide's own fill.sh prints them over the translation e4ecc4fcf23ca4db… (all of the seat's roots in one cut). By AI agents, Wed Nov 11 2026. No macro, syntax, notation, axiom, sorry.
-/
import Derived.Test.YtejflcfcbjadhabDoorChecked
import GoSem.Claim
import GoSem.ClaimJoined
import GoSem.ClaimMapViews
import Derived.JoinedTies
import Derived.KernelRfl
namespace Go.Proofs.YtejflcfcbjadhabDoor
/- THE CELL 'sum', in the pinned program and in every row, IS THE sha256 OF THE DUMP (.gsa) THAT YtejflcfcbjadhabDoorProg.lean LOADS. Nothing in Lean hashes anything: it is a label: what it is worth is what the hold of that sum in a sandbox is worth. -/
noncomputable def Tryd.pinned : Pinned := { name := "ytejflcfcbjadhabdoor", sum := "e4ecc4fcf23ca4dbc34d4045143b82f938e9890a4e2db278017217bbbd01d2bc", checked := Tryd.checked }
namespace Rows
def none {H : Type} : Left H := { results := [], args := [] }

/- WHAT THE LISTED PACKAGE-LEVEL VARIABLES READ AS WHEN THE CALL BEGINS. Each datum BY PROGRAM (the guide's laid-datum.mjs) off the statement by which the dump's own 'gosem.cut.vars' lays the variable. In a bare row this is a premise. The card (YtejflcfcbjadhabDoorCards.lean) ties it to the program's text. -/
def laid_varve_cal_sizes {H : Type} : DataW H := .agg [.lit (.int .i64 1), .lit (.int .i64 6), .lit (.int .i64 360), .lit (.int .i64 8640)]

/-- 'varvelaw15.CalNests': WHATEVER THE INPUT: true; the input reads as it did. -/
def calNestsSpec : ChangeSpec := { name := "calNests", fn := fun _ => fun
  | [d1, d2, d3] => { results := [.lit (.bool true)], args := [d1, d2, d3] }
  | _ => none }
def calNestsRow : OpenClaim := { program := "ytejflcfcbjadhabdoor", sum := "e4ecc4fcf23ca4dbc34d4045143b82f938e9890a4e2db278017217bbbd01d2bc", func := "varve/varvelaw15.CalNests", spec := "calNests", named := ["varve/cal.sizes"], apart := false, laid := [("varve/cal.sizes", laid_varve_cal_sizes)] }
def CalNestsSaid : Prop := calNestsRow.holds Tryd.pinned (OpenSpec.ofChange calNestsSpec)

/-- ITS FALSE NEIGHBOUR: 'it returns false'. Refute it at one input. -/
def calNestsWrong : ChangeSpec := { name := "calNests", fn := fun _ => fun
  | [d1, d2, d3] => { results := [.lit (.bool false)], args := [d1, d2, d3] }
  | _ => none }
def CalNestsWrongFalsely : Prop := calNestsRow.holds Tryd.pinned (OpenSpec.ofChange calNestsWrong)

/-- 'varvelaw15.CalDays': WHATEVER THE INPUT: true; the input reads as it did. -/
def calDaysSpec : ChangeSpec := { name := "calDays", fn := fun _ => fun
  | [d1, d2, d3] => { results := [.lit (.bool true)], args := [d1, d2, d3] }
  | _ => none }
def calDaysRow : OpenClaim := { program := "ytejflcfcbjadhabdoor", sum := "e4ecc4fcf23ca4dbc34d4045143b82f938e9890a4e2db278017217bbbd01d2bc", func := "varve/varvelaw15.CalDays", spec := "calDays", named := ["varve/cal.sizes"], apart := false, laid := [("varve/cal.sizes", laid_varve_cal_sizes)] }
def CalDaysSaid : Prop := calDaysRow.holds Tryd.pinned (OpenSpec.ofChange calDaysSpec)

/-- ITS FALSE NEIGHBOUR: 'it returns false'. Refute it at one input. -/
def calDaysWrong : ChangeSpec := { name := "calDays", fn := fun _ => fun
  | [d1, d2, d3] => { results := [.lit (.bool false)], args := [d1, d2, d3] }
  | _ => none }
def CalDaysWrongFalsely : Prop := calDaysRow.holds Tryd.pinned (OpenSpec.ofChange calDaysWrong)

/-- 'varvelaw15.CalLasts': WHATEVER THE INPUT: true; the input reads as it did. -/
def calLastsSpec : ChangeSpec := { name := "calLasts", fn := fun _ => fun
  | [d1, d2, d3] => { results := [.lit (.bool true)], args := [d1, d2, d3] }
  | _ => none }
def calLastsRow : OpenClaim := { program := "ytejflcfcbjadhabdoor", sum := "e4ecc4fcf23ca4dbc34d4045143b82f938e9890a4e2db278017217bbbd01d2bc", func := "varve/varvelaw15.CalLasts", spec := "calLasts", named := ["varve/cal.sizes"], apart := false, laid := [("varve/cal.sizes", laid_varve_cal_sizes)] }
def CalLastsSaid : Prop := calLastsRow.holds Tryd.pinned (OpenSpec.ofChange calLastsSpec)

/-- ITS FALSE NEIGHBOUR: 'it returns false'. Refute it at one input. -/
def calLastsWrong : ChangeSpec := { name := "calLasts", fn := fun _ => fun
  | [d1, d2, d3] => { results := [.lit (.bool false)], args := [d1, d2, d3] }
  | _ => none }
def CalLastsWrongFalsely : Prop := calLastsRow.holds Tryd.pinned (OpenSpec.ofChange calLastsWrong)

/- THE SECOND FORM. 'bulk': how many values and letters a reading holds, each counted each time it is reached (what is shared counts as often as it is met; a slice's spare places count too). A statement '..UptoSaid' is the law's where the arguments, and the package variables that the reading takes, are together of bulk at most 1048576: NARROWER than '..Said'. Prove '..Said' where nothing that the law and all that it calls make is longer than what came in: it says more and counts as full. Else prove '..UptoSaid'. A law counts once. -/
mutual
def uptoBulk {H : Type} : DataW H → Nat
  | .lit (.string bytes) => bytes.length + 1
  | .lit _ => 1
  | .nil => 1
  | .ptr d => uptoBulk d + 1
  | .slice elems spare => uptoBulkAll elems + uptoBulkAll spare + 1
  | .agg parts => uptoBulkAll parts + 1
  | .iface _ d => uptoBulk d + 1
  | .map entries => uptoBulkEntries entries + 1
  | .held _ => 1
def uptoBulkAll {H : Type} : List (DataW H) → Nat
  | [] => 0
  | d :: r => uptoBulk d + uptoBulkAll r
def uptoBulkEntries {H : Type} : List (Lit × DataW H) → Nat
  | [] => 0
  | x :: r => uptoBulkEntry x + uptoBulkEntries r
def uptoBulkEntry {H : Type} : Lit × DataW H → Nat
  | (.string bytes, d) => bytes.length + uptoBulk d + 1
  | (_, d) => uptoBulk d + 1
 end
def uptoSmall : (H : Type) → List (DataW H) → Bool := fun _ ds => decide (uptoBulkAll ds ≤ 1048576)
def OpenSpec.upto (s : _root_.Go.ChangeSpec) : _root_.Go.OpenSpec := { _root_.Go.OpenSpec.ofChange s with cond := some uptoSmall }

/-- 'varvelaw15.CalNests', WHERE WHAT IT READS IS OF BULK AT MOST 1048576: true; the input reads as it did. -/
def calNestsUptoRow : OpenClaim := { program := "ytejflcfcbjadhabdoor", sum := "e4ecc4fcf23ca4dbc34d4045143b82f938e9890a4e2db278017217bbbd01d2bc", func := "varve/varvelaw15.CalNests", spec := "calNests", named := ["varve/cal.sizes"], apart := false, laid := [("varve/cal.sizes", laid_varve_cal_sizes)], narrowed := true }
def CalNestsUptoSaid : Prop := calNestsUptoRow.holds Tryd.pinned (OpenSpec.upto calNestsSpec)

/-- 'varvelaw15.CalDays', WHERE WHAT IT READS IS OF BULK AT MOST 1048576: true; the input reads as it did. -/
def calDaysUptoRow : OpenClaim := { program := "ytejflcfcbjadhabdoor", sum := "e4ecc4fcf23ca4dbc34d4045143b82f938e9890a4e2db278017217bbbd01d2bc", func := "varve/varvelaw15.CalDays", spec := "calDays", named := ["varve/cal.sizes"], apart := false, laid := [("varve/cal.sizes", laid_varve_cal_sizes)], narrowed := true }
def CalDaysUptoSaid : Prop := calDaysUptoRow.holds Tryd.pinned (OpenSpec.upto calDaysSpec)

/-- 'varvelaw15.CalLasts', WHERE WHAT IT READS IS OF BULK AT MOST 1048576: true; the input reads as it did. -/
def calLastsUptoRow : OpenClaim := { program := "ytejflcfcbjadhabdoor", sum := "e4ecc4fcf23ca4dbc34d4045143b82f938e9890a4e2db278017217bbbd01d2bc", func := "varve/varvelaw15.CalLasts", spec := "calLasts", named := ["varve/cal.sizes"], apart := false, laid := [("varve/cal.sizes", laid_varve_cal_sizes)], narrowed := true }
def CalLastsUptoSaid : Prop := calLastsUptoRow.holds Tryd.pinned (OpenSpec.upto calLastsSpec)

end Rows
end Go.Proofs.YtejflcfcbjadhabDoor
