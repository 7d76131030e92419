/-
  DERIVED. GIVEN WITH THE SEED: THE CARDS: each row of YtejflcfcbjadhaaDoorRows.lean that lists a variable, with what it lists TIED to the program's text (the seventh form; the later family's looks); each row that meets fmt, with fmt's text TOLD by the authors' own Lean function (tested against real Go, not proved from fmt's source: count such statements apart). THE CARD IS WHAT COUNTS. Prove the row's statement (the work); the ties are given (YtejflcfcbjadhaaDoorTie.lean); close each card by the builder's one call (the guide's Derived/Test/ToyasCard.lean, 'card_holds'). Laid BY PROGRAM, IN A SANDBOX (cutbox-door.mjs). By AI agents, Wed Nov 11 2026. No macro, syntax, notation, axiom, sorry.
-/
import Derived.Test.YtejflcfcbjadhaaDoorRows
import GoSem.ClaimSeven
namespace Go.Proofs.YtejflcfcbjadhaaDoor
namespace Rows

/-- THE TIED CARD OF 'varvelaw15.CalChecks'. -/
def calChecksCard : Claim7 := { stood := { row := calChecksRow, standIns := [], harness := (true, "f1e52ae03bda01130a30c5da4703c249cc7530728249386f456e1af743da4913"), looks := false }, kinds := [], alts := [], laidByText := true, laidKinds := [.data], laidTests := true, laidLooks := .later }
def CalChecksCardSaid : Prop := Claim7.holds Tryd.pinned (.plain (OpenSpec.ofChange calChecksSpec)) calChecksCard

/-- THE TIED CARD OF 'varvelaw15.CalFloors'. -/
def calFloorsCard : Claim7 := { stood := { row := calFloorsRow, standIns := [], harness := (true, "f1e52ae03bda01130a30c5da4703c249cc7530728249386f456e1af743da4913"), looks := false }, kinds := [], alts := [], laidByText := true, laidKinds := [.data], laidTests := true, laidLooks := .later }
def CalFloorsCardSaid : Prop := Claim7.holds Tryd.pinned (.plain (OpenSpec.ofChange calFloorsSpec)) calFloorsCard

/-- THE TIED CARD OF 'varvelaw15.CalLevels'. -/
def calLevelsCard : Claim7 := { stood := { row := calLevelsRow, standIns := [], harness := (true, "f1e52ae03bda01130a30c5da4703c249cc7530728249386f456e1af743da4913"), looks := false }, kinds := [], alts := [], laidByText := true, laidKinds := [.data], laidTests := true, laidLooks := .later }
def CalLevelsCardSaid : Prop := Claim7.holds Tryd.pinned (.plain (OpenSpec.ofChange calLevelsSpec)) calLevelsCard

/-- THE TIED CARD OF 'varvelaw15.CalRises'. -/
def calRisesCard : Claim7 := { stood := { row := calRisesRow, standIns := [], harness := (true, "f1e52ae03bda01130a30c5da4703c249cc7530728249386f456e1af743da4913"), looks := false }, kinds := [], alts := [], laidByText := true, laidKinds := [.data], laidTests := true, laidLooks := .later }
def CalRisesCardSaid : Prop := Claim7.holds Tryd.pinned (.plain (OpenSpec.ofChange calRisesSpec)) calRisesCard

/-- THE TIED CARD OF 'varvelaw15.CalCoarse'. -/
def calCoarseCard : Claim7 := { stood := { row := calCoarseRow, standIns := [], harness := (true, "f1e52ae03bda01130a30c5da4703c249cc7530728249386f456e1af743da4913"), looks := false }, kinds := [], alts := [], laidByText := true, laidKinds := [.data], laidTests := true, laidLooks := .later }
def CalCoarseCardSaid : Prop := Claim7.holds Tryd.pinned (.plain (OpenSpec.ofChange calCoarseSpec)) calCoarseCard

/-- THE TIED CARD OF 'varvelaw15.CalWindows'. -/
def calWindowsCard : Claim7 := { stood := { row := calWindowsRow, standIns := [], harness := (true, "f1e52ae03bda01130a30c5da4703c249cc7530728249386f456e1af743da4913"), looks := false }, kinds := [], alts := [], laidByText := true, laidKinds := [.data], laidTests := true, laidLooks := .later }
def CalWindowsCardSaid : Prop := Claim7.holds Tryd.pinned (.plain (OpenSpec.ofChange calWindowsSpec)) calWindowsCard

/-- THE SECOND FORM's CARD OF 'varvelaw15.CalChecks'. -/
def calChecksUptoCard : Claim7 := { stood := { row := calChecksUptoRow, standIns := [], harness := (true, "f1e52ae03bda01130a30c5da4703c249cc7530728249386f456e1af743da4913"), looks := false }, kinds := [], alts := [], laidByText := true, laidKinds := [.data], laidTests := true, laidLooks := .later }
def CalChecksUptoCardSaid : Prop := Claim7.holds Tryd.pinned (.plain (OpenSpec.upto calChecksSpec)) calChecksUptoCard

/-- THE SECOND FORM's CARD OF 'varvelaw15.CalFloors'. -/
def calFloorsUptoCard : Claim7 := { stood := { row := calFloorsUptoRow, standIns := [], harness := (true, "f1e52ae03bda01130a30c5da4703c249cc7530728249386f456e1af743da4913"), looks := false }, kinds := [], alts := [], laidByText := true, laidKinds := [.data], laidTests := true, laidLooks := .later }
def CalFloorsUptoCardSaid : Prop := Claim7.holds Tryd.pinned (.plain (OpenSpec.upto calFloorsSpec)) calFloorsUptoCard

/-- THE SECOND FORM's CARD OF 'varvelaw15.CalLevels'. -/
def calLevelsUptoCard : Claim7 := { stood := { row := calLevelsUptoRow, standIns := [], harness := (true, "f1e52ae03bda01130a30c5da4703c249cc7530728249386f456e1af743da4913"), looks := false }, kinds := [], alts := [], laidByText := true, laidKinds := [.data], laidTests := true, laidLooks := .later }
def CalLevelsUptoCardSaid : Prop := Claim7.holds Tryd.pinned (.plain (OpenSpec.upto calLevelsSpec)) calLevelsUptoCard

/-- THE SECOND FORM's CARD OF 'varvelaw15.CalRises'. -/
def calRisesUptoCard : Claim7 := { stood := { row := calRisesUptoRow, standIns := [], harness := (true, "f1e52ae03bda01130a30c5da4703c249cc7530728249386f456e1af743da4913"), looks := false }, kinds := [], alts := [], laidByText := true, laidKinds := [.data], laidTests := true, laidLooks := .later }
def CalRisesUptoCardSaid : Prop := Claim7.holds Tryd.pinned (.plain (OpenSpec.upto calRisesSpec)) calRisesUptoCard

/-- THE SECOND FORM's CARD OF 'varvelaw15.CalCoarse'. -/
def calCoarseUptoCard : Claim7 := { stood := { row := calCoarseUptoRow, standIns := [], harness := (true, "f1e52ae03bda01130a30c5da4703c249cc7530728249386f456e1af743da4913"), looks := false }, kinds := [], alts := [], laidByText := true, laidKinds := [.data], laidTests := true, laidLooks := .later }
def CalCoarseUptoCardSaid : Prop := Claim7.holds Tryd.pinned (.plain (OpenSpec.upto calCoarseSpec)) calCoarseUptoCard

/-- THE SECOND FORM's CARD OF 'varvelaw15.CalWindows'. -/
def calWindowsUptoCard : Claim7 := { stood := { row := calWindowsUptoRow, standIns := [], harness := (true, "f1e52ae03bda01130a30c5da4703c249cc7530728249386f456e1af743da4913"), looks := false }, kinds := [], alts := [], laidByText := true, laidKinds := [.data], laidTests := true, laidLooks := .later }
def CalWindowsUptoCardSaid : Prop := Claim7.holds Tryd.pinned (.plain (OpenSpec.upto calWindowsSpec)) calWindowsUptoCard
end Rows
end Go.Proofs.YtejflcfcbjadhaaDoor
