/-
  DERIVED. GIVEN WITH THE SEED: THE CARDS: each row of YtejflcfcbjadhabDoorRows.lean that lists a variable, with what it lists TIED to the program's text (the seventh form; the later family's looks); each row that meets fmt, with fmt's text TOLD by the authors' own Lean function (tested against real Go, not proved from fmt's source: count such statements apart). THE CARD IS WHAT COUNTS. Prove the row's statement (the work); the ties are given (YtejflcfcbjadhabDoorTie.lean); close each card by the builder's one call (the guide's Derived/Test/ToyasCard.lean, 'card_holds'). Laid BY PROGRAM, IN A SANDBOX (cutbox-door.mjs). By AI agents, Wed Nov 11 2026. No macro, syntax, notation, axiom, sorry.
-/
import Derived.Test.YtejflcfcbjadhabDoorRows
import GoSem.ClaimSeven
namespace Go.Proofs.YtejflcfcbjadhabDoor
namespace Rows

/-- THE TIED CARD OF 'varvelaw15.CalNests'. -/
def calNestsCard : Claim7 := { stood := { row := calNestsRow, standIns := [], harness := (true, "19de54b6c8f46ad735dc6cbeb96408497ff1e5bcdf9f23224ed46914f93baa8d"), looks := false }, kinds := [], alts := [], laidByText := true, laidKinds := [.data], laidTests := true, laidLooks := .later }
def CalNestsCardSaid : Prop := Claim7.holds Tryd.pinned (.plain (OpenSpec.ofChange calNestsSpec)) calNestsCard

/-- THE TIED CARD OF 'varvelaw15.CalDays'. -/
def calDaysCard : Claim7 := { stood := { row := calDaysRow, standIns := [], harness := (true, "19de54b6c8f46ad735dc6cbeb96408497ff1e5bcdf9f23224ed46914f93baa8d"), looks := false }, kinds := [], alts := [], laidByText := true, laidKinds := [.data], laidTests := true, laidLooks := .later }
def CalDaysCardSaid : Prop := Claim7.holds Tryd.pinned (.plain (OpenSpec.ofChange calDaysSpec)) calDaysCard

/-- THE TIED CARD OF 'varvelaw15.CalLasts'. -/
def calLastsCard : Claim7 := { stood := { row := calLastsRow, standIns := [], harness := (true, "19de54b6c8f46ad735dc6cbeb96408497ff1e5bcdf9f23224ed46914f93baa8d"), looks := false }, kinds := [], alts := [], laidByText := true, laidKinds := [.data], laidTests := true, laidLooks := .later }
def CalLastsCardSaid : Prop := Claim7.holds Tryd.pinned (.plain (OpenSpec.ofChange calLastsSpec)) calLastsCard

/-- THE SECOND FORM's CARD OF 'varvelaw15.CalNests'. -/
def calNestsUptoCard : Claim7 := { stood := { row := calNestsUptoRow, standIns := [], harness := (true, "19de54b6c8f46ad735dc6cbeb96408497ff1e5bcdf9f23224ed46914f93baa8d"), looks := false }, kinds := [], alts := [], laidByText := true, laidKinds := [.data], laidTests := true, laidLooks := .later }
def CalNestsUptoCardSaid : Prop := Claim7.holds Tryd.pinned (.plain (OpenSpec.upto calNestsSpec)) calNestsUptoCard

/-- THE SECOND FORM's CARD OF 'varvelaw15.CalDays'. -/
def calDaysUptoCard : Claim7 := { stood := { row := calDaysUptoRow, standIns := [], harness := (true, "19de54b6c8f46ad735dc6cbeb96408497ff1e5bcdf9f23224ed46914f93baa8d"), looks := false }, kinds := [], alts := [], laidByText := true, laidKinds := [.data], laidTests := true, laidLooks := .later }
def CalDaysUptoCardSaid : Prop := Claim7.holds Tryd.pinned (.plain (OpenSpec.upto calDaysSpec)) calDaysUptoCard

/-- THE SECOND FORM's CARD OF 'varvelaw15.CalLasts'. -/
def calLastsUptoCard : Claim7 := { stood := { row := calLastsUptoRow, standIns := [], harness := (true, "19de54b6c8f46ad735dc6cbeb96408497ff1e5bcdf9f23224ed46914f93baa8d"), looks := false }, kinds := [], alts := [], laidByText := true, laidKinds := [.data], laidTests := true, laidLooks := .later }
def CalLastsUptoCardSaid : Prop := Claim7.holds Tryd.pinned (.plain (OpenSpec.upto calLastsSpec)) calLastsUptoCard
end Rows
end Go.Proofs.YtejflcfcbjadhabDoor
