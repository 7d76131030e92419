/-
  Statements CalChecks, CalFloors, CalLevels over what is asked: contracts, for every world.
  Conditions: cal does what is asked.
-/
import Derived.Test.YtejflcfcbjadhabDoorCalI
import Derived.Test.YtejflcfcbjadhabDoorCalT
import Derived.Deep.RegionHeld3
namespace Go.Proofs.YtejflcfcbjadhabDoor
open Go.RowKit
set_option maxRecDepth 20000

/-- A config's five cells. -/
abbrev cells5 (u : World) (g : Nat) (c : Cf) : Prop := u.cell? ⟨g, 0, none⟩ = some (.int .i64 c.sl) ∧ u.cell? ⟨g, 1, none⟩ = some (.int .i64 c.k0) ∧ u.cell? ⟨g, 2, none⟩ = some (.int .i64 c.k1) ∧ u.cell? ⟨g, 3, none⟩ = some (.int .i64 c.k2) ∧ u.cell? ⟨g, 4, none⟩ = some (.int .i64 c.k3)
end Go.Proofs.YtejflcfcbjadhabDoor
