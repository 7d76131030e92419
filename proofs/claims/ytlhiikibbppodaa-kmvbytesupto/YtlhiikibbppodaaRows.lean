/-
  No cell of these rows narrows 'for every input' (looked for: loops, veiled, ifaces, maps, wideKeys, modest, calm, conditions, laid).
  DERIVED. THE GIVEN ROWS OF THIS SEAT. 6 by the template 'for every input the law returns true; each argument reads behind the call as it read before'; 0 by the template 'total and deterministic' (their statements: YtlhiikibbppodaaTotals.lean).
  GIVEN WITH THE SEED: the statements are not yours to turn. If you find one false, say at which input.
  Laid BY PROGRAM, IN A SANDBOX (cutbox-rows.mjs): the forced cells as the released guide's own fill.sh prints them over the translation 7a146937515537ed… (all of the seat's roots in one cut). By AI agents, Wed Nov 11 2026. No macro, syntax, notation, axiom, sorry.
-/
import Derived.Test.YtlhiikibbppodaaChecked
import GoSem.Claim
import GoSem.ClaimJoined
import GoSem.ClaimMapViews
import Derived.JoinedTies
import Derived.KernelRfl
namespace Go.Proofs.Ytlhiikibbppodaa
/- THE CELL 'sum', in the pinned program and in every row, IS THE sha256 OF THE DUMP (.gsa) THAT YtlhiikibbppodaaProg.lean LOADS. Nothing in Lean hashes anything: it is a label: what it is worth is what the hold of that sum in a sandbox is worth. -/
noncomputable def Try.pinned : Pinned := { name := "ytlhiikibbppodaa", sum := "7a146937515537edbb8bb886b886e6a2316a281edc850e525479ac40a9bc8d3e", checked := Try.checked }
namespace Rows
def none {H : Type} : Left H := { results := [], args := [] }

/-- 'varvelaw08.KmvPlays': WHATEVER THE INPUT: true; the input reads as it did. -/
def kmvPlaysSpec : ChangeSpec := { name := "kmvPlays", fn := fun _ => fun
  | [d1, d2] => { results := [.lit (.bool true)], args := [d1, d2] }
  | _ => none }
def kmvPlaysRow : OpenClaim := { program := "ytlhiikibbppodaa", sum := "7a146937515537edbb8bb886b886e6a2316a281edc850e525479ac40a9bc8d3e", func := "varve/varvelaw08.KmvPlays", spec := "kmvPlays", unfollowed := true, recurses := true, named := ["math/bits.divideError", "math/bits.overflowError"], apart := false }
def KmvPlaysSaid : Prop := kmvPlaysRow.holds Try.pinned (OpenSpec.ofChange kmvPlaysSpec)

/-- ITS FALSE NEIGHBOUR: 'it returns false'. Refute it at one input. -/
def kmvPlaysWrong : ChangeSpec := { name := "kmvPlays", fn := fun _ => fun
  | [d1, d2] => { results := [.lit (.bool false)], args := [d1, d2] }
  | _ => none }
def KmvPlaysWrongFalsely : Prop := kmvPlaysRow.holds Try.pinned (OpenSpec.ofChange kmvPlaysWrong)

/-- 'varvelaw08.KmvChecks': WHATEVER THE INPUT: true; the input reads as it did. -/
def kmvChecksSpec : ChangeSpec := { name := "kmvChecks", fn := fun _ => fun
  | [d] => { results := [.lit (.bool true)], args := [d] }
  | _ => none }
def kmvChecksRow : OpenClaim := { program := "ytlhiikibbppodaa", sum := "7a146937515537edbb8bb886b886e6a2316a281edc850e525479ac40a9bc8d3e", func := "varve/varvelaw08.KmvChecks", spec := "kmvChecks", unfollowed := true, recurses := true, named := ["math/bits.divideError", "math/bits.overflowError"], apart := false }
def KmvChecksSaid : Prop := kmvChecksRow.holds Try.pinned (OpenSpec.ofChange kmvChecksSpec)

/-- ITS FALSE NEIGHBOUR: 'it returns false'. Refute it at one input. -/
def kmvChecksWrong : ChangeSpec := { name := "kmvChecks", fn := fun _ => fun
  | [d] => { results := [.lit (.bool false)], args := [d] }
  | _ => none }
def KmvChecksWrongFalsely : Prop := kmvChecksRow.holds Try.pinned (OpenSpec.ofChange kmvChecksWrong)

/-- 'varvelaw08.KmvFew': WHATEVER THE INPUT: true; the input reads as it did. -/
def kmvFewSpec : ChangeSpec := { name := "kmvFew", fn := fun _ => fun
  | [d1, d2] => { results := [.lit (.bool true)], args := [d1, d2] }
  | _ => none }
def kmvFewRow : OpenClaim := { program := "ytlhiikibbppodaa", sum := "7a146937515537edbb8bb886b886e6a2316a281edc850e525479ac40a9bc8d3e", func := "varve/varvelaw08.KmvFew", spec := "kmvFew", unfollowed := true, recurses := true, named := ["math/bits.divideError", "math/bits.overflowError"], apart := false }
def KmvFewSaid : Prop := kmvFewRow.holds Try.pinned (OpenSpec.ofChange kmvFewSpec)

/-- ITS FALSE NEIGHBOUR: 'it returns false'. Refute it at one input. -/
def kmvFewWrong : ChangeSpec := { name := "kmvFew", fn := fun _ => fun
  | [d1, d2] => { results := [.lit (.bool false)], args := [d1, d2] }
  | _ => none }
def KmvFewWrongFalsely : Prop := kmvFewRow.holds Try.pinned (OpenSpec.ofChange kmvFewWrong)

/-- 'varvelaw08.KmvMany': WHATEVER THE INPUT: true; the input reads as it did. -/
def kmvManySpec : ChangeSpec := { name := "kmvMany", fn := fun _ => fun
  | [d1, d2, d3] => { results := [.lit (.bool true)], args := [d1, d2, d3] }
  | _ => none }
def kmvManyRow : OpenClaim := { program := "ytlhiikibbppodaa", sum := "7a146937515537edbb8bb886b886e6a2316a281edc850e525479ac40a9bc8d3e", func := "varve/varvelaw08.KmvMany", spec := "kmvMany", unfollowed := true, recurses := true, named := ["math/bits.divideError", "math/bits.overflowError"], apart := false }
def KmvManySaid : Prop := kmvManyRow.holds Try.pinned (OpenSpec.ofChange kmvManySpec)

/-- ITS FALSE NEIGHBOUR: 'it returns false'. Refute it at one input. -/
def kmvManyWrong : ChangeSpec := { name := "kmvMany", fn := fun _ => fun
  | [d1, d2, d3] => { results := [.lit (.bool false)], args := [d1, d2, d3] }
  | _ => none }
def KmvManyWrongFalsely : Prop := kmvManyRow.holds Try.pinned (OpenSpec.ofChange kmvManyWrong)

/-- 'varvelaw08.KmvTurns': WHATEVER THE INPUT: true; the input reads as it did. -/
def kmvTurnsSpec : ChangeSpec := { name := "kmvTurns", fn := fun _ => fun
  | [d1, d2, d3] => { results := [.lit (.bool true)], args := [d1, d2, d3] }
  | _ => none }
def kmvTurnsRow : OpenClaim := { program := "ytlhiikibbppodaa", sum := "7a146937515537edbb8bb886b886e6a2316a281edc850e525479ac40a9bc8d3e", func := "varve/varvelaw08.KmvTurns", spec := "kmvTurns", unfollowed := true, recurses := true, named := ["math/bits.divideError", "math/bits.overflowError"], apart := false }
def KmvTurnsSaid : Prop := kmvTurnsRow.holds Try.pinned (OpenSpec.ofChange kmvTurnsSpec)

/-- ITS FALSE NEIGHBOUR: 'it returns false'. Refute it at one input. -/
def kmvTurnsWrong : ChangeSpec := { name := "kmvTurns", fn := fun _ => fun
  | [d1, d2, d3] => { results := [.lit (.bool false)], args := [d1, d2, d3] }
  | _ => none }
def KmvTurnsWrongFalsely : Prop := kmvTurnsRow.holds Try.pinned (OpenSpec.ofChange kmvTurnsWrong)

/-- 'varvelaw08.KmvBytes': WHATEVER THE INPUT: true; the input reads as it did. -/
def kmvBytesSpec : ChangeSpec := { name := "kmvBytes", fn := fun _ => fun
  | [d1, d2, d3] => { results := [.lit (.bool true)], args := [d1, d2, d3] }
  | _ => none }
def kmvBytesRow : OpenClaim := { program := "ytlhiikibbppodaa", sum := "7a146937515537edbb8bb886b886e6a2316a281edc850e525479ac40a9bc8d3e", func := "varve/varvelaw08.KmvBytes", spec := "kmvBytes", unfollowed := true, recurses := true, named := ["math/bits.divideError", "math/bits.overflowError"], apart := false }
def KmvBytesSaid : Prop := kmvBytesRow.holds Try.pinned (OpenSpec.ofChange kmvBytesSpec)

/-- ITS FALSE NEIGHBOUR: 'it returns false'. Refute it at one input. -/
def kmvBytesWrong : ChangeSpec := { name := "kmvBytes", fn := fun _ => fun
  | [d1, d2, d3] => { results := [.lit (.bool false)], args := [d1, d2, d3] }
  | _ => none }
def KmvBytesWrongFalsely : Prop := kmvBytesRow.holds Try.pinned (OpenSpec.ofChange kmvBytesWrong)

/- THE SECOND FORM. 'bulk': how many values and letters a reading holds, each counted each time it is reached (what is shared counts as often as it is met; a slice's spare places count too). A statement '..UptoSaid' is the law's where the arguments, and the package variables that the reading takes, are together of bulk at most 1048576: NARROWER than '..Said'. Prove '..Said' where nothing that the law and all that it calls make is longer than what came in: it says more and counts as full. Else prove '..UptoSaid'. A law counts once. -/
mutual
def uptoBulk {H : Type} : DataW H → Nat
  | .lit (.string bytes) => bytes.length + 1
  | .lit _ => 1
  | .nil => 1
  | .ptr d => uptoBulk d + 1
  | .slice elems spare => uptoBulkAll elems + uptoBulkAll spare + 1
  | .agg parts => uptoBulkAll parts + 1
  | .iface _ d => uptoBulk d + 1
  | .map entries => uptoBulkEntries entries + 1
  | .held _ => 1
def uptoBulkAll {H : Type} : List (DataW H) → Nat
  | [] => 0
  | d :: r => uptoBulk d + uptoBulkAll r
def uptoBulkEntries {H : Type} : List (Lit × DataW H) → Nat
  | [] => 0
  | x :: r => uptoBulkEntry x + uptoBulkEntries r
def uptoBulkEntry {H : Type} : Lit × DataW H → Nat
  | (.string bytes, d) => bytes.length + uptoBulk d + 1
  | (_, d) => uptoBulk d + 1
 end
def uptoSmall : (H : Type) → List (DataW H) → Bool := fun _ ds => decide (uptoBulkAll ds ≤ 1048576)
def OpenSpec.upto (s : _root_.Go.ChangeSpec) : _root_.Go.OpenSpec := { _root_.Go.OpenSpec.ofChange s with cond := some uptoSmall }

/-- 'varvelaw08.KmvPlays', WHERE WHAT IT READS IS OF BULK AT MOST 1048576: true; the input reads as it did. -/
def kmvPlaysUptoRow : OpenClaim := { program := "ytlhiikibbppodaa", sum := "7a146937515537edbb8bb886b886e6a2316a281edc850e525479ac40a9bc8d3e", func := "varve/varvelaw08.KmvPlays", spec := "kmvPlays", unfollowed := true, recurses := true, named := ["math/bits.divideError", "math/bits.overflowError"], apart := false, narrowed := true }
def KmvPlaysUptoSaid : Prop := kmvPlaysUptoRow.holds Try.pinned (OpenSpec.upto kmvPlaysSpec)

/-- 'varvelaw08.KmvChecks', WHERE WHAT IT READS IS OF BULK AT MOST 1048576: true; the input reads as it did. -/
def kmvChecksUptoRow : OpenClaim := { program := "ytlhiikibbppodaa", sum := "7a146937515537edbb8bb886b886e6a2316a281edc850e525479ac40a9bc8d3e", func := "varve/varvelaw08.KmvChecks", spec := "kmvChecks", unfollowed := true, recurses := true, named := ["math/bits.divideError", "math/bits.overflowError"], apart := false, narrowed := true }
def KmvChecksUptoSaid : Prop := kmvChecksUptoRow.holds Try.pinned (OpenSpec.upto kmvChecksSpec)

/-- 'varvelaw08.KmvFew', WHERE WHAT IT READS IS OF BULK AT MOST 1048576: true; the input reads as it did. -/
def kmvFewUptoRow : OpenClaim := { program := "ytlhiikibbppodaa", sum := "7a146937515537edbb8bb886b886e6a2316a281edc850e525479ac40a9bc8d3e", func := "varve/varvelaw08.KmvFew", spec := "kmvFew", unfollowed := true, recurses := true, named := ["math/bits.divideError", "math/bits.overflowError"], apart := false, narrowed := true }
def KmvFewUptoSaid : Prop := kmvFewUptoRow.holds Try.pinned (OpenSpec.upto kmvFewSpec)

/-- 'varvelaw08.KmvMany', WHERE WHAT IT READS IS OF BULK AT MOST 1048576: true; the input reads as it did. -/
def kmvManyUptoRow : OpenClaim := { program := "ytlhiikibbppodaa", sum := "7a146937515537edbb8bb886b886e6a2316a281edc850e525479ac40a9bc8d3e", func := "varve/varvelaw08.KmvMany", spec := "kmvMany", unfollowed := true, recurses := true, named := ["math/bits.divideError", "math/bits.overflowError"], apart := false, narrowed := true }
def KmvManyUptoSaid : Prop := kmvManyUptoRow.holds Try.pinned (OpenSpec.upto kmvManySpec)

/-- 'varvelaw08.KmvTurns', WHERE WHAT IT READS IS OF BULK AT MOST 1048576: true; the input reads as it did. -/
def kmvTurnsUptoRow : OpenClaim := { program := "ytlhiikibbppodaa", sum := "7a146937515537edbb8bb886b886e6a2316a281edc850e525479ac40a9bc8d3e", func := "varve/varvelaw08.KmvTurns", spec := "kmvTurns", unfollowed := true, recurses := true, named := ["math/bits.divideError", "math/bits.overflowError"], apart := false, narrowed := true }
def KmvTurnsUptoSaid : Prop := kmvTurnsUptoRow.holds Try.pinned (OpenSpec.upto kmvTurnsSpec)

/-- 'varvelaw08.KmvBytes', WHERE WHAT IT READS IS OF BULK AT MOST 1048576: true; the input reads as it did. -/
def kmvBytesUptoRow : OpenClaim := { program := "ytlhiikibbppodaa", sum := "7a146937515537edbb8bb886b886e6a2316a281edc850e525479ac40a9bc8d3e", func := "varve/varvelaw08.KmvBytes", spec := "kmvBytes", unfollowed := true, recurses := true, named := ["math/bits.divideError", "math/bits.overflowError"], apart := false, narrowed := true }
def KmvBytesUptoSaid : Prop := kmvBytesUptoRow.holds Try.pinned (OpenSpec.upto kmvBytesSpec)

end Rows
end Go.Proofs.Ytlhiikibbppodaa
