/-
  What the laws of layer 13 ask of post's functions: of an iterator, what the laws' own collector and List take of it; and that the laws' own 'both' then says yes.
  Conditions: as each theorem says.
-/
import Derived.Test.YtpffhpnmbpjifaaGreatPosZa
import Derived.Test.YtpffhpnmbpjifaaGreatPlace
import Derived.Test.YtpffhpnmbpjifaaGreatVintZa
import Derived.Deep.RegionHeld3
namespace Go.Proofs.YtpffhpnmbpjifaaGreat
open Go.RowKit
set_option maxRecDepth 20000

/-- A list told: in memory, whatever it is. -/
def Told (l : List Int) (u : World) (e : Ending) (u' : World) : Prop := ∃ a n c, e = .returned (.slice a n c) ∧ SlI u' a n c l ∧ Below u.heap.size u u'
/-- A list told, in memory of the call's own. -/
def ToldM (l : List Int) (u : World) (e : Ending) (u' : World) : Prop := ∃ a n c, e = .returned (.slice a n c) ∧ SlI u' a n c l ∧ MineI u' u.heap.size a n c l ∧ Below u.heap.size u u'
theorem ToldM.told {l : List Int} {u : World} {e : Ending} {u' : World} (h : ToldM l u e u') : Told l u e u' := by
  obtain ⟨a, n, c, h1, h2, -, h4⟩ := h
  exact ⟨a, n, c, h1, h2, h4⟩
/-- An iterator that tells these, to the laws' collector and to List, as long as what was there stays. -/
structure Tells (F : Value) (w : World) (l : List Int) : Prop where
  lst : ∀ u, Below w.heap.size w u → ∀ most : Int, (Lit.int .i64 most).wf = true → Calls Tryz.prog 62 #[F, .int .i64 most] u fun e u' => Told (l.take most.toNat) u e u'
  own : ∀ u, Below w.heap.size w u → ∀ most : Int, (Lit.int .i64 most).wf = true → Calls Tryz.prog 62 #[F, .int .i64 most] u fun e u' => ToldM (l.take most.toNat) u e u'
theorem Tells.below {F : Value} {w w' : World} {l : List Int} (h : Tells F w l) (b : Below w.heap.size w w') : Tells F w' l :=
  ⟨fun u hu => h.lst u (bel_to b (Nat.le_refl _) hu), fun u hu => h.own u (bel_to b (Nat.le_refl _) hu)⟩
def Iter (l : List Int) (w : World) (e : Ending) (w' : World) : Prop := ∃ F, e = .returned F ∧ Tells F w' l ∧ Below w.heap.size w w'
theorem wfI {x : Int} (h0 : -9223372036854775808 ≤ x) (h1 : x ≤ 9223372036854775807) : (Lit.int .i64 x).wf = true := by
  simp [Lit.wf, IntKind.min, IntKind.max, IntKind.signed, IntKind.bits]
  omega
theorem Iter.mono' {l l' : List Int} {w : World} {e : Ending} {w' : World} (h : Iter l w e w') (hl : l = l') : Iter l' w e w' := hl ▸ h

end Go.Proofs.YtpffhpnmbpjifaaGreat
