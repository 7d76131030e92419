/-
  What the laws' own collector of numbers does (Collect), and what it takes of an iterator that goes on as long as it asks: contracts, for every world.
  Conditions: there is room for one more of 8 bytes.
-/
import Derived.Test.YtpffhpnmbpjifaaGreatPosI
import Derived.Test.YtpffhpnmbpjifaaGreatVintZa
import Derived.Deep.Cut
namespace Go.Proofs.YtpffhpnmbpjifaaGreat
open Go.RowKit
set_option maxRecDepth 20000

/-- The collector's two boxes and its list. -/
structure CollI (w : World) (n0 Bl Bm : Nat) (ks : List Int) (most : Int) (v : Value) : Prop where
  bl : Boxed w Bl 33 v
  bm : Boxed w Bm 3 (.int .i64 most)
  rl : w.ownsRow n0 3 1 v ks.length (ks.map (Value.int .i64))
  nl : n0 ≤ Bl
  ne : ∀ g, v.ownBlock = some g → g ≠ Bm

theorem eqlI_in (w : World) (d : Nat) (f : Fn) (c b : Array Value) : (Op.equalIn (d + 1) 80 (.func f c b) .nilFunc).run Tryz.prog w = .ok false w := by
  simp [Op.equalIn, run_underlying Tryz.underlying80]
theorem eqlI (w : World) (f : Fn) (c b : Array Value) : (binOp .eql 80 (.func f c b) .nilFunc).run Tryz.prog w = .ok (.bool false) w := by
  simp only [binOp]
  simp [Op.equal, Op.maxDepth, eqlI_in w 9999 f c b]

end Go.Proofs.YtpffhpnmbpjifaaGreat
