/-
  What the laws ask of the program's own Check, Merge, Add (contracts, for every world; what was there before stays), and the laws' awake over them.
  Conditions: the gauges may be ones ('chkG'), the numbers are words.
-/
import Derived.Test.YtadcaonkmncgoaaGaugeB
namespace Go.Proofs.Ytadcaonkmncgoaa
open Go.RowKit
set_option maxRecDepth 20000
attribute [local go_sem] run_bits run_frombits

structure GaC : Prop where
  chk : ∀ g, GW g → ∀ w, Calls Try.prog 31 #[(Value.agg #[.int .u64 (Gz.n g), .int .u64 (Gz.nans g), .int .u64 (Gz.lo g), .int .u64 (Gz.hi g)])] w fun e w' => e = .returned (.bool (chkG g)) ∧ Below w.heap.size w w'
structure GaM : Prop where
  merge : ∀ a b, GW a → GW b → chkG a = true → chkG b = true → ∀ w, Calls Try.prog 60 #[(Value.agg #[.int .u64 (Gz.n a), .int .u64 (Gz.nans a), .int .u64 (Gz.lo a), .int .u64 (Gz.hi a)]), (Value.agg #[.int .u64 (Gz.n b), .int .u64 (Gz.nans b), .int .u64 (Gz.lo b), .int .u64 (Gz.hi b)])] w fun e w' => e = .returned (Value.agg #[.int .u64 (Gz.n (mergeG a b)), .int .u64 (Gz.nans (mergeG a b)), .int .u64 (Gz.lo (mergeG a b)), .int .u64 (Gz.hi (mergeG a b))]) ∧ Below w.heap.size w w'
structure GaA : Prop where
  add : ∀ g x, GW g → Word x → chkG g = true → ∀ w, Calls Try.prog 47 #[(Value.agg #[.int .u64 (Gz.n g), .int .u64 (Gz.nans g), .int .u64 (Gz.lo g), .int .u64 (Gz.hi g)]), .int .u64 x] w fun e w' => e = .returned (Value.agg #[.int .u64 (Gz.n (addG g x)), .int .u64 (Gz.nans (addG g x)), .int .u64 (Gz.lo (addG g x)), .int .u64 (Gz.hi (addG g x))]) ∧ Below w.heap.size w w'

theorem bel1 {w w1 : World} {B : Nat} (h : Below B w w1) (hB : B ≤ w1.heap.size) (o : Obj) : Below B w (w1.alloc o) := h.alloc hB o

end Go.Proofs.Ytadcaonkmncgoaa
