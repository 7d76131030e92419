/-
  What the laws ask of the program's own Check, Merge, Add (contracts, for every world; what was there before stays), and the laws' awake over them.
  Conditions: the gauges may be ones ('chkG'), the numbers are words.
-/
import Derived.Test.YtnhjjdgdffjdcaaGaugeB
namespace Go.Proofs.Ytnhjjdgdffjdcaa
open Go.RowKit
attribute [local go_sem] run_bits run_frombits

structure GaC : Prop where
  chk : ∀ g, GW g → ∀ w, Calls Try.prog 9 #[(Value.agg #[.int .u64 (Gz.n g), .int .u64 (Gz.nans g), .int .u64 (Gz.lo g), .int .u64 (Gz.hi g)])] w fun e w' => e = .returned (.bool (chkG g)) ∧ Below w.heap.size w w'
structure GaM : Prop where
  merge : ∀ a b, GW a → GW b → chkG a = true → chkG b = true → ∀ w, Calls Try.prog 14 #[(Value.agg #[.int .u64 (Gz.n a), .int .u64 (Gz.nans a), .int .u64 (Gz.lo a), .int .u64 (Gz.hi a)]), (Value.agg #[.int .u64 (Gz.n b), .int .u64 (Gz.nans b), .int .u64 (Gz.lo b), .int .u64 (Gz.hi b)])] w fun e w' => e = .returned (Value.agg #[.int .u64 (Gz.n (mergeG a b)), .int .u64 (Gz.nans (mergeG a b)), .int .u64 (Gz.lo (mergeG a b)), .int .u64 (Gz.hi (mergeG a b))]) ∧ Below w.heap.size w w'
structure GaA : Prop where
  add : ∀ g x, GW g → Word x → chkG g = true → ∀ w, Calls Try.prog 11 #[(Value.agg #[.int .u64 (Gz.n g), .int .u64 (Gz.nans g), .int .u64 (Gz.lo g), .int .u64 (Gz.hi g)]), .int .u64 x] w fun e w' => e = .returned (Value.agg #[.int .u64 (Gz.n (addG g x)), .int .u64 (Gz.nans (addG g x)), .int .u64 (Gz.lo (addG g x)), .int .u64 (Gz.hi (addG g x))]) ∧ Below w.heap.size w w'

theorem bel1 {w w1 : World} {B : Nat} (h : Below B w w1) (hB : B ≤ w1.heap.size) (o : Obj) : Below B w (w1.alloc o) := h.alloc hB o

set_option maxHeartbeats 2000000 in
theorem awakeG_any (I : GaA) (w : World) :
    Calls Try.prog 13 #[] w fun e w' => e = .returned (.bool true) ∧ Below w.heap.size w w' := by
  have A1 := hide (fun w => I.add g0 9223372036854775808 g0W ⟨by decide, by decide⟩ chk0 w)
  have e1 : addG g0 9223372036854775808 = ⟨1, 0, 9223372036854775808, 9223372036854775808⟩ := by decide
  have A2 := hide (fun w => I.add ⟨1, 0, 9223372036854775808, 9223372036854775808⟩ 0 ⟨w1, w0, ⟨by decide, by decide⟩, ⟨by decide, by decide⟩⟩ w0 (by decide) w)
  have e2 : addG ⟨1, 0, 9223372036854775808, 9223372036854775808⟩ 0 = ⟨2, 0, 9223372036854775808, 0⟩ := by decide
  have A3 := hide (fun w => I.add g0 9221120237041090561 g0W ⟨by decide, by decide⟩ chk0 w)
  have e3 : addG g0 9221120237041090561 = ⟨0, 1, 0, 0⟩ := by decide
  rw [e1] at A1
  rw [e2] at A2
  rw [e3] at A3
  dsimp only [g0] at A1 A2 A3
  have N := hide nan_any
  go_enter Try.func13, Try.ntmps13
  go_wp2_with fail
  refine (A1.out _).mono ?_
  rintro e v1 ⟨rfl, b1⟩
  go_wp2_with fail
  refine (A2.out _).mono ?_
  rintro e v2 ⟨rfl, b2⟩
  replace b2 := hide (b1.trans (b2.mono b1.size))
  clear b1
  go_wp2_with fail
  refine (N.out _).mono ?_
  rintro e v3 ⟨rfl, rfl⟩
  go_wp2_with fail
  refine (A3.out _).mono ?_
  rintro e v4 ⟨rfl, b4⟩
  have G := (GBox.new v2 24 2 0 9223372036854775808 0).below b4 (by rw [size_al]; omega)
  have b5 := hide ((b2.out.alloc b2.out.size _).trans (b4.mono (by rw [size_al]; have := b2.out.size; omega)))
  have hs : Hid (v2.heap.size < v4.heap.size) := by have := b4.size; rw [size_al] at this; show _ < _; omega
  have hs' := hs.out
  have c0 := G.c0
  have c2 := G.c2
  have c3 := G.c3
  clear b4
  go_wp2
  go_ret
  exact ⟨rfl, b5.out.alloc (by have := b2.out.size; omega) _⟩
end Go.Proofs.Ytnhjjdgdffjdcaa
