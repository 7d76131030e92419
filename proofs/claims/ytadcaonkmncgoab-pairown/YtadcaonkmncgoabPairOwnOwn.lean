/-
  What Merge and Sum tell lies in new memory: written over, what was handed in stays. The call returns true, and its arguments read as they did.
  Conditions: none: every value of the parameters' types.
-/
import Derived.Test.YtadcaonkmncgoabPairB
import Derived.Test.YtadcaonkmncgoabPairD
import Derived.Test.YtadcaonkmncgoabPairW
import Derived.Lib.SmallJoins
import Derived.Deep.RegionWith
import Derived.Deep.DrawnRows
import Derived.ProofKit
import Derived.OpenShut
import Derived.ShutString
import Derived.ChangeOld
import Derived.ChangeArms
import Derived.SizedLaws
namespace Go.Proofs.Ytadcaonkmncgoab
open Go.RowKit
set_option maxRecDepth 20000
theorem pairOwn_walk (a0 : Option Addr) (n0 c0 : Nat) (l0 : Bks) (k0 : Option Addr) (m0 d0 : Nat) (z0 : List Int) (g0 : Gz) (a1 : Option Addr) (n1 c1 : Nat) (l1 : Bks) (k1 : Option Addr) (m1 d1 : Nat) (z1 : List Int) (g1 : Gz) (w : World)
    (wh0 : IsBks w a0 n0 c0 l0) (wk0 : IsRow .u64 w k0 m0 d0 z0) (wg0 : GW g0) (wh1 : IsBks w a1 n1 c1 l1) (wk1 : IsRow .u64 w k1 m1 d1 z1) (wg1 : GW g1) :
    Calls Try.prog 3 #[.agg #[.slice a0 n0 c0, .slice k0 m0 d0, .int .u64 g0.n, .int .u64 g0.nans, .int .u64 g0.lo, .int .u64 g0.hi], .agg #[.slice a1 n1 c1, .slice k1 m1 d1, .int .u64 g1.n, .int .u64 g1.nans, .int .u64 g1.lo, .int .u64 g1.hi]] w fun e w' => e = .returned (.bool true) ∧ Below w.heap.size w w' :=
  ownP_of paM paU paO paE ⟨a0, n0, c0, k0, m0, d0⟩ ⟨l0, z0.take m0, g0⟩ ⟨a1, n1, c1, k1, m1, d1⟩ ⟨l1, z1.take m1, g1⟩ w (see_of wh0 wk0 wg0) (see_of wh1 wk1 wg1)
end Go.Proofs.Ytadcaonkmncgoab
namespace Go.Proofs.Ytadcaonkmncgoab.pairOwn
open Go.ChangeShapes Go.WideShapes Go.ChangeAt Go.RowKit
open Go.ChangeMaps (open_string shut_string)
set_option linter.unusedVariables false

theorem own : ownKnob Try.prog.godebug = none := by kernel_rfl
theorem laidOut : laidOutB Try.prog = true := by kernel_rfl

set_option maxRecDepth 100000 in
theorem lifted (os : Os) (started : os.Started) (H : Type) (enc : TypeId × Value → H) :
    ReturnsInHanded {} Try.checked os 3 .any (Rows.pairOwnSpec.pre6 enc Try.prog Try.f3 Rows.pairOwnRow.domain false) (Rows.pairOwnSpec.post enc Try.prog Try.f3 false true false false) := by
  refine returnsInHanded_of_change_sized (C := Try.checked) own started (by kernel_rfl) Try.func3
    (ChangeSpec.witness6 (enc := enc) (C := Try.checked) false ⟨#[], #[.agg #[.slice none 0 0, .slice none 0 0, .int .u64 0, .int .u64 0, .int .u64 0, .int .u64 0], .agg #[.slice none 0 0, .slice none 0 0, .int .u64 0, .int .u64 0, .int .u64 0, .int .u64 0]], []⟩ 8 (by kernel_rfl) (by kernel_rfl) (by kernel_rfl) (by kernel_rfl)) ?_
  intro W base args ds gs before hval0 hW hcnd hsz0 _
  have hsz : (DataW.weightsEach Try.prog (Try.f3.params.toList ++ Rows.pairOwnSpec.plain.varTypes Try.prog) (ds ++ gs)).all (· ≤ reachBytes) = true := hsz0
  have hval : ∀ (j : Nat) t v, Try.f3.params[j]? = some t → args[j]? = some v → Value.okWide Try.prog W .any base t v := hval0
  have hW' := hW
  obtain ⟨p, q, hA0, hV, rfl, hfz, hnd⟩ := hW
  have hA : DataW.TrodAll enc Try.prog W 0 (fun _ => true) true Try.f3.params.toList args.toList ds p := hA0
  rw [Try.params3] at hA hval hsz
  obtain ⟨v0, vs0, d0, ds0, p0, q0, hargs, rfl, rfl, h0, r0⟩ := trodAll_cons hA
  obtain ⟨v1, vs1, d1, ds1, p1, q1, rfl, rfl, rfl, h1, r1⟩ := trodAll_cons r0
  obtain ⟨rfl, rfl, rfl⟩ := trodAll_nil r1
  obtain rfl : args = #[v0, v1] := by cases args; simp_all
  obtain ⟨rfl, rfl⟩ := trodVars_none hV
  have k0 := h0
  have lt0 : ∀ x ∈ p0, x.block < W.heap.size := by obtain ⟨m, hm⟩ := k0; exact DataW.trod_lt m _ _ _ hm
  obtain ⟨ah0, nh0, ch0, zh0, ak0, nk0, ck0, zk0, g0, rfl, wh0, wk0, wg0⟩ := ske_open (hval 0 28 v0 rfl rfl) h0 (fun n hn => by have hn2 := List.all_eq_true.1 hsz n (DataW.weights_mem_each (j := 0) (t := 28) rfl rfl n hn); simpa using hn2)
  have k1 := h1
  have lt1 : ∀ x ∈ p1, x.block < W.heap.size := by obtain ⟨m, hm⟩ := k1; exact DataW.trod_lt m _ _ _ hm
  obtain ⟨ah1, nh1, ch1, zh1, ak1, nk1, ck1, zk1, g1, rfl, wh1, wk1, wg1⟩ := ske_open (hval 1 28 v1 rfl rfl) h1 (fun n hn => by have hn2 := List.all_eq_true.1 hsz n (DataW.weights_mem_each (j := 1) (t := 28) rfl rfl n hn); simpa using hn2)
  clear hA0 hval0 hsz0 hsz
  refine (pairOwn_walk ah0 nh0 ch0 zh0 ak0 nk0 ck0 zk0 g0 ah1 nh1 ch1 zh1 ak1 nk1 ck1 zk1 g1 W wh0 wk0 wg0 wh1 wk1 wg1).mono fun e W' ⟨he, bel⟩ => ?_
  subst he
  exact ⟨_, rfl, _, _, _, [], _, [], hW', trodAll_mk1 (shut_bool Try.underlying4 _), (trodAll_cons_mk (Below.trod laidOut (by kernel_rfl) (of_decide_eq_true (by kernel_rfl)) k0 bel lt0) (trodAll_cons_mk (Below.trod laidOut (by kernel_rfl) (of_decide_eq_true (by kernel_rfl)) k1 bel lt1) trodAll_mk0)), rfl, bel.frame _, fun h => by cases h⟩

theorem proved : Rows.PairOwnSaid :=
  OpenClaim.holds_of_wide 3 Try.f3 rfl rfl rfl rfl rfl rfl rfl ⟨rfl, rfl, rfl, rfl, rfl⟩ rfl rfl rfl rfl rfl (by kernel_rfl) Try.func3 (by kernel_rfl)
    (of_decide_eq_true (by kernel_rfl)) (by unfold Func.isWrapper; first | (rw [if_pos (by decide +kernel)]; kernel_rfl) | (rw [if_neg (by decide +kernel)]; exact ⟨rfl, rfl⟩))
    (fun os started H enc _ => lifted os started H enc)
end Go.Proofs.Ytadcaonkmncgoab.pairOwn
