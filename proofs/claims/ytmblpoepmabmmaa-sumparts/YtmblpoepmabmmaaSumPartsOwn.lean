/-
  Bytes cut anywhere: the sum of the whole is the sum that goes on from the first part over the second; and More behind 0 is Of; the document's examples hold. The call returns true, and its arguments read as they did.
  Conditions: none: every value of the parameters' types.
-/
import Derived.Test.YtmblpoepmabmmaaSumP
import Derived.Test.YtmblpoepmabmmaaPlace
import Derived.Deep.RegionWith
import Derived.Deep.DrawnRows
import Derived.ProofKit
import Derived.OpenShut
import Derived.ShutString
import Derived.ChangeOld
import Derived.SizedLaws
namespace Go.Proofs.Ytmblpoepmabmmaa
open Go.RowKit
attribute [local go_sem ↓] Go.wp_at_zero Go.wp_at_succ

set_option maxHeartbeats 2000000 in
theorem walk_parts (a : Option Addr) (n cap : Nat) (z : List Int) (v : Int) (w : World) (w0 : IsRow .u8 w a n cap z) (_w1 : (Lit.int .i64 v).wf = true) :
    Calls Try.prog 5 #[.slice a n cap, .int .i64 v] w fun e w' => e = .returned (.bool true) ∧ Below w.heap.size w w' := by
  obtain ⟨hcap, hc, hr⟩ := row_of w0
  generalize z.take n = zs at hr
  have R := hide hr
  have hn := hr.2.1
  have p1 := Int.emod_nonneg v (b := (n : Int) + 1) (by omega)
  have p2 := Int.emod_lt_of_pos v (b := (n : Int) + 1) (by omega)
  have P := hide (fun w1 => place_any v ((n : Int) + 1) (by omega) (by omega) w1)
  obtain ⟨k, hk⟩ := Int.eq_ofNat_of_zero_le p1
  rw [hk] at P
  rw [hk] at p2
  have hkn : k ≤ n := by omega
  have f1 := slice_to a n cap k (by omega)
  have f2 := slice_from a n cap k hkn
  have C1 := hide (fun w1 (h : Row w1 a n zs) => of_any a k cap (zs.take k) w1 (h.to k hkn))
  have C2 := hide (fun w1 (h : Row w1 a n zs) => more_any (moreS 0 (zs.take k)) _ (n - k) (cap - k) (zs.drop k) w1 (moreS_word (by decide) (h.to k hkn).2.2.1) (h.from k hkn hcap))
  have C3 := hide (fun w1 (h : Row w1 a n zs) => of_any a n cap zs w1 h)
  have C4 := hide (fun w1 (h : Row w1 a n zs) => more_any 0 a n cap zs w1 (by decide) h)
  rw [moreS_more, List.take_append_drop] at C2
  generalize moreS 0 (zs.take k) = S1 at C1 C2
  generalize moreS 0 zs = S at C2 C3 C4
  generalize (if cap = k then a else a.map (·.add k)) = a2 at f2 C2
  clear hk p1 p2 hr w0 hkn
  generalize n - k = m at f2 C2
  generalize cap - k = cap2 at f2 C2
  go_enter Try.func5, Try.ntmps5
  go_wp2_with fail
  refine (P.out _).mono ?_
  rintro e w1 ⟨rfl, rfl⟩
  go_wp2_with fail
  go_region_with (first
    | (go_at_call_of 9 (Value.slice a k cap); refine (C1.out _ ?_).mono ?_; (repeat (first | exact R.out | apply Row.alloc | apply Row.drew)); rintro e w' ⟨rfl, rfl⟩)
    | (go_at_call_of 12 (Value.int IntKind.u32 S1); refine (C2.out _ ?_).mono ?_; (repeat (first | exact R.out | apply Row.alloc | apply Row.drew)); rintro e w' ⟨rfl, rfl⟩)
    | (go_at_call_of 9 (Value.slice a n cap); refine (C3.out _ ?_).mono ?_; (repeat (first | exact R.out | apply Row.alloc | apply Row.drew)); rintro e w' ⟨rfl, rfl⟩)
    | (go_at_call_of 12 (Value.slice a n cap); refine (C4.out _ ?_).mono ?_; (repeat (first | exact R.out | apply Row.alloc | apply Row.drew)); rintro e w' ⟨rfl, rfl⟩)
    | (go_at_call 11; refine (awake_any _).mono ?_; rintro e w' ⟨rfl, hb⟩))
  go_wp2
  go_ret
  exact ⟨rfl, bel_to (by repeat (first | exact Below.refl _ _ | apply Below.drew | apply bel_al)) hb⟩
end Go.Proofs.Ytmblpoepmabmmaa

namespace Go.Proofs.Ytmblpoepmabmmaa.sumParts
open Go.ChangeShapes Go.WideShapes Go.ChangeAt Go.RowKit
open Go.ChangeMaps (open_string shut_string)
set_option linter.unusedVariables false

theorem own : ownKnob Try.prog.godebug = none := by kernel_rfl
theorem laidOut : laidOutB Try.prog = true := by kernel_rfl

theorem walk (a0 : Option Addr) (len0 cap0 : Nat) (z0 : List Int) (a1 : Int) (w : World) (w0 : IsRow .u8 w a0 len0 cap0 z0) (w1 : (Lit.int .i64 a1).wf = true) :
    Calls Try.prog 5 #[.slice a0 len0 cap0, .int .i64 a1] w fun e w' => e = .returned (.bool true) ∧ Below w.heap.size w w' :=
  walk_parts a0 len0 cap0 z0 a1 w w0 w1

set_option maxRecDepth 100000 in
theorem lifted (os : Os) (started : os.Started) (H : Type) (enc : TypeId × Value → H) :
    ReturnsInHanded {} Try.checked os 5 .any (Rows.sumPartsSpec.pre6 enc Try.prog Try.f5 Rows.sumPartsRow.domain false) (Rows.sumPartsSpec.post enc Try.prog Try.f5 false true false false) := by
  refine returnsInHanded_of_change_sized (C := Try.checked) own started (by kernel_rfl) Try.func5
    (ChangeSpec.witness6 (enc := enc) (C := Try.checked) false ⟨#[], #[.slice none 0 0, .int .i64 0], []⟩ 8 (by kernel_rfl) (by kernel_rfl) (by kernel_rfl) (by kernel_rfl)) ?_
  intro W base args ds gs before hval0 hW hcnd hsz0 _
  have hsz : (DataW.weightsEach Try.prog (Try.f5.params.toList ++ Rows.sumPartsSpec.plain.varTypes Try.prog) (ds ++ gs)).all (· ≤ reachBytes) = true := hsz0
  have hval : ∀ (j : Nat) t v, Try.f5.params[j]? = some t → args[j]? = some v → Value.okWide Try.prog W .any base t v := hval0
  have hW' := hW
  obtain ⟨p, q, hA0, hV, rfl, hfz, hnd⟩ := hW
  have hA : DataW.TrodAll enc Try.prog W 0 (fun _ => true) true Try.f5.params.toList args.toList ds p := hA0
  rw [Try.params5] at hA hval hsz
  obtain ⟨v0, vs0, d0, ds0, p0, q0, hargs, rfl, rfl, h0, r0⟩ := trodAll_cons hA
  obtain ⟨v1, vs1, d1, ds1, p1, q1, rfl, rfl, rfl, h1, r1⟩ := trodAll_cons r0
  obtain ⟨rfl, rfl, rfl⟩ := trodAll_nil r1
  obtain rfl : args = #[v0, v1] := by cases args; simp_all
  obtain ⟨rfl, rfl⟩ := trodVars_none hV
  obtain ⟨a0, len0, cap0, rfl⟩ := okWide_slice Try.underlying22 (hval 0 22 v0 rfl rfl)
  have k0 := h0
  have lt0 : ∀ x ∈ p0, x.block < W.heap.size := by obtain ⟨m, hm⟩ := k0; exact DataW.trod_lt m _ _ _ hm
  obtain ⟨z0, w0⟩ : ∃ zs, IsRow .u8 W a0 len0 cap0 zs := by
    obtain ⟨fuel, hf⟩ := h0
    rcases open_ints Try.underlying22 Try.underlying5 (by kernel_rfl) hf with ⟨hcs, _⟩ | ⟨x, l, c, zs, hcs, _, hl, hm, hz, hx, hcell, hwz⟩
    · simp [Value.cells] at hcs
      obtain ⟨rfl, rfl, rfl⟩ := hcs
      exact ⟨[], by decide, .inl ⟨rfl, rfl, rfl, rfl⟩⟩
    · simp [Value.cells] at hcs
      obtain ⟨rfl, rfl, rfl⟩ := hcs
      have hd := congrArg Prod.fst hx
      simp only at hd
      have hs := sized_slice hsz (j := 0) (t := 22) (e := 5) rfl (by rw [hd]; rfl) Try.underlying22
      rw [show Try.prog.bytesOf 5 = 1 from by kernel_rfl] at hs
      simp only [lits, List.length_map, List.length_take, List.length_drop, reachBytes] at hs
      have hzc : zs.length = cap0 := by simpa using hz
      exact ⟨zs, by omega, .inr ⟨_, rfl, hl, hm, hzc, hcell, hwz⟩⟩
  obtain ⟨a1, rfl, rfl, rfl, w1⟩ := open_int Try.underlying3 (hval 1 3 v1 rfl rfl) h1
  clear hA0 hval0 hsz0 hsz
  refine (walk a0 len0 cap0 z0 a1 W w0 w1).mono fun e W' ⟨he, bel⟩ => ?_
  subst he
  exact ⟨_, rfl, _, _, _, [], _, [], hW', trodAll_mk1 (shut_bool Try.underlying4 _), (trodAll_cons_mk (Below.trod laidOut (by kernel_rfl) (of_decide_eq_true (by kernel_rfl)) k0 bel lt0) (trodAll_cons_mk (shut_int Try.underlying3 w1) trodAll_mk0)), rfl, bel.frame _, fun h => by cases h⟩

theorem over : Rows.sumPartsRow.holds Try.pinned (OpenSpec.ofChange Rows.sumPartsSpec) :=
  OpenClaim.holds_of_wide 5 Try.f5 rfl rfl rfl rfl rfl rfl rfl ⟨rfl, rfl, rfl, rfl, rfl⟩ rfl rfl rfl rfl rfl (by kernel_rfl) Try.func5 (by kernel_rfl)
    (of_decide_eq_true (by kernel_rfl)) (by unfold Func.isWrapper; first | (rw [if_pos (by decide +kernel)]; kernel_rfl) | (rw [if_neg (by decide +kernel)]; exact ⟨rfl, rfl⟩))
    (fun os started H enc _ => lifted os started H enc)

theorem proved : Rows.SumPartsSaid := over
#print axioms proved
end Go.Proofs.Ytmblpoepmabmmaa.sumParts
