/-
  Any bytes, read as a frame from any place on, give what the document's own answer gives; the document's examples hold. The call returns true, and its arguments read as they did.
  Conditions: none: every value of the parameters' types.
-/
import Derived.Test.YtbpmmeagpefglaaFrameE
import Derived.Test.YtbpmmeagpefglaaFrameG
import Derived.ProofKit
import Derived.OpenShut
import Derived.ShutString
import Derived.ChangeOld
import Derived.SizedLaws
namespace Go.Proofs.Ytbpmmeagpefglaa
open Go.RowKit

set_option maxRecDepth 100000 in
set_option maxHeartbeats 4000000 in
theorem walk_gets (a : Option Addr) (n cap : Nat) (z : List Int) (p : Int) (w : World) (w0 : IsRow .u8 w a n cap z) (w1 : (Lit.int .i64 p).wf = true) :
    Calls Try.prog 5 #[.slice a n cap, .int .i64 p] w fun e w' => e = .returned (.bool true) ∧ Below w.heap.size w w' := by
  obtain ⟨hcap, hreach, hnil, hr⟩ := row_of w0
  replace hreach : cap * 1 ≤ 140737488351232 := hreach
  generalize z.take n = bs at hr
  have HZ : Hid (Bytes8 bs) := hr.bytes
  have R := hide hr
  have C1 := hide (bytes_any a n cap bs w hr hnil (by omega))
  clear hr w0
  go_enter Try.func5, Try.ntmps5
  go_wp2_with fail
  refine C1.out.mono ?_
  rintro e x1 ⟨a1, c1, rfl, o1, k1⟩
  have G := hide (getframe_var p a1 n c1 bs x1 w1 o1.capped.1 (o1.row8 (by omega) HZ.out))
  have K1 := hide k1
  have RG := hide (fun W (h : Below w.heap.size w W) => refget_any p a n cap bs W w1 hcap hnil (R.out.below h (Nat.le_refl _)))
  have RV := hide (fun W base e (h : getFP bs n p base W e) => getFP_var HZ.out h)
  clear o1 k1 C1 w1 R HZ
  generalize getV bs n p = r at *
  obtain ⟨body, nx, er⟩ := r
  simp only at G RV
  generalize body.length = L at *
  go_wp2_with fail
  refine G.out.mono ?_
  rintro e x2 ⟨⟨a2, c2, rfl, r2⟩, k2⟩
  have K2 : Hid (Below w.heap.size w x2) := bel_to K1.out (Nat.le_refl _) k2
  have R2 := hide r2
  clear k2 r2 G K1
  have RG2 := hide (RG.out x2 K2.out)
  go_wp2_with fail
  refine RG2.out.mono ?_
  rintro e x3 ⟨h3, k3⟩
  obtain ⟨a3, c3, rfl, r3⟩ := RV.out _ _ _ h3
  have K3 : Hid (Below w.heap.size w x3) := bel_to K2.out (Nat.le_refl _) k3
  have s2 : (convert 25 9 (.slice a2 L c2)).run Try.prog x3 = _ := row_string (R2.out.below k3 (Nat.le_refl _))
  have s3 : (convert 25 9 (.slice a3 L c3)).run Try.prog x3 = _ := row_string r3
  clear h3 k3 r3 RG2 RG RV R2 K2
  generalize strOfNums body = X at *
  have t1 : (nx == nx) = true := by simp
  have t2 : (er == er) = true := by simp
  go_wp2_with fail
  refine (awake_any _).mono ?_
  rintro e x4 ⟨rfl, k4⟩
  go_wp2
  go_ret
  exact ⟨rfl, bel_to K3.out (Nat.le_refl _) k4⟩
end Go.Proofs.Ytbpmmeagpefglaa

namespace Go.Proofs.Ytbpmmeagpefglaa.frameGets
open Go.ChangeShapes Go.WideShapes Go.ChangeAt Go.RowKit
open Go.ChangeMaps (open_string shut_string)
set_option linter.unusedVariables false

theorem own : ownKnob Try.prog.godebug = none := by kernel_rfl
theorem laidOut : laidOutB Try.prog = true := by kernel_rfl

set_option maxRecDepth 100000 in
theorem lifted (os : Os) (started : os.Started) (H : Type) (enc : TypeId × Value → H) :
    ReturnsInHanded {} Try.checked os 5 .any (Rows.frameGetsSpec.pre6 enc Try.prog Try.f5 Rows.frameGetsRow.domain false) (Rows.frameGetsSpec.post enc Try.prog Try.f5 false true false false) := by
  refine returnsInHanded_of_change_sized (C := Try.checked) own started (by kernel_rfl) Try.func5
    (ChangeSpec.witness6 (enc := enc) (C := Try.checked) false ⟨#[], #[.slice none 0 0, .int .i64 0], []⟩ 8 (by kernel_rfl) (by kernel_rfl) (by kernel_rfl) (by kernel_rfl)) ?_
  intro W base args ds gs before hval0 hW hcnd hsz0 _
  have hsz : (DataW.weightsEach Try.prog (Try.f5.params.toList ++ Rows.frameGetsSpec.plain.varTypes Try.prog) (ds ++ gs)).all (· ≤ reachBytes) = true := hsz0
  have hval : ∀ (j : Nat) t v, Try.f5.params[j]? = some t → args[j]? = some v → Value.okWide Try.prog W .any base t v := hval0
  have hW' := hW
  obtain ⟨p, q, hA0, hV, rfl, hfz, hnd⟩ := hW
  have hA : DataW.TrodAll enc Try.prog W 0 (fun _ => true) true Try.f5.params.toList args.toList ds p := hA0
  rw [Try.params5] at hA hval hsz
  obtain ⟨v0, vs0, d0, ds0, p0, q0, hargs, rfl, rfl, h0, r0⟩ := trodAll_cons hA
  obtain ⟨v1, vs1, d1, ds1, p1, q1, rfl, rfl, rfl, h1, r1⟩ := trodAll_cons r0
  obtain ⟨rfl, rfl, rfl⟩ := trodAll_nil r1
  obtain rfl : args = #[v0, v1] := by cases args; simp_all
  obtain ⟨rfl, rfl⟩ := trodVars_none hV
  obtain ⟨a0, len0, cap0, rfl⟩ := okWide_slice Try.underlying25 (hval 0 25 v0 rfl rfl)
  have k0 := h0
  have lt0 : ∀ x ∈ p0, x.block < W.heap.size := by obtain ⟨m, hm⟩ := k0; exact DataW.trod_lt m _ _ _ hm
  obtain ⟨z0, w0⟩ : ∃ zs, IsRow .u8 W a0 len0 cap0 zs := by
    obtain ⟨fuel, hf⟩ := h0
    rcases open_ints Try.underlying25 Try.underlying5 (by kernel_rfl) hf with ⟨hcs, _⟩ | ⟨x, l, c, zs, hcs, _, hl, hm, hz, hx, hcell, hwz⟩
    · simp [Value.cells] at hcs
      obtain ⟨rfl, rfl, rfl⟩ := hcs
      exact ⟨[], by decide, .inl ⟨rfl, rfl, rfl, rfl⟩⟩
    · simp [Value.cells] at hcs
      obtain ⟨rfl, rfl, rfl⟩ := hcs
      have hd := congrArg Prod.fst hx
      simp only at hd
      have hs := sized_slice hsz (j := 0) (t := 25) (e := 5) rfl (by rw [hd]; rfl) Try.underlying25
      rw [show Try.prog.bytesOf 5 = 1 from by kernel_rfl] at hs
      simp only [lits, List.length_map, List.length_take, List.length_drop, reachBytes] at hs
      have hzc : zs.length = cap0 := by simpa using hz
      exact ⟨zs, by show cap0 * 1 ≤ _; omega, .inr ⟨_, rfl, hl, hm, hzc, hcell, hwz⟩⟩
  obtain ⟨a1, rfl, rfl, rfl, w1⟩ := open_int Try.underlying3 (hval 1 3 v1 rfl rfl) h1
  clear hA0 hval0 hsz0 hsz
  refine (walk_gets a0 len0 cap0 z0 a1 W w0 w1).mono fun e W' ⟨he, bel⟩ => ?_
  subst he
  exact ⟨_, rfl, _, _, _, [], _, [], hW', trodAll_mk1 (shut_bool Try.underlying4 _), (trodAll_cons_mk (Below.trod laidOut (by kernel_rfl) (of_decide_eq_true (by kernel_rfl)) k0 bel lt0) (trodAll_cons_mk (shut_int Try.underlying3 w1) trodAll_mk0)), rfl, bel.frame _, fun h => by cases h⟩

theorem proved : Rows.FrameGetsSaid :=
  OpenClaim.holds_of_wide 5 Try.f5 rfl rfl rfl rfl rfl rfl rfl ⟨rfl, rfl, rfl, rfl, rfl⟩ rfl rfl rfl rfl rfl (by kernel_rfl) Try.func5 (by kernel_rfl)
    (of_decide_eq_true (by kernel_rfl)) (by unfold Func.isWrapper; first | (rw [if_pos (by decide +kernel)]; kernel_rfl) | (rw [if_neg (by decide +kernel)]; exact ⟨rfl, rfl⟩))
    (fun os started H enc _ => lifted os started H enc)
end Go.Proofs.Ytbpmmeagpefglaa.frameGets
