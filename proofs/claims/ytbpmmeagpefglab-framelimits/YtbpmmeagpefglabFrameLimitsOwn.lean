/-
  A body of as many bytes as there may be is put and got; one of one more is refused; the document's examples hold. The call returns true.
  Conditions: none: there is no parameter.
-/
import Derived.Test.YtbpmmeagpefglabFrameE
import Derived.ProofKit
import Derived.OpenShut
import Derived.ShutString
import Derived.ChangeOld
import Derived.SizedLaws
namespace Go.Proofs.Ytbpmmeagpefglab
open Go.RowKit

theorem made8 (n : Nat) : (madeCells #[Value.int .u8 0] n).toList = (List.replicate n (0 : Int)).map (Value.int .u8) := by
  rw [toList_madeCells_one, List.map_replicate]
theorem zeros_byte (n : Nat) : Bytes8 (List.replicate n (0 : Int)) := fun z hz => by rw [List.eq_of_mem_replicate hz]; decide
theorem seven_row (w : World) : Row .u8 (w.alloc (.cells #[.int .u8 7] 5)) (some ⟨w.heap.size, 0, none⟩) 1 [7] := one_row w 7 (by decide) _ (0, 0)

set_option maxRecDepth 100000 in
set_option maxHeartbeats 4000000 in
theorem walk_limits (w : World) :
    Calls Try.prog 3 #[] w fun e w' => e = .returned (.bool true) ∧ Below w.heap.size w w' := by
  obtain ⟨i0, hi, hz0, hz1, hz2⟩ := info_parts Try.info5
  go_enter Try.func3, Try.ntmps3
  go_wp2_with (at_make; refine wpList_make_full _ rfl _ _ 22 rfl w.heap.size 5 i0 (.int .u8 0) 1 Try.underlying22 hi hz0 hz1 .i64 .i64 1048576 1048576 1048576 rfl rfl rfl rfl (by rw [hz2]; omega) (by unfold maxLen; omega) (Nat.le_refl _) ?_)
  intro W ho hg
  rw [made8] at ho
  have hl : (List.replicate 1048576 (0 : Int)).length = 1048576 := List.length_replicate
  have HZ := hide (zeros_byte 1048576)
  have o1 : Mine W w.heap.size (some ⟨w.heap.size, 0, none⟩) 1048576 1048576 (List.replicate 1048576 0) := ho
  have K1 : Hid (Below w.heap.size w W) := (Below.refl _ _).grown hg (Nat.le_refl _) (fun k hk => by simp at hk)
  clear ho hg
  generalize List.replicate 1048576 (0 : Int) = zs at *
  have hq : (putS (1048576 : Int)).length = 3 := by decide
  have HFL : Hid ((frameS zs).length = 1048583) := by show _ = _; rw [frameS_len, hl]; show (putS (1048576 : Int)).length + _ = _; rw [hq]
  have HF : Hid (findS (frameS zs) 0 = some (7, 1048576)) := by
    have := findS_at (body := zs) (by omega) (by omega) [] []
    rw [List.nil_append, List.append_nil, hl] at this
    show _ = _
    rw [show (7 : Nat) = 0 + (putS (1048576 : Int)).length + 4 from by rw [hq]]
    exact this
  have HFB : Hid (Bytes8 (frameS zs)) := frameS_byte HZ.out (by omega)
  have P1 := hide (put_frame none 0 0 [] (some ⟨w.heap.size, 0, none⟩) 1048576 1048576 zs W (nil_row .u8 _ none) (o1.row8 (by omega) HZ.out) (by omega) (by omega) (by omega))
  rw [List.nil_append, Nat.zero_add, HFL.out] at P1
  clear o1 hl hq
  generalize frameS zs = F at *
  go_wp2_with fail
  refine P1.out.mono ?_
  rintro e w1 ⟨a1, c1, rfl, o1, k1⟩
  have hc1 := o1.capped.1
  have R1 := hide (o1.row8 (by omega) HFB.out)
  have K2 : Hid (Below w.heap.size w w1) := bel_to K1.out (Nat.le_refl _) k1
  clear o1 k1 P1 K1
  have C7 := hide (fun (W2 : World) h m (hm : 1048576 < m) b capb => putno_any (some ⟨w1.heap.size, 0, none⟩) 1 1 [7] b m capb W2 h (by omega) (Or.inr hm))
  have S7 := hide (seven_row w1)
  have RA := hide (R1.out.alloc (.cells #[.int .u8 7] 5))
  have KA := hide (bel_al K2.out (Nat.le_refl _) (.cells #[.int .u8 7] 5))
  have HBA : Hid (w.heap.size ≤ (w1.alloc (.cells #[.int .u8 7] 5)).heap.size) := KA.out.size
  go_wp2_with (at_make; refine wpList_make_full _ rfl _ _ 22 rfl w.heap.size 5 i0 (.int .u8 0) 1 Try.underlying22 hi hz0 hz1 .i64 .i64 1048577 1048577 1048577 rfl rfl rfl rfl (by rw [hz2]; omega) (by unfold maxLen; omega) HBA.out ?_)
  intro w2 _ hg
  have kb : Below (w1.alloc (.cells #[.int .u8 7] 5)).heap.size (w1.alloc (.cells #[.int .u8 7] 5)) w2 := (Below.refl _ _).grown hg (Nat.le_refl _) (fun k hk => by simp at hk)
  have S8 := hide (S7.out.below kb (Nat.le_refl _))
  have R2 := hide (RA.out.below kb (Nat.le_refl _))
  have K3 : Hid (Below w.heap.size w w2) := bel_to KA.out (Nat.le_refl _) kb
  clear kb hg S7 RA KA HBA K2 R1 hi hz0 hz1 hz2
  go_wp2_with fail
  refine (C7.out w2 S8.out _ (by omega) _ _).mono ?_
  rintro e w3 ⟨a3, c3, rfl, o3, k3⟩
  have R3 := hide (R2.out.below k3 (Nat.le_refl _))
  have K4 : Hid (Below w.heap.size w w3) := bel_to K3.out (Nat.le_refl _) k3
  clear o3 k3 C7 S8 R2 K3
  have G := hide (getframe_some 0 a1 1048583 c1 F w3 (by decide) hc1 R3.out 7 1048576 HF.out)
  go_wp2_with fail
  refine G.out.mono ?_
  rintro e w4 ⟨a4, c4, rfl, o4, k4⟩
  have K5 : Hid (Below w.heap.size w w4) := bel_to K4.out (Nat.le_refl _) k4
  clear o4 k4 G R3 K4
  go_wp2_with fail
  refine (awake_any _).mono ?_
  rintro e w5 ⟨rfl, k5⟩
  go_wp2
  go_ret
  exact ⟨rfl, bel_to K5.out (Nat.le_refl _) k5⟩
end Go.Proofs.Ytbpmmeagpefglab

namespace Go.Proofs.Ytbpmmeagpefglab.frameLimits
open Go.ChangeShapes Go.WideShapes Go.ChangeAt Go.RowKit
open Go.ChangeMaps (open_string shut_string)
set_option linter.unusedVariables false

theorem own : ownKnob Try.prog.godebug = none := by kernel_rfl

set_option maxRecDepth 100000 in
theorem lifted (os : Os) (started : os.Started) (H : Type) (enc : TypeId × Value → H) :
    ReturnsInHanded {} Try.checked os 3 .any (Rows.frameLimitsSpec.pre6 enc Try.prog Try.f3 Rows.frameLimitsRow.domain false) (Rows.frameLimitsSpec.post enc Try.prog Try.f3 false true false false) := by
  refine returnsInHanded_of_change_sized (C := Try.checked) own started (by kernel_rfl) Try.func3
    (ChangeSpec.witness6 (enc := enc) (C := Try.checked) false ⟨#[], #[], []⟩ 8 (by kernel_rfl) (by kernel_rfl) (by kernel_rfl) (by kernel_rfl)) ?_
  intro W base args ds gs before hval0 hW hcnd hsz0 _
  have hsz : (DataW.weightsEach Try.prog (Try.f3.params.toList ++ Rows.frameLimitsSpec.plain.varTypes Try.prog) (ds ++ gs)).all (· ≤ reachBytes) = true := hsz0
  have hval : ∀ (j : Nat) t v, Try.f3.params[j]? = some t → args[j]? = some v → Value.okWide Try.prog W .any base t v := hval0
  have hW' := hW
  obtain ⟨p, q, hA0, hV, rfl, hfz, hnd⟩ := hW
  have hA : DataW.TrodAll enc Try.prog W 0 (fun _ => true) true Try.f3.params.toList args.toList ds p := hA0
  rw [Try.params3] at hA hval hsz
  obtain ⟨hargs, rfl, rfl⟩ := trodAll_nil hA
  obtain rfl : args = #[] := by cases args; simp_all
  obtain ⟨rfl, rfl⟩ := trodVars_none hV
  clear hA0 hval0 hsz0 hsz
  refine (walk_limits  W ).mono fun e W' ⟨he, bel⟩ => ?_
  subst he
  exact ⟨_, rfl, _, _, _, [], _, [], hW', trodAll_mk1 (shut_bool Try.underlying4 _), trodAll_mk0, rfl, bel.frame _, fun h => by cases h⟩

theorem proved : Rows.FrameLimitsSaid :=
  OpenClaim.holds_of_wide 3 Try.f3 rfl rfl rfl rfl rfl rfl rfl ⟨rfl, rfl, rfl, rfl, rfl⟩ rfl rfl rfl rfl rfl (by kernel_rfl) Try.func3 (by kernel_rfl)
    (of_decide_eq_true (by kernel_rfl)) (by unfold Func.isWrapper; first | (rw [if_pos (by decide +kernel)]; kernel_rfl) | (rw [if_neg (by decide +kernel)]; exact ⟨rfl, rfl⟩))
    (fun os started H enc _ => lifted os started H enc)
end Go.Proofs.Ytbpmmeagpefglab.frameLimits
