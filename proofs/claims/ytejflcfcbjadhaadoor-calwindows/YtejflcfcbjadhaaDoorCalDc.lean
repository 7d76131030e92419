/-
  What Coarsest of the program's cal tells: a contract (written by gen/caldc.gen.py).
  Conditions: the table of slots lies in its variable.
-/
import Derived.Test.YtejflcfcbjadhaaDoorCalDa
import Derived.WalkMore
namespace Go.Proofs.YtejflcfcbjadhaaDoor
open Go.RowKit
set_option maxRecDepth 20000

/-- The first levels divide both. -/
def DivC (s t : Int) (k : Nat) : Prop := (2 ≤ k → s % 6 = 0 ∧ t % 6 = 0) ∧ (3 ≤ k → s % 360 = 0 ∧ t % 360 = 0) ∧ (4 ≤ k → s % 8640 = 0 ∧ t % 8640 = 0)
/-- The coarsest one so far. -/
def cA (k : Nat) : Int := if k ≤ 1 then 0 else (k : Int) - 1
theorem noGoto_retC {Q : Exit → Act → World → Prop} {a : Act} {w : World} : Exit.noGoto Q .ret a w = Q .ret a w := rfl
theorem tmod_ne0 (a : Int) {r : Int} (hr : 0 < r) : (a.tmod r != 0) = !decide (a % r = 0) := by
  rw [bne, tmod_zero a hr]

set_option maxHeartbeats 8000000 in
theorem coa_any (s t : Int) (w : World) (tb : TbW w) :
    Calls Tryd.prog 20 #[.int .i64 s, .int .i64 t] w fun e w' => e = .returned (.int .i64 (coaC s t)) ∧ w' = w := by
  obtain ⟨b0, b1, b2, b3⟩ := tb
  obtain ⟨X, hX⟩ : ∃ X, Hid (coaC s t = X) := ⟨_, rfl⟩
  rw [hX.out]
  have i0 : ∀ v, (Instr.index 40 (.agg #[.int .i64 s, .int .i64 t]) (.int .i64 0)).run Tryd.prog v = .ok (.int .i64 s) v := fun _ => by kernel_rfl
  have i1 : ∀ v, (Instr.index 40 (.agg #[.int .i64 s, .int .i64 t]) (.int .i64 1)).run Tryd.prog v = .ok (.int .i64 t) v := fun _ => by kernel_rfl
  go_enter Tryd.func20, Tryd.ntmps20
  go_wp2
  go_step3
  go_wp2
  go_step3
  go_wp2
  go_loopw [9, 5] (fun i a wr => ∃ k : Nat, k ≤ 4 ∧ i = .int .i64 k ∧ a = .int .i64 (cA k) ∧ Hid (DivC s t k) ∧ wr = w) (fun i _ _ => 4 - (intOf i).toNat)
  case atStart => exact ⟨0, by omega, rfl, rfl, by refine ⟨?_, ?_, ?_⟩ <;> (intro h; omega), rfl⟩
  case round =>
    obtain ⟨k, hk, rfl, rfl, HJ, rfl⟩ := hrel
    have hkk : k = 0 ∨ k = 1 ∨ k = 2 ∨ k = 3 ∨ k = 4 := by omega
    rcases hkk with rfl | rfl | rfl | rfl | rfl
    · rw [show cA 0 = 0 from rfl]
      have zs := tmod_ne0 s (r := 1) (by decide)
      have zt := tmod_ne0 t (r := 1) (by decide)
      go_wp2
      go_loopw [15] (fun i w2 => ∃ m : Nat, m ≤ 2 ∧ i = .int .i64 m ∧ Hid ((1 ≤ m → s % 1 = 0) ∧ (2 ≤ m → t % 1 = 0)) ∧ w2 = wr) (fun i _ => 2 - (intOf i).toNat)
      case atStart => exact ⟨0, by omega, rfl, ⟨fun h => by omega, fun h => by omega⟩, rfl⟩
      case round =>
        obtain ⟨m, hm, rfl, HM, rfl⟩ := hrel
        have hmm : m = 0 ∨ m = 1 ∨ m = 2 := by omega
        rcases hmm with rfl | rfl | rfl
        · by_cases g : s % 1 = 0
          · rw [decide_eq_true g] at zs
            have HM2 : Hid ((1 ≤ 1 → s % 1 = 0) ∧ (2 ≤ 1 → t % 1 = 0)) := ⟨fun _ => by have := HM.out; omega, fun h => by have := HM.out; omega⟩
            clear HM
            go_wp2
            go_roundw
            case rel => exact ⟨1, by omega, by go_num, HM2, by trivial⟩
            case measure => simp [intOf]
          · exfalso; omega
        · by_cases g : t % 1 = 0
          · rw [decide_eq_true g] at zt
            have HM2 : Hid ((1 ≤ 2 → s % 1 = 0) ∧ (2 ≤ 2 → t % 1 = 0)) := ⟨fun _ => by have := HM.out; omega, fun h => by have := HM.out; omega⟩
            clear HM
            go_wp2
            go_roundw
            case rel => exact ⟨2, by omega, by go_num, HM2, by trivial⟩
            case measure => simp [intOf]
          · exfalso; omega
        · have HJ2 : Hid (DivC s t 1) := by have := HJ.out; have := HM.out; unfold DivC at *; show DivC s t 1; unfold DivC; omega
          clear HM HJ
          go_wp2
          go_roundw
          case rel => exact ⟨1, by omega, by go_num, by rfl, HJ2, by trivial⟩
          case measure => simp [intOf]
    · rw [show cA 1 = 0 from rfl]
      have zs := tmod_ne0 s (r := 6) (by decide)
      have zt := tmod_ne0 t (r := 6) (by decide)
      go_wp2
      go_loopw [15] (fun i w2 => ∃ m : Nat, m ≤ 2 ∧ i = .int .i64 m ∧ Hid ((1 ≤ m → s % 6 = 0) ∧ (2 ≤ m → t % 6 = 0)) ∧ w2 = wr) (fun i _ => 2 - (intOf i).toNat)
      case atStart => exact ⟨0, by omega, rfl, ⟨fun h => by omega, fun h => by omega⟩, rfl⟩
      case round =>
        obtain ⟨m, hm, rfl, HM, rfl⟩ := hrel
        have hmm : m = 0 ∨ m = 1 ∨ m = 2 := by omega
        rcases hmm with rfl | rfl | rfl
        · by_cases g : s % 6 = 0
          · rw [decide_eq_true g] at zs
            have HM2 : Hid ((1 ≤ 1 → s % 6 = 0) ∧ (2 ≤ 1 → t % 6 = 0)) := ⟨fun _ => by have := HM.out; omega, fun h => by have := HM.out; omega⟩
            clear HM
            go_wp2
            go_roundw
            case rel => exact ⟨1, by omega, by go_num, HM2, by trivial⟩
            case measure => simp [intOf]
          · rw [decide_eq_false g] at zs
            have e : 0 = X := by
              rw [← hX.out]
              have := HJ.out
              unfold DivC at this
              unfold coaC
              rw [if_neg (by omega), if_neg (by omega), if_neg (by omega)]
            subst e
            go_wp2
            rw [noGoto_retC]
            go_ret
            exact ⟨rfl, rfl⟩
        · by_cases g : t % 6 = 0
          · rw [decide_eq_true g] at zt
            have HM2 : Hid ((1 ≤ 2 → s % 6 = 0) ∧ (2 ≤ 2 → t % 6 = 0)) := ⟨fun _ => by have := HM.out; omega, fun h => by have := HM.out; omega⟩
            clear HM
            go_wp2
            go_roundw
            case rel => exact ⟨2, by omega, by go_num, HM2, by trivial⟩
            case measure => simp [intOf]
          · rw [decide_eq_false g] at zt
            have e : 0 = X := by
              rw [← hX.out]
              have := HJ.out
              unfold DivC at this
              unfold coaC
              rw [if_neg (by omega), if_neg (by omega), if_neg (by omega)]
            subst e
            go_wp2
            rw [noGoto_retC]
            go_ret
            exact ⟨rfl, rfl⟩
        · have HJ2 : Hid (DivC s t 2) := by have := HJ.out; have := HM.out; unfold DivC at *; show DivC s t 2; unfold DivC; omega
          clear HM HJ
          go_wp2
          go_roundw
          case rel => exact ⟨2, by omega, by go_num, by rfl, HJ2, by trivial⟩
          case measure => simp [intOf]
    · rw [show cA 2 = 1 from rfl]
      have zs := tmod_ne0 s (r := 360) (by decide)
      have zt := tmod_ne0 t (r := 360) (by decide)
      go_wp2
      go_loopw [15] (fun i w2 => ∃ m : Nat, m ≤ 2 ∧ i = .int .i64 m ∧ Hid ((1 ≤ m → s % 360 = 0) ∧ (2 ≤ m → t % 360 = 0)) ∧ w2 = wr) (fun i _ => 2 - (intOf i).toNat)
      case atStart => exact ⟨0, by omega, rfl, ⟨fun h => by omega, fun h => by omega⟩, rfl⟩
      case round =>
        obtain ⟨m, hm, rfl, HM, rfl⟩ := hrel
        have hmm : m = 0 ∨ m = 1 ∨ m = 2 := by omega
        rcases hmm with rfl | rfl | rfl
        · by_cases g : s % 360 = 0
          · rw [decide_eq_true g] at zs
            have HM2 : Hid ((1 ≤ 1 → s % 360 = 0) ∧ (2 ≤ 1 → t % 360 = 0)) := ⟨fun _ => by have := HM.out; omega, fun h => by have := HM.out; omega⟩
            clear HM
            go_wp2
            go_roundw
            case rel => exact ⟨1, by omega, by go_num, HM2, by trivial⟩
            case measure => simp [intOf]
          · rw [decide_eq_false g] at zs
            have e : 1 = X := by
              rw [← hX.out]
              have := HJ.out
              unfold DivC at this
              unfold coaC
              rw [if_neg (by omega), if_neg (by omega), if_pos (by omega)]
            subst e
            go_wp2
            rw [noGoto_retC]
            go_ret
            exact ⟨rfl, rfl⟩
        · by_cases g : t % 360 = 0
          · rw [decide_eq_true g] at zt
            have HM2 : Hid ((1 ≤ 2 → s % 360 = 0) ∧ (2 ≤ 2 → t % 360 = 0)) := ⟨fun _ => by have := HM.out; omega, fun h => by have := HM.out; omega⟩
            clear HM
            go_wp2
            go_roundw
            case rel => exact ⟨2, by omega, by go_num, HM2, by trivial⟩
            case measure => simp [intOf]
          · rw [decide_eq_false g] at zt
            have e : 1 = X := by
              rw [← hX.out]
              have := HJ.out
              unfold DivC at this
              unfold coaC
              rw [if_neg (by omega), if_neg (by omega), if_pos (by omega)]
            subst e
            go_wp2
            rw [noGoto_retC]
            go_ret
            exact ⟨rfl, rfl⟩
        · have HJ2 : Hid (DivC s t 3) := by have := HJ.out; have := HM.out; unfold DivC at *; show DivC s t 3; unfold DivC; omega
          clear HM HJ
          go_wp2
          go_roundw
          case rel => exact ⟨3, by omega, by go_num, by rfl, HJ2, by trivial⟩
          case measure => simp [intOf]
    · rw [show cA 3 = 2 from rfl]
      have zs := tmod_ne0 s (r := 8640) (by decide)
      have zt := tmod_ne0 t (r := 8640) (by decide)
      go_wp2
      go_loopw [15] (fun i w2 => ∃ m : Nat, m ≤ 2 ∧ i = .int .i64 m ∧ Hid ((1 ≤ m → s % 8640 = 0) ∧ (2 ≤ m → t % 8640 = 0)) ∧ w2 = wr) (fun i _ => 2 - (intOf i).toNat)
      case atStart => exact ⟨0, by omega, rfl, ⟨fun h => by omega, fun h => by omega⟩, rfl⟩
      case round =>
        obtain ⟨m, hm, rfl, HM, rfl⟩ := hrel
        have hmm : m = 0 ∨ m = 1 ∨ m = 2 := by omega
        rcases hmm with rfl | rfl | rfl
        · by_cases g : s % 8640 = 0
          · rw [decide_eq_true g] at zs
            have HM2 : Hid ((1 ≤ 1 → s % 8640 = 0) ∧ (2 ≤ 1 → t % 8640 = 0)) := ⟨fun _ => by have := HM.out; omega, fun h => by have := HM.out; omega⟩
            clear HM
            go_wp2
            go_roundw
            case rel => exact ⟨1, by omega, by go_num, HM2, by trivial⟩
            case measure => simp [intOf]
          · rw [decide_eq_false g] at zs
            have e : 2 = X := by
              rw [← hX.out]
              have := HJ.out
              unfold DivC at this
              unfold coaC
              rw [if_neg (by omega), if_pos (by omega)]
            subst e
            go_wp2
            rw [noGoto_retC]
            go_ret
            exact ⟨rfl, rfl⟩
        · by_cases g : t % 8640 = 0
          · rw [decide_eq_true g] at zt
            have HM2 : Hid ((1 ≤ 2 → s % 8640 = 0) ∧ (2 ≤ 2 → t % 8640 = 0)) := ⟨fun _ => by have := HM.out; omega, fun h => by have := HM.out; omega⟩
            clear HM
            go_wp2
            go_roundw
            case rel => exact ⟨2, by omega, by go_num, HM2, by trivial⟩
            case measure => simp [intOf]
          · rw [decide_eq_false g] at zt
            have e : 2 = X := by
              rw [← hX.out]
              have := HJ.out
              unfold DivC at this
              unfold coaC
              rw [if_neg (by omega), if_pos (by omega)]
            subst e
            go_wp2
            rw [noGoto_retC]
            go_ret
            exact ⟨rfl, rfl⟩
        · have HJ2 : Hid (DivC s t 4) := by have := HJ.out; have := HM.out; unfold DivC at *; show DivC s t 4; unfold DivC; omega
          clear HM HJ
          go_wp2
          go_roundw
          case rel => exact ⟨4, by omega, by go_num, by rfl, HJ2, by trivial⟩
          case measure => simp [intOf]
    · have e : 3 = X := by
        rw [← hX.out]
        have := HJ.out
        unfold DivC at this
        unfold coaC
        rw [if_pos (by omega)]
      subst e
      rw [show cA 4 = 3 from rfl]
      go_wp2
      rw [noGoto_retC]
      go_ret
      exact ⟨rfl, rfl⟩
end Go.Proofs.YtejflcfcbjadhaaDoor
