/-
  The frames of bytes, one behind the other, as a plain list; what frame.frames hands back, and what its iterator does for every loop body: contracts, for every world.
  Conditions: the slice shows its bytes; the loop's body keeps them, and the iterator's own box.
-/
import Derived.Test.YtbpmmeagpefglaaFrameD
import Derived.RangeFuncNested
import Derived.RangeFuncBound
import Derived.RangeFuncCalls
import Derived.RangeFuncLeaves
import Derived.RangeFuncBox
import Derived.Shelf.Abstract
import Derived.Shelf.RegionOpen
import Derived.WalkKit
import Derived.OwnWalkIn
import Derived.TacticsInMore
import Derived.LoopNIn
import Derived.LoopIn
import Derived.Scope
namespace Go.Proofs.Ytbpmmeagpefglaa
open Go.RowKit Go.Shelf
attribute [local go_sem] Oper.semAt_some

/-- The frames from a place on: where each body begins, how many bytes it has. -/
def walkS (zs : List Int) : Nat → Nat → List (Nat × Nat)
  | 0, _ => []
  | f + 1, k => match findS zs k with
    | none => []
    | some p => p :: walkS zs f (p.1 + p.2)
/-- All of them. -/
def framesS (zs : List Int) : List (Nat × Nat) := walkS zs (zs.length + 1) 0

/-- A body within n bytes: where it begins, how many bytes it has. -/
abbrev Body (n : Nat) : Type := { p : Nat × Nat // 1 ≤ p.2 ∧ p.1 + p.2 ≤ n ∧ p.2 ≤ 1048576 }
/-- What the iterator hands the loop's body. -/
def encB (a : Option Addr) (n cap : Nat) (x : Body n) : Array Value := #[.int .i64 ((x.1.1 : Int) + x.1.2), .slice (a.map (·.add x.1.1)) x.1.2 (cap - x.1.1)]
/-- What a round must keep: what lay below, and the iterator's box. -/
def Kept (n0 Bn : Nat) (W W' : World) : Prop := Below n0 W W' ∧ W'.heap[Bn]? = W.heap[Bn]?

theorem below_grown {w w' : World} (h : Below w.heap.size w w') : w.grownBy w' none := ⟨h.os, h.tape, h.output, h.size, fun k hk _ => h.block k hk⟩
theorem boxed_below {w w' : World} {B : Nat} {t : TypeId} {v : Value} (h : Boxed w B t v) (k : Below w.heap.size w w') : Boxed w' B t v := (k.block B h.lt).trans h

theorem noGoto_normal {Q : Exit → Act → World → Prop} {a : Act} {w : World} : Exit.noGoto Q .normal a w = Q .normal a w := rfl

theorem frames_any (a : Option Addr) (n cap : Nat) (w : World) :
    Calls Try.prog 36 #[.slice a n cap] w fun e w' => e = .returned (.func (.func 44) #[] #[.pointer (some ⟨w.heap.size, 0, none⟩)]) ∧ w' = w.alloc (.cells #[.slice a n cap] 25) := by
  go_enter Try.func36, Try.ntmps36
  go_wp2
  go_ret
  exact ⟨rfl, rfl⟩

theorem walk_step {zs : List Int} {f k st v : Nat} (hf : findS zs k = some (st, v)) : walkS zs (f + 1) k = (st, v) :: walkS zs f (st + v) := by
  rw [walkS, hf]
theorem walk_end {zs : List Int} {f k : Nat} (hf : findS zs k = none) : walkS zs f k = [] := by
  cases f with
  | zero => rfl
  | succ f => rw [walkS, hf]

set_option maxHeartbeats 2000000 in
set_option maxRecDepth 100000 in
theorem frames_stops (m : Nat) (hm : 1 ≤ m) (w1 w0 : World) (Bn : Nat) (a : Option Addr) (n cap : Nat) (zs : List Int) (hc : n ≤ cap) (hr : Row .u8 w1 a n zs) (hw : Below w1.heap.size w1 w0) (hb : Boxed w0 Bn 25 (.slice a n cap)) :
    SeqStopsK Fence.wide m Try.prog 44 #[.pointer (some ⟨Bn, 0, none⟩)] (encB a n cap) (Kept w1.heap.size Bn) (fun xs => xs.map (·.1) = framesS zs) (fun pre => pre.map (·.1) <+: framesS zs) (n + 1) w0 := fun l J Jx W hW hJ hJx hY h0 => by
  have hn := hr.2.1
  have hl := hr.1
  have HZ : Hid (Bytes8 zs) := hr.bytes
  have HR := hide hr
  have HBW : Hid (Below w1.heap.size w1 W) := hw.trans (hW.mono hw.size)
  have HX := hide (boxed_below hb hW)
  have HF := hide (fun (k : Nat) (wr : World) (h : k ≤ n) (hk : Below w1.heap.size w1 wr) => find_any (k : Int) a n cap zs wr (i64_wf (by omega) (by omega)) hc (hr.below hk (Nat.le_refl _)))
  have HJ := hide hJ
  have HY := hide hY
  clear hb hW hw hr hJ hJx hY
  refine callsIn_of_wp Try.func44 rfl trivial ?_ rfl
  simp only [Try.ntmps44, List.size_toArray, List.length_cons, List.length_nil, Nat.reduceAdd, Nat.reduceSub, Array.replicate_succ, Array.replicate_zero, List.push_toArray, List.append_toArray, List.nil_append, List.cons_append]
  refine wpIn_wide.2 (wp_scope_straight (wpIn_wide (n := m).1 ?_))
  gi_wp2
  refine wpIn_label ?_
  gi_wp2
  gi_loopw [3] (fun p wr => ∃ (k f : Nat) (pre : List (Body n)), p = .int .i64 k ∧ k ≤ n ∧ n - k < f ∧ pre.length ≤ k ∧ Hid (pre.map (·.1) ++ walkS zs f k = framesS zs) ∧ Hid (J pre wr) ∧ Hid (Below w1.heap.size w1 wr) ∧ Hid (W.heap.size ≤ wr.heap.size) ∧ Hid (Boxed wr Bn 25 (.slice a n cap))) (fun p _ => n - (intOf p).toNat)
  case atStart => exact ⟨0, n + 1, [], rfl, by omega, by omega, by simp, by show _ = _; rw [← hl]; rfl, h0, HBW, Nat.le_refl _, HX⟩
  case round =>
    obtain ⟨k, f, pre, rfl, hk, hkf, hpre, HA, HJs, HB, HW, HX⟩ := hrel
    have hcell := HX.out.cell
    cases hf : findS zs k with
    | none =>
      have C := hide (HF.out k wr hk HB.out)
      rw [hf] at C
      simp only [findE] at C
      have HD : Hid (pre.map (·.1) = framesS zs) := by
        show _ = _
        rw [← HA.out, walk_end hf, List.append_nil]
      clear hf HA
      gi_wp2_with fail
      refine ⟨trivial, (callsIn_wide.2 C.out).mono ?_⟩
      rintro e w2 ⟨rfl, k2⟩
      have HJ2 := hide (HJ.out pre wr w2 none HJs.out (below_grown k2) (by simp))
      clear k2 C HF HY
      gi_wp2
      rw [noGoto_normal]
      go_end0
      exact ⟨⟨_, rfl⟩, .inl ⟨pre, HD, HJ2⟩⟩
    | some p =>
      obtain ⟨st, v⟩ := p
      obtain ⟨h1, h2, h3, k', hk', hst, _⟩ := findS_some HZ.out hf
      rw [hl] at h3
      have hkk : k = k' := by omega
      subst hkk
      have hq := (putS_len (v : Int)).1
      obtain ⟨f, rfl⟩ : ∃ g, f = g + 1 := ⟨f - 1, by omega⟩
      have C := hide (HF.out k wr hk HB.out)
      rw [hf] at C
      simp only [findE] at C
      have HA2 : Hid ((pre ++ [(⟨(st, v), h1, h3, h2⟩ : Body n)]).map (·.1) ++ walkS zs f (st + v) = framesS zs) := by
        show _ = _
        rw [← HA.out, walk_step hf]
        simp
      have hlt : k < st + v := by omega
      have hf2 : n - (st + v) < f := by omega
      have hp2 : pre.length + 1 ≤ st + v := by omega
      clear hf HA hst hk' hq
      have YY := hide (fun W1 hj => HY.out pre ⟨(st, v), h1, h3, h2⟩ W1 hj (by omega))
      gi_wp2_with fail
      refine ⟨trivial, (callsIn_wide.2 C.out).mono ?_⟩
      rintro e w2 ⟨rfl, k2⟩
      obtain ⟨fn, tmps, assign, body, hy, hR⟩ := YY.out w2 (HJ.out pre wr w2 none HJs.out (below_grown k2) (by simp))
      have HB2 : Hid (Below w1.heap.size w1 w2) := HB.out.trans (k2.mono HB.out.size)
      have HW2 : Hid (W.heap.size ≤ w2.heap.size) := Nat.le_trans HW.out k2.size
      have HX2 := hide (boxed_below HX.out k2)
      simp only [encB] at hy
      clear k2 C YY HF HY hcell HX HB HW
      gi_wp2
      refine hR.mono ?_
      rintro e w3 (⟨rfl, j3, hk3⟩ | ⟨rfl, jx3⟩)
      · have HJ3 := hide j3
        have HB3 : Hid (Below w1.heap.size w1 w3) := HB2.out.trans hk3.1
        have HW3 : Hid (W.heap.size ≤ w3.heap.size) := Nat.le_trans HW2.out hk3.1.size
        have HX3 : Hid (Boxed w3 Bn 25 (.slice a n cap)) := hk3.2.trans HX2.out
        clear j3 hk3 hR hy
        gi_wp2
        go_roundw
        case rel => exact ⟨st + v, f, _, rfl, by omega, hf2, by simp; omega, HA2, HJ3, HB3, HW3, HX3⟩
        case measure => simp [intOf]; omega
      · have HP : Hid ((pre ++ [(⟨(st, v), h1, h3, h2⟩ : Body n)]).map (·.1) <+: framesS zs) := ⟨_, HA2.out⟩
        have HJ3 := hide jx3
        clear jx3 hR hy
        gi_wp2
        rw [noGoto_normal]
        go_end0
        exact ⟨⟨_, rfl⟩, .inr ⟨_, HP, HJ3⟩⟩
end Go.Proofs.Ytbpmmeagpefglaa
