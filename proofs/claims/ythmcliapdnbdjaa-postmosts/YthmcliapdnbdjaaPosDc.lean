/-
  What post.From and post.And come to: an iterator that tells what is asked: contracts, for every world.
  Conditions: the slices show their numbers, at most 2000 each.
-/
import Derived.Test.YthmcliapdnbdjaaPosDb
import Derived.Test.YthmcliapdnbdjaaPosDk
import Derived.Test.YthmcliapdnbdjaaWldK
import Derived.WalkMore
namespace Go.Proofs.Ythmcliapdnbdjaa
open Go.RowKit
set_option maxRecDepth 20000

theorem tells_of (w : World) (Bk : Nat) (a : Option Addr) (n cap : Nat) (zs : List Int) (hk : Boxed w Bk 22 (.slice a n cap)) (hr : SlI w a n cap zs) (hn : n ≤ 1000000) : Tells (tellF Bk) w zs :=
  ⟨fun u hu most _ => collect_of 35 (enters_of Try.func35 (by kernel_rfl) rfl) #[.pointer (some ⟨Bk, 0, none⟩)] w zs (tellgo_any w Bk a n cap zs hk hr hn) (by rw [hr.len]; omega) hr.wf u hu most,
   fun u hu most _ => list_any w Bk a n cap zs hk hr hn u hu most⟩
theorem tell_iter (a : Option Addr) (n cap : Nat) (zs : List Int) (w : World) (hr : SlI w a n cap zs) (hn : n ≤ 1000000) :
    Calls Try.prog 27 #[.slice a n cap] w fun e w' => Iter zs w e w' := by
  refine (tell_any a n cap w).mono ?_
  rintro e w' ⟨rfl, rfl⟩
  have hb : Below w.heap.size w (w.alloc (.cells #[.slice a n cap] 22)) := (Below.refl _ _).alloc (Nat.le_refl _) _
  exact ⟨_, rfl, tells_of _ _ a n cap zs (Boxed.new w _ _) (hr.below hb (Nat.le_refl _)) hn, hb⟩
theorem Iter.from' {l : List Int} {w v : World} {e : Ending} {w' : World} (h : Iter l v e w') (hb : Below w.heap.size w v) : Iter l w e w' := by
  obtain ⟨F, h1, h2, h3⟩ := h
  exact ⟨F, h1, h2, bel_to hb (Nat.le_refl _) h3⟩

theorem eqln (w : World) (a : Option Addr) (n c n' c' : Nat) : (binOp .eql 22 (.slice a n c) (.slice none n' c')).run Try.prog w = .ok (.bool a.isNone) w :=
  Lib.run_eql_slice_nil w _ _ a n c n' c' Try.underlying22
set_option maxHeartbeats 1000000 in
theorem clonei_any (a : Option Addr) (n cap : Nat) (zs : List Int) (w : World) (hr : SlI w a n cap zs) (hn : n ≤ 1000000) :
    Calls Try.prog 30 #[.slice a n cap] w fun e w' => ∃ a' cap', e = .returned (.slice a' n cap') ∧ SlI w' a' n cap' zs ∧ Below w.heap.size w w' := by
  obtain ⟨i0, hi, hz0, hz1, hz2⟩ := info_parts Try.infoI
  have hq := eqln
  have hl := hr.1.1
  cases a with
  | none =>
    have h0 := hr.1.nz rfl
    subst h0
    have hz : zs = [] := List.length_eq_zero_iff.1 hl
    subst hz
    go_enter Try.func30, Try.ntmps30
    go_wp2
    go_ret
    exact ⟨none, 0, rfl, sli_nil _, Below.refl _ _⟩
  | some ad =>
    have HR := hide (fun o => (hr.1.alloc o).cells)
    have HW := hide hr.wf
    clear hr
    go_enter Try.func30, Try.ntmps30
    go_wp2_with (at_builtin; refine wpList_append_own _ rfl _ _ 22 rfl w.heap.size 3 i0 (.int .i64 0) 1 8 Try.underlying22 hi hz0 hz1 hz2 rfl (by decide) _ _ _ rfl (World.ownsRow_made w #[] 0 (Nat.le_refl _) (Nat.zero_le _) rfl) ad n cap (zs.map (Value.int .i64)) rfl (by simp [hl]) (HR.out _) (one_cell .i64 zs) (by unfold maxLen; omega) (by omega) (by simp) ?_)
    intro v' w' h1 h2 _
    obtain ⟨a', cap', rfl, h3⟩ := own_form h1
    have H3 := hide (MineI.sl h3 (by omega) HW.out)
    have H4 : Hid (Below w.heap.size w w') := ((Below.refl _ w).alloc (Nat.le_refl _) _).grown h2 (by simp) (by intro k hk; simp [Value.ownBlock] at hk; omega)
    clear h1 h2 h3 HR
    go_wp2
    go_ret
    exact ⟨a', cap', rfl, by simpa using H3.out, H4.out⟩

set_option maxHeartbeats 1000000 in
theorem from_any (a : Option Addr) (n cap : Nat) (zs : List Int) (w : World) (hs : SlI w a n cap zs) (hn : n ≤ 2000) :
    Calls Try.prog 18 #[.slice a n cap] w fun e w' => Iter (mostS [zs] 1) w e w' := by
  obtain ⟨W1, hW1⟩ : ∃ W, Hid (w.alloc (.cells #[.slice a n cap] 22) = W) := ⟨_, rfl⟩
  have B1 : Hid (Below w.heap.size w W1) := by rw [← hW1.out]; exact (Below.refl _ _).alloc (Nat.le_refl _) _
  have R1 : Hid (RowII W1 (some ⟨w.heap.size, 0, none⟩) 1 [zs]) := by
    rw [← hW1.out]
    exact rowii_new w [(a, n, cap)] [zs] 22 rfl (show 1 ≤ 10 by decide) (fun i hi => by
      match i, hi with
      | 0, _ => exact hs)
  have RI := hide (rise_any _ 1 1 _ W1 R1.out)
  have HS := hide hs
  obtain ⟨ans, HA⟩ : ∃ ans, Hid (mostS [zs] 1 = ans) := ⟨_, rfl⟩
  rw [HA.out]
  clear R1 hs
  by_cases hup : upI zs
  · have h1 : allUp [zs] = true := by rw [allUp_iff]; simpa using hup
    rw [h1] at RI
    have HE : Hid (zs = ans) := by rw [← HA.out]; exact (most_one hup).symm
    clear hup h1
    go_enter Try.func18, Try.ntmps18
    go_wp2_with fail
    rw [hW1.out]
    with_reducible refine RI.out.mono ?_
    rintro e u1 ⟨rfl, b1⟩
    have B2 := hide (bel_to B1.out (Nat.le_refl _) b1)
    have CL := hide (clonei_any a n cap zs u1 (HS.out.below B2.out (Nat.le_refl _)) (by omega))
    clear b1 RI hW1
    go_wp2_with fail
    with_reducible refine CL.out.mono ?_
    rintro e u2 ⟨a2, c2, rfl, s2, b2⟩
    have B3 := hide (bel_to B2.out (Nat.le_refl _) b2)
    have TI := hide (tell_iter a2 n c2 zs u2 s2 (by omega))
    clear b2 s2 CL
    go_wp2_with fail
    with_reducible refine TI.out.mono ?_
    intro e u3 h3
    have I3 := hide (h3.from' B3.out)
    clear h3 TI
    obtain ⟨F, rfl, -, -⟩ := I3.out
    go_wp2
    go_ret
    rw [← HE.out]
    exact I3.out
  · have h1 : allUp [zs] = false := by
      rw [Bool.eq_false_iff]
      intro e
      exact hup (allUp_iff.1 e zs (by simp))
    rw [h1] at RI
    have HE : Hid ([] = ans) := by rw [← HA.out]; exact (most_none _ _ (fun h => hup (h zs (by simp)))).symm
    clear hup h1
    go_enter Try.func18, Try.ntmps18
    go_wp2_with fail
    rw [hW1.out]
    with_reducible refine RI.out.mono ?_
    rintro e u1 ⟨rfl, b1⟩
    have B2 := hide (bel_to B1.out (Nat.le_refl _) b1)
    have TI := hide (tell_iter none 0 0 [] u1 (sli_nil _) (by omega))
    clear b1 RI hW1
    go_wp2_with fail
    with_reducible refine TI.out.mono ?_
    intro e u3 h3
    have I3 := hide (h3.from' B2.out)
    clear h3 TI
    obtain ⟨F, rfl, -, -⟩ := I3.out
    go_wp2
    go_ret
    rw [← HE.out]
    exact I3.out
end Go.Proofs.Ythmcliapdnbdjaa
