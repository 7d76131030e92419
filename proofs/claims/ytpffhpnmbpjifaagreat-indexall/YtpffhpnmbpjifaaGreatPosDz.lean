/-
  What post's own Rises, rise and tell come to, and what the iterator that tell hands back does with the laws' collector: contracts, for every world. What post.List takes of the iterator that tell hands back: a contract, for every world. Two rising lists gone through side by side, plainly: what holds on the way for And and for Less. No function is named. What post.From and post.And come to: an iterator that tells what is asked: contracts, for every world. What post.And comes to: an iterator that tells what is in both: a contract, for every world. What post.Less comes to: an iterator that tells what is in the one list and not in the other: a contract, for every world. Lists laid as a heap by their first numbers, plainly and in memory; what holds on the way of Most. No function is named. What post.sink comes to: the heap is whole again: a contract, for every world. What post.pass and post.heap come to: contracts, for every world. What post.heap comes to: the lists that are not empty, as a heap: a contract, for every world. What post.Most and post.Or come to: an iterator that tells what is in at least so many lists: contracts, for every world.
  Conditions: the slices show their numbers; as each theorem says; the iterator's box and list lie as they lay; at most 1,000,000 numbers; as each theorem says; the slices show their numbers, at most 2000 each; the slices show their numbers, at most 5000 each; at most 5000 lists, none of them empty, in memory that was there before; at most 5000 lists of at most 5000 numbers each.
-/
import Derived.Test.YtpffhpnmbpjifaaGreatPosC
import Derived.Test.YtpffhpnmbpjifaaGreatPosA
import Derived.RangeFuncNested
import Derived.RangeFuncBound
import Derived.RangeFuncCalls
import Derived.RangeFuncLeaves
import Derived.RangeFuncBox
import Derived.RangeFuncFrom
import Derived.Shelf.Abstract
import Derived.Shelf.RegionOpen
import Derived.OwnWalkIn
import Derived.TacticsInMore
import Derived.LoopNIn
import Derived.LoopIn
import Derived.RecoverIn
import Derived.Recover
import Derived.Test.YtpffhpnmbpjifaaGreatPosZa
import Derived.Test.YtpffhpnmbpjifaaGreatVintZa
import Derived.WalkMore
import Derived.Deep.RegionHeld3
import Derived.Deep.DeepCutAuto
import Derived.Deep.CutBlock
import Derived.BigQuiet
import Derived.Deep.QuietTactic
import Derived.Deep.LoopGhost
namespace Go.Proofs.YtpffhpnmbpjifaaGreat
open Go.RowKit
set_option maxRecDepth 20000

set_option maxHeartbeats 1000000 in
theorem prises_any (a : Option Addr) (n cap : Nat) (zs : List Int) (w : World) (hs : SlI w a n cap zs) :
    Calls Tryz.prog 87 #[.slice a n cap] w fun e w' => e = .returned (.bool (decide (upI zs))) ∧ Below w.heap.size w w' := by
  have HS := hide hs
  have HL := hide hs.1.1
  have hn := hs.1.2.1
  clear hs
  go_enter Tryz.func87, Tryz.ntmps87
  go_wp2
  go_loopw [3] (fun i wr => ∃ k : Nat, (k + 1 ≤ n ∨ k = 0) ∧ i = .int .i64 ((k : Int) + 1) ∧ Hid (upI (zs.take (k + 1))) ∧ Hid (Below w.heap.size w wr)) (fun i _ => n + 1 - (intOf i).toNat)
  case atStart =>
    refine ⟨0, Or.inr rfl, rfl, ?_, Below.refl _ _⟩
    show upI _
    match zs with
    | [] => exact upI_nil
    | x :: _ => simp [upI]
  case round =>
    obtain ⟨k, hk, rfl, HU, HW⟩ := hrel
    by_cases hlt : k + 1 < n
    · obtain ⟨b, off, rfl, g0⟩ := (HS.out.below HW.out (Nat.le_refl _)).at' (i := k) (by omega)
      obtain ⟨b', off', e, g1⟩ := (HS.out.below HW.out (Nat.le_refl _)).at' (i := k + 1) hlt
      simp only [Option.some.injEq, Addr.mk.injEq, and_true] at e
      obtain ⟨rfl, rfl⟩ := e
      have ST := hide (upI_step (l := zs) (k := k) (by rw [HL.out]; exact hlt) HU.out)
      rw [← getD_is, ← getD_is] at ST
      have HN : Hid (¬ upI (zs.take (k + 2)) → decide (upI zs) = false) := fun h => decide_eq_false (fun hu => h (upI_take _ hu))
      have j0 : ((k : Int) + 1 - 1).toNat = k := by omega
      have j1 : ((k : Int) + 1).toNat = k + 1 := by omega
      have i1 : (0 : Int) ≤ (k : Int) + 1 := by omega
      have i2 : (k : Int) + 1 < (n : Int) := by omega
      have i3 : (0 : Int) ≤ (k : Int) + 1 - 1 := by omega
      have i4 : (k : Int) + 1 - 1 < (n : Int) := by omega
      generalize zs.getD k 0 = x at *
      generalize zs.getD (k + 1) 0 = y at *
      by_cases hxy : x < y
      · have t : ¬ y ≤ x := by omega
        have HU2 : Hid (upI (zs.take (k + 1 + 1))) := ST.out.2 hxy
        clear hxy
        go_wp2
        go_region
        go_wp2
        go_roundw
        case rel => exact ⟨k + 1, Or.inl (by omega), by go_num, HU2, HW.out.drew⟩
        case measure => simp [intOf]; omega
      · have t : y ≤ x := by omega
        have HN2 : Hid (decide (upI zs) = false) := HN.out (fun h => hxy (ST.out.1 h))
        clear hxy
        go_wp2
        go_region
        go_wp2
        go_ret
        refine ⟨?_, HW.out.drew⟩
        show Ending.returned (.bool false) = _
        rw [HN2.out]
    · have i2 : ¬ (k : Int) + 1 < (n : Int) := by omega
      have HN : Hid (decide (upI zs) = true) := decide_eq_true (upI_all (n := k + 1) (by rw [HL.out]; omega) HU.out)
      go_wp2
      go_ret
      refine ⟨?_, HW.out⟩
      show Ending.returned (.bool true) = _
      rw [HN.out]

/-- Do all of them rise? -/
def allUp (ls : List (List Int)) : Bool := ls.all (fun l => decide (upI l))
theorem allUp_iff {ls : List (List Int)} : allUp ls = true ↔ ∀ l ∈ ls, upI l := by
  unfold allUp
  rw [List.all_eq_true]
  exact ⟨fun h l hl => of_decide_eq_true (h l hl), fun h l hl => decide_eq_true (h l hl)⟩
theorem allUp_step {ls : List (List Int)} {k : Nat} (h : k < ls.length) (hk : allUp (ls.take k) = true) : allUp (ls.take (k + 1)) = decide (upI (ls.getD k [])) := by
  rw [takeL_get h]
  unfold allUp at hk ⊢
  rw [List.all_append, hk]
  simp
theorem allUp_not {ls : List (List Int)} {k : Nat} (h : k < ls.length) (hk : ¬ upI (ls.getD k [])) : allUp ls = false := by
  rw [Bool.eq_false_iff]
  intro e
  exact hk (allUp_iff.1 e _ (getL_mem h))

set_option maxHeartbeats 1000000 in
theorem rise_any (a : Option Addr) (n cap : Nat) (ls : List (List Int)) (w : World) (hs : RowII w a n ls) :
    Calls Tryz.prog 75 #[.slice a n cap] w fun e w' => e = .returned (.bool (allUp ls)) ∧ Below w.heap.size w w' := by
  have HS := hide hs
  have HL := hide hs.1
  have hn := hs.2.1
  obtain ⟨ans, HA⟩ : ∃ ans, Hid (allUp ls = ans) := ⟨_, rfl⟩
  rw [HA.out]
  clear hs
  go_enter Tryz.func75, Tryz.ntmps75
  go_wp2
  go_loopw [7] (fun i wr => ∃ k : Nat, k ≤ n ∧ i = .int .i64 k ∧ Hid (allUp (ls.take k) = true) ∧ Hid (Below w.heap.size w wr)) (fun i _ => n - (intOf i).toNat)
  case atStart => exact ⟨0, by omega, rfl, rfl, Below.refl _ _⟩
  case round =>
    obtain ⟨k, hk, rfl, HU, BW⟩ := hrel
    obtain ⟨u, rfl⟩ : ∃ u, u = wr := ⟨wr, rfl⟩
    by_cases hlt : k < n
    · obtain ⟨b, off, a1, n1, c1, e, g00, q1⟩ := HS.out.at' hlt
      subst e
      have g0 : u.cell? ⟨b, off + k, none⟩ = some (.slice a1 n1 c1) := by
        rw [BW.out.cell (p := ⟨b, off + k, none⟩) (World.block_lt_of_cell? w _ g00)]
        exact g00
      have i1 : (0 : Int) ≤ (k : Int) := by omega
      have i2 : (k : Int) < (n : Int) := by omega
      have HK : Hid (k < ls.length) := by show _ < _; rw [HL.out]; exact hlt
      have RR := hide (prises_any a1 n1 c1 _ u (q1.below BW.out (Nat.le_refl _)))
      clear q1 g00
      by_cases hup : upI (ls.getD k [])
      · rw [decide_eq_true hup] at RR
        have HU1 : Hid (allUp (ls.take (k + 1)) = true) := by
          show _ = _
          rw [allUp_step HK.out HU.out, decide_eq_true hup]
        clear hup
        go_wp2_with fail
        with_reducible refine RR.out.mono ?_
        rintro e u1 ⟨rfl, b1⟩
        have B1 := hide (bel_to BW.out (Nat.le_refl _) b1)
        clear b1 RR g0
        go_wp2
        go_roundw
        case rel => exact ⟨k + 1, by omega, by go_num, HU1, B1⟩
        case measure => simp [intOf]; omega
      · rw [decide_eq_false hup] at RR
        have HF : Hid (false = ans) := by rw [← HA.out]; exact (allUp_not HK.out hup).symm
        clear hup
        go_wp2_with fail
        with_reducible refine RR.out.mono ?_
        rintro e u1 ⟨rfl, b1⟩
        have B1 := hide (bel_to BW.out (Nat.le_refl _) b1)
        clear b1 RR g0
        go_wp2
        go_ret
        exact ⟨by rw [← HF.out]; rfl, B1.out⟩
    · have i2 : ¬ (k : Int) < (n : Int) := by omega
      have HF : Hid (true = ans) := by
        rw [← HA.out]
        have := HU.out
        rw [List.take_of_length_le (by rw [HL.out]; omega)] at this
        exact this.symm
      go_wp2
      go_ret
      exact ⟨by rw [← HF.out]; rfl, BW.out⟩

/-- What tell hands back: it holds the list in a box. -/
def tellF (B : Nat) : Value := .func (.func 88) #[] #[.pointer (some ⟨B, 0, none⟩)]
theorem tell_any (a : Option Addr) (n cap : Nat) (w : World) :
    Calls Tryz.prog 76 #[.slice a n cap] w fun e w' => e = .returned (tellF w.heap.size) ∧ w' = w.alloc (.cells #[.slice a n cap] 33) := by
  have hmf : ∀ (fn : Fn) (first cap : Array Value) (w : World), (Instr.makeFunc fn first cap).run Tryz.prog w = .ok (.func fn first cap) w := fun _ _ _ _ => rfl
  go_enter Tryz.func76, Tryz.ntmps76
  go_wp2
  go_ret
  exact ⟨rfl, rfl⟩

end Go.Proofs.YtpffhpnmbpjifaaGreat

namespace Go.Proofs.YtpffhpnmbpjifaaGreat
open Go.RowKit Go.Shelf
set_option maxRecDepth 20000
attribute [local go_sem] Oper.semAt_some
set_option maxRecDepth 20000

set_option maxHeartbeats 2000000 in
theorem tell_stops (m : Nat) (hm : 1 ≤ m) (w1 w0 : World) (Bn : Nat) (a : Option Addr) (n cap : Nat) (zs : List Int) (hr : SlI w1 a n cap zs) (hw : Below w1.heap.size w1 w0) (hb : Boxed w0 Bn 33 (.slice a n cap)) :
    SeqStopsK Fence.wide m Tryz.prog 88 #[.pointer (some ⟨Bn, 0, none⟩)] (fun x : Int => #[.int .i64 x]) (Below w1.heap.size) (fun xs => xs = zs) (fun pre => pre <+: zs) n w0 := fun l J Jx W hW hJ hJx hY h0 => by
  have hn := hr.1.2.1
  have HL := hide hr.1.1
  have HR := hide hr
  have HBW : Hid (Below w1.heap.size w1 W) := hw.trans (hW.mono hw.size)
  have hcell := (boxed_below hb hW).cell
  have HY := hide hY
  clear hb hW hw hr hJ hJx hY
  refine callsIn_of_wp Tryz.func88 rfl trivial ?_ rfl
  simp only [Tryz.ntmps88, List.size_toArray, List.length_cons, List.length_nil, Nat.reduceAdd, Nat.reduceSub, Array.replicate_succ, Array.replicate_zero, List.push_toArray, List.append_toArray, List.nil_append, List.cons_append]
  gi_wp2
  clear hcell
  gi_loopw [7] (fun p wr => ∃ (k : Nat), p = .int .i64 k ∧ k ≤ n ∧ Hid (J (zs.take k) wr) ∧ Hid (Below w1.heap.size w1 wr)) (fun p _ => n - (intOf p).toNat)
  case atStart => exact ⟨0, rfl, by omega, h0, HBW⟩
  case round =>
    obtain ⟨k, rfl, hk, HJs, HB⟩ := hrel
    by_cases hlt : k < n
    · obtain ⟨b, off, rfl, hck⟩ := (HR.out.below HB.out (Nat.le_refl _)).at' hlt
      have HS : Hid (zs.take (k + 1) = zs.take k ++ [zs.getD k 0]) := take_get (by rw [HL.out]; exact hlt)
      have i1 : (0 : Int) ≤ (k : Int) := by omega
      have i2 : (k : Int) < (n : Int) := by omega
      obtain ⟨fn, tmps, assign, body, hy, hR⟩ := HY.out (zs.take k) (zs.getD k 0) wr HJs.out (by rw [List.length_take, HL.out]; omega)
      rw [← HS.out] at hR
      generalize zs.getD k 0 = z at *
      gi_wp2
      refine hR.mono ?_
      rintro e w3 (⟨rfl, j3, hk3⟩ | ⟨rfl, jx3⟩)
      · have HJ3 := hide j3
        have HB3 : Hid (Below w1.heap.size w1 w3) := HB.out.trans hk3
        clear j3 hk3 hR hy
        gi_wp2
        go_roundw
        case rel => exact ⟨k + 1, by go_num, by omega, HJ3, HB3⟩
        case measure => simp [intOf]; omega
      · have HP : Hid (zs.take (k + 1) <+: zs) := List.take_prefix _ _
        have HJ3 := hide jx3
        clear jx3 hR hy
        gi_wp2
        refine bodyPost_ret (results_none rfl _ _ _) rfl ?_
        exact ⟨⟨_, rfl⟩, .inr ⟨_, HP, HJ3⟩⟩
    · have HE : Hid (zs.take k = zs) := List.take_of_length_le (by rw [HL.out]; omega)
      have i2 : ¬ (k : Int) < (n : Int) := by omega
      rw [HE.out] at HJs
      gi_wp2
      go_end0
      exact ⟨⟨_, rfl⟩, .inl HJs.out⟩

/-- List's two boxes: how many are asked for, and what came so far. -/
structure LsI (W : World) (n0 : Nat) (ks : List Int) (most : Int) (v : Value) : Prop where
  bm : Boxed W n0 3 (.int .i64 most)
  bl : Boxed W (n0 + 1) 33 v
  rl : W.ownsRow (n0 + 1) 3 1 v ks.length (ks.map (Value.int .i64))
def LsE (W : World) (n0 : Nat) (ks : List Int) (most : Int) : Prop := ∃ v, LsI W n0 ks most v
theorem LsI.keep {S : Nat → Prop} {w w' : World} {n0 : Nat} {ks : List Int} {most : Int} {v : Value} (h : LsI w n0 ks most v) (c : Ch S w w') (h1 : ¬ S n0) (h2 : ¬ S (n0 + 1)) (h3 : ∀ g, v.ownBlock = some g → ¬ S g) : LsI w' n0 ks most v :=
  ⟨boxed_ch h.bm c h1, boxed_ch h.bl c h2, row_ch h.rl c h3⟩
theorem lse_own {β : Type} (n0 : Nat) (ks : β → List Int) (most : Int) : Go.Own (fun s W => LsE W n0 (ks s) most) := by
  rintro s X Y row ⟨v, h⟩ hg hrow
  have hc : ∀ {g : Nat} {t : TypeId}, CellsT X g t → ¬ row = some g := by
    rintro g t ⟨cur, mk, h1⟩ h2
    obtain ⟨o, ho, hcells⟩ := hrow g h2
    rw [h1] at ho
    cases ho
    cases hcells
  exact ⟨v, h.keep (Ch.grown hg) (hc (boxed_cells h.bm)) (hc (boxed_cells h.bl)) (fun g hg' => hc (row_cells h.rl hg').1)⟩

theorem catch_idle (m : Nat) (w : World) :
    CallsDIn Fence.wide m Tryz.prog 77 #[] .returning w fun e u' w' => e = .returned (.tuple #[]) ∧ u' = .returning ∧ w' = w := by
  refine callsDIn_of_wpSIn Tryz.func77 rfl trivial fun c₀ cs hu => ?_
  apply wpSIn_region
  cases c₀
  simp_all [wpOpsSIn, go_sem, recoverD, Tryz.ntmps77, bodyPostS, results, Tryz.results77]

set_option maxHeartbeats 4000000 in
theorem list_any (w : World) (Bk : Nat) (a : Option Addr) (n cap : Nat) (zs : List Int) (hk : Boxed w Bk 33 (.slice a n cap)) (hr : SlI w a n cap zs) (hn8 : n ≤ 100000000) (u : World) (hu : Below w.heap.size w u) (most : Int) :
    Calls Tryz.prog 62 #[tellF Bk, .int .i64 most] u fun e u' => ToldM (zs.take most.toNat) u e u' := by
  obtain ⟨i0, hi0⟩ := info_parts Tryz.infoI
  have HI := hide hi0
  clear hi0
  by_cases hm : most < 1
  · have HE : Hid (zs.take most.toNat = []) := by show _ = _; rw [show most.toNat = 0 by omega]; rfl
    obtain ⟨W1, hW1⟩ : ∃ W, Hid (u.alloc (.cells #[.int .i64 most] 3) = W) := ⟨_, rfl⟩
    obtain ⟨W2, hW2⟩ : ∃ W, Hid (W1.alloc (.cells #[.slice none 0 0] 33) = W) := ⟨_, rfl⟩
    have B1 : Hid (Below u.heap.size u W1) := by rw [← hW1.out]; exact (Below.refl _ _).alloc (Nat.le_refl _) _
    have B2 : Hid (Below u.heap.size u W2) := by rw [← hW2.out]; exact bel_al B1.out (Nat.le_refl _) _
    have S1 : Hid (W1.heap.size = u.heap.size + 1) := by rw [← hW1.out]; show _ = _; simp
    have X1 : Hid (Boxed W2 (u.heap.size + 1) 33 (.slice none 0 0)) := by rw [← hW2.out, ← S1.out]; exact Boxed.new W1 33 (.slice none 0 0)
    have cm : W2.cell? ⟨u.heap.size, 0, none⟩ = some (.int .i64 most) := by
      have q := (Boxed.new u 3 (.int .i64 most)).alloc (.cells #[.slice none 0 0] 33)
      rw [hW1.out, hW2.out] at q
      exact q.cell
    have cl := X1.out.cell
    have fl := X1.out.frozen
    have X2 := hide (X1.out.set (.slice none 0 0)).cell
    have B3 : Hid (Below u.heap.size u (W2.setCell ⟨u.heap.size + 1, 0, none⟩ (.slice none 0 0))) := B2.out.setCell (p := ⟨u.heap.size + 1, 0, none⟩) (by show _ ≤ _ + 1; omega) _
    clear hk hr hu
    unfold tellF
    go_enter_defers Tryz.func62, Tryz.ntmps62
    go_upto_region 1 with fail
    rw [hW1.out, hW2.out]
    clear hW1 hW2
    go_wp2
    rw [HE.out]
    refine ⟨_, ?_, none, 0, 0, rfl, sli_nil _, own_nil _ _ _ _, B3.out⟩
    have e1 := X2.out
    simp [results, Tryz.results62, go_sem, e1]
  · obtain ⟨W1, hW1⟩ : ∃ W, Hid (u.alloc (.cells #[.int .i64 most] 3) = W) := ⟨_, rfl⟩
    obtain ⟨W2, hW2⟩ : ∃ W, Hid (W1.alloc (.cells #[.slice none 0 0] 33) = W) := ⟨_, rfl⟩
    have B1 : Hid (Below u.heap.size u W1) := by rw [← hW1.out]; exact (Below.refl _ _).alloc (Nat.le_refl _) _
    have B2 : Hid (Below u.heap.size u W2) := by rw [← hW2.out]; exact bel_al B1.out (Nat.le_refl _) _
    have S1 : Hid (W1.heap.size = u.heap.size + 1) := by rw [← hW1.out]; show _ = _; simp
    have S2 : W2.heap.size = u.heap.size + 2 := by rw [← hW2.out, World.size_alloc, S1.out]
    have L0 : Hid (LsI W2 u.heap.size [] most (.slice none 0 0)) := by
      refine ⟨?_, ?_, World.ownsRow_nil _ _ _ _⟩
      · rw [← hW2.out, ← hW1.out]
        exact (Boxed.new u 3 (.int .i64 most)).alloc _
      · rw [← hW2.out, ← S1.out]
        exact Boxed.new W1 33 (.slice none 0 0)
    have cm := L0.out.bm.cell
    have hlen : Hid (zs.length = n) := hr.1.1
    have HWF : Hid (∀ z ∈ zs, (Lit.int .i64 z).wf = true) := hr.wf
    have HBW : Hid (Below w.heap.size w W2) := bel_to hu (Nat.le_refl _) B2.out
    have ST := hide (tell_stops 8 (by omega) w W2 Bk a n cap zs hr HBW.out (boxed_below hk HBW.out))
    have hws : w.heap.size ≤ u.heap.size := hu.size
    clear hk hr hu
    unfold tellF
    refine (callsIn_wide (n := 9)).1 ?_
    refine callsIn_of_wp_marks Tryz.func62 rfl trivial ?_ rfl
    simp only [Tryz.ntmps62, List.size_toArray, List.length_cons, List.length_nil, Nat.reduceAdd, Nat.reduceSub, Array.replicate_succ, Array.replicate_zero, List.push_toArray, List.append_toArray, List.nil_append, List.cons_append]
    gi_wp2_with fail
    rw [hW1.out, hW2.out]
    clear hW1 hW2
    have hsz := S2
    clear cm
    refine wpIn_rangeFunc_ownF rfl (by omega) (gf := 88) (lb := #[.pointer (some ⟨Bk, 0, none⟩)]) rfl trivial (enters_of Tryz.func88 (by kernel_rfl) rfl)
      ST.out belowK_t (belowK_b (by omega)) (Below.refl _ _) (fun _ => rfl)
      (fun pre W => (LsE W u.heap.size pre most ∧ (pre = [] ∨ (pre.length : Int) < most)) ∧ Below u.heap.size u W)
      (fun c pre W => (LsE W u.heap.size pre most ∧ (c = .exit 0 ∧ (pre.length : Int) = most)) ∧ Below u.heap.size u W)
      (OwnFrom.and (OwnFrom.and (Go.Own.from (lse_own _ _ _) _) (ownFrom_pure _ _)) (ownFrom_below (by omega) (by omega)))
      (fun c => OwnFrom.and (OwnFrom.and (Go.Own.from (lse_own _ _ _) _) (ownFrom_pure _ _)) (ownFrom_below (by omega) (by omega)))
      ⟨⟨⟨_, L0.out⟩, Or.inl rfl⟩, B2.out⟩
      (fun x => { tmps := #[.func (.func 88) #[] #[.pointer (some ⟨Bk, 0, none⟩)], .int .i64 most, undef, .pointer (some ⟨u.heap.size, 0, none⟩), .pointer (some ⟨u.heap.size + 1, 0, none⟩), .int .i64 x, .int .i64 most, .bool false, .func (.func 88) #[] #[.pointer (some ⟨Bk, 0, none⟩)], .int .i64 x, undef, undef, undef, undef, undef, undef, undef, undef, undef], defers := [] }) ?assign ?body ?done ?stop
    case assign =>
      intro l x W K hK
      gi_wp2
      exact hK
    case body =>
      rintro l pre x W ⟨⟨⟨v, hL⟩, hcnt⟩, hB⟩ hlt
      obtain ⟨L, hLL⟩ : ∃ L, Hid (pre.length = L) := ⟨_, rfl⟩
      have hrow := hL.rl
      rw [hLL.out] at hrow hlt hcnt
      have hcell := hL.bl.cell
      have hs1 : u.heap.size + 1 ≤ W.heap.size := by have := hL.bl.lt; omega
      have hne : ∀ g, v.ownBlock = some g → g ≠ u.heap.size := fun g hg => by have := (row_cells hL.rl hg).2; omega
      have hstep : ∀ (w1 : World) (v' : Value), w1.ownsRow (u.heap.size + 1) 3 1 v' (L + 1) (pre.map (Value.int .i64) ++ [.int .i64 x]) → (W.alloc (.cells #[.int .i64 x] 3)).grownBy w1 v.ownBlock →
          Boxed w1 (u.heap.size + 1) 33 v ∧ Boxed w1 u.heap.size 3 (.int .i64 most) ∧ (w1.setCell ⟨u.heap.size + 1, 0, none⟩ v').cell? ⟨u.heap.size, 0, none⟩ = some (.int .i64 most) ∧
          (KeepsOthers W (w1.setCell ⟨u.heap.size + 1, 0, none⟩ v') ∧ LsI (w1.setCell ⟨u.heap.size + 1, 0, none⟩ v') u.heap.size (pre ++ [x]) most v' ∧ Below u.heap.size W (w1.setCell ⟨u.heap.size + 1, 0, none⟩ v')) := by
        intro w1 v' hown' hgrow
        obtain ⟨hv1, hv2, hr2, hk2, hb2⟩ := hL.bl.appended (by decide) hrow hs1 (Nat.le_refl _) hown' hgrow
        have hm1 : Boxed w1 u.heap.size 3 (.int .i64 most) := (hL.bm.alloc _).kept hgrow (fun e => hne _ e.symm rfl)
        have hm2 : Boxed (w1.setCell ⟨u.heap.size + 1, 0, none⟩ v') u.heap.size 3 (.int .i64 most) := boxed_ch hm1 (Ch.set w1 _ v') (by omega)
        refine ⟨hv1, hm1, hm2.cell, hk2, ⟨hm2, hv2, ?_⟩, hb2.mono (by omega)⟩
        rw [List.length_append, List.map_append, hLL.out]
        exact hr2
      have HST := hide hstep
      have HRW := hide hrow
      have HBB := hide hB
      have HPL : Hid (((pre ++ [x]).length : Int) = (L : Int) + 1) := by
        show _ = _
        rw [List.length_append, hLL.out]
        rfl
      clear hstep hL hne hrow hB
      by_cases hq : (L : Int) + 1 = most
      · have t1 : (((L : Int) + 1) == most) = true := by simpa using hq
        have t2 : (((L + 1 : Nat) : Int) == most) = true := by simpa using hq
        have HQ := hide hq
        clear hq
        gi_wp2_with (gi_at_builtin; refine wpListIn_append_own _ rfl _ _ 33 rfl (u.heap.size + 1) 3 i0 (.int .i64 0) 1 8 Tryz.underlying33 HI.out.1 HI.out.2.1 HI.out.2.2.1 HI.out.2.2.2 rfl (by decide) _ _ _ rfl (HRW.out.alloc _) ⟨W.heap.size, 0, none⟩ 1 1 [.int .i64 x] rfl rfl (cell_one_new _ _ _) (by simp [Value.oneCell']) (by unfold maxLen; omega) (by omega) (by simp; omega) ?_; intro v' w1 hown' hgrow _; obtain ⟨g', cap', rfl⟩ := ownsRow_succ hown'; obtain ⟨hv1, hm1, hm2, hq3⟩ := HST.out _ _ hown' hgrow; have hc1 := hv1.cell; have hf1 := hv1.frozen; have HQ3 := hide hq3; clear hq3 hgrow hown' hm1 hv1)
        exact ⟨HQ3.out.1, ⟨⟨_, HQ3.out.2.1⟩, rfl, HPL.out.trans HQ.out⟩, HBB.out.trans HQ3.out.2.2⟩
      · have t1 : (((L : Int) + 1) == most) = false := by simpa using hq
        have t2 : (((L + 1 : Nat) : Int) == most) = false := by simpa using hq
        have HQ : Hid (((pre ++ [x]).length : Int) < most) := by
          show _ < _
          rw [HPL.out]
          rcases hcnt with h | h
          · subst h
            simp at hLL
            have := hLL.out
            omega
          · omega
        clear hq
        gi_wp2_with (gi_at_builtin; refine wpListIn_append_own _ rfl _ _ 33 rfl (u.heap.size + 1) 3 i0 (.int .i64 0) 1 8 Tryz.underlying33 HI.out.1 HI.out.2.1 HI.out.2.2.1 HI.out.2.2.2 rfl (by decide) _ _ _ rfl (HRW.out.alloc _) ⟨W.heap.size, 0, none⟩ 1 1 [.int .i64 x] rfl rfl (cell_one_new _ _ _) (by simp [Value.oneCell']) (by unfold maxLen; omega) (by omega) (by simp; omega) ?_; intro v' w1 hown' hgrow _; obtain ⟨g', cap', rfl⟩ := ownsRow_succ hown'; obtain ⟨hv1, hm1, hm2, hq3⟩ := HST.out _ _ hown' hgrow; have hc1 := hv1.cell; have hf1 := hv1.frozen; have HQ3 := hide hq3; clear hq3 hgrow hown' hm1 hv1)
        exact ⟨HQ3.out.1, HQ3.out.2.2.mono (by omega), ⟨⟨_, HQ3.out.2.1⟩, Or.inr HQ.out⟩, HBB.out.trans HQ3.out.2.2⟩
    case done =>
      rintro D xs W hD hS ⟨⟨⟨v, hL⟩, hcnt⟩, hB⟩ hK
      have hcell := hL.bl.cell
      have hfz := hL.bl.frozen
      obtain ⟨al, cl, rfl⟩ := row_form hL.rl
      have ht : Hid (zs.take most.toNat = xs) := by
        show _ = _
        obtain rfl := hS
        have hln := hlen.out
        rw [List.take_of_length_le]
        rcases hcnt with h | h
        · rw [h]; simp
        · omega
      have HL2 : Hid (LsI (W.setCell ⟨u.heap.size + 1, 0, none⟩ (.slice al xs.length cl)) u.heap.size xs most (.slice al xs.length cl)) :=
        ⟨boxed_ch hL.bm (Ch.set W _ _) (by omega), hL.bl.set _, row_ch hL.rl (Ch.set W _ _) (fun g hg => (row_cells hL.rl hg).1.ne (boxed_cells hL.bl) (by decide))⟩
      have hK2 : (W.setCell ⟨u.heap.size + 1, 0, none⟩ (.slice al xs.length cl)).heap[D]? = some (.deferred (some [])) := (Below.heap_setCell _ _ _ D (by show D ≠ u.heap.size + 1; omega)).trans hK
      have HB2 : Hid (Below u.heap.size u (W.setCell ⟨u.heap.size + 1, 0, none⟩ (.slice al xs.length cl))) := hB.setCell (p := ⟨u.heap.size + 1, 0, none⟩) (by show _ ≤ _ + 1; omega) _
      have HXL : Hid (xs.length ≤ 100000000) := by obtain rfl := hS; show _ ≤ _; rw [hlen.out]; exact hn8
      have HXW : Hid (∀ z ∈ xs, (Lit.int .i64 z).wf = true) := by obtain rfl := hS; exact HWF.out
      clear hL hcnt hS hB
      gi_wp2
      obtain ⟨W3, hW3⟩ : ∃ W3, (W.setCell ⟨u.heap.size + 1, 0, none⟩ (.slice al xs.length cl)) = W3 := ⟨_, rfl⟩
      rw [hW3] at HL2 hK2 HB2 ⊢
      refine ⟨by simp, .inl ⟨_, _, rfl, run_takeDeferred hK2, ?_⟩⟩
      refine ⟨by simp, .inr ⟨by simp [Fence.wide], _, _, 77, #[], rfl, by simp [go_sem], fun _ _ => trivial, ?_⟩⟩
      refine (catch_idle _ _).mono ?_
      rintro e u' w'' ⟨rfl, rfl, rfl⟩
      obtain ⟨v4, q4⟩ := lse_own u.heap.size (fun _ : Unit => xs) most () W3 _ (some D) ⟨_, HL2.out⟩ (grownBy_putObj' W3 D (.deferred none)) (fun r e => by cases e; exact ⟨_, hK2, rfl⟩)
      have hB4 : Below u.heap.size u (W3.putObj D (.deferred none)) := HB2.out.trans (belowK_b (w := u) (Nat.le_refl _) _ D _ _ (by omega) hK2 rfl rfl)
      obtain ⟨a4, c4, rfl⟩ := row_form q4.rl
      have e4 := q4.bl.cell
      refine ⟨.slice a4 xs.length c4, ?_, a4, xs.length, c4, rfl, ?_, ?_, hB4⟩
      · simp [results, Tryz.results62, go_sem, e4]
      · rw [ht.out]
        exact MineI.sl (base := u.heap.size + 1) q4.rl (by have := HXL.out; omega) HXW.out
      · rw [ht.out]
        exact Own.mono (show MineI _ (u.heap.size + 1) _ _ _ _ from q4.rl) (by omega)
    case stop =>
      rintro D c pre W hD hS ⟨⟨⟨v, hL⟩, rfl, hcnt⟩, hB⟩ hK
      have hcell := hL.bl.cell
      have hfz := hL.bl.frozen
      obtain ⟨al, cl, rfl⟩ := row_form hL.rl
      have ht : Hid (zs.take most.toNat = pre) := by
        show _ = _
        have h := List.prefix_iff_eq_take.1 hS
        rw [h]
        congr 1
        omega
      have HL2 : Hid (LsI (W.setCell ⟨u.heap.size + 1, 0, none⟩ (.slice al pre.length cl)) u.heap.size pre most (.slice al pre.length cl)) :=
        ⟨boxed_ch hL.bm (Ch.set W _ _) (by omega), hL.bl.set _, row_ch hL.rl (Ch.set W _ _) (fun g hg => (row_cells hL.rl hg).1.ne (boxed_cells hL.bl) (by decide))⟩
      have hK2 : (W.setCell ⟨u.heap.size + 1, 0, none⟩ (.slice al pre.length cl)).heap[D]? = some (.deferred (some [])) := (Below.heap_setCell _ _ _ D (by show D ≠ u.heap.size + 1; omega)).trans hK
      have HB2 : Hid (Below u.heap.size u (W.setCell ⟨u.heap.size + 1, 0, none⟩ (.slice al pre.length cl))) := hB.setCell (p := ⟨u.heap.size + 1, 0, none⟩) (by show _ ≤ _ + 1; omega) _
      have HXL : Hid (pre.length ≤ 100000000) := by have := hS.length_le; have h3 := hlen.out; show _ ≤ _; omega
      have HXW : Hid (∀ z ∈ pre, (Lit.int .i64 z).wf = true) := fun z hz => HWF.out z (hS.subset hz)
      clear hL hcnt hS hB
      gi_wp2
      obtain ⟨W3, hW3⟩ : ∃ W3, (W.setCell ⟨u.heap.size + 1, 0, none⟩ (.slice al pre.length cl)) = W3 := ⟨_, rfl⟩
      rw [hW3] at HL2 hK2 HB2 ⊢
      refine ⟨by simp, .inl ⟨_, _, rfl, run_takeDeferred hK2, ?_⟩⟩
      refine ⟨by simp, .inr ⟨by simp [Fence.wide], _, _, 77, #[], rfl, by simp [go_sem], fun _ _ => trivial, ?_⟩⟩
      refine (catch_idle _ _).mono ?_
      rintro e u' w'' ⟨rfl, rfl, rfl⟩
      obtain ⟨v4, q4⟩ := lse_own u.heap.size (fun _ : Unit => pre) most () W3 _ (some D) ⟨_, HL2.out⟩ (grownBy_putObj' W3 D (.deferred none)) (fun r e => by cases e; exact ⟨_, hK2, rfl⟩)
      have hB4 : Below u.heap.size u (W3.putObj D (.deferred none)) := HB2.out.trans (belowK_b (w := u) (Nat.le_refl _) _ D _ _ (by omega) hK2 rfl rfl)
      obtain ⟨a4, c4, rfl⟩ := row_form q4.rl
      have e4 := q4.bl.cell
      refine ⟨.slice a4 pre.length c4, ?_, a4, pre.length, c4, rfl, ?_, ?_, hB4⟩
      · simp [results, Tryz.results62, go_sem, e4]
      · rw [ht.out]
        exact MineI.sl (base := u.heap.size + 1) q4.rl (by have := HXL.out; omega) HXW.out
      · rw [ht.out]
        exact Own.mono (show MineI _ (u.heap.size + 1) _ _ _ _ from q4.rl) (by omega)
end Go.Proofs.YtpffhpnmbpjifaaGreat

namespace Go.Proofs.YtpffhpnmbpjifaaGreat

theorem upI_tail {p : Int} {l : List Int} (h : upI (p :: l)) : upI l := (List.pairwise_cons.1 h).2
theorem upI_head {p : Int} {l : List Int} (h : upI (p :: l)) : ∀ x ∈ l, p < x := (List.pairwise_cons.1 h).1
/-- On the way of And: what is left of both, what was found. -/
structure AndI (xs ys xr yr out : List Int) : Prop where
  ux : upI xr
  uy : upI yr
  uo : upI out
  lo : ∀ x ∈ out, ∀ y ∈ xr, x < y
  mem : ∀ x, (x ∈ xs ∧ x ∈ ys) ↔ (x ∈ out ∨ (x ∈ xr ∧ x ∈ yr))
  len : out.length + xr.length ≤ xs.length
theorem andI_start {xs ys : List Int} (hx : upI xs) (hy : upI ys) : AndI xs ys xs ys [] :=
  ⟨hx, hy, upI_nil, fun x h => (by cases h), fun x => by simp, by simp⟩
theorem AndI.left {xs ys xr yr out : List Int} {p q : Int} (h : AndI xs ys (p :: xr) (q :: yr) out) (hpq : p < q) : AndI xs ys xr (q :: yr) out := by
  refine ⟨upI_tail h.ux, h.uy, h.uo, fun x hx y hy => h.lo x hx y (List.mem_cons_of_mem _ hy), fun x => ?_, by have := h.len; simp only [List.length_cons] at this; omega⟩
  rw [h.mem x]
  constructor
  · rintro (h1 | ⟨h1, h2⟩)
    · exact Or.inl h1
    · rcases List.mem_cons.1 h1 with e | e
      · subst e
        rcases List.mem_cons.1 h2 with e2 | e2
        · omega
        · have := upI_head h.uy x e2
          omega
      · exact Or.inr ⟨e, h2⟩
  · rintro (h1 | ⟨h1, h2⟩)
    · exact Or.inl h1
    · exact Or.inr ⟨List.mem_cons_of_mem _ h1, h2⟩
theorem AndI.right {xs ys xr yr out : List Int} {p q : Int} (h : AndI xs ys (p :: xr) (q :: yr) out) (hpq : q < p) : AndI xs ys (p :: xr) yr out := by
  refine ⟨h.ux, upI_tail h.uy, h.uo, h.lo, fun x => ?_, h.len⟩
  rw [h.mem x]
  constructor
  · rintro (h1 | ⟨h1, h2⟩)
    · exact Or.inl h1
    · rcases List.mem_cons.1 h2 with e | e
      · subst e
        rcases List.mem_cons.1 h1 with e2 | e2
        · omega
        · have := upI_head h.ux x e2
          omega
      · exact Or.inr ⟨h1, e⟩
  · rintro (h1 | ⟨h1, h2⟩)
    · exact Or.inl h1
    · exact Or.inr ⟨h1, List.mem_cons_of_mem _ h2⟩
theorem AndI.both {xs ys xr yr out : List Int} {p : Int} (h : AndI xs ys (p :: xr) (p :: yr) out) : AndI xs ys xr yr (out ++ [p]) := by
  refine ⟨upI_tail h.ux, upI_tail h.uy, upI_snoc.2 ⟨h.uo, fun y hy => h.lo y hy p (by simp)⟩, fun x hx y hy => ?_, fun x => ?_, by have := h.len; simp only [List.length_cons, List.length_append, List.length_nil] at this ⊢; omega⟩
  · rcases List.mem_append.1 hx with e | e
    · exact h.lo x e y (List.mem_cons_of_mem _ hy)
    · rw [List.mem_singleton] at e
      rw [e]
      exact upI_head h.ux y hy
  · rw [h.mem x, List.mem_append, List.mem_singleton]
    constructor
    · rintro (h1 | ⟨h1, h2⟩)
      · exact Or.inl (Or.inl h1)
      · rcases List.mem_cons.1 h1 with e | e
        · exact Or.inl (Or.inr e)
        · rcases List.mem_cons.1 h2 with e2 | e2
          · exact Or.inl (Or.inr e2)
          · exact Or.inr ⟨e, e2⟩
    · rintro ((h1 | h1) | ⟨h1, h2⟩)
      · exact Or.inl h1
      · rw [h1]
        exact Or.inr ⟨by simp, by simp⟩
      · exact Or.inr ⟨List.mem_cons_of_mem _ h1, List.mem_cons_of_mem _ h2⟩
theorem AndI.end' {xs ys xr yr out : List Int} (h : AndI xs ys xr yr out) (hx : upI xs) (hy : upI ys) (he : xr = [] ∨ yr = []) : out = mostS [xs, ys] 2 := by
  refine upI_ext h.uo (upI_most _ _) (fun x => ?_)
  show _ ↔ x ∈ andS xs ys
  rw [mem_and, h.mem x]
  constructor
  · intro h1
    exact ⟨⟨hx, hy⟩, Or.inl h1⟩
  · rintro ⟨-, h1 | ⟨h1, h2⟩⟩
    · exact h1
    · rcases he with e | e
      · rw [e] at h1; cases h1
      · rw [e] at h2; cases h2
theorem AndI.mine {xs ys xr yr out : List Int} (h : AndI xs ys xr yr out) {x : Int} (hx : x ∈ out) : x ∈ xs := ((h.mem x).2 (Or.inl hx)).1

/-- On the way of Less: what is left of the one list from place k on, what is left of the other. -/
structure LesI (xs ys : List Int) (k : Nat) (yr : List Int) : Prop where
  ux : upI xs
  uy : upI yr
  cut : ∃ pre, ys = pre ++ yr ∧ ∀ y ∈ pre, ∀ x ∈ xs.drop k, y < x
theorem lesI_start {xs ys : List Int} (hx : upI xs) (hy : upI ys) : LesI xs ys 0 ys := ⟨hx, hy, [], rfl, fun y h => (by cases h)⟩
theorem LesI.next {xs ys yr : List Int} {k : Nat} (h : LesI xs ys k yr) : LesI xs ys (k + 1) yr := by
  obtain ⟨h1, h2, pre, h3, h4⟩ := h
  refine ⟨h1, h2, pre, h3, fun y hy x hx => h4 y hy x ?_⟩
  rw [← List.drop_drop] at hx
  exact List.mem_of_mem_drop hx
theorem drop_least {xs : List Int} {k : Nat} (h : upI xs) (hk : k < xs.length) : ∀ x ∈ xs.drop k, xs.getD k 0 ≤ x := by
  intro x hx
  rw [drop_get hk] at hx
  have h2 : upI (xs.drop k) := h.sublist (List.drop_sublist k xs)
  rw [drop_get hk] at h2
  rcases List.mem_cons.1 hx with e | e
  · omega
  · have := upI_head h2 x e
    omega
theorem LesI.pass {xs ys yr : List Int} {k : Nat} {q : Int} (h : LesI xs ys k (q :: yr)) (hk : k < xs.length) (hq : q < xs.getD k 0) : LesI xs ys k yr := by
  obtain ⟨h1, h2, pre, h3, h4⟩ := h
  refine ⟨h1, upI_tail h2, pre ++ [q], by rw [h3]; simp, fun y hy x hx => ?_⟩
  rcases List.mem_append.1 hy with e | e
  · exact h4 y e x hx
  · rw [List.mem_singleton] at e
    have := drop_least h1 hk x hx
    omega
theorem LesI.found {xs ys yr : List Int} {k : Nat} {q : Int} (h : LesI xs ys k (q :: yr)) (hk : k < xs.length) (hq : q = xs.getD k 0) : (xs.take (k + 1)).filter (outB ys) = (xs.take k).filter (outB ys) := by
  have hin : xs.getD k 0 ∈ ys := by
    obtain ⟨pre, h3, -⟩ := h.cut
    rw [h3, ← hq]
    simp
  rw [take_get hk, List.filter_append, List.filter_cons, if_neg (by unfold outB; simp only [hin, not_true, decide_false]; decide), List.filter_nil, List.append_nil]
theorem LesI.none {xs ys yr : List Int} {k : Nat} (h : LesI xs ys k yr) (hk : k < xs.length) (hq : ∀ q ∈ yr, xs.getD k 0 < q) : (xs.take (k + 1)).filter (outB ys) = (xs.take k).filter (outB ys) ++ [xs.getD k 0] := by
  have hin : xs.getD k 0 ∉ ys := by
    obtain ⟨pre, h3, h4⟩ := h.cut
    rw [h3, List.mem_append]
    rintro (e | e)
    · have := h4 _ e (xs.getD k 0) (by rw [drop_get hk]; simp)
      omega
    · have := hq _ e
      omega
  rw [take_get hk, List.filter_append, List.filter_cons, if_pos (by unfold outB; exact decide_eq_true hin), List.filter_nil]
theorem most_none (ls : List (List Int)) (k : Int) (h : ¬ ∀ l ∈ ls, upI l) : mostS ls k = [] := by
  unfold mostS
  rw [if_pos (Or.inr h)]
theorem less_none {xs ys : List Int} (h : ¬ (upI xs ∧ upI ys)) : lessS xs ys = [] := by
  unfold lessS
  rw [if_neg h]
end Go.Proofs.YtpffhpnmbpjifaaGreat

namespace Go.Proofs.YtpffhpnmbpjifaaGreat
open Go.RowKit
set_option maxRecDepth 20000

theorem tells_of (w : World) (Bk : Nat) (a : Option Addr) (n cap : Nat) (zs : List Int) (hk : Boxed w Bk 33 (.slice a n cap)) (hr : SlI w a n cap zs) (hn : n ≤ 100000000) : Tells (tellF Bk) w zs :=
  ⟨fun u hu most _ => (list_any w Bk a n cap zs hk hr hn u hu most).mono fun _ _ h => h.told, fun u hu most _ => list_any w Bk a n cap zs hk hr hn u hu most⟩
theorem tell_iter (a : Option Addr) (n cap : Nat) (zs : List Int) (w : World) (hr : SlI w a n cap zs) (hn : n ≤ 100000000) :
    Calls Tryz.prog 76 #[.slice a n cap] w fun e w' => Iter zs w e w' := by
  refine (tell_any a n cap w).mono ?_
  rintro e w' ⟨rfl, rfl⟩
  have hb : Below w.heap.size w (w.alloc (.cells #[.slice a n cap] 33)) := (Below.refl _ _).alloc (Nat.le_refl _) _
  exact ⟨_, rfl, tells_of _ _ a n cap zs (Boxed.new w _ _) (hr.below hb (Nat.le_refl _)) hn, hb⟩
theorem Iter.from' {l : List Int} {w v : World} {e : Ending} {w' : World} (h : Iter l v e w') (hb : Below w.heap.size w v) : Iter l w e w' := by
  obtain ⟨F, h1, h2, h3⟩ := h
  exact ⟨F, h1, h2, bel_to hb (Nat.le_refl _) h3⟩

theorem eqln (w : World) (a : Option Addr) (n c n' c' : Nat) : (binOp .eql 33 (.slice a n c) (.slice none n' c')).run Tryz.prog w = .ok (.bool a.isNone) w :=
  Lib.run_eql_slice_nil w _ _ a n c n' c' Tryz.underlying33
set_option maxHeartbeats 1000000 in
theorem clonei_any (a : Option Addr) (n cap : Nat) (zs : List Int) (w : World) (hr : SlI w a n cap zs) (hn : n ≤ 100000000) :
    Calls Tryz.prog 40 #[.slice a n cap] w fun e w' => ∃ a' cap', e = .returned (.slice a' n cap') ∧ SlI w' a' n cap' zs ∧ Below w.heap.size w w' := by
  obtain ⟨i0, hi, hz0, hz1, hz2⟩ := info_parts Tryz.infoI
  have hq := eqln
  have hl := hr.1.1
  cases a with
  | none =>
    have h0 := hr.1.nz rfl
    subst h0
    have hz : zs = [] := List.length_eq_zero_iff.1 hl
    subst hz
    go_enter Tryz.func40, Tryz.ntmps40
    go_wp2
    go_ret
    exact ⟨none, 0, rfl, sli_nil _, Below.refl _ _⟩
  | some ad =>
    have HR := hide (fun o => (hr.1.alloc o).cells)
    have HW := hide hr.wf
    clear hr
    go_enter Tryz.func40, Tryz.ntmps40
    go_wp2_with (at_builtin; refine wpList_append_own _ rfl _ _ 33 rfl w.heap.size 3 i0 (.int .i64 0) 1 8 Tryz.underlying33 hi hz0 hz1 hz2 rfl (by decide) _ _ _ rfl (World.ownsRow_made w #[] 0 (Nat.le_refl _) (Nat.zero_le _) rfl) ad n cap (zs.map (Value.int .i64)) rfl (by simp [hl]) (HR.out _) (one_cell .i64 zs) (by unfold maxLen; omega) (by omega) (by simp) ?_)
    intro v' w' h1 h2 _
    obtain ⟨a', cap', rfl, h3⟩ := own_form h1
    have H3 := hide (MineI.sl h3 (by omega) HW.out)
    have H4 : Hid (Below w.heap.size w w') := ((Below.refl _ w).alloc (Nat.le_refl _) _).grown h2 (by simp) (by intro k hk; simp [Value.ownBlock] at hk; omega)
    clear h1 h2 h3 HR
    go_wp2
    go_ret
    exact ⟨a', cap', rfl, by simpa using H3.out, H4.out⟩

end Go.Proofs.YtpffhpnmbpjifaaGreat

namespace Go.Proofs.YtpffhpnmbpjifaaGreat
open Go.RowKit
set_option maxRecDepth 20000

/-- How long a slice is. -/
def lenV : Value → Nat
  | .slice _ n _ => n
  | _ => 0
/-- A list without its first. -/
theorem SlI.tail {w : World} {a : Option Addr} {k cap : Nat} {p : Int} {t : List Int} (h : SlI w a (k + 1) cap (p :: t)) :
    ∃ a' c', (∀ w, (Instr.slice 33 (.slice a (k + 1) cap) (some (.int .i64 1)) none none).run Tryz.prog w = .ok (.slice a' k c') w) ∧ SlI w a' k c' t := by
  refine ⟨_, _, fun w => slice_fromI a (k + 1) cap 1 (by omega) w, ?_, ?_, ?_⟩
  · have := h.1.from 1 (by omega) h.2.1
    simpa using this
  · have := h.2.1
    omega
  · intro e
    have h2 := h.2.2
    split at e
    · omega
    · have : a = none := by cases a with | none => rfl | some x => cases e
      have := h2 this
      omega
/-- The first of a list that is not empty. -/
theorem SlI.first {w : World} {a : Option Addr} {k cap : Nat} {p : Int} {t : List Int} (h : SlI w a (k + 1) cap (p :: t)) : ∃ b off, a = some ⟨b, off, none⟩ ∧ w.cell? ⟨b, off, none⟩ = some (.int .i64 p) := by
  obtain ⟨b, off, h1, h2⟩ := h.at' (i := 0) (by omega)
  exact ⟨b, off, h1, h2⟩
theorem SlI.split {w : World} {a : Option Addr} {n cap : Nat} {l : List Int} (h : SlI w a n cap l) : (n = 0 ∧ l = []) ∨ ∃ k p t, n = k + 1 ∧ l = p :: t ∧ SlI w a (k + 1) cap (p :: t) := by
  have hl := h.len
  match l, hl, h with
  | [], hl, _ => exact Or.inl ⟨hl.symm, rfl⟩
  | p :: t, hl, h => exact Or.inr ⟨t.length, p, t, hl.symm, rfl, by rw [← hl] at h; exact h⟩

set_option maxHeartbeats 4000000 in
theorem and_any (a : Option Addr) (n cap : Nat) (xs : List Int) (b : Option Addr) (m capb : Nat) (ys : List Int) (w : World) (hx : SlI w a n cap xs) (hy : SlI w b m capb ys) (hn : n ≤ 5000) :
    Calls Tryz.prog 66 #[.slice a n cap, .slice b m capb] w fun e w' => Iter (mostS [xs, ys] 2) w e w' := by
  obtain ⟨i0, hi, hz0, hz1, hz2⟩ := info_parts Tryz.infoI
  obtain ⟨W1, hW1⟩ : ∃ W, Hid (w.alloc (.cells #[.slice a n cap, .slice b m capb] 33) = W) := ⟨_, rfl⟩
  have B1 : Hid (Below w.heap.size w W1) := by rw [← hW1.out]; exact (Below.refl _ _).alloc (Nat.le_refl _) _
  have R1 : Hid (RowII W1 (some ⟨w.heap.size, 0, none⟩) 2 [xs, ys]) := by
    rw [← hW1.out]
    exact rowii_new w [(a, n, cap), (b, m, capb)] [xs, ys] 33 rfl (show 2 ≤ 10 by decide) (fun i hi => by
      match i, hi with
      | 0, _ => exact hx
      | 1, _ => exact hy)
  have RI := hide (rise_any _ 2 2 _ W1 R1.out)
  have HX := hide hx
  have HY := hide hy
  have HL : Hid (xs.length ≤ 5000) := by show _ ≤ _; rw [hx.len]; exact hn
  have HWF := hide hx.wf
  obtain ⟨ans, HA⟩ : ∃ ans, Hid (mostS [xs, ys] 2 = ans) := ⟨_, rfl⟩
  rw [HA.out]
  clear R1 hx hy
  by_cases hup : upI xs ∧ upI ys
  · have h1 : allUp [xs, ys] = true := by rw [allUp_iff]; simpa using hup
    rw [h1] at RI
    have HU := hide hup
    have AS := hide (andI_start hup.1 hup.2)
    clear hup h1
    go_enter Tryz.func66, Tryz.ntmps66
    go_wp2_with fail
    go_step3
    go_wp2_with fail
    rw [hW1.out]
    with_reducible refine RI.out.mono ?_
    rintro e u1 ⟨rfl, b1⟩
    have B2 := hide (bel_to B1.out (Nat.le_refl _) b1)
    clear b1 RI hW1
    go_wp2
    go_step3
    go_wp2
    go_loopw [0, 1, 5] (fun x y o wr => ∃ (ar : Option Addr) (nr cr : Nat) (br : Option Addr) (mr dr : Nat) (ao : Option Addr) (L co : Nat) (xr yr out : List Int), x = .slice ar nr cr ∧ y = .slice br mr dr ∧ o = .slice ao L co ∧ L ≤ 5000 ∧ Hid (SlI w ar nr cr xr) ∧ Hid (SlI w br mr dr yr) ∧ Hid (AndI xs ys xr yr out) ∧ Hid (MineI wr w.heap.size ao L co out) ∧ Hid (Below w.heap.size w wr)) (fun x y _ _ => lenV x + lenV y)
    case atStart => exact ⟨_, _, _, _, _, _, none, 0, 0, xs, ys, [], rfl, rfl, rfl, by omega, HX, HY, AS, own_nil _ _ _ _, B2⟩
    case round =>
      obtain ⟨ar, nr, cr, br, mr, dr, ao, L, co, xr, yr, out, rfl, rfl, rfl, hL, SX, SY, AI, OW, BW⟩ := hrel
      rcases SX.out.split with ⟨rfl, rfl⟩ | ⟨k, p, t, rfl, rfl, sx⟩
      · have f1 : (((0 : Nat) : Int) == 0) = true := rfl
        have TI := hide (tell_iter ao L co out wr (MineI.sl OW.out (by omega) (fun z hz => HWF.out z (AI.out.mine hz))) (by omega))
        have HE : Hid (out = ans) := by rw [← HA.out]; exact AI.out.end' HU.out.1 HU.out.2 (Or.inl rfl)
        clear SX SY AI OW
        go_wp2_with fail
        with_reducible refine TI.out.mono ?_
        intro e u3 h3
        have I3 := hide (h3.from' BW.out)
        clear h3 TI
        rw [HE.out] at I3
        obtain ⟨F, rfl, -, -⟩ := I3.out
        go_wp2
        go_ret
        exact I3.out
      rcases SY.out.split with ⟨rfl, rfl⟩ | ⟨j, q, s, rfl, rfl, sy⟩
      · have f1 : (((k + 1 : Nat) : Int) == 0) = false := by simp; omega
        have f2 : (((k : Int) + 1) == 0) = false := by simp; omega
        have TI := hide (tell_iter ao L co out wr (MineI.sl OW.out (by omega) (fun z hz => HWF.out z (AI.out.mine hz))) (by omega))
        have HE : Hid (out = ans) := by rw [← HA.out]; exact AI.out.end' HU.out.1 HU.out.2 (Or.inr rfl)
        clear SX SY AI OW
        go_wp2_with fail
        with_reducible refine TI.out.mono ?_
        intro e u3 h3
        have I3 := hide (h3.from' BW.out)
        clear h3 TI
        rw [HE.out] at I3
        obtain ⟨F, rfl, -, -⟩ := I3.out
        go_wp2
        go_ret
        exact I3.out
      have f1 : (((k + 1 : Nat) : Int) == 0) = false := by simp; omega
      have f2 : (((k : Int) + 1) == 0) = false := by simp; omega
      have f3 : (((j + 1 : Nat) : Int) == 0) = false := by simp; omega
      have f4 : (((j : Int) + 1) == 0) = false := by simp; omega
      obtain ⟨b1, o1, rfl, g1⟩ := (sx.below BW.out (Nat.le_refl _)).first
      obtain ⟨b2, o2, rfl, g2⟩ := (sy.below BW.out (Nat.le_refl _)).first
      obtain ⟨at', ct, rt, st⟩ := sx.tail
      obtain ⟨as', cs, rs, ss⟩ := sy.tail
      have ST := hide st
      have SS := hide ss
      have i1 : (0 : Int) < ((k + 1 : Nat) : Int) := by omega
      have i2 : (0 : Int) < (k : Int) + 1 := by omega
      have i3 : (0 : Int) < ((j + 1 : Nat) : Int) := by omega
      have i4 : (0 : Int) < (j : Int) + 1 := by omega
      clear st ss sx sy
      rcases Int.lt_trichotomy p q with hpq | hpq | hpq
      · have AI2 := hide (AI.out.left hpq)
        clear AI
        go_wp2
        go_region
        go_wp2
        go_roundw
        case rel => exact ⟨at', k, ct, _, _, _, ao, L, co, t, q :: s, out, rfl, rfl, rfl, hL, ST, SY, AI2, OW.out.drew, BW.out.drew⟩
        case measure => simp [lenV]
      · subst hpq
        have AI2 := hide AI.out.both
        have h1 : ¬ p < p := by omega
        have HV : Hid ((Lit.int .i64 p).wf = true) := HWF.out _ ((AI.out.mem p).2 (Or.inr ⟨by simp, by simp⟩)).1
        have hL3 : L + 1 ≤ 5000 := by
          have e1 := AI2.out.len
          have e2 := HL.out
          have e3 := OW.out.len
          simp only [List.length_append, List.length_cons, List.length_nil] at e1
          omega
        clear AI
        go_wp2
        go_region
        go_wp2
        go_region
        go_upto_region 9 with fail
        refine wp_world (fun W => MineI W w.heap.size ao L co out ∧ Below w.heap.size w W ∧ W.cell? ⟨b1, o1, none⟩ = some (.int .i64 p)) ⟨OW.out.drew.drew, BW.out.drew.drew, g1⟩ ?_
        rintro u ⟨o9, b9, g9⟩
        have RV := hide ((one_introw u p 3).2 HV.out)
        have OA := hide o9.alloc
        have B9 := hide b9
        clear o9 b9 OW BW g1 g2
        go_wp2_with (at_builtin; refine wpList_append_ints _ rfl _ _ 33 rfl w.heap.size 3 i0 Tryz.underlying33 hi hz0 hz1 hz2 ao L co _ rfl (OA.out _) (some ⟨u.heap.size, 0, none⟩) 1 1 [p] rfl RV.out (fun h => by cases h) (by omega) (Nat.le_trans B9.out.size (by simp)) ?_)
        intro a3 c3 w3 o3 b3 _
        have O3 := hide o3
        have B3 := hide ((bel_al B9.out (Nat.le_refl _) _).trans b3)
        clear o3 b3 OA RV B9 g9
        go_wp2
        go_region
        go_wp2
        go_roundw
        case rel => exact ⟨at', k, ct, as', j, cs, a3, L + 1, c3, t, s, out ++ [p], rfl, rfl, rfl, hL3, ST, SS, AI2, O3.out.drew, B3.out.drew⟩
        case measure => simp [lenV]; omega
      · have AI2 := hide (AI.out.right hpq)
        have h1 : ¬ p < q := by omega
        clear AI
        go_wp2
        go_region
        go_wp2
        go_region
        go_wp2
        go_roundw
        case rel => exact ⟨_, _, _, as', j, cs, ao, L, co, p :: t, s, out, rfl, rfl, rfl, hL, SX, SS, AI2, OW.out.drew.drew, BW.out.drew.drew⟩
        case measure => simp [lenV]
  · have h1 : allUp [xs, ys] = false := by
      rw [Bool.eq_false_iff]
      intro e
      exact hup ⟨allUp_iff.1 e xs (by simp), allUp_iff.1 e ys (by simp)⟩
    rw [h1] at RI
    have HE : Hid ([] = ans) := by rw [← HA.out]; exact (most_none _ _ (fun h => hup ⟨h xs (by simp), h ys (by simp)⟩)).symm
    clear hup h1
    go_enter Tryz.func66, Tryz.ntmps66
    go_wp2_with fail
    go_step3
    go_wp2_with fail
    rw [hW1.out]
    with_reducible refine RI.out.mono ?_
    rintro e u1 ⟨rfl, b1⟩
    have B2 := hide (bel_to B1.out (Nat.le_refl _) b1)
    have TI := hide (tell_iter none 0 0 [] u1 (sli_nil _) (by omega))
    clear b1 RI hW1
    go_wp2_with fail
    with_reducible refine TI.out.mono ?_
    intro e u3 h3
    have I3 := hide (h3.from' B2.out)
    clear h3 TI
    obtain ⟨F, rfl, -, -⟩ := I3.out
    go_wp2
    go_ret
    rw [← HE.out]
    exact I3.out
end Go.Proofs.YtpffhpnmbpjifaaGreat

namespace Go.Proofs.YtpffhpnmbpjifaaGreat
open Go.RowKit
set_option maxRecDepth 20000

set_option maxHeartbeats 4000000 in
theorem less_any (a : Option Addr) (n cap : Nat) (xs : List Int) (b : Option Addr) (m capb : Nat) (ys : List Int) (w : World) (hx : SlI w a n cap xs) (hy : SlI w b m capb ys) (hn : n ≤ 5000) :
    Calls Tryz.prog 61 #[.slice a n cap, .slice b m capb] w fun e w' => Iter (lessS xs ys) w e w' := by
  obtain ⟨i0, hi, hz0, hz1, hz2⟩ := info_parts Tryz.infoI
  obtain ⟨W1, hW1⟩ : ∃ W, Hid (w.alloc (.cells #[.slice a n cap, .slice b m capb] 33) = W) := ⟨_, rfl⟩
  have B1 : Hid (Below w.heap.size w W1) := by rw [← hW1.out]; exact (Below.refl _ _).alloc (Nat.le_refl _) _
  have R1 : Hid (RowII W1 (some ⟨w.heap.size, 0, none⟩) 2 [xs, ys]) := by
    rw [← hW1.out]
    exact rowii_new w [(a, n, cap), (b, m, capb)] [xs, ys] 33 rfl (show 2 ≤ 10 by decide) (fun i hi => by
      match i, hi with
      | 0, _ => exact hx
      | 1, _ => exact hy)
  have RI := hide (rise_any _ 2 2 _ W1 R1.out)
  have HX := hide hx
  have HY := hide hy
  have HL : Hid (xs.length ≤ 5000) := by show _ ≤ _; rw [hx.len]; exact hn
  have HWF := hide hx.wf
  have HN : Hid (xs.length = n) := hx.len
  obtain ⟨ans, HA⟩ : ∃ ans, Hid (lessS xs ys = ans) := ⟨_, rfl⟩
  rw [HA.out]
  clear R1 hx hy HL
  by_cases hup : upI xs ∧ upI ys
  · have h1 : allUp [xs, ys] = true := by rw [allUp_iff]; simpa using hup
    rw [h1] at RI
    have HE : Hid (xs.filter (outB ys) = ans) := by rw [← HA.out]; show _ = _; unfold lessS; rw [if_pos hup]; rfl
    have HPF : Hid (∀ k, ((xs.take k).filter (outB ys)).length ≤ 5000) := fun k => by
      have h1 := List.length_filter_le (outB ys) (xs.take k)
      have h2 := HN.out
      rw [List.length_take] at h1
      omega
    have LS := hide (lesI_start hup.1 hup.2)
    clear hup h1
    go_enter Tryz.func61, Tryz.ntmps61
    go_wp2_with fail
    go_step3
    go_wp2_with fail
    rw [hW1.out]
    with_reducible refine RI.out.mono ?_
    rintro e u1 ⟨rfl, b1⟩
    have B2 := hide (bel_to B1.out (Nat.le_refl _) b1)
    clear b1 RI hW1
    go_wp2
    go_step3
    go_wp2
    go_loopw [1, 5, 16] (fun y o i wr => ∃ (br : Option Addr) (mr dr : Nat) (ao : Option Addr) (L co : Nat) (yr : List Int) (k : Nat), y = .slice br mr dr ∧ o = .slice ao L co ∧ i = .int .i64 k ∧ k ≤ n ∧ L ≤ 5000 ∧ Hid (SlI w br mr dr yr) ∧ Hid (LesI xs ys k yr) ∧ Hid (MineI wr w.heap.size ao L co ((xs.take k).filter (outB ys))) ∧ Hid (Below w.heap.size w wr)) (fun _ _ i _ => n - (intOf i).toNat)
    case atStart => exact ⟨_, _, _, none, 0, 0, ys, 0, rfl, rfl, rfl, by omega, by omega, HY, LS, own_nil _ _ _ _, B2⟩
    case round =>
      obtain ⟨br, mr, dr, ao, L, co, yr, k, rfl, rfl, rfl, hk, hL, SY, LI, OW, BW⟩ := hrel
      obtain ⟨z, rfl⟩ : ∃ z, z = wr := ⟨wr, rfl⟩
      by_cases hlt : k < n
      · obtain ⟨b1, o1, e, g1⟩ := (HX.out.below BW.out (Nat.le_refl _)).at' hlt
        subst e
        have HK : Hid (k < xs.length) := by show _ < _; rw [HN.out]; exact hlt
        have HV : Hid ((Lit.int .i64 (xs.getD k 0)).wf = true) := HWF.out _ (getD_mem' HK.out)
        have i1 : (0 : Int) ≤ (k : Int) := by omega
        have i2 : (k : Int) < (n : Int) := by omega
        obtain ⟨v, hv⟩ : ∃ v, Hid (xs.getD k 0 = v) := ⟨_, rfl⟩
        rw [hv.out] at g1 HV
        go_wp2
        clear g1
        go_loopw [1] (fun y wr => ∃ (br : Option Addr) (mr dr : Nat) (yr : List Int), y = .slice br mr dr ∧ Hid (SlI w br mr dr yr) ∧ Hid (LesI xs ys k yr) ∧ wr = z) (fun y _ => lenV y)
        case atStart => exact ⟨_, _, _, yr, rfl, SY, LI, rfl⟩
        case round =>
          clear SY LI
          obtain ⟨br, mr, dr, yr, rfl, SY, LI, rfl⟩ := hrel
          have app : Hid (∀ q ∈ yr, xs.getD k 0 < q) → Hid ((xs.take (k + 1)).filter (outB ys) = (xs.take k).filter (outB ys) ++ [v]) := fun h => by
            show _ = _
            rw [← hv.out]
            exact LI.out.none HK.out h.out
          rcases SY.out.split with ⟨rfl, rfl⟩ | ⟨j, q, s, rfl, rfl, sy⟩
          · have FT := app (fun q hq => by cases hq)
            have LI2 := hide LI.out.next
            clear app LI
            have RV := hide ((one_introw wr v 3).2 HV.out)
            have OA := hide OW.out.alloc
            go_wp2_with (at_builtin; refine wpList_append_ints _ rfl _ _ 33 rfl w.heap.size 3 i0 Tryz.underlying33 hi hz0 hz1 hz2 ao L co _ rfl (OA.out _) (some ⟨wr.heap.size, 0, none⟩) 1 1 [v] rfl RV.out (fun h => by cases h) (by omega) (Nat.le_trans BW.out.size (by simp)) ?_)
            intro a3 c3 w3 o3 b3 _
            rw [← FT.out] at o3
            have hL3 : L + 1 ≤ 5000 := by rw [← o3.len]; exact HPF.out (k + 1)
            have O3 := hide o3
            have B3 := hide ((bel_al BW.out (Nat.le_refl _) _).trans b3)
            clear o3 b3 OA RV OW BW FT
            go_wp2
            go_roundw
            case rel => exact ⟨_, _, _, a3, L + 1, c3, _, k + 1, rfl, rfl, by go_num, by omega, hL3, SY, LI2, O3, B3⟩
            case measure => simp [intOf]; omega
          · obtain ⟨b2, o2, rfl, g2⟩ := (sy.below BW.out (Nat.le_refl _)).first
            obtain ⟨as', cs, rs, ss⟩ := sy.tail
            have SS := hide ss
            have i3 : (0 : Int) < ((j + 1 : Nat) : Int) := by omega
            have i4 : (0 : Int) < (j : Int) + 1 := by omega
            clear ss
            rcases Int.lt_trichotomy q v with hq | hq | hq
            · have LI2 := hide (LI.out.pass HK.out (by rw [hv.out]; exact hq))
              have h1 : q ≤ v := by omega
              have h2 : (q == v) = false := by simp; omega
              clear app LI
              go_wp2
              go_roundw
              case rel => exact ⟨as', j, cs, s, rfl, SS, LI2, trivial⟩
              case measure => simp [lenV]
            · subst hq
              have FT := hide (LI.out.found HK.out hv.out.symm)
              have LI2 := hide LI.out.next
              have h1 : q ≤ q := by omega
              have h2 : (q == q) = true := by simp
              rw [← FT.out] at OW
              clear app LI FT
              go_wp2
              go_roundw
              case rel => exact ⟨_, _, _, ao, L, co, q :: s, k + 1, rfl, rfl, by go_num, by omega, hL, SY, LI2, OW, BW⟩
              case measure => simp [intOf]; omega
            · have h1 : ¬ q ≤ v := by omega
              have FT := app (by
                show ∀ x ∈ _, _
                intro x hx
                rw [hv.out]
                rcases List.mem_cons.1 hx with e | e
                · omega
                · have := upI_head LI.out.uy x e
                  omega)
              have LI2 := hide LI.out.next
              clear app LI
              have RV := hide ((one_introw wr v 3).2 HV.out)
              have OA := hide OW.out.alloc
              go_wp2_with (at_builtin; refine wpList_append_ints _ rfl _ _ 33 rfl w.heap.size 3 i0 Tryz.underlying33 hi hz0 hz1 hz2 ao L co _ rfl (OA.out _) (some ⟨wr.heap.size, 0, none⟩) 1 1 [v] rfl RV.out (fun h => by cases h) (by omega) (Nat.le_trans BW.out.size (by simp)) ?_)
              intro a3 c3 w3 o3 b3 _
              rw [← FT.out] at o3
              have hL3 : L + 1 ≤ 5000 := by rw [← o3.len]; exact HPF.out (k + 1)
              have O3 := hide o3
              have B3 := hide ((bel_al BW.out (Nat.le_refl _) _).trans b3)
              clear o3 b3 OA RV OW BW FT
              go_wp2
              go_roundw
              case rel => exact ⟨_, _, _, a3, L + 1, c3, _, k + 1, rfl, rfl, by go_num, by omega, hL3, SY, LI2, O3, B3⟩
              case measure => simp [intOf]; omega
      · have i2 : ¬ (k : Int) < (n : Int) := by omega
        rw [List.take_of_length_le (by rw [HN.out]; omega), HE.out] at OW
        have TI := hide (tell_iter ao L co ans z (MineI.sl OW.out (by omega) (fun x hx => HWF.out x (by rw [← HE.out] at hx; exact (List.mem_filter.1 hx).1))) (by omega))
        clear SY LI OW
        go_wp2_with fail
        with_reducible refine TI.out.mono ?_
        intro e u3 h3
        have I3 := hide (h3.from' BW.out)
        clear h3 TI
        obtain ⟨F, rfl, -, -⟩ := I3.out
        go_wp2
        go_ret
        exact I3.out
  · have h1 : allUp [xs, ys] = false := by
      rw [Bool.eq_false_iff]
      intro e
      exact hup ⟨allUp_iff.1 e xs (by simp), allUp_iff.1 e ys (by simp)⟩
    rw [h1] at RI
    have HE : Hid ([] = ans) := by rw [← HA.out]; exact (less_none hup).symm
    clear hup h1
    go_enter Tryz.func61, Tryz.ntmps61
    go_wp2_with fail
    go_step3
    go_wp2_with fail
    rw [hW1.out]
    with_reducible refine RI.out.mono ?_
    rintro e u1 ⟨rfl, b1⟩
    have B2 := hide (bel_to B1.out (Nat.le_refl _) b1)
    have TI := hide (tell_iter none 0 0 [] u1 (sli_nil _) (by omega))
    clear b1 RI hW1
    go_wp2_with fail
    with_reducible refine TI.out.mono ?_
    intro e u3 h3
    have I3 := hide (h3.from' B2.out)
    clear h3 TI
    obtain ⟨F, rfl, -, -⟩ := I3.out
    go_wp2
    go_ret
    rw [← HE.out]
    exact I3.out
end Go.Proofs.YtpffhpnmbpjifaaGreat

namespace Go.Proofs.YtpffhpnmbpjifaaGreat
open Go.RowKit
set_option maxRecDepth 20000

/-- A slice and the list that it shows. -/
structure Sg where
  a : Option Addr
  n : Nat
  c : Nat
  l : List Int
def sg0 : Sg := ⟨none, 0, 0, []⟩
def Sg.val (s : Sg) : Value := .slice s.a s.n s.c
/-- It shows a list that is not empty. -/
def SgOk (w : World) (s : Sg) : Prop := SlI w s.a s.n s.c s.l ∧ s.l ≠ []
/-- The one at a place; its first number. -/
def sgA (d : List Sg) (i : Nat) : Sg := d.getD i sg0
def ky (d : List Sg) (i : Nat) : Int := (sgA d i).l.headD 0
theorem sgA_mem {d : List Sg} {i : Nat} (h : i < d.length) : sgA d i ∈ d := by
  unfold sgA
  rw [List.getD_eq_getElem?_getD, List.getElem?_eq_getElem h]
  exact List.getElem_mem h
theorem sgA_is {d : List Sg} {i : Nat} (h : i < d.length) : sgA d i = d[i] := by
  unfold sgA
  rw [List.getD_eq_getElem?_getD, List.getElem?_eq_getElem h]
  rfl
theorem sgA_set {d : List Sg} {i j : Nat} {s : Sg} (h : i < d.length) : sgA (d.set i s) j = if j = i then s else sgA d j := by
  unfold sgA
  rw [List.getD_eq_getElem?_getD, List.getElem?_set, List.getD_eq_getElem?_getD]
  by_cases e : i = j
  · subst e
    rw [if_pos rfl, if_pos rfl, if_pos h]
    rfl
  · rw [if_neg e, if_neg (fun q => e q.symm)]
def Kid (i c : Nat) : Prop := c = 2 * i + 1 ∨ c = 2 * i + 2
/-- A heap from place s on. -/
def HeapF (s : Nat) (d : List Sg) : Prop := ∀ i, s ≤ i → ∀ c, Kid i c → c < d.length → ky d i ≤ ky d c
/-- A heap from place s on but for the one at place p. -/
structure HeapB (s p : Nat) (d : List Sg) : Prop where
  other : ∀ i, s ≤ i → i ≠ p → ∀ c, Kid i c → c < d.length → ky d i ≤ ky d c
  over : ∀ i, s ≤ i → Kid i p → ∀ c, Kid p c → c < d.length → ky d i ≤ ky d c
def swpS (d : List Sg) (i j : Nat) : List Sg := (d.set i (sgA d j)).set j (sgA d i)
theorem swpS_perm {d : List Sg} {i j : Nat} (hi : i < d.length) (hj : j < d.length) : (swpS d i j).Perm d := by
  unfold swpS
  rw [sgA_is hi, sgA_is hj]
  exact List.set_set_perm hi hj
theorem len_swpS (d : List Sg) (i j : Nat) : (swpS d i j).length = d.length := by unfold swpS; simp
theorem ky_swp {d : List Sg} {i j : Nat} (hi : i < d.length) (hj : j < d.length) (k : Nat) : ky (swpS d i j) k = if k = j then ky d i else if k = i then ky d j else ky d k := by
  unfold ky swpS
  rw [sgA_set (by simpa using hj), sgA_set hi]
  split
  · rfl
  · split
    · rfl
    · rfl
theorem HeapB.stop1 {s p : Nat} {d : List Sg} (h : HeapB s p d) (hb : d.length ≤ 2 * p + 1) : HeapF s d := by
  intro i hi c hc hl
  by_cases e : i = p
  · subst e
    unfold Kid at hc
    omega
  · exact h.other i hi e c hc hl
theorem HeapB.stop {s p b : Nat} {d : List Sg} (h : HeapB s p d) (hm : ∀ c, Kid p c → c < d.length → ky d b ≤ ky d c) (hle : ky d p ≤ ky d b) : HeapF s d := by
  intro i hi c hc hl
  by_cases e : i = p
  · subst e
    have := hm c hc hl
    omega
  · exact h.other i hi e c hc hl
theorem HeapB.down {s p b : Nat} {d : List Sg} (h : HeapB s p d) (hs : s ≤ p) (hb : Kid p b) (hbl : b < d.length) (hm : ∀ c, Kid p c → c < d.length → ky d b ≤ ky d c) (hlt : ¬ ky d p ≤ ky d b) : HeapB s b (swpS d p b) := by
  have hpb : p < b := by unfold Kid at hb; omega
  have hp : p < d.length := by omega
  have K := ky_swp hp hbl
  refine ⟨fun i hi hne c hc hl => ?_, fun i hi hk c hc hl => ?_⟩
  · rw [len_swpS] at hl
    rw [K, K, if_neg hne]
    by_cases e : i = p
    · subst e
      rw [if_pos rfl]
      by_cases e2 : c = b
      · rw [if_pos e2]
        omega
      · rw [if_neg e2, if_neg (by unfold Kid at hc; omega)]
        exact hm c hc hl
    · rw [if_neg e, if_neg (by unfold Kid at hc hb; omega)]
      by_cases e3 : c = p
      · rw [if_pos e3]
        rw [e3] at hc
        exact h.over i hi hc b hb hbl
      · rw [if_neg e3]
        exact h.other i hi e c hc hl
  · rw [len_swpS] at hl
    have e : i = p := by unfold Kid at hk hb; omega
    subst e
    rw [K, K, if_neg (by omega), if_pos rfl, if_neg (by unfold Kid at hc; omega), if_neg (by unfold Kid at hc; omega)]
    exact h.other b (by omega) (by omega) c hc hl
theorem heap_least {d : List Sg} (h : HeapF 0 d) : ∀ i, i < d.length → ky d 0 ≤ ky d i := by
  intro i
  induction i using Nat.strongRecOn with
  | _ i ih =>
    intro hi
    by_cases e : i = 0
    · rw [e]
      exact Int.le_refl _
    · have h1 := ih ((i - 1) / 2) (by omega) (by omega)
      have h2 := h ((i - 1) / 2) (by omega) i (by unfold Kid; omega) hi
      omega
theorem heap_begin (d : List Sg) {s : Nat} (hs : d.length ≤ 2 * s + 1) : HeapF s d := by
  intro i hi c hc hl
  unfold Kid at hc
  omega
theorem heap_but {d : List Sg} {s : Nat} (h : HeapF (s + 1) d) : HeapB s s d :=
  ⟨fun i hi hne => h i (by omega), fun i hi hk => by unfold Kid at hk; omega⟩
/-- The first one exchanged. -/
theorem heap_first {d d' : List Sg} (h : HeapF 0 d) (hl : d'.length ≤ d.length) (he : ∀ i, 1 ≤ i → i < d'.length → sgA d' i = sgA d i) : HeapB 0 0 d' := by
  refine ⟨fun i _ hne c hc hcl => ?_, fun i _ hk => by unfold Kid at hk; omega⟩
  have h1 := h i (by omega) c hc (by omega)
  unfold Kid at hc
  unfold ky at h1 ⊢
  rwa [he i (by omega) (by omega), he c (by omega) (by omega)]

/-- In how many of them. -/
def cntS (d : List Sg) (x : Int) : Nat := cntI (d.map (·.l)) x
theorem cntS_perm {d d' : List Sg} (h : d'.Perm d) (x : Int) : cntS d' x = cntS d x := by
  unfold cntS cntI
  exact (h.map _).countP_eq _
theorem cntS_zero {d : List Sg} {x : Int} : cntS d x = 0 ↔ ∀ s ∈ d, x ∉ s.l := by
  unfold cntS cntI
  rw [List.countP_eq_zero]
  simp
theorem cntS_cons (s : Sg) (d : List Sg) (x : Int) : cntS (s :: d) x = cntS d x + if x ∈ s.l then 1 else 0 := by
  unfold cntS
  rw [List.map_cons, cntI_cons]
theorem cntS_le (d : List Sg) (x : Int) : cntS d x ≤ d.length := by
  have := cntI_le (d.map (·.l)) x
  unfold cntS
  simpa using this
/-- All their numbers. -/
def totS (d : List Sg) : Nat := (d.map (·.l.length)).sum
theorem totS_perm {d d' : List Sg} (h : d'.Perm d) : totS d' = totS d := (h.map _).sum_nat
/-- One number passed: of the first one. -/
def Passed (w : World) (d d' : List Sg) : Prop := ∃ (s0 s1 : Sg) (rest : List Sg) (v : Int) (t : List Int), d = s0 :: rest ∧ s0.l = v :: t ∧ s1.l = t ∧ (t ≠ [] → SgOk w s1) ∧ d'.Perm (if t = [] then rest else s1 :: rest)
theorem Passed.tot {w : World} {d d' : List Sg} (h : Passed w d d') : totS d' < totS d := by
  obtain ⟨s0, s1, rest, v, t, rfl, h1, h2, -, h3⟩ := h
  rw [totS_perm h3]
  unfold totS
  split
  · rw [List.map_cons, List.sum_cons, h1, List.length_cons]
    omega
  · rw [List.map_cons, List.sum_cons, List.map_cons, List.sum_cons, h1, h2, List.length_cons]
    omega
theorem Passed.cnt {w : World} {d d' : List Sg} (h : Passed w d d') (hu : ∀ s ∈ d, upI s.l) (x : Int) : cntS d x = cntS d' x + if x = ky d 0 then 1 else 0 := by
  obtain ⟨s0, s1, rest, v, t, rfl, h1, h2, -, h3⟩ := h
  have hk : ky (s0 :: rest) 0 = v := by show s0.l.headD 0 = v; rw [h1]; rfl
  have hut : upI (v :: t) := h1 ▸ hu s0 (by simp)
  rw [hk, cntS_perm h3, cntS_cons, h1]
  have e : (if x ∈ v :: t then 1 else 0) = (if x ∈ t then 1 else 0) + if x = v then 1 else 0 := by
    by_cases hx : x = v
    · subst hx
      have hn : x ∉ t := fun q => by have := upI_head hut x q; omega
      simp [hn]
    · by_cases ht : x ∈ t <;> simp [hx, ht]
  rw [e]
  by_cases ht : t = []
  · rw [if_pos ht, ht]
    simp
  · rw [if_neg ht, cntS_cons, h2]
    omega
theorem Passed.ok {w : World} {d d' : List Sg} (h : Passed w d d') (hu : ∀ s ∈ d, SgOk w s) : ∀ s ∈ d', SgOk w s := by
  obtain ⟨s0, s1, rest, v, t, rfl, h1, h2, h4, h3⟩ := h
  intro s hs
  rw [h3.mem_iff] at hs
  split at hs
  · exact hu s (by simp [hs])
  · rename_i ht
    rcases List.mem_cons.1 hs with e | e
    · rw [e]
      exact h4 ht
    · exact hu s (by simp [e])
theorem Passed.sub {w : World} {d d' : List Sg} (h : Passed w d d') : ∀ s ∈ d', ∃ s' ∈ d, (∀ y ∈ s.l, y ∈ s'.l) ∧ (upI s'.l → upI s.l) := by
  obtain ⟨s0, s1, rest, v, t, rfl, h1, h2, h4, h3⟩ := h
  intro s hs
  rw [h3.mem_iff] at hs
  split at hs
  · exact ⟨s, by simp [hs], fun y hy => hy, id⟩
  · rcases List.mem_cons.1 hs with e | e
    · refine ⟨s0, by simp, fun y hy => ?_, fun q => ?_⟩
      · rw [e, h2] at hy
        rw [h1]
        exact List.mem_cons_of_mem _ hy
      · rw [e, h2]
        rw [h1] at q
        exact upI_tail q
    · exact ⟨s, by simp [e], fun y hy => hy, id⟩

/-- On the way of Most, ahead of a number. -/
structure MoI (ls : List (List Int)) (k : Int) (d : List Sg) (out : List Int) : Prop where
  up : ∀ s ∈ d, upI s.l ∧ s.l ≠ []
  uo : upI out
  lo : ∀ x ∈ out, ∀ s ∈ d, ∀ y ∈ s.l, x < y
  gone : ∀ x, cntS d x = 0 → (x ∈ out ↔ k ≤ (cntI ls x : Int))
  here : ∀ x, cntS d x ≠ 0 → cntS d x = cntI ls x
/-- While a number v is passed: n - 1 times so far. -/
structure MoJ (ls : List (List Int)) (k : Int) (v : Int) (n : Nat) (d : List Sg) (out : List Int) : Prop where
  up : ∀ s ∈ d, upI s.l ∧ s.l ≠ []
  min : ∀ s ∈ d, ∀ y ∈ s.l, v ≤ y
  uo : upI out
  lo : ∀ x ∈ out, x ≤ v
  vin : v ∈ out ↔ k < (n : Int)
  cnt : cntS d v + n = cntI ls v + 1
  gone : ∀ x, x ≠ v → cntS d x = 0 → (x ∈ out ↔ k ≤ (cntI ls x : Int))
  here : ∀ x, x ≠ v → cntS d x ≠ 0 → cntS d x = cntI ls x
theorem head_of {l : List Int} (h : l ≠ []) : ∃ p t, l = p :: t := by
  cases l with
  | nil => exact absurd rfl h
  | cons p t => exact ⟨p, t, rfl⟩
theorem ky_min {d : List Sg} (h : HeapF 0 d) (hu : ∀ s ∈ d, upI s.l ∧ s.l ≠ []) : ∀ s ∈ d, ∀ y ∈ s.l, ky d 0 ≤ y := by
  intro s hs y hy
  obtain ⟨i, hi, e⟩ := List.mem_iff_getElem.1 hs
  have h1 := heap_least h i hi
  obtain ⟨p, t, e2⟩ := head_of (hu s hs).2
  have h2 : ky d i = p := by
    unfold ky
    rw [sgA_is hi, e, e2]
    rfl
  have hup := (hu s hs).1
  rw [e2] at hy hup
  rcases List.mem_cons.1 hy with e3 | e3
  · omega
  · have := upI_head hup y e3
    omega
theorem ky_mem {d : List Sg} (hd : 0 < d.length) (hu : ∀ s ∈ d, upI s.l ∧ s.l ≠ []) : ky d 0 ∈ (sgA d 0).l := by
  obtain ⟨p, t, e⟩ := head_of (hu _ (sgA_mem hd)).2
  unfold ky
  rw [e]
  simp
theorem MoI.begin {ls : List (List Int)} {k : Int} {d : List Sg} {out : List Int} (h : MoI ls k d out) (hk : 1 ≤ k) (hh : HeapF 0 d) (hd : 0 < d.length) : MoJ ls k (ky d 0) 1 d out := by
  have hm := ky_mem hd h.up
  have hlo : ∀ x ∈ out, x < ky d 0 := fun x hx => h.lo x hx _ (sgA_mem hd) _ hm
  have hc : cntS d (ky d 0) ≠ 0 := fun e => (cntS_zero.1 e) _ (sgA_mem hd) hm
  refine ⟨h.up, ky_min hh h.up, h.uo, fun x hx => by have := hlo x hx; omega, ?_, ?_, fun x _ => h.gone x, fun x _ => h.here x⟩
  · constructor
    · intro q
      have := hlo _ q
      omega
    · intro q
      omega
  · rw [h.here _ hc]
theorem MoJ.step {ls : List (List Int)} {k v : Int} {n : Nat} {d d' : List Sg} {out : List Int} {w : World} (h : MoJ ls k v n d out) (hp : Passed w d d') (hv : ky d 0 = v) : MoJ ls k v (n + 1) d' (if (n : Int) = k then out ++ [v] else out) := by
  have hc := hp.cnt (fun s hs => (h.up s hs).1)
  rw [hv] at hc
  have hne : ∀ s ∈ d', s.l ≠ [] := by
    obtain ⟨s0, s1, rest, v', t, rfl, h1, h2, h4, h3⟩ := hp
    intro s hs
    rw [h3.mem_iff] at hs
    split at hs
    · exact (h.up s (by simp [hs])).2
    · rename_i ht
      rcases List.mem_cons.1 hs with e | e
      · rw [e, h2]
        exact ht
      · exact (h.up s (by simp [e])).2
  refine ⟨fun s hs => ?_, fun s hs y hy => ?_, ?_, ?_, ?_, ?_, fun x hx h0 => ?_, fun x hx h0 => ?_⟩
  · obtain ⟨s', q1, q2, q3⟩ := hp.sub s hs
    exact ⟨q3 (h.up s' q1).1, hne s hs⟩
  · obtain ⟨s', q1, q2, q3⟩ := hp.sub s hs
    exact h.min s' q1 y (q2 y hy)
  · split
    · rename_i e
      refine upI_snoc.2 ⟨h.uo, fun y hy => ?_⟩
      have h1 := h.lo y hy
      have h2 : y ≠ v := fun q => by
        rw [q] at hy
        have := h.vin.1 hy
        omega
      omega
    · exact h.uo
  · intro x hx
    split at hx
    · rcases List.mem_append.1 hx with e | e
      · exact h.lo x e
      · rw [List.mem_singleton] at e
        omega
    · exact h.lo x hx
  · have h1 := h.vin
    split
    · constructor
      · intro _
        omega
      · intro _
        simp
    · rw [h1]
      omega
  · have h1 := hc v
    have h2 := h.cnt
    rw [if_pos rfl] at h1
    omega
  · have h1 := hc x
    rw [if_neg hx, Nat.add_zero] at h1
    rw [← h.gone x hx (by omega)]
    split
    · rw [List.mem_append, List.mem_singleton]
      exact ⟨fun q => q.elim id (fun e => absurd e hx), Or.inl⟩
    · exact Iff.rfl
  · have h1 := hc x
    rw [if_neg hx, Nat.add_zero] at h1
    rw [← h1]
    exact h.here x hx (by omega)
theorem MoJ.done {ls : List (List Int)} {k v : Int} {n : Nat} {d : List Sg} {out : List Int} (h : MoJ ls k v (n + 1) d out) (hh : HeapF 0 d) (he : d.length = 0 ∨ ky d 0 ≠ v) : MoI ls k d out := by
  have hlt : ∀ s ∈ d, ∀ y ∈ s.l, v < y := by
    intro s hs y hy
    rcases he with e | e
    · rw [List.length_eq_zero_iff.1 e] at hs
      cases hs
    · have hd : 0 < d.length := by
        obtain ⟨i, hi, -⟩ := List.mem_iff_getElem.1 hs
        omega
      have h1 := h.min _ (sgA_mem hd) _ (ky_mem hd h.up)
      have h2 := ky_min hh h.up s hs y hy
      omega
  have hz : cntS d v = 0 := cntS_zero.2 (fun s hs q => by have := hlt s hs v q; omega)
  have hc := h.cnt
  refine ⟨h.up, h.uo, fun x hx s hs y hy => ?_, fun x h0 => ?_, fun x h0 => ?_⟩
  · have h1 := h.lo x hx
    have h2 := hlt s hs y hy
    omega
  · by_cases e : x = v
    · subst e
      rw [h.vin]
      omega
    · exact h.gone x e h0
  · by_cases e : x = v
    · subst e
      exact absurd hz h0
    · exact h.here x e h0
theorem MoI.end' {ls : List (List Int)} {k : Int} {d : List Sg} {out : List Int} (h : MoI ls k d out) (hk : 1 ≤ k) (hu : ∀ l ∈ ls, upI l) (hd : d.length = 0) : out = mostS ls k := by
  refine upI_ext h.uo (upI_most _ _) (fun x => ?_)
  have h0 : cntS d x = 0 := by
    rw [List.length_eq_zero_iff.1 hd]
    rfl
  rw [h.gone x h0, mem_most]
  exact ⟨fun q => ⟨hk, hu, q⟩, fun q => q.2.2⟩
theorem moI_start {ls : List (List Int)} {k : Int} {d : List Sg} (hk : 1 ≤ k) (hu : ∀ l ∈ ls, upI l) (hd : (d.map (·.l)).Perm (ls.filter (fun l => !l.isEmpty))) : MoI ls k d [] := by
  have hc : ∀ x, cntS d x = cntI ls x := by
    intro x
    unfold cntS cntI
    rw [hd.countP_eq, List.countP_filter]
    refine List.countP_congr (fun l _ => ?_)
    cases l with
    | nil => simp
    | cons p t => simp
  have hm : ∀ s ∈ d, s.l ∈ ls ∧ s.l ≠ [] := by
    intro s hs
    have h1 : s.l ∈ d.map (·.l) := List.mem_map.2 ⟨s, hs, rfl⟩
    rw [hd.mem_iff, List.mem_filter] at h1
    refine ⟨h1.1, fun e => ?_⟩
    rw [e] at h1
    simp at h1
  refine ⟨fun s hs => ⟨hu _ (hm s hs).1, (hm s hs).2⟩, upI_nil, fun x hx => (by cases hx), fun x h0 => ?_, fun x _ => hc x⟩
  rw [hc x] at h0
  rw [h0]
  constructor
  · intro q
    cases q
  · intro q
    omega
/-- How many there can be. -/
theorem MoJ.few {ls : List (List Int)} {k v : Int} {n : Nat} {d : List Sg} {out : List Int} (h : MoJ ls k v n d out) : n ≤ ls.length + 1 := by
  have h1 := h.cnt
  have h2 := cntI_le ls v
  omega

/-- Block g holds c cells of slices, of which the first show these. -/
structure SRw (w : World) (g c : Nat) (d : List Sg) : Prop where
  fits : d.length ≤ c
  heap : ∃ cur, w.heap[g]? = some (.cells cur 33 (0, 0)) ∧ cur.size = c ∧ ∀ i, i < d.length → cur[i]? = some (sgA d i).val
section
variable {w w' : World} {g c : Nat} {d : List Sg}
theorem SRw.lt (h : SRw w g c d) : g < w.heap.size := by
  obtain ⟨cur, h1, _⟩ := h.heap
  exact (Array.getElem?_eq_some_iff.1 h1).1
theorem SRw.cell (h : SRw w g c d) {i : Nat} (hi : i < d.length) : w.cell? ⟨g, i, none⟩ = some (.slice (sgA d i).a (sgA d i).n (sgA d i).c) := by
  obtain ⟨cur, h1, _, h3⟩ := h.heap
  rw [cell_of_row w g i _ _ (0, 0) h1]
  exact h3 i hi
theorem SRw.frozen (h : SRw w g c d) (i : Nat) : w.frozen? ⟨g, i, none⟩ = false := by
  obtain ⟨cur, h1, _⟩ := h.heap
  exact frozen_of_row w g i _ _ h1
theorem SRw.block (h : SRw w g c d) (e : w'.heap[g]? = w.heap[g]?) : SRw w' g c d := by
  obtain ⟨cur, h1, h2⟩ := h.heap
  exact ⟨h.fits, cur, e.trans h1, h2⟩
theorem SRw.drew (h : SRw w g c d) : SRw w.drew g c d := h.block rfl
theorem SRw.drewN (h : SRw w g c d) (q : Nat) : SRw (w.drewN q) g c d := h.block rfl
theorem SRw.ch {S : Nat → Prop} (h : SRw w g c d) (k : Ch S w w') (hn : ¬ S g) : SRw w' g c d := h.block (k.block g h.lt hn)
theorem SRw.below (h : SRw w g c d) (k : Below w.heap.size w w') : SRw w' g c d := h.block (k.block g h.lt)
theorem SRw.set (h : SRw w g c d) {i : Nat} (hi : i < d.length) (s : Sg) : SRw (w.setCell ⟨g, i, none⟩ s.val) g c (d.set i s) := by
  obtain ⟨cur, h1, h2, h3⟩ := h.heap
  refine ⟨by simpa using h.fits, cur.setIfInBounds i s.val, heap_setCell_same w g i _ _ _ h1, by simpa using h2, fun k hk => ?_⟩
  have hk' : k < d.length := by simpa using hk
  rw [sgA_set hi]
  by_cases e : i = k
  · subst e
    have hic : i < cur.size := by have := h.fits; omega
    rw [Array.getElem?_setIfInBounds, if_pos rfl, if_pos hic, if_pos rfl]
  · rw [Array.getElem?_setIfInBounds, if_neg e, h3 k hk', if_neg (fun q => e q.symm)]
theorem SRw.swap (h : SRw w g c d) {i j : Nat} (hi : i < d.length) (hj : j < d.length) :
    SRw ((w.setCell ⟨g, i, none⟩ (sgA d j).val).setCell ⟨g, j, none⟩ (sgA d i).val) g c (swpS d i j) := by
  unfold swpS
  exact (h.set hi _).set (by simpa using hj) _
theorem SRw.take (h : SRw w g c d) (k : Nat) : SRw w g c (d.take k) := by
  obtain ⟨cur, h1, h2, h3⟩ := h.heap
  refine ⟨by rw [List.length_take]; have := h.fits; omega, cur, h1, h2, fun i hi => ?_⟩
  rw [List.length_take] at hi
  rw [h3 i (by omega)]
  unfold sgA
  rw [List.getD_eq_getElem?_getD, List.getD_eq_getElem?_getD, List.getElem?_take, if_pos (by omega)]
theorem SRw.cellsT (h : SRw w g c d) : CellsT w g 33 := by
  obtain ⟨cur, h1, _⟩ := h.heap
  exact ⟨cur, _, h1⟩
theorem ch_swapG (h : Ch (fun k => k = g) w w') (i j : Nat) (u v : Value) : Ch (fun k => k = g) w ((w'.setCell ⟨g, i, none⟩ u).setCell ⟨g, j, none⟩ v) := h.trans ((ch_set w' g i u).trans (ch_set _ g j v))
theorem ch_drewG {S : Nat → Prop} {a b : World} (h : Ch S a b) : Ch S a b.drew := ⟨h.os, h.tape, h.output, h.size, h.block⟩
/-- The lists' own row as such a block. -/
theorem own_srw {base n cap : Nat} {a : Option Addr} (h : w.ownsRow base 33 1 (.slice a n cap) n (d.map Sg.val)) :
    (a = none ∧ n = 0 ∧ cap = 0 ∧ d = []) ∨ ∃ g, a = some ⟨g, 0, none⟩ ∧ base ≤ g ∧ SRw w g cap d := by
  have hl : d.length = n := by simpa using h.1
  rcases h.2 with ⟨h1, h2⟩ | ⟨g, c, cur, h1, hb, hg, h4, h5, h6, h7⟩
  · simp only [Value.slice.injEq] at h1
    exact Or.inl ⟨h1.1, h2, h1.2.2, List.length_eq_zero_iff.1 (by omega)⟩
  · simp only [Value.slice.injEq, true_and] at h1
    obtain ⟨rfl, rfl⟩ := h1
    refine Or.inr ⟨g, rfl, hb, ⟨by omega, cur, hg, by omega, fun i hi => ?_⟩⟩
    have e : (cur.toList.take (n * 1))[i]? = (d.map Sg.val)[i]? := by rw [h7]
    rw [List.getElem?_take, if_pos (by omega), List.getElem?_map, List.getElem?_eq_getElem hi, Array.getElem?_toList] at e
    rw [e, sgA_is hi]
    rfl
end
end Go.Proofs.YtpffhpnmbpjifaaGreat

namespace Go.Proofs.YtpffhpnmbpjifaaGreat
open Go.RowKit
set_option maxRecDepth 20000

/-- The first number of the one at a place, in memory. -/
theorem first_at {w0 w : World} {d : List Sg} (hok : ∀ x ∈ d, SgOk w0 x) (hb : Below w0.heap.size w0 w) {i : Nat} (hi : i < d.length) :
    ∃ b off k, (sgA d i).a = some ⟨b, off, none⟩ ∧ (sgA d i).n = k + 1 ∧ w.cell? ⟨b, off, none⟩ = some (.int .i64 (ky d i)) := by
  obtain ⟨h1, h2⟩ := hok _ (sgA_mem hi)
  obtain ⟨p, t, e⟩ := head_of h2
  have hl := h1.len
  rw [e, List.length_cons] at hl
  rw [e, ← hl] at h1
  obtain ⟨b, off, q1, q2⟩ := (h1.below hb (Nat.le_refl _)).first
  refine ⟨b, off, t.length, q1, hl.symm, ?_⟩
  unfold ky
  rw [e]
  exact q2
theorem at_cells {w0 w : World} {g c : Nat} {d : List Sg} (hR : SRw w g c d) (hok : ∀ x ∈ d, SgOk w0 x) (hb : Below w0.heap.size w0 w) {i : Nat} (hi : i < d.length) :
    ∃ b off k cc, w.cell? ⟨g, i, none⟩ = some (.slice (some ⟨b, off, none⟩) (k + 1) cc) ∧ w.cell? ⟨b, off, none⟩ = some (.int .i64 (ky d i)) ∧ (sgA d i).val = .slice (some ⟨b, off, none⟩) (k + 1) cc := by
  obtain ⟨b, off, k, h1, h2, h3⟩ := first_at hok hb hi
  have h4 := hR.cell hi
  refine ⟨b, off, k, (sgA d i).c, ?_, h3, ?_⟩
  · rw [h4, h1, h2]
  · unfold Sg.val
    rw [h1, h2]

set_option maxHeartbeats 16000000 in
theorem sink_any (w0 : World) (g c : Nat) (d : List Sg) (n p s : Nat) (w : World) (hn : d.length = n) (hn10 : n ≤ 5000) (hR : SRw w g c d) (hok : ∀ x ∈ d, SgOk w0 x) (hb : Below w0.heap.size w0 w) (hg : w0.heap.size ≤ g) (hs : s ≤ p) (hp : p ≤ 5000) (hH : HeapB s p d) :
    Calls Tryz.prog 89 #[.slice (some ⟨g, 0, none⟩) n c, .int .i64 p] w fun e w' => e = .returned (.tuple #[]) ∧ ∃ d', d'.Perm d ∧ HeapF s d' ∧ SRw w' g c d' ∧ Ch (fun k => k = g) w w' := by
  have HR := hide hR
  have HOK := hide hok
  have HB := hide hb
  have HG := hide hg
  have HS := hide hs
  have HH := hide hH
  have HN := hide hn
  have PD : Hid (d.Perm d) := List.Perm.refl _
  clear hR hok hb hg hs hH hn
  go_enter Tryz.func89, Tryz.ntmps89
  go_wp2
  go_loopw [1] (fun i wr => ∃ (q : Nat) (e : List Sg), i = .int .i64 q ∧ q ≤ 5000 ∧ Hid (s ≤ q) ∧ Hid (e.Perm d) ∧ Hid (HeapB s q e) ∧ Hid (SRw wr g c e) ∧ Hid (Ch (fun k => k = g) w wr)) (fun i _ => 10000 - (intOf i).toNat)
  case atStart => exact ⟨p, d, rfl, hp, HS, PD, HH, HR, Ch.refl _ _⟩
  case round =>
    clear HS HH HR PD
    obtain ⟨q, e, rfl, hq, HS, PE, HH, HR, HC⟩ := hrel
    have HL : Hid (e.length = n) := PE.out.length_eq.trans HN.out
    have HBW : Hid (Below w0.heap.size w0 wr) := HB.out.trans (HC.out.below HB.out.size (fun k hk h => by have := HG.out; omega))
    have HOE : Hid (∀ x ∈ e, SgOk w0 x) := fun x hx => HOK.out x (PE.out.mem_iff.1 hx)
    obtain ⟨B, hB⟩ : ∃ B : Nat, Hid (B = 2 * q + 1) := ⟨_, rfl⟩
    have hB21 : B ≤ 10001 := by have := hB.out; omega
    have hwB : IntKind.i64.wrap ((B : Int) + 1) = (B : Int) + 1 := by rw [IntKind.wrap_i64]; omega
    go_upto_region 1 with fail
    rw [show (2 * (q : Int) + 1) = (B : Int) by rw [hB.out]; rfl]
    by_cases h1 : n ≤ B
    · have HF := hide (HH.out.stop1 (by rw [HL.out]; have := hB.out; omega))
      have i1 : ¬ ((B : Int) + 1 < (n : Int)) := by omega
      have i2 : (n : Int) ≤ (B : Int) := by omega
      have j1 : decide ((B : Int) + 1 < (n : Int)) = false := decide_eq_false i1
      have j2 : decide ((n : Int) ≤ (B : Int)) = true := decide_eq_true i2
      have j3 : decide (n ≤ B) = true := decide_eq_true h1
      have j4 : decide (B + 1 < n) = false := decide_eq_false (by omega)
      have j5 : ¬ B + 1 < n := by omega
      go_quiet (fail)
      go_upto_region 3 with fail
      refine wp_world (fun W => SRw W g c e ∧ Ch (fun k => k = g) w W) ⟨HR.out.drewN _, ch_drewS HC.out _⟩ ?_
      rintro u ⟨r3, k3⟩
      have R3 := hide r3
      have K3 := hide k3
      clear r3 k3
      go_quiet (fail)
      go_wp2
      refine bodyPost_ret (results_none rfl _ _ _) rfl ?_
      exact ⟨rfl, e, PE.out, HF.out, R3.out.drewN _, ch_drewS K3.out _⟩
    have hqn : q < n := by have := hB.out; omega
    have q1 : (0 : Int) ≤ (q : Int) := by omega
    have q2 : (q : Int) < (n : Int) := by omega
    have b1 : (0 : Int) ≤ (B : Int) := by omega
    have b2 : (B : Int) < (n : Int) := by omega
    obtain ⟨bq, oq, kq, cq, gq, yq, zq⟩ := at_cells HR.out HOE.out HBW.out (i := q) (by rw [HL.out]; omega)
    have vq := hide zq
    clear zq
    have pq : (0 : Int) < ((kq + 1 : Nat) : Int) := by omega
    have pq' : (0 : Int) < (kq : Int) + 1 := by omega
    obtain ⟨bB, oB, kB, cB, gB, yB, zB⟩ := at_cells HR.out HOE.out HBW.out (i := B) (by rw [HL.out]; omega)
    have vB := hide zB
    clear zB
    have pB : (0 : Int) < ((kB + 1 : Nat) : Int) := by omega
    have pB' : (0 : Int) < (kB : Int) + 1 := by omega
    by_cases h2 : n ≤ B + 1
    · have i1 : ¬ ((B : Int) + 1 < (n : Int)) := by omega
      have j1 : decide ((B : Int) + 1 < (n : Int)) = false := decide_eq_false i1
      have HMN : Hid (∀ x, Kid q x → x < e.length → ky e B ≤ ky e x) := fun x hx hl => by
        unfold Kid at hx
        have e1 := hB.out
        rw [HL.out] at hl
        have : x = B := by omega
        rw [this]
        exact Int.le_refl _
      have j4 : decide (B + 1 < n) = false := decide_eq_false (by omega)
      go_quiet (fail)
      go_upto_region 3 with fail
      have HKM : Hid (Kid q B) := by show Kid _ _; unfold Kid; have := hB.out; omega
      have hMq : q < B := by have := hB.out; omega
      have m1 : (0 : Int) ≤ (B : Int) := by omega
      have m2 : (B : Int) < (n : Int) := by omega
      have m3 : ¬ (n : Int) ≤ (B : Int) := by omega
      have m4 : decide ((n : Int) ≤ (B : Int)) = false := decide_eq_false m3
      have m5 : decide (n ≤ B) = false := decide_eq_false (by omega)
      have m6 : ¬ n ≤ B := by omega
      have STOP : Hid (ky e q ≤ ky e B → HeapF s e) := fun h => HH.out.stop HMN.out h
      have DOWN : Hid (¬ ky e q ≤ ky e B → HeapB s B (swpS e q B)) := fun h => HH.out.down HS.out HKM.out (by rw [HL.out]; omega) HMN.out h
      have PSW : Hid ((swpS e q B).Perm d) := (swpS_perm (by rw [HL.out]; omega) (by rw [HL.out]; omega)).trans PE.out
      have HSW : Hid (∀ W, SRw W g c e → SRw ((W.setCell ⟨g, q, none⟩ (.slice (some ⟨bB, oB, none⟩) (kB + 1) cB)).setCell ⟨g, B, none⟩ (.slice (some ⟨bq, oq, none⟩) (kq + 1) cq)) g c (swpS e q B)) := fun W hW => by
        rw [← vB.out, ← vq.out]
        exact hW.swap (by rw [HL.out]; omega) (by rw [HL.out]; omega)
      refine wp_world (fun W => SRw W g c e ∧ Ch (fun k => k = g) w W ∧ (W.cell? ⟨g, q, none⟩ = some (.slice (some ⟨bq, oq, none⟩) (kq + 1) cq) ∧ W.cell? ⟨g, B, none⟩ = some (.slice (some ⟨bB, oB, none⟩) (kB + 1) cB)) ∧ W.cell? ⟨bq, oq, none⟩ = some (.int .i64 (ky e q)) ∧ W.cell? ⟨bB, oB, none⟩ = some (.int .i64 (ky e B))) ⟨HR.out.drewN _, ch_drewS HC.out _, ⟨gq, gB⟩, yq, yB⟩ ?_
      rintro u ⟨r3, k3, ⟨hq3, hM3'⟩, zq3, zM3⟩
      have R3 := hide r3
      have K3 := hide k3
      clear r3 k3 gq gB yq yB HR HC
      generalize ky e q = aq at *
      generalize ky e B = am at *
      by_cases hle : aq ≤ am
      · have HF := hide (STOP.out hle)
        have t1 : decide (aq ≤ am) = true := decide_eq_true hle
        clear STOP DOWN
        go_quiet (fail)
        go_wp2
        refine bodyPost_ret (results_none rfl _ _ _) rfl ?_
        exact ⟨rfl, e, PE.out, HF.out, R3.out.drewN _, ch_drewS K3.out _⟩
      · have HD := hide (DOWN.out hle)
        have t1 : decide (aq ≤ am) = false := decide_eq_false hle
        clear STOP DOWN
        go_quiet (fail)
        go_upto_region 4 with fail
        refine wp_world (fun W => SRw W g c e ∧ Ch (fun k => k = g) w W ∧ W.cell? ⟨g, q, none⟩ = some (.slice (some ⟨bq, oq, none⟩) (kq + 1) cq) ∧ W.cell? ⟨g, B, none⟩ = some (.slice (some ⟨bB, oB, none⟩) (kB + 1) cB)) ⟨R3.out.drewN _, ch_drewS K3.out _, hq3, hM3'⟩ ?_
        rintro u4 ⟨r4, k4, gq4, gM4⟩
        have fq4 := r4.frozen q
        have fM4 := r4.frozen B
        obtain ⟨xv, hxv⟩ : ∃ v, (u4.setCell ⟨g, q, none⟩ (.slice (some ⟨bB, oB, none⟩) (kB + 1) cB)).cell? ⟨g, B, none⟩ = some v := cell?_setCell_some gM4
        have R4 := hide r4
        have K4 := hide k4
        clear r4 k4 hq3 hM3'
        go_region
        go_wp2
        go_roundw
        case rel => exact ⟨B, swpS e q B, rfl, by omega, hide (by have := HS.out; show _ ≤ _; omega), PSW, HD, HSW.out _ R4.out.drew, ch_swapG (ch_drewG K4.out) _ _ _ _⟩
        case measure => simp [intOf]; omega
    · have i1 : (B : Int) + 1 < (n : Int) := by omega
      have i0 : (0 : Int) ≤ (B : Int) + 1 := by omega
      have j0 : ((B : Int) + 1).toNat = B + 1 := by omega
      have j1 : decide ((B : Int) + 1 < (n : Int)) = true := decide_eq_true i1
      obtain ⟨bC, oC, kC, cC, gC, yC, zC⟩ := at_cells HR.out HOE.out HBW.out (i := B + 1) (by rw [HL.out]; omega)
      have vC := hide zC
      clear zC
      have pC : (0 : Int) < ((kC + 1 : Nat) : Int) := by omega
      have pC' : (0 : Int) < (kC : Int) + 1 := by omega
      by_cases hc : ky e (B + 1) < ky e B
      · have tc : decide (ky e (B + 1) < ky e B) = true := decide_eq_true hc
        have HMN : Hid (∀ x, Kid q x → x < e.length → ky e (B + 1) ≤ ky e x) := fun x hx hl => by
          unfold Kid at hx
          have e1 := hB.out
          rcases hx with hx | hx
          · have : x = B := by omega
            rw [this]
            omega
          · have : x = B + 1 := by omega
            rw [this]
            exact Int.le_refl _
        have j4 : B + 1 < n := by omega
        go_quiet (fail)
        go_upto_region 3 with fail
        clear hc tc yB gB
        obtain ⟨M, hM⟩ : ∃ M : Nat, Hid (B + 1 = M) := ⟨_, rfl⟩
        rw [hM.out] at HMN gC yC vC
        rw [show ((B : Int) + 1) = (M : Int) by rw [← hM.out]; rfl]
        have hM1 : M < n := by have := hM.out; omega
        have hM2 : M = 2 * q + 2 := by have := hM.out; have := hB.out; omega
        have hM3 := hide hM2
        clear hM2
        have HKM : Hid (Kid q M) := by show Kid _ _; unfold Kid; have := hM3.out; omega
        have hMq : q < M := by have := hM3.out; omega
        have m1 : (0 : Int) ≤ (M : Int) := by omega
        have m2 : (M : Int) < (n : Int) := by omega
        have m3 : ¬ (n : Int) ≤ (M : Int) := by omega
        have m4 : decide ((n : Int) ≤ (M : Int)) = false := decide_eq_false m3
        have m5 : decide (n ≤ M) = false := decide_eq_false (by omega)
        have m6 : ¬ n ≤ M := by omega
        have STOP : Hid (ky e q ≤ ky e M → HeapF s e) := fun h => HH.out.stop HMN.out h
        have DOWN : Hid (¬ ky e q ≤ ky e M → HeapB s M (swpS e q M)) := fun h => HH.out.down HS.out HKM.out (by rw [HL.out]; omega) HMN.out h
        have PSW : Hid ((swpS e q M).Perm d) := (swpS_perm (by rw [HL.out]; omega) (by rw [HL.out]; omega)).trans PE.out
        have HSW : Hid (∀ W, SRw W g c e → SRw ((W.setCell ⟨g, q, none⟩ (.slice (some ⟨bC, oC, none⟩) (kC + 1) cC)).setCell ⟨g, M, none⟩ (.slice (some ⟨bq, oq, none⟩) (kq + 1) cq)) g c (swpS e q M)) := fun W hW => by
          rw [← vC.out, ← vq.out]
          exact hW.swap (by rw [HL.out]; omega) (by rw [HL.out]; omega)
        refine wp_world (fun W => SRw W g c e ∧ Ch (fun k => k = g) w W ∧ (W.cell? ⟨g, q, none⟩ = some (.slice (some ⟨bq, oq, none⟩) (kq + 1) cq) ∧ W.cell? ⟨g, M, none⟩ = some (.slice (some ⟨bC, oC, none⟩) (kC + 1) cC)) ∧ W.cell? ⟨bq, oq, none⟩ = some (.int .i64 (ky e q)) ∧ W.cell? ⟨bC, oC, none⟩ = some (.int .i64 (ky e M))) ⟨HR.out.drewN _, ch_drewS HC.out _, ⟨gq, gC⟩, yq, yC⟩ ?_
        rintro u ⟨r3, k3, ⟨hq3, hM3'⟩, zq3, zM3⟩
        have R3 := hide r3
        have K3 := hide k3
        clear r3 k3 gq gC yq yC HR HC
        generalize ky e q = aq at *
        generalize ky e M = am at *
        by_cases hle : aq ≤ am
        · have HF := hide (STOP.out hle)
          have t1 : decide (aq ≤ am) = true := decide_eq_true hle
          clear STOP DOWN
          go_quiet (fail)
          go_wp2
          refine bodyPost_ret (results_none rfl _ _ _) rfl ?_
          exact ⟨rfl, e, PE.out, HF.out, R3.out.drewN _, ch_drewS K3.out _⟩
        · have HD := hide (DOWN.out hle)
          have t1 : decide (aq ≤ am) = false := decide_eq_false hle
          clear STOP DOWN
          go_quiet (fail)
          go_upto_region 4 with fail
          refine wp_world (fun W => SRw W g c e ∧ Ch (fun k => k = g) w W ∧ W.cell? ⟨g, q, none⟩ = some (.slice (some ⟨bq, oq, none⟩) (kq + 1) cq) ∧ W.cell? ⟨g, M, none⟩ = some (.slice (some ⟨bC, oC, none⟩) (kC + 1) cC)) ⟨R3.out.drewN _, ch_drewS K3.out _, hq3, hM3'⟩ ?_
          rintro u4 ⟨r4, k4, gq4, gM4⟩
          have fq4 := r4.frozen q
          have fM4 := r4.frozen M
          obtain ⟨xv, hxv⟩ : ∃ v, (u4.setCell ⟨g, q, none⟩ (.slice (some ⟨bC, oC, none⟩) (kC + 1) cC)).cell? ⟨g, M, none⟩ = some v := cell?_setCell_some gM4
          have R4 := hide r4
          have K4 := hide k4
          clear r4 k4 hq3 hM3'
          go_region
          go_wp2
          go_roundw
          case rel => exact ⟨M, swpS e q M, rfl, by omega, hide (by have := HS.out; show _ ≤ _; omega), PSW, HD, HSW.out _ R4.out.drew, ch_swapG (ch_drewG K4.out) _ _ _ _⟩
          case measure => simp [intOf]; omega
      · have tc : decide (ky e (B + 1) < ky e B) = false := decide_eq_false hc
        have HMN : Hid (∀ x, Kid q x → x < e.length → ky e B ≤ ky e x) := fun x hx hl => by
          unfold Kid at hx
          have e1 := hB.out
          rcases hx with hx | hx
          · have : x = B := by omega
            rw [this]
            exact Int.le_refl _
          · have : x = B + 1 := by omega
            rw [this]
            omega
        have j4 : B + 1 < n := by omega
        go_quiet (fail)
        go_upto_region 3 with fail
        clear hc tc yC gC
        have HKM : Hid (Kid q B) := by show Kid _ _; unfold Kid; have := hB.out; omega
        have hMq : q < B := by have := hB.out; omega
        have m1 : (0 : Int) ≤ (B : Int) := by omega
        have m2 : (B : Int) < (n : Int) := by omega
        have m3 : ¬ (n : Int) ≤ (B : Int) := by omega
        have m4 : decide ((n : Int) ≤ (B : Int)) = false := decide_eq_false m3
        have m5 : decide (n ≤ B) = false := decide_eq_false (by omega)
        have m6 : ¬ n ≤ B := by omega
        have STOP : Hid (ky e q ≤ ky e B → HeapF s e) := fun h => HH.out.stop HMN.out h
        have DOWN : Hid (¬ ky e q ≤ ky e B → HeapB s B (swpS e q B)) := fun h => HH.out.down HS.out HKM.out (by rw [HL.out]; omega) HMN.out h
        have PSW : Hid ((swpS e q B).Perm d) := (swpS_perm (by rw [HL.out]; omega) (by rw [HL.out]; omega)).trans PE.out
        have HSW : Hid (∀ W, SRw W g c e → SRw ((W.setCell ⟨g, q, none⟩ (.slice (some ⟨bB, oB, none⟩) (kB + 1) cB)).setCell ⟨g, B, none⟩ (.slice (some ⟨bq, oq, none⟩) (kq + 1) cq)) g c (swpS e q B)) := fun W hW => by
          rw [← vB.out, ← vq.out]
          exact hW.swap (by rw [HL.out]; omega) (by rw [HL.out]; omega)
        refine wp_world (fun W => SRw W g c e ∧ Ch (fun k => k = g) w W ∧ (W.cell? ⟨g, q, none⟩ = some (.slice (some ⟨bq, oq, none⟩) (kq + 1) cq) ∧ W.cell? ⟨g, B, none⟩ = some (.slice (some ⟨bB, oB, none⟩) (kB + 1) cB)) ∧ W.cell? ⟨bq, oq, none⟩ = some (.int .i64 (ky e q)) ∧ W.cell? ⟨bB, oB, none⟩ = some (.int .i64 (ky e B))) ⟨HR.out.drewN _, ch_drewS HC.out _, ⟨gq, gB⟩, yq, yB⟩ ?_
        rintro u ⟨r3, k3, ⟨hq3, hM3'⟩, zq3, zM3⟩
        have R3 := hide r3
        have K3 := hide k3
        clear r3 k3 gq gB yq yB HR HC
        generalize ky e q = aq at *
        generalize ky e B = am at *
        by_cases hle : aq ≤ am
        · have HF := hide (STOP.out hle)
          have t1 : decide (aq ≤ am) = true := decide_eq_true hle
          clear STOP DOWN
          go_quiet (fail)
          go_wp2
          refine bodyPost_ret (results_none rfl _ _ _) rfl ?_
          exact ⟨rfl, e, PE.out, HF.out, R3.out.drewN _, ch_drewS K3.out _⟩
        · have HD := hide (DOWN.out hle)
          have t1 : decide (aq ≤ am) = false := decide_eq_false hle
          clear STOP DOWN
          go_quiet (fail)
          go_upto_region 4 with fail
          refine wp_world (fun W => SRw W g c e ∧ Ch (fun k => k = g) w W ∧ W.cell? ⟨g, q, none⟩ = some (.slice (some ⟨bq, oq, none⟩) (kq + 1) cq) ∧ W.cell? ⟨g, B, none⟩ = some (.slice (some ⟨bB, oB, none⟩) (kB + 1) cB)) ⟨R3.out.drewN _, ch_drewS K3.out _, hq3, hM3'⟩ ?_
          rintro u4 ⟨r4, k4, gq4, gM4⟩
          have fq4 := r4.frozen q
          have fM4 := r4.frozen B
          obtain ⟨xv, hxv⟩ : ∃ v, (u4.setCell ⟨g, q, none⟩ (.slice (some ⟨bB, oB, none⟩) (kB + 1) cB)).cell? ⟨g, B, none⟩ = some v := cell?_setCell_some gM4
          have R4 := hide r4
          have K4 := hide k4
          clear r4 k4 hq3 hM3'
          go_region
          go_wp2
          go_roundw
          case rel => exact ⟨B, swpS e q B, rfl, by omega, hide (by have := HS.out; show _ ≤ _; omega), PSW, HD, HSW.out _ R4.out.drew, ch_swapG (ch_drewG K4.out) _ _ _ _⟩
          case measure => simp [intOf]; omega
end Go.Proofs.YtpffhpnmbpjifaaGreat

namespace Go.Proofs.YtpffhpnmbpjifaaGreat
open Go.RowKit
set_option maxRecDepth 20000

theorem slice_toII (a : Option Addr) (n cap k : Nat) (hk : k ≤ cap) (w : World) :
    (Instr.slice 71 (.slice a n cap) none (some (.int .i64 (k : Int))) none).run Tryz.prog w = .ok (.slice a k cap) w := by
  rw [run_slice_h (P := Tryz.prog) w 71 a n cap Tryz.underlying71 .i64 (k : Int) (by omega) (by omega)]
  have hs : (sizeOf (Tryz.prog.elem 71)).run Tryz.prog w = .ok 1 w := by kernel_rfl
  rw [hs]
  simp only [Result.andThen, sliced, Int.toNat_natCast, Nat.zero_mul, Nat.sub_zero]
  cases a with
  | none => simp
  | some x => simp [Addr.add]
/-- The last one laid at the first place, and left out behind. -/
theorem last_first {s1 x : Sg} {rest : List Sg} (hx : x = sgA (s1 :: rest) rest.length) : (((s1 :: rest).set 0 x).take rest.length).Perm rest := by
  rw [List.set_cons_zero]
  rcases List.eq_nil_or_concat rest with rfl | ⟨t, y, rfl⟩
  · simp
  · rw [List.concat_eq_append] at hx ⊢
    have e : x = y := by
      rw [hx]
      unfold sgA
      rw [List.getD_eq_getElem?_getD, List.length_append, List.length_cons, List.length_nil, Nat.zero_add, List.getElem?_cons_succ, List.getElem?_append_right (Nat.le_refl _)]
      simp
    rw [e, List.length_append, List.length_cons, List.length_nil, Nat.zero_add, List.take_succ_cons, List.take_append_of_le_length (Nat.le_refl _), List.take_length]
    exact (List.perm_append_singleton y t).symm

set_option maxHeartbeats 4000000 in
theorem pass_any (w0 : World) (g c z : Nat) (d : List Sg) (w : World) (hn : d.length = z + 1) (hn10 : z + 1 ≤ 5000) (hR : SRw w g c d) (hok : ∀ x ∈ d, SgOk w0 x) (hb : Below w0.heap.size w0 w) (hg : w0.heap.size ≤ g) (hH : HeapF 0 d) :
    Calls Tryz.prog 79 #[.slice (some ⟨g, 0, none⟩) (z + 1) c] w fun e w' => ∃ (m : Nat) (d' : List Sg), e = .returned (.slice (some ⟨g, 0, none⟩) m c) ∧ d'.length = m ∧ m ≤ z + 1 ∧ Passed w0 d d' ∧ HeapF 0 d' ∧ SRw w' g c d' ∧ Ch (fun k => k = g) w w' := by
  cases d with
  | nil => simp at hn
  | cons s0 rest =>
    have hrl : rest.length = z := by simpa using hn
    obtain ⟨h0, hne⟩ := hok s0 (by simp)
    obtain ⟨v, t, e0⟩ := head_of hne
    have hl0 := h0.len
    rw [e0, List.length_cons] at hl0
    rw [e0, ← hl0] at h0
    obtain ⟨a1, c1, run1, q1⟩ := h0.tail
    have g0 := hR.cell (i := 0) (by simp)
    have g0' : w.cell? ⟨g, 0, none⟩ = some (.slice s0.a (t.length + 1) s0.c) := by rw [g0, hl0]; rfl
    have f0 := hR.frozen 0
    have S1 : Hid (SRw (w.setCell ⟨g, 0, none⟩ (.slice a1 t.length c1)) g c (⟨a1, t.length, c1, t⟩ :: rest)) := hR.set (i := 0) (by simp) ⟨a1, t.length, c1, t⟩
    have C1 : Hid (Ch (fun k => k = g) w (w.setCell ⟨g, 0, none⟩ (.slice a1 t.length c1))) := ch_set w g 0 _
    have HE0 := hide e0
    have HRL := hide hrl
    have HOK := hide hok
    have HH := hide hH
    have HB := hide hb
    have HG := hide hg
    have Q1 := hide q1
    have i1 : (0 : Int) < ((z + 1 : Nat) : Int) := by omega
    have i2 : (0 : Int) < (z : Int) + 1 := by omega
    generalize s0.a = a0 at *
    generalize s0.c = c0 at *
    obtain ⟨k, hk⟩ : ∃ k, Hid (t.length = k) := ⟨_, rfl⟩
    rw [hk.out] at run1 g0' S1 C1
    clear hn h0 hne hl0 g0 hrl hok hH hb hg q1 hR e0
    go_enter Tryz.func79, Tryz.ntmps79
    go_upto_region 2 with fail
    refine wp_world (fun W => SRw W g c (⟨a1, k, c1, t⟩ :: rest) ∧ Ch (fun k => k = g) w W) ⟨S1.out, C1.out⟩ ?_
    rintro u ⟨r1, k1⟩
    have gu : u.cell? ⟨g, 0, none⟩ = some (.slice a1 k c1) := r1.cell (i := 0) (by simp)
    have fu := r1.frozen 0
    have R1 := hide r1
    have K1 := hide k1
    have HBU : Hid (Below w0.heap.size w0 u) := HB.out.trans (k1.below HB.out.size (fun j hj h => by have := HG.out; omega))
    clear r1 k1 S1 C1 g0' f0 run1
    rcases Nat.eq_zero_or_pos k with h0 | hpos
    · subst h0
      have ht : t = [] := List.length_eq_zero_iff.1 hk.out
      obtain ⟨x, HX⟩ : ∃ x, Hid (sgA (⟨a1, 0, c1, t⟩ :: rest) z = x) := ⟨_, rfl⟩
      have gz : u.cell? ⟨g, z, none⟩ = some (.slice x.a x.n x.c) := by
        have := R1.out.cell (i := z) (by simp [HRL.out])
        rwa [HX.out] at this
      have PM : Hid (((((⟨a1, 0, c1, t⟩ : Sg) :: rest).set 0 x).take z).Perm rest) := by
        have := last_first (s1 := ⟨a1, 0, c1, t⟩) (rest := rest) (x := x) (by rw [HRL.out]; exact HX.out.symm)
        rwa [HRL.out] at this
      have LN : Hid (((((⟨a1, 0, c1, t⟩ : Sg) :: rest).set 0 x).take z).length = z) := by
        show _ = _
        rw [List.length_take, List.length_set, List.length_cons, HRL.out]
        omega
      have st := slice_toII (some ⟨g, 0, none⟩) (z + 1) c z (by have := R1.out.fits; rw [List.length_cons, HRL.out] at this; omega)
      have R2 : Hid (SRw (u.setCell ⟨g, 0, none⟩ (.slice x.a x.n x.c)) g c ((((⟨a1, 0, c1, t⟩ : Sg) :: rest).set 0 x).take z)) := (R1.out.set (i := 0) (by simp) x).take z
      have HBT : Hid (HeapB 0 0 ((((⟨a1, 0, c1, t⟩ : Sg) :: rest).set 0 x).take z)) := heap_first HH.out (by rw [LN.out, List.length_cons, HRL.out]; omega) (fun i h1 h2 => by
        rw [LN.out] at h2
        obtain ⟨j, rfl⟩ : ∃ j, i = j + 1 := ⟨i - 1, by omega⟩
        unfold sgA
        rw [List.getD_eq_getElem?_getD, List.getD_eq_getElem?_getD, List.getElem?_take, if_pos h2, List.set_cons_zero, List.getElem?_cons_succ, List.getElem?_cons_succ])
      have OK3 : Hid (∀ y ∈ (((⟨a1, 0, c1, t⟩ : Sg) :: rest).set 0 x).take z, SgOk w0 y) := fun y hy => HOK.out y (List.mem_cons_of_mem _ (PM.out.mem_iff.1 hy))
      have PS : Hid (∀ d', d'.Perm ((((⟨a1, 0, c1, t⟩ : Sg) :: rest).set 0 x).take z) → Passed w0 (s0 :: rest) d') := fun d' hd => ⟨s0, ⟨a1, 0, c1, t⟩, rest, v, t, rfl, HE0.out, rfl, fun h => absurd ht h, by rw [if_pos ht]; exact hd.trans PM.out⟩
      generalize (((⟨a1, 0, c1, t⟩ : Sg) :: rest).set 0 x).take z = d3 at *
      have K2 : Hid (Ch (fun k => k = g) w (u.setCell ⟨g, 0, none⟩ (.slice x.a x.n x.c))) := K1.out.trans (ch_set u g 0 _)
      obtain ⟨xa, hxa⟩ : ∃ q, x.a = q := ⟨_, rfl⟩
      obtain ⟨xn, hxn⟩ : ∃ q, x.n = q := ⟨_, rfl⟩
      obtain ⟨xc, hxc⟩ : ∃ q, x.c = q := ⟨_, rfl⟩
      rw [hxa, hxn, hxc] at gz R2 K2
      clear hxa hxn hxc HX R1 K1 HBU ht PM
      go_upto_region 6 with fail
      refine wp_world (fun W => SRw W g c d3 ∧ Ch (fun k => k = g) w W) ⟨R2.out, K2.out⟩ ?_
      rintro u2 ⟨r2, k2⟩
      have SK : Hid (Calls Tryz.prog 89 #[.slice (some ⟨g, 0, none⟩) z c, .int .i64 0] u2 fun e w' => e = .returned (.tuple #[]) ∧ ∃ d', d'.Perm d3 ∧ HeapF 0 d' ∧ SRw w' g c d' ∧ Ch (fun k => k = g) u2 w') :=
        sink_any w0 g c d3 z 0 0 u2 LN.out (by omega) r2 OK3.out (HB.out.trans (k2.below HB.out.size (fun j hj h => by have := HG.out; omega))) HG.out (Nat.le_refl _) (by omega) HBT.out
      have K2' := hide k2
      clear r2 k2 R2 K2 gz gu fu
      go_wp2_with fail
      with_reducible refine SK.out.mono ?_
      rintro e w' ⟨rfl, d', p5, h5, r5, k5⟩
      have FIN : Hid (∃ (m : Nat) (d'' : List Sg), Ending.returned (.slice (some ⟨g, 0, none⟩) z c) = .returned (.slice (some ⟨g, 0, none⟩) m c) ∧ d''.length = m ∧ m ≤ z + 1 ∧ Passed w0 (s0 :: rest) d'' ∧ HeapF 0 d'' ∧ SRw w' g c d'' ∧ Ch (fun k => k = g) w w') :=
        ⟨z, d', rfl, p5.length_eq.trans LN.out, by omega, PS.out d' p5, h5, r5, K2'.out.trans k5⟩
      clear p5 h5 r5 k5 SK
      go_wp2
      go_ret
      exact FIN.out
    · obtain ⟨k, rfl⟩ : ∃ j, k = j + 1 := ⟨k - 1, by omega⟩
      have ht : t ≠ [] := fun e => by rw [e] at hk; have := hk.out; simp at this
      have f1 : (((k + 1 : Nat) : Int) == 0) = false := by simp; omega
      have f2 : (((k : Int) + 1) == 0) = false := by simp; omega
      have OK3 : Hid (∀ y ∈ (⟨a1, k + 1, c1, t⟩ : Sg) :: rest, SgOk w0 y) := fun y hy => by
        rcases List.mem_cons.1 hy with e | e
        · rw [e]
          refine ⟨?_, ht⟩
          have := Q1.out
          rwa [hk.out] at this
        · exact HOK.out y (List.mem_cons_of_mem _ e)
      have LN : Hid (((⟨a1, k + 1, c1, t⟩ : Sg) :: rest).length = z + 1) := by show _ = _; rw [List.length_cons, HRL.out]
      have HBT : Hid (HeapB 0 0 ((⟨a1, k + 1, c1, t⟩ : Sg) :: rest)) := heap_first HH.out (by simp) (fun i h1 h2 => by
        obtain ⟨j, rfl⟩ : ∃ j, i = j + 1 := ⟨i - 1, by omega⟩
        rfl)
      have PS : Hid (∀ d', d'.Perm ((⟨a1, k + 1, c1, t⟩ : Sg) :: rest) → Passed w0 (s0 :: rest) d') := fun d' hd => ⟨s0, ⟨a1, k + 1, c1, t⟩, rest, v, t, rfl, HE0.out, rfl, fun h => OK3.out _ (by simp), by rw [if_neg ht]; exact hd⟩
      have SK : Hid (Calls Tryz.prog 89 #[.slice (some ⟨g, 0, none⟩) (z + 1) c, .int .i64 0] u fun e w' => e = .returned (.tuple #[]) ∧ ∃ d', d'.Perm ((⟨a1, k + 1, c1, t⟩ : Sg) :: rest) ∧ HeapF 0 d' ∧ SRw w' g c d' ∧ Ch (fun k => k = g) u w') :=
        sink_any w0 g c _ (z + 1) 0 0 u LN.out hn10 R1.out OK3.out HBU.out HG.out (Nat.le_refl _) (by omega) HBT.out
      generalize ((⟨a1, k + 1, c1, t⟩ : Sg) :: rest) = d3 at *
      clear R1 HBU ht OK3 HBT hk
      go_wp2_with fail
      with_reducible refine SK.out.mono ?_
      rintro e w' ⟨rfl, d', p5, h5, r5, k5⟩
      have FIN : Hid (∃ (m : Nat) (d'' : List Sg), Ending.returned (.slice (some ⟨g, 0, none⟩) (z + 1) c) = .returned (.slice (some ⟨g, 0, none⟩) m c) ∧ d''.length = m ∧ m ≤ z + 1 ∧ Passed w0 (s0 :: rest) d'' ∧ HeapF 0 d'' ∧ SRw w' g c d'' ∧ Ch (fun k => k = g) w w') :=
        ⟨z + 1, d', rfl, p5.length_eq.trans LN.out, by omega, PS.out d' p5, h5, r5, K1.out.trans k5⟩
      clear p5 h5 r5 k5 SK
      go_wp2
      go_ret
      exact FIN.out
end Go.Proofs.YtpffhpnmbpjifaaGreat

namespace Go.Proofs.YtpffhpnmbpjifaaGreat
open Go.RowKit
set_option maxRecDepth 20000

theorem Tryz.infoSg : (Tryz.prog.info? 33).map (fun i => (i.zero, i.size, i.bytes)) = some (some (.slice none 0 0), 1, 24) := by kernel_rfl
theorem one_sgcell (w : World) (v : Value) (e : TypeId) (j : Nat) (u : Value) (h : [v][j]? = some u) : (w.alloc (.cells #[v] e)).cell? ((⟨w.heap.size, 0, none⟩ : Addr).add j) = some u := by
  match j, h with
  | 0, h => simp at h; subst h; rw [Addr.add_lit, World.cell?_alloc_mark]; rfl
/-- Is a list not empty? -/
def notE (l : List Int) : Bool := !l.isEmpty
theorem tot_le {d : List Sg} (h : ∀ s ∈ d, s.l.length ≤ 5000) : totS d ≤ 5000 * d.length := by
  induction d with
  | nil => simp [totS]
  | cons s t ih =>
    have h1 := h s (by simp)
    have h2 := ih (fun x hx => h x (by simp [hx]))
    unfold totS at h2 ⊢
    rw [List.map_cons, List.sum_cons, List.length_cons]
    omega
/-- What heap hands back. -/
def HpS (w0 : World) (v : Value) (m : Nat) (d : List Sg) (w : World) : Prop := (m = 0 ∧ v = .slice none 0 0) ∨ ∃ g c, v = .slice (some ⟨g, 0, none⟩) m c ∧ w0.heap.size ≤ g ∧ SRw w g c d
def HeapP (ls : List (List Int)) (w : World) (e : Ending) (w' : World) : Prop := ∃ (v : Value) (m : Nat) (d : List Sg), e = .returned v ∧ (d.map (·.l)).Perm (ls.filter notE) ∧ d.length = m ∧ m ≤ 5000 ∧ (∀ x ∈ d, SgOk w x) ∧ HeapF 0 d ∧ totS d ≤ 25000000 ∧ HpS w v m d w' ∧ Below w.heap.size w w'

set_option maxHeartbeats 4000000 in
theorem heap_any (a : Option Addr) (n cap : Nat) (ls : List (List Int)) (w : World) (hs : RowII w a n ls) (hn : n ≤ 5000) (hl : ∀ l ∈ ls, l.length ≤ 5000) :
    Calls Tryz.prog 78 #[.slice a n cap] w fun e w' => HeapP ls w e w' := by
  obtain ⟨i1, hi1, hz10, hz11, hz12⟩ := info_parts Tryz.infoSg
  have HS := hide hs
  have HL := hide hs.1
  have HLL := hide hl
  clear hs hl
  go_enter Tryz.func78, Tryz.ntmps78
  go_wp2
  go_loopw [3, 9] (fun x i wr => ∃ (k : Nat) (al : Option Addr) (L cl : Nat) (d : List Sg), k ≤ n ∧ i = .int .i64 k ∧ x = .slice al L cl ∧ L ≤ k ∧ Hid (d.length = L) ∧ Hid (d.map (·.l) = (ls.take k).filter notE) ∧ Hid (∀ y ∈ d, SgOk w y) ∧ Hid (wr.ownsRow w.heap.size 33 1 (.slice al L cl) L (d.map Sg.val)) ∧ Hid (Below w.heap.size w wr)) (fun _ i _ => n - (intOf i).toNat)
  case atStart => exact ⟨0, none, 0, 0, [], by omega, rfl, rfl, by omega, rfl, rfl, fun y hy => (by cases hy), World.ownsRow_nil _ _ _ _, Below.refl _ _⟩
  case round =>
    obtain ⟨k, al, L, cl, d, hk, rfl, rfl, hLk, HD, HM, HOK, OW, BW⟩ := hrel
    obtain ⟨u, rfl⟩ : ∃ u, u = wr := ⟨wr, rfl⟩
    by_cases hlt : k < n
    · obtain ⟨b, off, a1, n1, c1, e, g00, q1⟩ := HS.out.at' hlt
      subst e
      have g0 : u.cell? ⟨b, off + k, none⟩ = some (.slice a1 n1 c1) := by
        rw [BW.out.cell (p := ⟨b, off + k, none⟩) (World.block_lt_of_cell? w _ g00)]
        exact g00
      have j1 : (0 : Int) ≤ (k : Int) := by omega
      have j2 : (k : Int) < (n : Int) := by omega
      have TG := hide (takeL_get (ls := ls) (k := k) (by rw [HL.out]; exact hlt))
      have Q1 := hide q1
      have hq := q1.len
      clear g00 q1
      generalize ls.getD k [] = x at *
      cases x with
      | nil =>
        obtain rfl : 0 = n1 := hq
        have HM2 : Hid (d.map (·.l) = (ls.take (k + 1)).filter notE) := by
          show _ = _
          rw [TG.out, List.filter_append, ← HM.out]
          simp [notE]
        clear TG HM
        go_wp2
        go_roundw
        case rel => exact ⟨k + 1, al, L, cl, d, by omega, by go_num, rfl, by omega, HD, HM2, HOK, OW, BW⟩
        case measure => simp [intOf]; omega
      | cons p t =>
        obtain rfl : t.length + 1 = n1 := hq
        have HM2 : Hid ((d ++ [(⟨a1, t.length + 1, c1, p :: t⟩ : Sg)]).map (·.l) = (ls.take (k + 1)).filter notE) := by
          show _ = _
          rw [TG.out, List.filter_append, ← HM.out, List.map_append]
          simp [notE]
        have HD2 : Hid ((d ++ [(⟨a1, t.length + 1, c1, p :: t⟩ : Sg)]).length = L + 1) := by show _ = _; rw [List.length_append, HD.out]; rfl
        have HOK2 : Hid (∀ y ∈ d ++ [(⟨a1, t.length + 1, c1, p :: t⟩ : Sg)], SgOk w y) := fun y hy => by
          rcases List.mem_append.1 hy with e | e
          · exact HOK.out y e
          · rw [List.mem_singleton] at e
            rw [e]
            exact ⟨Q1.out, by simp⟩
        have MV : Hid ((d ++ [(⟨a1, t.length + 1, c1, p :: t⟩ : Sg)]).map Sg.val = d.map Sg.val ++ [.slice a1 (t.length + 1) c1]) := by show _ = _; rw [List.map_append]; rfl
        have OA := hide OW.out.alloc
        have f1 : (0 : Int) < ((t.length + 1 : Nat) : Int) := by omega
        have f2 : (0 : Int) < (t.length : Int) + 1 := by omega
        generalize d ++ [(⟨a1, t.length + 1, c1, p :: t⟩ : Sg)] = d2 at *
        clear TG HM Q1
        go_wp2_with (at_builtin; refine wpList_push _ rfl _ _ 71 rfl w.heap.size 33 i1 (.slice none 0 0) 24 Tryz.underlying71 hi1 hz10 hz11 hz12 rfl al L cl (d.map Sg.val) rfl (OA.out _) ⟨u.heap.size, 0, none⟩ 1 (.slice a1 (t.length + 1) c1) rfl (one_sgcell u _ _) rfl (by unfold maxLen; omega) (by omega) (Nat.le_trans BW.out.size (by simp)) ?_)
        intro gg cc w1 o1 g1 _
        rw [← MV.out] at o1
        have O1 := hide o1
        have B1 : Hid (Below w.heap.size w w1) := (bel_al BW.out (Nat.le_refl _) _).trans ((Ch.grown g1).below (Nat.le_trans BW.out.size (by simp)) (fun j hj h => by have := (row_cells OW.out h).2; omega))
        clear o1 g1 OA OW BW MV HD HOK
        go_wp2
        go_roundw
        case rel => exact ⟨k + 1, _, L + 1, cc, d2, by omega, by go_num, rfl, by omega, HD2, HM2, HOK2, O1, B1⟩
        case measure => simp [intOf]; omega
    · have j2 : ¬ (k : Int) < (n : Int) := by omega
      rw [List.take_of_length_le (by rw [HL.out]; omega)] at HM
      have HT : Hid (totS d ≤ 25000000) := by
        have h1 : ∀ s ∈ d, s.l.length ≤ 5000 := fun s hs => by
          have : s.l ∈ d.map (·.l) := List.mem_map.2 ⟨s, hs, rfl⟩
          rw [HM.out] at this
          exact HLL.out _ (List.mem_filter.1 this).1
        have h2 := tot_le h1
        have h3 := HD.out
        show _ ≤ _
        omega
      rcases own_srw OW.out with ⟨e1, e2, e3, e4⟩ | ⟨g, e1, hg, r1⟩
      · subst e1
        subst e2
        subst e3
        have FIN : Hid (HeapP ls w (.returned (.slice none 0 0)) u) := ⟨_, 0, d, rfl, by rw [HM.out], HD.out, by omega, HOK.out, heap_begin d (by rw [HD.out]; omega), HT.out, Or.inl ⟨rfl, rfl⟩, BW.out⟩
        clear HS HL HLL HD HM HOK OW BW HT
        go_wp2
        go_loopw [6] (fun i wr => i = .int .i64 (-1) ∧ wr = u) (fun _ _ => 0)
        case atStart => exact ⟨rfl, rfl⟩
        case round =>
          obtain ⟨rfl, rfl⟩ := hrel
          go_wp2
          go_ret
          exact FIN.out
      · subst e1
        have hL10 : L ≤ 5000 := by omega
        have R1 := hide r1
        have HG := hide hg
        clear r1 hg OW HS HL HLL
        go_wp2
        go_loopw [6] (fun i wr => ∃ (p : Nat) (d' : List Sg), i = .int .i64 ((p : Int) - 1) ∧ p ≤ 2500 ∧ Hid (d'.Perm d) ∧ Hid (HeapF p d') ∧ Hid (SRw wr g cl d') ∧ Hid (Ch (fun k => k = g) u wr)) (fun i _ => (intOf i + 1).toNat)
        case atStart => exact ⟨L / 2, d, by go_num, by omega, List.Perm.refl _, heap_begin d (by rw [HD.out]; omega), R1, Ch.refl _ _⟩
        case round =>
          obtain ⟨p, d', rfl, hp, PD, HH, R2, K2⟩ := hrel
          have HB2 : Hid (Below w.heap.size w wr) := BW.out.trans (K2.out.below BW.out.size (fun j hj h => by have := HG.out; omega))
          have HOK2 : Hid (∀ x ∈ d', SgOk w x) := fun x hx => HOK.out x (PD.out.mem_iff.1 hx)
          have HD2 : Hid (d'.length = L) := PD.out.length_eq.trans HD.out
          cases p with
          | zero =>
            have FIN : Hid (HeapP ls w (.returned (.slice (some ⟨g, 0, none⟩) L cl)) wr) := ⟨_, L, d', rfl, by rw [← HM.out]; exact PD.out.map _, HD2.out, by omega, HOK2.out, HH.out, by rw [totS_perm PD.out]; exact HT.out, Or.inr ⟨g, cl, rfl, HG.out, R2.out⟩, HB2.out⟩
            clear HD HM HOK HT R2 K2 PD HH HB2 HOK2 HD2
            go_wp2
            go_ret
            exact FIN.out
          | succ p =>
            have SK : Hid (Calls Tryz.prog 89 #[.slice (some ⟨g, 0, none⟩) L cl, .int .i64 (p : Int)] wr fun e w' => e = .returned (.tuple #[]) ∧ ∃ d'', d''.Perm d' ∧ HeapF p d'' ∧ SRw w' g cl d'' ∧ Ch (fun k => k = g) wr w') :=
              sink_any w g cl d' L p p wr HD2.out hL10 R2.out HOK2.out HB2.out HG.out (Nat.le_refl _) (by omega) (heap_but HH.out)
            have f1 : ((p + 1 : Nat) : Int) - 1 = (p : Int) := by omega
            rw [f1]
            have f2 : (0 : Int) ≤ (p : Int) := by omega
            clear f1
            go_wp2_with fail
            with_reducible refine SK.out.mono ?_
            rintro e w' ⟨rfl, d'', p5, h5, r5, k5⟩
            have P5 := hide (p5.trans PD.out)
            have H5 := hide h5
            have R5 := hide r5
            have K5 := hide (K2.out.trans k5)
            clear p5 h5 r5 k5 SK PD HH R2 K2 HB2 HOK2 HD2
            go_wp2
            go_roundw
            case rel => exact ⟨p, d'', by go_num, by omega, P5, H5, R5, K5⟩
            case measure => simp [intOf]
end Go.Proofs.YtpffhpnmbpjifaaGreat

namespace Go.Proofs.YtpffhpnmbpjifaaGreat
open Go.RowKit
set_option maxRecDepth 20000

/-- The block of the list that is made is not the heap's. -/
theorem apart {w : World} {base g c n cap : Nat} {a : Option Addr} {zs : List Int} {d : List Sg} (h : MineI w base a n cap zs) (r : SRw w g c d) : ¬ (Value.slice a n cap).ownBlock = some g := fun e => (row_cells h e).1.ne r.cellsT (by decide) rfl
theorem mine_ch {w w' : World} {base g c n cap : Nat} {a : Option Addr} {zs : List Int} {d : List Sg} (h : MineI w base a n cap zs) (r : SRw w g c d) (k : Ch (fun j => j = g) w w') : MineI w' base a n cap zs :=
  row_ch h k (fun _ hj e => apart h r (e ▸ hj))

set_option maxHeartbeats 16000000 in
theorem most_any (a : Option Addr) (n cap : Nat) (ls : List (List Int)) (kk : Int) (w : World) (hs : RowII w a n ls) (hn : n ≤ 5000) (hl : ∀ l ∈ ls, l.length ≤ 5000) :
    Calls Tryz.prog 63 #[.slice a n cap, .int .i64 kk] w fun e w' => Iter (mostS ls kk) w e w' := by
  obtain ⟨i0, hi, hz0, hz1, hz2⟩ := info_parts Tryz.infoI
  have HS := hide hs
  have HL := hide hs.1
  have HLL := hide hl
  have HWF : Hid (∀ x, (∃ l ∈ ls, x ∈ l) → (Lit.int .i64 x).wf = true) := by
    rintro x ⟨l, hl', hx⟩
    obtain ⟨i, hi', e⟩ := List.mem_iff_getElem.1 hl'
    obtain ⟨b, off, a', n', c', -, -, q⟩ := hs.at' (i := i) (by rw [← hs.1]; exact hi')
    rw [List.getD_eq_getElem?_getD, List.getElem?_eq_getElem hi'] at q
    exact q.wf x (by rw [← e] at hx; exact hx)
  have RI := hide (rise_any a n cap ls w hs)
  obtain ⟨ans, HA⟩ : ∃ ans, Hid (mostS ls kk = ans) := ⟨_, rfl⟩
  rw [HA.out]
  clear hs hl
  by_cases hk1 : kk < 1
  · have HE : Hid ([] = ans) := by rw [← HA.out]; show _ = _; unfold mostS; rw [if_pos (Or.inl hk1)]
    have TI := hide (tell_iter none 0 0 [] w (sli_nil _) (by omega))
    clear RI HS HL HLL HWF
    go_enter Tryz.func63, Tryz.ntmps63
    go_wp2_with fail
    go_step3
    go_wp2_with fail
    with_reducible refine TI.out.mono ?_
    intro e u3 h3
    have I3 := hide h3
    clear h3 TI
    obtain ⟨F, rfl, -, -⟩ := I3.out
    go_wp2
    go_ret
    rw [← HE.out]
    exact I3.out
  by_cases hup : ∀ l ∈ ls, upI l
  · rw [allUp_iff.2 hup] at RI
    have HU := hide hup
    have hk2 : 1 ≤ kk := by omega
    clear hup
    go_enter Tryz.func63, Tryz.ntmps63
    go_wp2_with fail
    go_step3
    go_wp2_with fail
    with_reducible refine RI.out.mono ?_
    rintro e u1 ⟨rfl, b1⟩
    have B1 := hide b1
    have HP := hide (heap_any a n cap ls u1 (HS.out.below b1 (Nat.le_refl _)) hn HLL.out)
    clear b1 RI
    go_wp2_with fail
    with_reducible refine HP.out.mono ?_
    rintro e u2 ⟨v0, m0, d0, rfl, hpm, hdl, hm0, hok, hhp, htt, hps, hb2⟩
    obtain ⟨av0, cv0, rfl⟩ : ∃ av cv, v0 = .slice av m0 cv := by
      rcases hps with ⟨e1, e⟩ | ⟨g, c, e, -, -⟩
      · exact ⟨none, 0, by rw [e, e1]⟩
      · exact ⟨_, c, e⟩
    have MI := hide (moI_start (ls := ls) (k := kk) hk2 HU.out (d := d0) hpm)
    have HH := hide hhp
    have HDL := hide hdl
    have HOK := hide hok
    have HTT := hide htt
    have HPS := hide hps
    have B2 := hide hb2
    clear hpm hdl hok hhp htt hps hb2 HP HS HLL
    go_wp2
    go_step3
    go_wp2
    go_loopg [5, 6] (totS d0) (fun gh o x wr => ∃ (ao : Option Addr) (L co T : Nat) (m : Nat) (d : List Sg) (out : List Int) (av : Option Addr) (cv : Nat), o = .slice ao L co ∧ x = .slice av m cv ∧ L + T ≤ 25000000 ∧ m ≤ 5000 ∧ Hid (d.length = m) ∧ Hid (totS d = T) ∧ T ≤ gh ∧ Hid (MoI ls kk d out) ∧ Hid (HeapF 0 d) ∧ Hid (∀ y ∈ d, SgOk u1 y) ∧ Hid (HpS u1 (.slice av m cv) m d wr) ∧ Hid (MineI wr u1.heap.size ao L co out) ∧ Hid (Below u1.heap.size u1 wr))
    case atStart => exact ⟨none, 0, 0, totS d0, m0, d0, [], av0, cv0, rfl, rfl, by have := HTT.out; omega, hm0, HDL, rfl, Nat.le_refl _, MI, HH, HOK, HPS, own_nil _ _ _ _, B2⟩
    case round =>
      clear MI HH HDL HOK HTT HPS B2
      obtain ⟨ao, L, co, T, m, d, out, av, cv, rfl, rfl, hLT, hm, HD, HT, hTg, MI, HH, HOK, HPS, OW, BW⟩ := hrel
      rcases Nat.eq_zero_or_pos m with h0 | hpos
      · subst h0
        have HE : Hid (out = mostS ls kk) := MI.out.end' hk2 HU.out HD.out
        clear MI HH HPS HD HT
        have TI := hide (tell_iter ao L co out wr (MineI.sl OW.out (by omega) (fun z hz => HWF.out z (by
          have := (mem_most.1 (HE.out ▸ hz : z ∈ mostS ls kk)).2.2
          exact cntI_pos.1 (by omega)))) (by omega))
        go_wp2_with fail
        with_reducible refine TI.out.mono ?_
        intro e u3 h3
        have I3 := hide (h3.from' (bel_to B1.out (Nat.le_refl _) BW.out))
        clear h3 TI
        rw [HE.out, HA.out] at I3
        obtain ⟨F, rfl, -, -⟩ := I3.out
        go_wp2
        go_ret
        exact I3.out
      · obtain ⟨z, rfl⟩ : ∃ z, m = z + 1 := ⟨m - 1, by omega⟩
        obtain ⟨g, hx, hg, r0⟩ : ∃ g, av = some ⟨g, 0, none⟩ ∧ u1.heap.size ≤ g ∧ SRw wr g cv d := by
          rcases HPS.out with ⟨e, -⟩ | ⟨g, c, e1, e2, e3⟩
          · omega
          · simp only [Value.slice.injEq, true_and] at e1
            obtain ⟨rfl, rfl⟩ := e1
            exact ⟨g, rfl, e2, e3⟩
        subst hx
        obtain ⟨c, rfl⟩ : ∃ c, c = cv := ⟨cv, rfl⟩
        have R0 := hide r0
        have HG := hide hg
        obtain ⟨b3, o3, k3, c3, g3, y3, -⟩ := at_cells r0 HOK.out BW.out (i := 0) (by rw [HD.out]; omega)
        have MJ := hide (MI.out.begin hk2 HH.out (by rw [HD.out]; omega))
        obtain ⟨v, hv⟩ : ∃ v, Hid (ky d 0 = v) := ⟨_, rfl⟩
        rw [hv.out] at MJ y3
        have p1 : (0 : Int) < ((z + 1 : Nat) : Int) := by omega
        have p2 : (0 : Int) < (z : Int) + 1 := by omega
        have p3 : (0 : Int) < ((k3 + 1 : Nat) : Int) := by omega
        have p4 : (0 : Int) < (k3 : Int) + 1 := by omega
        clear r0 hg MI HPS
        go_wp2
        clear g3 y3 p1 p2 p3 p4
        go_loopg [5, 6, 8] T (fun gi o x i wr => ∃ (ao : Option Addr) (L co S : Nat) (z : Nat) (d : List Sg) (nn : Nat) (out : List Int), o = .slice ao L co ∧ x = .slice (some ⟨g, 0, none⟩) (z + 1) c ∧ i = .int .i64 nn ∧ L + S ≤ 25000000 ∧ z + 1 ≤ 5000 ∧ Hid (d.length = z + 1) ∧ Hid (totS d = S) ∧ S ≤ gi ∧ Hid (S ≤ T) ∧ Hid (MoJ ls kk v nn d out) ∧ Hid (ky d 0 = v) ∧ Hid (HeapF 0 d) ∧ Hid (∀ y ∈ d, SgOk u1 y) ∧ Hid (SRw wr g c d) ∧ Hid (MineI wr u1.heap.size ao L co out) ∧ Hid (Below u1.heap.size u1 wr))
        case atStart => exact ⟨ao, L, co, T, z, d, 1, out, rfl, rfl, rfl, hLT, hm, HD, HT, Nat.le_refl _, Nat.le_refl _, MJ, hv, HH, HOK, R0, OW, BW⟩
        case round =>
          clear MJ hv HH HOK R0 OW BW HD HT hLT hm
          obtain ⟨ao, L, co, S, z, d, nn, out, rfl, rfl, rfl, hLS, hz, HD, HT, hSg, hST, MJ, hv, HH, HOK, R0, OW, BW⟩ := hrel
          obtain ⟨u, rfl⟩ : ∃ u, u = wr := ⟨wr, rfl⟩
          have hnn : nn ≤ 5001 := by have := MJ.out.few; have h2 := HL.out; omega
          have hS1 : 1 ≤ S := by
            have h1 := HT.out
            cases d with
            | nil => have := HD.out; simp at this
            | cons s0 rest =>
              have h2 := (HOK.out s0 (by simp)).2
              have h3 : 1 ≤ s0.l.length := List.length_pos_iff.2 h2
              unfold totS at h1
              rw [List.map_cons, List.sum_cons] at h1
              omega
          by_cases hq : (nn : Int) = kk
          · have t1 : ((nn : Int) == kk) = true := by simpa using hq
            have STEP : Hid (∀ d', Passed u1 d d' → MoJ ls kk v (nn + 1) d' (out ++ [v])) := fun d' h => by
              have := MJ.out.step h hv.out
              rwa [if_pos hq] at this
            have HV : Hid ((Lit.int .i64 v).wf = true) := HWF.out v (cntI_pos.1 (by
              have h1 := MJ.out.cnt
              have h2 : cntS d v ≠ 0 := fun e => (cntS_zero.1 e) (sgA d 0) (sgA_mem (by rw [HD.out]; omega)) (by have := ky_mem (d := d) (by rw [HD.out]; omega) MJ.out.up; rwa [hv.out] at this)
              have h3 : (1 : Int) ≤ (nn : Int) := by omega
              omega))
            have RV := hide ((one_introw u v 3).2 HV.out)
            have OA := hide OW.out.alloc
            clear hq MJ
            go_wp2_with (at_builtin; refine wpList_append_ints _ rfl _ _ 33 rfl u1.heap.size 3 i0 Tryz.underlying33 hi hz0 hz1 hz2 ao L co _ rfl (OA.out _) (some ⟨u.heap.size, 0, none⟩) 1 1 [v] rfl RV.out (fun h => by cases h) (by omega) (Nat.le_trans BW.out.size (by simp)) ?_)
            intro a7 c7 w7 o7 b7 k7
            have O7 := hide o7
            have B7 : Hid (Below u1.heap.size u1 w7) := (bel_al BW.out (Nat.le_refl _) _).trans b7
            have r7 := R0.out.below ((Below.refl u.heap.size u).alloc (Nat.le_refl _) (.cells #[.int .i64 v] 3))
            have R7 : Hid (SRw w7 g c d) := r7.ch k7 (apart (OA.out _) r7)
            clear r7
            clear o7 b7 k7 OA RV OW BW R0
            have PA := hide (pass_any u1 g c z d w7 HD.out hz R7.out HOK.out B7.out HG.out HH.out)
            go_wp2_with fail
            with_reducible refine PA.out.mono ?_
            rintro e w8 ⟨m8, d8, rfl, hl8, hm8, ps8, hh8, r8, k8⟩
            have MJ8 := hide (STEP.out d8 ps8)
            have OK8 := hide (ps8.ok HOK.out)
            have HT8 : Hid (totS d8 < S) := by have := ps8.tot; rwa [HT.out] at this
            have HL8 := hide hl8
            have hm9 : m8 ≤ 5000 := by omega
            have HH8 := hide hh8
            have R8 := hide r8
            have B8 : Hid (Below u1.heap.size u1 w8) := B7.out.trans (k8.below B7.out.size (fun j hj h => by have := HG.out; omega))
            have O8 := hide (mine_ch O7.out R7.out k8)
            clear hl8 ps8 hh8 r8 k8 PA STEP R7 O7 B7 HD HT HH HOK hv
            rcases Nat.eq_zero_or_pos m8 with h8 | h8
            · subst h8
              have HE : Hid (out ++ [v] = mostS ls kk) := (MJ8.out.done HH8.out (Or.inl HL8.out)).end' hk2 HU.out HL8.out
              clear MJ8 OK8 HH8 R8
              have TI := hide (tell_iter a7 (L + 1) c7 (out ++ [v]) w8 (MineI.sl O8.out (by omega) (fun z hz => HWF.out z (by
                have := (mem_most.1 (HE.out ▸ hz : z ∈ mostS ls kk)).2.2
                exact cntI_pos.1 (by omega)))) (by omega))
              go_wp2_with fail
              with_reducible refine TI.out.mono ?_
              intro e u3 h3
              have I3 := hide (h3.from' (bel_to B1.out (Nat.le_refl _) B8.out))
              clear h3 TI
              rw [HE.out, HA.out] at I3
              obtain ⟨F, rfl, -, -⟩ := I3.out
              go_wp2
              go_ret
              exact I3.out
            · obtain ⟨z8, rfl⟩ : ∃ q, m8 = q + 1 := ⟨m8 - 1, by omega⟩
              obtain ⟨b9, o9, k9, c9, g9, y9, -⟩ := at_cells R8.out OK8.out B8.out (i := 0) (by rw [HL8.out]; omega)
              obtain ⟨v9, hv9⟩ : ∃ v9, Hid (ky d8 0 = v9) := ⟨_, rfl⟩
              rw [hv9.out] at y9
              have p1 : (0 : Int) < ((z8 + 1 : Nat) : Int) := by omega
              have p2 : (0 : Int) < (z8 : Int) + 1 := by omega
              have p3 : (0 : Int) < ((k9 + 1 : Nat) : Int) := by omega
              have p4 : (0 : Int) < (k9 : Int) + 1 := by omega
              have p5 : (((z8 + 1 : Nat) : Int) == 0) = false := by simp; omega
              have p6 : (((z8 : Int) + 1) == 0) = false := by simp; omega
              obtain ⟨T8, hT8⟩ : ∃ t, Hid (totS d8 = t) := ⟨_, rfl⟩
              have hT9 : T8 < S := by have := HT8.out; rwa [hT8.out] at this
              by_cases he : v9 = v
              · have he' := he.symm
                subst he'
                have t2 : (v != v) = false := by simp
                clear HT8
                go_wp2
                go_roundg T8
                case measure => omega
                case rel => exact ⟨a7, L + 1, c7, T8, z8, d8, nn + 1, out ++ [v], rfl, rfl, by go_num, by omega, hm9, HL8, hT8, Nat.le_refl _, hide (by have := hST.out; show _ ≤ _; omega), MJ8, hv9, HH8, OK8, R8, O8, B8⟩
              · have t2 : (v9 != v) = true := by simpa using he
                have MI8 := hide (MJ8.out.done HH8.out (Or.inr (by rw [hv9.out]; exact he)))
                have hTT : T8 < T := by have := hST.out; omega
                clear HT8 he MJ8
                go_wp2
                go_roundg T8
                case measure => omega
                case rel => exact ⟨a7, L + 1, c7, T8, z8 + 1, d8, out ++ [v], some ⟨g, 0, none⟩, c, rfl, rfl, by omega, hm9, HL8, hT8, Nat.le_refl _, MI8, HH8, OK8, hide (Or.inr ⟨g, c, rfl, HG.out, R8.out⟩), O8, B8⟩
          · have t1 : ((nn : Int) == kk) = false := by simpa using hq
            have STEP : Hid (∀ d', Passed u1 d d' → MoJ ls kk v (nn + 1) d' out) := fun d' h => by
              have := MJ.out.step h hv.out
              rwa [if_neg hq] at this
            clear hq MJ
            have PA := hide (pass_any u1 g c z d u HD.out hz R0.out HOK.out BW.out HG.out HH.out)
            go_wp2_with fail
            with_reducible refine PA.out.mono ?_
            rintro e w8 ⟨m8, d8, rfl, hl8, hm8, ps8, hh8, r8, k8⟩
            have MJ8 := hide (STEP.out d8 ps8)
            have OK8 := hide (ps8.ok HOK.out)
            have HT8 : Hid (totS d8 < S) := by have := ps8.tot; rwa [HT.out] at this
            have HL8 := hide hl8
            have hm9 : m8 ≤ 5000 := by omega
            have HH8 := hide hh8
            have R8 := hide r8
            have B8 : Hid (Below u1.heap.size u1 w8) := BW.out.trans (k8.below BW.out.size (fun j hj h => by have := HG.out; omega))
            have O8 := hide (mine_ch OW.out R0.out k8)
            clear hl8 ps8 hh8 r8 k8 PA STEP R0 OW BW HD HT HH HOK hv
            rcases Nat.eq_zero_or_pos m8 with h8 | h8
            · subst h8
              have HE : Hid (out = mostS ls kk) := (MJ8.out.done HH8.out (Or.inl HL8.out)).end' hk2 HU.out HL8.out
              clear MJ8 OK8 HH8 R8
              have TI := hide (tell_iter ao (L) co (out) w8 (MineI.sl O8.out (by omega) (fun z hz => HWF.out z (by
                have := (mem_most.1 (HE.out ▸ hz : z ∈ mostS ls kk)).2.2
                exact cntI_pos.1 (by omega)))) (by omega))
              go_wp2_with fail
              with_reducible refine TI.out.mono ?_
              intro e u3 h3
              have I3 := hide (h3.from' (bel_to B1.out (Nat.le_refl _) B8.out))
              clear h3 TI
              rw [HE.out, HA.out] at I3
              obtain ⟨F, rfl, -, -⟩ := I3.out
              go_wp2
              go_ret
              exact I3.out
            · obtain ⟨z8, rfl⟩ : ∃ q, m8 = q + 1 := ⟨m8 - 1, by omega⟩
              obtain ⟨b9, o9, k9, c9, g9, y9, -⟩ := at_cells R8.out OK8.out B8.out (i := 0) (by rw [HL8.out]; omega)
              obtain ⟨v9, hv9⟩ : ∃ v9, Hid (ky d8 0 = v9) := ⟨_, rfl⟩
              rw [hv9.out] at y9
              have p1 : (0 : Int) < ((z8 + 1 : Nat) : Int) := by omega
              have p2 : (0 : Int) < (z8 : Int) + 1 := by omega
              have p3 : (0 : Int) < ((k9 + 1 : Nat) : Int) := by omega
              have p4 : (0 : Int) < (k9 : Int) + 1 := by omega
              have p5 : (((z8 + 1 : Nat) : Int) == 0) = false := by simp; omega
              have p6 : (((z8 : Int) + 1) == 0) = false := by simp; omega
              obtain ⟨T8, hT8⟩ : ∃ t, Hid (totS d8 = t) := ⟨_, rfl⟩
              have hT9 : T8 < S := by have := HT8.out; rwa [hT8.out] at this
              by_cases he : v9 = v
              · have he' := he.symm
                subst he'
                have t2 : (v != v) = false := by simp
                clear HT8
                go_wp2
                go_roundg T8
                case measure => omega
                case rel => exact ⟨ao, L, co, T8, z8, d8, nn + 1, out, rfl, rfl, by go_num, by omega, hm9, HL8, hT8, Nat.le_refl _, hide (by have := hST.out; show _ ≤ _; omega), MJ8, hv9, HH8, OK8, R8, O8, B8⟩
              · have t2 : (v9 != v) = true := by simpa using he
                have MI8 := hide (MJ8.out.done HH8.out (Or.inr (by rw [hv9.out]; exact he)))
                have hTT : T8 < T := by have := hST.out; omega
                clear HT8 he MJ8
                go_wp2
                go_roundg T8
                case measure => omega
                case rel => exact ⟨ao, L, co, T8, z8 + 1, d8, out, some ⟨g, 0, none⟩, c, rfl, rfl, by omega, hm9, HL8, hT8, Nat.le_refl _, MI8, HH8, OK8, hide (Or.inr ⟨g, c, rfl, HG.out, R8.out⟩), O8, B8⟩
  · have h1 : allUp ls = false := by
      rw [Bool.eq_false_iff]
      intro e
      exact hup (allUp_iff.1 e)
    rw [h1] at RI
    have HE : Hid ([] = ans) := by rw [← HA.out]; exact (most_none _ _ hup).symm
    clear hup h1
    go_enter Tryz.func63, Tryz.ntmps63
    go_wp2_with fail
    go_step3
    go_wp2_with fail
    with_reducible refine RI.out.mono ?_
    rintro e u1 ⟨rfl, b1⟩
    have B2 := hide b1
    have TI := hide (tell_iter none 0 0 [] u1 (sli_nil _) (by omega))
    clear b1 RI
    go_wp2_with fail
    with_reducible refine TI.out.mono ?_
    intro e u3 h3
    have I3 := hide (h3.from' B2.out)
    clear h3 TI
    obtain ⟨F, rfl, -, -⟩ := I3.out
    go_wp2
    go_ret
    rw [← HE.out]
    exact I3.out

set_option maxHeartbeats 1000000 in
theorem or_any (a : Option Addr) (n cap : Nat) (ls : List (List Int)) (w : World) (hs : RowII w a n ls) (hn : n ≤ 5000) (hl : ∀ l ∈ ls, l.length ≤ 5000) :
    Calls Tryz.prog 39 #[.slice a n cap] w fun e w' => Iter (mostS ls 1) w e w' := by
  have MO := hide (most_any a n cap ls 1 w hs hn hl)
  clear hs hl
  go_enter Tryz.func39, Tryz.ntmps39
  go_wp2_with fail
  with_reducible refine MO.out.mono ?_
  intro e u3 h3
  have I3 := hide h3
  clear h3 MO
  obtain ⟨F, rfl, -, -⟩ := I3.out
  go_wp2
  go_ret
  exact I3.out
end Go.Proofs.YtpffhpnmbpjifaaGreat
