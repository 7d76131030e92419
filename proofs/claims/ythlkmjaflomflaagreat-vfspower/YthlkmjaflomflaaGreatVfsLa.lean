/-
  What the laws of layer 16 share: a copy of bytes, the document's example (awake): contracts, for every world.
  Conditions: as each theorem says.
-/
import Derived.Test.YthlkmjaflomflaaGreatVfsDp
import Derived.Test.YthlkmjaflomflaaGreatVfsDn
import Derived.Test.YthlkmjaflomflaaGreatVfsXb
import Derived.Test.YthlkmjaflomflaaGreatVfsXa
import Derived.Lib.SlBytesConst
import Derived.Deep.RegionHeld3
namespace Go.Proofs.YthlkmjaflomflaaGreat
open Go.RowKit Go.Maps
set_option maxRecDepth 20000
set_option linter.unusedVariables false

theorem string8 {w : World} {a : Option Addr} {n cap : Nat} {zs : List Int} (hr : Row .u8 w a n zs) :
    (convert 33 9 (.slice a n cap)).run Tryz.prog w = .ok (.string (strOfNums zs)) w := by
  obtain ⟨h1, _, _, rfl | ⟨b, off, rfl, hc⟩⟩ := hr
  · have hz : zs = [] := List.length_eq_zero_iff.1 h1
    subst hz
    rw [run_convert_bytes_string w _ _ 5 _ 0 cap Tryz.underlying33 Tryz.underlying5 Tryz.underlying9]
    cases a <;> simp [Conv.bytesToString, loadCells] <;> rfl
  · exact run_convert_bytes_arg w _ _ Tryz.underlying33 Tryz.underlying5 b off n cap zs h1 hc _ Tryz.underlying9

set_option maxHeartbeats 1000000 in
theorem bytes8_any (a : Option Addr) (n cap : Nat) (zs : List Int) (w : World) (hr : Row .u8 w a n zs) (hc : a = none → cap = 0) (hn : n ≤ 1099511627776) :
    Calls Tryz.prog 10 #[.slice a n cap] w fun e w' => ∃ a' cap', e = .returned (.slice a' n cap') ∧ OwnB w' w.heap.size a' n cap' zs ∧ Below w.heap.size w w' := by
  obtain ⟨i0, hi, hz0, hz1, hz2⟩ := info_parts Tryz.infoU8
  have hl := hr.1
  cases a with
  | none =>
    obtain rfl := hc rfl
    have h0 := hr.nz rfl
    subst h0
    have hz : zs = [] := List.length_eq_zero_iff.1 hl
    subst hz
    go_enter Tryz.func10, Tryz.ntmps10
    go_wp2_with (at_builtin; refine wpList_app_g byV_len (by decide) byV_one1 _ rfl _ _ 33 rfl w.heap.size i0 (.int .u8 0) 1 Tryz.underlying33 hi hz0 hz1 hz2 rfl none 0 0 [] rfl (ownG_nil _ _) none 0 0 [] rfl rfl (fun ad' e => by cases e) (fun _ => ⟨rfl, rfl⟩) (by omega) (by omega) (Nat.le_refl _) ?_)
    intro a2 c2 w1 o1 g1
    have O1 := hide o1
    have B1 : Hid (Below w.heap.size w w1) := (Below.refl _ w).grown g1 (Nat.le_refl _) (by intro k hk; simp [Value.ownBlock] at hk)
    clear o1 g1
    go_wp2
    go_ret
    exact ⟨a2, c2, by simp, by first | exact O1.out | simpa using O1.out, B1.out⟩
  | some ad =>
    have HR := hide (fun j u (hj : (zs.flatMap byV)[j]? = some u) => hr.cells j u (by rw [flat_by] at hj; exact hj))
    clear hr
    go_enter Tryz.func10, Tryz.ntmps10
    go_wp2_with (at_builtin; refine wpList_app_g byV_len (by decide) byV_one1 _ rfl _ _ 33 rfl w.heap.size i0 (.int .u8 0) 1 Tryz.underlying33 hi hz0 hz1 hz2 rfl none 0 0 [] rfl (ownG_nil _ _) (some ad) n cap zs rfl hl (fun ad' e => by cases e; exact HR.out) (fun e => by cases e) (by omega) (by omega) (Nat.le_refl _) ?_)
    intro a2 c2 w1 o1 g1
    have O1 : Hid (OwnB w1 w.heap.size a2 n c2 zs) := by
      first
        | exact o1
        | (have := o1; simp only [Nat.zero_add, List.nil_append] at this; exact this)
    have B1 : Hid (Below w.heap.size w w1) := (Below.refl _ w).grown g1 (Nat.le_refl _) (by intro k hk; simp [Value.ownBlock] at hk)
    clear o1 g1 HR
    go_wp2
    go_ret
    exact ⟨a2, c2, by simp, O1.out, B1.out⟩

/-! ### the document's example -/
def exF1 : Fs := { fs0 with files := [emF], turns := [⟨0, ⟨#[97]⟩, ByteArray.empty, 0⟩], n := 1 }
def exF2 : Fs := { fs0 with files := [⟨[], [⟨120, false, 0⟩, ⟨121, false, 0⟩]⟩], turns := [⟨0, ⟨#[97]⟩, ByteArray.empty, 0⟩], n := 2 }
theorem ex_create : createF fs0 ⟨#[97]⟩ = (exF1, 0) := by kernel_rfl
theorem ex_append : appendF exF1 ⟨#[97]⟩ [120, 121] = (exF2, 0) := by kernel_rfl
theorem ex_read : readF (crashF exF2 1 [1]) ⟨#[97]⟩ = some [120] := by kernel_rfl
theorem ex_list : listF (crashF exF2 0 [9]) = [] := by kernel_rfl
theorem ex_lim : LimB 2 exF2 := ⟨by decide, by decide, fun x hx => by
  obtain rfl := List.mem_singleton.1 hx
  decide, by decide⟩
theorem ex_lim1 : LimB 1 exF1 := ⟨by decide, by decide, fun x hx => by
  obtain rfl := List.mem_singleton.1 hx
  decide, by decide⟩
theorem one_pick (w : World) (z : Int) (hz : (Lit.int .i64 z).wf = true) (e : TypeId) : Row .i64 (w.alloc (.cells #[.int .i64 z] e)) (some ⟨w.heap.size, 0, none⟩) 1 [z] := by
  refine ⟨rfl, by decide, fun y hy => ?_, Or.inr ⟨w.heap.size, 0, rfl, fun i hi => ?_⟩⟩
  · obtain rfl := List.mem_singleton.1 hy; exact hz
  · obtain rfl : i = 0 := by omega
    rw [World.cell?_alloc_mark]; rfl
theorem MadeV.apart {At : World → Nat → (Nat → Prop) → Fs → Prop} {w u : World} {g : Nat} {F : Fs} (h : MadeV At w u g F) : ∃ S, At u g S F ∧ (∀ k, S k → w.heap.size ≤ k) ∧ Below w.heap.size w u := h
/-- Behind a step, of what is all from base on. -/
theorem step_from {w v u : World} {g : Nat} {S : Nat → Prop} {F : Fs} {base : Nat} (hS : ∀ k, S k → base ≤ k) (hb : Below base w v) (hB : base ≤ v.heap.size) (st : StepV LAt v u g S F) : ∃ S', LAt u g S' F ∧ (∀ k, S' k → base ≤ k) ∧ Below base w u := by
  obtain ⟨S', q1, q2, q3⟩ := st
  refine ⟨S', q1, fun k hk => ?_, hb.trans (q3.below hB (fun k hk hs => by have := hS k hs; omega))⟩
  rcases q2 k hk with e | e
  · exact hS k e
  · omega
/-- A file system that lies from here on. -/
def OnL (base : Nat) (w u : World) (g : Nat) (F : Fs) : Prop := ∃ S, LAt u g S F ∧ (∀ k, S k → base ≤ k) ∧ Below base w u ∧ base ≤ u.heap.size
theorem onL_made {w u : World} {g : Nat} {F : Fs} (h : MadeV LAt w u g F) : OnL w.heap.size w u g F := by
  obtain ⟨S, q1, q2, q3⟩ := h
  exact ⟨S, q1, q2, q3, q3.size⟩
theorem OnL.below {base : Nat} {w u v : World} {g : Nat} {F : Fs} (h : OnL base w u g F) (b : Below u.heap.size u v) : OnL base w v g F := by
  obtain ⟨S, q1, q2, q3, q4⟩ := h
  exact ⟨S, q1.below b, q2, q3.trans (b.mono q4), Nat.le_trans q4 b.size⟩
theorem OnL.step {base : Nat} {w u v : World} {g : Nat} {F G : Fs} (h : OnL base w u g F) (st : ∀ S, LAt u g S F → StepV LAt u v g S G) : OnL base w v g G := by
  obtain ⟨S, q1, q2, q3, q4⟩ := h
  have s := st S q1
  have sz : u.heap.size ≤ v.heap.size := by obtain ⟨_, _, _, c⟩ := s; exact c.size
  obtain ⟨S', r1, r2, r3⟩ := step_from q2 q3 q4 s
  exact ⟨S', r1, r2, r3, Nat.le_trans q4 sz⟩
theorem onL_step {base : Nat} {w u v : World} {g : Nat} {S : Nat → Prop} {G : Fs} (q2 : ∀ k, S k → base ≤ k) (q3 : Below base w u) (q4 : base ≤ u.heap.size) (st : StepV LAt u v g S G) : OnL base w v g G := by
  have sz : u.heap.size ≤ v.heap.size := by obtain ⟨_, _, _, c⟩ := st; exact c.size
  obtain ⟨S', r1, r2, r3⟩ := step_from q2 q3 q4 st
  exact ⟨S', r1, r2, r3, Nat.le_trans q4 sz⟩
section
variable {base : Nat} {w u : World} {g : Nat} {F : Fs} {m : Nat}
theorem on_create (h : OnL base w u g F) (hL : LimB m F) (hm : m < 1073741824) (s : ByteArray) (hs : s.size ≤ 9223372036854775807) : Calls Tryz.prog 17 #[.pointer (some ⟨g, 0, none⟩), .string s] u fun e u' => e = .returned (.int .i64 (createF F s).2) ∧ OnL base w u' g (createF F s).1 := by
  obtain ⟨S, q1, q2, q3, q4⟩ := h
  exact (lcreate_any g S F s m u q1 hL.lim hm hs).mono (fun e u' ⟨he, st⟩ => ⟨he, onL_step q2 q3 q4 st⟩)
theorem on_append (h : OnL base w u g F) (hL : LimB m F) (hm : m < 1073741824) (s : ByteArray) (hs : s.size ≤ 9223372036854775807) (a : Option Addr) (n c : Nat) (zs : List Int) (hr : Row .u8 u a n zs) (hn : n ≤ 4294967296) (hnc : n ≤ c) : Calls Tryz.prog 18 #[.pointer (some ⟨g, 0, none⟩), .string s, .slice a n c] u fun e u' => e = .returned (.int .i64 (appendF F s zs).2) ∧ OnL base w u' g (appendF F s zs).1 := by
  obtain ⟨S, q1, q2, q3, q4⟩ := h
  exact (lappend_any g S F s a n c zs m u q1 hL.lim hm hs hr hn hnc).mono (fun e u' ⟨he, st⟩ => ⟨he, onL_step q2 q3 q4 st⟩)
theorem on_cut (h : OnL base w u g F) (hL : LimB m F) (hm : m < 1073741824) (s : ByteArray) (hs : s.size ≤ 9223372036854775807) (z : Int) (hz : (Lit.int .i64 z).wf = true) : Calls Tryz.prog 28 #[.pointer (some ⟨g, 0, none⟩), .string s, .int .i64 z] u fun e u' => e = .returned (.int .i64 (cutF F s z).2) ∧ OnL base w u' g (cutF F s z).1 := by
  obtain ⟨S, q1, q2, q3, q4⟩ := h
  exact (lcut_any g S F s z m u q1 hL.lim hm hs hz).mono (fun e u' ⟨he, st⟩ => ⟨he, onL_step q2 q3 q4 st⟩)
theorem on_sync (h : OnL base w u g F) (hL : LimB m F) (hm : m < 1073741824) (s : ByteArray) (hs : s.size ≤ 9223372036854775807) : Calls Tryz.prog 21 #[.pointer (some ⟨g, 0, none⟩), .string s] u fun e u' => e = .returned (.int .i64 (syncF F s).2) ∧ OnL base w u' g (syncF F s).1 := by
  obtain ⟨S, q1, q2, q3, q4⟩ := h
  exact (lsync_any g S F s m u q1 hL.lim hm hs).mono (fun e u' ⟨he, st⟩ => ⟨he, onL_step q2 q3 q4 st⟩)
theorem on_read (h : OnL base w u g F) (hL : LimB m F) (hm : m < 1073741824) (s : ByteArray) (hs : s.size ≤ maxLen) : Calls Tryz.prog 24 #[.pointer (some ⟨g, 0, none⟩), .string s] u fun e u' => ReadP (readF F s) u e u' := by
  obtain ⟨S, q1, q2, q3, q4⟩ := h
  exact lread_any g S F s m u q1 hL.lim (by omega) hs
theorem on_list (h : OnL base w u g F) (hL : LimB m F) (hm : m < 1073741824) : Calls Tryz.prog 16 #[.pointer (some ⟨g, 0, none⟩)] u fun e u' => ∃ a c, e = .returned (.slice a (listF F).length c) ∧ OwnS u' u.heap.size a (listF F).length c (listF F) ∧ Below u.heap.size u u' := by
  obtain ⟨S, q1, q2, q3, q4⟩ := h
  exact llist_any g S F m u q1 hL.lim (by omega)
theorem on_calls (h : OnL base w u g F) : Calls Tryz.prog 25 #[.pointer (some ⟨g, 0, none⟩)] u fun e u' => e = .returned (.int .i64 F.n) ∧ u' = u := by
  obtain ⟨S, q1, q2, q3, q4⟩ := h
  exact calls_any u g S F q1
theorem on_crash (h : OnL base w u g F) (hL : LimB m F) (hm : m ≤ 536870912) (ops : Int) (ho : (Lit.int .i64 ops).wf = true) (a : Option Addr) (n c : Nat) (ps : List Int) (hr : Row .i64 u a n ps) (hn : n ≤ 281474976710656) : Calls Tryz.prog 23 #[.pointer (some ⟨g, 0, none⟩), .int .i64 ops, .slice a n c] u fun e u' => ∃ g', e = .returned (.pointer (some ⟨g', 0, none⟩)) ∧ Below u.heap.size u u' ∧ OnL base w u' g' (crashF F ops ps) := by
  obtain ⟨S, q1, q2, q3, q4⟩ := h
  refine (lcrash_any g S F ops a n c ps m u q1 hL.lim hm ho hr hn).mono ?_
  rintro e u' ⟨g', he, S', r1, r2, r3⟩
  exact ⟨g', he, r3, S', r1, fun k hk => Nat.le_trans q4 (r2 k hk), q3.trans (r3.mono q4), Nat.le_trans q4 r3.size⟩
end
theorem OnL.bel {base : Nat} {w u : World} {g : Nat} {F : Fs} (h : OnL base w u g F) : Below base w u := h.choose_spec.2.2.1

set_option maxHeartbeats 8000000 in
theorem awakeV_any (w : World) : Calls Tryz.prog 6 #[] w fun e w' => e = .returned (.bool true) ∧ Below w.heap.size w w' := by
  have hcv := fun w => Lib.run_convert_bytes_const (P := Tryz.prog) w 33 5 #[.int .u8 120, .int .u8 121] 2 2 Tryz.underlying33 Tryz.underlying5
  go_enter Tryz.func6, Tryz.ntmps6
  go_wp2_with fail
  with_reducible refine (lnew_any _).mono ?_
  rintro e u0 ⟨g, rfl, hm⟩
  have H0 := hide (onL_made hm)
  clear hm
  have CR := hide (on_create H0.out limB0 (by omega) ⟨#[97]⟩ (by decide))
  rw [ex_create] at CR
  clear H0
  go_wp2_with fail
  with_reducible refine CR.out.mono ?_
  rintro e u1 ⟨rfl, h1⟩
  have H1 := hide h1
  clear h1 CR
  have W2 : Hid (Below u1.heap.size u1 (u1.alloc (.cells #[.int .u8 120, .int .u8 121] 5 (2, 3)))) := (Below.refl _ _).alloc (Nat.le_refl _) _
  have R2 : Hid (Row .u8 (u1.alloc (.cells #[.int .u8 120, .int .u8 121] 5 (2, 3))) (some ⟨u1.heap.size, 0, none⟩) 2 [120, 121]) := by
    refine ⟨rfl, by decide, fun z hz => ?_, Or.inr ⟨u1.heap.size, 0, rfl, fun i hi => ?_⟩⟩
    · simp at hz
      rcases hz with rfl | rfl <;> decide
    · have hi2 : i = 0 ∨ i = 1 := by omega
      rcases hi2 with rfl | rfl <;> rw [World.cell?_alloc_mark] <;> rfl
  have AP := hide (on_append (H1.out.below W2.out) ex_lim1 (by omega) ⟨#[97]⟩ (by decide) (some ⟨u1.heap.size, 0, none⟩) 2 2 [120, 121] R2.out (by omega) (by omega))
  rw [ex_append] at AP
  clear H1 R2 W2
  go_wp2_with fail
  with_reducible refine AP.out.mono ?_
  rintro e u2 ⟨rfl, h2⟩
  have H2 := hide h2
  clear h2 AP
  have BA : Hid (Below u2.heap.size u2 (u2.alloc (.cells #[.int .i64 1] 3))) := (Below.refl _ _).alloc (Nat.le_refl _) _
  have CA := hide (on_crash (H2.out.below BA.out) ex_lim (by omega) 1 (by decide) (some ⟨u2.heap.size, 0, none⟩) 1 1 [1] (one_pick u2 1 (by decide) 3) (by omega))
  go_wp2_with fail
  with_reducible refine CA.out.mono ?_
  rintro e u3 ⟨g2, rfl, b3, h3⟩
  have H3 := hide (H2.out.below (bel_to BA.out (Nat.le_refl _) b3))
  have G3 := hide h3
  clear h3 b3 CA H2 BA
  have BB : Hid (Below u3.heap.size u3 (u3.alloc (.cells #[.int .i64 9] 3))) := (Below.refl _ _).alloc (Nat.le_refl _) _
  have CB := hide (on_crash (H3.out.below BB.out) ex_lim (by omega) 0 (by decide) (some ⟨u3.heap.size, 0, none⟩) 1 1 [9] (one_pick u3 9 (by decide) 3) (by omega))
  go_wp2_with fail
  with_reducible refine CB.out.mono ?_
  rintro e u4 ⟨g3, rfl, b4, h4⟩
  have H4 := hide (H3.out.below (bel_to BB.out (Nat.le_refl _) b4))
  have G4 := hide (G3.out.below (bel_to BB.out (Nat.le_refl _) b4))
  have J4 := hide h4
  clear h4 b4 CB H3 G3 BB
  have RD := hide (on_read G4.out (ex_lim.crash 1 [1]) (by omega) ⟨#[97]⟩ (by decide))
  rw [ex_read] at RD
  clear G4
  go_wp2_with fail
  with_reducible refine RD.out.mono ?_
  rintro e u5 ⟨b5, ar, cr, rfl, or⟩
  have OR1 : OwnB u5 u4.heap.size ar 1 cr [120] := or
  have ST := string8 (ownB_row OR1 (by decide) (fun z hz => by simp at hz; omega)) (cap := cr)
  have LI := hide (on_list (J4.out.below b5) (ex_lim.crash 0 [9]) (by omega))
  rw [ex_list] at LI
  have H5 := hide (H4.out.below b5)
  have eS : strOfNums [120] = ⟨#[120]⟩ := by kernel_rfl
  rw [eS] at ST
  clear or b5 RD J4 H4 OR1
  go_wp2_with fail
  with_reducible refine LI.out.mono ?_
  rintro e u6 ⟨al, cl, rfl, -, b6⟩
  have H6 := hide (H5.out.below b6)
  have CN := hide (on_calls H6.out)
  clear b6 LI H5 ST
  go_wp2_with fail
  with_reducible refine CN.out.mono ?_
  rintro e u7 ⟨rfl, hu⟩
  rw [hu]
  clear hu CN
  go_wp2
  go_ret
  exact ⟨rfl, H6.out.bel⟩
end Go.Proofs.YthlkmjaflomflaaGreat
