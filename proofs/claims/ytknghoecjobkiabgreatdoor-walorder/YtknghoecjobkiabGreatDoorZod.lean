/-
  The landed file system: New, Calls, Arm, how a call begins, names that may be, a name's file: contracts, for every world. The landed file system: a turn done to a map of names; a turn more (change); a file more (bear): contracts, for every world. The landed file system: a turn more (change); a file more (bear); SyncDir: contracts, for every world. The landed file system: a file more (bear): a contract, for every world. The landed file system: Create: a contract, for every world. The landed file system: a copy of bytes; a file's bytes and pending units exchanged: laws and contracts, for every world. The landed file system: a file grows: a contract, for every world (written by gen/vfsdh.gen.py).
  Conditions: as each theorem says.
-/
import Derived.Test.YtknghoecjobkiabGreatDoorZoc
import Derived.Test.YtknghoecjobkiabGreatDoorRows
import Derived.BigQuiet
import Derived.Deep.Cut
import Derived.Deep.QuietTactic
import Derived.Test.YtknghoecjobkiabGreatDoorZob
import Derived.Deep.AppendLies
import Derived.Lib.SliceRun
import Derived.Laws.AppendOwnNone
namespace Go.Proofs.YtknghoecjobkiabGreatDoor
open Go.RowKit Go.Maps
set_option maxRecDepth 20000
set_option linter.unusedVariables false

section
variable {w : World} {g : Nat} {S : Nat → Prop} {F : Fs} {fb : List Nat} {fh : List Fh} {bn bc : Nat} {at' : Option Addr} {ct : Nat}
theorem LB.setN (B : LB w g S F fb fh bn bc at' ct) (v : Int) : LB (w.setCell ⟨g, 4, none⟩ (.int .i64 v)) g S { F with n := v } fb fh bn bc at' ct := B.scal (ch_set w g 4 _) (by rw [heap_setCell_same w g 4 _ _ _ B.str]; rfl) rfl rfl rfl
theorem LB.setArmed (B : LB w g S F fb fh bn bc at' ct) (v : Bool) : LB (w.setCell ⟨g, 5, none⟩ (.bool v)) g S { F with armed := v } fb fh bn bc at' ct := B.scal (ch_set w g 5 _) (by rw [heap_setCell_same w g 5 _ _ _ B.str]; rfl) rfl rfl rfl
theorem LB.setAfter (B : LB w g S F fb fh bn bc at' ct) (v : Int) : LB (w.setCell ⟨g, 7, none⟩ (.int .i64 v)) g S { F with after := v } fb fh bn bc at' ct := B.scal (ch_set w g 7 _) (by rw [heap_setCell_same w g 7 _ _ _ B.str]; rfl) rfl rfl rfl
theorem LB.setDark (B : LB w g S F fb fh bn bc at' ct) (v : Bool) : LB (w.setCell ⟨g, 8, none⟩ (.bool v)) g S { F with dark := v } fb fh bn bc at' ct := B.scal (ch_set w g 8 _) (by rw [heap_setCell_same w g 8 _ _ _ B.str]; rfl) rfl rfl rfl
end
/-- What a call meets. -/
def meetX (F : Fs) : Fs × Option Int :=
  if F.dark = true then (F, some 15)
  else if F.armed = false then (F, none)
  else if 0 < F.after then ({ F with after := F.after - 1 }, none)
  else if F.kind = 0 then ({ F with armed := false, dark := true }, some 15)
  else ({ F with armed := false }, some F.kind)
theorem call_meet (F : Fs) : callF F = meetX { F with n := F.n + 1 } := rfl
theorem meetX_cases (F : Fs) : (F.dark = true ∧ meetX F = (F, some 15)) ∨ (F.dark = false ∧ F.armed = false ∧ meetX F = (F, none)) ∨ (F.dark = false ∧ F.armed = true ∧ 0 < F.after ∧ meetX F = ({ F with after := F.after - 1 }, none)) ∨ (F.dark = false ∧ F.armed = true ∧ ¬ 0 < F.after ∧ F.kind = 0 ∧ meetX F = ({ F with armed := false, dark := true }, some 15)) ∨ (F.dark = false ∧ F.armed = true ∧ ¬ 0 < F.after ∧ ¬ F.kind = 0 ∧ meetX F = ({ F with armed := false }, some F.kind)) := by
  unfold meetX
  cases hd : F.dark with
  | true => left; simp
  | false =>
    right
    cases ha : F.armed with
    | false => left; simp
    | true =>
      right
      by_cases h : 0 < F.after
      · left; simp [h]
      · right
        by_cases hk : F.kind = 0
        · left; simp [h, hk]
        · right; simp [h, hk]

set_option maxHeartbeats 4000000 in
theorem meet_any (w : World) (g : Nat) (S : Nat → Prop) (F : Fs) (fb : List Nat) (fh : List Fh) (bn bc : Nat) (at' : Option Addr) (ct : Nat) (B : LB w g S F fb fh bn bc at' ct) (ha : 0 ≤ F.after ∧ F.after ≤ 9223372036854775807) :
    Calls Tryz.prog 89 #[.pointer (some ⟨g, 5, none⟩)] w fun e w' => e = .returned (.int .i64 ((meetX F).2.getD 0)) ∧ LB w' g S (meetX F).1 fb fh bn bc at' ct ∧ Ch (fun k => k = g) w w' := by
  have HP : Hid (∀ (G' : Fs) (o : Option Int) (u : World), meetX F = (G', o) → LB u g S G' fb fh bn bc at' ct → Ch (fun k => k = g) w u → (Ending.returned (.int .i64 (o.getD 0)) = .returned (.int .i64 ((meetX F).2.getD 0)) ∧ LB u g S (meetX F).1 fb fh bn bc at' ct ∧ Ch (fun k => k = g) w u)) := fun G' o u e hb hc => by
    rw [e]
    exact ⟨rfl, hb, hc⟩
  have c5 := B.c5
  have c6 := B.c6
  have c7 := B.c7
  have c8 := B.c8
  have f5 := B.fz 5
  have f7 := B.fz 7
  rcases meetX_cases F with ⟨q1, q⟩ | ⟨q1, q2, q⟩ | ⟨q1, q2, q3, q⟩ | ⟨q1, q2, q3, q4, q⟩ | ⟨q1, q2, q3, q4, q⟩
  · have HE := hide (HP.out _ _ w q B (Ch.refl _ _))
    rw [q1] at c8
    clear q HP B
    go_enter Tryz.func89, Tryz.ntmps89
    go_wp2
    go_ret
    exact HE.out
  · have HE := hide (HP.out _ _ w q B (Ch.refl _ _))
    rw [q1] at c8
    rw [q2] at c5
    clear q HP B
    go_enter Tryz.func89, Tryz.ntmps89
    go_wp2
    go_ret
    exact HE.out
  · have HE := hide (HP.out _ _ (w.setCell ⟨g, 7, none⟩ (.int .i64 (F.after - 1))) q (B.setAfter _) (ch_set w g 7 _))
    have hw : IntKind.i64.wrap (F.after - 1) = F.after - 1 := by rw [IntKind.wrap_i64]; omega
    rw [q1] at c8
    rw [q2] at c5
    clear q HP B
    go_enter Tryz.func89, Tryz.ntmps89
    go_wp2
    go_ret
    exact HE.out
  · obtain ⟨W2, hW2⟩ : ∃ W2, Hid (w.setCell ⟨g, 5, none⟩ (.bool false) = W2) := ⟨_, rfl⟩
    have B2 : Hid (LB W2 g S { F with armed := false } fb fh bn bc at' ct) := by rw [← hW2.out]; exact B.setArmed false
    have K2 : Hid (Ch (fun k => k = g) w W2) := by rw [← hW2.out]; exact ch_set w g 5 _
    have x6 := B2.out.c6
    have x8 := B2.out.c8
    have y8 := B2.out.fz 8
    dsimp only at x6 x8
    have HE := hide (HP.out _ _ (W2.setCell ⟨g, 8, none⟩ (.bool true)) q (B2.out.setDark true) (K2.out.trans (ch_set W2 g 8 _)))
    rw [q1] at c8
    rw [q2] at c5
    rw [q4] at x6
    clear q HP B B2
    go_enter Tryz.func89, Tryz.ntmps89
    go_upto_region 9 with fail
    rw [hW2.out]
    clear c5 c6 c7 c8
    go_wp2
    go_ret
    exact HE.out
  · obtain ⟨W2, hW2⟩ : ∃ W2, Hid (w.setCell ⟨g, 5, none⟩ (.bool false) = W2) := ⟨_, rfl⟩
    have B2 : Hid (LB W2 g S { F with armed := false } fb fh bn bc at' ct) := by rw [← hW2.out]; exact B.setArmed false
    have K2 : Hid (Ch (fun k => k = g) w W2) := by rw [← hW2.out]; exact ch_set w g 5 _
    have x6 := B2.out.c6
    dsimp only at x6
    have HE := hide (HP.out _ _ W2 q B2.out K2.out)
    have z4 : (F.kind != 0) = true := by simpa using q4
    rw [q1] at c8
    rw [q2] at c5
    clear q HP B B2
    go_enter Tryz.func89, Tryz.ntmps89
    go_upto_region 9 with fail
    rw [hW2.out]
    clear c5 c6 c7 c8
    go_wp2
    go_ret
    exact HE.out

set_option maxHeartbeats 2000000 in
theorem vbegin_any (w : World) (g : Nat) (S : Nat → Prop) (F : Fs) (fb : List Nat) (fh : List Fh) (bn bc : Nat) (at' : Option Addr) (ct m : Nat) (B : LB w g S F fb fh bn bc at' ct) (hV : GoodV F) (hL : Lim m F) (hm : m ≤ 1073741824) :
    Calls Tryz.prog 50 #[.pointer (some ⟨g, 0, none⟩)] w fun e w' => e = .returned (.int .i64 ((callF F).2.getD 0)) ∧ LB w' g S (callF F).1 fb fh bn bc at' ct ∧ Ch (fun k => k = g) w w' := by
  obtain ⟨W1, hW1⟩ : ∃ W1, Hid (w.setCell ⟨g, 4, none⟩ (.int .i64 (F.n + 1)) = W1) := ⟨_, rfl⟩
  have B1 : Hid (LB W1 g S { F with n := F.n + 1 } fb fh bn bc at' ct) := by rw [← hW1.out]; exact B.setN _
  have K1 : Hid (Ch (fun k => k = g) w W1) := by rw [← hW1.out]; exact ch_set w g 4 _
  have MT := hide (meet_any W1 g S _ fb fh bn bc at' ct B1.out hV.aft)
  rw [← call_meet] at MT
  have hn := hL.n
  have hw : IntKind.i64.wrap (F.n + 1) = F.n + 1 := by rw [IntKind.wrap_i64]; omega
  have c4 := B.c4
  have f4 := B.fz 4
  clear B B1 hV hL
  go_enter Tryz.func50, Tryz.ntmps50
  go_upto_region 2 with fail
  rw [hW1.out]
  clear c4 f4
  go_wp2_with fail
  with_reducible refine MT.out.mono ?_
  rintro e w2 ⟨rfl, h1, h2⟩
  have H1 := hide h1
  have H2 := hide h2
  clear h1 h2 MT
  go_wp2
  go_ret
  exact ⟨rfl, H1.out, K1.out.trans H2.out⟩

theorem isname_any (s : ByteArray) (w : World) (hs : s.size ≤ 9223372036854775807) : Calls Tryz.prog 53 #[.string s] w fun e w' => e = .returned (.bool (mayN s)) ∧ w' = w := by
  by_cases h1 : 1 ≤ s.size
  · by_cases h2 : s.size ≤ 64
    · rw [show mayN s = true by unfold mayN; simp [h1, h2]]
      have d1 : (1 : Int) ≤ (s.size : Int) := by omega
      have d2 : (s.size : Int) ≤ 64 := by omega
      go_enter Tryz.func53, Tryz.ntmps53
      go_wp2
      go_ret
      exact ⟨rfl, rfl⟩
    · rw [show mayN s = false by unfold mayN; simp [h2]]
      have d1 : (1 : Int) ≤ (s.size : Int) := by omega
      have d2 : ¬ (s.size : Int) ≤ 64 := by omega
      go_enter Tryz.func53, Tryz.ntmps53
      go_wp2
      go_ret
      exact ⟨rfl, rfl⟩
  · rw [show mayN s = false by unfold mayN; simp [h1]]
    have d1 : ¬ (1 : Int) ≤ (s.size : Int) := by omega
    go_enter Tryz.func53, Tryz.ntmps53
    go_wp2
    go_ret
    exact ⟨rfl, rfl⟩

theorem mayN_max {s : ByteArray} (h : mayN s = true) : s.size ≤ maxLen := by
  unfold mayN at h
  simp at h
  unfold maxLen
  omega
theorem zeroFl (w : World) : (zeroValue 90).run Tryz.prog w = .ok (.pointer none) w := by kernel_rfl
/-- A look at a name. -/
theorem look_name {w : World} {b n : Nat} {fb : List Nat} {l : List Dn} (h : MapS w b n (nmV fb l)) {s : ByteArray} (hs : s.size ≤ maxLen) :
    (Instr.lookup 67 (.map (some b)) (.string s) true).run Tryz.prog w = .ok (.tuple #[((fileD l s).map (ptrV fb)).getD (.pointer none), .bool (fileD l s).isSome]) w := by
  rw [h.look_ok Tryz.underlying67 (zeroFl w) hs, nmV_some]
  rfl
theorem look_name1 {w : World} {b n : Nat} {fb : List Nat} {l : List Dn} (h : MapS w b n (nmV fb l)) {s : ByteArray} (hs : s.size ≤ maxLen) :
    (Instr.lookup 67 (.map (some b)) (.string s) false).run Tryz.prog w = .ok (((fileD l s).map (ptrV fb)).getD (.pointer none)) w := by
  rw [h.look Tryz.underlying67 (zeroFl w) hs]
  rfl
/-- What find tells. -/
def findV (fb : List Nat) (F : Fs) (s : ByteArray) : Value := if mayN s = false then .tuple #[.pointer none, .int .i64 1] else match fileF F s with
  | none => .tuple #[.pointer none, .int .i64 3]
  | some k => .tuple #[ptrV fb k, .int .i64 0]

set_option maxHeartbeats 2000000 in
theorem lfind_any (w : World) (g : Nat) (S : Nat → Prop) (F : Fs) (fb : List Nat) (fh : List Fh) (bn bc : Nat) (at' : Option Addr) (ct : Nat) (s : ByteArray) (B : LB w g S F fb fh bn bc at' ct) (hs : s.size ≤ 9223372036854775807) :
    Calls Tryz.prog 51 #[.pointer (some ⟨g, 0, none⟩), .string s] w fun e w' => e = .returned (findV fb F s) ∧ w' = w := by
  have IN := hide (isname_any s w hs)
  cases hm : mayN s with
  | false =>
    have HE : Hid (findV fb F s = .tuple #[.pointer none, .int .i64 1]) := by show _ = _; unfold findV; rw [if_pos hm]
    rw [HE.out]
    clear B
    go_enter Tryz.func51, Tryz.ntmps51
    go_wp2_with fail
    with_reducible refine IN.out.mono ?_
    rintro e u ⟨rfl, rfl⟩
    rw [hm]
    go_wp2
    refine bodyPost_ret (v := .tuple #[.pointer none, .int .i64 1]) (by simp [results, Tryz.results51, go_sem]) rfl ?_
    exact ⟨rfl, rfl⟩
  | true =>
    have lk := look_name B.names (mayN_max hm)
    have c0 := B.c0
    have hE : findV fb F s = match fileF F s with
      | none => .tuple #[.pointer none, .int .i64 3]
      | some k => .tuple #[ptrV fb k, .int .i64 0] := by unfold findV; rw [if_neg (by rw [hm]; simp)]
    unfold fileF at hE
    clear B
    cases hf : fileD (dirF F) s with
    | none =>
      rw [hf] at lk hE
      dsimp only [Option.map_none, Option.getD_none, Option.isSome_none] at lk hE
      rw [hE]
      clear hE hf
      go_enter Tryz.func51, Tryz.ntmps51
      go_wp2_with fail
      with_reducible refine IN.out.mono ?_
      rintro e u ⟨rfl, hu⟩
      rw [hu, hm]
      clear hu
      go_wp2
      refine bodyPost_ret (v := .tuple #[.pointer none, .int .i64 3]) (by simp [results, Tryz.results51, go_sem]) rfl ?_
      exact ⟨rfl, rfl⟩
    | some k =>
      rw [hf] at lk hE
      dsimp only [Option.map_some, Option.getD_some, Option.isSome_some] at lk hE
      unfold ptrV at lk hE
      generalize fb.getD k 0 = pk at lk hE
      rw [hE]
      clear hE hf
      go_enter Tryz.func51, Tryz.ntmps51
      go_wp2_with fail
      with_reducible refine IN.out.mono ?_
      rintro e u ⟨rfl, hu⟩
      rw [hu, hm]
      clear hu
      go_wp2
      refine bodyPost_ret (v := .tuple #[.pointer (some ⟨pk, 0, none⟩), .int .i64 0]) (by simp [results, Tryz.results51, go_sem]) rfl ?_
      exact ⟨rfl, rfl⟩

theorem lnew_any (w : World) : Calls Tryz.prog 5 #[] w fun e w' => ∃ g, e = .returned (.pointer (some ⟨g, 0, none⟩)) ∧ MadeV LAt w w' g fs0 := by
  have hmm := @run_makeMap Tryz.prog
  go_enter Tryz.func5, Tryz.ntmps5
  go_wp2
  go_ret
  have s1 : (w.alloc (.map #[] 0)).heap.size = w.heap.size + 1 := by simp
  have s2 : ((w.alloc (.map #[] 0)).alloc (.map #[] 0)).heap.size = w.heap.size + 1 + 1 := by simp
  have m1 := mapS_new w
  have m2 := mapS_new (w.alloc (.map #[] 0))
  rw [s1] at m2
  have b1 : ∀ (u : World) (o : Obj), Below u.heap.size u (u.alloc o) := fun u o => (Below.refl _ _).alloc (Nat.le_refl _) _
  have n0 : ∀ v, MapS v w.heap.size 0 (fun _ => none) → MapS v w.heap.size 0 (nmV [] []) := fun v h => h.congr (fun s => rfl)
  have n1 := (m1.below (b1 _ (.map #[] 0))).below (b1 _ (.cells (lfC fs0 w.heap.size (w.heap.size + 1) none 0) 72))
  have n2 := m2.below (b1 _ (.cells (lfC fs0 w.heap.size (w.heap.size + 1) none 0) 72))
  refine ⟨w.heap.size + 1 + 1, by simp, fun k => w.heap.size ≤ k ∧ k ≤ w.heap.size + 1 + 1, ⟨good0, goodN0, [], [], w.heap.size, w.heap.size + 1, none, 0, ⟨⟨by omega, by omega⟩, fun k hk => by simp; omega, ?_, n0 _ n1, n2.congr (fun s => rfl), by omega, ⟨by omega, by omega⟩, ⟨by omega, by omega⟩, ownG_nil _ _, fun b hb => by simp [Value.ownBlock] at hb, rfl, rfl, fun i h x hi => by simp at hi, fun i h j hi => by simp at hi, fun i i' h h' j _ hi => by simp at hi⟩⟩, fun k hk => hk.1, bel_al (bel_al (bel_al (Below.refl _ _) (Nat.le_refl _) _) (Nat.le_refl _) _) (Nat.le_refl _) _⟩
  have := World.alloc_heap_new ((w.alloc (.map #[] 0)).alloc (.map #[] 0)) (.cells (lfC fs0 w.heap.size (w.heap.size + 1) none 0) 72)
  rwa [s2] at this
end Go.Proofs.YtknghoecjobkiabGreatDoor

namespace Go.Proofs.YtknghoecjobkiabGreatDoor
open Go.RowKit Go.Maps
set_option maxRecDepth 20000
set_option linter.unusedVariables false

theorem nmV_give {fb : List Nat} {l : List Dn} {t : Tn} (ht : OkT1 l t) (hk : t.k = 0) (s : ByteArray) : updF (nmV fb l) t.nm (ptrV fb t.f) s = nmV fb (turnD l t) s := by
  unfold updF nmV
  rw [fileD_turn ht, if_pos hk]
  by_cases e : s = t.nm
  · rw [if_pos e, if_pos e]; rfl
  · rw [if_neg e, if_neg e]
theorem nmV_move {fb : List Nat} {l : List Dn} {t : Tn} (ht : OkT1 l t) (hk : t.k = 1) {f : Nat} (hf : fileD l t.nm = some f) (s : ByteArray) : updF (delF (nmV fb l) t.nm) t.to (ptrV fb f) s = nmV fb (turnD l t) s := by
  unfold updF delF nmV
  rw [fileD_turn ht, if_neg (show ¬ t.k = 0 by omega), if_pos hk, hf]
  by_cases e : s = t.to
  · rw [if_pos e, if_pos e]; rfl
  · rw [if_neg e, if_neg e]
    by_cases q : s = t.nm
    · rw [if_pos q, if_pos q]; rfl
    · rw [if_neg q, if_neg q]
theorem nmV_take {fb : List Nat} {l : List Dn} {t : Tn} (ht : OkT1 l t) (hk : t.k = 2) (s : ByteArray) : delF (nmV fb l) t.nm s = nmV fb (turnD l t) s := by
  unfold delF nmV
  rw [fileD_turn ht, if_neg (show ¬ t.k = 0 by omega), if_neg (show ¬ t.k = 1 by omega)]
  by_cases q : s = t.nm
  · rw [if_pos q, if_pos q]; rfl
  · rw [if_neg q, if_neg q]

set_option maxHeartbeats 4000000 in
theorem ldo_any (w : World) (b n : Nat) (fb : List Nat) (l : List Dn) (t : Tn) (h : MapS w b n (nmV fb l)) (ok : OkT1 l t) (hk : t.k ≤ 2) (hn : n < 1099511627776) :
    Calls Tryz.prog 41 #[.agg (tuV fb t).toArray, .map (some b)] w fun e w' => e = .returned (.tuple #[]) ∧ MapS w' b (n + 1) (nmV fb (turnD l t)) ∧ Ch (fun j => j = b) w w' := by
  obtain ⟨⟨hs1, hs2⟩, -⟩ := id ok
  have hm1 : t.nm.size ≤ maxLen := by unfold maxLen; omega
  have hm2 : t.to.size ≤ maxLen := by unfold maxLen; omega
  have hnm : n < maxLen := by unfold maxLen; omega
  obtain ⟨k, nm, to, f⟩ := t
  dsimp only at hk hs1 hs2 hm1 hm2
  have hk3 : k = 0 ∨ k = 1 ∨ k = 2 := by omega
  rcases hk3 with rfl | rfl | rfl
  · have e0 : tuV fb ⟨0, nm, to, f⟩ = [.int .i64 0, .string .empty, .string nm, .pointer (some ⟨fb.getD f 0, 0, none⟩)] := rfl
    rw [e0]
    obtain ⟨W, hW⟩ : ∃ W, Hid (w.alloc (.cells #[.int .i64 0, .string .empty, .string nm, .pointer (some ⟨fb.getD f 0, 0, none⟩)] 102) = W) := ⟨_, rfl⟩
    have LW : Hid (Below w.heap.size w W) := by rw [← hW.out]; exact (Below.refl _ _).alloc (Nat.le_refl _) _
    have MW := h.below LW.out
    obtain ⟨w1, st, m1, g1⟩ := MW.store Tryz.underlying67 hnm hm1 (ptrV fb f)
    have GO : Hid (MapS w1 b (n + 1) (nmV fb (turnD l ⟨0, nm, to, f⟩)) ∧ Ch (fun j => j = b) w w1) := ⟨m1.congr (nmV_give ok rfl), ((Ch.of_below LW.out).more (fun _ _ h => h.elim)).trans ((Ch.grown g1).more (fun j _ e => (Option.some.inj e).symm))⟩
    unfold ptrV at st
    generalize fb.getD f 0 = pk at *
    clear h ok MW m1 g1 e0
    go_enter Tryz.func41, Tryz.ntmps41
    go_upto_region 3 with fail
    rw [hW.out]
    have x2 : W.cell? ⟨w.heap.size, 2, none⟩ = some (.string nm) := by rw [← hW.out, World.cell?_alloc_mark]; rfl
    have x3 : W.cell? ⟨w.heap.size, 3, none⟩ = some (.pointer (some ⟨pk, 0, none⟩)) := by rw [← hW.out, World.cell?_alloc_mark]; rfl
    clear hW
    go_wp2
    go_end0
    exact ⟨rfl, GO.out⟩
  · have e0 : tuV fb ⟨1, nm, to, f⟩ = [.int .i64 1, .string nm, .string to, .pointer none] := rfl
    rw [e0]
    obtain ⟨W, hW⟩ : ∃ W, Hid (w.alloc (.cells #[.int .i64 1, .string nm, .string to, .pointer none] 102) = W) := ⟨_, rfl⟩
    have LW : Hid (Below w.heap.size w W) := by rw [← hW.out]; exact (Below.refl _ _).alloc (Nat.le_refl _) _
    have MW := h.below LW.out
    obtain ⟨z, hz⟩ := Option.isSome_iff_exists.1 (ok.2.2 rfl).2
    dsimp only at hz
    have lk := look_name1 MW hm1
    rw [hz] at lk
    dsimp only [Option.map_some, Option.getD_some] at lk
    have bs := MW.isMap
    obtain ⟨w1, dr, m1, g1⟩ := MW.drop Tryz.underlying67 hm1 0
    obtain ⟨w2, st, m2, g2⟩ := m1.store Tryz.underlying67 hnm hm2 (ptrV fb z)
    have GO : Hid (MapS w2 b (n + 1) (nmV fb (turnD l ⟨1, nm, to, f⟩)) ∧ Ch (fun j => j = b) w w2) := ⟨m2.congr (nmV_move ok rfl hz), (((Ch.of_below LW.out).more (fun _ _ h => h.elim)).trans ((Ch.grown g1).more (fun j _ e => (Option.some.inj e).symm))).trans ((Ch.grown g2).more (fun j _ e => (Option.some.inj e).symm))⟩
    have hWb : W.heap[w.heap.size]? = some (.cells #[.int .i64 1, .string nm, .string to, .pointer none] 102 (0, 0)) := by rw [← hW.out]; exact heap_alloc_new w _
    have x1 : W.cell? ⟨w.heap.size, 1, none⟩ = some (.string nm) := by rw [cell_of_row W w.heap.size 1 _ _ (0, 0) hWb]; rfl
    have y2 : w1.cell? ⟨w.heap.size, 2, none⟩ = some (.string to) := by
      have hb : w1.heap[w.heap.size]? = W.heap[w.heap.size]? := (Ch.grown g1).block _ (Array.getElem?_eq_some_iff.1 hWb).1 (fun e => by
        obtain rfl := Option.some.inj e
        exact bs.ne ⟨_, _, hWb⟩ rfl)
      rw [cell_of_row w1 w.heap.size 2 _ _ (0, 0) (hb.trans hWb)]; rfl
    unfold ptrV at lk st
    generalize fb.getD z 0 = pk at lk st
    clear h ok MW m1 g1 m2 g2 e0 hz bs hWb
    go_enter Tryz.func41, Tryz.ntmps41
    go_upto_region 5 with fail
    rw [hW.out]
    clear hW
    go_wp2
    go_end0
    exact ⟨rfl, GO.out⟩
  · have e0 : tuV fb ⟨2, nm, to, f⟩ = [.int .i64 2, .string nm, .string to, .pointer none] := rfl
    rw [e0]
    obtain ⟨W, hW⟩ : ∃ W, Hid (w.alloc (.cells #[.int .i64 2, .string nm, .string to, .pointer none] 102) = W) := ⟨_, rfl⟩
    have LW : Hid (Below w.heap.size w W) := by rw [← hW.out]; exact (Below.refl _ _).alloc (Nat.le_refl _) _
    have MW := h.below LW.out
    obtain ⟨w1, dr, m1, g1⟩ := MW.drop Tryz.underlying67 hm1 0
    have GO : Hid (MapS w1 b (n + 1) (nmV fb (turnD l ⟨2, nm, to, f⟩)) ∧ Ch (fun j => j = b) w w1) := ⟨(m1.congr (nmV_take ok rfl)).mono (by omega), ((Ch.of_below LW.out).more (fun _ _ h => h.elim)).trans ((Ch.grown g1).more (fun j _ e => (Option.some.inj e).symm))⟩
    have x1 : W.cell? ⟨w.heap.size, 1, none⟩ = some (.string nm) := by rw [← hW.out, World.cell?_alloc_mark]; rfl
    clear h ok MW m1 g1 e0
    go_enter Tryz.func41, Tryz.ntmps41
    go_upto_region 9 with fail
    rw [hW.out]
    clear hW
    go_wp2
    go_end0
    exact ⟨rfl, GO.out⟩
end Go.Proofs.YtknghoecjobkiabGreatDoor

namespace Go.Proofs.YtknghoecjobkiabGreatDoor
open Go.RowKit Go.Maps
set_option maxRecDepth 20000
set_option linter.unusedVariables false

theorem Tryz.infoTu : (Tryz.prog.info? 102).map (fun i => (i.zero, i.size, i.bytes)) = some (some (.agg #[.int .i64 0, .string .empty, .string .empty, .pointer none]), 4, 48) := by kernel_rfl
theorem GoodV.turn {F : Fs} (h : GoodV F) {t : Tn} (ht : t.k ≤ 2 ∧ (t.k = 0 → t.f < F.files.length)) : GoodV { F with turns := F.turns ++ [t] } := by
  refine ⟨h.sure, fun x hx => ?_, h.cuts, h.byte, h.aft, h.knd⟩
  rcases List.mem_append.1 hx with e | e
  · exact h.turns x e
  · obtain rfl := List.mem_singleton.1 e
    exact ht
theorem dirF_snoc (F : Fs) (t : Tn) : dirF { F with turns := F.turns ++ [t] } = turnD (dirF F) t := by
  unfold dirF turnsD
  rw [List.foldl_append]
  rfl
/-- A turn more. -/
theorem LB.change {w wA u4 : World} {g : Nat} {S : Nat → Prop} {F : Fs} {fb : List Nat} {fh : List Fh} {bn bc : Nat} {at' : Option Addr} {ct : Nat} (B : LB w g S F fb fh bn bc at' ct) (hN : GoodN F) {t : Tn} (ht : OkT1 (dirF F) t) (kA : Ch (fun j => j = bn) w wA) {n : Nat} (mA : MapS wA bn n (nmV fb (turnD (dirF F) t)))
    {N g' c' : Nat} (hNT : F.turns.length = N) (o : OwnTu fb u4 0 (some ⟨g', 0, none⟩) (N + 1) c' (F.turns ++ [t])) (gr : Ch (fun j => (Value.slice at' N ct).ownBlock = some j) wA u4) (lies : (Value.slice at' N ct).ownBlock = some g' ∨ w.heap.size ≤ g') :
    LB (u4.setCell ⟨g, 2, none⟩ (.slice (some ⟨g', 0, none⟩) (N + 1) c')) g (fun j => S j ∨ (w.heap.size ≤ j ∧ j < u4.heap.size)) { F with turns := F.turns ++ [t] } fb fh bn bc (some ⟨g', 0, none⟩) c' ∧ Ch S w (u4.setCell ⟨g, 2, none⟩ (.slice (some ⟨g', 0, none⟩) (N + 1) c')) := by
  subst hNT
  have hl : (F.turns ++ [t]).length = F.turns.length + 1 := by simp
  rw [← hl] at o ⊢
  have hb : g' < u4.heap.size := (OwnG.cellsT o g' rfl).1.lt
  have hbn := B.names.isMap
  have k4 : Ch (fun j => j = bn ∨ (Value.slice at' F.turns.length ct).ownBlock = some j) w u4 := (kA.more (fun _ _ e => Or.inl e)).trans (gr.more (fun _ _ e => Or.inr e))
  have ks : Ch (fun j => j = g) u4 (u4.setCell ⟨g, 2, none⟩ (.slice (some ⟨g', 0, none⟩) (F.turns ++ [t]).length c')) := ch_set u4 g 2 _
  have hg4 : u4.heap[g]? = some (.cells (lfC F bn bc at' ct) 72 (0, 0)) := (k4.block g (B.lt g B.own) (fun e => by
    rcases e with e | e
    · exact hbn.ne B.cellsT e.symm
    · exact (OwnG.cellsT B.turns g e).1.ne B.cellsT (by decide) rfl)).trans B.str
  have cg4 : CellsT u4 g 72 := ⟨_, _, hg4⟩
  have kall : Ch (fun j => j = bn ∨ (Value.slice at' F.turns.length ct).ownBlock = some j ∨ j = g) w (u4.setCell ⟨g, 2, none⟩ (.slice (some ⟨g', 0, none⟩) (F.turns ++ [t]).length c')) := (k4.more (fun _ _ e => e.elim Or.inl (fun e => Or.inr (Or.inl e)))).trans (ks.more (fun _ _ e => Or.inr (Or.inr e)))
  refine ⟨⟨Or.inl B.own, ?_, ?_, ?_, ?_, B.ne, Or.inl B.bnS, Or.inl B.bcS, ?_, ?_, B.fbs, B.len, ?_, fun i h j hi hj => Or.inl (B.filesS i h j hi hj), B.apart⟩, kall.more (fun j _ e => ?_)⟩
  · rintro j (e | e)
    · exact Nat.lt_of_lt_of_le (B.lt j e) kall.size
    · exact Nat.lt_of_lt_of_le e.2 ks.size
  · rw [heap_setCell_same u4 g 2 _ _ _ hg4]
    rfl
  · rw [dirF_snoc]
    have m4 := (mA.ch gr (fun e => by
      have c1 := (OwnG.cellsT B.turns bn e).1
      exact hbn.ne c1 rfl)).ch ks (fun e => hbn.ne B.cellsT e)
    exact m4.tightD (hN.dir.turn ht)
  · exact B.certain.ch kall (fun e => by
      rcases e with e | e | e
      · exact B.ne e.symm
      · exact B.certain.isMap.ne (OwnG.cellsT B.turns bc e).1 rfl
      · exact B.certain.isMap.ne B.cellsT e)
  · exact OwnG.ch o ks (fun b hb => (OwnG.cellsT o b hb).1.ne cg4 (by decide))
  · intro b hb2
    simp [Value.ownBlock] at hb2
    subst hb2
    rcases lies with e | e
    · exact Or.inl (B.turnsS _ e)
    · exact Or.inr ⟨e, hb⟩
  · intro i h x hi hx
    have m := B.files i h x hi hx
    exact m.ch kall (fun j hj e => by
      rcases e with e | e | e
      · exact hbn.ne3 (m.kind hj) e.symm
      · exact ne_ty3 (OwnG.cellsT B.turns j e).1 (m.kind hj) (by decide) (by decide) (by decide) rfl
      · exact ne_ty3 B.cellsT (m.kind hj) (by decide) (by decide) (by decide) e.symm)
  · rcases e with e | e | e
    · exact e ▸ B.bnS
    · exact B.turnsS j e
    · exact e ▸ B.own
theorem tu_cells (w : World) (fb : List Nat) (t : Tn) (e : TypeId) : ∀ j u, (tuV fb t)[j]? = some u → (w.alloc (.cells (tuV fb t).toArray e)).cell? ((⟨w.heap.size, 0, none⟩ : Addr).add j) = some u := by
  intro j u h
  unfold tuV at h ⊢
  split at h
  · rename_i hk
    rw [if_pos hk]
    match j, h with
    | 0, h => simp at h; subst h; rw [Addr.add_lit, World.cell?_alloc_mark]; rfl
    | 1, h => simp at h; subst h; rw [Addr.add_lit, World.cell?_alloc_mark]; rfl
    | 2, h => simp at h; subst h; rw [Addr.add_lit, World.cell?_alloc_mark]; rfl
    | 3, h => simp at h; subst h; rw [Addr.add_lit, World.cell?_alloc_mark]; rfl
  · rename_i hk
    rw [if_neg hk]
    match j, h with
    | 0, h => simp at h; subst h; rw [Addr.add_lit, World.cell?_alloc_mark]; rfl
    | 1, h => simp at h; subst h; rw [Addr.add_lit, World.cell?_alloc_mark]; rfl
    | 2, h => simp at h; subst h; rw [Addr.add_lit, World.cell?_alloc_mark]; rfl
    | 3, h => simp at h; subst h; rw [Addr.add_lit, World.cell?_alloc_mark]; rfl
/-- A turn by its four words. -/
theorem tuV_four (fb : List Nat) (t : Tn) : ∃ (k : Int) (a b : ByteArray) (p : Option Addr), tuV fb t = [.int .i64 k, .string a, .string b, .pointer p] := by
  unfold tuV ptrV
  split
  · exact ⟨_, _, _, _, rfl⟩
  · exact ⟨_, _, _, _, rfl⟩

set_option maxHeartbeats 4000000 in
theorem lchange_any (w : World) (g : Nat) (S : Nat → Prop) (F : Fs) (fb : List Nat) (fh : List Fh) (bn bc : Nat) (at' : Option Addr) (ct m : Nat) (t : Tn) (B : LB w g S F fb fh bn bc at' ct) (hN : GoodN F) (hL : Lim m F) (hm : m ≤ 1073741825) (ht : OkT1 (dirF F) t) (hk : t.k ≤ 2) :
    Calls Tryz.prog 54 #[.pointer (some ⟨g, 0, none⟩), .agg (tuV fb t).toArray] w fun e w' => e = .returned (.tuple #[]) ∧ ∃ S' a' c', LB w' g S' { F with turns := F.turns ++ [t] } fb fh bn bc a' c' ∧ (∀ k, S' k → S k ∨ w.heap.size ≤ k) ∧ Ch S w w' := by
  obtain ⟨i1, hi1, hz10, hz11, hz12⟩ := info_parts Tryz.infoTu
  have hdl : (dirF F).length < 1099511627776 := by
    have := turnsD_len F.turns F.sure
    have h1 := hL.sure
    have h2 := hL.turns
    unfold dirF
    omega
  obtain ⟨NT, hNT⟩ : ∃ NT, Hid (F.turns.length = NT) := ⟨_, rfl⟩
  have hNTb : NT ≤ 1073741825 := by have := hL.turns; have := hNT.out; omega
  have OK := hide ht
  have HN := hide hN
  have RV := hide B
  have DO := hide (fun u (hu : MapS u bn (dirF F).length (nmV fb (dirF F))) => ldo_any u bn (dirF F).length fb (dirF F) t hu ht hk hdl)
  have OT := hide B.turns
  rw [hNT.out] at OT
  have x0 := B.c0
  have x2 := B.c2
  rw [hNT.out] at x2
  obtain ⟨W, hW⟩ : ∃ W, Hid (w.alloc (.cells (tuV fb t).toArray 102) = W) := ⟨_, rfl⟩
  have NC0 := hide (tu_cells w fb t 102)
  rw [hW.out] at NC0
  have LW : Hid (Below w.heap.size w W) := by rw [← hW.out]; exact (Below.refl _ _).alloc (Nat.le_refl _) _
  have hWb : Hid (W.heap[w.heap.size]? = some (.cells (tuV fb t).toArray 102 (0, 0))) := by rw [← hW.out]; exact heap_alloc_new w _
  have TL := hide (tuV_one1 fb t)
  have TLn := hide (tuV_len fb t)
  obtain ⟨tk, tf, tt, tp, e0⟩ := tuV_four fb t
  have E0 := hide e0
  rw [e0] at hWb hW NC0 DO
  have X0 : Hid (∀ u, Below w.heap.size w u → u.cell? ⟨g, 0, none⟩ = some (.map (some bn))) := fun u hu => (hu.cell (p := ⟨g, 0, none⟩) (World.block_lt_of_cell? w _ x0)).trans x0
  have hwW : Hid (w.heap.size < W.heap.size) := (Array.getElem?_eq_some_iff.1 hWb.out).1
  have KB : Hid (∀ u : World, u.heap[w.heap.size]? = W.heap[w.heap.size]? → u.cell? ⟨w.heap.size, 0, none⟩ = some (.int .i64 tk) ∧ u.cell? ⟨w.heap.size, 1, none⟩ = some (.string tf) ∧ u.cell? ⟨w.heap.size, 2, none⟩ = some (.string tt) ∧ u.cell? ⟨w.heap.size, 3, none⟩ = some (.pointer tp)) := fun u hu => by
    have e := hu.trans hWb.out
    exact ⟨by rw [cell_of_row u w.heap.size 0 _ _ (0, 0) e]; rfl, by rw [cell_of_row u w.heap.size 1 _ _ (0, 0) e]; rfl, by rw [cell_of_row u w.heap.size 2 _ _ (0, 0) e]; rfl, by rw [cell_of_row u w.heap.size 3 _ _ (0, 0) e]; rfl⟩
  have nb : Hid (w.heap.size ≠ bn) := fun e => by have := B.names.lt; omega
  have SB := hide (KB.out W rfl)
  have ng := hide (B.lt g B.own)
  have MW := hide (B.names.below LW.out)
  rw [e0]
  clear B hN hL ht hdl x0 e0
  go_enter Tryz.func54, Tryz.ntmps54
  go_upto_region 1 with fail
  rw [hW.out]
  clear hW
  have SW : W.cell? ⟨g, 0, none⟩ = some (.map (some bn)) ∧ (W.cell? ⟨w.heap.size, 0, none⟩ = some (.int .i64 tk) ∧ W.cell? ⟨w.heap.size, 1, none⟩ = some (.string tf) ∧ W.cell? ⟨w.heap.size, 2, none⟩ = some (.string tt) ∧ W.cell? ⟨w.heap.size, 3, none⟩ = some (.pointer tp)) := ⟨X0.out W LW.out, SB.out⟩
  refine wp_region_held_drew (S := fun u => u.cell? ⟨g, 0, none⟩ = some (.map (some bn)) ∧ (u.cell? ⟨w.heap.size, 0, none⟩ = some (.int .i64 tk) ∧ u.cell? ⟨w.heap.size, 1, none⟩ = some (.string tf) ∧ u.cell? ⟨w.heap.size, 2, none⟩ = some (.string tt) ∧ u.cell? ⟨w.heap.size, 3, none⟩ = some (.pointer tp))) (by kernel_rfl) SW (fun hHeld => ?_)
  refine held_tk 0 (some 4) rfl rfl ?_
  refine held_tk 1 (some 5) rfl rfl ?_
  refine held_tk 2 (some 6) rfl rfl ?_
  refine held_tk 3 (some 7) rfl rfl ?_
  refine held_tk 4 (some 8) rfl rfl ?_
  refine held_next (i := 5) (by kernel_rfl) rfl (by rfl) (fun K1 hK1 => ?_)
  go_simp
  with_reducible refine (DO.out _ MW.out.drew).mono ?_
  rintro e wA ⟨rfl, mA, kA⟩
  have KA : Hid (Ch (fun j => j = bn) w wA) := ((Ch.of_below LW.out.drew).more (fun _ _ h => h.elim)).trans kA
  have MA := hide mA
  have SzA : Hid (W.heap.size ≤ wA.heap.size) := kA.size
  have BA : Hid (wA.heap[w.heap.size]? = W.heap[w.heap.size]?) := kA.block _ hwW.out nb.out
  have CA := KB.out wA BA.out
  have XA : wA.cell? ⟨g, 0, none⟩ = some (.map (some bn)) := by
    have h := KA.out.block g ng.out (fun e => RV.out.names.isMap.ne RV.out.cellsT e.symm)
    rw [cell_of_row wA g 0 _ _ (0, 0) (h.trans RV.out.str)]; rfl
  clear mA kA DO MW
  go_wp2_with fail
  refine hK1.out _ _ ⟨XA, CA⟩ ?_
  clear hK1 hHeld XA SW
  refine wpAnyH_done (by kernel_rfl) ?_ _
  go_upto_region 2 with fail
  have OTA : Hid (OwnTu fb wA 0 at' NT ct F.turns) := OwnG.ch OT.out KA.out (fun b hb e => RV.out.names.isMap.ne (OwnG.cellsT OT.out b hb).1 e.symm)
  have y2 : wA.cell? ⟨g, 2, none⟩ = some (.slice at' NT ct) := by
    have h := KA.out.block g ng.out (fun e => RV.out.names.isMap.ne RV.out.cellsT e.symm)
    rw [cell_of_row wA g 2 _ _ (0, 0) (h.trans RV.out.str), ← hNT.out]; rfl
  have FG : Hid (wA.heap[g]? = some (.cells (lfC F bn bc at' ct) 72 (0, 0))) := (KA.out.block g ng.out (fun e => RV.out.names.isMap.ne RV.out.cellsT e.symm)).trans RV.out.str
  refine wp_region_held_drew (S := fun u => u.cell? ⟨w.heap.size, 0, none⟩ = some (.int .i64 tk) ∧ u.cell? ⟨w.heap.size, 1, none⟩ = some (.string tf) ∧ u.cell? ⟨w.heap.size, 2, none⟩ = some (.string tt) ∧ u.cell? ⟨w.heap.size, 3, none⟩ = some (.pointer tp)) (by kernel_rfl) CA (fun hHeld => ?_)
  refine held_tk 0 (some 10) rfl rfl ?_
  refine held_tk 1 (some 11) rfl rfl ?_
  refine held_tk 2 (some 12) rfl rfl ?_
  refine held_tk 3 (some 13) rfl rfl ?_
  refine held_tk 5 (some 15) rfl rfl ?_
  obtain ⟨u6, hu6⟩ : ∃ u6, Hid ((wA.alloc (.cells #[.int .i64 tk, .string tf, .string tt, .pointer tp] 102)).drew = u6) := ⟨_, rfl⟩
  have B4 : Hid (Below wA.heap.size wA u6) := by rw [← hu6.out]; exact (bel_al (Below.refl _ _) (Nat.le_refl _) _).drew
  have OT4 : Hid (OwnTu fb u6 0 at' NT ct F.turns) := OwnG.below OTA.out B4.out (Nat.le_refl _)
  have NC4 : Hid (∀ j u, (tuV fb t)[j]? = some u → u6.cell? ((⟨wA.heap.size, 0, none⟩ : Addr).add j) = some u) := by
    rw [← hu6.out]
    have := tu_cells wA fb t 102
    rw [E0.out] at this ⊢
    exact this
  have v2 : u6.cell? ⟨g, 2, none⟩ = some (.slice at' NT ct) := (B4.out.cell (p := ⟨g, 2, none⟩) (World.block_lt_of_cell? wA _ y2)).trans y2
  have KU : Hid (∀ u, Ch (fun j => (Value.slice at' NT ct).ownBlock = some j) wA u → (u.cell? ⟨w.heap.size, 0, none⟩ = some (.int .i64 tk) ∧ u.cell? ⟨w.heap.size, 1, none⟩ = some (.string tf) ∧ u.cell? ⟨w.heap.size, 2, none⟩ = some (.string tt) ∧ u.cell? ⟨w.heap.size, 3, none⟩ = some (.pointer tp)) ∧ u.cell? ⟨g, 2, none⟩ = some (.slice at' NT ct) ∧ u.frozen? ⟨g, 2, none⟩ = false) := fun u hu => by
    have h1 := hu.block w.heap.size (Nat.lt_of_lt_of_le hwW.out SzA.out) (fun e => by have := (OwnG.cellsT OT.out _ e).1.lt; omega)
    have h2 := hu.block g (Array.getElem?_eq_some_iff.1 FG.out).1 (fun e => (OwnG.cellsT OTA.out g e).1.ne ⟨_, _, FG.out⟩ (by decide) rfl)
    refine ⟨KB.out u (h1.trans BA.out), ?_, frozen_of_row u g 2 _ _ (h2.trans FG.out)⟩
    rw [cell_of_row u g 2 _ _ (0, 0) (h2.trans FG.out), ← hNT.out]; rfl
  have BU := (KU.out u6 ((Ch.of_below B4.out).more (fun _ _ h => h.elim))).1
  have FIN : Hid (∀ (gC cC : Nat) (wC : World), wC.ownsRow 0 102 4 (.slice (some ⟨gC, 0, none⟩) (NT + 1) cC) (NT + 1) (F.turns.flatMap (tuV fb) ++ tuV fb t) → Ch (fun j => (Value.slice at' NT ct).ownBlock = some j) wA wC → ((Value.slice at' NT ct).ownBlock = some gC ∨ w.heap.size ≤ gC) →
      ∃ S' a' c', LB (wC.setCell ⟨g, 2, none⟩ (.slice (some ⟨gC, 0, none⟩) (NT + 1) cC)) g S' { F with turns := F.turns ++ [t] } fb fh bn bc a' c' ∧ (∀ k, S' k → S k ∨ w.heap.size ≤ k) ∧ Ch S w (wC.setCell ⟨g, 2, none⟩ (.slice (some ⟨gC, 0, none⟩) (NT + 1) cC))) := fun gC cC wC oC kC lC => by
    obtain ⟨q1, q2⟩ := RV.out.change HN.out OK.out KA.out MA.out hNT.out (u4 := wC) (g' := gC) (c' := cC) (by
      show OwnG _ _ _ _ _ _ _ _ _
      unfold OwnG
      rw [List.flatMap_append, List.flatMap_cons, List.flatMap_nil, List.append_nil]
      exact oC) kC lC
    exact ⟨_, _, _, q1, fun k hk => hk.elim Or.inl (fun h => Or.inr h.1), q2⟩
  have SZA : Hid (w.heap.size ≤ wA.heap.size) := KA.out.size
  clear HN OK KA MA
  have CX := CA
  refine held_pair (i := 4) (j := 6) (by kernel_rfl) rfl (by rfl) rfl (by rfl) (fun K1 hK1 => ?_) (fun K1 hK1 => ?_)
  · go_simp
    refine hK1.out _ _ CX ?_
    clear hK1
    refine held_next (i := 6) (by kernel_rfl) rfl (by rfl) (fun K1 hK1 => ?_)
    go_simp
    rw [hu6.out]
    refine hK1.out _ _ BU ?_
    clear hK1
    refine held_next (i := 7) (by kernel_rfl) rfl (by rfl) (fun K1 hK1 => ?_)
    refine wp_append_lies _ (.tmp 14) (.tmp 16) 68 rfl 0 102 i1 (.agg #[.int .i64 0, .string .empty, .string .empty, .pointer none]) 4 48 Tryz.underlying68 hi1 hz10 hz11 hz12 rfl (by decide) (.slice at' NT ct) NT (F.turns.flatMap (tuV fb)) rfl OT4.out ⟨wA.heap.size, 0, none⟩ 1 1 (tuV fb t) rfl TLn.out NC4.out TL.out (by omega) (by unfold maxLen; omega) (by omega) (Nat.zero_le _) _ rfl ?_
    intro gC cC wC oC grC atC ltC
    have GR : Hid (Ch (fun j => (Value.slice at' NT ct).ownBlock = some j) wA wC) := ((Ch.of_below B4.out).more (fun _ _ h => h.elim)).trans (Ch.grown grC)
    have GRX := hide (FIN.out gC cC wC oC GR.out (by
      rcases atC with e | e
      · exact Or.inl e
      · exact Or.inr (by rw [e]; exact Nat.le_trans SZA.out B4.out.size)))
    obtain ⟨kc1, kc2, kc3⟩ := KU.out wC GR.out
    have KC3 := hide (KU.out wC GR.out).1
    have KS : Hid ((wC.setCell ⟨g, 2, none⟩ (.slice (some ⟨gC, 0, none⟩) (NT + 1) cC)).cell? ⟨w.heap.size, 0, none⟩ = some (.int .i64 tk) ∧ (wC.setCell ⟨g, 2, none⟩ (.slice (some ⟨gC, 0, none⟩) (NT + 1) cC)).cell? ⟨w.heap.size, 1, none⟩ = some (.string tf) ∧ (wC.setCell ⟨g, 2, none⟩ (.slice (some ⟨gC, 0, none⟩) (NT + 1) cC)).cell? ⟨w.heap.size, 2, none⟩ = some (.string tt) ∧ (wC.setCell ⟨g, 2, none⟩ (.slice (some ⟨gC, 0, none⟩) (NT + 1) cC)).cell? ⟨w.heap.size, 3, none⟩ = some (.pointer tp)) := by
      have hne : ∀ i j : Nat, (⟨g, i, none⟩ : Addr) ≠ ⟨w.heap.size, j, none⟩ := fun i j e => by have h1 : g = w.heap.size := congrArg Addr.block e; have := ng.out; omega
      refine ⟨?_, ?_, ?_, ?_⟩
      · rw [World.cell?_setCell_other _ _ _ _ (hne _ _)]; exact kc1.1
      · rw [World.cell?_setCell_other _ _ _ _ (hne _ _)]; exact kc1.2.1
      · rw [World.cell?_setCell_other _ _ _ _ (hne _ _)]; exact kc1.2.2.1
      · rw [World.cell?_setCell_other _ _ _ _ (hne _ _)]; exact kc1.2.2.2
    clear oC grC atC ltC GR FIN OT4 NC4 hu6
    go_simp
    refine hK1.out _ _ KC3.out ?_
    clear hK1
    refine held_tk 8 (some 18) rfl rfl ?_
    refine held_tk 9 (some 19) rfl rfl ?_
    refine held_next (i := 10) (by kernel_rfl) rfl (by rfl) (fun K1 hK1 => ?_)
    go_simp
    refine hK1.out _ _ KS.out ?_
    clear hK1 hHeld
    refine wpAnyH_done (by kernel_rfl) ?_ _
    go_wp2
    go_end0
    exact ⟨rfl, GRX.out⟩
  · go_simp
    rw [hu6.out]
    refine hK1.out _ _ BU ?_
    clear hK1
    refine held_next (i := 4) (by kernel_rfl) rfl (by rfl) (fun K1 hK1 => ?_)
    go_simp
    refine hK1.out _ _ BU ?_
    clear hK1
    refine held_next (i := 7) (by kernel_rfl) rfl (by rfl) (fun K1 hK1 => ?_)
    refine wp_append_lies _ (.tmp 14) (.tmp 16) 68 rfl 0 102 i1 (.agg #[.int .i64 0, .string .empty, .string .empty, .pointer none]) 4 48 Tryz.underlying68 hi1 hz10 hz11 hz12 rfl (by decide) (.slice at' NT ct) NT (F.turns.flatMap (tuV fb)) rfl OT4.out ⟨wA.heap.size, 0, none⟩ 1 1 (tuV fb t) rfl TLn.out NC4.out TL.out (by omega) (by unfold maxLen; omega) (by omega) (Nat.zero_le _) _ rfl ?_
    intro gC cC wC oC grC atC ltC
    have GR : Hid (Ch (fun j => (Value.slice at' NT ct).ownBlock = some j) wA wC) := ((Ch.of_below B4.out).more (fun _ _ h => h.elim)).trans (Ch.grown grC)
    have GRX := hide (FIN.out gC cC wC oC GR.out (by
      rcases atC with e | e
      · exact Or.inl e
      · exact Or.inr (by rw [e]; exact Nat.le_trans SZA.out B4.out.size)))
    obtain ⟨kc1, kc2, kc3⟩ := KU.out wC GR.out
    have KC3 := hide (KU.out wC GR.out).1
    have KS : Hid ((wC.setCell ⟨g, 2, none⟩ (.slice (some ⟨gC, 0, none⟩) (NT + 1) cC)).cell? ⟨w.heap.size, 0, none⟩ = some (.int .i64 tk) ∧ (wC.setCell ⟨g, 2, none⟩ (.slice (some ⟨gC, 0, none⟩) (NT + 1) cC)).cell? ⟨w.heap.size, 1, none⟩ = some (.string tf) ∧ (wC.setCell ⟨g, 2, none⟩ (.slice (some ⟨gC, 0, none⟩) (NT + 1) cC)).cell? ⟨w.heap.size, 2, none⟩ = some (.string tt) ∧ (wC.setCell ⟨g, 2, none⟩ (.slice (some ⟨gC, 0, none⟩) (NT + 1) cC)).cell? ⟨w.heap.size, 3, none⟩ = some (.pointer tp)) := by
      have hne : ∀ i j : Nat, (⟨g, i, none⟩ : Addr) ≠ ⟨w.heap.size, j, none⟩ := fun i j e => by have h1 : g = w.heap.size := congrArg Addr.block e; have := ng.out; omega
      refine ⟨?_, ?_, ?_, ?_⟩
      · rw [World.cell?_setCell_other _ _ _ _ (hne _ _)]; exact kc1.1
      · rw [World.cell?_setCell_other _ _ _ _ (hne _ _)]; exact kc1.2.1
      · rw [World.cell?_setCell_other _ _ _ _ (hne _ _)]; exact kc1.2.2.1
      · rw [World.cell?_setCell_other _ _ _ _ (hne _ _)]; exact kc1.2.2.2
    clear oC grC atC ltC GR FIN OT4 NC4 hu6
    go_simp
    refine hK1.out _ _ KC3.out ?_
    clear hK1
    refine held_tk 8 (some 18) rfl rfl ?_
    refine held_tk 9 (some 19) rfl rfl ?_
    refine held_next (i := 10) (by kernel_rfl) rfl (by rfl) (fun K1 hK1 => ?_)
    go_simp
    refine hK1.out _ _ KS.out ?_
    clear hK1 hHeld
    refine wpAnyH_done (by kernel_rfl) ?_ _
    go_wp2
    go_end0
    exact ⟨rfl, GRX.out⟩
end Go.Proofs.YtknghoecjobkiabGreatDoor

namespace Go.Proofs.YtknghoecjobkiabGreatDoor
open Go.RowKit Go.Maps
set_option maxRecDepth 20000
set_option linter.unusedVariables false

theorem nmV_more {fb : List Nat} {l : List Dn} {m : Nat} (h : FilesIn m l) (hl : fb.length = m) (b : Nat) (s : ByteArray) : nmV fb l s = nmV (fb ++ [b]) l s := by
  unfold nmV
  cases hf : fileD l s with
  | none => rfl
  | some k =>
    have := fileD_in h hf
    simp only [Option.map_some]
    unfold ptrV
    rw [List.getD_eq_getElem?_getD, List.getD_eq_getElem?_getD, List.getElem?_append_left (by omega)]
theorem tuV_more {fb : List Nat} {t : Tn} {m : Nat} (h : t.k = 0 → t.f < m) (hl : fb.length = m) (b : Nat) : tuV fb t = tuV (fb ++ [b]) t := by
  unfold tuV
  split
  · rename_i hk
    have := h hk
    unfold ptrV
    rw [List.getD_eq_getElem?_getD, List.getD_eq_getElem?_getD, List.getElem?_append_left (by omega)]
  · rfl
/-- A file more. -/
theorem LB.born {w u : World} {g : Nat} {S : Nat → Prop} {F : Fs} {fb : List Nat} {fh : List Fh} {bn bc : Nat} {at' : Option Addr} {ct : Nat} (B : LB w g S F fb fh bn bc at' ct) (hV : GoodV F) {h : Fh} {x : Fi} (k : Ch (fun j => j = g) w u)
    (hstr : u.heap[g]? = some (.cells #[.map (some bn), .map (some bc), .slice at' F.turns.length ct, .int .i64 ((F.files.length : Int) + 1), .int .i64 F.n, .bool F.armed, .int .i64 F.kind, .int .i64 F.after, .bool F.dark] 72 (0, 0)))
    (mx : FlM u h F.files.length x) (hnew : ∀ j, SFh h j → ¬ S j) :
    LB u g (fun j => S j ∨ SFh h j) { F with files := F.files ++ [x] } (fb ++ [h.b]) (fh ++ [h]) bn bc at' ct := by
  have hfb : fb.length = F.files.length := by rw [← B.fbs, List.length_map, B.len]
  have hD : FilesIn F.files.length (dirF F) := hV.dir
  refine ⟨Or.inl B.own, ?_, ?_, ?_, ?_, B.ne, Or.inl B.bnS, Or.inl B.bcS, ?_, fun b hb => Or.inl (B.turnsS b hb), ?_, ?_, ?_, ?_, ?_⟩
  · rintro j (e | e)
    · exact Nat.lt_of_lt_of_le (B.lt j e) k.size
    · exact mx.lt e
  · rw [hstr]
    unfold lfC
    dsimp only
    rw [List.length_append]
    rfl
  · exact (B.names.ch k (B.names.isMap.ne B.cellsT)).congr (nmV_more hD hfb h.b)
  · exact (B.certain.ch k (B.certain.isMap.ne B.cellsT)).congr (nmV_more hV.sure hfb h.b)
  · have o := OwnG.ch B.turns k (fun b hb => (OwnG.cellsT B.turns b hb).1.ne B.cellsT (by decide))
    show OwnG _ _ _ _ _ _ _ _ _
    unfold OwnG at o ⊢
    rwa [show F.turns.flatMap (tuV fb) = F.turns.flatMap (tuV (fb ++ [h.b])) from by
      unfold List.flatMap
      rw [List.map_congr_left (fun t ht => tuV_more (hV.turns t ht).2 hfb h.b)]] at o
  · rw [List.map_append, B.fbs]; rfl
  · dsimp only
    rw [List.length_append, List.length_append, B.len]; rfl
  · intro i y z hi hz
    dsimp only at hz
    by_cases e : i < F.files.length
    · rw [List.getElem?_append_left (by rw [B.len]; exact e)] at hi
      rw [List.getElem?_append_left e] at hz
      have m := B.files i y z hi hz
      exact m.ch k (fun j hj => (ne_ty3 B.cellsT (m.kind hj) (by decide) (by decide) (by decide)).symm)
    · rw [List.getElem?_append_right (by rw [B.len]; omega), List.getElem?_singleton] at hi
      rw [List.getElem?_append_right (by omega), List.getElem?_singleton] at hz
      split at hz
      · rename_i q
        obtain rfl : i = F.files.length := by omega
        rw [if_pos (by rw [B.len]; omega)] at hi
        obtain rfl := Option.some.inj hi
        obtain rfl := Option.some.inj hz
        exact mx
      · cases hz
  · intro i y j hi hj
    by_cases e : i < fh.length
    · rw [List.getElem?_append_left e] at hi
      exact Or.inl (B.filesS i y j hi hj)
    · rw [List.getElem?_append_right (by omega), List.getElem?_singleton] at hi
      split at hi
      · obtain rfl := Option.some.inj hi
        exact Or.inr hj
      · cases hi
  · intro i i' y y' j hii hi hi' hj hj'
    by_cases e : i < fh.length
    · rw [List.getElem?_append_left e] at hi
      by_cases e2 : i' < fh.length
      · rw [List.getElem?_append_left e2] at hi'
        exact B.apart i i' y y' j hii hi hi' hj hj'
      · rw [List.getElem?_append_right (by omega), List.getElem?_singleton] at hi'
        split at hi'
        · obtain rfl := Option.some.inj hi'
          exact hnew j hj' (B.filesS i y j hi hj)
        · cases hi'
    · rw [List.getElem?_append_right (by omega), List.getElem?_singleton] at hi
      split at hi
      · obtain rfl := Option.some.inj hi
        by_cases e2 : i' < fh.length
        · rw [List.getElem?_append_left e2] at hi'
          exact hnew j hj (B.filesS i' y' j hi' hj')
        · rw [List.getElem?_append_right (by omega), List.getElem?_singleton] at hi'
          split at hi'
          · omega
          · cases hi'
      · cases hi

set_option maxHeartbeats 4000000 in
theorem lbear_any (w : World) (g : Nat) (S : Nat → Prop) (F : Fs) (fb : List Nat) (fh : List Fh) (bn bc : Nat) (at' : Option Addr) (ct m : Nat) (d : H3) (bs : List Int) (B : LB w g S F fb fh bn bc at' ct) (hV : GoodV F) (hL : Lim m F) (hm : m ≤ 1073741825) (hd : OwnVb w 0 d.1 d.2.1 d.2.2 bs) (hdS : ∀ j, (h3V d).ownBlock = some j → ¬ S j) :
    Calls Tryz.prog 55 #[.pointer (some ⟨g, 0, none⟩), .slice d.1 d.2.1 d.2.2] w fun e w' => ∃ h : Fh, e = .returned (.pointer (some ⟨h.b, 0, none⟩)) ∧ w.heap.size ≤ h.b ∧ LB w' g (fun j => S j ∨ SFh h j) { F with files := F.files ++ [⟨bs, []⟩] } (fb ++ [h.b]) (fh ++ [h]) bn bc at' ct ∧ (∀ j, SFh h j → w.heap.size ≤ j ∨ (h3V d).ownBlock = some j) ∧ Ch (fun j => j = g) w w' := by
  obtain ⟨da, dn, dc⟩ := d
  dsimp only at hd
  have c3 := B.c3
  have f3 := B.fz 3
  have hfl := hL.files
  obtain ⟨W1, hW1⟩ : ∃ W1, Hid (w.setCell ⟨g, 3, none⟩ (.int .i64 ((F.files.length : Int) + 1)) = W1) := ⟨_, rfl⟩
  have K1 : Hid (Ch (fun k => k = g) w W1) := by rw [← hW1.out]; exact ch_set w g 3 _
  have S1 : Hid (W1.heap[g]? = some (.cells #[.map (some bn), .map (some bc), .slice at' F.turns.length ct, .int .i64 ((F.files.length : Int) + 1), .int .i64 F.n, .bool F.armed, .int .i64 F.kind, .int .i64 F.after, .bool F.dark] 72 (0, 0))) := by
    rw [← hW1.out, heap_setCell_same w g 3 _ _ _ B.str]; rfl
  obtain ⟨k, hk⟩ : ∃ k, F.files.length = k := ⟨_, rfl⟩
  rw [hk] at c3 hW1 hfl
  have FIN : Hid (∀ u, u = W1.alloc (.cells #[.int .i64 (k : Int), .slice da dn dc, .slice none 0 0] 94) → ∃ h : Fh, (Ending.returned (.pointer (some ⟨W1.heap.size, 0, none⟩)) : Ending) = .returned (.pointer (some ⟨h.b, 0, none⟩)) ∧ w.heap.size ≤ h.b ∧ LB u g (fun j => S j ∨ SFh h j) { F with files := F.files ++ [⟨bs, []⟩] } (fb ++ [h.b]) (fh ++ [h]) bn bc at' ct ∧ (∀ j, SFh h j → w.heap.size ≤ j ∨ (h3V (da, dn, dc)).ownBlock = some j) ∧ Ch (fun j => j = g) w u) := fun u hu => by
    subst hk
    have kb : Below W1.heap.size W1 u := by rw [hu]; exact (Below.refl _ _).alloc (Nat.le_refl _) _
    have ku : Ch (fun j => j = g) w u := ch_bel K1.out (kb.mono K1.out.size)
    have hg1 := (Array.getElem?_eq_some_iff.1 S1.out).1
    have hd1 : OwnVb u 0 da dn dc bs := OwnG.ch hd ku (fun b hb => (OwnG.cellsT hd b hb).1.ne B.cellsT (by decide))
    have hb1 : u.heap[W1.heap.size]? = some (.cells #[.int .i64 (F.files.length : Int), .slice da dn dc, .slice none 0 0] 94 (0, 0)) := by rw [hu]; exact heap_alloc_new W1 _
    have mx : FlM u ⟨W1.heap.size, (da, dn, dc), (none, 0, 0), [], []⟩ F.files.length ⟨bs, []⟩ := ⟨hb1, hd1, Pd.nil, ownG_nil _ _, rfl, fun i q r hi => by simp at hi⟩
    have hsf : ∀ j, SFh ⟨W1.heap.size, (da, dn, dc), (none, 0, 0), [], []⟩ j → j = W1.heap.size ∨ (h3V (da, dn, dc)).ownBlock = some j := by
      rintro j (e | e | e | ⟨q, e, _⟩)
      · exact Or.inl e
      · exact Or.inr e
      · simp [h3V, Value.ownBlock] at e
      · simp at e
    refine ⟨⟨W1.heap.size, (da, dn, dc), (none, 0, 0), [], []⟩, rfl, K1.out.size, B.born hV ku ((kb.block g hg1).trans S1.out) mx (fun j hj => ?_), fun j hj => ?_, ku⟩
    · rcases hsf j hj with e | e
      · intro hS
        have := B.lt j hS
        have := K1.out.size
        omega
      · exact hdS j e
    · rcases hsf j hj with e | e
      · exact Or.inl (by have := K1.out.size; omega)
      · exact Or.inr e
  have hw : IntKind.i64.wrap ((k : Int) + 1) = (k : Int) + 1 := by rw [IntKind.wrap_i64]; omega
  clear B hV hL hd hdS K1 S1 hk
  go_enter Tryz.func55, Tryz.ntmps55
  go_upto_region 3 with fail
  rw [hW1.out]
  clear hW1 c3 f3
  go_wp2
  go_ret
  exact FIN.out _ rfl
end Go.Proofs.YtknghoecjobkiabGreatDoor

namespace Go.Proofs.YtknghoecjobkiabGreatDoor
open Go.RowKit Go.Maps
set_option maxRecDepth 20000
set_option linter.unusedVariables false

theorem callF_err {F G : Fs} {e : Int} (h : callF F = (G, some e)) : (e != 0) = true := by
  rcases callF_cases F with ⟨_, q⟩ | ⟨_, _, q⟩ | ⟨_, _, _, q⟩ | ⟨_, _, _, _, q⟩ | ⟨_, _, _, h4, q⟩ <;> rw [q] at h <;> simp only [Prod.mk.injEq, Option.some.injEq, reduceCtorEq, and_false] at h
  · rw [← h.2]; rfl
  · rw [← h.2]; rfl
  · rw [← h.2]; simpa using h4
theorem GoodN.call {F : Fs} (h : GoodN F) : GoodN (callF F).1 := by
  obtain ⟨_, e2, e3, _⟩ := callF_same F
  exact h.like e2 e3
theorem Lim.call' {m : Nat} {F : Fs} (h : Lim m F) : Lim (m + 1) (callF F).1 := by
  obtain ⟨e1, e2, e3, e4⟩ := callF_same F
  refine ⟨by rw [e1]; have := h.files; omega, by rw [e2]; have := h.sure; omega, by rw [e3]; have := h.turns; omega, fun x hx => by rw [e1] at hx; have := h.each x hx; omega, by rw [e4]; have := h.n; omega⟩
theorem GoodV.more1 {G : Fs} (h : GoodV G) {x : Fi} (h1 : okUs x.sure x.us) (h2 : (∀ z ∈ x.sure, 0 ≤ z ∧ z ≤ 255) ∧ ∀ u ∈ x.us, (0 ≤ u.b ∧ u.b ≤ 255)) : GoodV { G with files := G.files ++ [x] } := by
  refine ⟨fun d hd => ?_, fun t ht => ?_, fun y hy => ?_, fun y hy => ?_, h.aft, h.knd⟩
  · have := h.sure d hd
    show d.f < (G.files ++ [x]).length
    rw [List.length_append]; simp; omega
  · obtain ⟨q1, q2⟩ := h.turns t ht
    refine ⟨q1, fun e => ?_⟩
    have := q2 e
    show t.f < (G.files ++ [x]).length
    rw [List.length_append]; simp; omega
  · rcases List.mem_append.1 hy with q | q
    · exact h.cuts y q
    · obtain rfl := List.mem_singleton.1 q; exact h1
  · rcases List.mem_append.1 hy with q | q
    · exact h.byte y q
    · obtain rfl := List.mem_singleton.1 q; exact h2
theorem stepL_same {w w' : World} {g : Nat} {S : Nat → Prop} {F : Fs} (h : LAt w' g S F) (k : Ch (fun j => j = g) w w') (ho : S g) : StepV LAt w w' g S F := ⟨S, h, fun _ hk => Or.inl hk, k.more (fun j _ e => e ▸ ho)⟩
theorem mayN_64 {s : ByteArray} (h : mayN s = true) : s.size ≤ 64 := by
  unfold mayN at h
  simp at h
  omega
theorem turn_give {G : Fs} (hV : GoodV G) {s : ByteArray} (hs : mayN s = true) : OkT1 (dirF G) ⟨0, s, ByteArray.empty, G.files.length⟩ :=
  ⟨⟨mayN_64 hs, Nat.zero_le _⟩, fun _ => ⟨hs, fun d hd => by have := hV.dir d hd; dsimp only; omega⟩, fun h => by simp at h⟩

set_option maxHeartbeats 8000000 in
theorem lcreate_any (g : Nat) (S : Nat → Prop) (F : Fs) (s : ByteArray) (m : Nat) (w : World) (hF : LAt w g S F) (hL : Lim m F) (hm : m < 1073741824) (hs : s.size ≤ 9223372036854775807) :
    Calls Tryz.prog 24 #[.pointer (some ⟨g, 0, none⟩), .string s] w fun e w' => e = .returned (.int .i64 (createF F s).2) ∧ StepV LAt w w' g S (createF F s).1 := by
  obtain ⟨hV, hN, fb, fh, bn, bc, at', ct, B⟩ := hF
  have CA := hide (vbegin_any w g S F fb fh bn bc at' ct m B hV hL (by omega))
  have LC := hide hL.call'
  have GV := hide hV.call
  have GN := hide hN.call
  have HG := hide B.own
  rcases hq : callF F with ⟨G, o⟩
  rw [hq] at CA LC GV GN
  dsimp only at CA LC GV GN
  have LA : Hid (∀ u, LB u g S G fb fh bn bc at' ct → LAt u g S G) := fun u hu => ⟨GV.out, GN.out, fb, fh, bn, bc, at', ct, hu⟩
  have HP : Hid (∀ (x : Fs × Int) (u : World), createF F s = x → StepV LAt w u g S x.1 → (Ending.returned (.int .i64 x.2) = .returned (.int .i64 (createF F s).2) ∧ StepV LAt w u g S (createF F s).1)) := fun x u e hu => by
    rw [e]
    exact ⟨rfl, hu⟩
  clear B hV hN hL
  cases o with
  | some e1 =>
    have ne := callF_err hq
    have HE : Hid (createF F s = (G, e1)) := by show _ = _; unfold createF; rw [hq]
    clear hq
    rw [Option.getD_some] at CA
    go_enter Tryz.func24, Tryz.ntmps24
    go_wp2_with fail
    with_reducible refine CA.out.mono ?_
    rintro e u1 ⟨rfl, h1, k1⟩
    have H1 := hide (HP.out _ _ HE.out (stepL_same (LA.out _ h1) k1 HG.out))
    clear h1 k1 CA HP
    go_wp2
    go_ret
    exact H1.out
  | none =>
    rw [Option.getD_none] at CA
    have IN := hide (fun u => isname_any s u hs)
    cases hm1 : mayN s with
    | false =>
      have HE : Hid (createF F s = (G, 1)) := by show _ = _; unfold createF; rw [hq]; dsimp only; rw [if_pos hm1]
      clear hq
      go_enter Tryz.func24, Tryz.ntmps24
      go_wp2_with fail
      with_reducible refine CA.out.mono ?_
      rintro e u1 ⟨rfl, h1, k1⟩
      have H1 := hide (HP.out _ _ HE.out (stepL_same (LA.out _ h1) k1 HG.out))
      clear h1 k1 CA HP
      go_wp2_with fail
      with_reducible refine (IN.out _).mono ?_
      rintro e u ⟨rfl, hu⟩
      rw [hu, hm1]
      clear hu
      go_wp2
      go_ret
      exact H1.out
    | true =>
      have hml := mayN_max hm1
      have HD : Hid (NamesD (dirF G)) := GN.out.dir
      have fi := fileD_isNone (dirF G) s
      by_cases hfull : (findD (dirF G) s).isNone = true ∧ 1024 ≤ (dirF G).length
      · have HE : Hid (createF F s = (G, 2)) := by show _ = _; unfold createF; rw [hq]; dsimp only; rw [if_neg (by rw [hm1]; simp), if_pos hfull]
        obtain ⟨hf1, hf2⟩ := hfull
        rw [fi] at hf1
        have hfn : fileD (dirF G) s = none := by simpa using hf1
        clear hq fi
        go_enter Tryz.func24, Tryz.ntmps24
        go_wp2_with fail
        with_reducible refine CA.out.mono ?_
        rintro e u1 ⟨rfl, h1, k1⟩
        have H1 := hide (HP.out _ _ HE.out (stepL_same (LA.out _ h1) k1 HG.out))
        have lk := look_name h1.names hml
        rw [hfn] at lk
        dsimp only [Option.map_none, Option.getD_none, Option.isSome_none] at lk
        have ln := fun ty => h1.names.len Tryz.underlying67 HD.out.once (names_mem HD.out) ty
        rw [List.length_map] at ln
        have c0 := h1.c0
        generalize (dirF G).length = dl at ln hf2
        have d1 : decide ((1024 : Int) ≤ (dl : Int)) = true := decide_eq_true (by omega)
        have d2 : decide (1024 ≤ dl) = true := decide_eq_true (by omega)
        have d3 : (1024 : Int) ≤ (dl : Int) := by omega
        clear h1 k1 CA HP hfn HD
        go_wp2_with fail
        with_reducible refine (IN.out _).mono ?_
        rintro e u ⟨rfl, hu⟩
        rw [hu, hm1]
        clear hu
        go_wp2
        go_ret
        exact H1.out
      · have HE : Hid (createF F s = ({ G with files := G.files ++ [emF], turns := G.turns ++ [⟨0, s, ByteArray.empty, G.files.length⟩] }, 0)) := by show _ = _; unfold createF; rw [hq]; dsimp only; rw [if_neg (by rw [hm1]; simp), if_neg hfull]
        have FIN : Hid (∀ (u1 u3 u4 : World) (h : Fh) (S' : Nat → Prop) (a' : Option Addr) (c' : Nat), Ch (fun j => j = g) w u1 → u1.heap.size ≤ h.b → (∀ j, SFh h j → u1.heap.size ≤ j ∨ (h3V (none, 0, 0)).ownBlock = some j) → Ch (fun j => j = g) u1 u3 → LB u4 g S' { G with files := G.files ++ [⟨[], []⟩], turns := G.turns ++ [⟨0, s, ByteArray.empty, G.files.length⟩] } (fb ++ [h.b]) (fh ++ [h]) bn bc a' c' → (∀ k, S' k → (S k ∨ SFh h k) ∨ u3.heap.size ≤ k) → Ch (fun j => S j ∨ SFh h j) u3 u4 → (Ending.returned (.int .i64 0) = .returned (.int .i64 (createF F s).2) ∧ StepV LAt w u4 g S (createF F s).1)) := fun u1 u3 u4 h S' a' c' k1 hb hsf k3 h4 hS' k4 => by
          refine HP.out _ _ HE.out ⟨S', ⟨?_, ?_, _, _, _, _, _, _, h4⟩, fun j hj => ?_, ?_⟩
          · exact (GV.out.more1 (x := emF) trivial ⟨fun z hz => by simp [emF] at hz, fun z hz => by simp [emF] at hz⟩).turn ⟨by simp, fun _ => by simp⟩
          · exact (GN.out.like (G := { G with files := G.files ++ [⟨[], []⟩] }) rfl rfl).push (turn_give GV.out hm1) _
          · have z1 := k1.size
            have z3 := k3.size
            rcases hS' j hj with (e | e) | e
            · exact Or.inl e
            · rcases hsf j e with e | e
              · exact Or.inr (by omega)
              · simp [h3V, Value.ownBlock] at e
            · exact Or.inr (by omega)
          · have z1 := k1.size
            have k13 : Ch S w u3 := (k1.trans k3).more (fun j _ e => e ▸ HG.out)
            refine ⟨k4.os.trans k13.os, k4.tape.trans k13.tape, k4.output.trans k13.output, Nat.le_trans k13.size k4.size, fun j hj hn => ?_⟩
            rw [k4.block j (Nat.lt_of_lt_of_le hj k13.size) (fun e => by
              rcases e with e | e
              · exact hn e
              · rcases hsf j e with e | e
                · omega
                · simp [h3V, Value.ownBlock] at e)]
            exact k13.block j hj hn
        have OKT := hide (turn_give GV.out hm1)
        have HFL : Hid (fb.length = G.files.length → (∀ b, (fb ++ [b]).getD G.files.length 0 = b)) := fun e b => by
          rw [List.getD_eq_getElem?_getD, List.getElem?_append_right (by omega), e, Nat.sub_self]; rfl
        have LC2 : Hid (Lim (m + 2) { G with files := G.files ++ [⟨[], []⟩] }) := by
          have q := LC.out
          refine ⟨by have := q.files; dsimp only; rw [List.length_append, List.length_singleton]; omega, by have := q.sure; dsimp only; omega, by have := q.turns; dsimp only; omega, fun x hx => ?_, by have := q.n; dsimp only; omega⟩
          rcases List.mem_append.1 hx with e | e
          · have := q.each x e; omega
          · obtain rfl := List.mem_singleton.1 e; simp
        have CHG : Hid (∀ (u : World) (h : Fh), LB u g (fun j => S j ∨ SFh h j) { G with files := G.files ++ [⟨[], []⟩] } (fb ++ [h.b]) (fh ++ [h]) bn bc at' ct → fb.length = G.files.length → Calls Tryz.prog 54 #[.pointer (some ⟨g, 0, none⟩), .agg #[.int .i64 0, .string (ByteArray.mk #[]), .string s, .pointer (some ⟨h.b, 0, none⟩)]] u fun e w' => e = .returned (.tuple #[]) ∧ ∃ S' a' c', LB w' g S' { G with files := G.files ++ [⟨[], []⟩], turns := G.turns ++ [⟨0, s, ByteArray.empty, G.files.length⟩] } (fb ++ [h.b]) (fh ++ [h]) bn bc a' c' ∧ (∀ k, S' k → (S k ∨ SFh h k) ∨ u.heap.size ≤ k) ∧ Ch (fun j => S j ∨ SFh h j) u w') := fun u h hu e => by
          have q := lchange_any u g _ _ _ _ bn bc at' ct (m + 2) ⟨0, s, ByteArray.empty, G.files.length⟩ hu (GN.out.like rfl rfl) LC2.out (by omega) OKT.out (by simp)
          have e2 : tuV (fb ++ [h.b]) ⟨0, s, ByteArray.empty, G.files.length⟩ = [.int .i64 0, .string .empty, .string s, .pointer (some ⟨h.b, 0, none⟩)] := by
            unfold tuV ptrV
            rw [if_pos rfl, HFL.out e]
          rw [e2] at q
          exact q
        clear hq HE HP LC2 OKT HFL
        cases hfn : fileD (dirF G) s with
        | some kk =>
          go_enter Tryz.func24, Tryz.ntmps24
          go_wp2_with fail
          with_reducible refine CA.out.mono ?_
          rintro e u1 ⟨rfl, h1, k1⟩
          have lk := look_name h1.names hml
          rw [hfn] at lk
          dsimp only [Option.map_some, Option.getD_some, Option.isSome_some] at lk
          unfold ptrV at lk
          generalize fb.getD kk 0 = pk at lk
          have c0 := h1.c0
          have K1 := hide k1
          have HFB : Hid (fb.length = G.files.length) := by show _ = _; rw [← h1.fbs, List.length_map, h1.len]
          have BE := hide (lbear_any u1 g S G fb fh bn bc at' ct (m + 1) (none, 0, 0) [] h1 GV.out LC.out (by omega) (ownG_nil _ _) (fun j hj => by simp [h3V, Value.ownBlock] at hj))
          clear h1 k1 CA fi hfull hfn HD GV GN LA
          go_wp2_with fail
          with_reducible refine (IN.out _).mono ?_
          rintro e u ⟨rfl, hu⟩
          rw [hu, hm1]
          clear hu
          go_wp2_with fail
          with_reducible refine BE.out.mono ?_
          rintro e u3 ⟨h, rfl, hb, h3, hsf, k3⟩
          have FI := hide (fun u4 S' a' c' => FIN.out u1 u3 u4 h S' a' c' K1.out hb hsf k3)
          have CH := hide (CHG.out u3 h h3 HFB.out)
          clear hb h3 hsf k3 BE FIN CHG
          obtain ⟨hb, hhb⟩ : ∃ hb, h.b = hb := ⟨_, rfl⟩
          rw [hhb] at CH ⊢
          go_wp2_with fail
          with_reducible refine CH.out.mono ?_
          rintro e u4 ⟨rfl, S', a', c', q1, q2, q3⟩
          have H4 := hide (FI.out u4 S' a' c' (by rw [hhb]; exact q1) q2 q3)
          clear q1 q2 q3 CH FI
          go_wp2
          go_ret
          exact H4.out
        | none =>
          have hlt : (dirF G).length < 1024 := by
            rw [fi, hfn] at hfull
            simp at hfull
            omega
          go_enter Tryz.func24, Tryz.ntmps24
          go_wp2_with fail
          with_reducible refine CA.out.mono ?_
          rintro e u1 ⟨rfl, h1, k1⟩
          have lk := look_name h1.names hml
          rw [hfn] at lk
          dsimp only [Option.map_none, Option.getD_none, Option.isSome_none] at lk
          have ln := fun ty => h1.names.len Tryz.underlying67 HD.out.once (names_mem HD.out) ty
          rw [List.length_map] at ln
          generalize (dirF G).length = dl at ln hlt
          have d1 : decide ((1024 : Int) ≤ (dl : Int)) = false := decide_eq_false (by omega)
          have d2 : decide (1024 ≤ dl) = false := decide_eq_false (by omega)
          have d3 : ¬ (1024 : Int) ≤ (dl : Int) := by omega
          have c0 := h1.c0
          have K1 := hide k1
          have HFB : Hid (fb.length = G.files.length) := by show _ = _; rw [← h1.fbs, List.length_map, h1.len]
          have BE := hide (lbear_any u1 g S G fb fh bn bc at' ct (m + 1) (none, 0, 0) [] h1 GV.out LC.out (by omega) (ownG_nil _ _) (fun j hj => by simp [h3V, Value.ownBlock] at hj))
          clear h1 k1 CA fi hfull hfn HD GV GN LA
          go_wp2_with fail
          with_reducible refine (IN.out _).mono ?_
          rintro e u ⟨rfl, hu⟩
          rw [hu, hm1]
          clear hu
          go_wp2_with fail
          with_reducible refine BE.out.mono ?_
          rintro e u3 ⟨h, rfl, hb, h3, hsf, k3⟩
          have FI := hide (fun u4 S' a' c' => FIN.out u1 u3 u4 h S' a' c' K1.out hb hsf k3)
          have CH := hide (CHG.out u3 h h3 HFB.out)
          clear hb h3 hsf k3 BE FIN CHG
          obtain ⟨hb, hhb⟩ : ∃ hb, h.b = hb := ⟨_, rfl⟩
          rw [hhb] at CH ⊢
          go_wp2_with fail
          with_reducible refine CH.out.mono ?_
          rintro e u4 ⟨rfl, S', a', c', q1, q2, q3⟩
          have H4 := hide (FI.out u4 S' a' c' (by rw [hhb]; exact q1) q2 q3)
          clear q1 q2 q3 CH FI
          go_wp2
          go_ret
          exact H4.out
end Go.Proofs.YtknghoecjobkiabGreatDoor

namespace Go.Proofs.YtknghoecjobkiabGreatDoor
open Go.RowKit Go.Maps
set_option maxRecDepth 20000
set_option linter.unusedVariables false

theorem flat_by (zs : List Int) : zs.flatMap byV = zs.map (Value.int .u8) := by
  induction zs with
  | nil => rfl
  | cons z t ih => rw [List.flatMap_cons, ih]; rfl
/-- Bytes of the call's own are a row of bytes. -/
theorem ownB_row {w : World} {base n cap : Nat} {a : Option Addr} {zs : List Int} (h : OwnVb w base a n cap zs) (hn : n ≤ 281474976710656) (hz : ∀ z ∈ zs, 0 ≤ z ∧ z ≤ 255) : Row .u8 w a n zs := by
  have : Own 5 .u8 w base a n cap zs := by
    unfold OwnVb OwnG at h
    rw [flat_by] at h
    exact h
  exact this.row hn (fun z hz' => by have := hz z hz'; simp [Lit.wf, IntKind.min, IntKind.max, IntKind.signed, IntKind.bits]; omega)
theorem eqlB_nil (w : World) (a : Option Addr) (n c n' c' : Nat) : (binOp .eql 57 (.slice a n c) (.slice none n' c')).run Tryz.prog w = .ok (.bool a.isNone) w :=
  Lib.run_eql_slice_nil w _ _ a n c n' c' Tryz.underlying57

set_option maxHeartbeats 1000000 in
theorem clone8_any (a : Option Addr) (n cap : Nat) (zs : List Int) (w : World) (hr : Row .u8 w a n zs) (hn : n ≤ 1099511627776) (hc : a = none → cap = 0) :
    Calls Tryz.prog 33 #[.slice a n cap] w fun e w' => ∃ a' cap', e = .returned (.slice a' n cap') ∧ OwnVb w' w.heap.size a' n cap' zs ∧ Below w.heap.size w w' := by
  obtain ⟨i0, hi, hz0, hz1, hz2⟩ := info_parts Tryz.infoU8
  have hq := eqlB_nil
  have hl := hr.1
  cases a with
  | none =>
    have h0 := hr.nz rfl
    subst h0
    have hz : zs = [] := List.length_eq_zero_iff.1 hl
    subst hz
    go_enter Tryz.func33, Tryz.ntmps33
    go_wp2
    go_ret
    exact ⟨none, 0, rfl, ownG_nil _ _, Below.refl _ _⟩
  | some ad =>
    have HR := hide (fun o j u (hj : (zs.flatMap byV)[j]? = some u) => (hr.alloc o).cells j u (by rw [flat_by] at hj; exact hj))
    have HM : Hid (OwnVb (w.alloc (.cells #[] 5)) w.heap.size (some ⟨w.heap.size, 0, none⟩) 0 0 []) := World.ownsRow_made w #[] 0 (Nat.le_refl _) (Nat.zero_le _) rfl
    clear hr
    go_enter Tryz.func33, Tryz.ntmps33
    go_wp2_with (at_builtin; refine wpList_app_g byV_len (by decide) byV_one1 _ rfl _ _ 57 rfl w.heap.size i0 (.int .u8 0) 1 Tryz.underlying57 hi hz0 hz1 hz2 rfl (some ⟨w.heap.size, 0, none⟩) 0 0 [] rfl HM.out (some ad) n cap zs rfl hl (fun ad' e => by cases e; exact HR.out _) (fun e => by cases e) (by omega) (by omega) (by simp) ?_)
    intro a2 c2 w1 o1 g1
    have O1 : Hid (OwnVb w1 w.heap.size a2 n c2 zs) := by
      first
        | exact o1
        | (have := o1; simp only [Nat.zero_add, List.nil_append] at this; exact this)
    have B1 : Hid (Below w.heap.size w w1) := ((Below.refl _ w).alloc (Nat.le_refl _) _).grown g1 (by simp) (by intro k hk; simp [Value.ownBlock] at hk; omega)
    clear o1 g1 HR HM
    go_wp2
    go_ret
    exact ⟨a2, c2, by simp, O1.out, B1.out⟩

theorem pu_set0 : ∀ (l : List (Nat × H3)) (k : Nat) (q : Nat × H3) (n : Nat), l[k]? = some q → (l.flatMap puV).set (k * 2) (.int .i64 (n : Int)) = (l.set k (n, q.2)).flatMap puV
  | [], k, _, _, h => by simp at h
  | x :: t, 0, q, n, h => by
    simp at h
    subst h
    rfl
  | x :: t, k + 1, q, n, h => by
    rw [List.flatMap_cons, List.set_cons_succ, List.flatMap_cons, List.set_append_right _ _ (by rw [puV_len]; omega), puV_len, show (k + 1) * 2 - 2 = k * 2 by omega, pu_set0 t k q n (by simpa using h)]
section
variable {w u : World} {h : Fh} {k : Nat} {b su : List Int} {us : List Un}
/-- Other pending units. -/
theorem FlP.putPend (m : FlP w h k b su us) (c : Ch (fun j => (h3V h.p).ownBlock = some j) w u) {p' : H3} {hp' : List (Nat × H3)} {ps' : List Pu} {su' : List Int} {us' : List Un} (o : OwnP u 0 p'.1 p'.2.1 p'.2.2 hp') (hpd : Pd su' us' ps') (hlen : hp'.length = ps'.length)
    (he : ∀ (i : Nat) (q : Nat × H3) (r : Pu), hp'[i]? = some q → ps'[i]? = some r → q.1 = r.1 ∧ OwnVb u 0 q.2.1 q.2.2.1 q.2.2.2 r.2 ∧ ∀ j, (h3V q.2).ownBlock = some j → ¬ (h3V h.d).ownBlock = some j) : FlP (u.setCell ⟨h.b, 2, none⟩ (.slice p'.1 p'.2.1 p'.2.2)) { h with p := p', ps := ps', hp := hp' } k b su' us' := by
  have hu : u.heap[h.b]? = some (.cells #[.int .i64 (k : Int), .slice h.d.1 h.d.2.1 h.d.2.2, .slice h.p.1 h.p.2.1 h.p.2.2] 94 (0, 0)) := (c.block h.b (m.lt (Or.inl rfl)) (fun e => (OwnG.cellsT m.pend h.b e).1.ne m.cells (by decide) rfl)).trans m.str
  have cu : CellsT u h.b 94 := ⟨_, _, hu⟩
  have ks : Ch (fun j => j = h.b) u (u.setCell ⟨h.b, 2, none⟩ (.slice p'.1 p'.2.1 p'.2.2)) := ch_set u h.b 2 _
  have od := OwnG.ch m.data c (fun j hj e => (OwnG.cellsT m.pend j e).1.ne (OwnG.cellsT m.data j hj).1 (by decide) rfl)
  refine ⟨?_, OwnG.ch od ks (fun j hj => (OwnG.cellsT od j hj).1.ne cu (by decide)), hpd, OwnG.ch o ks (fun j hj => (OwnG.cellsT o j hj).1.ne cu (by decide)), hlen, fun i q r h1 h2 => ?_⟩
  · show (u.setCell ⟨h.b, 2, none⟩ _).heap[h.b]? = _
    rw [heap_setCell_same u h.b 2 _ _ _ hu]; rfl
  · obtain ⟨e1, e2, e3⟩ := he i q r h1 h2
    exact ⟨e1, OwnG.ch e2 ks (fun j hj => (OwnG.cellsT e2 j hj).1.ne cu (by decide)), e3⟩
/-- Other bytes. -/
theorem FlP.putData (m : FlP w h k b su us) (c : Ch (fun j => (h3V h.d).ownBlock = some j) w u) {d' : H3} {b' : List Int} (o : OwnVb u 0 d'.1 d'.2.1 d'.2.2 b') (hl : ∀ j, (h3V d').ownBlock = some j → (h3V h.d).ownBlock = some j ∨ w.heap.size ≤ j) : FlP (u.setCell ⟨h.b, 1, none⟩ (.slice d'.1 d'.2.1 d'.2.2)) { h with d := d' } k b' su us := by
  have hu : u.heap[h.b]? = some (.cells #[.int .i64 (k : Int), .slice h.d.1 h.d.2.1 h.d.2.2, .slice h.p.1 h.p.2.1 h.p.2.2] 94 (0, 0)) := (c.block h.b (m.lt (Or.inl rfl)) (fun e => (OwnG.cellsT m.data h.b e).1.ne m.cells (by decide) rfl)).trans m.str
  have cu : CellsT u h.b 94 := ⟨_, _, hu⟩
  have ks : Ch (fun j => j = h.b) u (u.setCell ⟨h.b, 1, none⟩ (.slice d'.1 d'.2.1 d'.2.2)) := ch_set u h.b 1 _
  have op := OwnG.ch m.pend c (fun j hj e => (OwnG.cellsT m.data j e).1.ne (OwnG.cellsT m.pend j hj).1 (by decide) rfl)
  refine ⟨?_, OwnG.ch o ks (fun j hj => (OwnG.cellsT o j hj).1.ne cu (by decide)), m.pd, OwnG.ch op ks (fun j hj => (OwnG.cellsT op j hj).1.ne cu (by decide)), m.len, fun i q r h1 h2 => ?_⟩
  · show (u.setCell ⟨h.b, 1, none⟩ _).heap[h.b]? = _
    rw [heap_setCell_same u h.b 1 _ _ _ hu]; rfl
  · obtain ⟨e1, e2, e3⟩ := m.each i q r h1 h2
    have e4 := OwnG.ch e2 c (fun j hj e => e3 j hj e)
    refine ⟨e1, OwnG.ch e4 ks (fun j hj => (OwnG.cellsT e4 j hj).1.ne cu (by decide)), fun j hj e => ?_⟩
    rcases hl j e with q' | q'
    · exact e3 j hj q'
    · have := (OwnG.cellsT e2 j hj).1.lt
      omega
/-- So many more in the last. -/
theorem FlP.bump (m : FlP w h k b su us) {gp L cp : Nat} (hp : h.p = (some ⟨gp, 0, none⟩, L + 1, cp)) {ps0 : List Pu} {p : Pu} (hps : h.ps = ps0 ++ [p]) {q : Nat × H3} (hq : h.hp[L]? = some q) (hpos : 0 < p.1) (zs : List Int) :
    FlP (w.setCell ⟨gp, L * 2, none⟩ (.int .i64 ((p.1 + zs.length : Nat) : Int))) { h with ps := ps0 ++ [(p.1 + zs.length, p.2)], hp := h.hp.set L (p.1 + zs.length, q.2) } k b su (us ++ moreU zs) := by
  have o := m.pend
  rw [hp] at o
  have hL := OwnG.len puV_len (by decide) o
  dsimp only at hL o
  have hlen := m.len
  rw [hps, List.length_append, List.length_singleton, hL] at hlen
  have hps0 : ps0.length = L := by omega
  have hob : (h3V h.p).ownBlock = some gp := by rw [hp]; rfl
  have cg := (OwnG.cellsT o gp rfl).1
  have ks : Ch (fun j => j = gp) w (w.setCell ⟨gp, L * 2, none⟩ (.int .i64 ((p.1 + zs.length : Nat) : Int))) := ch_set w gp _ _
  have hpd := m.pd
  rw [hps] at hpd
  refine ⟨(ks.block h.b (m.lt (Or.inl rfl)) (fun e => cg.ne m.cells (by decide) e.symm)).trans m.str, OwnG.ch m.data ks (fun j hj => (OwnG.cellsT m.data j hj).1.ne cg (by decide)), hpd.more hpos zs, ?_, ?_, fun i q' r h1 h2 => ?_⟩
  · dsimp only
    rw [hp]
    have q1 := (World.ownsRow.stored o (L * 2) (.int .i64 ((p.1 + zs.length : Nat) : Int))).1
    rw [pu_set0 h.hp L q _ hq] at q1
    exact q1
  · dsimp only
    rw [List.length_set, List.length_append, List.length_singleton, hL]
    omega
  · dsimp only at h1 h2
    by_cases e : i = L
    · subst e
      rw [List.getElem?_set_self (by omega)] at h1
      rw [List.getElem?_append_right (by omega), hps0, Nat.sub_self] at h2
      obtain rfl := Option.some.inj h1
      obtain rfl := Option.some.inj h2
      obtain ⟨-, e2, e3⟩ := m.each i q p hq (by rw [hps, List.getElem?_append_right (by omega), hps0, Nat.sub_self]; rfl)
      exact ⟨rfl, OwnG.ch e2 ks (fun j hj => (OwnG.cellsT e2 j hj).1.ne cg (by decide)), e3⟩
    · rw [List.getElem?_set_ne (Ne.symm e)] at h1
      have hil : i < L := by
        have := (List.getElem?_eq_some_iff.1 h1).1
        omega
      rw [List.getElem?_append_left (by omega)] at h2
      obtain ⟨e1, e2, e3⟩ := m.each i q' r h1 (by rw [hps, List.getElem?_append_left (by omega)]; exact h2)
      exact ⟨e1, OwnG.ch e2 ks (fun j hj => (OwnG.cellsT e2 j hj).1.ne cg (by decide)), e3⟩
end

set_option maxHeartbeats 1000000 in
theorem fsync_any (w : World) (h : Fh) (k : Nat) (b su : List Int) (us : List Un) (m : FlP w h k b su us) :
    Calls Tryz.prog 52 #[.pointer (some ⟨h.b, 0, none⟩)] w fun e w' => e = .returned (.tuple #[]) ∧ StepP w w' h k b b [] := by
  have FIN : Hid (StepP w (w.setCell ⟨h.b, 2, none⟩ (.slice none 0 0)) h k b b []) := by
    have q := m.putPend (u := w) (Ch.refl _ _) (p' := (none, 0, 0)) (hp' := []) (ps' := []) (su' := b) (us' := []) (ownG_nil _ _) Pd.nil rfl (fun i q r h1 => by simp at h1)
    refine ⟨{ h with p := (none, 0, 0), ps := [], hp := [] }, rfl, q, fun j hj => ?_, (ch_set w h.b 2 _).more (fun j _ e => Or.inl e)⟩
    rcases hj with e | e | e | ⟨q', e, _⟩
    · exact Or.inl (Or.inl e)
    · exact Or.inl (Or.inr (Or.inl e))
    · simp [h3V, Value.ownBlock] at e
    · simp at e
  have c2 := m.c2
  have f2 := m.fz 2
  generalize h.p = hp at *
  clear m
  go_enter Tryz.func52, Tryz.ntmps52
  go_wp2
  go_end0
  exact ⟨rfl, FIN.out⟩
end Go.Proofs.YtknghoecjobkiabGreatDoor

namespace Go.Proofs.YtknghoecjobkiabGreatDoor
open Go.RowKit Go.Maps
set_option maxRecDepth 20000
set_option linter.unusedVariables false

theorem Tryz.infoPu : (Tryz.prog.info? 151).map (fun i => (i.zero, i.size, i.bytes)) = some (some (.agg #[.int .i64 0, .slice none 0 0]), 2, 32) := by kernel_rfl
theorem pu_cells (w : World) (n : Int) (q : Nat × H3) (e : TypeId) (h1 : (q.1 : Int) = n) : ∀ j u, (puV q)[j]? = some u → (w.alloc (.cells #[.int .i64 n, .slice q.2.1 q.2.2.1 q.2.2.2] e)).cell? ((⟨w.heap.size, 0, none⟩ : Addr).add j) = some u := by
  subst h1
  intro j u h
  match j, h with
  | 0, h => simp [puV] at h; subst h; rw [Addr.add_lit, World.cell?_alloc_mark]; rfl
  | 1, h => simp [puV] at h; subst h; rw [Addr.add_lit, World.cell?_alloc_mark]; rfl
theorem flat_pu (q : Nat × H3) : [q].flatMap puV = puV q := by simp
/-- Where a row ends. -/
theorem last_of {α : Type} {l : List α} {L : Nat} (h : l.length = L + 1) : ∃ x, l = l.take L ++ [x] ∧ l[L]? = some x := by
  have hlt : L < l.length := by omega
  refine ⟨l[L], ?_, List.getElem?_eq_getElem hlt⟩
  rw [← List.take_succ_eq_append_getElem hlt, List.take_of_length_le (by omega)]
/-- A group more: bytes that were appended. -/
theorem FlP.pushApp {w u : World} {h : Fh} {k : Nat} {b su : List Int} {us : List Un} (m : FlP w h k b su us) {zs : List Int} (hz : zs ≠ []) {P g' c' : Nat} (hP : h.p.2.1 = P) (gr : Ch (fun j => (h3V h.p).ownBlock = some j) w u) (o : OwnP u 0 (some ⟨g', 0, none⟩) (P + 1) c' (h.hp ++ [(zs.length, (none, 0, 0))])) (lies : (h3V h.p).ownBlock = some g' ∨ w.heap.size ≤ g') :
    StepP w (u.setCell ⟨h.b, 2, none⟩ (.slice (some ⟨g', 0, none⟩) (P + 1) c')) h k b su (us ++ moreU zs) := by
  have q := m.putPend gr (p' := (some ⟨g', 0, none⟩, P + 1, c')) (ps' := h.ps ++ [(zs.length, [])]) (hp' := h.hp ++ [(zs.length, (none, 0, 0))]) (su' := su) (us' := us ++ moreU zs) o (Pd.app us h.ps zs m.pd hz) (by rw [List.length_append, List.length_append, m.len]; rfl) (fun i q r h1 h2 => by
    by_cases e : i < h.hp.length
    · rw [List.getElem?_append_left e] at h1
      rw [List.getElem?_append_left (by rw [← m.len]; exact e)] at h2
      obtain ⟨e1, e2, e3⟩ := m.each i q r h1 h2
      exact ⟨e1, OwnG.ch e2 gr (fun j hj e => (OwnG.cellsT m.pend j e).1.ne (OwnG.cellsT e2 j hj).1 (by decide) rfl), e3⟩
    · rw [List.getElem?_append_right (by omega), List.getElem?_singleton] at h1
      rw [List.getElem?_append_right (by rw [← m.len]; omega), List.getElem?_singleton] at h2
      split at h1
      · rename_i e4
        rw [if_pos (by rw [← m.len]; exact e4)] at h2
        obtain rfl := Option.some.inj h1
        obtain rfl := Option.some.inj h2
        exact ⟨rfl, ownG_nil _ _, fun j hj => by simp [h3V, Value.ownBlock] at hj⟩
      · cases h1)
  refine ⟨{ h with p := (some ⟨g', 0, none⟩, P + 1, c'), ps := h.ps ++ [(zs.length, [])], hp := h.hp ++ [(zs.length, (none, 0, 0))] }, rfl, q, fun j hj => ?_, (gr.more (fun j _ e => Or.inr (Or.inr (Or.inl e)))).trans ((ch_set u h.b 2 _).more (fun j _ e => Or.inl e))⟩
  rcases hj with e | e | e | ⟨q', e, e2⟩
  · exact Or.inl (Or.inl e)
  · exact Or.inl (Or.inr (Or.inl e))
  · have : g' = j := by simpa [h3V, Value.ownBlock] using e
    subst this
    rcases lies with e | e
    · exact Or.inl (Or.inr (Or.inr (Or.inl e)))
    · exact Or.inr e
  · rcases List.mem_append.1 e with e | e
    · exact Or.inl (Or.inr (Or.inr (Or.inr ⟨q', e, e2⟩)))
    · obtain rfl := List.mem_singleton.1 e
      simp [h3V, Value.ownBlock] at e2

set_option maxHeartbeats 8000000 in
theorem vgrow_any (w : World) (h : Fh) (k : Nat) (b su : List Int) (us : List Un) (m : FlP w h k b su us) (a : Option Addr) (n c : Nat) (zs : List Int) (hr : Row .u8 w a n zs) (hb : b.length ≤ 4294967296) (hn : n ≤ 4294967296) (hus : us.length ≤ 4294967296) :
    Calls Tryz.prog 97 #[.pointer (some ⟨h.b, 0, none⟩), .slice a n c] w fun e w' => e = .returned (.tuple #[]) ∧ StepP w w' h k (b ++ zs) su (us ++ moreU zs) := by
  have hlz := hr.1
  by_cases hn0 : n = 0
  · subst hn0
    have hz : zs = [] := List.length_eq_zero_iff.1 hlz
    subst hz
    have FIN : Hid (StepP w w h k (b ++ []) su (us ++ moreU [])) := by
      refine ⟨h, rfl, ?_, fun _ e => Or.inl e, Ch.refl _ _⟩
      rw [List.append_nil, show moreU [] = [] from rfl, List.append_nil]
      exact m
    clear m hr
    go_enter Tryz.func97, Tryz.ntmps97
    go_wp2
    refine bodyPost_ret (results_none rfl _ _ _) rfl ?_
    exact ⟨rfl, FIN.out⟩
  · have hzne : zs ≠ [] := by intro e; subst e; simp at hlz; omega
    obtain ⟨i0, hi0, hz00, hz01, hz02⟩ := info_parts Tryz.infoU8
    obtain ⟨i1, hi1, hz10, hz11, hz12⟩ := info_parts Tryz.infoPu
    obtain ⟨b2, off, rfl, -⟩ := hr.2.2.2.resolve_left hn0
    have HR := hide (fun j u (hj : (zs.flatMap byV)[j]? = some u) => hr.cells j u (by rw [flat_by] at hj; exact hj))
    have HLZ : Hid ((zs.flatMap byV).length = n * 1) := by show _ = _; rw [flatG_len byV_len, hlz]
    have HOZ : Hid (∀ u ∈ zs.flatMap byV, u.oneCell' = true) := fun u hu => by
      obtain ⟨y, -, hy⟩ := List.mem_flatMap.1 hu
      exact byV_one1 y u hy
    have c1 := m.c1
    have M := hide m
    have hdl := OwnG.len byV_len (by decide) m.data
    have hpl := OwnG.len puV_len (by decide) m.pend
    have hP : h.p.2.1 ≤ 4294967296 := by rw [← hpl, m.len]; exact Nat.le_trans m.pd.len hus
    have hD : h.d.2.1 ≤ 4294967296 := by rw [← hdl]; exact hb
    obtain ⟨da, dn, dc, hd⟩ : ∃ da dn dc, h.d = (da, dn, dc) := ⟨_, _, _, rfl⟩
    have OD := hide m.data
    rw [hd] at c1 hdl hD OD
    dsimp only at c1 hdl hD OD
    have ONN : Hid (0 < n) := by show 0 < n; omega
    have hlz' := hide hlz
    clear m hr hb hpl hlz
    have LNH : h.p.2.1 = 0 ∨ ∃ L, h.p.2.1 = L + 1 := by
      cases hx : h.p.2.1 with
      | zero => exact Or.inl rfl
      | succ L => exact Or.inr ⟨L, rfl⟩
    rcases LNH with hP0 | ⟨L, hPL⟩
    · -- none is pending
      obtain ⟨pa, pc, hpe⟩ : ∃ pa pc, h.p = (pa, 0, pc) := ⟨h.p.1, h.p.2.2, by rw [← hP0]⟩
      go_enter Tryz.func97, Tryz.ntmps97
      go_wp2_with (at_builtin; refine wpList_append_lies _ rfl _ _ 57 rfl 0 5 i0 (.int .u8 0) 1 1 Tryz.underlying57 hi0 hz00 hz01 hz02 rfl (by decide) (.slice da dn dc) dn (b.flatMap byV) rfl OD.out ⟨b2, off, none⟩ n c (zs.flatMap byV) rfl HLZ.out HR.out HOZ.out ONN.out (by unfold maxLen; omega) (by omega) (Nat.zero_le _) _ rfl ?_)
      intro gC cC wC oC grC atC ltC
      have KC : Hid (Ch (fun j => (h3V h.d).ownBlock = some j) w wC) := by rw [hd]; exact Ch.grown grC
      have OC : Hid (OwnVb wC 0 (some ⟨gC, 0, none⟩) (dn + n) cC (b ++ zs)) := by
        show OwnG _ _ _ _ _ _ _ _ _
        unfold OwnG
        rw [List.flatMap_append]
        exact oC
      have LC : Hid ((h3V h.d).ownBlock = some gC ∨ w.heap.size ≤ gC) := by
        rw [hd]
        rcases atC with e | e
        · exact Or.inl e
        · exact Or.inr (by rw [e]; exact Nat.le_refl _)
      have M2 : Hid (FlP (wC.setCell ⟨h.b, 1, none⟩ (.slice (some ⟨gC, 0, none⟩) (dn + n) cC)) { h with d := (some ⟨gC, 0, none⟩, dn + n, cC) } k (b ++ zs) su us) := M.out.putData KC.out (d' := (some ⟨gC, 0, none⟩, dn + n, cC)) OC.out (fun j hj => by
        have : gC = j := by simpa [h3V, Value.ownBlock] using hj
        subst this
        exact LC.out)
      have K2 : Hid (Ch (SFh h) w (wC.setCell ⟨h.b, 1, none⟩ (.slice (some ⟨gC, 0, none⟩) (dn + n) cC))) := (KC.out.more (fun j _ e => Or.inr (Or.inl e))).trans ((ch_set wC h.b 1 _).more (fun j _ e => Or.inl e))
      have S2 : Hid (∀ j, SFh { h with d := (some ⟨gC, 0, none⟩, dn + n, cC) } j → SFh h j ∨ w.heap.size ≤ j) := fun j hj => by
        rcases hj with e | e | e | e
        · exact Or.inl (Or.inl e)
        · have : gC = j := by simpa [h3V, Value.ownBlock] using e
          subst this
          rcases LC.out with e | e
          · exact Or.inl (Or.inr (Or.inl e))
          · exact Or.inr e
        · exact Or.inl (Or.inr (Or.inr (Or.inl e)))
        · exact Or.inl (Or.inr (Or.inr (Or.inr e)))
      have FB : wC.heap[h.b]? = some (.cells #[.int .i64 (k : Int), .slice h.d.1 h.d.2.1 h.d.2.2, .slice h.p.1 h.p.2.1 h.p.2.2] 94 (0, 0)) := (KC.out.block h.b (M.out.lt (Or.inl rfl)) (fun e => (OwnG.cellsT M.out.data h.b e).1.ne M.out.cells (by decide) rfl)).trans M.out.str
      have x1 : wC.cell? ⟨h.b, 1, none⟩ = some (.slice da dn dc) := by rw [cell_of_row wC h.b 1 _ _ (0, 0) FB, hd]; rfl
      have x2 := frozen_of_row wC h.b 1 _ _ FB
      clear oC grC atC ltC FB c1 OD KC OC LC M HR HLZ HOZ
      go_upto_region 2 with fail
      obtain ⟨W2, hW2⟩ : ∃ W2, Hid (wC.setCell ⟨h.b, 1, none⟩ (.slice (some ⟨gC, 0, none⟩) (dn + n) cC) = W2) := ⟨_, rfl⟩
      rw [hW2.out] at M2 K2 ⊢
      clear hW2 x1 x2
      have p2 := M2.out.c2
      have f2 := M2.out.fz 2
      have OP2 := hide M2.out.pend
      dsimp only at p2 f2 OP2
      rw [hpe] at p2 OP2
      dsimp only at p2 OP2
      have NC := hide (pu_cells W2 (n : Int) (n, (none, 0, 0)) 151 rfl)
      go_wp2_with (at_builtin; refine wpList_append_lies _ rfl _ _ 92 rfl 0 151 i1 (.agg #[.int .i64 0, .slice none 0 0]) 2 32 Tryz.underlying92 hi1 hz10 hz11 hz12 rfl (by decide) (.slice pa 0 pc) (0) (h.hp.flatMap puV) rfl (OwnG.alloc OP2.out _) ⟨W2.heap.size, 0, none⟩ 1 1 (puV (n, (none, 0, 0))) rfl rfl NC.out (puV_one1 _) (by omega) (by unfold maxLen; omega) (by omega) (Nat.zero_le _) _ rfl ?_)
      intro g3 c3 w3 o3 gr3 at3 lt3
      have KC3 : Hid (Ch (fun j => (h3V h.p).ownBlock = some j) W2 w3) := by rw [hpe]; exact ((Ch.refl _ W2).alloc _).trans (Ch.grown gr3)
      have FIN : Hid (StepP w (w3.setCell ⟨h.b, 2, none⟩ (.slice (some ⟨g3, 0, none⟩) (0 + 1) c3)) h k (b ++ zs) su (us ++ moreU zs)) := by
        refine stepP_join (h1 := { h with d := (some ⟨gC, 0, none⟩, dn + n, cC) }) rfl S2.out K2.out (M2.out.pushApp hzne (P := 0) (by dsimp only; rw [hpe]) KC3.out ?_ ?_)
        · show OwnG _ _ _ _ _ _ _ _ _
          unfold OwnG
          dsimp only
          rw [List.flatMap_append, flat_pu, hlz'.out]
          exact o3
        · dsimp only
          rw [hpe]
          rcases at3 with e | e
          · exact Or.inl e
          · exact Or.inr (by rw [e]; simp)
      have FB3 : w3.heap[h.b]? = some (.cells #[.int .i64 (k : Int), .slice (some ⟨gC, 0, none⟩) (dn + n) cC, .slice h.p.1 h.p.2.1 h.p.2.2] 94 (0, 0)) := (KC3.out.block h.b (M2.out.lt (Or.inl rfl)) (fun e => (OwnG.cellsT M2.out.pend h.b e).1.ne M2.out.cells (by decide) rfl)).trans M2.out.str
      have y2 : w3.cell? ⟨h.b, 2, none⟩ = some (.slice pa 0 pc) := by rw [cell_of_row w3 h.b 2 _ _ (0, 0) FB3, hpe]; rfl
      have y3 := frozen_of_row w3 h.b 2 _ _ FB3
      clear o3 gr3 at3 lt3 FB3 KC3 M2 K2 S2 OP2 NC p2 f2
      go_wp2
      go_end0
      exact ⟨rfl, FIN.out⟩
    · obtain ⟨pa, pc, hpe⟩ : ∃ pa pc, h.p = (pa, L + 1, pc) := ⟨h.p.1, h.p.2.2, by rw [← hPL]⟩
      have OPd := M.out.pend
      rw [hpe] at OPd
      dsimp only at OPd
      obtain ⟨ql, hql, hqL⟩ := last_of (OwnG.len puV_len (by decide) OPd)
      obtain ⟨gp, rfl, hlt, hcp, hcq⟩ := OwnG.at puV_len (by decide) OPd hqL
      obtain ⟨pl, hpl, hpL⟩ := last_of (l := h.ps) (L := L) (by rw [← M.out.len]; exact OwnG.len puV_len (by decide) OPd)
      obtain ⟨eqp, -, -⟩ := M.out.each L ql pl hqL hpL
      have cq0 : w.cell? ⟨gp, L * 2, none⟩ = some (.int .i64 (ql.1 : Int)) := hcq 0 _ rfl
      have HQL := hide hqL
      have HPL := hide hpl
      have HEQ := hide eqp
      have hql1 : ql.1 ≤ 4294967296 := by
        have q := M.out.pd
        rw [hpl] at q
        rw [eqp]
        rcases q.last with ⟨_, _, us', l, e1, e2, _⟩ | ⟨e1, _⟩
        · rw [e1, List.length_append, moreU_len, e2] at hus
          omega
        · omega
      have hL1 : L ≤ 4294967296 := by omega
      obtain ⟨q1, q2⟩ := ql
      dsimp only at cq0 HEQ hql1
      have CGP : Hid (CellsT w gp 151) := (OwnG.cellsT OPd gp rfl).1
      have cq00 := hide cq0
      clear hcq hql hqL hpl hpL eqp OPd cq0 hPL hus
      by_cases hq0 : 0 < q1
      · -- the last was appended
        go_enter Tryz.func97, Tryz.ntmps97
        go_wp2_with (at_builtin; refine wpList_append_lies _ rfl _ _ 57 rfl 0 5 i0 (.int .u8 0) 1 1 Tryz.underlying57 hi0 hz00 hz01 hz02 rfl (by decide) (.slice da dn dc) dn (b.flatMap byV) rfl OD.out ⟨b2, off, none⟩ n c (zs.flatMap byV) rfl HLZ.out HR.out HOZ.out ONN.out (by unfold maxLen; omega) (by omega) (Nat.zero_le _) _ rfl ?_)
        intro gC cC wC oC grC atC ltC
        have KC : Hid (Ch (fun j => (h3V h.d).ownBlock = some j) w wC) := by rw [hd]; exact Ch.grown grC
        have OC : Hid (OwnVb wC 0 (some ⟨gC, 0, none⟩) (dn + n) cC (b ++ zs)) := by
          show OwnG _ _ _ _ _ _ _ _ _
          unfold OwnG
          rw [List.flatMap_append]
          exact oC
        have LC : Hid ((h3V h.d).ownBlock = some gC ∨ w.heap.size ≤ gC) := by
          rw [hd]
          rcases atC with e | e
          · exact Or.inl e
          · exact Or.inr (by rw [e]; exact Nat.le_refl _)
        have M2 : Hid (FlP (wC.setCell ⟨h.b, 1, none⟩ (.slice (some ⟨gC, 0, none⟩) (dn + n) cC)) { h with d := (some ⟨gC, 0, none⟩, dn + n, cC) } k (b ++ zs) su us) := M.out.putData KC.out (d' := (some ⟨gC, 0, none⟩, dn + n, cC)) OC.out (fun j hj => by
          have : gC = j := by simpa [h3V, Value.ownBlock] using hj
          subst this
          exact LC.out)
        have K2 : Hid (Ch (SFh h) w (wC.setCell ⟨h.b, 1, none⟩ (.slice (some ⟨gC, 0, none⟩) (dn + n) cC))) := (KC.out.more (fun j _ e => Or.inr (Or.inl e))).trans ((ch_set wC h.b 1 _).more (fun j _ e => Or.inl e))
        have S2 : Hid (∀ j, SFh { h with d := (some ⟨gC, 0, none⟩, dn + n, cC) } j → SFh h j ∨ w.heap.size ≤ j) := fun j hj => by
          rcases hj with e | e | e | e
          · exact Or.inl (Or.inl e)
          · have : gC = j := by simpa [h3V, Value.ownBlock] using e
            subst this
            rcases LC.out with e | e
            · exact Or.inl (Or.inr (Or.inl e))
            · exact Or.inr e
          · exact Or.inl (Or.inr (Or.inr (Or.inl e)))
          · exact Or.inl (Or.inr (Or.inr (Or.inr e)))
        have FB : wC.heap[h.b]? = some (.cells #[.int .i64 (k : Int), .slice h.d.1 h.d.2.1 h.d.2.2, .slice h.p.1 h.p.2.1 h.p.2.2] 94 (0, 0)) := (KC.out.block h.b (M.out.lt (Or.inl rfl)) (fun e => (OwnG.cellsT M.out.data h.b e).1.ne M.out.cells (by decide) rfl)).trans M.out.str
        have x1 : wC.cell? ⟨h.b, 1, none⟩ = some (.slice da dn dc) := by rw [cell_of_row wC h.b 1 _ _ (0, 0) FB, hd]; rfl
        have x2 := frozen_of_row wC h.b 1 _ _ FB
        have UC : Hid (CellsT wC gp 151 ∧ wC.cell? ⟨gp, L * 2, none⟩ = some (.int .i64 (q1 : Int))) := by
          have kk := KC.out.block gp CGP.out.lt (fun e => (OwnG.cellsT M.out.data gp e).1.ne CGP.out (by decide) rfl)
          refine ⟨?_, ?_⟩
          · obtain ⟨cu, mk, q⟩ := CGP.out
            exact ⟨cu, mk, kk.trans q⟩
          · have := cq00.out
            simp only [World.cell?] at this ⊢
            rw [kk]
            exact this
        have U2 : Hid ((wC.setCell ⟨h.b, 1, none⟩ (.slice (some ⟨gC, 0, none⟩) (dn + n) cC)).cell? ⟨gp, L * 2, none⟩ = some (.int .i64 (q1 : Int))) := by
          have hne : h.b ≠ gp := by
            have cb : CellsT wC h.b 94 := ⟨_, _, FB⟩
            exact cb.ne UC.out.1 (by decide)
          rw [World.cell?_setCell_other _ _ _ _ (fun e => hne (congrArg Addr.block e))]
          exact UC.out.2
        clear UC
        clear oC grC atC ltC FB c1 OD KC OC LC M HR HLZ HOZ
        go_upto_region 2 with fail
        obtain ⟨W2, hW2⟩ : ∃ W2, Hid (wC.setCell ⟨h.b, 1, none⟩ (.slice (some ⟨gC, 0, none⟩) (dn + n) cC) = W2) := ⟨_, rfl⟩
        rw [hW2.out] at M2 K2 U2 ⊢
        clear hW2 x1 x2
        have n1 : (0 : Int) ≤ (L : Int) := by omega
        have n2 : (L : Int) < (L : Int) + 1 := by omega
        have n3 : IntKind.i64.wrap (((L + 1 : Nat) : Int) - 1) = (L : Int) := by rw [IntKind.wrap_i64]; omega
        have n4 : IntKind.i64.wrap ((L : Int) + 1 - 1) = (L : Int) := by rw [IntKind.wrap_i64]; omega
        have n5 : IntKind.i64.wrap (L : Int) = (L : Int) := by rw [IntKind.wrap_i64]; omega
        have u2 := U2.out
        have p2 := M2.out.c2
        dsimp only at p2
        rw [hpe] at p2
        dsimp only at p2
        have fg : W2.frozen? ⟨gp, L * 2, none⟩ = false := by
          have o := M2.out.pend
          dsimp only at o
          rw [hpe] at o
          exact World.ownsRow.frozenAt o _
        have d1 : decide ((0 : Int) < (q1 : Int)) = true := decide_eq_true (by omega)
        have d2 : decide (0 < q1) = true := decide_eq_true hq0
        have d3 : (0 : Int) < (q1 : Int) := by omega
        have n6 : IntKind.i64.wrap ((q1 : Int) + (n : Int)) = (q1 : Int) + (n : Int) := by rw [IntKind.wrap_i64]; omega
        have FIN : Hid (StepP w (W2.setCell ⟨gp, L * 2, none⟩ (.int .i64 ((q1 : Int) + (n : Int)))) h k (b ++ zs) su (us ++ moreU zs)) := by
          have hobp : (h3V h.p).ownBlock = some gp := by rw [hpe]; rfl
          obtain ⟨pl1, pl2⟩ := pl
          dsimp only at HEQ HPL
          have e1 : q1 = pl1 := HEQ.out
          subst e1
          have mm := M2.out.bump (gp := gp) (L := L) (cp := pc) hpe (ps0 := h.ps.take L) (p := (q1, pl2)) HPL.out (q := (q1, q2)) HQL.out hq0 zs
          rw [hlz'.out] at mm
          dsimp only at mm
          rw [Int.natCast_add] at mm
          refine stepP_join (h1 := { h with d := (some ⟨gC, 0, none⟩, dn + n, cC) }) rfl S2.out K2.out ⟨{ b := h.b, d := (some ⟨gC, 0, none⟩, dn + n, cC), p := h.p, ps := h.ps.take L ++ [(q1 + n, pl2)], hp := h.hp.set L (q1 + n, q2) }, rfl, mm, fun j hj => ?_, (ch_set W2 gp _ _).more (fun j _ e => Or.inr (Or.inr (Or.inl (by rw [e]; exact hobp))))⟩
          rcases hj with e | e | e | ⟨q', e, e2⟩
          · exact Or.inl (Or.inl e)
          · exact Or.inl (Or.inr (Or.inl e))
          · exact Or.inl (Or.inr (Or.inr (Or.inl e)))
          · rcases List.mem_or_eq_of_mem_set e with e | e
            · exact Or.inl (Or.inr (Or.inr (Or.inr ⟨q', e, e2⟩)))
            · subst e
              exact Or.inl (Or.inr (Or.inr (Or.inr ⟨(q1, q2), List.mem_of_getElem? HQL.out, e2⟩)))
        clear M2 K2 S2 HQL HPL HEQ U2 cq00 CGP
        go_wp2
        refine bodyPost_ret (results_none rfl _ _ _) rfl ?_
        exact ⟨rfl, FIN.out⟩
      · have dq1 : decide ((0 : Int) < (q1 : Int)) = false := decide_eq_false (by omega)
        have dq2 : decide (0 < q1) = false := decide_eq_false hq0
        have dq3 : ¬ (0 : Int) < (q1 : Int) := by omega
        go_enter Tryz.func97, Tryz.ntmps97
        go_wp2_with (at_builtin; refine wpList_append_lies _ rfl _ _ 57 rfl 0 5 i0 (.int .u8 0) 1 1 Tryz.underlying57 hi0 hz00 hz01 hz02 rfl (by decide) (.slice da dn dc) dn (b.flatMap byV) rfl OD.out ⟨b2, off, none⟩ n c (zs.flatMap byV) rfl HLZ.out HR.out HOZ.out ONN.out (by unfold maxLen; omega) (by omega) (Nat.zero_le _) _ rfl ?_)
        intro gC cC wC oC grC atC ltC
        have KC : Hid (Ch (fun j => (h3V h.d).ownBlock = some j) w wC) := by rw [hd]; exact Ch.grown grC
        have OC : Hid (OwnVb wC 0 (some ⟨gC, 0, none⟩) (dn + n) cC (b ++ zs)) := by
          show OwnG _ _ _ _ _ _ _ _ _
          unfold OwnG
          rw [List.flatMap_append]
          exact oC
        have LC : Hid ((h3V h.d).ownBlock = some gC ∨ w.heap.size ≤ gC) := by
          rw [hd]
          rcases atC with e | e
          · exact Or.inl e
          · exact Or.inr (by rw [e]; exact Nat.le_refl _)
        have M2 : Hid (FlP (wC.setCell ⟨h.b, 1, none⟩ (.slice (some ⟨gC, 0, none⟩) (dn + n) cC)) { h with d := (some ⟨gC, 0, none⟩, dn + n, cC) } k (b ++ zs) su us) := M.out.putData KC.out (d' := (some ⟨gC, 0, none⟩, dn + n, cC)) OC.out (fun j hj => by
          have : gC = j := by simpa [h3V, Value.ownBlock] using hj
          subst this
          exact LC.out)
        have K2 : Hid (Ch (SFh h) w (wC.setCell ⟨h.b, 1, none⟩ (.slice (some ⟨gC, 0, none⟩) (dn + n) cC))) := (KC.out.more (fun j _ e => Or.inr (Or.inl e))).trans ((ch_set wC h.b 1 _).more (fun j _ e => Or.inl e))
        have S2 : Hid (∀ j, SFh { h with d := (some ⟨gC, 0, none⟩, dn + n, cC) } j → SFh h j ∨ w.heap.size ≤ j) := fun j hj => by
          rcases hj with e | e | e | e
          · exact Or.inl (Or.inl e)
          · have : gC = j := by simpa [h3V, Value.ownBlock] using e
            subst this
            rcases LC.out with e | e
            · exact Or.inl (Or.inr (Or.inl e))
            · exact Or.inr e
          · exact Or.inl (Or.inr (Or.inr (Or.inl e)))
          · exact Or.inl (Or.inr (Or.inr (Or.inr e)))
        have FB : wC.heap[h.b]? = some (.cells #[.int .i64 (k : Int), .slice h.d.1 h.d.2.1 h.d.2.2, .slice h.p.1 h.p.2.1 h.p.2.2] 94 (0, 0)) := (KC.out.block h.b (M.out.lt (Or.inl rfl)) (fun e => (OwnG.cellsT M.out.data h.b e).1.ne M.out.cells (by decide) rfl)).trans M.out.str
        have x1 : wC.cell? ⟨h.b, 1, none⟩ = some (.slice da dn dc) := by rw [cell_of_row wC h.b 1 _ _ (0, 0) FB, hd]; rfl
        have x2 := frozen_of_row wC h.b 1 _ _ FB
        have UC : Hid (CellsT wC gp 151 ∧ wC.cell? ⟨gp, L * 2, none⟩ = some (.int .i64 (q1 : Int))) := by
          have kk := KC.out.block gp CGP.out.lt (fun e => (OwnG.cellsT M.out.data gp e).1.ne CGP.out (by decide) rfl)
          refine ⟨?_, ?_⟩
          · obtain ⟨cu, mk, q⟩ := CGP.out
            exact ⟨cu, mk, kk.trans q⟩
          · have := cq00.out
            simp only [World.cell?] at this ⊢
            rw [kk]
            exact this
        have U2 : Hid ((wC.setCell ⟨h.b, 1, none⟩ (.slice (some ⟨gC, 0, none⟩) (dn + n) cC)).cell? ⟨gp, L * 2, none⟩ = some (.int .i64 (q1 : Int))) := by
          have hne : h.b ≠ gp := by
            have cb : CellsT wC h.b 94 := ⟨_, _, FB⟩
            exact cb.ne UC.out.1 (by decide)
          rw [World.cell?_setCell_other _ _ _ _ (fun e => hne (congrArg Addr.block e))]
          exact UC.out.2
        clear UC
        clear oC grC atC ltC FB c1 OD KC OC LC M HR HLZ HOZ
        go_upto_region 2 with fail
        obtain ⟨W2, hW2⟩ : ∃ W2, Hid (wC.setCell ⟨h.b, 1, none⟩ (.slice (some ⟨gC, 0, none⟩) (dn + n) cC) = W2) := ⟨_, rfl⟩
        rw [hW2.out] at M2 K2 U2 ⊢
        clear hW2 x1 x2
        have n1 : (0 : Int) ≤ (L : Int) := by omega
        have n2 : (L : Int) < (L : Int) + 1 := by omega
        have n3 : IntKind.i64.wrap (((L + 1 : Nat) : Int) - 1) = (L : Int) := by rw [IntKind.wrap_i64]; omega
        have n4 : IntKind.i64.wrap ((L : Int) + 1 - 1) = (L : Int) := by rw [IntKind.wrap_i64]; omega
        have n5 : IntKind.i64.wrap (L : Int) = (L : Int) := by rw [IntKind.wrap_i64]; omega
        have u2 := U2.out
        have p2 := M2.out.c2
        have f2 := M2.out.fz 2
        have OP2 := hide M2.out.pend
        dsimp only at p2 f2 OP2
        rw [hpe] at p2 OP2
        dsimp only at p2 OP2
        clear HQL HPL HEQ U2 cq00 CGP
        have NC := hide (pu_cells W2 (n : Int) (n, (none, 0, 0)) 151 rfl)
        go_wp2_with (at_builtin; refine wpList_append_lies _ rfl _ _ 92 rfl 0 151 i1 (.agg #[.int .i64 0, .slice none 0 0]) 2 32 Tryz.underlying92 hi1 hz10 hz11 hz12 rfl (by decide) (.slice (some ⟨gp, 0, none⟩) (L + 1) pc) (L + 1) (h.hp.flatMap puV) rfl (OwnG.alloc OP2.out _) ⟨W2.heap.size, 0, none⟩ 1 1 (puV (n, (none, 0, 0))) rfl rfl NC.out (puV_one1 _) (by omega) (by unfold maxLen; omega) (by omega) (Nat.zero_le _) _ rfl ?_)
        intro g3 c3 w3 o3 gr3 at3 lt3
        have KC3 : Hid (Ch (fun j => (h3V h.p).ownBlock = some j) W2 w3) := by rw [hpe]; exact ((Ch.refl _ W2).alloc _).trans (Ch.grown gr3)
        have FIN : Hid (StepP w (w3.setCell ⟨h.b, 2, none⟩ (.slice (some ⟨g3, 0, none⟩) (L + 1 + 1) c3)) h k (b ++ zs) su (us ++ moreU zs)) := by
          refine stepP_join (h1 := { h with d := (some ⟨gC, 0, none⟩, dn + n, cC) }) rfl S2.out K2.out (M2.out.pushApp hzne (P := L + 1) (by dsimp only; rw [hpe]) KC3.out ?_ ?_)
          · show OwnG _ _ _ _ _ _ _ _ _
            unfold OwnG
            dsimp only
            rw [List.flatMap_append, flat_pu, hlz'.out]
            exact o3
          · dsimp only
            rw [hpe]
            rcases at3 with e | e
            · exact Or.inl e
            · exact Or.inr (by rw [e]; simp)
        have FB3 : w3.heap[h.b]? = some (.cells #[.int .i64 (k : Int), .slice (some ⟨gC, 0, none⟩) (dn + n) cC, .slice h.p.1 h.p.2.1 h.p.2.2] 94 (0, 0)) := (KC3.out.block h.b (M2.out.lt (Or.inl rfl)) (fun e => (OwnG.cellsT M2.out.pend h.b e).1.ne M2.out.cells (by decide) rfl)).trans M2.out.str
        have y2 : w3.cell? ⟨h.b, 2, none⟩ = some (.slice (some ⟨gp, 0, none⟩) (L + 1) pc) := by rw [cell_of_row w3 h.b 2 _ _ (0, 0) FB3, hpe]; rfl
        have y3 := frozen_of_row w3 h.b 2 _ _ FB3
        clear o3 gr3 at3 lt3 FB3 KC3 M2 K2 S2 OP2 NC p2 f2
        go_wp2
        go_end0
        exact ⟨rfl, FIN.out⟩
end Go.Proofs.YtknghoecjobkiabGreatDoor
