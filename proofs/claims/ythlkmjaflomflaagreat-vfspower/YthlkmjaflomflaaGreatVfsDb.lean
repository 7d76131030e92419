/-
  The landed file system: New, Calls, Arm, how a call begins, names that may be, a name's file: contracts, for every world.
  Conditions: the file system lies in memory; as each theorem says.
-/
import Derived.Test.YthlkmjaflomflaaGreatVfsDa
import Derived.Test.YthlkmjaflomflaaGreatVfsXa
import Derived.Test.YthlkmjaflomflaaGreatRows
import Derived.BigQuiet
import Derived.Deep.Cut
import Derived.Deep.QuietTactic
namespace Go.Proofs.YthlkmjaflomflaaGreat
open Go.RowKit Go.Maps
set_option maxRecDepth 20000
set_option linter.unusedVariables false

section
variable {w : World} {g : Nat} {S : Nat → Prop} {F : Fs} {fb : List Nat} {fh : List Fh} {bn bc : Nat} {at' : Option Addr} {ct : Nat}
theorem LB.setN (B : LB w g S F fb fh bn bc at' ct) (v : Int) : LB (w.setCell ⟨g, 4, none⟩ (.int .i64 v)) g S { F with n := v } fb fh bn bc at' ct := B.scal (ch_set w g 4 _) (by rw [heap_setCell_same w g 4 _ _ _ B.str]; rfl) rfl rfl rfl
theorem LB.setArmed (B : LB w g S F fb fh bn bc at' ct) (v : Bool) : LB (w.setCell ⟨g, 5, none⟩ (.bool v)) g S { F with armed := v } fb fh bn bc at' ct := B.scal (ch_set w g 5 _) (by rw [heap_setCell_same w g 5 _ _ _ B.str]; rfl) rfl rfl rfl
theorem LB.setKind (B : LB w g S F fb fh bn bc at' ct) (v : Int) : LB (w.setCell ⟨g, 6, none⟩ (.int .i64 v)) g S { F with kind := v } fb fh bn bc at' ct := B.scal (ch_set w g 6 _) (by rw [heap_setCell_same w g 6 _ _ _ B.str]; rfl) rfl rfl rfl
theorem LB.setAfter (B : LB w g S F fb fh bn bc at' ct) (v : Int) : LB (w.setCell ⟨g, 7, none⟩ (.int .i64 v)) g S { F with after := v } fb fh bn bc at' ct := B.scal (ch_set w g 7 _) (by rw [heap_setCell_same w g 7 _ _ _ B.str]; rfl) rfl rfl rfl
theorem LB.setDark (B : LB w g S F fb fh bn bc at' ct) (v : Bool) : LB (w.setCell ⟨g, 8, none⟩ (.bool v)) g S { F with dark := v } fb fh bn bc at' ct := B.scal (ch_set w g 8 _) (by rw [heap_setCell_same w g 8 _ _ _ B.str]; rfl) rfl rfl rfl
end
/-- What a call meets. -/
def meetX (F : Fs) : Fs × Option Int :=
  if F.dark = true then (F, some 15)
  else if F.armed = false then (F, none)
  else if 0 < F.after then ({ F with after := F.after - 1 }, none)
  else if F.kind = 0 then ({ F with armed := false, dark := true }, some 15)
  else ({ F with armed := false }, some F.kind)
theorem call_meet (F : Fs) : callF F = meetX { F with n := F.n + 1 } := rfl
theorem meetX_cases (F : Fs) : (F.dark = true ∧ meetX F = (F, some 15)) ∨ (F.dark = false ∧ F.armed = false ∧ meetX F = (F, none)) ∨ (F.dark = false ∧ F.armed = true ∧ 0 < F.after ∧ meetX F = ({ F with after := F.after - 1 }, none)) ∨ (F.dark = false ∧ F.armed = true ∧ ¬ 0 < F.after ∧ F.kind = 0 ∧ meetX F = ({ F with armed := false, dark := true }, some 15)) ∨ (F.dark = false ∧ F.armed = true ∧ ¬ 0 < F.after ∧ ¬ F.kind = 0 ∧ meetX F = ({ F with armed := false }, some F.kind)) := by
  unfold meetX
  cases hd : F.dark with
  | true => left; simp
  | false =>
    right
    cases ha : F.armed with
    | false => left; simp
    | true =>
      right
      by_cases h : 0 < F.after
      · left; simp [h]
      · right
        by_cases hk : F.kind = 0
        · left; simp [h, hk]
        · right; simp [h, hk]

set_option maxHeartbeats 4000000 in
theorem meet_any (w : World) (g : Nat) (S : Nat → Prop) (F : Fs) (fb : List Nat) (fh : List Fh) (bn bc : Nat) (at' : Option Addr) (ct : Nat) (B : LB w g S F fb fh bn bc at' ct) (ha : 0 ≤ F.after ∧ F.after ≤ 9223372036854775807) :
    Calls Tryz.prog 71 #[.pointer (some ⟨g, 5, none⟩)] w fun e w' => e = .returned (.int .i64 ((meetX F).2.getD 0)) ∧ LB w' g S (meetX F).1 fb fh bn bc at' ct ∧ Ch (fun k => k = g) w w' := by
  have HP : Hid (∀ (G' : Fs) (o : Option Int) (u : World), meetX F = (G', o) → LB u g S G' fb fh bn bc at' ct → Ch (fun k => k = g) w u → (Ending.returned (.int .i64 (o.getD 0)) = .returned (.int .i64 ((meetX F).2.getD 0)) ∧ LB u g S (meetX F).1 fb fh bn bc at' ct ∧ Ch (fun k => k = g) w u)) := fun G' o u e hb hc => by
    rw [e]
    exact ⟨rfl, hb, hc⟩
  have c5 := B.c5
  have c6 := B.c6
  have c7 := B.c7
  have c8 := B.c8
  have f5 := B.fz 5
  have f7 := B.fz 7
  rcases meetX_cases F with ⟨q1, q⟩ | ⟨q1, q2, q⟩ | ⟨q1, q2, q3, q⟩ | ⟨q1, q2, q3, q4, q⟩ | ⟨q1, q2, q3, q4, q⟩
  · have HE := hide (HP.out _ _ w q B (Ch.refl _ _))
    rw [q1] at c8
    clear q HP B
    go_enter Tryz.func71, Tryz.ntmps71
    go_wp2
    go_ret
    exact HE.out
  · have HE := hide (HP.out _ _ w q B (Ch.refl _ _))
    rw [q1] at c8
    rw [q2] at c5
    clear q HP B
    go_enter Tryz.func71, Tryz.ntmps71
    go_wp2
    go_ret
    exact HE.out
  · have HE := hide (HP.out _ _ (w.setCell ⟨g, 7, none⟩ (.int .i64 (F.after - 1))) q (B.setAfter _) (ch_set w g 7 _))
    have hw : IntKind.i64.wrap (F.after - 1) = F.after - 1 := by rw [IntKind.wrap_i64]; omega
    rw [q1] at c8
    rw [q2] at c5
    clear q HP B
    go_enter Tryz.func71, Tryz.ntmps71
    go_wp2
    go_ret
    exact HE.out
  · obtain ⟨W2, hW2⟩ : ∃ W2, Hid (w.setCell ⟨g, 5, none⟩ (.bool false) = W2) := ⟨_, rfl⟩
    have B2 : Hid (LB W2 g S { F with armed := false } fb fh bn bc at' ct) := by rw [← hW2.out]; exact B.setArmed false
    have K2 : Hid (Ch (fun k => k = g) w W2) := by rw [← hW2.out]; exact ch_set w g 5 _
    have x6 := B2.out.c6
    have x8 := B2.out.c8
    have y8 := B2.out.fz 8
    dsimp only at x6 x8
    have HE := hide (HP.out _ _ (W2.setCell ⟨g, 8, none⟩ (.bool true)) q (B2.out.setDark true) (K2.out.trans (ch_set W2 g 8 _)))
    rw [q1] at c8
    rw [q2] at c5
    rw [q4] at x6
    clear q HP B B2
    go_enter Tryz.func71, Tryz.ntmps71
    go_upto_region 9 with fail
    rw [hW2.out]
    clear c5 c6 c7 c8
    go_wp2
    go_ret
    exact HE.out
  · obtain ⟨W2, hW2⟩ : ∃ W2, Hid (w.setCell ⟨g, 5, none⟩ (.bool false) = W2) := ⟨_, rfl⟩
    have B2 : Hid (LB W2 g S { F with armed := false } fb fh bn bc at' ct) := by rw [← hW2.out]; exact B.setArmed false
    have K2 : Hid (Ch (fun k => k = g) w W2) := by rw [← hW2.out]; exact ch_set w g 5 _
    have x6 := B2.out.c6
    dsimp only at x6
    have HE := hide (HP.out _ _ W2 q B2.out K2.out)
    have z4 : (F.kind != 0) = true := by simpa using q4
    rw [q1] at c8
    rw [q2] at c5
    clear q HP B B2
    go_enter Tryz.func71, Tryz.ntmps71
    go_upto_region 9 with fail
    rw [hW2.out]
    clear c5 c6 c7 c8
    go_wp2
    go_ret
    exact HE.out

set_option maxHeartbeats 2000000 in
theorem begin_any (w : World) (g : Nat) (S : Nat → Prop) (F : Fs) (fb : List Nat) (fh : List Fh) (bn bc : Nat) (at' : Option Addr) (ct m : Nat) (B : LB w g S F fb fh bn bc at' ct) (hV : GoodV F) (hL : Lim m F) (hm : m ≤ 1073741824) :
    Calls Tryz.prog 47 #[.pointer (some ⟨g, 0, none⟩)] w fun e w' => e = .returned (.int .i64 ((callF F).2.getD 0)) ∧ LB w' g S (callF F).1 fb fh bn bc at' ct ∧ Ch (fun k => k = g) w w' := by
  obtain ⟨W1, hW1⟩ : ∃ W1, Hid (w.setCell ⟨g, 4, none⟩ (.int .i64 (F.n + 1)) = W1) := ⟨_, rfl⟩
  have B1 : Hid (LB W1 g S { F with n := F.n + 1 } fb fh bn bc at' ct) := by rw [← hW1.out]; exact B.setN _
  have K1 : Hid (Ch (fun k => k = g) w W1) := by rw [← hW1.out]; exact ch_set w g 4 _
  have MT := hide (meet_any W1 g S _ fb fh bn bc at' ct B1.out hV.aft)
  rw [← call_meet] at MT
  have hn := hL.n
  have hw : IntKind.i64.wrap (F.n + 1) = F.n + 1 := by rw [IntKind.wrap_i64]; omega
  have c4 := B.c4
  have f4 := B.fz 4
  clear B B1 hV hL
  go_enter Tryz.func47, Tryz.ntmps47
  go_upto_region 2 with fail
  rw [hW1.out]
  clear c4 f4
  go_wp2_with fail
  with_reducible refine MT.out.mono ?_
  rintro e w2 ⟨rfl, h1, h2⟩
  have H1 := hide h1
  have H2 := hide h2
  clear h1 h2 MT
  go_wp2
  go_ret
  exact ⟨rfl, H1.out, K1.out.trans H2.out⟩

theorem isname_any (s : ByteArray) (w : World) (hs : s.size ≤ 9223372036854775807) : Calls Tryz.prog 51 #[.string s] w fun e w' => e = .returned (.bool (mayN s)) ∧ w' = w := by
  by_cases h1 : 1 ≤ s.size
  · by_cases h2 : s.size ≤ 64
    · rw [show mayN s = true by unfold mayN; simp [h1, h2]]
      have d1 : (1 : Int) ≤ (s.size : Int) := by omega
      have d2 : (s.size : Int) ≤ 64 := by omega
      go_enter Tryz.func51, Tryz.ntmps51
      go_wp2
      go_ret
      exact ⟨rfl, rfl⟩
    · rw [show mayN s = false by unfold mayN; simp [h2]]
      have d1 : (1 : Int) ≤ (s.size : Int) := by omega
      have d2 : ¬ (s.size : Int) ≤ 64 := by omega
      go_enter Tryz.func51, Tryz.ntmps51
      go_wp2
      go_ret
      exact ⟨rfl, rfl⟩
  · rw [show mayN s = false by unfold mayN; simp [h1]]
    have d1 : ¬ (1 : Int) ≤ (s.size : Int) := by omega
    go_enter Tryz.func51, Tryz.ntmps51
    go_wp2
    go_ret
    exact ⟨rfl, rfl⟩

theorem mayN_max {s : ByteArray} (h : mayN s = true) : s.size ≤ maxLen := by
  unfold mayN at h
  simp at h
  unfold maxLen
  omega
theorem zeroFl (w : World) : (zeroValue 84).run Tryz.prog w = .ok (.pointer none) w := by kernel_rfl
/-- A look at a name. -/
theorem look_name {w : World} {b n : Nat} {fb : List Nat} {l : List Dn} (h : MapS w b n (nmV fb l)) {s : ByteArray} (hs : s.size ≤ maxLen) :
    (Instr.lookup 62 (.map (some b)) (.string s) true).run Tryz.prog w = .ok (.tuple #[((fileD l s).map (ptrV fb)).getD (.pointer none), .bool (fileD l s).isSome]) w := by
  rw [h.look_ok Tryz.underlying62 (zeroFl w) hs, nmV_some]
  rfl
theorem look_name1 {w : World} {b n : Nat} {fb : List Nat} {l : List Dn} (h : MapS w b n (nmV fb l)) {s : ByteArray} (hs : s.size ≤ maxLen) :
    (Instr.lookup 62 (.map (some b)) (.string s) false).run Tryz.prog w = .ok (((fileD l s).map (ptrV fb)).getD (.pointer none)) w := by
  rw [h.look Tryz.underlying62 (zeroFl w) hs]
  rfl
/-- What find tells. -/
def findV (fb : List Nat) (F : Fs) (s : ByteArray) : Value := if mayN s = false then .tuple #[.pointer none, .int .i64 1] else match fileF F s with
  | none => .tuple #[.pointer none, .int .i64 3]
  | some k => .tuple #[ptrV fb k, .int .i64 0]

set_option maxHeartbeats 2000000 in
theorem lfind_any (w : World) (g : Nat) (S : Nat → Prop) (F : Fs) (fb : List Nat) (fh : List Fh) (bn bc : Nat) (at' : Option Addr) (ct : Nat) (s : ByteArray) (B : LB w g S F fb fh bn bc at' ct) (hs : s.size ≤ 9223372036854775807) :
    Calls Tryz.prog 55 #[.pointer (some ⟨g, 0, none⟩), .string s] w fun e w' => e = .returned (findV fb F s) ∧ w' = w := by
  have IN := hide (isname_any s w hs)
  cases hm : mayN s with
  | false =>
    have HE : Hid (findV fb F s = .tuple #[.pointer none, .int .i64 1]) := by show _ = _; unfold findV; rw [if_pos hm]
    rw [HE.out]
    clear B
    go_enter Tryz.func55, Tryz.ntmps55
    go_wp2_with fail
    with_reducible refine IN.out.mono ?_
    rintro e u ⟨rfl, rfl⟩
    rw [hm]
    go_wp2
    refine bodyPost_ret (v := .tuple #[.pointer none, .int .i64 1]) (by simp [results, Tryz.results55, go_sem]) rfl ?_
    exact ⟨rfl, rfl⟩
  | true =>
    have lk := look_name B.names (mayN_max hm)
    have c0 := B.c0
    have hE : findV fb F s = match fileF F s with
      | none => .tuple #[.pointer none, .int .i64 3]
      | some k => .tuple #[ptrV fb k, .int .i64 0] := by unfold findV; rw [if_neg (by rw [hm]; simp)]
    unfold fileF at hE
    clear B
    cases hf : fileD (dirF F) s with
    | none =>
      rw [hf] at lk hE
      dsimp only [Option.map_none, Option.getD_none, Option.isSome_none] at lk hE
      rw [hE]
      clear hE hf
      go_enter Tryz.func55, Tryz.ntmps55
      go_wp2_with fail
      with_reducible refine IN.out.mono ?_
      rintro e u ⟨rfl, hu⟩
      rw [hu, hm]
      clear hu
      go_wp2
      refine bodyPost_ret (v := .tuple #[.pointer none, .int .i64 3]) (by simp [results, Tryz.results55, go_sem]) rfl ?_
      exact ⟨rfl, rfl⟩
    | some k =>
      rw [hf] at lk hE
      dsimp only [Option.map_some, Option.getD_some, Option.isSome_some] at lk hE
      unfold ptrV at lk hE
      generalize fb.getD k 0 = pk at lk hE
      rw [hE]
      clear hE hf
      go_enter Tryz.func55, Tryz.ntmps55
      go_wp2_with fail
      with_reducible refine IN.out.mono ?_
      rintro e u ⟨rfl, hu⟩
      rw [hu, hm]
      clear hu
      go_wp2
      refine bodyPost_ret (v := .tuple #[.pointer (some ⟨pk, 0, none⟩), .int .i64 0]) (by simp [results, Tryz.results55, go_sem]) rfl ?_
      exact ⟨rfl, rfl⟩

theorem calls_any (w : World) (g : Nat) (S : Nat → Prop) (F : Fs) (h : LAt w g S F) :
    Calls Tryz.prog 25 #[.pointer (some ⟨g, 0, none⟩)] w fun e w' => e = .returned (.int .i64 F.n) ∧ w' = w := by
  obtain ⟨-, -, fb, fh, bn, bc, at', ct, B⟩ := h
  have c4 := B.c4
  clear B
  go_enter Tryz.func25, Tryz.ntmps25
  go_wp2
  go_ret
  exact ⟨rfl, rfl⟩

theorem lnew_any (w : World) : Calls Tryz.prog 7 #[] w fun e w' => ∃ g, e = .returned (.pointer (some ⟨g, 0, none⟩)) ∧ MadeV LAt w w' g fs0 := by
  have hmm := @run_makeMap Tryz.prog
  go_enter Tryz.func7, Tryz.ntmps7
  go_wp2
  go_ret
  have s1 : (w.alloc (.map #[] 0)).heap.size = w.heap.size + 1 := by simp
  have s2 : ((w.alloc (.map #[] 0)).alloc (.map #[] 0)).heap.size = w.heap.size + 1 + 1 := by simp
  have m1 := mapS_new w
  have m2 := mapS_new (w.alloc (.map #[] 0))
  rw [s1] at m2
  have b1 : ∀ (u : World) (o : Obj), Below u.heap.size u (u.alloc o) := fun u o => (Below.refl _ _).alloc (Nat.le_refl _) _
  have n0 : ∀ v, MapS v w.heap.size 0 (fun _ => none) → MapS v w.heap.size 0 (nmV [] []) := fun v h => h.congr (fun s => rfl)
  have n1 := (m1.below (b1 _ (.map #[] 0))).below (b1 _ (.cells (lfC fs0 w.heap.size (w.heap.size + 1) none 0) 67))
  have n2 := m2.below (b1 _ (.cells (lfC fs0 w.heap.size (w.heap.size + 1) none 0) 67))
  refine ⟨w.heap.size + 1 + 1, by simp, fun k => w.heap.size ≤ k ∧ k ≤ w.heap.size + 1 + 1, ⟨good0, goodN0, [], [], w.heap.size, w.heap.size + 1, none, 0, ⟨⟨by omega, by omega⟩, fun k hk => by simp; omega, ?_, n0 _ n1, n2.congr (fun s => rfl), by omega, ⟨by omega, by omega⟩, ⟨by omega, by omega⟩, ownG_nil _ _, fun b hb => by simp [Value.ownBlock] at hb, rfl, rfl, fun i h x hi => by simp at hi, fun i h j hi => by simp at hi, fun i i' h h' j _ hi => by simp at hi⟩⟩, fun k hk => hk.1, bel_al (bel_al (bel_al (Below.refl _ _) (Nat.le_refl _) _) (Nat.le_refl _) _) (Nat.le_refl _) _⟩
  have := World.alloc_heap_new ((w.alloc (.map #[] 0)).alloc (.map #[] 0)) (.cells (lfC fs0 w.heap.size (w.heap.size + 1) none 0) 67)
  rwa [s2] at this
end Go.Proofs.YthlkmjaflomflaaGreat
