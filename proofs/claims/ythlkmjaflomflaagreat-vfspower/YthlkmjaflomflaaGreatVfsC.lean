/-
  The document's file system: a call begins (call), Arm, May, a file's size: contracts, for every world.
  Conditions: the file system lies in memory; as each theorem says.
-/
import Derived.Test.YthlkmjaflomflaaGreatVfsS
namespace Go.Proofs.YthlkmjaflomflaaGreat
open Go.RowKit
set_option maxRecDepth 20000
set_option linter.unusedVariables false

section
variable {w w' : World} {g : Nat} {S : Nat → Prop} {F F' : Fs} {af : Option Addr} {cf : Nat} {as' : Option Addr} {cs : Nat} {at' : Option Addr} {ct : Nat} {hs : List (H3 × H3)}
theorem RB.cellsT (h : RB w g S F af cf as' cs at' ct hs) : CellsT w g 32 := ⟨_, _, h.str⟩
/-- The struct alone has turned. -/
theorem RB.scal (h : RB w g S F af cf as' cs at' ct hs) (k : Ch (fun j => j = g) w w') (hstr : w'.heap[g]? = some (.cells (fsC8 F' af cf as' cs at' ct) 32 (0, 0))) (e1 : F'.files = F.files) (e2 : F'.sure = F.sure) (e3 : F'.turns = F.turns) : RB w' g S F' af cf as' cs at' ct hs := by
  refine ⟨h.own, fun j hj => Nat.lt_of_lt_of_le (h.lt j hj) k.size, hstr, ?_, ?_, ?_, h.apart, ?_, ?_, ?_, ?_⟩
  · rw [e1]; exact OwnG.ch h.files k (fun b hb => (OwnG.cellsT h.files b hb).1.ne h.cellsT (by decide))
  · rw [e1]; exact h.filesS
  · rw [e1]
    intro i x y hi hy
    have m := h.each i x y hi hy
    exact ⟨OwnG.ch m.sure k (fun b hb => (OwnG.cellsT m.sure b hb).1.ne h.cellsT (by decide)), OwnG.ch m.us k (fun b hb => (OwnG.cellsT m.us b hb).1.ne h.cellsT (by decide)), m.sureS, m.usS⟩
  · rw [e2]; exact OwnG.ch h.sure k (fun b hb => (OwnG.cellsT h.sure b hb).1.ne h.cellsT (by decide))
  · rw [e2]; exact h.sureS
  · rw [e3]; exact OwnG.ch h.turns k (fun b hb => (OwnG.cellsT h.turns b hb).1.ne h.cellsT (by decide))
  · rw [e3]; exact h.turnsS
theorem RB.setN (h : RB w g S F af cf as' cs at' ct hs) (v : Int) : RB (w.setCell ⟨g, 3, none⟩ (.int .i64 v)) g S { F with n := v } af cf as' cs at' ct hs :=
  h.scal (ch_set w g 3 _) (by rw [heap_setCell_same w g 3 _ _ _ h.str]; rfl) rfl rfl rfl
theorem RB.setArmed (h : RB w g S F af cf as' cs at' ct hs) (v : Bool) : RB (w.setCell ⟨g, 4, none⟩ (.bool v)) g S { F with armed := v } af cf as' cs at' ct hs :=
  h.scal (ch_set w g 4 _) (by rw [heap_setCell_same w g 4 _ _ _ h.str]; rfl) rfl rfl rfl
theorem RB.setKind (h : RB w g S F af cf as' cs at' ct hs) (v : Int) : RB (w.setCell ⟨g, 5, none⟩ (.int .i64 v)) g S { F with kind := v } af cf as' cs at' ct hs :=
  h.scal (ch_set w g 5 _) (by rw [heap_setCell_same w g 5 _ _ _ h.str]; rfl) rfl rfl rfl
theorem RB.setAfter (h : RB w g S F af cf as' cs at' ct hs) (v : Int) : RB (w.setCell ⟨g, 6, none⟩ (.int .i64 v)) g S { F with after := v } af cf as' cs at' ct hs :=
  h.scal (ch_set w g 6 _) (by rw [heap_setCell_same w g 6 _ _ _ h.str]; rfl) rfl rfl rfl
theorem RB.setDark (h : RB w g S F af cf as' cs at' ct hs) (v : Bool) : RB (w.setCell ⟨g, 7, none⟩ (.bool v)) g S { F with dark := v } af cf as' cs at' ct hs :=
  h.scal (ch_set w g 7 _) (by rw [heap_setCell_same w g 7 _ _ _ h.str]; rfl) rfl rfl rfl
end
/-- What a call that begins answers. -/
def callE (F : Fs) : Int := (callF F).2.getD 0
def callB (F : Fs) : Bool := (callF F).2.isSome

set_option maxHeartbeats 4000000 in
theorem rcall_any (g : Nat) (S : Nat → Prop) (F : Fs) (m : Nat) (w : World) (hF : RAt w g S F) (hL : Lim m F) (hm : m ≤ 1073741824) :
    Calls Tryz.prog 62 #[.pointer (some ⟨g, 0, none⟩)] w fun e w' => e = .returned (.tuple #[.int .i64 (callE F), .bool (callB F)]) ∧ RAt w' g S (callF F).1 ∧ Ch (fun k => k = g) w w' := by
  obtain ⟨G, af, cf, as', cs, at', ct, hs, B⟩ := hF
  have GC := hide G.call
  have hn := hL.n
  have ha := G.aft
  obtain ⟨-, -, -, c3, -⟩ := B.cells
  have f3 := B.fz 3
  obtain ⟨W1, hW1⟩ : ∃ W1, Hid (w.setCell ⟨g, 3, none⟩ (.int .i64 (F.n + 1)) = W1) := ⟨_, rfl⟩
  have B1 : Hid (RB W1 g S { F with n := F.n + 1 } af cf as' cs at' ct hs) := by rw [← hW1.out]; exact B.setN (F.n + 1)
  have K1 : Hid (Ch (fun k => k = g) w W1) := by rw [← hW1.out]; exact ch_set w g 3 _
  obtain ⟨-, -, -, -, d4, d5, d6, d7⟩ := B1.out.cells
  have f4 := B1.out.fz 4
  have f6 := B1.out.fz 6
  dsimp only at d4 d5 d6 d7
  have HP : Hid (∀ (G' : Fs) (o : Option Int) (u : World), callF F = (G', o) → RB u g S G' af cf as' cs at' ct hs → Ch (fun k => k = g) w u → (Ending.returned (.tuple #[.int .i64 (o.getD 0), .bool o.isSome]) = .returned (.tuple #[.int .i64 (callE F), .bool (callB F)]) ∧ RAt u g S (callF F).1 ∧ Ch (fun k => k = g) w u)) := fun G' o u e hb hc => by
    have e1 : callE F = o.getD 0 := by unfold callE; rw [e]
    have e2 : callB F = o.isSome := by unfold callB; rw [e]
    refine ⟨by rw [e1, e2], ⟨GC.out, af, cf, as', cs, at', ct, hs, ?_⟩, hc⟩
    rw [e]
    exact hb
  rcases callF_cases F with ⟨q1, q⟩ | ⟨q1, q2, q⟩ | ⟨q1, q2, q3, q⟩ | ⟨q1, q2, q3, q4, q⟩ | ⟨q1, q2, q3, q4, q⟩
  · have HE := hide (HP.out _ _ W1 q B1.out K1.out)
    rw [q1] at d7
    clear q HP B1 GC G B hL
    go_enter Tryz.func62, Tryz.ntmps62
    go_upto_region 2 with fail
    rw [hW1.out]
    go_wp2
    refine bodyPost_ret (v := .tuple #[.int .i64 15, .bool true]) (by simp [results, Tryz.results62, go_sem]) rfl ?_
    exact HE.out
  · have HE := hide (HP.out _ _ W1 q B1.out K1.out)
    rw [q1] at d7
    rw [q2] at d4
    clear q HP B1 GC G B hL
    go_enter Tryz.func62, Tryz.ntmps62
    go_upto_region 2 with fail
    rw [hW1.out]
    go_wp2
    refine bodyPost_ret (v := .tuple #[.int .i64 0, .bool false]) (by simp [results, Tryz.results62, go_sem]) rfl ?_
    exact HE.out
  · have HE := hide (HP.out _ _ (W1.setCell ⟨g, 6, none⟩ (.int .i64 (F.after - 1))) q (B1.out.setAfter _) (K1.out.trans (ch_set W1 g 6 _)))
    rw [q1] at d7
    rw [q2] at d4
    clear q HP B1 GC G B hL
    go_enter Tryz.func62, Tryz.ntmps62
    go_upto_region 2 with fail
    rw [hW1.out]
    go_wp2
    refine bodyPost_ret (v := .tuple #[.int .i64 0, .bool false]) (by simp [results, Tryz.results62, go_sem]) rfl ?_
    exact HE.out
  · obtain ⟨W2, hW2⟩ : ∃ W2, Hid (W1.setCell ⟨g, 4, none⟩ (.bool false) = W2) := ⟨_, rfl⟩
    have B2 : Hid (RB W2 g S { F with n := F.n + 1, armed := false } af cf as' cs at' ct hs) := by rw [← hW2.out]; exact B1.out.setArmed false
    have K2 : Hid (Ch (fun k => k = g) w W2) := by rw [← hW2.out]; exact K1.out.trans (ch_set W1 g 4 _)
    obtain ⟨-, -, -, -, -, x5, -, x7⟩ := B2.out.cells
    have y7 := B2.out.fz 7
    dsimp only at x5 x7
    have HE := hide (HP.out _ _ (W2.setCell ⟨g, 7, none⟩ (.bool true)) q (B2.out.setDark true) (K2.out.trans (ch_set W2 g 7 _)))
    rw [q1] at d7
    rw [q2] at d4
    rw [q4] at x5
    clear q HP B1 B2 GC G B hL
    go_enter Tryz.func62, Tryz.ntmps62
    go_upto_region 2 with fail
    rw [hW1.out]
    go_upto_region 10 with fail
    rw [hW2.out]
    clear d4 d5 d6 d7
    go_wp2
    refine bodyPost_ret (v := .tuple #[.int .i64 15, .bool true]) (by simp [results, Tryz.results62, go_sem]) rfl ?_
    exact HE.out
  · obtain ⟨W2, hW2⟩ : ∃ W2, Hid (W1.setCell ⟨g, 4, none⟩ (.bool false) = W2) := ⟨_, rfl⟩
    have B2 : Hid (RB W2 g S { F with n := F.n + 1, armed := false } af cf as' cs at' ct hs) := by rw [← hW2.out]; exact B1.out.setArmed false
    have K2 : Hid (Ch (fun k => k = g) w W2) := by rw [← hW2.out]; exact K1.out.trans (ch_set W1 g 4 _)
    obtain ⟨-, -, -, -, -, x5, -, -⟩ := B2.out.cells
    dsimp only at x5
    have HE := hide (HP.out _ _ W2 q B2.out K2.out)
    have z4 : (F.kind == 0) = false := by simpa using q4
    rw [q1] at d7
    rw [q2] at d4
    clear q HP B1 B2 GC G B hL
    go_enter Tryz.func62, Tryz.ntmps62
    go_upto_region 2 with fail
    rw [hW1.out]
    go_upto_region 10 with fail
    rw [hW2.out]
    clear d4 d5 d6 d7
    go_wp2
    refine bodyPost_ret (v := .tuple #[.int .i64 F.kind, .bool true]) (by simp [results, Tryz.results62, go_sem]) rfl ?_
    exact HE.out
end Go.Proofs.YthlkmjaflomflaaGreat
