/-
  The document's file system: Arm, May, a file's size, SyncDir: contracts, for every world; how its rows are exchanged.
  Conditions: the file system lies in memory; as each theorem says.
-/
import Derived.Test.YthlkmjaflomflaaGreatVfsC
namespace Go.Proofs.YthlkmjaflomflaaGreat
open Go.RowKit
set_option maxRecDepth 20000
set_option linter.unusedVariables false

section
variable {w w0 w' : World} {g : Nat} {S S' : Nat → Prop} {F F' : Fs} {af : Option Addr} {cf : Nat} {as' : Option Addr} {cs : Nat} {at' : Option Addr} {ct : Nat} {hs : List (H3 × H3)}
theorem RAt.own (h : RAt w g S F) : S g := by
  obtain ⟨h0, af, cf, as', cs, at', ct, hs, h1⟩ := h
  exact h1.own
theorem stepV_same (h : RAt w' g S F) (k : Ch (fun j => j = g) w w') (ho : S g) : StepV RAt w w' g S F := ⟨S, h, fun _ hk => Or.inl hk, k.more (fun j _ e => e ▸ ho)⟩
theorem stepV_below (h : RAt w' g S F) (b : Below w.heap.size w w') : StepV RAt w w' g S F := ⟨S, h, fun _ hk => Or.inl hk, (Ch.of_below b).more (fun _ _ h => h.elim)⟩
/-- First one step, then another. -/
theorem StepV.after (h : Ch S w w0) (k : StepV RAt w0 w' g S F) : StepV RAt w w' g S F := by
  obtain ⟨S', q1, q2, q3⟩ := k
  refine ⟨S', q1, fun j hj => ?_, h.trans q3⟩
  rcases q2 j hj with e | e
  · exact Or.inl e
  · exact Or.inr (Nat.le_trans h.size e)
/-- Blocks of one type alone have turned, and one row with them. -/
theorem RB.putTurns (h : RB w0 g S F af cf as' cs at' ct hs) (k : Ch (fun j => CellsT w0 j 109) w0 w) {ts : List Tn} {a : Option Addr} {c : Nat} (o : OwnT w 0 a ts.length c ts) (hS : ∀ b, (Value.slice a ts.length c).ownBlock = some b → S' b) (hSS : ∀ j, S j → S' j) (hl : ∀ j, S' j → j < w.heap.size) :
    RB (w.setCell ⟨g, 2, none⟩ (.slice a ts.length c)) g S' { F with turns := ts } af cf as' cs a c hs := by
  have ks : Ch (fun j => j = g) w (w.setCell ⟨g, 2, none⟩ (.slice a ts.length c)) := ch_set w g 2 _
  have hstr : w.heap[g]? = some (.cells (fsC8 F af cf as' cs at' ct) 32 (0, 0)) := (k.block g (h.lt g h.own) (fun e => e.ne h.cellsT (by decide) rfl)).trans h.str
  have hg : CellsT w g 32 := ⟨_, _, hstr⟩
  have q1 : OwnF w 0 af F.files.length cf hs := OwnG.ch h.files k (fun b hb e => e.ne (OwnG.cellsT h.files b hb).1 (by decide) rfl)
  have q2 : OwnD w 0 as' F.sure.length cs F.sure := OwnG.ch h.sure k (fun b hb e => e.ne (OwnG.cellsT h.sure b hb).1 (by decide) rfl)
  refine ⟨hSS _ h.own, fun j hj => Nat.lt_of_lt_of_le (hl j hj) ks.size, ?_, OwnG.ch q1 ks (fun b hb => (OwnG.cellsT q1 b hb).1.ne hg (by decide)), fun b hb => hSS b (h.filesS b hb), ?_, h.apart, OwnG.ch q2 ks (fun b hb => (OwnG.cellsT q2 b hb).1.ne hg (by decide)), fun b hb => hSS b (h.sureS b hb), OwnG.ch o ks (fun b hb => (OwnG.cellsT o b hb).1.ne hg (by decide)), hS⟩
  · rw [heap_setCell_same w g 2 _ _ _ hstr]; rfl
  · intro i x y hi hy
    have m := h.each i x y hi hy
    have m1 : OwnB w 0 x.1.1 x.1.2.1 x.1.2.2 y.sure := OwnG.ch m.sure k (fun b hb e => e.ne (OwnG.cellsT m.sure b hb).1 (by decide) rfl)
    have m2 : OwnU w 0 x.2.1 x.2.2.1 x.2.2.2 y.us := OwnG.ch m.us k (fun b hb e => e.ne (OwnG.cellsT m.us b hb).1 (by decide) rfl)
    exact ⟨OwnG.ch m1 ks (fun b hb => (OwnG.cellsT m1 b hb).1.ne hg (by decide)), OwnG.ch m2 ks (fun b hb => (OwnG.cellsT m2 b hb).1.ne hg (by decide)), fun b hb => hSS b (m.sureS b hb), fun b hb => hSS b (m.usS b hb)⟩
theorem RB.putSure (h : RB w0 g S F af cf as' cs at' ct hs) (k : Ch (fun j => CellsT w0 j 80) w0 w) {ts : List Dn} {a : Option Addr} {c : Nat} (o : OwnD w 0 a ts.length c ts) (hS : ∀ b, (Value.slice a ts.length c).ownBlock = some b → S' b) (hSS : ∀ j, S j → S' j) (hl : ∀ j, S' j → j < w.heap.size) :
    RB (w.setCell ⟨g, 1, none⟩ (.slice a ts.length c)) g S' { F with sure := ts } af cf a c at' ct hs := by
  have ks : Ch (fun j => j = g) w (w.setCell ⟨g, 1, none⟩ (.slice a ts.length c)) := ch_set w g 1 _
  have hstr : w.heap[g]? = some (.cells (fsC8 F af cf as' cs at' ct) 32 (0, 0)) := (k.block g (h.lt g h.own) (fun e => e.ne h.cellsT (by decide) rfl)).trans h.str
  have hg : CellsT w g 32 := ⟨_, _, hstr⟩
  have q1 : OwnF w 0 af F.files.length cf hs := OwnG.ch h.files k (fun b hb e => e.ne (OwnG.cellsT h.files b hb).1 (by decide) rfl)
  have q2 : OwnT w 0 at' F.turns.length ct F.turns := OwnG.ch h.turns k (fun b hb e => e.ne (OwnG.cellsT h.turns b hb).1 (by decide) rfl)
  refine ⟨hSS _ h.own, fun j hj => Nat.lt_of_lt_of_le (hl j hj) ks.size, ?_, OwnG.ch q1 ks (fun b hb => (OwnG.cellsT q1 b hb).1.ne hg (by decide)), fun b hb => hSS b (h.filesS b hb), ?_, h.apart, OwnG.ch o ks (fun b hb => (OwnG.cellsT o b hb).1.ne hg (by decide)), hS, OwnG.ch q2 ks (fun b hb => (OwnG.cellsT q2 b hb).1.ne hg (by decide)), fun b hb => hSS b (h.turnsS b hb)⟩
  · rw [heap_setCell_same w g 1 _ _ _ hstr]; rfl
  · intro i x y hi hy
    have m := h.each i x y hi hy
    have m1 : OwnB w 0 x.1.1 x.1.2.1 x.1.2.2 y.sure := OwnG.ch m.sure k (fun b hb e => e.ne (OwnG.cellsT m.sure b hb).1 (by decide) rfl)
    have m2 : OwnU w 0 x.2.1 x.2.2.1 x.2.2.2 y.us := OwnG.ch m.us k (fun b hb e => e.ne (OwnG.cellsT m.us b hb).1 (by decide) rfl)
    exact ⟨OwnG.ch m1 ks (fun b hb => (OwnG.cellsT m1 b hb).1.ne hg (by decide)), OwnG.ch m2 ks (fun b hb => (OwnG.cellsT m2 b hb).1.ne hg (by decide)), fun b hb => hSS b (m.sureS b hb), fun b hb => hSS b (m.usS b hb)⟩
end

theorem rmay_any (s : ByteArray) (w : World) (hs : s.size ≤ 9223372036854775807) : Calls Tryz.prog 45 #[.string s] w fun e w' => e = .returned (.bool (mayN s)) ∧ w' = w := by
  by_cases h1 : 1 ≤ s.size
  · by_cases h2 : s.size ≤ 64
    · rw [show mayN s = true by unfold mayN; simp [h1, h2]]
      have d1 : (1 : Int) ≤ (s.size : Int) := by omega
      have d2 : (s.size : Int) ≤ 64 := by omega
      go_enter Tryz.func45, Tryz.ntmps45
      go_wp2
      go_ret
      exact ⟨rfl, rfl⟩
    · rw [show mayN s = false by unfold mayN; simp [h2]]
      have d1 : (1 : Int) ≤ (s.size : Int) := by omega
      have d2 : ¬ (s.size : Int) ≤ 64 := by omega
      go_enter Tryz.func45, Tryz.ntmps45
      go_wp2
      go_ret
      exact ⟨rfl, rfl⟩
  · rw [show mayN s = false by unfold mayN; simp [h1]]
    have d1 : ¬ (1 : Int) ≤ (s.size : Int) := by omega
    go_enter Tryz.func45, Tryz.ntmps45
    go_wp2
    go_ret
    exact ⟨rfl, rfl⟩

set_option maxHeartbeats 2000000 in
theorem rsize_any (g : Nat) (S : Nat → Prop) (F : Fs) (k m : Nat) (w : World) (hF : RAt w g S F) (hL : Lim m F) (hm : m ≤ 1073741824) (hk : k < F.files.length) :
    Calls Tryz.prog 65 #[.pointer (some ⟨g, 0, none⟩), .int .i64 (k : Int)] w fun e w' => e = .returned (.int .i64 ((bytF (atF F k)).length : Int)) ∧ Below w.heap.size w w' := by
  obtain ⟨G, af, cf, as', cs, at', ct, hs, B⟩ := hF
  obtain ⟨gf, h1, h2, rfl, hcf, hh, e0, e1, hx⟩ := B.fileAt hk
  obtain ⟨hu2, BY⟩ := rfull_any m hm hx (G.cuts _ (atF_mem hk)) (hL.each _ (atF_mem hk))
  have HB := hide BY
  obtain ⟨c0, -⟩ := B.cells
  have hfl := hL.files
  generalize bytF (atF F k) = BB at *
  obtain ⟨N, hN⟩ : ∃ N, F.files.length = N := ⟨_, rfl⟩
  rw [hN] at c0 hk hfl hcf
  obtain ⟨a1, n1, c1⟩ := h1
  obtain ⟨a2, n2, c2⟩ := h2
  dsimp only at e0 e1 hu2 HB
  have k0 : (0 : Int) ≤ (k : Int) := by omega
  have k1 : (k : Int) < (N : Int) := by omega
  have KS : Hid (∀ u, Below w.heap.size w u → u.cell? ⟨g, 0, none⟩ = some (.slice (some ⟨gf, 0, none⟩) N cf) ∧ u.cell? ⟨gf, k * 2, none⟩ = some (.slice a1 n1 c1) ∧ u.cell? ⟨gf, k * 2 + 1, none⟩ = some (.slice a2 n2 c2)) := fun u hu =>
    ⟨(hu.cell (p := ⟨g, 0, none⟩) (World.block_lt_of_cell? w _ c0)).trans c0, (hu.cell (p := ⟨gf, k * 2, none⟩) (World.block_lt_of_cell? w _ e0)).trans e0, (hu.cell (p := ⟨gf, k * 2 + 1, none⟩) (World.block_lt_of_cell? w _ e1)).trans e1⟩
  clear G B hx BY hL hN hh hu2
  go_enter Tryz.func65, Tryz.ntmps65
  go_upto_region 1 with fail
  refine wp_region_held_drew (S := fun u => u.cell? ⟨g, 0, none⟩ = some (.slice (some ⟨gf, 0, none⟩) N cf) ∧ u.cell? ⟨gf, k * 2, none⟩ = some (.slice a1 n1 c1) ∧ u.cell? ⟨gf, k * 2 + 1, none⟩ = some (.slice a2 n2 c2)) (by kernel_rfl) ⟨c0, e0, e1⟩ (fun hHeld => ?_)
  refine held_take (i := 0) (d := (some 5)) (v := ?_) rfl rfl (by kernel_rfl) (by kernel_rfl) (by kernel_rfl) (fun _ _ _ h => h) (Or.inl ⟨by rfl, ?_⟩) (by first | assumption | rfl | trivial) ?_
  rotate_left 1
  · (intro w hSw; (try dsimp only at hSw); (try subst hSw); go_simp; try with_reducible rfl)
  simp only [Act.put, List.setIfInBounds_toArray, List.set_cons_zero, List.set_cons_succ]
  refine held_take (i := 1) (d := (some 6)) (v := ?_) rfl rfl (by kernel_rfl) (by kernel_rfl) (by kernel_rfl) (fun _ _ _ h => h) (Or.inl ⟨by rfl, ?_⟩) (by first | assumption | rfl | trivial) ?_
  rotate_left 1
  · (intro w hSw; (try dsimp only at hSw); (try subst hSw); go_simp; try with_reducible rfl)
  simp only [Act.put, List.setIfInBounds_toArray, List.set_cons_zero, List.set_cons_succ]
  refine held_take (i := 2) (d := (some 7)) (v := ?_) rfl rfl (by kernel_rfl) (by kernel_rfl) (by kernel_rfl) (fun _ _ _ h => h) (Or.inl ⟨by rfl, ?_⟩) (by first | assumption | rfl | trivial) ?_
  rotate_left 1
  · (intro w hSw; (try dsimp only at hSw); (try subst hSw); go_simp; try with_reducible rfl)
  simp only [Act.put, List.setIfInBounds_toArray, List.set_cons_zero, List.set_cons_succ]
  refine held_take (i := 3) (d := (some 8)) (v := ?_) rfl rfl (by kernel_rfl) (by kernel_rfl) (by kernel_rfl) (fun _ _ _ h => h) (Or.inl ⟨by rfl, ?_⟩) (by first | assumption | rfl | trivial) ?_
  rotate_left 1
  · (intro w hSw; (try dsimp only at hSw); (try subst hSw); go_simp; try with_reducible rfl)
  simp only [Act.put, List.setIfInBounds_toArray, List.set_cons_zero, List.set_cons_succ]
  refine held_take (i := 4) (d := (some 9)) (v := ?_) rfl rfl (by kernel_rfl) (by kernel_rfl) (by kernel_rfl) (fun _ _ _ h => h) (Or.inl ⟨by rfl, ?_⟩) (by first | assumption | rfl | trivial) ?_
  rotate_left 1
  · (intro w hSw; (try dsimp only at hSw); (try subst hSw); go_simp; try with_reducible rfl)
  simp only [Act.put, List.setIfInBounds_toArray, List.set_cons_zero, List.set_cons_succ]
  refine held_take (i := 5) (d := (some 10)) (v := ?_) rfl rfl (by kernel_rfl) (by kernel_rfl) (by kernel_rfl) (fun _ _ _ h => h) (Or.inl ⟨by rfl, ?_⟩) (by first | assumption | rfl | trivial) ?_
  rotate_left 1
  · (intro w hSw; (try dsimp only at hSw); (try subst hSw); go_simp; try with_reducible rfl)
  simp only [Act.put, List.setIfInBounds_toArray, List.set_cons_zero, List.set_cons_succ]
  refine held_take (i := 6) (d := (some 11)) (v := ?_) rfl rfl (by kernel_rfl) (by kernel_rfl) (by kernel_rfl) (fun _ _ _ h => h) (Or.inl ⟨by rfl, ?_⟩) (by first | assumption | rfl | trivial) ?_
  rotate_left 1
  · (intro w hSw; (try dsimp only at hSw); (try subst hSw); go_simp; try with_reducible rfl)
  simp only [Act.put, List.setIfInBounds_toArray, List.set_cons_zero, List.set_cons_succ]
  refine held_take (i := 7) (d := (some 12)) (v := ?_) rfl rfl (by kernel_rfl) (by kernel_rfl) (by kernel_rfl) (fun _ _ _ h => h) (Or.inl ⟨by rfl, ?_⟩) (by first | assumption | rfl | trivial) ?_
  rotate_left 1
  · (intro w hSw; (try dsimp only at hSw); (try subst hSw); go_simp; try with_reducible rfl)
  simp only [Act.put, List.setIfInBounds_toArray, List.set_cons_zero, List.set_cons_succ]
  refine held_take (i := 8) (d := (some 13)) (v := ?_) rfl rfl (by kernel_rfl) (by kernel_rfl) (by kernel_rfl) (fun _ _ _ h => h) (Or.inl ⟨by rfl, ?_⟩) (by first | assumption | rfl | trivial) ?_
  rotate_left 1
  · (intro w hSw; (try dsimp only at hSw); (try subst hSw); go_simp; try with_reducible rfl)
  simp only [Act.put, List.setIfInBounds_toArray, List.set_cons_zero, List.set_cons_succ]
  refine held_take (i := 9) (d := (some 14)) (v := ?_) rfl rfl (by kernel_rfl) (by kernel_rfl) (by kernel_rfl) (fun _ _ _ h => h) (Or.inl ⟨by rfl, ?_⟩) (by first | assumption | rfl | trivial) ?_
  rotate_left 1
  · (intro w hSw; (try dsimp only at hSw); (try subst hSw); go_simp; try with_reducible rfl)
  simp only [Act.put, List.setIfInBounds_toArray, List.set_cons_zero, List.set_cons_succ]
  refine held_take (i := 10) (d := (some 15)) (v := ?_) rfl rfl (by kernel_rfl) (by kernel_rfl) (by kernel_rfl) (fun _ _ _ h => h) (Or.inl ⟨by rfl, ?_⟩) (by first | assumption | rfl | trivial) ?_
  rotate_left 1
  · (intro w hSw; (try dsimp only at hSw); (try subst hSw); go_simp; try with_reducible rfl)
  simp only [Act.put, List.setIfInBounds_toArray, List.set_cons_zero, List.set_cons_succ]
  refine held_take (i := 11) (d := (some 16)) (v := ?_) rfl rfl (by kernel_rfl) (by kernel_rfl) (by kernel_rfl) (fun _ _ _ h => h) (Or.inl ⟨by rfl, ?_⟩) (by first | assumption | rfl | trivial) ?_
  rotate_left 1
  · (intro w hSw; (try dsimp only at hSw); (try subst hSw); go_simp; try with_reducible rfl)
  simp only [Act.put, List.setIfInBounds_toArray, List.set_cons_zero, List.set_cons_succ]
  refine held_take (i := 12) (d := (some 17)) (v := ?_) rfl rfl (by kernel_rfl) (by kernel_rfl) (by kernel_rfl) (fun _ _ _ h => h) (Or.inl ⟨by rfl, ?_⟩) (by first | assumption | rfl | trivial) ?_
  rotate_left 1
  · (intro w hSw; (try dsimp only at hSw); (try subst hSw); go_simp; try with_reducible rfl)
  simp only [Act.put, List.setIfInBounds_toArray, List.set_cons_zero, List.set_cons_succ]
  refine held_take (i := 13) (d := (some 18)) (v := ?_) rfl rfl (by kernel_rfl) (by kernel_rfl) (by kernel_rfl) (fun _ _ _ h => h) (Or.inl ⟨by rfl, ?_⟩) (by first | assumption | rfl | trivial) ?_
  rotate_left 1
  · (intro w hSw; (try dsimp only at hSw); (try subst hSw); go_simp; try with_reducible rfl)
  simp only [Act.put, List.setIfInBounds_toArray, List.set_cons_zero, List.set_cons_succ]
  refine held_take (i := 14) (d := (some 19)) (v := ?_) rfl rfl (by kernel_rfl) (by kernel_rfl) (by kernel_rfl) (fun _ _ _ h => h) (Or.inl ⟨by rfl, ?_⟩) (by first | assumption | rfl | trivial) ?_
  rotate_left 1
  · (intro w hSw; (try dsimp only at hSw); (try subst hSw); go_simp; try with_reducible rfl)
  simp only [Act.put, List.setIfInBounds_toArray, List.set_cons_zero, List.set_cons_succ]
  refine held_take (i := 15) (d := (some 20)) (v := ?_) rfl rfl (by kernel_rfl) (by kernel_rfl) (by kernel_rfl) (fun _ _ _ h => h) (Or.inl ⟨by rfl, ?_⟩) (by first | assumption | rfl | trivial) ?_
  rotate_left 1
  · (intro w hSw; (try dsimp only at hSw); (try subst hSw); go_simp; try with_reducible rfl)
  simp only [Act.put, List.setIfInBounds_toArray, List.set_cons_zero, List.set_cons_succ]
  refine held_next (i := 16) (by kernel_rfl) rfl (by rfl) (fun K1 hK1 => ?_)
  go_simp
  with_reducible refine (HB.out _ (Below.refl _ _).drew).mono ?_
  rintro e wA ⟨aA, mA, cA, rfl, hmA, oA, bA⟩
  subst hmA
  have BA : Hid (Below w.heap.size w wA) := bel_to (Below.refl _ _).drew (Nat.le_refl _) bA
  have SA := hide (KS.out _ BA.out)
  clear oA bA
  go_wp2_with fail
  refine hK1.out _ _ SA.out ?_
  clear hK1
  refine held_take (i := 17) (d := (some 22)) (v := ?_) rfl rfl (by kernel_rfl) (by kernel_rfl) (by kernel_rfl) (fun _ _ _ h => h) (Or.inl ⟨by rfl, ?_⟩) (by first | assumption | rfl | trivial) ?_
  rotate_left 1
  · (intro w hSw; (try dsimp only at hSw); (try subst hSw); go_simp; try with_reducible rfl)
  simp only [Act.put, List.setIfInBounds_toArray, List.set_cons_zero, List.set_cons_succ]
  refine held_take (i := 18) (d := (some 4)) (v := ?_) rfl rfl (by kernel_rfl) (by kernel_rfl) (by kernel_rfl) (fun _ _ _ h => h) (Or.inl ⟨by rfl, ?_⟩) (by first | assumption | rfl | trivial) ?_
  rotate_left 1
  · (intro w hSw; (try dsimp only at hSw); (try subst hSw); go_simp; try with_reducible rfl)
  simp only [Act.put, List.setIfInBounds_toArray, List.set_cons_zero, List.set_cons_succ]
  clear hHeld
  refine wpAnyH_done (by kernel_rfl) ?_ _
  go_wp2
  go_ret
  exact ⟨rfl, BA.out⟩

set_option maxHeartbeats 2000000 in
theorem rarm_any (g : Nat) (S : Nat → Prop) (F : Fs) (k a : Int) (w : World) (hF : RAt w g S F) (ha : (Lit.int .i64 a).wf = true) :
    Calls Tryz.prog 35 #[.pointer (some ⟨g, 0, none⟩), .int .i64 k, .int .i64 a] w fun e w' => e = .returned (.int .i64 (armF F k a).2) ∧ StepV RAt w w' g S (armF F k a).1 := by
  obtain ⟨a0, a1⟩ := i64_of_wf ha
  by_cases h1 : (k ≠ 0 ∧ k ≠ 14 ∧ k ≠ 15) ∨ a < 0
  · have HP : Hid (∀ u, Below w.heap.size w u → (Ending.returned (.int .i64 1) = .returned (.int .i64 (armF F k a).2) ∧ StepV RAt w u g S (armF F k a).1)) := fun u hu => by
      unfold armF
      rw [if_pos h1]
      exact ⟨rfl, stepV_below (hF.below hu) hu⟩
    by_cases h2 : a < 0
    · have d1 : decide (a < 0) = true := decide_eq_true h2
      have hk : k = 0 ∨ k = 14 ∨ k = 15 ∨ ((k != 0) = true ∧ (k != 14) = true ∧ (k != 15) = true) := by
        by_cases e1 : k = 0
        · exact Or.inl e1
        · by_cases e2 : k = 14
          · exact Or.inr (Or.inl e2)
          · by_cases e3 : k = 15
            · exact Or.inr (Or.inr (Or.inl e3))
            · exact Or.inr (Or.inr (Or.inr ⟨by simpa using e1, by simpa using e2, by simpa using e3⟩))
      clear h1 hF
      rcases hk with rfl | rfl | rfl | ⟨e1, e2, e3⟩
      · go_enter Tryz.func35, Tryz.ntmps35
        go_wp2
        go_ret
        exact HP.out _ (Below.refl _ _)
      · go_enter Tryz.func35, Tryz.ntmps35
        go_wp2
        go_ret
        exact HP.out _ (Below.refl _ _)
      · go_enter Tryz.func35, Tryz.ntmps35
        go_wp2
        go_ret
        exact HP.out _ (Below.refl _ _)
      · go_enter Tryz.func35, Tryz.ntmps35
        go_wp2
        go_ret
        exact HP.out _ (Below.refl _ _)
    · obtain ⟨q1, q2, q3⟩ := h1.resolve_right h2
      have e1 : (k != 0) = true := by simpa using q1
      have e2 : (k != 14) = true := by simpa using q2
      have e3 : (k != 15) = true := by simpa using q3
      clear h1 hF q1 q2 q3
      go_enter Tryz.func35, Tryz.ntmps35
      go_wp2
      go_ret
      exact HP.out _ (Below.refl _ _)
  · have hk : k = 0 ∨ k = 14 ∨ k = 15 := by
      apply Classical.byContradiction
      intro q
      exact h1 (Or.inl ⟨fun e => q (Or.inl e), fun e => q (Or.inr (Or.inl e)), fun e => q (Or.inr (Or.inr e))⟩)
    have h2 : ¬ a < 0 := fun e => h1 (Or.inr e)
    obtain ⟨G, af, cf, as', cs, at', ct, hs, B⟩ := hF
    have B1 := (B.setArmed true).setKind k
    have B2 := B1.setAfter a
    have K2 := ((ch_set w g 4 (.bool true)).trans (ch_set (w.setCell ⟨g, 4, none⟩ (.bool true)) g 5 (.int .i64 k))).trans (ch_set ((w.setCell ⟨g, 4, none⟩ (.bool true)).setCell ⟨g, 5, none⟩ (.int .i64 k)) g 6 (.int .i64 a))
    obtain ⟨-, -, -, -, x4, -, -, -⟩ := B.cells
    have y4 := B.fz 4
    obtain ⟨-, -, -, -, -, x5, -, -⟩ := (B.setArmed true).cells
    have y5 := (B.setArmed true).fz 5
    obtain ⟨-, -, -, -, -, -, x6, -⟩ := B1.cells
    have y6 := B1.fz 6
    dsimp only at x5 x6
    have HP : Hid (Ending.returned (.int .i64 0) = .returned (.int .i64 (armF F k a).2) ∧ StepV RAt w (((w.setCell ⟨g, 4, none⟩ (.bool true)).setCell ⟨g, 5, none⟩ (.int .i64 k)).setCell ⟨g, 6, none⟩ (.int .i64 a)) g S (armF F k a).1) := by
      show _ ∧ _
      unfold armF
      rw [if_neg h1]
      refine ⟨rfl, stepV_same ⟨?_, af, cf, as', cs, at', ct, hs, B2⟩ K2 B.own⟩
      exact G.like rfl rfl rfl ⟨by dsimp only; omega, by dsimp only; omega⟩ hk
    clear h1 B1 B2 K2 B G
    rcases hk with rfl | rfl | rfl
    · go_enter Tryz.func35, Tryz.ntmps35
      go_wp2
      go_ret
      exact HP.out
    · go_enter Tryz.func35, Tryz.ntmps35
      go_wp2
      go_ret
      exact HP.out
    · go_enter Tryz.func35, Tryz.ntmps35
      go_wp2
      go_ret
      exact HP.out
theorem Lim.call {m : Nat} {F : Fs} (h : Lim m F) : Lim (m + 1) (callF F).1 := by
  obtain ⟨e1, e2, e3, e4⟩ := callF_same F
  refine ⟨by rw [e1]; have := h.files; omega, by rw [e2]; have := h.sure; omega, by rw [e3]; have := h.turns; omega, fun x hx => by rw [e1] at hx; have := h.each x hx; omega, by rw [e4]; have := h.n; omega⟩

set_option maxHeartbeats 4000000 in
theorem rsyncdir_any (g : Nat) (S : Nat → Prop) (F : Fs) (m : Nat) (w : World) (hF : RAt w g S F) (hL : Lim m F) (hm : m < 1073741824) :
    Calls Tryz.prog 34 #[.pointer (some ⟨g, 0, none⟩)] w fun e w' => e = .returned (.int .i64 (syncdirF F).2) ∧ StepV RAt w w' g S (syncdirF F).1 := by
  have CA := hide (rcall_any g S F m w hF hL (by omega))
  have LC := hide hL.call
  have HG := hide hF.own
  rcases hq : callF F with ⟨G, o⟩
  rw [hq] at CA LC
  dsimp only at CA LC
  cases o with
  | some e1 =>
    rw [show callE F = e1 by unfold callE; rw [hq]; rfl, show callB F = true by unfold callB; rw [hq]; rfl] at CA
    have HP : Hid (∀ u, RAt u g S G → Ch (fun k => k = g) w u → (Ending.returned (.int .i64 e1) = .returned (.int .i64 (syncdirF F).2) ∧ StepV RAt w u g S (syncdirF F).1)) := fun u hu hc => by
      unfold syncdirF
      rw [hq]
      exact ⟨rfl, stepV_same hu hc HG.out⟩
    clear hq hF hL
    go_enter Tryz.func34, Tryz.ntmps34
    go_wp2_with fail
    with_reducible refine CA.out.mono ?_
    rintro e u1 ⟨rfl, h1, k1⟩
    have H1 := hide (HP.out _ h1 k1)
    clear h1 k1 CA HP
    go_wp2
    go_ret
    exact H1.out
  | none =>
    rw [show callE F = 0 by unfold callE; rw [hq]; rfl, show callB F = false by unfold callB; rw [hq]; rfl] at CA
    have HP : Hid (∀ u, StepV RAt w u g S { G with sure := dirF G, turns := [] } → (Ending.returned (.int .i64 0) = .returned (.int .i64 (syncdirF F).2) ∧ StepV RAt w u g S (syncdirF F).1)) := fun u hu => by
      unfold syncdirF
      rw [hq]
      exact ⟨rfl, hu⟩
    clear hq hF hL
    go_enter Tryz.func34, Tryz.ntmps34
    go_wp2_with fail
    with_reducible refine CA.out.mono ?_
    rintro e u1 ⟨rfl, h1, k1⟩
    have K1 := hide k1
    have DI := hide (rdir_any g S G (m + 1) u1 h1 LC.out (by omega))
    have H1 := hide h1
    clear h1 k1 CA
    go_wp2_with fail
    with_reducible refine DI.out.mono ?_
    rintro e u2 ⟨a2, n2, c2, rfl, hn2, o2, b2⟩
    subst hn2
    obtain ⟨GG, af, cf, as', cs, at', ct, hs, B⟩ := H1.out
    have B2 := B.below b2
    obtain ⟨-, x1, -⟩ := B2.cells
    have y1 := B2.fz 1
    have sz := b2.size
    have hS2 : ∀ j, (S j ∨ (u1.heap.size ≤ j ∧ j < u2.heap.size)) → j < u2.heap.size := fun j hj => by
      rcases hj with e | e
      · exact B2.lt j e
      · exact e.2
    have B3 := B.putSure (S' := fun j => S j ∨ (u1.heap.size ≤ j ∧ j < u2.heap.size)) ((Ch.of_below b2).more (fun _ _ h => h.elim)) (o2.mono (Nat.zero_le _)) (fun b hb => Or.inr ⟨(OwnG.cellsT o2 b hb).2, (OwnG.cellsT o2 b hb).1.lt⟩) (fun j hj => Or.inl hj) hS2
    have k3 : Ch (fun j => j = g) u2 (u2.setCell ⟨g, 1, none⟩ (.slice a2 (dirF G).length c2)) := ch_set u2 g 1 _
    obtain ⟨-, -, x2, -⟩ := B3.cells
    have y2 := B3.fz 2
    dsimp only at x2
    have B4 := B3.putTurns (S' := fun j => S j ∨ (u1.heap.size ≤ j ∧ j < u2.heap.size)) (Ch.refl _ _) (ts := []) (a := none) (c := 0) (ownG_nil _ _) (fun b hb => by simp [Value.ownBlock] at hb) (fun j hj => hj) (fun j hj => Nat.lt_of_lt_of_le (hS2 j hj) k3.size)
    have F3 : Hid (StepV RAt w ((u2.setCell ⟨g, 1, none⟩ (.slice a2 (dirF G).length c2)).setCell ⟨g, 2, none⟩ (.slice none 0 0)) g S { G with sure := dirF G, turns := [] }) := by
      refine ⟨fun j => S j ∨ (u1.heap.size ≤ j ∧ j < u2.heap.size), ⟨GG.sync, af, cf, a2, c2, none, 0, hs, B4⟩, fun j hj => ?_, ?_⟩
      · rcases hj with e | e
        · exact Or.inl e
        · exact Or.inr (Nat.le_trans K1.out.size e.1)
      · exact (((K1.out.more (fun j _ e => e ▸ HG.out)).trans ((Ch.of_below b2).more (fun _ _ h => h.elim))).trans (k3.more (fun j _ e => e ▸ HG.out))).trans ((ch_set _ g 2 _).more (fun j _ e => e ▸ HG.out))
    have F4 := hide (HP.out _ F3.out)
    clear o2 b2 B B2 B3 B4 F3 DI H1 K1 k3 HP LC
    go_wp2
    go_ret
    exact F4.out
end Go.Proofs.YthlkmjaflomflaaGreat
