/-
  The document's file system in memory; its names (dir), a name's file (file), what is read (Read): contracts, for every world.
  Conditions: the file system lies in memory; as each theorem says.
-/
import Derived.Test.YthlkmjaflomflaaGreatVfsT
import Derived.Test.YthlkmjaflomflaaGreatVfsXc
namespace Go.Proofs.YthlkmjaflomflaaGreat
open Go.RowKit
set_option maxRecDepth 20000
set_option linter.unusedVariables false

/-- A file's two slices. -/
def fiV (h : H3 × H3) : List Value := [h3V h.1, h3V h.2]
theorem fiV_len (h : H3 × H3) : (fiV h).length = 2 := rfl
theorem fiV_one1 (h : H3 × H3) : ∀ u ∈ fiV h, u.oneCell' = true := by
  intro u hu
  simp [fiV] at hu
  rcases hu with rfl | rfl <;> rfl
abbrev OwnF (w : World) (base : Nat) (a : Option Addr) (n cap : Nat) (l : List (H3 × H3)) : Prop := OwnG 83 2 fiV w base a n cap l
/-- A file in memory: its bytes, its units. -/
structure FiM (w : World) (S : Nat → Prop) (h : H3 × H3) (x : Fi) : Prop where
  sure : OwnB w 0 h.1.1 h.1.2.1 h.1.2.2 x.sure
  us : OwnU w 0 h.2.1 h.2.2.1 h.2.2.2 x.us
  sureS : ∀ b, (h3V h.1).ownBlock = some b → S b
  usS : ∀ b, (h3V h.2).ownBlock = some b → S b
/-- The struct's cells. -/
abbrev fsC8 (F : Fs) (af : Option Addr) (cf : Nat) (as' : Option Addr) (cs : Nat) (at' : Option Addr) (ct : Nat) : Array Value := #[.slice af F.files.length cf, .slice as' F.sure.length cs, .slice at' F.turns.length ct, .int .i64 F.n, .bool F.armed, .int .i64 F.kind, .int .i64 F.after, .bool F.dark]
/-- The file system: the struct, its three rows, each file. -/
structure RB (w : World) (g : Nat) (S : Nat → Prop) (F : Fs) (af : Option Addr) (cf : Nat) (as' : Option Addr) (cs : Nat) (at' : Option Addr) (ct : Nat) (hs : List (H3 × H3)) : Prop where
  own : S g
  lt : ∀ k, S k → k < w.heap.size
  str : w.heap[g]? = some (.cells (fsC8 F af cf as' cs at' ct) 32 (0, 0))
  files : OwnF w 0 af F.files.length cf hs
  filesS : ∀ b, (Value.slice af F.files.length cf).ownBlock = some b → S b
  each : ∀ (i : Nat) (h : H3 × H3) (x : Fi), hs[i]? = some h → F.files[i]? = some x → FiM w S h x
  apart : ∀ (i j : Nat) (h h' : H3 × H3) (b : Nat), i ≠ j → hs[i]? = some h → hs[j]? = some h' → (h3V h.2).ownBlock = some b → ¬ (h3V h'.2).ownBlock = some b
  sure : OwnD w 0 as' F.sure.length cs F.sure
  sureS : ∀ b, (Value.slice as' F.sure.length cs).ownBlock = some b → S b
  turns : OwnT w 0 at' F.turns.length ct F.turns
  turnsS : ∀ b, (Value.slice at' F.turns.length ct).ownBlock = some b → S b
/-- A file system that is this one. -/
def RAt (w : World) (g : Nat) (S : Nat → Prop) (F : Fs) : Prop := GoodV F ∧ ∃ af cf as' cs at' ct hs, RB w g S F af cf as' cs at' ct hs
theorem FiM.ch {T : Nat → Prop} {w w' : World} {S : Nat → Prop} {h : H3 × H3} {x : Fi} (m : FiM w S h x) (k : Ch T w w') (hn : ∀ j, S j → ¬ T j) : FiM w' S h x :=
  ⟨OwnG.ch m.sure k (fun b hb => hn b (m.sureS b hb)), OwnG.ch m.us k (fun b hb => hn b (m.usS b hb)), m.sureS, m.usS⟩
theorem FiM.more {w : World} {S S' : Nat → Prop} {h : H3 × H3} {x : Fi} (m : FiM w S h x) (hn : ∀ j, S j → S' j) : FiM w S' h x := ⟨m.sure, m.us, fun b hb => hn b (m.sureS b hb), fun b hb => hn b (m.usS b hb)⟩
section
variable {w w' : World} {g : Nat} {S : Nat → Prop} {F : Fs} {af : Option Addr} {cf : Nat} {as' : Option Addr} {cs : Nat} {at' : Option Addr} {ct : Nat} {hs : List (H3 × H3)}
theorem RB.ch {T : Nat → Prop} (h : RB w g S F af cf as' cs at' ct hs) (k : Ch T w w') (hn : ∀ j, S j → ¬ T j) : RB w' g S F af cf as' cs at' ct hs :=
  ⟨h.own, fun j hj => Nat.lt_of_lt_of_le (h.lt j hj) k.size, (k.block g (h.lt g h.own) (hn g h.own)).trans h.str, OwnG.ch h.files k (fun b hb => hn b (h.filesS b hb)), h.filesS,
    fun i x y hi hy => (h.each i x y hi hy).ch k hn, h.apart, OwnG.ch h.sure k (fun b hb => hn b (h.sureS b hb)), h.sureS, OwnG.ch h.turns k (fun b hb => hn b (h.turnsS b hb)), h.turnsS⟩
theorem RB.below (h : RB w g S F af cf as' cs at' ct hs) (b : Below w.heap.size w w') : RB w' g S F af cf as' cs at' ct hs := h.ch (Ch.of_below b) (fun _ _ => id)
theorem RAt.keep {T : Nat → Prop} (h : RAt w g S F) (k : Ch T w w') (hn : ∀ j, S j → ¬ T j) : RAt w' g S F := by
  obtain ⟨h0, af, cf, as', cs, at', ct, hs, h1⟩ := h
  exact ⟨h0, af, cf, as', cs, at', ct, hs, h1.ch k hn⟩
theorem RAt.below (h : RAt w g S F) (b : Below w.heap.size w w') : RAt w' g S F := h.keep (Ch.of_below b) (fun _ _ => id)
theorem RAt.lt (h : RAt w g S F) : ∀ k, S k → k < w.heap.size := by
  obtain ⟨h0, af, cf, as', cs, at', ct, hs, h1⟩ := h
  exact h1.lt
theorem RB.cells (h : RB w g S F af cf as' cs at' ct hs) : w.cell? ⟨g, 0, none⟩ = some (.slice af F.files.length cf) ∧ w.cell? ⟨g, 1, none⟩ = some (.slice as' F.sure.length cs) ∧ w.cell? ⟨g, 2, none⟩ = some (.slice at' F.turns.length ct) ∧ w.cell? ⟨g, 3, none⟩ = some (.int .i64 F.n) ∧ w.cell? ⟨g, 4, none⟩ = some (.bool F.armed) ∧ w.cell? ⟨g, 5, none⟩ = some (.int .i64 F.kind) ∧ w.cell? ⟨g, 6, none⟩ = some (.int .i64 F.after) ∧ w.cell? ⟨g, 7, none⟩ = some (.bool F.dark) := by
  refine ⟨?_, ?_, ?_, ?_, ?_, ?_, ?_, ?_⟩
  · rw [cell_of_row w g 0 _ _ (0, 0) h.str]; rfl
  · rw [cell_of_row w g 1 _ _ (0, 0) h.str]; rfl
  · rw [cell_of_row w g 2 _ _ (0, 0) h.str]; rfl
  · rw [cell_of_row w g 3 _ _ (0, 0) h.str]; rfl
  · rw [cell_of_row w g 4 _ _ (0, 0) h.str]; rfl
  · rw [cell_of_row w g 5 _ _ (0, 0) h.str]; rfl
  · rw [cell_of_row w g 6 _ _ (0, 0) h.str]; rfl
  · rw [cell_of_row w g 7 _ _ (0, 0) h.str]; rfl
theorem RB.fz (h : RB w g S F af cf as' cs at' ct hs) (i : Nat) : w.frozen? ⟨g, i, none⟩ = false := frozen_of_row w g i _ _ h.str
/-- A file's two cells. -/
theorem RB.fileAt (h : RB w g S F af cf as' cs at' ct hs) {k : Nat} (hk : k < F.files.length) : ∃ gf h1 h2, af = some ⟨gf, 0, none⟩ ∧ F.files.length ≤ cf ∧ hs[k]? = some (h1, h2) ∧ w.cell? ⟨gf, k * 2, none⟩ = some (.slice h1.1 h1.2.1 h1.2.2) ∧ w.cell? ⟨gf, k * 2 + 1, none⟩ = some (.slice h2.1 h2.2.1 h2.2.2) ∧ FiM w S (h1, h2) (atF F k) := by
  have hl := OwnG.len fiV_len (by decide) h.files
  obtain ⟨⟨h1, h2⟩, hx⟩ : ∃ x, hs[k]? = some x := ⟨_, List.getElem?_eq_getElem (by omega)⟩
  obtain ⟨gf, q1, q2, q3, q4⟩ := OwnG.at fiV_len (by decide) h.files hx
  refine ⟨gf, h1, h2, q1, q3, hx, q4 0 _ rfl, q4 1 _ rfl, h.each k _ _ hx ?_⟩
  unfold atF
  rw [List.getD_eq_getElem?_getD, List.getElem?_eq_getElem hk]
  rfl
end

set_option maxHeartbeats 2000000 in
theorem rdir_any (g : Nat) (S : Nat → Prop) (F : Fs) (m : Nat) (w : World) (hF : RAt w g S F) (hL : Lim m F) (hm : m ≤ 1073741824) :
    Calls Tryz.prog 63 #[.pointer (some ⟨g, 0, none⟩)] w fun e w' => ∃ a n c, e = .returned (.slice a n c) ∧ n = (dirF F).length ∧ OwnD w' w.heap.size a n c (dirF F) ∧ Below w.heap.size w w' := by
  obtain ⟨G, af, cf, as', cs, at', ct, hs, B⟩ := hF
  obtain ⟨-, c1, c2, -⟩ := B.cells
  have l1 := hL.sure
  have l2 := hL.turns
  have TU : Hid (∀ u, Below w.heap.size w u → Calls Tryz.prog 69 #[.slice as' F.sure.length cs, .slice at' F.turns.length ct, .int .i64 (F.turns.length : Int)] u fun e w' => ∃ a n c, e = .returned (.slice a n c) ∧ n = (dirF F).length ∧ OwnD w' u.heap.size a n c (dirF F) ∧ Below u.heap.size u w') := fun u hu => by
    have := rturned_any 0 as' F.sure.length cs F.sure at' F.turns.length ct F.turns (F.turns.length : Int) u (OwnG.below B.sure hu (Nat.le_refl _)) (OwnG.below B.turns hu (Nat.le_refl _)) (by omega) (by omega) (fun t ht => (G.turns t ht).1) (by simp [Lit.wf, IntKind.min, IntKind.max, IntKind.signed, IntKind.bits]; omega)
    rw [Int.toNat_natCast, List.take_length] at this
    exact this
  generalize F.sure.length = n1 at *
  generalize F.turns.length = n2 at *
  generalize dirF F = D at *
  clear B G hL
  go_enter Tryz.func63, Tryz.ntmps63
  go_upto_region 1 with fail
  refine wp_region_held_drew (S := fun u => u.cell? ⟨g, 1, none⟩ = some (.slice as' n1 cs) ∧ u.cell? ⟨g, 2, none⟩ = some (.slice at' n2 ct)) (by kernel_rfl) ⟨c1, c2⟩ (fun hHeld => ?_)
  refine held_take (i := 0) (d := (some 3)) (v := ?_) rfl rfl (by kernel_rfl) (by kernel_rfl) (by kernel_rfl) (fun _ _ _ h => h) (Or.inl ⟨by rfl, ?_⟩) (by first | assumption | rfl | trivial) ?_
  rotate_left 1
  · (intro w hSw; (try dsimp only at hSw); (try subst hSw); go_simp; try with_reducible rfl)
  simp only [Act.put, List.setIfInBounds_toArray, List.set_cons_zero, List.set_cons_succ]
  refine held_take (i := 1) (d := (some 4)) (v := ?_) rfl rfl (by kernel_rfl) (by kernel_rfl) (by kernel_rfl) (fun _ _ _ h => h) (Or.inl ⟨by rfl, ?_⟩) (by first | assumption | rfl | trivial) ?_
  rotate_left 1
  · (intro w hSw; (try dsimp only at hSw); (try subst hSw); go_simp; try with_reducible rfl)
  simp only [Act.put, List.setIfInBounds_toArray, List.set_cons_zero, List.set_cons_succ]
  refine held_take (i := 2) (d := (some 5)) (v := ?_) rfl rfl (by kernel_rfl) (by kernel_rfl) (by kernel_rfl) (fun _ _ _ h => h) (Or.inl ⟨by rfl, ?_⟩) (by first | assumption | rfl | trivial) ?_
  rotate_left 1
  · (intro w hSw; (try dsimp only at hSw); (try subst hSw); go_simp; try with_reducible rfl)
  simp only [Act.put, List.setIfInBounds_toArray, List.set_cons_zero, List.set_cons_succ]
  refine held_take (i := 3) (d := (some 6)) (v := ?_) rfl rfl (by kernel_rfl) (by kernel_rfl) (by kernel_rfl) (fun _ _ _ h => h) (Or.inl ⟨by rfl, ?_⟩) (by first | assumption | rfl | trivial) ?_
  rotate_left 1
  · (intro w hSw; (try dsimp only at hSw); (try subst hSw); go_simp; try with_reducible rfl)
  simp only [Act.put, List.setIfInBounds_toArray, List.set_cons_zero, List.set_cons_succ]
  refine held_take (i := 4) (d := (some 7)) (v := ?_) rfl rfl (by kernel_rfl) (by kernel_rfl) (by kernel_rfl) (fun _ _ _ h => h) (Or.inl ⟨by rfl, ?_⟩) (by first | assumption | rfl | trivial) ?_
  rotate_left 1
  · (intro w hSw; (try dsimp only at hSw); (try subst hSw); go_simp; try with_reducible rfl)
  simp only [Act.put, List.setIfInBounds_toArray, List.set_cons_zero, List.set_cons_succ]
  refine held_take (i := 5) (d := (some 8)) (v := ?_) rfl rfl (by kernel_rfl) (by kernel_rfl) (by kernel_rfl) (fun _ _ _ h => h) (Or.inl ⟨by rfl, ?_⟩) (by first | assumption | rfl | trivial) ?_
  rotate_left 1
  · (intro w hSw; (try dsimp only at hSw); (try subst hSw); go_simp; try with_reducible rfl)
  simp only [Act.put, List.setIfInBounds_toArray, List.set_cons_zero, List.set_cons_succ]
  refine held_take (i := 6) (d := (some 9)) (v := ?_) rfl rfl (by kernel_rfl) (by kernel_rfl) (by kernel_rfl) (fun _ _ _ h => h) (Or.inl ⟨by rfl, ?_⟩) (by first | assumption | rfl | trivial) ?_
  rotate_left 1
  · (intro w hSw; (try dsimp only at hSw); (try subst hSw); go_simp; try with_reducible rfl)
  simp only [Act.put, List.setIfInBounds_toArray, List.set_cons_zero, List.set_cons_succ]
  refine held_take (i := 7) (d := (some 10)) (v := ?_) rfl rfl (by kernel_rfl) (by kernel_rfl) (by kernel_rfl) (fun _ _ _ h => h) (Or.inl ⟨by rfl, ?_⟩) (by first | assumption | rfl | trivial) ?_
  rotate_left 1
  · (intro w hSw; (try dsimp only at hSw); (try subst hSw); go_simp; try with_reducible rfl)
  simp only [Act.put, List.setIfInBounds_toArray, List.set_cons_zero, List.set_cons_succ]
  refine held_take (i := 8) (d := (some 11)) (v := ?_) rfl rfl (by kernel_rfl) (by kernel_rfl) (by kernel_rfl) (fun _ _ _ h => h) (Or.inl ⟨by rfl, ?_⟩) (by first | assumption | rfl | trivial) ?_
  rotate_left 1
  · (intro w hSw; (try dsimp only at hSw); (try subst hSw); go_simp; try with_reducible rfl)
  simp only [Act.put, List.setIfInBounds_toArray, List.set_cons_zero, List.set_cons_succ]
  refine held_take (i := 9) (d := (some 12)) (v := ?_) rfl rfl (by kernel_rfl) (by kernel_rfl) (by kernel_rfl) (fun _ _ _ h => h) (Or.inl ⟨by rfl, ?_⟩) (by first | assumption | rfl | trivial) ?_
  rotate_left 1
  · (intro w hSw; (try dsimp only at hSw); (try subst hSw); go_simp; try with_reducible rfl)
  simp only [Act.put, List.setIfInBounds_toArray, List.set_cons_zero, List.set_cons_succ]
  refine held_take (i := 10) (d := (some 13)) (v := ?_) rfl rfl (by kernel_rfl) (by kernel_rfl) (by kernel_rfl) (fun _ _ _ h => h) (Or.inl ⟨by rfl, ?_⟩) (by first | assumption | rfl | trivial) ?_
  rotate_left 1
  · (intro w hSw; (try dsimp only at hSw); (try subst hSw); go_simp; try with_reducible rfl)
  simp only [Act.put, List.setIfInBounds_toArray, List.set_cons_zero, List.set_cons_succ]
  refine held_take (i := 11) (d := (some 14)) (v := ?_) rfl rfl (by kernel_rfl) (by kernel_rfl) (by kernel_rfl) (fun _ _ _ h => h) (Or.inl ⟨by rfl, ?_⟩) (by first | assumption | rfl | trivial) ?_
  rotate_left 1
  · (intro w hSw; (try dsimp only at hSw); (try subst hSw); go_simp; try with_reducible rfl)
  simp only [Act.put, List.setIfInBounds_toArray, List.set_cons_zero, List.set_cons_succ]
  refine held_take (i := 12) (d := (some 15)) (v := ?_) rfl rfl (by kernel_rfl) (by kernel_rfl) (by kernel_rfl) (fun _ _ _ h => h) (Or.inl ⟨by rfl, ?_⟩) (by first | assumption | rfl | trivial) ?_
  rotate_left 1
  · (intro w hSw; (try dsimp only at hSw); (try subst hSw); go_simp; try with_reducible rfl)
  simp only [Act.put, List.setIfInBounds_toArray, List.set_cons_zero, List.set_cons_succ]
  refine held_next (i := 13) (by kernel_rfl) rfl (by rfl) (fun K1 hK1 => ?_)
  go_simp
  with_reducible refine (TU.out _ (Below.refl _ _).drew).mono ?_
  rintro e wA ⟨aA, mA, cA, rfl, hmA, oA, bA⟩
  have BA : Hid (Below w.heap.size w wA) := (Below.refl _ _).drew.trans bA
  have OA : Hid (OwnD wA w.heap.size aA mA cA D) := oA
  have HM := hide hmA
  have SA : Hid (wA.cell? ⟨g, 1, none⟩ = some (.slice as' n1 cs) ∧ wA.cell? ⟨g, 2, none⟩ = some (.slice at' n2 ct)) := ⟨(BA.out.cell (p := ⟨g, 1, none⟩) (World.block_lt_of_cell? w _ c1)).trans c1, (BA.out.cell (p := ⟨g, 2, none⟩) (World.block_lt_of_cell? w _ c2)).trans c2⟩
  clear oA bA hmA
  go_wp2_with fail
  refine hK1.out _ _ SA.out ?_
  clear hK1
  refine held_take (i := 14) (d := (some 2)) (v := ?_) rfl rfl (by kernel_rfl) (by kernel_rfl) (by kernel_rfl) (fun _ _ _ h => h) (Or.inl ⟨by rfl, ?_⟩) (by first | assumption | rfl | trivial) ?_
  rotate_left 1
  · (intro w hSw; (try dsimp only at hSw); (try subst hSw); go_simp; try with_reducible rfl)
  simp only [Act.put, List.setIfInBounds_toArray, List.set_cons_zero, List.set_cons_succ]
  clear hHeld
  refine wpAnyH_done (by kernel_rfl) ?_ _
  go_wp2
  go_ret
  exact ⟨aA, mA, cA, rfl, HM.out, OA.out, BA.out⟩

/-- A name's file, -1 where there is none. -/
def fileI (F : Fs) (s : ByteArray) : Int := match fileF F s with
  | some k => (k : Int)
  | none => -1

set_option maxHeartbeats 2000000 in
theorem rfile_any (g : Nat) (S : Nat → Prop) (F : Fs) (s : ByteArray) (m : Nat) (w : World) (hF : RAt w g S F) (hL : Lim m F) (hm : m ≤ 1073741824) :
    Calls Tryz.prog 64 #[.pointer (some ⟨g, 0, none⟩), .string s] w fun e w' => e = .returned (.int .i64 (fileI F s)) ∧ Below w.heap.size w w' := by
  have DI := hide (rdir_any g S F m w hF hL hm)
  have HD : Hid (dirF F = dirF F) := rfl
  have hdl : (dirF F).length ≤ 2147483648 := by
    have h1 := turnsD_len F.turns F.sure
    have h2 := hL.sure
    have h3 := hL.turns
    unfold dirF
    omega
  obtain ⟨X, hX⟩ : ∃ X, Hid (fileI F s = X) := ⟨_, rfl⟩
  have HX : Hid (X = match fileD (dirF F) s with | some k => (k : Int) | none => -1) := by rw [← hX.out]; rfl
  rw [hX.out]
  generalize dirF F = D at *
  clear hF hL hX HD
  go_enter Tryz.func64, Tryz.ntmps64
  go_wp2_with fail
  with_reducible refine DI.out.mono ?_
  rintro e u1 ⟨a1, n1, c1, rfl, hn1, o1, b1⟩
  have B1 := hide b1
  have O1 := hide o1
  have HN1 := hide hn1
  have hnb : n1 ≤ 2147483648 := by omega
  have FI := hide (rfind16_any w.heap.size a1 n1 c1 D s u1 o1 (by omega))
  clear b1 o1 hn1 DI
  cases hf : findD D s with
  | none =>
    rw [show findI D s = -1 by unfold findI; rw [hf]] at FI
    have e1 : X = -1 := by rw [HX.out]; unfold fileD; rw [hf]; rfl
    subst e1
    clear hf HX
    go_wp2_with fail
    with_reducible refine FI.out.mono ?_
    rintro e u ⟨rfl, hu⟩
    rw [hu]
    clear hu FI
    go_wp2
    go_ret
    exact ⟨rfl, B1.out⟩
  | some q =>
    rw [show findI D s = (q : Int) by unfold findI; rw [hf]] at FI
    obtain ⟨d, hd, -, hql⟩ := findD_some hf
    have e1 : X = (d.f : Int) := by
      rw [HX.out]
      unfold fileD
      rw [hf]
      show (match (D[q]?).map (·.f) with | some k => (k : Int) | none => -1) = _
      rw [hd]
      rfl
    subst e1
    obtain ⟨gd, rfl, hq, hqc, -, e2⟩ := OwnD.at' O1.out hd
    have q0 : (0 : Int) ≤ (q : Int) := by omega
    have q1 : (q : Int) < (n1 : Int) := by omega
    clear hf HX hd
    go_wp2_with fail
    with_reducible refine FI.out.mono ?_
    rintro e u ⟨rfl, hu⟩
    rw [hu]
    clear hu FI
    go_wp2
    go_ret
    exact ⟨rfl, B1.out⟩

/-- The bytes of a file that lies in memory. -/
theorem rfull_any {w : World} {S : Nat → Prop} {h1 h2 : H3} {x : Fi} (m : Nat) (hm : m ≤ 1073741824) (hx : FiM w S (h1, h2) x) (ok : okUs x.sure x.us) (hl : x.sure.length ≤ m ∧ x.us.length ≤ m) :
    h2.2.1 = x.us.length ∧ ∀ u, Below w.heap.size w u → Calls Tryz.prog 68 #[.agg #[.slice h1.1 h1.2.1 h1.2.2, .slice h2.1 h2.2.1 h2.2.2], .int .i64 (h2.2.1 : Int)] u fun e w' => ∃ a n c, e = .returned (.slice a n c) ∧ n = (bytF x).length ∧ OwnB w' u.heap.size a n c (bytF x) ∧ Below u.heap.size u w' := by
  have e1 := OwnG.len byV_len (by decide) hx.sure
  have e2 := OwnG.len unV_len (by decide) hx.us
  dsimp only at e1 e2
  refine ⟨e2.symm, fun u hu => ?_⟩
  have := rbytes16_any 0 h1.1 h1.2.1 h1.2.2 x.sure h2.1 h2.2.1 h2.2.2 x.us (h2.2.1 : Int) u (OwnG.below hx.sure hu (Nat.le_refl _)) (OwnG.below hx.us hu (Nat.le_refl _)) ok (by omega) (by omega) (by simp [Lit.wf, IntKind.min, IntKind.max, IntKind.signed, IntKind.bits]; omega)
  rw [Int.toNat_natCast, ← e2, List.take_length] at this
  rw [← e2]
  exact this

set_option maxHeartbeats 2000000 in
theorem rread_any (g : Nat) (S : Nat → Prop) (F : Fs) (s : ByteArray) (m : Nat) (w : World) (hF : RAt w g S F) (hL : Lim m F) (hm : m ≤ 1073741824) :
    Calls Tryz.prog 39 #[.pointer (some ⟨g, 0, none⟩), .string s] w fun e w' => ReadP (readF F s) w e w' := by
  have FI := hide (rfile_any g S F s m w hF hL hm)
  cases hf : fileF F s with
  | none =>
    rw [show fileI F s = -1 by unfold fileI; rw [hf]] at FI
    have HP : Hid (∀ u, Below w.heap.size w u → ReadP (readF F s) w (.returned (.tuple #[.slice none 0 0, .int .i64 3])) u) := fun u hu => by
      unfold readF
      rw [hf]
      exact ⟨hu, rfl⟩
    clear hF hL hf
    go_enter Tryz.func39, Tryz.ntmps39
    go_wp2_with fail
    with_reducible refine FI.out.mono ?_
    rintro e u1 ⟨rfl, b1⟩
    have B1 := hide b1
    clear b1 FI
    go_wp2
    refine bodyPost_ret (v := .tuple #[.slice none 0 0, .int .i64 3]) (by simp [results, Tryz.results39, go_sem]) rfl ?_
    exact HP.out _ B1.out
  | some k =>
    rw [show fileI F s = (k : Int) by unfold fileI; rw [hf]] at FI
    obtain ⟨G, af, cf, as', cs, at', ct, hs, B⟩ := hF
    have hk := G.file hf
    obtain ⟨gf, h1, h2, rfl, hcf, hh, e0, e1, hx⟩ := B.fileAt hk
    obtain ⟨hu2, BY⟩ := rfull_any m hm hx (G.cuts _ (atF_mem hk)) (hL.each _ (atF_mem hk))
    have HB := hide BY
    obtain ⟨c0, -⟩ := B.cells
    have hfl := hL.files
    have HP : Hid (∀ u a n c, Below w.heap.size w u → n = (bytF (atF F k)).length → OwnB u w.heap.size a n c (bytF (atF F k)) → ReadP (readF F s) w (.returned (.tuple #[.slice a n c, .int .i64 0])) u) := fun u a n c hu hn ho => by
      unfold readF
      rw [hf]
      subst hn
      exact ⟨hu, a, c, rfl, ho⟩
    generalize bytF (atF F k) = BB at *
    obtain ⟨N, hN⟩ : ∃ N, F.files.length = N := ⟨_, rfl⟩
    rw [hN] at c0 hk hfl hcf
    obtain ⟨a1, n1, c1⟩ := h1
    obtain ⟨a2, n2, c2⟩ := h2
    dsimp only at e0 e1 hu2 HB
    have k0 : (0 : Int) ≤ (k : Int) := by omega
    have k1 : (k : Int) < (N : Int) := by omega
    have KS : Hid (∀ u, Below w.heap.size w u → u.cell? ⟨g, 0, none⟩ = some (.slice (some ⟨gf, 0, none⟩) N cf) ∧ u.cell? ⟨gf, k * 2, none⟩ = some (.slice a1 n1 c1) ∧ u.cell? ⟨gf, k * 2 + 1, none⟩ = some (.slice a2 n2 c2)) := fun u hu =>
      ⟨(hu.cell (p := ⟨g, 0, none⟩) (World.block_lt_of_cell? w _ c0)).trans c0, (hu.cell (p := ⟨gf, k * 2, none⟩) (World.block_lt_of_cell? w _ e0)).trans e0, (hu.cell (p := ⟨gf, k * 2 + 1, none⟩) (World.block_lt_of_cell? w _ e1)).trans e1⟩
    clear hf G B hx BY hL hN hh hu2 c0 e0 e1
    go_enter Tryz.func39, Tryz.ntmps39
    go_wp2_with fail
    with_reducible refine FI.out.mono ?_
    rintro e u1 ⟨rfl, b1⟩
    have B1 := hide b1
    obtain ⟨c0, e0, e1⟩ := KS.out u1 b1
    clear b1 FI
    go_upto_region 4 with fail
    refine wp_region_held_drew (S := fun u => u.cell? ⟨g, 0, none⟩ = some (.slice (some ⟨gf, 0, none⟩) N cf) ∧ u.cell? ⟨gf, k * 2, none⟩ = some (.slice a1 n1 c1) ∧ u.cell? ⟨gf, k * 2 + 1, none⟩ = some (.slice a2 n2 c2)) (by kernel_rfl) ⟨c0, e0, e1⟩ (fun hHeld => ?_)
    refine held_take (i := 0) (d := (some 12)) (v := ?_) rfl rfl (by kernel_rfl) (by kernel_rfl) (by kernel_rfl) (fun _ _ _ h => h) (Or.inl ⟨by rfl, ?_⟩) (by first | assumption | rfl | trivial) ?_
    rotate_left 1
    · (intro w hSw; (try dsimp only at hSw); (try subst hSw); go_simp; try with_reducible rfl)
    simp only [Act.put, List.setIfInBounds_toArray, List.set_cons_zero, List.set_cons_succ]
    refine held_take (i := 1) (d := (some 13)) (v := ?_) rfl rfl (by kernel_rfl) (by kernel_rfl) (by kernel_rfl) (fun _ _ _ h => h) (Or.inl ⟨by rfl, ?_⟩) (by first | assumption | rfl | trivial) ?_
    rotate_left 1
    · (intro w hSw; (try dsimp only at hSw); (try subst hSw); go_simp; try with_reducible rfl)
    simp only [Act.put, List.setIfInBounds_toArray, List.set_cons_zero, List.set_cons_succ]
    refine held_take (i := 2) (d := (some 14)) (v := ?_) rfl rfl (by kernel_rfl) (by kernel_rfl) (by kernel_rfl) (fun _ _ _ h => h) (Or.inl ⟨by rfl, ?_⟩) (by first | assumption | rfl | trivial) ?_
    rotate_left 1
    · (intro w hSw; (try dsimp only at hSw); (try subst hSw); go_simp; try with_reducible rfl)
    simp only [Act.put, List.setIfInBounds_toArray, List.set_cons_zero, List.set_cons_succ]
    refine held_take (i := 3) (d := (some 15)) (v := ?_) rfl rfl (by kernel_rfl) (by kernel_rfl) (by kernel_rfl) (fun _ _ _ h => h) (Or.inl ⟨by rfl, ?_⟩) (by first | assumption | rfl | trivial) ?_
    rotate_left 1
    · (intro w hSw; (try dsimp only at hSw); (try subst hSw); go_simp; try with_reducible rfl)
    simp only [Act.put, List.setIfInBounds_toArray, List.set_cons_zero, List.set_cons_succ]
    refine held_take (i := 4) (d := (some 16)) (v := ?_) rfl rfl (by kernel_rfl) (by kernel_rfl) (by kernel_rfl) (fun _ _ _ h => h) (Or.inl ⟨by rfl, ?_⟩) (by first | assumption | rfl | trivial) ?_
    rotate_left 1
    · (intro w hSw; (try dsimp only at hSw); (try subst hSw); go_simp; try with_reducible rfl)
    simp only [Act.put, List.setIfInBounds_toArray, List.set_cons_zero, List.set_cons_succ]
    refine held_take (i := 5) (d := (some 17)) (v := ?_) rfl rfl (by kernel_rfl) (by kernel_rfl) (by kernel_rfl) (fun _ _ _ h => h) (Or.inl ⟨by rfl, ?_⟩) (by first | assumption | rfl | trivial) ?_
    rotate_left 1
    · (intro w hSw; (try dsimp only at hSw); (try subst hSw); go_simp; try with_reducible rfl)
    simp only [Act.put, List.setIfInBounds_toArray, List.set_cons_zero, List.set_cons_succ]
    refine held_take (i := 6) (d := (some 18)) (v := ?_) rfl rfl (by kernel_rfl) (by kernel_rfl) (by kernel_rfl) (fun _ _ _ h => h) (Or.inl ⟨by rfl, ?_⟩) (by first | assumption | rfl | trivial) ?_
    rotate_left 1
    · (intro w hSw; (try dsimp only at hSw); (try subst hSw); go_simp; try with_reducible rfl)
    simp only [Act.put, List.setIfInBounds_toArray, List.set_cons_zero, List.set_cons_succ]
    refine held_take (i := 7) (d := (some 19)) (v := ?_) rfl rfl (by kernel_rfl) (by kernel_rfl) (by kernel_rfl) (fun _ _ _ h => h) (Or.inl ⟨by rfl, ?_⟩) (by first | assumption | rfl | trivial) ?_
    rotate_left 1
    · (intro w hSw; (try dsimp only at hSw); (try subst hSw); go_simp; try with_reducible rfl)
    simp only [Act.put, List.setIfInBounds_toArray, List.set_cons_zero, List.set_cons_succ]
    refine held_take (i := 8) (d := (some 20)) (v := ?_) rfl rfl (by kernel_rfl) (by kernel_rfl) (by kernel_rfl) (fun _ _ _ h => h) (Or.inl ⟨by rfl, ?_⟩) (by first | assumption | rfl | trivial) ?_
    rotate_left 1
    · (intro w hSw; (try dsimp only at hSw); (try subst hSw); go_simp; try with_reducible rfl)
    simp only [Act.put, List.setIfInBounds_toArray, List.set_cons_zero, List.set_cons_succ]
    refine held_take (i := 9) (d := (some 21)) (v := ?_) rfl rfl (by kernel_rfl) (by kernel_rfl) (by kernel_rfl) (fun _ _ _ h => h) (Or.inl ⟨by rfl, ?_⟩) (by first | assumption | rfl | trivial) ?_
    rotate_left 1
    · (intro w hSw; (try dsimp only at hSw); (try subst hSw); go_simp; try with_reducible rfl)
    simp only [Act.put, List.setIfInBounds_toArray, List.set_cons_zero, List.set_cons_succ]
    refine held_take (i := 10) (d := (some 22)) (v := ?_) rfl rfl (by kernel_rfl) (by kernel_rfl) (by kernel_rfl) (fun _ _ _ h => h) (Or.inl ⟨by rfl, ?_⟩) (by first | assumption | rfl | trivial) ?_
    rotate_left 1
    · (intro w hSw; (try dsimp only at hSw); (try subst hSw); go_simp; try with_reducible rfl)
    simp only [Act.put, List.setIfInBounds_toArray, List.set_cons_zero, List.set_cons_succ]
    refine held_take (i := 11) (d := (some 23)) (v := ?_) rfl rfl (by kernel_rfl) (by kernel_rfl) (by kernel_rfl) (fun _ _ _ h => h) (Or.inl ⟨by rfl, ?_⟩) (by first | assumption | rfl | trivial) ?_
    rotate_left 1
    · (intro w hSw; (try dsimp only at hSw); (try subst hSw); go_simp; try with_reducible rfl)
    simp only [Act.put, List.setIfInBounds_toArray, List.set_cons_zero, List.set_cons_succ]
    refine held_take (i := 12) (d := (some 24)) (v := ?_) rfl rfl (by kernel_rfl) (by kernel_rfl) (by kernel_rfl) (fun _ _ _ h => h) (Or.inl ⟨by rfl, ?_⟩) (by first | assumption | rfl | trivial) ?_
    rotate_left 1
    · (intro w hSw; (try dsimp only at hSw); (try subst hSw); go_simp; try with_reducible rfl)
    simp only [Act.put, List.setIfInBounds_toArray, List.set_cons_zero, List.set_cons_succ]
    refine held_take (i := 13) (d := (some 25)) (v := ?_) rfl rfl (by kernel_rfl) (by kernel_rfl) (by kernel_rfl) (fun _ _ _ h => h) (Or.inl ⟨by rfl, ?_⟩) (by first | assumption | rfl | trivial) ?_
    rotate_left 1
    · (intro w hSw; (try dsimp only at hSw); (try subst hSw); go_simp; try with_reducible rfl)
    simp only [Act.put, List.setIfInBounds_toArray, List.set_cons_zero, List.set_cons_succ]
    refine held_take (i := 14) (d := (some 26)) (v := ?_) rfl rfl (by kernel_rfl) (by kernel_rfl) (by kernel_rfl) (fun _ _ _ h => h) (Or.inl ⟨by rfl, ?_⟩) (by first | assumption | rfl | trivial) ?_
    rotate_left 1
    · (intro w hSw; (try dsimp only at hSw); (try subst hSw); go_simp; try with_reducible rfl)
    simp only [Act.put, List.setIfInBounds_toArray, List.set_cons_zero, List.set_cons_succ]
    refine held_take (i := 15) (d := (some 27)) (v := ?_) rfl rfl (by kernel_rfl) (by kernel_rfl) (by kernel_rfl) (fun _ _ _ h => h) (Or.inl ⟨by rfl, ?_⟩) (by first | assumption | rfl | trivial) ?_
    rotate_left 1
    · (intro w hSw; (try dsimp only at hSw); (try subst hSw); go_simp; try with_reducible rfl)
    simp only [Act.put, List.setIfInBounds_toArray, List.set_cons_zero, List.set_cons_succ]
    refine held_next (i := 16) (by kernel_rfl) rfl (by rfl) (fun K1 hK1 => ?_)
    go_simp
    with_reducible refine (HB.out _ B1.out.drew).mono ?_
    rintro e wA ⟨aA, mA, cA, rfl, hmA, oA, bA⟩
    have BA : Hid (Below w.heap.size w wA) := bel_to B1.out.drew (Nat.le_refl _) bA
    have OA : Hid (OwnB wA w.heap.size aA mA cA BB) := oA.mono B1.out.size
    have HM := hide hmA
    have SA := hide (KS.out _ BA.out)
    clear oA bA hmA
    go_wp2_with fail
    refine hK1.out _ _ SA.out ?_
    clear hK1
    refine held_take (i := 17) (d := (some 4)) (v := ?_) rfl rfl (by kernel_rfl) (by kernel_rfl) (by kernel_rfl) (fun _ _ _ h => h) (Or.inl ⟨by rfl, ?_⟩) (by first | assumption | rfl | trivial) ?_
    rotate_left 1
    · (intro w hSw; (try dsimp only at hSw); (try subst hSw); go_simp; try with_reducible rfl)
    simp only [Act.put, List.setIfInBounds_toArray, List.set_cons_zero, List.set_cons_succ]
    refine held_take (i := 18) (d := (some 5)) (v := ?_) rfl rfl (by kernel_rfl) (by kernel_rfl) (by kernel_rfl) (fun _ _ _ h => h) (Or.inl ⟨by rfl, ?_⟩) (by first | assumption | rfl | trivial) ?_
    rotate_left 1
    · (intro w hSw; (try dsimp only at hSw); (try subst hSw); go_simp; try with_reducible rfl)
    simp only [Act.put, List.setIfInBounds_toArray, List.set_cons_zero, List.set_cons_succ]
    clear hHeld
    refine wpAnyH_done (by kernel_rfl) ?_ _
    go_wp2
    refine bodyPost_ret (v := .tuple #[.slice aA mA cA, .int .i64 0]) (by simp [results, Tryz.results39, go_sem]) rfl ?_
    exact HP.out _ _ _ _ BA.out HM.out OA.out
end Go.Proofs.YthlkmjaflomflaaGreat
