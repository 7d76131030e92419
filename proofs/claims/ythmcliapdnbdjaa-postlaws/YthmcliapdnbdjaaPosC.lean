/-
  What the laws' own collector of numbers does (Collect), and what it takes of an iterator that goes on as long as it asks: contracts, for every world.
  Conditions: there is room for one more of 8 bytes.
-/
import Derived.Test.YthmcliapdnbdjaaPosI
import Derived.Test.YthmcliapdnbdjaaChK
import Derived.Deep.Cut
namespace Go.Proofs.Ythmcliapdnbdjaa
open Go.RowKit
set_option maxRecDepth 20000

/-- The collector's two boxes and its list. -/
structure CollI (w : World) (n0 Bl Bm : Nat) (ks : List Int) (most : Int) (v : Value) : Prop where
  bl : Boxed w Bl 22 v
  bm : Boxed w Bm 3 (.int .i64 most)
  rl : w.ownsRow n0 3 1 v ks.length (ks.map (Value.int .i64))
  nl : n0 ≤ Bl
  ne : ∀ g, v.ownBlock = some g → g ≠ Bm

set_option maxHeartbeats 2000000 in
theorem cpush_any (k : Int) (w : World) (n0 Bl Bm L : Nat) (ks : List Int) (most : Int) (v : Value) (hC : CollI w n0 Bl Bm ks most v) (hks : ks.length = L) (hlen : (L + 1) * 8 ≤ 140737488355328) :
    Calls Try.prog 34 #[.int .i64 k, .pointer (some ⟨Bl, 0, none⟩), .pointer (some ⟨Bm, 0, none⟩)] w fun e w' =>
      e = .returned (.bool (decide ((L : Int) + 1 < most))) ∧ ∃ v', CollI w' n0 Bl Bm (ks ++ [k]) most v' ∧ Below n0 w w' := by
  obtain ⟨i1, hi1, hz10, hz11, hz12⟩ := info_parts Try.infoI
  have rl := hC.rl
  rw [hks] at rl
  obtain ⟨al, cl, rfl⟩ := row_form rl
  have HC := hide hC
  have cbl := hC.bl.cell
  have RL := hide rl
  have HKS := hide hks
  have h0 : n0 ≤ w.heap.size := by have := hC.nl; have := hC.bl.lt; omega
  clear hC rl hks
  go_enter Try.func34, Try.ntmps34
  go_wp2_with (at_builtin; refine wpList_push _ rfl _ _ 22 rfl n0 3 i1 (.int .i64 0) 8 Try.underlying22 hi1 hz10 hz11 hz12 rfl al L cl (ks.map (Value.int .i64)) rfl (RL.out.alloc _) ⟨w.heap.size, 0, none⟩ 1 (.int .i64 k) rfl (one_intcell w k _) rfl (by unfold maxLen; omega) (by omega) (by simp; omega) ?_)
  intro gg1 cc1 w1 o1 g1 n1
  have O1 : Hid (w1.ownsRow n0 3 1 (.slice (some ⟨gg1, 0, none⟩) (L + 1) cc1) (L + 1) ((ks ++ [k]).map (Value.int .i64))) := by
    show w1.ownsRow _ _ _ _ _ _
    rw [List.map_append]; exact o1
  have C1 : Hid (Ch (fun g => (Value.slice al L cl).ownBlock = some g) w w1) := ((Ch.refl (fun g => (Value.slice al L cl).ownBlock = some g) w).alloc (.cells #[.int .i64 k] 3)).trans (Ch.grown g1)
  have BL1 := hide (boxed_ch HC.out.bl C1.out (fun h => (row_cells HC.out.rl h).1.ne (boxed_cells HC.out.bl) (by decide) rfl))
  have BM1 := hide (boxed_ch HC.out.bm C1.out (fun h => HC.out.ne _ h rfl))
  have hbl1 := BL1.out.cell
  have hfl1 := BL1.out.frozen
  have D2 : Hid (Ch (fun g => g = Bl) w1 (w1.setCell ⟨Bl, 0, none⟩ (.slice (some ⟨gg1, 0, none⟩) (L + 1) cc1))) := Ch.set w1 Bl _
  have hBM : Hid (Bm ≠ Bl) := (boxed_cells HC.out.bm).ne (boxed_cells HC.out.bl) (by decide)
  have BL2 := hide (BL1.out.set (.slice (some ⟨gg1, 0, none⟩) (L + 1) cc1))
  have BM2 := hide (boxed_ch BM1.out D2.out hBM.out)
  have RL2 := hide (row_ch O1.out D2.out (fun g h => (row_cells O1.out h).1.ne (boxed_cells BL1.out) (by decide)))
  have HB : Hid (Below n0 w (w1.setCell ⟨Bl, 0, none⟩ (.slice (some ⟨gg1, 0, none⟩) (L + 1) cc1))) :=
    (C1.out.below h0 (fun g hg h => by have := (row_cells HC.out.rl h).2; omega)).trans (D2.out.below (by have := C1.out.size; omega) (fun g hg h => by have := HC.out.nl; omega))
  have NL := hide HC.out.nl
  have NE1 : Hid (gg1 ≠ Bm) := by
    rcases n1 with h | h
    · exact HC.out.ne _ h
    · have := HC.out.bm.lt; have h' : w.heap.size ≤ gg1 := by have := (Nat.le_of_lt (show w.heap.size < (w.alloc (.cells #[.int .i64 k] 3)).heap.size by simp)); omega
      show gg1 ≠ Bm; omega
  clear o1 g1 n1 cbl O1 BL1 BM1 RL HC C1 D2
  go_upto_region 2 with fail
  obtain ⟨W2, hW2⟩ : ∃ W2, w1.setCell ⟨Bl, 0, none⟩ (.slice (some ⟨gg1, 0, none⟩) (L + 1) cc1) = W2 := ⟨_, rfl⟩
  rw [hW2] at BL2 BM2 RL2 HB ⊢
  clear hW2 hbl1 hfl1
  have hl2 := BL2.out.cell
  have hm2 := BM2.out.cell
  have HF : Hid (CollI W2 n0 Bl Bm (ks ++ [k]) most (.slice (some ⟨gg1, 0, none⟩) (L + 1) cc1)) := by
    refine ⟨BL2.out, BM2.out, ?_, NL.out, fun g h => by simp [Value.ownBlock] at h; rw [← h]; exact NE1.out⟩
    rw [List.length_append, HKS.out]; exact RL2.out
  clear BL2 BM2 RL2
  go_wp2
  go_ret
  exact ⟨rfl, _, HF, HB.out⟩


/-- An iterator (function f, with what it holds) that tells these to the laws' collector. -/
def GoesC (f : Nat) (caps : Array Value) (w : World) (l : List Int) : Prop := ∀ (W0 : World) (n0 Bl Bm : Nat) (most : Int) (v : Value), Below w.heap.size w W0 → w.heap.size ≤ n0 → CollI W0 n0 Bl Bm [] most v → 1 ≤ most →
    Calls Try.prog f (#[.func (.func 34) #[] #[.pointer (some ⟨Bl, 0, none⟩), .pointer (some ⟨Bm, 0, none⟩)]] ++ caps) W0 fun e W' =>
      e = .returned (.tuple #[]) ∧ (∃ v', CollI W' n0 Bl Bm (l.take most.toNat) most v') ∧ Below n0 W0 W'
theorem eqlI_in (w : World) (d : Nat) (f : Fn) (c b : Array Value) : (Op.equalIn (d + 1) 28 (.func f c b) .nilFunc).run Try.prog w = .ok false w := by
  simp [Op.equalIn, run_underlying Try.underlying28]
theorem eqlI (w : World) (f : Fn) (c b : Array Value) : (binOp .eql 28 (.func f c b) .nilFunc).run Try.prog w = .ok (.bool false) w := by
  simp only [binOp]
  simp [Op.equal, Op.maxDepth, eqlI_in w 9999 f c b]

set_option maxHeartbeats 2000000 in
theorem collect_of (f : Nat) (eg : ∀ args w, (callFunc f args).run Try.prog w = .ok (.enter f args) w) (caps : Array Value) (w : World) (l : List Int) (hG : GoesC f caps w l) (hl : l.length ≤ 100000000) (hw : ∀ z ∈ l, (Lit.int .i64 z).wf = true) (u : World) (hu : Below w.heap.size w u) (most : Int) :
    Calls Try.prog 25 #[.func (.func f) #[] caps, .int .i64 most] u fun e u' => Told (l.take most.toNat) u e u' := by
  have hq := eqlI
  by_cases hm : most < 1
  · have HE : Hid (l.take most.toNat = []) := by show _ = _; rw [show most.toNat = 0 by omega]; rfl
    obtain ⟨W1, hW1⟩ : ∃ W, Hid (u.alloc (.cells #[.int .i64 most] 3) = W) := ⟨_, rfl⟩
    obtain ⟨W2, hW2⟩ : ∃ W, Hid (W1.alloc (.cells #[.slice none 0 0] 22) = W) := ⟨_, rfl⟩
    have B1 : Hid (Below u.heap.size u W1) := by rw [← hW1.out]; exact (Below.refl _ _).alloc (Nat.le_refl _) _
    have B2 : Hid (Below u.heap.size u W2) := by rw [← hW2.out]; exact bel_al B1.out (Nat.le_refl _) _
    have cm : W2.cell? ⟨u.heap.size, 0, none⟩ = some (.int .i64 most) := by
      have q := (Boxed.new u 3 (.int .i64 most)).alloc (.cells #[.slice none 0 0] 22)
      rw [hW1.out, hW2.out] at q
      exact q.cell
    go_enter Try.func25, Try.ntmps25
    go_upto_region 2 with fail
    rw [hW1.out, hW2.out]
    clear hW1 hW2
    go_wp2
    go_ret
    rw [HE.out]
    exact ⟨none, 0, 0, rfl, sli_nil _, B2.out⟩
  · obtain ⟨W1, hW1⟩ : ∃ W, Hid (u.alloc (.cells #[.int .i64 most] 3) = W) := ⟨_, rfl⟩
    obtain ⟨W2, hW2⟩ : ∃ W, Hid (W1.alloc (.cells #[.slice none 0 0] 22) = W) := ⟨_, rfl⟩
    have S1 : Hid (W1.heap.size = u.heap.size + 1) := by rw [← hW1.out]; show _ = _; simp
    have B1 : Hid (Below u.heap.size u W1) := by rw [← hW1.out]; exact (Below.refl _ _).alloc (Nat.le_refl _) _
    have B2 : Hid (Below u.heap.size u W2) := by rw [← hW2.out]; exact bel_al B1.out (Nat.le_refl _) _
    have C0 : Hid (CollI W2 u.heap.size (u.heap.size + 1) u.heap.size [] most (.slice none 0 0)) := by
      refine ⟨?_, ?_, World.ownsRow_nil _ _ _ _, by omega, fun g h => by simp [Value.ownBlock] at h⟩
      · rw [← hW2.out, ← S1.out]
        exact Boxed.new W1 22 (.slice none 0 0)
      · rw [← hW2.out, ← hW1.out]
        exact (Boxed.new u 3 (.int .i64 most)).alloc _
    have cm := C0.out.bm.cell
    have G := hide (hG W2 u.heap.size (u.heap.size + 1) u.heap.size most (.slice none 0 0) (bel_to hu (Nat.le_refl _) B2.out) hu.size C0.out (by omega))
    have hlen : (l.take most.toNat).length ≤ 100000000 := by rw [List.length_take]; omega
    have HW : Hid (∀ z ∈ l.take most.toNat, (Lit.int .i64 z).wf = true) := fun z hz => hw z (List.mem_of_mem_take hz)
    generalize l.take most.toNat = X at *
    clear hG hu C0 hw hl
    go_enter Try.func25, Try.ntmps25
    go_upto_region 2 with fail
    rw [hW1.out, hW2.out]
    clear hW1 hW2
    rw [← S1.out] at G
    go_wp2_with fail
    rw [S1.out] at G
    with_reducible refine G.out.mono ?_
    rintro e W' ⟨rfl, ⟨v', hC⟩, HB⟩
    obtain ⟨al, cl, rfl⟩ := row_form hC.rl
    have hl := hC.bl.cell
    have RL := hide hC.rl
    have HB3 : Hid (Below u.heap.size u W') := Below.trans B2.out HB
    clear hC HB G
    go_wp2
    go_ret
    exact ⟨_, _, _, rfl, MineI.sl RL.out (by omega) HW.out, HB3.out⟩
end Go.Proofs.Ythmcliapdnbdjaa
