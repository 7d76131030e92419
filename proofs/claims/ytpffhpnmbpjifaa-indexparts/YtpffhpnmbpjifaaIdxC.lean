/-
  What the laws' own collector of values does (values), and what it takes of an iterator that goes on as long as it asks: contracts, for every world.
  Conditions: there is room for one more of 24 bytes.
-/
import Derived.Test.YtpffhpnmbpjifaaIdxWa
import Derived.Test.YtpffhpnmbpjifaaChK
import Derived.Deep.Cut
namespace Go.Proofs.Ytpffhpnmbpjifaa
open Go.RowKit
set_option maxRecDepth 20000

theorem row_formV {w : World} {base : Nat} {e : TypeId} {size : Nat} {v : Value} {n : Nat} {xs : List Value} (h : w.ownsRow base e size v n xs) : ∃ a cap, v = .slice a n cap := by
  rcases h.2 with ⟨rfl, h2⟩ | ⟨g, c, cur, h1, _⟩
  · rw [h2]; exact ⟨_, _, rfl⟩
  · exact ⟨_, _, h1⟩
/-- The collector's two boxes and its list. -/
structure CollV (w : World) (n0 Bl Bm : Nat) (ks : List Vn) (most : Int) (v : Value) : Prop where
  bl : Boxed w Bl 44 v
  bm : Boxed w Bm 3 (.int .i64 most)
  rl : w.ownsRow n0 52 2 v ks.length (flatV ks)
  nl : n0 ≤ Bl

set_option maxHeartbeats 2000000 in
theorem vpush_any (s : ByteArray) (k : Nat) (w : World) (n0 Bl Bm L : Nat) (ks : List Vn) (most : Int) (v : Value) (hC : CollV w n0 Bl Bm ks most v) (hks : ks.length = L) (hlen : (L + 1) * 24 ≤ 140737488355328) :
    Calls Try.prog 41 #[.string s, .int .i64 (k : Int), .pointer (some ⟨Bl, 0, none⟩), .pointer (some ⟨Bm, 0, none⟩)] w fun e w' =>
      e = .returned (.bool (decide ((L : Int) + 1 < most))) ∧ ∃ v', CollV w' n0 Bl Bm (ks ++ [(s, k)]) most v' ∧ Below n0 w w' := by
  obtain ⟨i1, hi1, hz10, hz11, hz12⟩ := info_parts Try.infoV
  have rl := hC.rl
  rw [hks] at rl
  obtain ⟨al, cl, rfl⟩ := row_formV rl
  have HC := hide hC
  have cbl := hC.bl.cell
  have RL := hide rl
  have HKS := hide hks
  have h0 : n0 ≤ w.heap.size := by have := hC.nl; have := hC.bl.lt; omega
  have NC := hide (val_cells w (s, k) 52)
  dsimp only at NC
  clear hC rl hks
  go_enter Try.func41, Try.ntmps41
  go_wp2_with (at_builtin; refine wpList_append_vals _ rfl _ _ 44 rfl n0 i1 Try.underlying44 hi1 hz10 hz11 hz12 al L cl ks rfl (RL.out.alloc _) (some ⟨w.heap.size, 0, none⟩) 1 1 [(s, k)] rfl rfl (fun ad e => by cases e; exact NC.out) (fun h => by cases h) (by omega) (by simp; omega) ?_)
  intro a1 c1 w1 o1 b1 n1
  have O1 := hide o1
  have C1 : Hid (Ch (fun g => (Value.slice al L cl).ownBlock = some g) w w1) := ((Ch.refl (fun g => (Value.slice al L cl).ownBlock = some g) w).alloc _).trans n1
  have BL1 := hide (boxed_ch HC.out.bl C1.out (fun h => (row_cells HC.out.rl h).1.ne (boxed_cells HC.out.bl) (by decide) rfl))
  have BM1 := hide (boxed_ch HC.out.bm C1.out (fun h => (row_cells HC.out.rl h).1.ne (boxed_cells HC.out.bm) (by decide) rfl))
  have hbl1 := BL1.out.cell
  have hfl1 := BL1.out.frozen
  have D2 : Hid (Ch (fun g => g = Bl) w1 (w1.setCell ⟨Bl, 0, none⟩ (.slice a1 (L + 1) c1))) := Ch.set w1 Bl _
  have hBM : Hid (Bm ≠ Bl) := (boxed_cells HC.out.bm).ne (boxed_cells HC.out.bl) (by decide)
  have BL2 := hide (BL1.out.set (.slice a1 (L + 1) c1))
  have BM2 := hide (boxed_ch BM1.out D2.out hBM.out)
  have RL2 := hide (row_ch O1.out D2.out (fun g h => (row_cells O1.out h).1.ne (boxed_cells BL1.out) (by decide)))
  have HB : Hid (Below n0 w (w1.setCell ⟨Bl, 0, none⟩ (.slice a1 (L + 1) c1))) :=
    (C1.out.below h0 (fun g hg h => by have := (row_cells HC.out.rl h).2; omega)).trans (D2.out.below (by have := C1.out.size; omega) (fun g hg h => by have := HC.out.nl; omega))
  have NL := hide HC.out.nl
  clear o1 b1 n1 cbl O1 BL1 BM1 RL HC C1 D2 NC
  go_upto_region 2 with fail
  obtain ⟨W2, hW2⟩ : ∃ W2, w1.setCell ⟨Bl, 0, none⟩ (.slice a1 (L + 1) c1) = W2 := ⟨_, rfl⟩
  rw [hW2] at BL2 BM2 RL2 HB ⊢
  clear hW2 hbl1 hfl1
  have hl2 := BL2.out.cell
  have hm2 := BM2.out.cell
  have HF : Hid (CollV W2 n0 Bl Bm (ks ++ [(s, k)]) most (.slice a1 (L + 1) c1)) := by
    refine ⟨BL2.out, BM2.out, ?_, NL.out⟩
    rw [List.length_append, HKS.out]; exact RL2.out
  clear BL2 BM2 RL2
  go_wp2
  go_ret
  exact ⟨rfl, _, HF, HB.out⟩


/-- An iterator (function f, with what it holds) that tells these to the laws' collector. -/
def GoesV (f : Nat) (caps : Array Value) (w : World) (l : List Vn) : Prop := ∀ (W0 : World) (n0 Bl Bm : Nat) (most : Int) (v : Value), Below w.heap.size w W0 → w.heap.size ≤ n0 → CollV W0 n0 Bl Bm [] most v → 1 ≤ most →
    Calls Try.prog f (#[.func (.func 41) #[] #[.pointer (some ⟨Bl, 0, none⟩), .pointer (some ⟨Bm, 0, none⟩)]] ++ caps) W0 fun e W' =>
      e = .returned (.tuple #[]) ∧ (∃ v', CollV W' n0 Bl Bm (l.take most.toNat) most v') ∧ Below n0 W0 W'
theorem eqlV_in (w : World) (d : Nat) (f : Fn) (c b : Array Value) : (Op.equalIn (d + 1) 47 (.func f c b) .nilFunc).run Try.prog w = .ok false w := by
  simp [Op.equalIn, run_underlying Try.underlying47]
theorem eqlV (w : World) (f : Fn) (c b : Array Value) : (binOp .eql 47 (.func f c b) .nilFunc).run Try.prog w = .ok (.bool false) w := by
  simp only [binOp]
  simp [Op.equal, Op.maxDepth, eqlV_in w 9999 f c b]

set_option maxHeartbeats 2000000 in
theorem valuesV_of (f : Nat) (eg : ∀ args w, (callFunc f args).run Try.prog w = .ok (.enter f args) w) (caps : Array Value) (w : World) (l : List Vn) (hG : GoesV f caps w l) : TellsV (.func (.func f) #[] caps) w l := by
  intro u hu most _
  have hq := eqlV
  by_cases hm : most < 1
  · have HE : Hid (l.take most.toNat = []) := by show _ = _; rw [show most.toNat = 0 by omega]; rfl
    obtain ⟨W1, hW1⟩ : ∃ W, Hid (u.alloc (.cells #[.int .i64 most] 3) = W) := ⟨_, rfl⟩
    obtain ⟨W2, hW2⟩ : ∃ W, Hid (W1.alloc (.cells #[.slice none 0 0] 44) = W) := ⟨_, rfl⟩
    have B1 : Hid (Below u.heap.size u W1) := by rw [← hW1.out]; exact (Below.refl _ _).alloc (Nat.le_refl _) _
    have B2 : Hid (Below u.heap.size u W2) := by rw [← hW2.out]; exact bel_al B1.out (Nat.le_refl _) _
    have cm : W2.cell? ⟨u.heap.size, 0, none⟩ = some (.int .i64 most) := by
      have q := (Boxed.new u 3 (.int .i64 most)).alloc (.cells #[.slice none 0 0] 44)
      rw [hW1.out, hW2.out] at q
      exact q.cell
    go_enter Try.func21, Try.ntmps21
    go_upto_region 2 with fail
    rw [hW1.out, hW2.out]
    clear hW1 hW2
    go_wp2
    go_ret
    rw [HE.out]
    exact ⟨none, 0, 0, rfl, ownV_nil _ _, B2.out⟩
  · obtain ⟨W1, hW1⟩ : ∃ W, Hid (u.alloc (.cells #[.int .i64 most] 3) = W) := ⟨_, rfl⟩
    obtain ⟨W2, hW2⟩ : ∃ W, Hid (W1.alloc (.cells #[.slice none 0 0] 44) = W) := ⟨_, rfl⟩
    have S1 : Hid (W1.heap.size = u.heap.size + 1) := by rw [← hW1.out]; show _ = _; simp
    have B1 : Hid (Below u.heap.size u W1) := by rw [← hW1.out]; exact (Below.refl _ _).alloc (Nat.le_refl _) _
    have B2 : Hid (Below u.heap.size u W2) := by rw [← hW2.out]; exact bel_al B1.out (Nat.le_refl _) _
    have C0 : Hid (CollV W2 u.heap.size (u.heap.size + 1) u.heap.size [] most (.slice none 0 0)) := by
      refine ⟨?_, ?_, World.ownsRow_nil _ _ _ _, by omega⟩
      · rw [← hW2.out, ← S1.out]
        exact Boxed.new W1 44 (.slice none 0 0)
      · rw [← hW2.out, ← hW1.out]
        exact (Boxed.new u 3 (.int .i64 most)).alloc _
    have cm := C0.out.bm.cell
    have G := hide (hG W2 u.heap.size (u.heap.size + 1) u.heap.size most (.slice none 0 0) (bel_to hu (Nat.le_refl _) B2.out) hu.size C0.out (by omega))
    generalize l.take most.toNat = X at *
    clear hG hu C0
    go_enter Try.func21, Try.ntmps21
    go_upto_region 2 with fail
    rw [hW1.out, hW2.out]
    clear hW1 hW2
    rw [← S1.out] at G
    go_wp2_with fail
    rw [S1.out] at G
    with_reducible refine G.out.mono ?_
    rintro e W' ⟨rfl, ⟨v', hC⟩, HB⟩
    obtain ⟨al, cl, rfl⟩ := row_formV hC.rl
    have hl := hC.bl.cell
    have RL := hide hC.rl
    have HB3 : Hid (Below u.heap.size u W') := Below.trans B2.out HB
    clear hC HB G
    go_wp2
    go_ret
    exact ⟨_, _, _, rfl, RL.out, HB3.out⟩
end Go.Proofs.Ytpffhpnmbpjifaa
