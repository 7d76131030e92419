/-
  The document's reader of a matcher's text (read: where it starts, All, the kids): contracts, for every world (written by gen/matye.gen.py).
  Conditions: the reader and the count lie in blocks of their own; the place is within the text, of at most 20,000 bytes.
-/
import Derived.Test.YthebcmkainplnaaMatYd
namespace Go.Proofs.Ythebcmkainplnaa
open Go.RowKit
set_option maxRecDepth 20000

set_option maxHeartbeats 4000000 in
theorem read_64 (f : Nat) (g g2 n : Nat) (s : ByteArray) (k : Nat) (w : World) (h : SB w g s k false) (hb : BX w g2 n) (hgg : g ≠ g2) (hk : k ≤ s.size) (hn : n = 64) :
    Calls Try.prog 39 #[.pointer (some ⟨g, 0, none⟩), .pointer (some ⟨g2, 0, none⟩)] w fun e w' => RfP (lxM (f + 1) (64 - n) (s.toList.drop k)) g g2 n s w e w' := by
  have hg := h.lt
  have hg2 := hb.lt
  obtain ⟨W, hW⟩ : ∃ W, Hid (w.alloc (.cells #[.int .i64 0, .string ⟨#[]⟩, .string ⟨#[]⟩, .slice none 0 0, .slice none 0 0] 25) = W) := ⟨_, rfl⟩
  obtain ⟨V, hV⟩ : ∃ V, Hid (W.setCell ⟨g2, 0, none⟩ (.int .i64 ((n : Int) + 1)) = V) := ⟨_, rfl⟩
  have R0 := hide (rs_start h hb hgg hW.out hV.out)
  have bx : Hid (BX W g2 n) := by rw [← hW.out]; exact hb.block (Below.heap_alloc _ _ _ hb.lt)
  obtain ⟨b0, b1⟩ := bx.out.cell
  obtain ⟨a0, a1⟩ := R0.out.cnt.cell
  rw [show ((n + 1 : Nat) : Int) = (n : Int) + 1 from rfl] at a0
  obtain ⟨s0, s1, s2, sf⟩ := R0.out.sb.cell
  obtain ⟨ans, HA⟩ : ∃ ans, Hid (lxM (f + 1) (64 - n) (s.toList.drop k) = ans) := ⟨_, rfl⟩
  rw [HA.out]
  clear h hb bx
  have HF : Hid (none = ans) := by
    rw [← HA.out, hn, lxM]
    exact rfl
  have t1 : (64 : Int) < (n : Int) + 1 := by omega
  have sf2 := sf 2
  have R1 := hide R0.out.spoil
  obtain ⟨U, hU⟩ : ∃ U, Hid (V.setCell ⟨g, 2, none⟩ (.bool true) = U) := ⟨_, rfl⟩
  rw [hU.out] at R1
  obtain ⟨s10, s11, s12, sf1⟩ := R1.out.sb.cell
  have hn64 : n ≤ 64 := by omega
  clear sf sf1 hn HA
  go_enter Try.func39, Try.ntmps39
  go_upto_region 1 with fail
  rw [hW.out]
  go_upto_region 2 with fail
  rw [hV.out]
  clear hW hV b0 b1
  go_upto_region 4 with fail
  rw [hU.out]
  clear hU s0 s1 s2 a0 a1
  have DN : Hid (RfP ans g g2 n s w (.returned (.agg #[.int .i64 0, .string ⟨#[]⟩, .string ⟨#[]⟩, .slice none 0 0, .slice none 0 0])) (put5 U w.heap.size ⟨0, ⟨#[]⟩, ⟨#[]⟩, none, 0, 0, none, 0, 0⟩)) := by
    rw [← HF.out]
    exact rf_bad R1.out.ch R1.out.sb R1.out.lt.1 hk ⟨0, ⟨#[]⟩, ⟨#[]⟩, none, 0, 0, none, 0, 0⟩
  have BZ := hide (R1.out.box)
  obtain ⟨d0, d1, d2, d3, d4, df⟩ := BZ.out.all
  have f10 := df 0
  have f11 := df 1
  have f12 := df 2
  have f13 := df 3
  have f14 := df 4
  dsimp only [hm0] at d0 d1 d2 d3 d4
  have FP := hide (BZ.out.put ⟨0, ⟨#[]⟩, ⟨#[]⟩, none, 0, 0, none, 0, 0⟩)
  clear df
  go_wp2
  obtain ⟨x0, x1, x2, x3, x4, _⟩ := FP.out.all
  unfold put5 at x0 x1 x2 x3 x4
  dsimp only at x0 x1 x2 x3 x4
  exact bodyPost_ret (v := .agg #[.int .i64 0, .string ⟨#[]⟩, .string ⟨#[]⟩, .slice none 0 0, .slice none 0 0]) (by simp [results, Try.results39, go_sem, x0, x1, x2, x3, x4]) rfl DN.out

set_option maxHeartbeats 4000000 in
theorem read_all (f : Nat) (g g2 n : Nat) (s : ByteArray) (k : Nat) (w : World) (h : SB w g s k false) (hb : BX w g2 n) (hgg : g ≠ g2) (hk : k ≤ s.size) (hs : s.size ≤ 20000) (hn : n < 64) (h42 : isS s k false 42 = true) :
    Calls Try.prog 39 #[.pointer (some ⟨g, 0, none⟩), .pointer (some ⟨g2, 0, none⟩)] w fun e w' => RfP (lxM (f + 1) (64 - n) (s.toList.drop k)) g g2 n s w e w' := by
  have hg := h.lt
  have hg2 := hb.lt
  obtain ⟨W, hW⟩ : ∃ W, Hid (w.alloc (.cells #[.int .i64 0, .string ⟨#[]⟩, .string ⟨#[]⟩, .slice none 0 0, .slice none 0 0] 25) = W) := ⟨_, rfl⟩
  obtain ⟨V, hV⟩ : ∃ V, Hid (W.setCell ⟨g2, 0, none⟩ (.int .i64 ((n : Int) + 1)) = V) := ⟨_, rfl⟩
  have R0 := hide (rs_start h hb hgg hW.out hV.out)
  have bx : Hid (BX W g2 n) := by rw [← hW.out]; exact hb.block (Below.heap_alloc _ _ _ hb.lt)
  obtain ⟨b0, b1⟩ := bx.out.cell
  obtain ⟨a0, a1⟩ := R0.out.cnt.cell
  rw [show ((n + 1 : Nat) : Int) = (n : Int) + 1 from rfl] at a0
  obtain ⟨s0, s1, s2, sf⟩ := R0.out.sb.cell
  obtain ⟨ans, HA⟩ : ∃ ans, Hid (lxM (f + 1) (64 - n) (s.toList.drop k) = ans) := ⟨_, rfl⟩
  rw [HA.out]
  clear h hb bx
  obtain ⟨left, hl⟩ : ∃ left, 64 - n = left + 1 := ⟨64 - n - 1, by omega⟩
  obtain ⟨q1, q2⟩ := is_yes h42
  have HF : Hid (some (zeroM, s.toList.drop (k + 1), left) = ans) := by
    rw [← HA.out, hl, lxM, q1]
    exact rfl
  have t1 : ¬ (64 : Int) < (n : Int) + 1 := by omega
  clear sf HA q1
  go_enter Try.func39, Try.ntmps39
  go_upto_region 1 with fail
  rw [hW.out]
  go_upto_region 2 with fail
  rw [hV.out]
  clear hW hV b0 b1
  have K1 : Hid (Calls Try.prog 63 #[.pointer (some ⟨g, 0, none⟩), .int .u8 42] V fun e w' => e = .returned (.bool (isS s (k) false 42)) ∧ Ch (fun b => b = g) V w' ∧ SB w' g s (if isS s (k) false 42 then (k) + 1 else (k)) false) := is_any g s (k) false 42 V R0.out.sb hk hs
  go_wp2_with fail
  with_reducible refine K1.out.mono ?_
  rw [h42]
  rintro e u1 ⟨rfl, c1, t2⟩
  rw [if_pos rfl] at t2
  have R1 := hide (R0.out.to c1 t2)
  clear c1 t2 s0 s1 s2 a0 a1 K1
  have DN : Hid (RfP ans g g2 n s w (.returned (.agg #[.int .i64 0, .string ⟨#[]⟩, .string ⟨#[]⟩, .slice none 0 0, .slice none 0 0])) (put5 u1 w.heap.size ⟨0, ⟨#[]⟩, ⟨#[]⟩, none, 0, 0, none, 0, 0⟩)) := by
    rw [← HF.out]
    exact rf_some R1.out q2 rfl (seeM_zero _ _) (by omega) (by omega) (by omega)
  have BZ := hide (R1.out.box)
  obtain ⟨d0, d1, d2, d3, d4, df⟩ := BZ.out.all
  have f10 := df 0
  have f11 := df 1
  have f12 := df 2
  have f13 := df 3
  have f14 := df 4
  dsimp only [hm0] at d0 d1 d2 d3 d4
  have FP := hide (BZ.out.put ⟨0, ⟨#[]⟩, ⟨#[]⟩, none, 0, 0, none, 0, 0⟩)
  clear df
  go_wp2
  obtain ⟨x0, x1, x2, x3, x4, _⟩ := FP.out.all
  unfold put5 at x0 x1 x2 x3 x4
  dsimp only at x0 x1 x2 x3 x4
  exact bodyPost_ret (v := .agg #[.int .i64 0, .string ⟨#[]⟩, .string ⟨#[]⟩, .slice none 0 0, .slice none 0 0]) (by simp [results, Try.results39, go_sem, x0, x1, x2, x3, x4]) rfl DN.out

end Go.Proofs.Ythebcmkainplnaa
