/-
  The law of one float and of two, over what the laws ask of the program's own Add.
  Conditions: as GaA says.
-/
import Derived.Test.YtnhjjdgdffjdcaaGaugeT
namespace Go.Proofs.Ytnhjjdgdffjdcaa
open Go.RowKit

/-- One gauge in memory. -/
theorem keep1 {w0 w w' : World} {B g1 : Nat} {a : Gz} (hb : Below w.heap.size w w') (h : ((World.cell? w ⟨g1, 0, none⟩ = some (.int .u64 (Gz.n a))) ∧ (World.cell? w ⟨g1, 1, none⟩ = some (.int .u64 (Gz.nans a))) ∧ (World.cell? w ⟨g1, 2, none⟩ = some (.int .u64 (Gz.lo a))) ∧ (World.cell? w ⟨g1, 3, none⟩ = some (.int .u64 (Gz.hi a)))) ∧ Hid (g1 < w.heap.size ∧ B ≤ w.heap.size ∧ Below B w0 w)) :
    ((World.cell? w' ⟨g1, 0, none⟩ = some (.int .u64 (Gz.n a))) ∧ (World.cell? w' ⟨g1, 1, none⟩ = some (.int .u64 (Gz.nans a))) ∧ (World.cell? w' ⟨g1, 2, none⟩ = some (.int .u64 (Gz.lo a))) ∧ (World.cell? w' ⟨g1, 3, none⟩ = some (.int .u64 (Gz.hi a)))) ∧ Hid (g1 < w'.heap.size ∧ B ≤ w'.heap.size ∧ Below B w0 w') := by
  obtain ⟨h1, l1, l4, hB⟩ := h
  have s := hb.size
  exact ⟨gc_below hb l1 h1, Nat.lt_of_lt_of_le l1 s, Nat.le_trans l4 s, hB.trans (hb.mono l4)⟩
theorem keep01 {w0 w : World} {B : Nat} (v : Gz) (t : TypeId) (hB : Below B w0 w) (l : B ≤ w.heap.size) :
    let w' := w.alloc (.cells #[.int .u64 v.n, .int .u64 v.nans, .int .u64 v.lo, .int .u64 v.hi] t)
    ((World.cell? w' ⟨w.heap.size, 0, none⟩ = some (.int .u64 (Gz.n v))) ∧ (World.cell? w' ⟨w.heap.size, 1, none⟩ = some (.int .u64 (Gz.nans v))) ∧ (World.cell? w' ⟨w.heap.size, 2, none⟩ = some (.int .u64 (Gz.lo v))) ∧ (World.cell? w' ⟨w.heap.size, 3, none⟩ = some (.int .u64 (Gz.hi v)))) ∧ Hid (w.heap.size < w'.heap.size ∧ B ≤ w'.heap.size ∧ Below B w0 w') := by
  intro w'
  have hb : Below w.heap.size w w' := (Below.refl _ _).alloc (Nat.le_refl _) _
  have s : w'.heap.size = w.heap.size + 1 := size_al _ _
  exact ⟨(GBox.new w t v.n v.nans v.lo v.hi).gc, by omega, by omega, hB.trans (hb.mono l)⟩

set_option maxHeartbeats 4000000 in
theorem oneG_of (A : GaA) (a b : Int) (w : World) (ha : (Lit.int .u64 a).wf = true) (hb : (Lit.int .u64 b).wf = true) :
    Calls Try.prog 8 #[.int .u64 a, .int .u64 b] w fun e w' => e = .returned (.bool true) ∧ Below w.heap.size w w' := by
  have wa := word_of_wf ha
  have wb := word_of_wf hb
  have W := hide (awakeG_any A)
  have K := hide (fun w => refkind_any a wa w)
  have A1 := hide (fun w => A.add g0 a g0W wa chk0 w)
  rw [addG_g0 wa] at A1
  have k := kind_nan a
  cases e : nanI a
  · rw [e] at k
    rw [oneG_num e] at A1
    have A2 := hide (fun w => A.add ⟨1, 0, a, a⟩ b ⟨w1, w0, wa, wa⟩ wb (oneG_num e ▸ oneG_chk a) w)
    have A3 := hide (fun w => A.add g0 b g0W wb chk0 w)
    have A4 := hide (fun w => A.add (oneG b) a (oneG_word wb) wa (oneG_chk b) w)
    rw [addG_g0 wb] at A3
    have t : addG (oneG b) a = addG ⟨1, 0, a, a⟩ b := by
      rw [← addG_g0 wb, addG_turn g0W wb wa chk0, addG_g0 wa, oneG_num e]
    rw [t] at A4
    generalize addG ⟨1, 0, a, a⟩ b = r at A2 A4
    generalize oneG b = o at A3 A4
    clear t e wa wb ha hb A
    dsimp only [g0] at A1 A2 A3
    go_enter Try.func8, Try.ntmps8
    go_wp2_with fail
    refine (A1.out _).mono ?_
    rintro e v1 ⟨rfl, b1⟩
    have S1 := hide (keep01 ⟨1, 0, a, a⟩ 24 b1 b1.size)
    clear b1 A1
    go_wp2_with fail
    refine (K.out _).mono ?_
    rintro e v2 ⟨rfl, rfl⟩
    go_upto_region 4 with fail
    generalize v1.heap.size = g at S1 ⊢
    generalize v1.alloc (.cells #[.int .u64 1, .int .u64 0, .int .u64 a, .int .u64 a] 24) = v at S1 ⊢
    obtain ⟨⟨p0, p1, p2, p3⟩, hh⟩ := S1.out
    go_wp2_with fail
    refine (A2.out _).mono ?_
    rintro e v3 ⟨rfl, b3⟩
    have b4 := hide (hh.out.2.2.trans (b3.mono hh.out.2.1))
    have b5 := hide (Nat.le_trans hh.out.2.1 b3.size)
    clear S1 p0 p1 p2 p3 hh b3
    go_wp2_with fail
    refine (A3.out _).mono ?_
    rintro e v5 ⟨rfl, b6⟩
    go_wp2_with fail
    refine (A4.out _).mono ?_
    rintro e v6 ⟨rfl, b7⟩
    have b8 := hide (b4.out.trans ((b6.trans (b7.mono b6.size)).mono b5.out))
    have b9 := hide (Nat.le_trans b5.out (Nat.le_trans b6.size b7.size))
    clear b4 b5 b6 b7
    go_wp2_with fail
    refine (W.out _).mono ?_
    rintro e v7 ⟨rfl, b10⟩
    go_wp2
    go_ret
    exact ⟨rfl, b8.out.trans (b10.mono b9.out)⟩
  · rw [e] at k
    rw [oneG_nan e] at A1
    dsimp only [g0] at A1
    go_enter Try.func8, Try.ntmps8
    go_wp2_with fail
    refine (A1.out _).mono ?_
    rintro e v1 ⟨rfl, b1⟩
    have S1 := hide (keep01 ⟨0, 1, 0, 0⟩ 24 b1 b1.size)
    clear b1 A1
    go_wp2_with fail
    refine (K.out _).mono ?_
    rintro e v2 ⟨rfl, rfl⟩
    go_wp2_with fail
    refine (W.out _).mono ?_
    rintro e v7 ⟨rfl, b10⟩
    have S2 := hide (keep1 (a := ⟨0, 1, 0, 0⟩) b10 S1.out)
    go_wp2
    go_ret
    exact ⟨rfl, S2.out.2.out.2.2⟩
end Go.Proofs.Ytnhjjdgdffjdcaa
