/-
  Statement VfsPlays: a contract, for every world; how a script's row is read.
  Conditions: the argument is told.
-/
import Derived.Test.YthlkmjaflomflaaGreatVfsPd
import Derived.Test.YthlkmjaflomflaaGreatVfsLa
namespace Go.Proofs.YthlkmjaflomflaaGreat
open Go.RowKit Go.Maps
set_option maxRecDepth 20000
set_option linter.unusedVariables false

/-- A row of a script, where it lies. -/
theorem RowOp.at' {w : World} {a : Option Addr} {n : Nat} {xs : List OpV} (h : RowOp w a n xs) {k : Nat} (hk : k < n) : ∃ (b off : Nat) (x : OpV), a = some ⟨b, off, none⟩ ∧ xs[k]? = some x ∧ OpW w x ∧ w.cell? ⟨b, off + k * 6, none⟩ = some (.int .i64 x.k) ∧ w.cell? ⟨b, off + k * 6 + 1, none⟩ = some (.int .i64 x.a) ∧ w.cell? ⟨b, off + k * 6 + 2, none⟩ = some (.int .i64 x.b) ∧ w.cell? ⟨b, off + k * 6 + 3, none⟩ = some (.int .i64 x.n) ∧ w.cell? ⟨b, off + k * 6 + 4, none⟩ = some (.slice x.d.1 x.d.2.1 x.d.2.2) ∧ w.cell? ⟨b, off + k * 6 + 5, none⟩ = some (.slice x.p.1 x.p.2.1 x.p.2.2) := by
  obtain ⟨b, off, e, hc⟩ := h.cells.resolve_left (by omega)
  have hx : xs[k]? = some (xs[k]'(by rw [h.len]; exact hk)) := List.getElem?_eq_getElem _
  refine ⟨b, off, _, e, hx, h.each _ (List.getElem_mem _), ?_, ?_, ?_, ?_, ?_, ?_⟩
  · have := hc k _ hx 0 _ rfl
    rwa [Nat.add_zero] at this
  · exact hc k _ hx 1 _ rfl
  · exact hc k _ hx 2 _ rfl
  · exact hc k _ hx 3 _ rfl
  · exact hc k _ hx 4 _ rfl
  · exact hc k _ hx 5 _ rfl
/-- Two file systems of nothing, side by side. -/
theorem two_start {w u0 u1 u2 : World} {g : Nat} (b0 : Below w.heap.size w u0) (m1 : MadeV LAt u0 u1 g fs0) (hw : u2 = u1.alloc (.cells #[.slice none 0 0, .slice none 0 0, .slice none 0 0, .int .i64 0, .bool false, .int .i64 0, .int .i64 0, .bool false] 32)) : TwoV w.heap.size w u2 g u1.heap.size fs0 fs0 :=
  two_made b0 b0.size m1 ((mkR_new u1 u2 hw).made good0)

set_option maxHeartbeats 8000000 in
theorem plays_walk (a : Option Addr) (n c : Nat) (xs : List OpV) (w : World) (h1 : IsOpsV w a n c xs) :
    Calls Tryz.prog 3 #[.slice a n c] w fun e w' => e = .returned (.bool true) ∧ Below w.heap.size w w' := by
  obtain ⟨-, -, -, hro⟩ := h1
  have RO := hide hro
  clear hro
  go_enter Tryz.func3, Tryz.ntmps3
  go_wp2_with fail
  with_reducible refine (awakeV_any _).mono ?_
  rintro e u0 ⟨rfl, b0⟩
  have B0 := hide b0
  clear b0
  go_wp2_with fail
  with_reducible refine (lnew_any _).mono ?_
  rintro e u1 ⟨g, rfl, hm⟩
  obtain ⟨u2, hu2⟩ : ∃ u2, Hid (u1.alloc (.cells #[.slice none 0 0, .slice none 0 0, .slice none 0 0, .int .i64 0, .bool false, .int .i64 0, .int .i64 0, .bool false] 32) = u2) := ⟨_, rfl⟩
  have T2 := hide (two_start B0.out hm hu2.out.symm)
  obtain ⟨h, hh⟩ : ∃ h, Hid (u1.heap.size = h) := ⟨_, rfl⟩
  rw [hh.out] at T2
  clear hm B0
  go_upto_region 5 with fail
  rw [hu2.out, hh.out]
  clear hu2 hh
  go_wp2
  go_loopw [3, 4, 5] (fun p q i wr => ∃ (k g h : Nat) (F : Fs), k ≤ n ∧ k ≤ 70 ∧ p = .pointer (some ⟨g, 0, none⟩) ∧ q = .pointer (some ⟨h, 0, none⟩) ∧ i = .int .i64 (k : Int) ∧ Hid (LimB (k * 502) F) ∧ Hid (TwoV w.heap.size w wr g h F F)) (fun _ _ i _ => 70 - (intOf i).toNat)
  case atStart => exact ⟨0, g, h, fs0, by omega, by omega, rfl, rfl, rfl, limB0, T2.out⟩
  case round =>
    clear T2
    obtain ⟨k, g, h, F, hk, hk7, rfl, rfl, rfl, HL, HT⟩ := hrel
    obtain ⟨v, rfl⟩ : ∃ v, v = wr := ⟨wr, rfl⟩
    by_cases hlt : k < n
    · by_cases hlt7 : k < 70
      · obtain ⟨b, off, x, rfl, hx, hw, c0, c1, c2, c3, c4, c5⟩ := (RO.out.below HT.out.bel (Nat.le_refl _)).at' hlt
        have HW : Hid (OpW w x) := RO.out.each x (List.mem_of_getElem? hx)
        have i1 : (0 : Int) ≤ (k : Int) := by omega
        have i2 : (k : Int) < (n : Int) := by omega
        have i3 : (k : Int) < 70 := by omega
        have d1 : decide ((k : Int) < (n : Int)) = true := decide_eq_true i2
        have d2 : decide ((k : Int) < 70) = true := decide_eq_true i3
        have d3 : decide (k < n) = true := decide_eq_true hlt
        have hdl := HW.out.data.row.1
        have wk : IntKind.i64.wrap ((k : Int) + 1) = ((k + 1 : Nat) : Int) := by rw [IntKind.wrap_i64]; omega
        clear hx hw
        by_cases hbg : 500 < x.d.2.1
        · have j1 : (500 : Int) < (x.d.2.1 : Int) := by omega
          have BE := hide HT.out.bel
          clear HL HT hdl
          go_wp2
          go_ret
          exact ⟨rfl, BE.out⟩
        · have j1 : ¬ (500 : Int) < (x.d.2.1 : Int) := by omega
          have DO := hide (do_any w v g h F F (k * 502) x HT.out HL.out HL.out (by omega) HW.out (by omega))
          have HL2 := hide (opF_lim HL.out (callV x) (by show x.data.length ≤ 500; omega))
          clear HL HT hdl
          go_wp2_with fail
          with_reducible refine DO.out.mono ?_
          rintro e v1 ⟨g1, h1, rfl, t1, -⟩
          rw [beq_self_eq_true] at *
          have T1 := hide t1
          have SM := hide (same_any w.heap.size w v1 g1 h1 (opF F (callV x)).1 (k * 502 + 502) t1 HL2.out (by omega))
          obtain ⟨X, hX⟩ : ∃ X, (opF F (callV x)).1 = X := ⟨_, rfl⟩
          rw [hX] at T1 HL2
          clear t1 DO hX c0 c1 c2 c3 c4 c5
          go_wp2_with fail
          with_reducible refine SM.out.mono ?_
          rintro e v2 ⟨rfl, b2⟩
          have T2 := hide (T1.out.below b2)
          have HL3 : Hid (LimB ((k + 1) * 502) X) := by
            have := HL2.out
            rwa [show k * 502 + 502 = (k + 1) * 502 by omega] at this
          clear b2 SM T1 HL2
          go_wp2
          go_roundw
          case rel => exact ⟨k + 1, g1, h1, X, by omega, by omega, by rfl, by rfl, by go_num, HL3, T2⟩
          case measure => simp [intOf]; omega
      · obtain rfl : k = 70 := by omega
        have i2 : ((70 : Nat) : Int) < (n : Int) := by omega
        have d1 : decide (((70 : Nat) : Int) < (n : Int)) = true := decide_eq_true i2
        have i4 : (70 : Int) < (n : Int) := by omega
        have d4 : decide ((70 : Int) < (n : Int)) = true := decide_eq_true i4
        have d3 : decide (70 < n) = true := decide_eq_true hlt
        have SM := hide (same_any w.heap.size w v g h F _ HT.out HL.out (by omega))
        have BE := hide HT.out.bel
        clear HL HT
        go_wp2_with fail
        with_reducible refine SM.out.mono ?_
        rintro e v2 ⟨rfl, b2⟩
        have BE2 := hide (bel_to BE.out (Nat.le_refl _) b2)
        clear b2 SM BE
        go_wp2
        go_ret
        exact ⟨rfl, BE2.out⟩
    · obtain rfl : k = n := by omega
      have i2 : ¬ (k : Int) < (k : Int) := by omega
      have d1 : decide ((k : Int) < (k : Int)) = false := decide_eq_false i2
      have d3 : decide (k < k) = false := decide_eq_false (by omega)
      have SM := hide (same_any w.heap.size w v g h F _ HT.out HL.out (by omega))
      have BE := hide HT.out.bel
      clear HL HT
      go_wp2_with fail
      with_reducible refine SM.out.mono ?_
      rintro e v2 ⟨rfl, b2⟩
      have BE2 := hide (bel_to BE.out (Nat.le_refl _) b2)
      clear b2 SM BE
      go_wp2
      go_ret
      exact ⟨rfl, BE2.out⟩
end Go.Proofs.YthlkmjaflomflaaGreat
