/-
  Statement CalWindows over what is asked: a contract, for every world (written by gen/calwl.gen.py).
  Conditions: cal does what is asked.
-/
import Derived.Test.YtejflcfcbjadhaaDoorCalX
import Derived.Test.YtejflcfcbjadhaaDoorPlace
import Derived.WalkMore
import Derived.ChangeKeysEq
import Derived.Laws.StructEq
namespace Go.Proofs.YtejflcfcbjadhaaDoor
open Go.RowKit
set_option maxRecDepth 20000

theorem winC_fit (s t n : Int) : ∃ m : Nat, winC s t n = (m : Int) ∧ m ≤ 1099511627776 ∧ (m = 0 ∨ (0 ≤ s ∧ 1 ≤ t ∧ s + (m : Int) * t ≤ 1099511627776)) := by
  unfold winC
  split
  · exact ⟨0, rfl, by omega, Or.inl rfl⟩
  · split
    · exact ⟨0, rfl, by omega, Or.inl rfl⟩
    · rename_i h1 h2
      refine ⟨n.toNat, by omega, by omega, Or.inr ⟨by omega, by omega, ?_⟩⟩
      rw [show ((n.toNat : Nat) : Int) = n by omega]
      have a1 : n * t ≤ (1099511627776 - s) / t * t := Int.mul_le_mul_of_nonneg_right (by omega) (by omega)
      have a2 : (1099511627776 - s) / t * t ≤ 1099511627776 - s := Int.ediv_mul_le _ (by omega)
      omega
theorem winL_at {s t : Int} {k j : Nat} (h : j < k) : (winL s t k)[j]? = some (s + (j : Int) * t, s + (j : Int) * t + t) := by
  unfold winL
  rw [List.getElem?_map, List.getElem?_range h]
  rfl
theorem eqW (x y : Int) (w : World) : (Op.equalIn 10000 40 (.agg #[.int .i64 x, .int .i64 y]) (.agg #[.int .i64 x, .int .i64 y])).run Tryd.prog w = .ok true w := by
  obtain ⟨i, hi⟩ := Option.isSome_iff_exists.1 (show (Tryd.prog.info? 3).isSome = true by kernel_rfl)
  rw [run_equalIn_array w 9999 _ _ Tryd.underlying40 hi]
  have p0 : ∀ v, (part 3 #[.int .i64 x, .int .i64 y] (0 * Tryd.prog.cellsOf 3)).run Tryd.prog v = .ok (.int .i64 x) v := fun v => by kernel_rfl
  have p1 : ∀ v, (part 3 #[.int .i64 x, .int .i64 y] (1 * Tryd.prog.cellsOf 3)).run Tryd.prog v = .ok (.int .i64 y) v := fun v => by kernel_rfl
  have e : ∀ z v, (Op.equalIn 9999 3 (.int .i64 z) (.int .i64 z)).run Tryd.prog v = .ok true v := fun z v => by
    rw [run_equalIn_int v 9998 3 .i64 .i64 z z Tryd.underlying3]
    simp
  rw [show List.range 2 = [0, 1] from rfl]
  simp only [Op.eqItems, Sem.run_bind, p0, p1, e, Result.andThen_ok, Bool.not_true, Bool.false_eq_true, if_false, Sem.run_pure]
/-- Where a window lies. -/
theorem OwnW.at {w : World} {base n cap : Nat} {a : Option Addr} {l : List (Int × Int)} (h : OwnW w base a n cap l) {j : Nat} {x : Int × Int} (hj : l[j]? = some x) : ∃ g, a = some ⟨g, 0, none⟩ ∧ w.cell? ⟨g, j * 2, none⟩ = some (.int .i64 x.1) ∧ w.cell? ⟨g, j * 2 + 1, none⟩ = some (.int .i64 x.2) ∧ n ≤ cap := by
  have hl := h.1
  rw [flatW_len] at hl
  have hlt : j < l.length := (List.getElem?_eq_some_iff.1 hj).1
  unfold OwnW at h
  rcases id h.2 with ⟨h1, h2⟩ | ⟨g, c, cur, h1, _, _, h4, _⟩
  · omega
  · simp only [Value.slice.injEq, true_and] at h1
    obtain ⟨rfl, rfl⟩ := h1
    obtain ⟨g1, g2⟩ := flatW_at hj
    refine ⟨g, rfl, ?_, ?_, h4⟩
    · rw [h.cellAt (j * 2) (by omega)]; exact g1
    · rw [h.cellAt (j * 2 + 1) (by omega)]; exact g2

set_option maxHeartbeats 8000000 in
theorem windowsL_of (A : CaWin) (R : CaRes) (H : CaHor) (L : CaLev) (s t n most : Int) (w : World) (tb : TbW w) (hs : (Lit.int .i64 s).wf = true) (ht : (Lit.int .i64 t).wf = true) (hn : (Lit.int .i64 n).wf = true) :
    Calls Tryd.prog 8 #[.int .i64 s, .int .i64 t, .int .i64 n, .int .i64 most] w fun e w' => e = .returned (.bool true) ∧ Below w.heap.size w w' := by
  have T1 := hide (rwin_any s t n w)
  have T2 := hide (A.win s t n w hs ht hn)
  have TA := hide (fun u b => awakeC_of R H L u (tb.bel b))
  have TP := hide (fun u => place_any most 30 (by decide) (by decide) u)
  have hK : 0 ≤ most % 30 ∧ most % 30 < 30 := by omega
  obtain ⟨m, hm, hm1, hmb⟩ := winC_fit s t n
  rw [hm] at T1 T2
  rw [Int.toNat_natCast] at T2
  have HO : Hid (∀ k : Nat, k < m → ∃ P, (k : Int) * t = P ∧ IntKind.i64.wrap ((k : Int) * t) = P ∧ 0 ≤ P ∧ 0 ≤ s ∧ 1 ≤ t ∧ s + P + t ≤ 1099511627776) := fun k hk => by
    have h1 := hmb.resolve_left (by omega)
    have h2 : ((k : Int) + 1) * t ≤ (m : Int) * t := Int.mul_le_mul_of_nonneg_right (by omega) (by omega)
    have h3 : 0 ≤ (k : Int) * t := Int.mul_nonneg (by omega) (by omega)
    rw [Int.add_mul, Int.one_mul] at h2
    refine ⟨_, rfl, ?_, h3, h1.1, h1.2.1, by omega⟩
    rw [IntKind.wrap_i64]
    omega
  have nq := eqW
  generalize most % 30 = K0 at *
  clear A R H L hs ht hn hm hmb tb
  go_enter Tryd.func8, Tryd.ntmps8
  go_wp2_with fail
  with_reducible refine T1.out.mono ?_
  rintro e u ⟨rfl, hu⟩
  rw [hu]
  clear hu T1
  go_wp2_with fail
  with_reducible refine T2.out.mono ?_
  rintro e u1 ⟨F, rfl, hT, p1⟩
  have HT := hide hT
  have B1 := hide p1
  clear hT p1 T2
  go_wp2
  go_loopw [11] (fun i wr => ∃ r : Nat, r ≤ 2 ∧ i = .int .i64 r ∧ Hid (Below u1.heap.size u1 wr)) (fun i _ => 2 - (intOf i).toNat)
  case atStart => exact ⟨0, by omega, rfl, Below.refl _ _⟩
  case round =>
    obtain ⟨r, hr, rfl, HB⟩ := hrel
    obtain ⟨v, rfl⟩ : ∃ v, v = wr := ⟨wr, rfl⟩
    have hrr : r = 0 ∨ r = 1 ∨ r = 2 := by omega
    rcases hrr with rfl | rfl | rfl
    · by_cases hc : 1 + K0 ≤ (m : Int)
      · obtain ⟨q, hq⟩ : ∃ q : Nat, K0 = (q : Int) := ⟨K0.toNat, by omega⟩
        subst hq
        have hmin : min (1 + (q : Int)) (m : Int) = 1 + (q : Int) := by omega
        have TW := hide (HT.out v HB.out (1 + (q : Int)) (by omega) (by omega))
        have hN : Hid ((winL s t m).take (1 + (q : Int) : Int).toNat = winL s t (q + 1)) := by
          show _ = _
          rw [winL_take]
          congr 1
          omega
        rw [hN.out, winL_len] at TW
        clear hN
        go_wp2_with fail
        with_reducible refine (TP.out _).mono ?_
        rintro e u ⟨rfl, hu⟩
        rw [hu]
        clear hu
        go_wp2_with fail
        with_reducible refine TW.out.mono ?_
        rintro e v2 ⟨a, N, c, rfl, hN, hO, p2⟩
        subst N
        have HOW := hide hO
        have Q2 := hide (bel_to HB.out (Nat.le_refl _) p2)
        clear hO p2 TW
        go_wp2
        go_loopw [14] (fun i w2 => ∃ j : Nat, j ≤ (q + 1) ∧ i = .int .i64 j ∧ w2 = v2) (fun i _ => (q + 1) - (intOf i).toNat)
        case atStart => exact ⟨0, by omega, rfl, rfl⟩
        case round =>
          obtain ⟨j, hj, rfl, rfl⟩ := hrel
          by_cases hlt : j < (q + 1)
          · obtain ⟨g, rfl, c0, c1, hc⟩ := HOW.out.at (winL_at hlt)
            obtain ⟨P, hP, hw, y0, y1, y2, y3⟩ := HO.out j (by omega)
            dsimp only at c0 c1
            rw [hP] at c0 c1
            clear hP
            go_wp2
            go_roundw
            case rel => exact ⟨j + 1, by omega, by go_num, by trivial⟩
            case measure => simp [intOf]; omega
          · have e9 : j = (q + 1) := by omega
            subst e9
            clear HOW
            go_wp2
            go_roundw
            case rel => exact ⟨1, by omega, by go_num, Q2⟩
            case measure => simp [intOf]
      · have hmin : min (1 + K0) (m : Int) = (m : Int) := by omega
        have TW := hide (HT.out v HB.out (1 + K0) (by omega) (by omega))
        have hN : Hid ((winL s t m).take (1 + K0 : Int).toNat = winL s t m) := by
          show _ = _
          rw [winL_take]
          congr 1
          omega
        rw [hN.out, winL_len] at TW
        clear hN
        go_wp2_with fail
        with_reducible refine (TP.out _).mono ?_
        rintro e u ⟨rfl, hu⟩
        rw [hu]
        clear hu
        go_wp2_with fail
        with_reducible refine TW.out.mono ?_
        rintro e v2 ⟨a, N, c, rfl, hN, hO, p2⟩
        subst N
        have HOW := hide hO
        have Q2 := hide (bel_to HB.out (Nat.le_refl _) p2)
        clear hO p2 TW
        go_wp2
        go_loopw [14] (fun i w2 => ∃ j : Nat, j ≤ m ∧ i = .int .i64 j ∧ w2 = v2) (fun i _ => m - (intOf i).toNat)
        case atStart => exact ⟨0, by omega, rfl, rfl⟩
        case round =>
          obtain ⟨j, hj, rfl, rfl⟩ := hrel
          by_cases hlt : j < m
          · obtain ⟨g, rfl, c0, c1, hc⟩ := HOW.out.at (winL_at hlt)
            obtain ⟨P, hP, hw, y0, y1, y2, y3⟩ := HO.out j (by omega)
            dsimp only at c0 c1
            rw [hP] at c0 c1
            clear hP
            go_wp2
            go_roundw
            case rel => exact ⟨j + 1, by omega, by go_num, by trivial⟩
            case measure => simp [intOf]; omega
          · have e9 : j = m := by omega
            subst e9
            clear HOW
            go_wp2
            go_roundw
            case rel => exact ⟨1, by omega, by go_num, Q2⟩
            case measure => simp [intOf]
    · by_cases hc : 200 ≤ (m : Int)
      · have hmin : min 200 (m : Int) = 200 := by omega
        have TW := hide (HT.out v HB.out (200) (by omega) (by omega))
        have hN : Hid ((winL s t m).take (200 : Int).toNat = winL s t 200) := by
          show _ = _
          rw [winL_take]
          congr 1
          omega
        rw [hN.out, winL_len] at TW
        clear hN
        go_wp2_with fail
        with_reducible refine (TP.out _).mono ?_
        rintro e u ⟨rfl, hu⟩
        rw [hu]
        clear hu
        go_wp2_with fail
        with_reducible refine TW.out.mono ?_
        rintro e v2 ⟨a, N, c, rfl, hN, hO, p2⟩
        subst N
        have HOW := hide hO
        have Q2 := hide (bel_to HB.out (Nat.le_refl _) p2)
        clear hO p2 TW
        go_wp2
        go_loopw [14] (fun i w2 => ∃ j : Nat, j ≤ 200 ∧ i = .int .i64 j ∧ w2 = v2) (fun i _ => 200 - (intOf i).toNat)
        case atStart => exact ⟨0, by omega, rfl, rfl⟩
        case round =>
          obtain ⟨j, hj, rfl, rfl⟩ := hrel
          by_cases hlt : j < 200
          · obtain ⟨g, rfl, c0, c1, hc⟩ := HOW.out.at (winL_at hlt)
            obtain ⟨P, hP, hw, y0, y1, y2, y3⟩ := HO.out j (by omega)
            dsimp only at c0 c1
            rw [hP] at c0 c1
            clear hP
            go_wp2
            go_roundw
            case rel => exact ⟨j + 1, by omega, by go_num, by trivial⟩
            case measure => simp [intOf]; omega
          · have e9 : j = 200 := by omega
            subst e9
            clear HOW
            go_wp2
            go_roundw
            case rel => exact ⟨2, by omega, by go_num, Q2⟩
            case measure => simp [intOf]
      · have hmin : min 200 (m : Int) = (m : Int) := by omega
        have TW := hide (HT.out v HB.out (200) (by omega) (by omega))
        have hN : Hid ((winL s t m).take (200 : Int).toNat = winL s t m) := by
          show _ = _
          rw [winL_take]
          congr 1
          omega
        rw [hN.out, winL_len] at TW
        clear hN
        go_wp2_with fail
        with_reducible refine (TP.out _).mono ?_
        rintro e u ⟨rfl, hu⟩
        rw [hu]
        clear hu
        go_wp2_with fail
        with_reducible refine TW.out.mono ?_
        rintro e v2 ⟨a, N, c, rfl, hN, hO, p2⟩
        subst N
        have HOW := hide hO
        have Q2 := hide (bel_to HB.out (Nat.le_refl _) p2)
        clear hO p2 TW
        go_wp2
        go_loopw [14] (fun i w2 => ∃ j : Nat, j ≤ m ∧ i = .int .i64 j ∧ w2 = v2) (fun i _ => m - (intOf i).toNat)
        case atStart => exact ⟨0, by omega, rfl, rfl⟩
        case round =>
          obtain ⟨j, hj, rfl, rfl⟩ := hrel
          by_cases hlt : j < m
          · obtain ⟨g, rfl, c0, c1, hc⟩ := HOW.out.at (winL_at hlt)
            obtain ⟨P, hP, hw, y0, y1, y2, y3⟩ := HO.out j (by omega)
            dsimp only at c0 c1
            rw [hP] at c0 c1
            clear hP
            go_wp2
            go_roundw
            case rel => exact ⟨j + 1, by omega, by go_num, by trivial⟩
            case measure => simp [intOf]; omega
          · have e9 : j = m := by omega
            subst e9
            clear HOW
            go_wp2
            go_roundw
            case rel => exact ⟨2, by omega, by go_num, Q2⟩
            case measure => simp [intOf]
    · go_wp2_with fail
      with_reducible refine (TA.out _ (bel_to B1.out (Nat.le_refl _) HB.out)).mono ?_
      rintro e v2 ⟨rfl, p2⟩
      have F2 := hide (bel_to (bel_to B1.out (Nat.le_refl _) HB.out) (Nat.le_refl _) p2)
      clear p2
      go_wp2
      go_ret
      exact ⟨rfl, F2.out⟩
end Go.Proofs.YtejflcfcbjadhaaDoor
