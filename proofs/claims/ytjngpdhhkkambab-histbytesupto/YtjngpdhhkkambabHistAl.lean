/-
  Buckets as bytes, by the program: both forms, and Put: contracts, for every world.
  Conditions: the slices show their buckets; no more of them than a million.
-/
import Derived.Test.YtjngpdhhkkambabHistAk
import Derived.Test.YtjngpdhhkkambabCatK
namespace Go.Proofs.Ytjngpdhhkkambab
open Go.RowKit

theorem sparB_snoc (last : Int) (l : Bks) (k c : Int) : sparB last (l ++ [(k, c)]) = sparB last l ++ (putS (k - lastD last l - 1) ++ putS c) := by
  induction l generalizing last with
  | nil => simp [sparB, lastD]
  | cons x t ih =>
    obtain ⟨j, d⟩ := x
    rw [List.cons_append, sparB, sparB, ih, lastD]
    simp
theorem wrap_word (x : Int) : W64 (IntKind.u64.wrap x) := by
  rw [IntKind.wrap_u64]
  exact ⟨by omega, by omega⟩

theorem gap_wrap {x L : Int} (h0 : -1 ≤ L) (h1 : L < x) (h2 : x ≤ 7423) : IntKind.u64.wrap (wrap64 (wrap64 (x - L) - 1)) = x - L - 1 := by
  rw [IntWalk.wrap64_in (x - L) ⟨by omega, by omega⟩, IntWalk.wrap64_in (x - L - 1) ⟨by omega, by omega⟩, IntKind.wrap_u64]
  omega

set_option maxHeartbeats 4000000 in
theorem hsparse_any (a : Option Addr) (n cap : Nat) (l : Bks) (w : World) (hr : RowB w a n l) (hn : n ≤ 1100000) :
    Calls Try.prog 31 #[.slice a n cap] w fun e w' => ∃ a' m c' Z, e = .returned (.slice a' m c') ∧ Mine w' w.heap.size a' m c' Z ∧ Below w.heap.size w w' ∧ 1 ≤ m ∧ m ≤ 11 + 20 * n ∧ Bytes8 Z ∧ (checkS l = true → Z = sparseS l) := by
  have HR := hide hr
  have HL := hide hr.1
  have NU := hide (fun v hv base a n cap zs w h1 h2 h3 => hnumber_any v base a n cap zs w hv h1 h2 h3)
  have LI := hide (lit_own w 0)
  clear hr
  obtain ⟨l0, l1⟩ := putS_len (n : Int)
  have hW : W64 (n : Int) := w64_len (by omega)
  have N1 := hide (hnumber_any (n : Int) w.heap.size (some ⟨w.heap.size, 0, none⟩) 1 1 [0] _ hW (by omega) (by simp) LI.out)
  have BA : Hid (Below w.heap.size w (w.alloc (.cells #[.int .u8 0] 5))) := bel_al (Below.refl _ _) (Nat.le_refl _) _
  have HPB : Hid (Bytes8 ([0] ++ putS (n : Int))) := Bytes8.append (xs := [0]) (fun z hz => by simp at hz; subst hz; decide) (putS_byte hW)
  have HP0 : Hid (checkF (-1) (l.take 0) = true → [0] ++ putS (n : Int) = 0 :: (putS (n : Int) ++ sparB (-1) (l.take 0))) := fun _ => by simp [sparB]
  generalize hPN : putS (n : Int) = PN at *
  have HPN := hide hPN
  clear hPN
  go_enter Try.func31, Try.ntmps31
  go_wp2_with fail
  refine N1.out.mono ?_
  rintro e w1 ⟨a1, c1, rfl, o1, b1, -⟩
  have O1 := hide o1
  have B1 : Hid (Below w.heap.size w w1) := BA.out.trans b1
  clear o1 b1 N1 LI BA
  go_wp2
  go_loopw [3, 4, 14] (fun o p i wr => ∃ (ao : Option Addr) (no co j : Nat) (Z : List Int), j ≤ n ∧ o = .slice ao no co ∧ p = .int .i64 (lastD (-1) (l.take j)) ∧ i = .int .i64 j ∧ 1 ≤ no ∧ no ≤ 11 + 20 * j ∧ Hid (Mine wr w.heap.size ao no co Z) ∧ Hid (Below w.heap.size w wr) ∧ Hid (Bytes8 Z ∧ (checkF (-1) (l.take j) = true → Z = 0 :: (PN ++ sparB (-1) (l.take j))))) (fun _ _ i _ => n - (intOf i).toNat)
  case atStart => exact ⟨a1, 1 + PN.length, c1, 0, [0] ++ PN, by omega, rfl, rfl, rfl, by omega, by omega, O1, B1, HPB.out, HP0.out⟩
  case round =>
    obtain ⟨ao, no, co, j, Z, hj, rfl, rfl, rfl, m0, m1, HO, HW, HZ⟩ := hrel
    by_cases hlt : j < n
    · obtain ⟨b, off, rfl, hcc⟩ := HR.out.at' hlt
      obtain ⟨f0, f1⟩ := hcc wr HW.out
      have HFit := hide (getD_fit HR.out.2.2.1 j)
      have HTK := hide (take_bks (l := l) (k := j) (by rw [HL.out]; exact hlt))
      have i1 : (0 : Int) ≤ (j : Int) := by omega
      have i2 : (j : Int) < (n : Int) := by omega
      clear hcc
      generalize l.getD j (0, 0) = x at *
      obtain ⟨x, y⟩ := x
      simp only at f0 f1 HFit
      have HY := hide (u64_of_wf HFit.out.2)
      have HX := hide (i64_of_wf HFit.out.1)
      have HT1 : Hid (checkF (-1) (l.take (j + 1)) = true → checkF (-1) (l.take j) = true ∧ -1 ≤ lastD (-1) (l.take j) ∧ lastD (-1) (l.take j) < x ∧ x ≤ 7423) := by
        intro h
        rw [HTK.out, checkF_snoc, Bool.and_eq_true, decide_eq_true_eq] at h
        exact ⟨h.1, (checkF_lastD h.1).1, h.2.1, h.2.2.1⟩
      have HSN : Hid (sparB (-1) (l.take (j + 1)) = sparB (-1) (l.take j) ++ (putS (x - lastD (-1) (l.take j) - 1) ++ putS y)) := by
        show _ = _
        rw [HTK.out, sparB_snoc]
      have HLA : Hid (lastD (-1) (l.take (j + 1)) = x) := by show _ = _; rw [HTK.out, lastD_snoc]
      clear HFit HTK
      generalize lastD (-1) (l.take j) = L at *
      obtain ⟨U, HU⟩ : ∃ U, Hid (IntKind.u64.wrap (wrap64 (wrap64 (x - L) - 1)) = U) := ⟨_, rfl⟩
      have HUW : Hid (W64 U) := by rw [← HU.out]; exact wrap_word _
      obtain ⟨u0, u1⟩ := putS_len U
      obtain ⟨y0, y1⟩ := putS_len y
      have N1 := hide (NU.out U HUW.out w.heap.size ao no co Z (wr.alloc (.cells #[.int .i64 x, .int .u64 y] 54)) (by omega) (by have := HW.out.size; simp; omega) (HO.out.alloc _))
      have HUB : Hid (Bytes8 (putS U)) := putS_byte HUW.out
      have HYB : Hid (Bytes8 (putS y)) := putS_byte HY.out
      have HUE : Hid (-1 ≤ L ∧ L < x ∧ x ≤ 7423 → putS U = putS (x - L - 1)) := by
        intro h
        rw [← HU.out, gap_wrap h.1 h.2.1 h.2.2]
      generalize hPU : putS U = PU at *
      generalize hPY : putS y = PY at *
      have HPY := hide hPY
      clear hPU hPY
      go_wp2_with fail
      rw [HU.out]
      refine N1.out.mono ?_
      rintro e w2 ⟨a2, c2, rfl, o2, b2, k2⟩
      have O2 := hide o2
      have B2 : Hid (Below w.heap.size w w2) := (bel_al HW.out (Nat.le_refl _) _).trans b2
      have hbx : w2.heap[wr.heap.size]? = some (.cells #[.int .i64 x, .int .u64 y] 54 (0, 0)) := Ch8.kept k2 (World.alloc_heap_new wr _) (by decide)
      have HBX := hide hbx
      have g0 : w2.cell? ⟨wr.heap.size, 0, none⟩ = some (.int .i64 x) := by rw [cell_of_row w2 _ 0 _ _ _ hbx]; rfl
      have g1 : w2.cell? ⟨wr.heap.size, 1, none⟩ = some (.int .u64 y) := by rw [cell_of_row w2 _ 1 _ _ _ hbx]; rfl
      clear o2 b2 k2 N1 HO f0 f1 hbx
      have N2 := hide (NU.out y HY.out w.heap.size a2 (no + PU.length) c2 (Z ++ PU) w2 (by omega) B2.out.size O2.out)
      rw [HPY.out] at N2
      obtain ⟨pb, HPE⟩ : ∃ p, Hid (wr.heap.size = p) := ⟨_, rfl⟩
      rw [HPE.out] at g0 g1 HBX ⊢
      go_wp2_with fail
      refine N2.out.mono ?_
      rintro e w3 ⟨a3, c3, rfl, o3, b3, k3⟩
      have O3 := hide o3
      have B3 : Hid (Below w.heap.size w w3) := B2.out.trans b3
      have hbx : w3.heap[pb]? = some (.cells #[.int .i64 x, .int .u64 y] 54 (0, 0)) := Ch8.kept k3 HBX.out (by decide)
      have g2 : w3.cell? ⟨pb, 0, none⟩ = some (.int .i64 x) := by rw [cell_of_row w3 _ 0 _ _ _ hbx]; rfl
      have HN : Hid (Bytes8 (Z ++ PU ++ PY) ∧ (checkF (-1) (l.take (j + 1)) = true → Z ++ PU ++ PY = 0 :: (PN ++ sparB (-1) (l.take (j + 1))))) := by
        refine ⟨(HZ.out.1.append HUB.out).append HYB.out, fun h => ?_⟩
        obtain ⟨t1, t2⟩ := HT1.out h
        rw [HSN.out, HUE.out t2, HZ.out.2 t1]
        simp
      clear o3 b3 k3 N2 O2 B2 hbx HBX g0 g1 HZ HUE HT1 HSN HPE HU HW
      go_wp2
      go_roundw
      case rel => exact ⟨a3, no + PU.length + PY.length, c3, j + 1, _, by omega, rfl, by rw [HLA.out], by go_num, by omega, by omega, O3, B3, HN⟩
      case measure => simp [intOf]; omega
    · have : j = n := by omega
      subst this
      have hfin : l.take j = l := List.take_of_length_le (by rw [HL.out]; omega)
      rw [hfin] at HZ
      have HF : Hid (checkS l = true → Z = 0 :: (PN ++ sparB (-1) l)) := HZ.out.2
      have HZB := hide HZ.out.1
      clear hfin HZ
      go_wp2
      go_ret
      refine ⟨ao, no, co, Z, rfl, HO, HW, m0, by omega, HZB.out, fun h => ?_⟩
      rw [HF.out h]
      unfold sparseS
      rw [HL.out, ← HPN.out]

set_option maxRecDepth 20000 in
set_option maxHeartbeats 8000000 in
theorem hdense_any (a : Option Addr) (n cap : Nat) (l : Bks) (w : World) (hr : RowB w a n l) (hg : Good l) (hn : 1 ≤ n) :
    Calls Try.prog 30 #[.slice a n cap] w fun e w' => ∃ a' m c', e = .returned (.slice a' m c') ∧ Mine w' w.heap.size a' m c' (denseS l) ∧ Below w.heap.size w w' ∧ 1 ≤ m := by
  have HR := hide hr
  have HL := hide hr.1
  have hnb := hr.2.1
  have hne : l ≠ [] := by intro h; have := hr.1; rw [h] at this; simp at this; omega
  have hn7 : n ≤ 7424 := by rw [← hr.1]; exact good_len hg
  obtain ⟨s1, s2, s3, s4, s5, s6, s7⟩ := span_facts hg hne
  have hsp : spanI l = (spanS l : Int) := by unfold spanI; omega
  have NU := hide (fun v hv base a n cap zs w h1 h2 h3 => hnumber_any v base a n cap zs w hv h1 h2 h3)
  have SP := hide (fun W (b : Below w.heap.size w W) => hspan_any a n cap l W (HR.out.below b (Nat.le_refl _)) hn (good_range hg))
  rw [hsp] at SP
  have LI := hide (lit_own w 1)
  have BA : Hid (Below w.heap.size w (w.alloc (.cells #[.int .u8 1] 5))) := bel_al (Below.refl _ _) (Nat.le_refl _) _
  have wf := w64_small (x := fromS l) (by omega) (by omega)
  have ws := w64_small (x := (spanS l : Int)) (by omega) (by omega)
  have hfs : fromS l + spanS l ≤ 7424 := by omega
  have hsn : spanS l ≤ 7424 := by omega
  obtain ⟨bb, off, rfl, hcc⟩ := hr.at' (j := 0) (by omega)
  rw [from_getD hr.1 hn] at hcc
  rw [Nat.zero_mul, Nat.add_zero] at hcc
  have HC0 : Hid (∀ W, Below w.heap.size w W → W.cell? ⟨bb, off, none⟩ = some (.int .i64 (fromS l))) := fun W hW => (hcc W hW).1
  have HWB := hide hg.words
  have HINV : Hid (checkF (fromS l - 1) (l.drop 0) = true ∧ lastD (fromS l - 1) (l.drop 0) = fromS l + spanS l - 1) := ⟨s6, by rw [List.drop_zero, s7]; omega⟩
  have HM0 : Hid ([1] ++ putS (fromS l) ++ putS (spanS l : Int) ++ densB (fromS l) (spanS l) (l.drop 0) = denseS l) := by show _ = _; simp [denseS]
  have N1 := hide (hnumber_any (fromS l) w.heap.size (some ⟨w.heap.size, 0, none⟩) 1 1 [1] (w.alloc (.cells #[.int .u8 1] 5)) wf (by omega) (by simp) LI.out)
  have cW : IntKind.u64.wrap (fromS l) = fromS l := by rw [IntKind.wrap_u64]; omega
  have f0 := HC0.out _ BA.out
  clear hr hg hne hsp s2 s4 s5 s6 s7 hcc
  obtain ⟨q0, q1⟩ := putS_len (fromS l)
  obtain ⟨r0, r1⟩ := putS_len (spanS l : Int)
  generalize denseS l = M at *
  generalize hPF : putS (fromS l) = PF at *
  generalize hPS : putS (spanS l : Int) = PS at *
  have HPS := hide hPS
  clear hPF hPS
  generalize spanS l = sp at *
  generalize fromS l = F at *
  have i3 : (0 : Int) < (n : Int) := by omega
  go_enter Try.func30, Try.ntmps30
  go_wp2_with fail
  refine N1.out.mono ?_
  rintro e w1 ⟨a1, c1, rfl, o1, b1, -⟩
  have O1 := hide o1
  have B1 : Hid (Below w.heap.size w w1) := BA.out.trans b1
  have S1 := hide (SP.out w1 B1.out)
  clear o1 b1 N1 LI BA f0 SP
  go_wp2_with fail
  refine S1.out.mono ?_
  rintro e w2 ⟨rfl, q, rfl⟩
  have B2 := hide (bel_drewN B1.out q)
  have O2 : Hid (Mine (w1.drewN q) w.heap.size a1 (1 + PF.length) c1 ([1] ++ PF)) := O1.out
  clear S1 B1 O1
  generalize w1.drewN q = w2 at *
  have N2 := hide (NU.out (sp : Int) ws w.heap.size a1 (1 + PF.length) c1 ([1] ++ PF) w2 (by omega) B2.out.size O2.out)
  rw [HPS.out] at N2
  go_wp2_with fail
  refine N2.out.mono ?_
  rintro e w3 ⟨a3, c3, rfl, o3, b3, -⟩
  have O3 := hide o3
  have B3 : Hid (Below w.heap.size w w3) := B2.out.trans b3
  have f0 := HC0.out _ B3.out
  clear o3 b3 N2 O2 B2
  go_wp2
  clear f0
  go_loopw [3, 4, 25] (fun o t i wr => ∃ (ao : Option Addr) (no co j m : Nat) (at' : Int) (Z : List Int), j ≤ n ∧ o = .slice ao no co ∧ t = .int .i64 at' ∧ i = .int .i64 j ∧ 1 ≤ no ∧ no + 10 * m ≤ 21 + 10 * sp ∧ F ≤ at' ∧ at' + m = F + sp ∧ Hid (checkF (at' - 1) (l.drop j) = true ∧ lastD (at' - 1) (l.drop j) = F + sp - 1) ∧ Hid (Z ++ densB at' m (l.drop j) = M) ∧ Hid (Mine wr w.heap.size ao no co Z) ∧ Hid (Below w.heap.size w wr)) (fun _ _ i _ => n - (intOf i).toNat)
  case atStart => exact ⟨a3, 1 + PF.length + PS.length, c3, 0, sp, F, _, by omega, rfl, rfl, rfl, by omega, by omega, by omega, by omega, HINV, HM0, O3, B3⟩
  case round =>
    obtain ⟨ao, no, co, j, m, at', Z, hj, rfl, rfl, rfl, m0, m1, t0, t1, HI, HZ, HO, HW⟩ := hrel
    by_cases hlt : j < n
    · obtain ⟨b', off', hbo, hc1⟩ := HR.out.at' hlt
      simp only [Option.some.injEq, Addr.mk.injEq, and_true] at hbo
      obtain ⟨rfl, rfl⟩ := hbo
      obtain ⟨f0, f1⟩ := hc1 wr HW.out
      have HDR := hide (drop_bks (l := l) (k := j) (by rw [HL.out]; exact hlt))
      have hfit := getD_fit HR.out.2.2.1 j
      have i1 : (0 : Int) ≤ (j : Int) := by omega
      have i2 : (j : Int) < (n : Int) := by omega
      clear hc1
      generalize l.getD j (0, 0) = x at *
      obtain ⟨x, y⟩ := x
      simp only at f0 f1
      have HY := hide (u64_of_wf hfit.2)
      rw [HDR.out] at HI HZ
      obtain ⟨hi1, hi2⟩ := HI.out
      have h1 := checkF_cons.1 hi1
      rw [lastD] at hi2
      have h2 := (checkF_lastD h1.2.2.2).1
      have hx0 : at' ≤ x := by omega
      have hx1 : x < F + sp := by omega
      have HI2 : Hid (checkF (x + 1 - 1) (l.drop (j + 1)) = true ∧ lastD (x + 1 - 1) (l.drop (j + 1)) = F + sp - 1) := by rw [show x + 1 - 1 = x by omega]; exact ⟨h1.2.2.2, hi2⟩
      clear hi1 hi2 h1 h2 HI HDR hfit
      obtain ⟨pb, HPE⟩ : ∃ p, Hid (wr.heap.size = p) := ⟨_, rfl⟩
      have HBX : Hid ((wr.alloc (.cells #[.int .i64 x, .int .u64 y] 54)).heap[pb]? = some (.cells #[.int .i64 x, .int .u64 y] 54 (0, 0))) := by rw [← HPE.out]; exact World.alloc_heap_new wr _
      have BX : Hid (Below w.heap.size w (wr.alloc (.cells #[.int .i64 x, .int .u64 y] 54))) := bel_al HW.out (Nat.le_refl _) _
      have OX := hide (HO.out.alloc (.cells #[.int .i64 x, .int .u64 y] 54))
      obtain ⟨t, HTE⟩ : ∃ t, Hid (l.drop (j + 1) = t) := ⟨_, rfl⟩
      rw [HTE.out] at HI2 HZ
      go_wp2
      rw [HPE.out]
      generalize wr.alloc (.cells #[.int .i64 x, .int .u64 y] 54) = wb at *
      clear f0 f1 HO HW HPE
      go_loopw [3, 4] (fun o t' wi => ∃ (ai : Option Addr) (ni ci mi : Nat) (ti : Int) (Zi : List Int), o = .slice ai ni ci ∧ t' = .int .i64 ti ∧ 1 ≤ ni ∧ ni + 10 * mi ≤ 21 + 10 * sp ∧ F ≤ ti ∧ ti ≤ x ∧ ti + mi = F + sp ∧ Hid (Zi ++ densB ti mi ((x, y) :: t) = M) ∧ Hid (Mine wi w.heap.size ai ni ci Zi) ∧ Hid (Below w.heap.size w wi) ∧ Hid (wi.heap[pb]? = some (.cells #[.int .i64 x, .int .u64 y] 54 (0, 0)))) (fun _ t' _ => (x - intOf t').toNat)
      case atStart => exact ⟨ao, no, co, m, at', Z, rfl, rfl, m0, m1, t0, hx0, t1, HZ, OX, BX, HBX⟩
      case round =>
        obtain ⟨ai, ni, ci, mi, ti, Zi, rfl, rfl, n0, n1, u0, u1, u2, HZi, HOi, HWi, HXi⟩ := hrel
        have g0 : wr.cell? ⟨pb, 0, none⟩ = some (.int .i64 x) := by rw [cell_of_row wr _ 0 _ _ _ HXi.out]; rfl
        have g1 : wr.cell? ⟨pb, 1, none⟩ = some (.int .u64 y) := by rw [cell_of_row wr _ 1 _ _ _ HXi.out]; rfl
        obtain ⟨mm, rfl⟩ : ∃ mm, mi = mm + 1 := ⟨mi - 1, by omega⟩
        by_cases hti : ti < x
        · have NN := hide (NU.out 0 ⟨by decide, by decide⟩ w.heap.size ai ni ci Zi wr (by omega) HWi.out.size HOi.out)
          rw [putS_zero] at NN
          have HZn : Hid (Zi ++ [0] ++ densB (ti + 1) mm ((x, y) :: t) = M) := by
            have := HZi.out
            rw [densB_skip hti] at this
            show _ = _
            rw [← this]
            simp
          clear HZi
          go_wp2_with fail
          refine NN.out.mono ?_
          rintro e w5 ⟨a5, c5, rfl, o5, b5, k5⟩
          have O5 := hide o5
          have B5 : Hid (Below w.heap.size w w5) := HWi.out.trans b5
          have X5 := hide (Ch8.kept k5 HXi.out (by decide))
          clear o5 b5 k5 NN HOi HWi HXi g0 g1
          go_wp2
          go_roundw
          case rel => exact ⟨a5, ni + 1, c5, mm, ti + 1, _, rfl, by go_num, by omega, by omega, by omega, by omega, by omega, HZn, O5, B5, X5⟩
          case measure => simp [intOf]; omega
        · have hxe : ti = x := by omega
          have NN := hide (NU.out y HY.out w.heap.size ai ni ci Zi wr (by omega) HWi.out.size HOi.out)
          obtain ⟨v0, v1⟩ := putS_len y
          have HZn : Hid (Zi ++ putS y ++ densB (x + 1) mm t = M) := by
            have := HZi.out
            rw [hxe, densB_here] at this
            show _ = _
            rw [← this]
            simp
          clear HZi
          generalize putS y = PY at *
          go_wp2_with fail
          refine NN.out.mono ?_
          rintro e w5 ⟨a5, c5, rfl, o5, b5, k5⟩
          have O5 := hide o5
          have B5 : Hid (Below w.heap.size w w5) := HWi.out.trans b5
          clear o5 b5 k5 NN HOi HWi HXi g0 g1
          subst hxe
          go_wp2
          exact ⟨⟨a5, ni + PY.length, c5, j + 1, mm, ti + 1, _, by omega, rfl, by go_num, by go_num, by omega, by omega, by omega, by omega, by rw [HTE.out]; exact HI2, by rw [HTE.out]; exact HZn, O5, B5⟩, by simp [intOf]; omega⟩
    · have : j = n := by omega
      subst this
      have hnil : l.drop j = [] := List.drop_of_length_le (by rw [HL.out]; omega)
      rw [hnil] at HI HZ
      have hm0 : m = 0 := by have := HI.out.2; rw [lastD] at this; omega
      subst hm0
      have HF : Hid (Z = M) := by have := HZ.out; rw [densB, List.append_nil] at this; exact this
      rw [HF.out] at HO
      clear hnil HI HZ
      go_wp2
      go_ret
      exact ⟨ao, no, co, rfl, HO, HW, m0⟩

/-- Two rows of bytes, one behind the other, in new memory. -/
theorem concat_two (a : Option Addr) (n cap : Nat) (zs : List Int) (a1 : Option Addr) (m c1 : Nat) (Z : List Int) (W : World) (h1 : Row .u8 W a n zs) (h2 : Row .u8 W a1 m Z) (h0 : 0 < m) (hn : n + m ≤ 281474976710656) :
    Calls Try.prog 29 #[.slice (some ⟨W.heap.size, 0, none⟩) 2 2] (W.alloc (.cells #[.slice a n cap, .slice a1 m c1] 23)) fun e w' => ∃ a' cap', e = .returned (.slice a' (n + m) cap') ∧ Mine w' W.heap.size a' (n + m) cap' (zs ++ Z) ∧ Below W.heap.size W w' := by
  have hp : parts [(a, n, cap, zs), (a1, m, c1, Z)] 2 = zs ++ Z := by simp [parts]
  have hl : (zs ++ Z).length = n + m := by rw [List.length_append, h1.1, h2.1]
  have C := concat_any W.heap.size [(a, n, cap, zs), (a1, m, c1, Z)] (W.alloc (.cells #[.slice a n cap, .slice a1 m c1] 23)) (by simp)
    (by
      intro i hi
      rw [World.cell?_alloc_mark]
      match i, hi with
      | 0, _ => rfl
      | 1, _ => rfl)
    (by
      intro i hi
      match i, hi with
      | 0, _ => exact h1.alloc _
      | 1, _ => exact h2.alloc _)
    (by
      show 0 < (parts [(a, n, cap, zs), (a1, m, c1, Z)] 2).length
      rw [hp, hl]; omega)
    (by
      show (parts [(a, n, cap, zs), (a1, m, c1, Z)] 2).length ≤ _
      rw [hp, hl]; exact hn)
  refine C.mono ?_
  rintro e w' ⟨a', c', rfl, o, b⟩
  have o' : Mine w' (W.alloc (.cells #[.slice a n cap, .slice a1 m c1] 23)).heap.size a' (parts [(a, n, cap, zs), (a1, m, c1, Z)] 2).length c' (parts [(a, n, cap, zs), (a1, m, c1, Z)] 2) := o
  rw [hp, hl] at o'
  refine ⟨a', c', ?_, o'.mono (by simp), (bel_al (Below.refl _ _) (Nat.le_refl _) _).trans (b.mono (by simp))⟩
  show Ending.returned (.slice a' (parts [(a, n, cap, zs), (a1, m, c1, Z)] 2).length c') = _
  rw [hp, hl]

set_option maxHeartbeats 2000000 in
theorem hput_any (ab : Option Addr) (nb cb : Nat) (zb : List Int) (a : Option Addr) (n cap : Nat) (l : Bks) (w : World) (hb : Row .u8 w ab nb zb) (hr : RowB w a n l) (hc : n ≤ cap) (hn : n ≤ 1100000) (hnb : nb ≤ 140737488355328) :
    Calls Try.prog 9 #[.slice ab nb cb, .slice a n cap] w fun e w' => ∃ a' m c' Z, e = .returned (.slice a' (nb + m) c') ∧ Mine w' w.heap.size a' (nb + m) c' (zb ++ Z) ∧ Below w.heap.size w w' ∧ 1 ≤ m ∧ Z.length = m ∧ Bytes8 Z ∧ (checkS l = true → Z = putH l) := by
  have F := hide (hform_any a n cap l w hr hc)
  have HB := hide hb
  have HR := hide hr
  have HL := hide hr.1
  have HFit := hide (fit_words hr.2.2.1)
  clear hb hr
  by_cases hf : formS l = 1
  · have hck : checkS l = true := by
      unfold formS at hf
      split at hf
      · simp at hf
      · rename_i h
        simp only [not_or] at h
        simpa using h.2
    have hne : l ≠ [] := by
      intro h
      unfold formS at hf
      rw [if_pos (Or.inl h)] at hf
      simp at hf
    have hn1 : 1 ≤ n := by
      have := HL.out
      cases l with
      | nil => exact absurd rfl hne
      | cons _ _ => simp at this; omega
    have G := hide (show Good l from ⟨hck, HFit.out⟩)
    have HP : Hid (putH l = denseS l) := by
      rcases form_put G.out with ⟨_, _, h⟩ | ⟨h, _⟩
      · exact h
      · omega
    have HBy : Hid (Bytes8 (denseS l)) := by rw [← HP.out]; exact putH_byte G.out
    have HLen : Hid ((denseS l).length ≤ 100000) := by
      have := (putH_len G.out).1
      have h7 := good_len G.out
      rw [HP.out] at this
      show _ ≤ _
      omega
    rw [hf] at F
    clear hf hck hne
    go_enter Try.func9, Try.ntmps9
    go_wp2_with fail
    refine F.out.mono ?_
    rintro e w1 ⟨rfl, b1⟩
    have B1 := hide b1
    have D := hide (hdense_any a n cap l w1 (HR.out.below b1 (Nat.le_refl _)) G.out hn1)
    clear b1 F
    go_wp2_with fail
    refine D.out.mono ?_
    rintro e w2 ⟨a2, m, c2, rfl, o2, b2, m1⟩
    have B2 : Hid (Below w.heap.size w w2) := B1.out.trans (b2.mono B1.out.size)
    have hml : (denseS l).length = m := o2.len
    have hm2 : m ≤ 100000 := by rw [← hml]; exact HLen.out
    have R2 := hide (o2.row8 (by omega) HBy.out)
    have C := hide (concat_two ab nb cb zb a2 m c2 (denseS l) w2 (HB.out.below B2.out (Nat.le_refl _)) R2.out (by omega) (by omega))
    have HML := hide hml
    clear o2 b2 D B1 hml
    generalize denseS l = DS at *
    go_wp2_with fail
    refine C.out.mono ?_
    rintro e w3 ⟨a3, c3, rfl, o3, b3⟩
    have O3 := hide (o3.mono B2.out.size)
    have B3 : Hid (Below w.heap.size w w3) := B2.out.trans (b3.mono B2.out.size)
    clear o3 b3 C R2 B2
    go_wp2
    go_ret
    exact ⟨a3, m, c3, DS, rfl, O3, B3, m1, HML.out, HBy.out, fun _ => HP.out.symm⟩
  · have hf0 : formS l = 0 := by
      unfold formS at hf ⊢
      split
      · rfl
      · rename_i h
        rw [if_neg h] at hf
        split
        · rename_i h2
          rw [if_pos h2] at hf
          exact absurd rfl hf
        · rfl
    have HP : Hid (checkS l = true → putH l = sparseS l) := by
      intro hck
      rcases form_put (show Good l from ⟨hck, HFit.out⟩) with ⟨h, _⟩ | ⟨_, h⟩
      · omega
      · exact h
    rw [hf0] at F
    clear hf hf0
    go_enter Try.func9, Try.ntmps9
    go_wp2_with fail
    refine F.out.mono ?_
    rintro e w1 ⟨rfl, b1⟩
    have B1 := hide b1
    have D := hide (hsparse_any a n cap l w1 (HR.out.below b1 (Nat.le_refl _)) hn)
    clear b1 F
    go_wp2_with fail
    refine D.out.mono ?_
    rintro e w2 ⟨a2, m, c2, Z, rfl, o2, b2, m1, m2, hzb, hzs⟩
    have B2 : Hid (Below w.heap.size w w2) := B1.out.trans (b2.mono B1.out.size)
    have HZB := hide hzb
    have HZS := hide hzs
    have HML := hide o2.len
    have R2 := hide (o2.row8 (by omega) HZB.out)
    have C := hide (concat_two ab nb cb zb a2 m c2 Z w2 (HB.out.below B2.out (Nat.le_refl _)) R2.out (by omega) (by omega))
    clear o2 b2 D B1 hzb hzs
    go_wp2_with fail
    refine C.out.mono ?_
    rintro e w3 ⟨a3, c3, rfl, o3, b3⟩
    have O3 := hide (o3.mono B2.out.size)
    have B3 : Hid (Below w.heap.size w w3) := B2.out.trans (b3.mono B2.out.size)
    clear o3 b3 C R2 B2
    go_wp2
    go_ret
    exact ⟨a3, m, c3, Z, rfl, O3, B3, m1, HML.out, HZB.out, fun h => by rw [HP.out h]; exact HZS.out h⟩
end Go.Proofs.Ytjngpdhhkkambab
