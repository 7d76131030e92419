/-
  The document's own answer of layer 7 (the laws' reference): the bytes of a list of buckets, in the dense form: a contract, for every world.
  Conditions: the slice shows its buckets, which may be.
-/
import Derived.Test.YtjngpdhhkkambabHistZ
import Derived.Test.YtjngpdhhkkambabHistR
namespace Go.Proofs.Ytjngpdhhkkambab
open Go.RowKit

set_option maxHeartbeats 1000000 in
theorem refdense_none (a : Option Addr) (cap : Nat) (w : World) :
    Calls Try.prog 39 #[.slice a 0 cap] w fun e w' => e = .returned (.slice none 0 0) ∧ w' = w := by
  go_enter Try.func39, Try.ntmps39
  go_wp2
  go_ret
  exact ⟨rfl, rfl⟩

set_option maxHeartbeats 8000000 in
theorem refdense_any (a : Option Addr) (n cap : Nat) (l : Bks) (w : World) (hr : RowB w a n l) (hck : checkS l = true) (hne : 1 ≤ n) :
    Calls Try.prog 39 #[.slice a n cap] w fun e w' => ∃ a' c', e = .returned (.slice a' (denseS l).length c') ∧ Mine w' w.heap.size a' (denseS l).length c' (denseS l) ∧ Below w.heap.size w w' := by
  obtain ⟨i0, hi0⟩ := info_parts Try.info5
  have HI := hide hi0
  clear hi0
  have hg : Good l := ⟨hck, fit_words hr.2.2.1⟩
  have hn : n ≤ 7424 := by rw [← hr.1]; exact good_len hg
  have hnl : l ≠ [] := by rintro rfl; have := hr.1; simp at this; omega
  have HC := hide (refcheck_any a n cap l w hr)
  rw [hck] at HC
  obtain ⟨s1, s2, s3, s4, s5, s6, s7⟩ := span_facts hg hnl
  have HR := hide hr
  have HL := hide hr.1
  have HG := hide hg
  obtain ⟨M, hM⟩ : ∃ M, denseS l = M := ⟨_, rfl⟩
  have HM := hide hM
  rw [hM]
  have HF0 : Hid ((l.getD 0 (0, 0)).1 = fromS l) := by
    cases l with
    | nil => exact absurd rfl hnl
    | cons x t => rfl
  have HLS : Hid ((l.getD (n - 1) (0, 0)).1 = lastD (-1) l) := by
    have h1 := take_bks (l := l) (k := n - 1) (by have := hr.1; omega)
    rw [List.take_of_length_le (by have := hr.1; omega)] at h1
    have h2 : lastD (-1) l = lastD (-1) (l.take (n - 1) ++ [l.getD (n - 1) (0, 0)]) := by rw [← h1]
    generalize l.getD (n - 1) (0, 0) = v at *
    obtain ⟨v1, v2⟩ := v
    rw [lastD_snoc] at h2
    exact h2.symm
  have hdd : Hid (checkF (fromS l - 1) l = true ∧ lastD (fromS l - 1) l = fromS l + spanS l - 1) := ⟨s6, by rw [s7]; omega⟩
  have HM0 : Hid ([1] ++ putS (fromS l) ++ putS (spanS l : Int) ++ densB (fromS l) (spanS l) l = M) := by show _ = _; rw [← HM.out]; simp [denseS]
  have wf := w64_small (x := fromS l) (by omega) (by omega)
  have ws := w64_small (x := (spanS l : Int)) (by omega) (by omega)
  have lF0 := (putS_len (fromS l)).1
  have lF1 := (putS_len (fromS l)).2
  have lS0 := (putS_len (spanS l : Int)).1
  have lS1 := (putS_len (spanS l : Int)).2
  have HPF : Hid (Bytes8 (putS (fromS l))) := putS_byte wf
  have HPS : Hid (Bytes8 (putS (spanS l : Int))) := putS_byte ws
  have PF := hide (fun w => refput_any (fromS l) w wf)
  have PS := hide (fun w => refput_any (spanS l : Int) w ws)
  have hlast := s5
  generalize lastD (-1) l = LA at *
  generalize fromS l = F at *
  generalize spanS l = N at *
  have HLAE : Hid (LA + 1 = F + N) := hlast
  have hla1 : LA ≤ 7423 := by omega
  have hla0 : F ≤ LA := by omega
  have hN : (N : Int) = LA - F + 1 := by omega
  have HNE := hide hN
  clear hr hg hM hnl s5 s6 s7 hlast hck hN
  generalize putS F = PFs at *
  generalize putS (N : Int) = PSs at *
  obtain ⟨LF, hLF⟩ : ∃ LF, PFs.length = LF := ⟨_, rfl⟩
  obtain ⟨LS, hLS⟩ : ∃ LS, PSs.length = LS := ⟨_, rfl⟩
  rw [hLF] at PF lF0 lF1
  rw [hLS] at PS lS0 lS1
  have HLF := hide hLF
  have HLSz := hide hLS
  clear hLF hLS wf ws
  obtain ⟨b0, off0, rfl, hg0⟩ := HR.out.at' (j := 0) (by omega)
  obtain ⟨b1, off1, e1, hg1⟩ := HR.out.at' (j := n - 1) (by omega)
  simp only [Option.some.injEq, Addr.mk.injEq, and_true] at e1
  obtain ⟨rfl, rfl⟩ := e1
  have HG0 : Hid (∀ W, Below w.heap.size w W → W.cell? ⟨b0, off0, none⟩ = some (.int .i64 F)) := fun W hW => by
    have := (hg0 W hW).1
    rw [HF0.out, Nat.zero_mul, Nat.add_zero] at this
    exact this
  have HG1 : Hid (∀ W, Below w.heap.size w W → W.cell? ⟨b0, off0 + (n - 1) * 2, none⟩ = some (.int .i64 LA)) := fun W hW => by
    have := (hg1 W hW).1
    rw [HLS.out] at this
    exact this
  clear hg0 hg1
  have t0 : ((n : Int) == 0) = false := by simp; omega
  go_enter Try.func39, Try.ntmps39
  go_wp2_with fail
  refine HC.out.mono ?_
  rintro e w1 ⟨rfl, q1, hq1⟩
  have K1 : Hid (Below w.heap.size w w1) := by rw [hq1]; exact bel_drewN (Below.refl _ _) _
  have g0 := HG0.out w1 K1.out
  have g1 := HG1.out w1 K1.out
  have T1 := hide (lit_mine w1 1)
  have TB1 : Hid (Below w.heap.size w (w1.alloc (.cells #[.int .u8 1] 5))) := bel_al K1.out (Nat.le_refl _) _
  clear hq1 HC t0
  obtain ⟨j1, rfl⟩ : ∃ j1, n = j1 + 1 := ⟨n - 1, by omega⟩
  rw [Nat.add_sub_cancel] at g1
  rw [HNE.out] at PS
  go_wp2_with fail
  refine (PF.out _).mono ?_
  rintro e w2 ⟨a2, c2, rfl, o2, k2⟩
  obtain ⟨g2, rfl⟩ := mine_some o2 lF0
  have R2 := hide (o2.row8 (by omega) HPF.out)
  have S2 : Hid (Src 5 .u8 w2 w.heap.size (some ⟨w1.heap.size, 0, none⟩) 1 1 [1]) := Or.inl ((T1.out.mono K1.out.size).below k2 (Nat.le_refl _))
  have K2 : Hid (Below w.heap.size w w2) := bel_to TB1.out (Nat.le_refl _) k2
  have HW2 : Hid (w.heap.size ≤ w2.heap.size) := K2.out.size
  clear o2 k2 PF T1 TB1 K1 g0 g1
  go_wp2_with (at_builtin; refine wpList_append_src _ rfl _ _ 23 rfl w.heap.size 5 i0 1 Try.underlying23 HI.out.1 HI.out.2.1 HI.out.2.2.1 HI.out.2.2.2 (some ⟨w1.heap.size, 0, none⟩) 1 1 [1] rfl S2.out ⟨g2, 0, none⟩ LF c2 PFs rfl lF0 R2.out (by omega) (by decide) HW2.out ?_)
  intro a3 c3 w3 o3 b3
  have O3 := hide o3
  have K3 : Hid (Below w.heap.size w w3) := K2.out.trans b3
  clear o3 b3 S2 R2 K2 HW2
  go_wp2_with fail
  refine (PS.out _).mono ?_
  rintro e w4 ⟨a4, c4, rfl, o4, k4⟩
  obtain ⟨g4, rfl⟩ := mine_some o4 lS0
  have R4 := hide (o4.row8 (by omega) HPS.out)
  have S4 : Hid (Src 5 .u8 w4 w.heap.size a3 (1 + LF) c3 ([1] ++ PFs)) := Or.inl (O3.out.below k4 (Nat.le_refl _))
  have K4 : Hid (Below w.heap.size w w4) := bel_to K3.out (Nat.le_refl _) k4
  have HW4 : Hid (w.heap.size ≤ w4.heap.size) := K4.out.size
  clear o4 k4 PS K3 O3
  go_wp2_with (at_builtin; refine wpList_append_src _ rfl _ _ 23 rfl w.heap.size 5 i0 1 Try.underlying23 HI.out.1 HI.out.2.1 HI.out.2.2.1 HI.out.2.2.2 a3 (1 + LF) c3 ([1] ++ PFs) rfl S4.out ⟨g4, 0, none⟩ LS c4 PSs rfl lS0 R4.out (by omega) (by decide) HW4.out ?_)
  intro a5 c5 w5 o5 b5
  have O5 := hide o5
  have K5 : Hid (Below w.heap.size w w5) := K4.out.trans b5
  clear o5 b5 S4 R4 K4 HW4
  go_wp2
  go_loopw [5, 6, 7] (fun x kk ii wr => ∃ (ab : Option Addr) (nb cb k i : Nat) (pre : List Int), x = .slice ab nb cb ∧ kk = .int .i64 k ∧ ii = .int .i64 i ∧ i ≤ N ∧ k ≤ i ∧ nb ≤ 1 + LF + LS + 10 * i ∧ Hid (pre.length = nb ∧ pre ++ densB (F + i) (N - i) (l.drop k) = M ∧ checkF (F + i - 1) (l.drop k) = true ∧ lastD (F + i - 1) (l.drop k) = F + N - 1) ∧ Hid (Mine wr w.heap.size ab nb cb pre) ∧ Hid (Below w.heap.size w wr)) (fun _ _ ii _ => N - (intOf ii).toNat)
  case atStart =>
    refine ⟨a5, 1 + LF + LS, c5, 0, 0, [1] ++ PFs ++ PSs, rfl, rfl, rfl, by omega, by omega, by omega, ⟨?_, ?_, ?_, ?_⟩, O5, K5⟩
    · rw [List.length_append, List.length_append, HLF.out, HLSz.out]; rfl
    · have e : F + ((0 : Nat) : Int) = F := by omega
      rw [e, Nat.sub_zero]; exact HM0.out
    · have e : F + ((0 : Nat) : Int) - 1 = F - 1 := by omega
      rw [e]; exact hdd.out.1
    · have e : F + ((0 : Nat) : Int) - 1 = F - 1 := by omega
      rw [e]; exact hdd.out.2
  case round =>
    obtain ⟨ab, nb, cb, k, i, pre, rfl, rfl, rfl, hi, hki, hnb, HP, HO, HB⟩ := hrel
    by_cases hlt : i < N
    · have hkn : k < j1 + 1 := by
        by_cases h : k < j1 + 1
        · exact h
        · have := HP.out.2.2.2
          rw [List.drop_of_length_le (by rw [HL.out]; omega), lastD] at this
          omega
      obtain ⟨b', off', e', hgc⟩ := HR.out.at' hkn
      simp only [Option.some.injEq, Addr.mk.injEq, and_true] at e'
      obtain ⟨rfl, rfl⟩ := e'
      have HGC := hide hgc
      have HDR := hide (drop_bks (l := l) (k := k) (by rw [HL.out]; exact hkn))
      have HYW := hide (u64_of_wf (getD_fit HR.out.2.2.1 k).2)
      obtain ⟨p1, p2, p3, p4⟩ := HP.out
      rw [HDR.out] at p2 p3 p4
      have HDX := HDR
      clear hgc HDR
      generalize l.getD k (0, 0) = v at *
      obtain ⟨x, y⟩ := v
      simp only at HGC HYW
      have c1 := checkF_cons.1 p3
      obtain ⟨x1, x2, x3, c4'⟩ := c1
      have HCT := hide c4'
      have HLD : Hid (lastD x (l.drop (k + 1)) = F + N - 1) := p4
      obtain ⟨m, hm⟩ : ∃ m, N - i = m + 1 := ⟨N - i - 1, by omega⟩
      rw [hm] at p2
      have HP2 := hide p2
      have HP1 := hide p1
      have HP3 := hide p3
      have HMI : Hid (N - (i + 1) = m) := by show _ = _; omega
      obtain ⟨g0, g1⟩ := HGC.out wr HB.out
      have i1 : (0 : Int) ≤ (k : Int) := by omega
      have i2 : (k : Int) < ((j1 + 1 : Nat) : Int) := by omega
      have i3 : (i : Int) < LA - F + 1 := by have := HNE.out; omega
      clear p1 p2 p3 p4 hm c4'
      by_cases hx : x = F + i
      · have t1 : (x == F + (i : Int)) = true := by simpa using hx
        obtain ⟨PYs, HYP⟩ : ∃ PYs, Hid (putS y = PYs) := ⟨_, rfl⟩
        obtain ⟨LY, HYL⟩ : ∃ LY, Hid (PYs.length = LY) := ⟨_, rfl⟩
        have lY0 : 1 ≤ LY := by rw [← HYL.out, ← HYP.out]; exact (putS_len y).1
        have lY1 : LY ≤ 10 := by rw [← HYL.out, ← HYP.out]; exact (putS_len y).2
        have HPY : Hid (Bytes8 PYs) := by rw [← HYP.out]; exact putS_byte HYW.out
        have PY := hide (refput_any y wr HYW.out)
        rw [HYP.out, HYL.out] at PY
        have HN : Hid ((pre ++ PYs).length = nb + LY ∧ (pre ++ PYs) ++ densB (F + ((i + 1 : Nat) : Int)) (N - (i + 1)) (l.drop (k + 1)) = M ∧ checkF (F + ((i + 1 : Nat) : Int) - 1) (l.drop (k + 1)) = true ∧ lastD (F + ((i + 1 : Nat) : Int) - 1) (l.drop (k + 1)) = F + N - 1) := by
          have e1 : F + ((i + 1 : Nat) : Int) = F + i + 1 := by omega
          have e2 : F + ((i + 1 : Nat) : Int) - 1 = x := by omega
          refine ⟨by rw [List.length_append, HP1.out, HYL.out], ?_, ?_, ?_⟩
          · have := HP2.out
            rw [hx, densB_here, HYP.out] at this
            rw [e1, HMI.out, ← this]; simp
          · rw [e2]; exact HCT.out
          · rw [e2]; exact HLD.out
        clear hx HP2 HP3 HP1 HCT HLD HMI
        go_wp2_with fail
        refine PY.out.mono ?_
        rintro e w6 ⟨a6, c6, rfl, o6, k6⟩
        obtain ⟨g6, rfl⟩ := mine_some o6 lY0
        have R6 := hide (o6.row8 (by omega) HPY.out)
        have S6 : Hid (Src 5 .u8 w6 w.heap.size ab nb cb pre) := Or.inl (HO.out.below k6 (Nat.le_refl _))
        have K6 : Hid (Below w.heap.size w w6) := bel_to HB.out (Nat.le_refl _) k6
        have HW6 : Hid (w.heap.size ≤ w6.heap.size) := K6.out.size
        clear o6 k6 HO HB PY g0 g1
        go_wp2_with (at_builtin; refine wpList_append_src _ rfl _ _ 23 rfl w.heap.size 5 i0 1 Try.underlying23 HI.out.1 HI.out.2.1 HI.out.2.2.1 HI.out.2.2.2 ab nb cb pre rfl S6.out ⟨g6, 0, none⟩ LY c6 PYs rfl lY0 R6.out (by omega) (by decide) HW6.out ?_)
        intro a7 c7 w7 o7 b7
        have O7 := hide o7
        have K7 : Hid (Below w.heap.size w w7) := K6.out.trans b7
        clear o7 b7 S6 R6 K6 HW6 HGC
        go_wp2
        go_roundw
        case rel => exact ⟨a7, nb + LY, c7, k + 1, i + 1, _, rfl, by go_num, by go_num, by omega, by omega, by omega, HN, O7, K7⟩
        case measure => simp [intOf]; omega
      · have t1 : (x == F + (i : Int)) = false := by simpa using hx
        have HN : Hid ((pre ++ [0]).length = nb + 1 ∧ (pre ++ [0]) ++ densB (F + ((i + 1 : Nat) : Int)) (N - (i + 1)) (l.drop k) = M ∧ checkF (F + ((i + 1 : Nat) : Int) - 1) (l.drop k) = true ∧ lastD (F + ((i + 1 : Nat) : Int) - 1) (l.drop k) = F + N - 1) := by
          have e1 : F + ((i + 1 : Nat) : Int) = F + i + 1 := by omega
          have hD : l.drop k = (x, y) :: l.drop (k + 1) := HDX.out
          refine ⟨by rw [List.length_append, HP1.out]; rfl, ?_, ?_, ?_⟩
          · have := HP2.out
            rw [densB_skip (by omega)] at this
            rw [hD, e1, HMI.out, ← this]; simp
          · rw [hD]; exact checkF_last HP3.out (by omega)
          · rw [hD, lastD]; exact HLD.out
        have T6 : Hid (Row .u8 (wr.alloc (.cells #[.int .u8 0] 5)) (some ⟨wr.heap.size, 0, none⟩) 1 [0]) := one_row wr 0 (by decide) _ _
        have S6 : Hid (Src 5 .u8 (wr.alloc (.cells #[.int .u8 0] 5)) w.heap.size ab nb cb pre) := Or.inl (HO.out.alloc _)
        have K6 : Hid (Below w.heap.size w (wr.alloc (.cells #[.int .u8 0] 5))) := bel_al HB.out (Nat.le_refl _) _
        have HW6 : Hid (w.heap.size ≤ (wr.alloc (.cells #[.int .u8 0] 5)).heap.size) := K6.out.size
        clear hx HP2 HP3 HP1 HCT HLD HMI HO HB
        go_wp2_with (at_builtin; refine wpList_append_src _ rfl _ _ 23 rfl w.heap.size 5 i0 1 Try.underlying23 HI.out.1 HI.out.2.1 HI.out.2.2.1 HI.out.2.2.2 ab nb cb pre rfl S6.out ⟨wr.heap.size, 0, none⟩ 1 1 [0] rfl (by decide) T6.out (by omega) (by decide) HW6.out ?_)
        intro a7 c7 w7 o7 b7
        have O7 := hide o7
        have K7 : Hid (Below w.heap.size w w7) := K6.out.trans b7
        clear o7 b7 S6 T6 K6 HW6 HGC g0 g1
        go_wp2
        go_roundw
        case rel => exact ⟨a7, nb + 1, c7, k, i + 1, _, rfl, rfl, by go_num, by omega, by omega, by omega, HN, O7, K7⟩
        case measure => simp [intOf]; omega
    · have : i = N := by omega
      subst this
      have HE : Hid (pre = M ∧ M.length = nb) := by
        have := HP.out.2.1
        rw [Nat.sub_self, densB, List.append_nil] at this
        exact ⟨this, by rw [← this]; exact HP.out.1⟩
      have na : ¬ ((i : Int) < LA - F + 1) := by have := HNE.out; omega
      rw [HE.out.1] at HO
      go_wp2
      go_ret
      rw [HE.out.2]
      exact ⟨ab, cb, rfl, HO, HB⟩
end Go.Proofs.Ytjngpdhhkkambab
