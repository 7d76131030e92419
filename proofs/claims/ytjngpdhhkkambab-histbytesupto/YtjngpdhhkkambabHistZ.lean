/-
  The document's own answer of layer 7 (the laws' reference): the bytes of a list of buckets, in the sparse form: a contract, for every world.
  Conditions: the slice shows its buckets, which may be.
-/
import Derived.Test.YtjngpdhhkkambabHistY
import Derived.Test.YtjngpdhhkkambabHistB
import Derived.Test.YtjngpdhhkkambabVintX
import Derived.Test.YtjngpdhhkkambabVintH
namespace Go.Proofs.Ytjngpdhhkkambab
open Go.RowKit

theorem mine_some {w : World} {base n cap : Nat} {a : Option Addr} {zs : List Int} (h : Mine w base a n cap zs) (hn : 1 ≤ n) : ∃ g, a = some ⟨g, 0, none⟩ := by
  unfold Mine Own at h
  rcases h.2 with ⟨_, h2⟩ | ⟨g, c, cur, h1, _⟩
  · omega
  · simp only [Value.slice.injEq, true_and] at h1
    exact ⟨g, h1.1⟩
theorem sparB_append (last : Int) (l m : Bks) : sparB last (l ++ m) = sparB last l ++ sparB (lastD last l) m := by
  induction l generalizing last with
  | nil => rfl
  | cons x t ih => obtain ⟨k, c⟩ := x; rw [List.cons_append, sparB, sparB, ih, lastD]; simp
/-- One byte in a row of its own. -/
theorem lit_mine (w : World) (z : Int) : Mine (w.alloc (.cells #[.int .u8 z] 5)) w.heap.size (some ⟨w.heap.size, 0, none⟩) 1 1 [z] :=
  World.ownsRow_lit (base := w.heap.size) w #[.int .u8 z] 1 (Nat.le_refl _) (by decide) rfl

set_option maxHeartbeats 8000000 in
theorem refsparse_any (a : Option Addr) (n cap : Nat) (l : Bks) (w : World) (hr : RowB w a n l) (hck : checkS l = true) :
    Calls Try.prog 38 #[.slice a n cap] w fun e w' => ∃ a' c', e = .returned (.slice a' (sparseS l).length c') ∧ Mine w' w.heap.size a' (sparseS l).length c' (sparseS l) ∧ Below w.heap.size w w' := by
  obtain ⟨i0, hi0⟩ := info_parts Try.info5
  have HI := hide hi0
  clear hi0
  have hg : Good l := ⟨hck, fit_words hr.2.2.1⟩
  have hn : n ≤ 7424 := by rw [← hr.1]; exact good_len hg
  have HR := hide hr
  have HL := hide hr.1
  have HG := hide hg
  obtain ⟨M, hM⟩ : ∃ M, sparseS l = M := ⟨_, rfl⟩
  have HM := hide hM
  rw [hM]
  have P0 := hide (refput_any (n : Int) (w.alloc (.cells #[.int .u8 0] 5)) (w64_small (by omega) (by omega)))
  have HL0 := (putS_len (n : Int)).1
  have HL0' := (putS_len (n : Int)).2
  have HPB : Hid (Bytes8 (putS (n : Int))) := putS_byte (w64_small (by omega) (by omega))
  have HM0 : Hid ([0] ++ putS (n : Int) ++ sparB (-1) l = M) := by show _ = _; rw [← HM.out, ← HL.out]; simp [sparseS]
  have HT := hide (lit_mine w 0)
  have HTB : Hid (Below w.heap.size w (w.alloc (.cells #[.int .u8 0] 5))) := bel_al (Below.refl _ _) (Nat.le_refl _) _
  clear hr hck hg hM
  generalize putS (n : Int) = Pn at *
  generalize hPl : Pn.length = Ln at *
  have HPL := hide hPl
  clear hPl
  go_enter Try.func38, Try.ntmps38
  go_wp2_with fail
  refine P0.out.mono ?_
  rintro e w1 ⟨a1, c1, rfl, o1, k1⟩
  obtain ⟨g1, rfl⟩ := mine_some o1 HL0
  have R1 := hide (o1.row8 (by omega) HPB.out)
  have S1 : Hid (Src 5 .u8 w1 w.heap.size (some ⟨w.heap.size, 0, none⟩) 1 1 [0]) := Or.inl (HT.out.below k1 (Nat.le_refl _))
  have K1 : Hid (Below w.heap.size w w1) := bel_to HTB.out (Nat.le_refl _) k1
  have HW1 : Hid (w.heap.size ≤ w1.heap.size) := K1.out.size
  clear o1 k1 P0 HT HTB
  go_wp2_with (at_builtin; refine wpList_append_src _ rfl _ _ 23 rfl w.heap.size 5 i0 1 Try.underlying23 HI.out.1 HI.out.2.1 HI.out.2.2.1 HI.out.2.2.2 (some ⟨w.heap.size, 0, none⟩) 1 1 [0] rfl S1.out ⟨g1, 0, none⟩ Ln c1 Pn rfl HL0 R1.out (by omega) (by decide) HW1.out ?_)
  intro a2 c2 w2 o2 b2
  have O2 := hide o2
  have K2 : Hid (Below w.heap.size w w2) := K1.out.trans b2
  clear o2 b2 S1 R1 K1 HW1
  go_wp2
  go_loopw [3, 4] (fun x i wr => ∃ (ab : Option Addr) (nb cb k : Nat) (pre : List Int), x = .slice ab nb cb ∧ i = .int .i64 k ∧ k ≤ n ∧ nb ≤ 1 + Ln + 20 * k ∧ Hid (pre.length = nb ∧ pre ++ sparB (lastD (-1) (l.take k)) (l.drop k) = M) ∧ Hid (Mine wr w.heap.size ab nb cb pre) ∧ Hid (Below w.heap.size w wr)) (fun _ i _ => n - (intOf i).toNat)
  case atStart => exact ⟨a2, 1 + Ln, c2, 0, [0] ++ Pn, rfl, rfl, by omega, by omega, ⟨by rw [List.length_append, HPL.out]; rfl, HM0.out⟩, O2, K2⟩
  case round =>
    obtain ⟨ab, nb, cb, k, pre, rfl, rfl, hk, hnb, HP, HO, HB⟩ := hrel
    by_cases hlt : k < n
    · obtain ⟨bb, off, rfl, hgc⟩ := HR.out.at' hlt
      have HGC := hide hgc
      have HRG := checkF_range (Int.le_refl _) HG.out.check (k := k) (by rw [HL.out]; exact hlt)
      have HY := hide (HG.out.words)
      have HDR := hide (drop_bks (l := l) (k := k) (by rw [HL.out]; exact hlt))
      have HTK := hide (take_bks (l := l) (k := k) (by rw [HL.out]; exact hlt))
      have HNX : Hid (∀ (x y : Int) (PDs PYs : List Int), l.getD k (0, 0) = (x, y) → putS (x - lastD (-1) (l.take k) - 1) = PDs → putS y = PYs → (pre ++ PDs ++ PYs).length = nb + PDs.length + PYs.length ∧ (pre ++ PDs ++ PYs) ++ sparB (lastD (-1) (l.take (k + 1))) (l.drop (k + 1)) = M) := by
        intro x y PDs PYs h1 h2 h3
        refine ⟨by rw [List.length_append, List.length_append, HP.out.1], ?_⟩
        have := HP.out.2
        rw [HDR.out, h1, sparB, h2, h3] at this
        rw [HTK.out, h1, lastD_snoc, ← this]
        simp
      have HLA := checkF_lastD (last := -1) (l := l.take k) (by
        have := HG.out.check
        unfold checkS at this
        rw [← List.take_append_drop k l, checkF_append, Bool.and_eq_true] at this
        exact this.1)
      have HLT : lastD (-1) (l.take k) < (l.getD k (0, 0)).1 := by
        have := HG.out.check
        unfold checkS at this
        rw [← List.take_append_drop k l, checkF_append, Bool.and_eq_true, HDR.out] at this
        generalize l.getD k (0, 0) = v at *
        obtain ⟨x, y⟩ := v
        exact (checkF_cons.1 this.2).1
      have HYW0 : W64 (l.getD k (0, 0)).2 := u64_of_wf (getD_fit HR.out.2.2.1 k).2
      have HPV : Hid (∀ j, k = j + 1 → ∀ W, Below w.heap.size w W → W.cell? ⟨bb, off + j * 2, none⟩ = some (.int .i64 (lastD (-1) (l.take k)))) := by
        rintro j rfl W hW
        obtain ⟨b', off', e', hc'⟩ := HR.out.at' (j := j) (by omega)
        simp only [Option.some.injEq, Addr.mk.injEq, and_true] at e'
        obtain ⟨rfl, rfl⟩ := e'
        have h1 := (hc' W hW).1
        have h2 := take_bks (l := l) (k := j) (by rw [HL.out]; omega)
        rw [h2]
        generalize l.getD j (0, 0) = v at *
        obtain ⟨v1, v2⟩ := v
        rw [lastD_snoc]; exact h1
      have HZ0 : Hid (k = 0 → lastD (-1) (l.take k) = -1) := by rintro rfl; rfl
      clear hgc HDR HTK HY
      generalize lastD (-1) (l.take k) = LA at *
      generalize l.getD k (0, 0) = v at *
      obtain ⟨x, y⟩ := v
      simp only at HRG HLT HYW0 HGC
      obtain ⟨x0, x1⟩ := HRG
      have la0 := HLA.1
      clear HLA
      have HYW := hide HYW0
      clear HYW0
      obtain ⟨PYs, HYP⟩ : ∃ PYs, Hid (putS y = PYs) := ⟨_, rfl⟩
      obtain ⟨LY, HYL⟩ : ∃ LY, Hid (PYs.length = LY) := ⟨_, rfl⟩
      have lY0 : 1 ≤ LY := by rw [← HYL.out, ← HYP.out]; exact (putS_len y).1
      have lY1 : LY ≤ 10 := by rw [← HYL.out, ← HYP.out]; exact (putS_len y).2
      have HPY : Hid (Bytes8 PYs) := by rw [← HYP.out]; exact putS_byte HYW.out
      obtain ⟨PDs, HDP⟩ : ∃ PDs, Hid (putS (x - LA - 1) = PDs) := ⟨_, rfl⟩
      obtain ⟨LD, HDL⟩ : ∃ LD, Hid (PDs.length = LD) := ⟨_, rfl⟩
      have hdw : W64 (x - LA - 1) := w64_small (by omega) (by omega)
      have lD0 : 1 ≤ LD := by rw [← HDL.out, ← HDP.out]; exact (putS_len _).1
      have lD1 : LD ≤ 10 := by rw [← HDL.out, ← HDP.out]; exact (putS_len _).2
      have HPD : Hid (Bytes8 PDs) := by rw [← HDP.out]; exact putS_byte hdw
      have PD := hide (refput_any (x - LA - 1) wr hdw)
      rw [HDP.out, HDL.out] at PD
      have HN : Hid ((pre ++ PDs ++ PYs).length = nb + LD + LY ∧ (pre ++ PDs ++ PYs) ++ sparB (lastD (-1) (l.take (k + 1))) (l.drop (k + 1)) = M) := by
        have := HNX.out x y PDs PYs rfl HDP.out HYP.out
        rw [HDL.out, HYL.out] at this
        exact this
      obtain ⟨g0, g1⟩ := HGC.out wr HB.out
      have i1 : (0 : Int) ≤ (k : Int) := by omega
      have i2 : (k : Int) < (n : Int) := by omega
      clear HNX hdw g1
      by_cases hk0 : k = 0
      · have e0 : LA = -1 := HZ0.out hk0
        subst e0
        subst hk0
        rw [show x - -1 - 1 = x by omega] at PD
        rw [Nat.zero_mul, Nat.add_zero] at g0
        clear HZ0 HPV
        go_wp2_with fail
        refine PD.out.mono ?_
        rintro e w3 ⟨a3, c3, rfl, o3, k3⟩
        obtain ⟨g3, rfl⟩ := mine_some o3 lD0
        have R3 := hide (o3.row8 (by omega) HPD.out)
        have S3 : Hid (Src 5 .u8 w3 w.heap.size ab nb cb pre) := Or.inl (HO.out.below k3 (Nat.le_refl _))
        have K3 : Hid (Below w.heap.size w w3) := bel_to HB.out (Nat.le_refl _) k3
        have HW3 : Hid (w.heap.size ≤ w3.heap.size) := K3.out.size
        clear o3 k3 HO HB PD
        go_wp2_with (at_builtin; refine wpList_append_src _ rfl _ _ 23 rfl w.heap.size 5 i0 1 Try.underlying23 HI.out.1 HI.out.2.1 HI.out.2.2.1 HI.out.2.2.2 ab nb cb pre rfl S3.out ⟨g3, 0, none⟩ LD c3 PDs rfl lD0 R3.out (by omega) (by decide) HW3.out ?_)
        intro a4 c4 w4 o4 b4
        have O4 := hide o4
        have K4 : Hid (Below w.heap.size w w4) := K3.out.trans b4
        obtain ⟨f0, f1⟩ := HGC.out w4 K4.out
        clear o4 b4 S3 R3 K3 HW3 g0
        have PY := hide (refput_any y w4 HYW.out)
        rw [HYP.out, HYL.out] at PY
        go_wp2_with fail
        refine PY.out.mono ?_
        rintro e w5 ⟨a5, c5, rfl, o5, k5⟩
        obtain ⟨g5, rfl⟩ := mine_some o5 lY0
        have R5 := hide (o5.row8 (by omega) HPY.out)
        have S5 : Hid (Src 5 .u8 w5 w.heap.size a4 (nb + LD) c4 (pre ++ PDs)) := Or.inl (O4.out.below k5 (Nat.le_refl _))
        have K5 : Hid (Below w.heap.size w w5) := bel_to K4.out (Nat.le_refl _) k5
        have HW5 : Hid (w.heap.size ≤ w5.heap.size) := K5.out.size
        clear o5 k5 O4 K4 PY f0 f1
        go_wp2_with (at_builtin; refine wpList_append_src _ rfl _ _ 23 rfl w.heap.size 5 i0 1 Try.underlying23 HI.out.1 HI.out.2.1 HI.out.2.2.1 HI.out.2.2.2 a4 (nb + LD) c4 (pre ++ PDs) rfl S5.out ⟨g5, 0, none⟩ LY c5 PYs rfl lY0 R5.out (by omega) (by decide) HW5.out ?_)
        intro a6 c6 w6 o6 b6
        have O6 : Hid (Mine w6 w.heap.size a6 (nb + LD + LY) c6 (pre ++ PDs ++ PYs)) := by rw [List.append_assoc]; exact o6
        have K6 : Hid (Below w.heap.size w w6) := K5.out.trans b6
        clear o6 b6 S5 R5 K5 HW5 HGC
        go_wp2
        go_roundw
        case rel => exact ⟨a6, nb + LD + LY, c6, 0 + 1, _, rfl, by go_num, by omega, by omega, HN, O6, K6⟩
        case measure => simp [intOf]; omega
      · obtain ⟨j, rfl⟩ : ∃ j, k = j + 1 := ⟨k - 1, by omega⟩
        have h0 := HPV.out j rfl wr HB.out
        have i3 : (0 : Int) ≤ (j : Int) := by omega
        have i4 : (j : Int) < (n : Int) := by omega
        have i5 : (0 : Int) < ((j + 1 : Nat) : Int) := by omega
        clear HZ0 HPV hk0
        go_wp2_with fail
        refine PD.out.mono ?_
        rintro e w3 ⟨a3, c3, rfl, o3, k3⟩
        obtain ⟨g3, rfl⟩ := mine_some o3 lD0
        have R3 := hide (o3.row8 (by omega) HPD.out)
        have S3 : Hid (Src 5 .u8 w3 w.heap.size ab nb cb pre) := Or.inl (HO.out.below k3 (Nat.le_refl _))
        have K3 : Hid (Below w.heap.size w w3) := bel_to HB.out (Nat.le_refl _) k3
        have HW3 : Hid (w.heap.size ≤ w3.heap.size) := K3.out.size
        clear o3 k3 HO HB PD
        go_wp2_with (at_builtin; refine wpList_append_src _ rfl _ _ 23 rfl w.heap.size 5 i0 1 Try.underlying23 HI.out.1 HI.out.2.1 HI.out.2.2.1 HI.out.2.2.2 ab nb cb pre rfl S3.out ⟨g3, 0, none⟩ LD c3 PDs rfl lD0 R3.out (by omega) (by decide) HW3.out ?_)
        intro a4 c4 w4 o4 b4
        have O4 := hide o4
        have K4 : Hid (Below w.heap.size w w4) := K3.out.trans b4
        obtain ⟨f0, f1⟩ := HGC.out w4 K4.out
        clear o4 b4 S3 R3 K3 HW3 g0 h0
        have PY := hide (refput_any y w4 HYW.out)
        rw [HYP.out, HYL.out] at PY
        go_wp2_with fail
        refine PY.out.mono ?_
        rintro e w5 ⟨a5, c5, rfl, o5, k5⟩
        obtain ⟨g5, rfl⟩ := mine_some o5 lY0
        have R5 := hide (o5.row8 (by omega) HPY.out)
        have S5 : Hid (Src 5 .u8 w5 w.heap.size a4 (nb + LD) c4 (pre ++ PDs)) := Or.inl (O4.out.below k5 (Nat.le_refl _))
        have K5 : Hid (Below w.heap.size w w5) := bel_to K4.out (Nat.le_refl _) k5
        have HW5 : Hid (w.heap.size ≤ w5.heap.size) := K5.out.size
        clear o5 k5 O4 K4 PY f0 f1
        go_wp2_with (at_builtin; refine wpList_append_src _ rfl _ _ 23 rfl w.heap.size 5 i0 1 Try.underlying23 HI.out.1 HI.out.2.1 HI.out.2.2.1 HI.out.2.2.2 a4 (nb + LD) c4 (pre ++ PDs) rfl S5.out ⟨g5, 0, none⟩ LY c5 PYs rfl lY0 R5.out (by omega) (by decide) HW5.out ?_)
        intro a6 c6 w6 o6 b6
        have O6 : Hid (Mine w6 w.heap.size a6 (nb + LD + LY) c6 (pre ++ PDs ++ PYs)) := by rw [List.append_assoc]; exact o6
        have K6 : Hid (Below w.heap.size w w6) := K5.out.trans b6
        clear o6 b6 S5 R5 K5 HW5 HGC
        go_wp2
        go_roundw
        case rel => exact ⟨a6, nb + LD + LY, c6, j + 1 + 1, _, rfl, by go_num, by omega, by omega, HN, O6, K6⟩
        case measure => simp [intOf]; omega
    · have : k = n := by omega
      subst this
      have HE : Hid (pre = M ∧ M.length = nb) := by
        have := HP.out.2
        rw [List.drop_of_length_le (by rw [HL.out]; omega), sparB, List.append_nil] at this
        exact ⟨this, by rw [← this]; exact HP.out.1⟩
      rw [HE.out.1] at HO
      go_wp2
      go_ret
      rw [HE.out.2]
      exact ⟨ab, cb, rfl, HO, HB⟩
end Go.Proofs.Ytjngpdhhkkambab
