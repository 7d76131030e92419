/-
  The document's own answer of layer 7 (the laws' reference): the bytes of a list of buckets, in the sparse form: a contract, for every world. The document's own answer of layer 7 (the laws' reference): the bytes of a list of buckets, in the dense form: a contract, for every world. The document's own answer of layer 7 (the laws' reference): the bytes of a list of buckets, in the shorter form: a contract, for every world. A reader that is told to be bad stays so: contracts, for every world. The document's own answer of layer 7 (the laws' reference): bytes read as a list of buckets: a contract, for every world.
  Conditions: the slice shows its buckets, which may be; none; the slice shows its bytes.
-/
import Derived.Test.YtadcaonkmncgoaaGreatHistBz
import Derived.Test.YtadcaonkmncgoaaGreatHistB
import Derived.Test.YtadcaonkmncgoaaGreatBytB
import Derived.Test.YtadcaonkmncgoaaGreatHistR
import Derived.Test.YtadcaonkmncgoaaGreatNumB
import Derived.Test.YtadcaonkmncgoaaGreatChK
import Derived.Deep.QuietTactic
import Derived.BigQuiet
import Derived.Deep.CutBlock
import Derived.Deep.DeepCutAuto
namespace Go.Proofs.YtadcaonkmncgoaaGreat
open Go.RowKit
set_option maxRecDepth 20000

theorem mine_some {w : World} {base n cap : Nat} {a : Option Addr} {zs : List Int} (h : Mine w base a n cap zs) (hn : 1 ≤ n) : ∃ g, a = some ⟨g, 0, none⟩ := by
  unfold Mine Own at h
  rcases h.2 with ⟨_, h2⟩ | ⟨g, c, cur, h1, _⟩
  · omega
  · simp only [Value.slice.injEq, true_and] at h1
    exact ⟨g, h1.1⟩
theorem sparB_append (last : Int) (l m : Bks) : sparB last (l ++ m) = sparB last l ++ sparB (lastD last l) m := by
  induction l generalizing last with
  | nil => rfl
  | cons x t ih => obtain ⟨k, c⟩ := x; rw [List.cons_append, sparB, sparB, ih, lastD]; simp
/-- One byte in a row of its own. -/
theorem lit_mine (w : World) (z : Int) : Mine (w.alloc (.cells #[.int .u8 z] 5)) w.heap.size (some ⟨w.heap.size, 0, none⟩) 1 1 [z] :=
  World.ownsRow_lit (base := w.heap.size) w #[.int .u8 z] 1 (Nat.le_refl _) (by decide) rfl

set_option maxHeartbeats 8000000 in
theorem refsparse_any (a : Option Addr) (n cap : Nat) (l : Bks) (w : World) (hr : RowB w a n l) (hck : checkS l = true) :
    Calls Tryz.prog 49 #[.slice a n cap] w fun e w' => ∃ a' c', e = .returned (.slice a' (sparseS l).length c') ∧ Mine w' w.heap.size a' (sparseS l).length c' (sparseS l) ∧ Below w.heap.size w w' := by
  obtain ⟨i0, hi0⟩ := info_parts Tryz.info5
  have HI := hide hi0
  clear hi0
  have hg : Good l := ⟨hck, fit_words hr.2.2.1⟩
  have hn : n ≤ 7424 := by rw [← hr.1]; exact good_len hg
  have HR := hide hr
  have HL := hide hr.1
  have HG := hide hg
  obtain ⟨M, hM⟩ : ∃ M, sparseS l = M := ⟨_, rfl⟩
  have HM := hide hM
  rw [hM]
  have P0 := hide (refput_any (n : Int) (w.alloc (.cells #[.int .u8 0] 5)) (w64_small (by omega) (by omega)))
  have HL0 := (putS_len (n : Int)).1
  have HL0' := (putS_len (n : Int)).2
  have HPB : Hid (Bytes8 (putS (n : Int))) := putS_byte (w64_small (by omega) (by omega))
  have HM0 : Hid ([0] ++ putS (n : Int) ++ sparB (-1) l = M) := by show _ = _; rw [← HM.out, ← HL.out]; simp [sparseS]
  have HT := hide (lit_mine w 0)
  have HTB : Hid (Below w.heap.size w (w.alloc (.cells #[.int .u8 0] 5))) := bel_al (Below.refl _ _) (Nat.le_refl _) _
  clear hr hck hg hM
  generalize putS (n : Int) = Pn at *
  generalize hPl : Pn.length = Ln at *
  have HPL := hide hPl
  clear hPl
  go_enter Tryz.func49, Tryz.ntmps49
  go_wp2_with fail
  refine P0.out.mono ?_
  rintro e w1 ⟨a1, c1, rfl, o1, k1⟩
  obtain ⟨g1, rfl⟩ := mine_some o1 HL0
  have R1 := hide (o1.row8 (by omega) HPB.out)
  have S1 : Hid (Src 5 .u8 w1 w.heap.size (some ⟨w.heap.size, 0, none⟩) 1 1 [0]) := Or.inl (HT.out.below k1 (Nat.le_refl _))
  have K1 : Hid (Below w.heap.size w w1) := bel_to HTB.out (Nat.le_refl _) k1
  have HW1 : Hid (w.heap.size ≤ w1.heap.size) := K1.out.size
  clear o1 k1 P0 HT HTB
  go_wp2_with (at_builtin; refine wpList_append_src _ rfl _ _ 29 rfl w.heap.size 5 i0 1 Tryz.underlying29 HI.out.1 HI.out.2.1 HI.out.2.2.1 HI.out.2.2.2 (some ⟨w.heap.size, 0, none⟩) 1 1 [0] rfl S1.out ⟨g1, 0, none⟩ Ln c1 Pn rfl HL0 R1.out (by omega) (by decide) HW1.out ?_)
  intro a2 c2 w2 o2 b2
  have O2 := hide o2
  have K2 : Hid (Below w.heap.size w w2) := K1.out.trans b2
  clear o2 b2 S1 R1 K1 HW1
  go_wp2
  go_loopw [3, 4] (fun x i wr => ∃ (ab : Option Addr) (nb cb k : Nat) (pre : List Int), x = .slice ab nb cb ∧ i = .int .i64 k ∧ k ≤ n ∧ nb ≤ 1 + Ln + 20 * k ∧ Hid (pre.length = nb ∧ pre ++ sparB (lastD (-1) (l.take k)) (l.drop k) = M) ∧ Hid (Mine wr w.heap.size ab nb cb pre) ∧ Hid (Below w.heap.size w wr)) (fun _ i _ => n - (intOf i).toNat)
  case atStart => exact ⟨a2, 1 + Ln, c2, 0, [0] ++ Pn, rfl, rfl, by omega, by omega, ⟨by rw [List.length_append, HPL.out]; rfl, HM0.out⟩, O2, K2⟩
  case round =>
    obtain ⟨ab, nb, cb, k, pre, rfl, rfl, hk, hnb, HP, HO, HB⟩ := hrel
    by_cases hlt : k < n
    · obtain ⟨bb, off, rfl, hgc⟩ := HR.out.at' hlt
      have HGC := hide hgc
      have HRG := checkF_range (Int.le_refl _) HG.out.check (k := k) (by rw [HL.out]; exact hlt)
      have HY := hide (HG.out.words)
      have HDR := hide (drop_bks (l := l) (k := k) (by rw [HL.out]; exact hlt))
      have HTK := hide (take_bks (l := l) (k := k) (by rw [HL.out]; exact hlt))
      have HNX : Hid (∀ (x y : Int) (PDs PYs : List Int), l.getD k (0, 0) = (x, y) → putS (x - lastD (-1) (l.take k) - 1) = PDs → putS y = PYs → (pre ++ PDs ++ PYs).length = nb + PDs.length + PYs.length ∧ (pre ++ PDs ++ PYs) ++ sparB (lastD (-1) (l.take (k + 1))) (l.drop (k + 1)) = M) := by
        intro x y PDs PYs h1 h2 h3
        refine ⟨by rw [List.length_append, List.length_append, HP.out.1], ?_⟩
        have := HP.out.2
        rw [HDR.out, h1, sparB, h2, h3] at this
        rw [HTK.out, h1, lastD_snoc, ← this]
        simp
      have HLA := checkF_lastD (last := -1) (l := l.take k) (by
        have := HG.out.check
        unfold checkS at this
        rw [← List.take_append_drop k l, checkF_append, Bool.and_eq_true] at this
        exact this.1)
      have HLT : lastD (-1) (l.take k) < (l.getD k (0, 0)).1 := by
        have := HG.out.check
        unfold checkS at this
        rw [← List.take_append_drop k l, checkF_append, Bool.and_eq_true, HDR.out] at this
        generalize l.getD k (0, 0) = v at *
        obtain ⟨x, y⟩ := v
        exact (checkF_cons.1 this.2).1
      have HYW0 : W64 (l.getD k (0, 0)).2 := u64_of_wf (getD_fit HR.out.2.2.1 k).2
      have HPV : Hid (∀ j, k = j + 1 → ∀ W, Below w.heap.size w W → W.cell? ⟨bb, off + j * 2, none⟩ = some (.int .i64 (lastD (-1) (l.take k)))) := by
        rintro j rfl W hW
        obtain ⟨b', off', e', hc'⟩ := HR.out.at' (j := j) (by omega)
        simp only [Option.some.injEq, Addr.mk.injEq, and_true] at e'
        obtain ⟨rfl, rfl⟩ := e'
        have h1 := (hc' W hW).1
        have h2 := take_bks (l := l) (k := j) (by rw [HL.out]; omega)
        rw [h2]
        generalize l.getD j (0, 0) = v at *
        obtain ⟨v1, v2⟩ := v
        rw [lastD_snoc]; exact h1
      have HZ0 : Hid (k = 0 → lastD (-1) (l.take k) = -1) := by rintro rfl; rfl
      clear hgc HDR HTK HY
      generalize lastD (-1) (l.take k) = LA at *
      generalize l.getD k (0, 0) = v at *
      obtain ⟨x, y⟩ := v
      simp only at HRG HLT HYW0 HGC
      obtain ⟨x0, x1⟩ := HRG
      have la0 := HLA.1
      clear HLA
      have HYW := hide HYW0
      clear HYW0
      obtain ⟨PYs, HYP⟩ : ∃ PYs, Hid (putS y = PYs) := ⟨_, rfl⟩
      obtain ⟨LY, HYL⟩ : ∃ LY, Hid (PYs.length = LY) := ⟨_, rfl⟩
      have lY0 : 1 ≤ LY := by rw [← HYL.out, ← HYP.out]; exact (putS_len y).1
      have lY1 : LY ≤ 10 := by rw [← HYL.out, ← HYP.out]; exact (putS_len y).2
      have HPY : Hid (Bytes8 PYs) := by rw [← HYP.out]; exact putS_byte HYW.out
      obtain ⟨PDs, HDP⟩ : ∃ PDs, Hid (putS (x - LA - 1) = PDs) := ⟨_, rfl⟩
      obtain ⟨LD, HDL⟩ : ∃ LD, Hid (PDs.length = LD) := ⟨_, rfl⟩
      have hdw : W64 (x - LA - 1) := w64_small (by omega) (by omega)
      have lD0 : 1 ≤ LD := by rw [← HDL.out, ← HDP.out]; exact (putS_len _).1
      have lD1 : LD ≤ 10 := by rw [← HDL.out, ← HDP.out]; exact (putS_len _).2
      have HPD : Hid (Bytes8 PDs) := by rw [← HDP.out]; exact putS_byte hdw
      have PD := hide (refput_any (x - LA - 1) wr hdw)
      rw [HDP.out, HDL.out] at PD
      have HN : Hid ((pre ++ PDs ++ PYs).length = nb + LD + LY ∧ (pre ++ PDs ++ PYs) ++ sparB (lastD (-1) (l.take (k + 1))) (l.drop (k + 1)) = M) := by
        have := HNX.out x y PDs PYs rfl HDP.out HYP.out
        rw [HDL.out, HYL.out] at this
        exact this
      obtain ⟨g0, g1⟩ := HGC.out wr HB.out
      have i1 : (0 : Int) ≤ (k : Int) := by omega
      have i2 : (k : Int) < (n : Int) := by omega
      clear HNX hdw g1
      by_cases hk0 : k = 0
      · have e0 : LA = -1 := HZ0.out hk0
        subst e0
        subst hk0
        rw [show x - -1 - 1 = x by omega] at PD
        rw [Nat.zero_mul, Nat.add_zero] at g0
        clear HZ0 HPV
        go_wp2_with fail
        refine PD.out.mono ?_
        rintro e w3 ⟨a3, c3, rfl, o3, k3⟩
        obtain ⟨g3, rfl⟩ := mine_some o3 lD0
        have R3 := hide (o3.row8 (by omega) HPD.out)
        have S3 : Hid (Src 5 .u8 w3 w.heap.size ab nb cb pre) := Or.inl (HO.out.below k3 (Nat.le_refl _))
        have K3 : Hid (Below w.heap.size w w3) := bel_to HB.out (Nat.le_refl _) k3
        have HW3 : Hid (w.heap.size ≤ w3.heap.size) := K3.out.size
        clear o3 k3 HO HB PD
        go_wp2_with (at_builtin; refine wpList_append_src _ rfl _ _ 29 rfl w.heap.size 5 i0 1 Tryz.underlying29 HI.out.1 HI.out.2.1 HI.out.2.2.1 HI.out.2.2.2 ab nb cb pre rfl S3.out ⟨g3, 0, none⟩ LD c3 PDs rfl lD0 R3.out (by omega) (by decide) HW3.out ?_)
        intro a4 c4 w4 o4 b4
        have O4 := hide o4
        have K4 : Hid (Below w.heap.size w w4) := K3.out.trans b4
        obtain ⟨f0, f1⟩ := HGC.out w4 K4.out
        clear o4 b4 S3 R3 K3 HW3 g0
        have PY := hide (refput_any y w4 HYW.out)
        rw [HYP.out, HYL.out] at PY
        go_wp2_with fail
        refine PY.out.mono ?_
        rintro e w5 ⟨a5, c5, rfl, o5, k5⟩
        obtain ⟨g5, rfl⟩ := mine_some o5 lY0
        have R5 := hide (o5.row8 (by omega) HPY.out)
        have S5 : Hid (Src 5 .u8 w5 w.heap.size a4 (nb + LD) c4 (pre ++ PDs)) := Or.inl (O4.out.below k5 (Nat.le_refl _))
        have K5 : Hid (Below w.heap.size w w5) := bel_to K4.out (Nat.le_refl _) k5
        have HW5 : Hid (w.heap.size ≤ w5.heap.size) := K5.out.size
        clear o5 k5 O4 K4 PY f0 f1
        go_wp2_with (at_builtin; refine wpList_append_src _ rfl _ _ 29 rfl w.heap.size 5 i0 1 Tryz.underlying29 HI.out.1 HI.out.2.1 HI.out.2.2.1 HI.out.2.2.2 a4 (nb + LD) c4 (pre ++ PDs) rfl S5.out ⟨g5, 0, none⟩ LY c5 PYs rfl lY0 R5.out (by omega) (by decide) HW5.out ?_)
        intro a6 c6 w6 o6 b6
        have O6 : Hid (Mine w6 w.heap.size a6 (nb + LD + LY) c6 (pre ++ PDs ++ PYs)) := by rw [List.append_assoc]; exact o6
        have K6 : Hid (Below w.heap.size w w6) := K5.out.trans b6
        clear o6 b6 S5 R5 K5 HW5 HGC
        go_wp2
        go_roundw
        case rel => exact ⟨a6, nb + LD + LY, c6, 0 + 1, _, rfl, by go_num, by omega, by omega, HN, O6, K6⟩
        case measure => simp [intOf]; omega
      · obtain ⟨j, rfl⟩ : ∃ j, k = j + 1 := ⟨k - 1, by omega⟩
        have h0 := HPV.out j rfl wr HB.out
        have i3 : (0 : Int) ≤ (j : Int) := by omega
        have i4 : (j : Int) < (n : Int) := by omega
        have i5 : (0 : Int) < ((j + 1 : Nat) : Int) := by omega
        clear HZ0 HPV hk0
        go_wp2_with fail
        refine PD.out.mono ?_
        rintro e w3 ⟨a3, c3, rfl, o3, k3⟩
        obtain ⟨g3, rfl⟩ := mine_some o3 lD0
        have R3 := hide (o3.row8 (by omega) HPD.out)
        have S3 : Hid (Src 5 .u8 w3 w.heap.size ab nb cb pre) := Or.inl (HO.out.below k3 (Nat.le_refl _))
        have K3 : Hid (Below w.heap.size w w3) := bel_to HB.out (Nat.le_refl _) k3
        have HW3 : Hid (w.heap.size ≤ w3.heap.size) := K3.out.size
        clear o3 k3 HO HB PD
        go_wp2_with (at_builtin; refine wpList_append_src _ rfl _ _ 29 rfl w.heap.size 5 i0 1 Tryz.underlying29 HI.out.1 HI.out.2.1 HI.out.2.2.1 HI.out.2.2.2 ab nb cb pre rfl S3.out ⟨g3, 0, none⟩ LD c3 PDs rfl lD0 R3.out (by omega) (by decide) HW3.out ?_)
        intro a4 c4 w4 o4 b4
        have O4 := hide o4
        have K4 : Hid (Below w.heap.size w w4) := K3.out.trans b4
        obtain ⟨f0, f1⟩ := HGC.out w4 K4.out
        clear o4 b4 S3 R3 K3 HW3 g0 h0
        have PY := hide (refput_any y w4 HYW.out)
        rw [HYP.out, HYL.out] at PY
        go_wp2_with fail
        refine PY.out.mono ?_
        rintro e w5 ⟨a5, c5, rfl, o5, k5⟩
        obtain ⟨g5, rfl⟩ := mine_some o5 lY0
        have R5 := hide (o5.row8 (by omega) HPY.out)
        have S5 : Hid (Src 5 .u8 w5 w.heap.size a4 (nb + LD) c4 (pre ++ PDs)) := Or.inl (O4.out.below k5 (Nat.le_refl _))
        have K5 : Hid (Below w.heap.size w w5) := bel_to K4.out (Nat.le_refl _) k5
        have HW5 : Hid (w.heap.size ≤ w5.heap.size) := K5.out.size
        clear o5 k5 O4 K4 PY f0 f1
        go_wp2_with (at_builtin; refine wpList_append_src _ rfl _ _ 29 rfl w.heap.size 5 i0 1 Tryz.underlying29 HI.out.1 HI.out.2.1 HI.out.2.2.1 HI.out.2.2.2 a4 (nb + LD) c4 (pre ++ PDs) rfl S5.out ⟨g5, 0, none⟩ LY c5 PYs rfl lY0 R5.out (by omega) (by decide) HW5.out ?_)
        intro a6 c6 w6 o6 b6
        have O6 : Hid (Mine w6 w.heap.size a6 (nb + LD + LY) c6 (pre ++ PDs ++ PYs)) := by rw [List.append_assoc]; exact o6
        have K6 : Hid (Below w.heap.size w w6) := K5.out.trans b6
        clear o6 b6 S5 R5 K5 HW5 HGC
        go_wp2
        go_roundw
        case rel => exact ⟨a6, nb + LD + LY, c6, j + 1 + 1, _, rfl, by go_num, by omega, by omega, HN, O6, K6⟩
        case measure => simp [intOf]; omega
    · have : k = n := by omega
      subst this
      have HE : Hid (pre = M ∧ M.length = nb) := by
        have := HP.out.2
        rw [List.drop_of_length_le (by rw [HL.out]; omega), sparB, List.append_nil] at this
        exact ⟨this, by rw [← this]; exact HP.out.1⟩
      rw [HE.out.1] at HO
      go_wp2
      go_ret
      rw [HE.out.2]
      exact ⟨ab, cb, rfl, HO, HB⟩
end Go.Proofs.YtadcaonkmncgoaaGreat

namespace Go.Proofs.YtadcaonkmncgoaaGreat
open Go.RowKit
set_option maxRecDepth 20000

set_option maxHeartbeats 1000000 in
theorem refdense_none (a : Option Addr) (cap : Nat) (w : World) :
    Calls Tryz.prog 50 #[.slice a 0 cap] w fun e w' => e = .returned (.slice none 0 0) ∧ w' = w := by
  go_enter Tryz.func50, Tryz.ntmps50
  go_wp2
  go_ret
  exact ⟨rfl, rfl⟩

set_option maxHeartbeats 8000000 in
theorem refdense_any (a : Option Addr) (n cap : Nat) (l : Bks) (w : World) (hr : RowB w a n l) (hck : checkS l = true) (hne : 1 ≤ n) :
    Calls Tryz.prog 50 #[.slice a n cap] w fun e w' => ∃ a' c', e = .returned (.slice a' (denseS l).length c') ∧ Mine w' w.heap.size a' (denseS l).length c' (denseS l) ∧ Below w.heap.size w w' := by
  obtain ⟨i0, hi0⟩ := info_parts Tryz.info5
  have HI := hide hi0
  clear hi0
  have hg : Good l := ⟨hck, fit_words hr.2.2.1⟩
  have hn : n ≤ 7424 := by rw [← hr.1]; exact good_len hg
  have hnl : l ≠ [] := by rintro rfl; have := hr.1; simp at this; omega
  have HC := hide (refcheck_any a n cap l w hr)
  rw [hck] at HC
  obtain ⟨s1, s2, s3, s4, s5, s6, s7⟩ := span_facts hg hnl
  have HR := hide hr
  have HL := hide hr.1
  have HG := hide hg
  obtain ⟨M, hM⟩ : ∃ M, denseS l = M := ⟨_, rfl⟩
  have HM := hide hM
  rw [hM]
  have HF0 : Hid ((l.getD 0 (0, 0)).1 = fromS l) := by
    cases l with
    | nil => exact absurd rfl hnl
    | cons x t => rfl
  have HLS : Hid ((l.getD (n - 1) (0, 0)).1 = lastD (-1) l) := by
    have h1 := take_bks (l := l) (k := n - 1) (by have := hr.1; omega)
    rw [List.take_of_length_le (by have := hr.1; omega)] at h1
    have h2 : lastD (-1) l = lastD (-1) (l.take (n - 1) ++ [l.getD (n - 1) (0, 0)]) := by rw [← h1]
    generalize l.getD (n - 1) (0, 0) = v at *
    obtain ⟨v1, v2⟩ := v
    rw [lastD_snoc] at h2
    exact h2.symm
  have hdd : Hid (checkF (fromS l - 1) l = true ∧ lastD (fromS l - 1) l = fromS l + spanS l - 1) := ⟨s6, by rw [s7]; omega⟩
  have HM0 : Hid ([1] ++ putS (fromS l) ++ putS (spanS l : Int) ++ densB (fromS l) (spanS l) l = M) := by show _ = _; rw [← HM.out]; simp [denseS]
  have wf := w64_small (x := fromS l) (by omega) (by omega)
  have ws := w64_small (x := (spanS l : Int)) (by omega) (by omega)
  have lF0 := (putS_len (fromS l)).1
  have lF1 := (putS_len (fromS l)).2
  have lS0 := (putS_len (spanS l : Int)).1
  have lS1 := (putS_len (spanS l : Int)).2
  have HPF : Hid (Bytes8 (putS (fromS l))) := putS_byte wf
  have HPS : Hid (Bytes8 (putS (spanS l : Int))) := putS_byte ws
  have PF := hide (fun w => refput_any (fromS l) w wf)
  have PS := hide (fun w => refput_any (spanS l : Int) w ws)
  have hlast := s5
  generalize lastD (-1) l = LA at *
  generalize fromS l = F at *
  generalize spanS l = N at *
  have HLAE : Hid (LA + 1 = F + N) := hlast
  have hla1 : LA ≤ 7423 := by omega
  have hla0 : F ≤ LA := by omega
  have hN : (N : Int) = LA - F + 1 := by omega
  have HNE := hide hN
  clear hr hg hM hnl s5 s6 s7 hlast hck hN
  generalize putS F = PFs at *
  generalize putS (N : Int) = PSs at *
  obtain ⟨LF, hLF⟩ : ∃ LF, PFs.length = LF := ⟨_, rfl⟩
  obtain ⟨LS, hLS⟩ : ∃ LS, PSs.length = LS := ⟨_, rfl⟩
  rw [hLF] at PF lF0 lF1
  rw [hLS] at PS lS0 lS1
  have HLF := hide hLF
  have HLSz := hide hLS
  clear hLF hLS wf ws
  obtain ⟨b0, off0, rfl, hg0⟩ := HR.out.at' (j := 0) (by omega)
  obtain ⟨b1, off1, e1, hg1⟩ := HR.out.at' (j := n - 1) (by omega)
  simp only [Option.some.injEq, Addr.mk.injEq, and_true] at e1
  obtain ⟨rfl, rfl⟩ := e1
  have HG0 : Hid (∀ W, Below w.heap.size w W → W.cell? ⟨b0, off0, none⟩ = some (.int .i64 F)) := fun W hW => by
    have := (hg0 W hW).1
    rw [HF0.out, Nat.zero_mul, Nat.add_zero] at this
    exact this
  have HG1 : Hid (∀ W, Below w.heap.size w W → W.cell? ⟨b0, off0 + (n - 1) * 2, none⟩ = some (.int .i64 LA)) := fun W hW => by
    have := (hg1 W hW).1
    rw [HLS.out] at this
    exact this
  clear hg0 hg1
  have t0 : ((n : Int) == 0) = false := by simp; omega
  go_enter Tryz.func50, Tryz.ntmps50
  go_wp2_with fail
  refine HC.out.mono ?_
  rintro e w1 ⟨rfl, q1, hq1⟩
  have K1 : Hid (Below w.heap.size w w1) := by rw [hq1]; exact bel_drewN (Below.refl _ _) _
  have g0 := HG0.out w1 K1.out
  have g1 := HG1.out w1 K1.out
  have T1 := hide (lit_mine w1 1)
  have TB1 : Hid (Below w.heap.size w (w1.alloc (.cells #[.int .u8 1] 5))) := bel_al K1.out (Nat.le_refl _) _
  clear hq1 HC t0
  obtain ⟨j1, rfl⟩ : ∃ j1, n = j1 + 1 := ⟨n - 1, by omega⟩
  rw [Nat.add_sub_cancel] at g1
  rw [HNE.out] at PS
  go_wp2_with fail
  refine (PF.out _).mono ?_
  rintro e w2 ⟨a2, c2, rfl, o2, k2⟩
  obtain ⟨g2, rfl⟩ := mine_some o2 lF0
  have R2 := hide (o2.row8 (by omega) HPF.out)
  have S2 : Hid (Src 5 .u8 w2 w.heap.size (some ⟨w1.heap.size, 0, none⟩) 1 1 [1]) := Or.inl ((T1.out.mono K1.out.size).below k2 (Nat.le_refl _))
  have K2 : Hid (Below w.heap.size w w2) := bel_to TB1.out (Nat.le_refl _) k2
  have HW2 : Hid (w.heap.size ≤ w2.heap.size) := K2.out.size
  clear o2 k2 PF T1 TB1 K1 g0 g1
  go_wp2_with (at_builtin; refine wpList_append_src _ rfl _ _ 29 rfl w.heap.size 5 i0 1 Tryz.underlying29 HI.out.1 HI.out.2.1 HI.out.2.2.1 HI.out.2.2.2 (some ⟨w1.heap.size, 0, none⟩) 1 1 [1] rfl S2.out ⟨g2, 0, none⟩ LF c2 PFs rfl lF0 R2.out (by omega) (by decide) HW2.out ?_)
  intro a3 c3 w3 o3 b3
  have O3 := hide o3
  have K3 : Hid (Below w.heap.size w w3) := K2.out.trans b3
  clear o3 b3 S2 R2 K2 HW2
  go_wp2_with fail
  refine (PS.out _).mono ?_
  rintro e w4 ⟨a4, c4, rfl, o4, k4⟩
  obtain ⟨g4, rfl⟩ := mine_some o4 lS0
  have R4 := hide (o4.row8 (by omega) HPS.out)
  have S4 : Hid (Src 5 .u8 w4 w.heap.size a3 (1 + LF) c3 ([1] ++ PFs)) := Or.inl (O3.out.below k4 (Nat.le_refl _))
  have K4 : Hid (Below w.heap.size w w4) := bel_to K3.out (Nat.le_refl _) k4
  have HW4 : Hid (w.heap.size ≤ w4.heap.size) := K4.out.size
  clear o4 k4 PS K3 O3
  go_wp2_with (at_builtin; refine wpList_append_src _ rfl _ _ 29 rfl w.heap.size 5 i0 1 Tryz.underlying29 HI.out.1 HI.out.2.1 HI.out.2.2.1 HI.out.2.2.2 a3 (1 + LF) c3 ([1] ++ PFs) rfl S4.out ⟨g4, 0, none⟩ LS c4 PSs rfl lS0 R4.out (by omega) (by decide) HW4.out ?_)
  intro a5 c5 w5 o5 b5
  have O5 := hide o5
  have K5 : Hid (Below w.heap.size w w5) := K4.out.trans b5
  clear o5 b5 S4 R4 K4 HW4
  go_wp2
  go_loopw [5, 6, 7] (fun x kk ii wr => ∃ (ab : Option Addr) (nb cb k i : Nat) (pre : List Int), x = .slice ab nb cb ∧ kk = .int .i64 k ∧ ii = .int .i64 i ∧ i ≤ N ∧ k ≤ i ∧ nb ≤ 1 + LF + LS + 10 * i ∧ Hid (pre.length = nb ∧ pre ++ densB (F + i) (N - i) (l.drop k) = M ∧ checkF (F + i - 1) (l.drop k) = true ∧ lastD (F + i - 1) (l.drop k) = F + N - 1) ∧ Hid (Mine wr w.heap.size ab nb cb pre) ∧ Hid (Below w.heap.size w wr)) (fun _ _ ii _ => N - (intOf ii).toNat)
  case atStart =>
    refine ⟨a5, 1 + LF + LS, c5, 0, 0, [1] ++ PFs ++ PSs, rfl, rfl, rfl, by omega, by omega, by omega, ⟨?_, ?_, ?_, ?_⟩, O5, K5⟩
    · rw [List.length_append, List.length_append, HLF.out, HLSz.out]; rfl
    · have e : F + ((0 : Nat) : Int) = F := by omega
      rw [e, Nat.sub_zero]; exact HM0.out
    · have e : F + ((0 : Nat) : Int) - 1 = F - 1 := by omega
      rw [e]; exact hdd.out.1
    · have e : F + ((0 : Nat) : Int) - 1 = F - 1 := by omega
      rw [e]; exact hdd.out.2
  case round =>
    obtain ⟨ab, nb, cb, k, i, pre, rfl, rfl, rfl, hi, hki, hnb, HP, HO, HB⟩ := hrel
    by_cases hlt : i < N
    · have hkn : k < j1 + 1 := by
        by_cases h : k < j1 + 1
        · exact h
        · have := HP.out.2.2.2
          rw [List.drop_of_length_le (by rw [HL.out]; omega), lastD] at this
          omega
      obtain ⟨b', off', e', hgc⟩ := HR.out.at' hkn
      simp only [Option.some.injEq, Addr.mk.injEq, and_true] at e'
      obtain ⟨rfl, rfl⟩ := e'
      have HGC := hide hgc
      have HDR := hide (drop_bks (l := l) (k := k) (by rw [HL.out]; exact hkn))
      have HYW := hide (u64_of_wf (getD_fit HR.out.2.2.1 k).2)
      obtain ⟨p1, p2, p3, p4⟩ := HP.out
      rw [HDR.out] at p2 p3 p4
      have HDX := HDR
      clear hgc HDR
      generalize l.getD k (0, 0) = v at *
      obtain ⟨x, y⟩ := v
      simp only at HGC HYW
      have c1 := checkF_cons.1 p3
      obtain ⟨x1, x2, x3, c4'⟩ := c1
      have HCT := hide c4'
      have HLD : Hid (lastD x (l.drop (k + 1)) = F + N - 1) := p4
      obtain ⟨m, hm⟩ : ∃ m, N - i = m + 1 := ⟨N - i - 1, by omega⟩
      rw [hm] at p2
      have HP2 := hide p2
      have HP1 := hide p1
      have HP3 := hide p3
      have HMI : Hid (N - (i + 1) = m) := by show _ = _; omega
      obtain ⟨g0, g1⟩ := HGC.out wr HB.out
      have i1 : (0 : Int) ≤ (k : Int) := by omega
      have i2 : (k : Int) < ((j1 + 1 : Nat) : Int) := by omega
      have i3 : (i : Int) < LA - F + 1 := by have := HNE.out; omega
      clear p1 p2 p3 p4 hm c4'
      by_cases hx : x = F + i
      · have t1 : (x == F + (i : Int)) = true := by simpa using hx
        obtain ⟨PYs, HYP⟩ : ∃ PYs, Hid (putS y = PYs) := ⟨_, rfl⟩
        obtain ⟨LY, HYL⟩ : ∃ LY, Hid (PYs.length = LY) := ⟨_, rfl⟩
        have lY0 : 1 ≤ LY := by rw [← HYL.out, ← HYP.out]; exact (putS_len y).1
        have lY1 : LY ≤ 10 := by rw [← HYL.out, ← HYP.out]; exact (putS_len y).2
        have HPY : Hid (Bytes8 PYs) := by rw [← HYP.out]; exact putS_byte HYW.out
        have PY := hide (refput_any y wr HYW.out)
        rw [HYP.out, HYL.out] at PY
        have HN : Hid ((pre ++ PYs).length = nb + LY ∧ (pre ++ PYs) ++ densB (F + ((i + 1 : Nat) : Int)) (N - (i + 1)) (l.drop (k + 1)) = M ∧ checkF (F + ((i + 1 : Nat) : Int) - 1) (l.drop (k + 1)) = true ∧ lastD (F + ((i + 1 : Nat) : Int) - 1) (l.drop (k + 1)) = F + N - 1) := by
          have e1 : F + ((i + 1 : Nat) : Int) = F + i + 1 := by omega
          have e2 : F + ((i + 1 : Nat) : Int) - 1 = x := by omega
          refine ⟨by rw [List.length_append, HP1.out, HYL.out], ?_, ?_, ?_⟩
          · have := HP2.out
            rw [hx, densB_here, HYP.out] at this
            rw [e1, HMI.out, ← this]; simp
          · rw [e2]; exact HCT.out
          · rw [e2]; exact HLD.out
        clear hx HP2 HP3 HP1 HCT HLD HMI
        go_wp2_with fail
        refine PY.out.mono ?_
        rintro e w6 ⟨a6, c6, rfl, o6, k6⟩
        obtain ⟨g6, rfl⟩ := mine_some o6 lY0
        have R6 := hide (o6.row8 (by omega) HPY.out)
        have S6 : Hid (Src 5 .u8 w6 w.heap.size ab nb cb pre) := Or.inl (HO.out.below k6 (Nat.le_refl _))
        have K6 : Hid (Below w.heap.size w w6) := bel_to HB.out (Nat.le_refl _) k6
        have HW6 : Hid (w.heap.size ≤ w6.heap.size) := K6.out.size
        clear o6 k6 HO HB PY g0 g1
        go_wp2_with (at_builtin; refine wpList_append_src _ rfl _ _ 29 rfl w.heap.size 5 i0 1 Tryz.underlying29 HI.out.1 HI.out.2.1 HI.out.2.2.1 HI.out.2.2.2 ab nb cb pre rfl S6.out ⟨g6, 0, none⟩ LY c6 PYs rfl lY0 R6.out (by omega) (by decide) HW6.out ?_)
        intro a7 c7 w7 o7 b7
        have O7 := hide o7
        have K7 : Hid (Below w.heap.size w w7) := K6.out.trans b7
        clear o7 b7 S6 R6 K6 HW6 HGC
        go_wp2
        go_roundw
        case rel => exact ⟨a7, nb + LY, c7, k + 1, i + 1, _, rfl, by go_num, by go_num, by omega, by omega, by omega, HN, O7, K7⟩
        case measure => simp [intOf]; omega
      · have t1 : (x == F + (i : Int)) = false := by simpa using hx
        have HN : Hid ((pre ++ [0]).length = nb + 1 ∧ (pre ++ [0]) ++ densB (F + ((i + 1 : Nat) : Int)) (N - (i + 1)) (l.drop k) = M ∧ checkF (F + ((i + 1 : Nat) : Int) - 1) (l.drop k) = true ∧ lastD (F + ((i + 1 : Nat) : Int) - 1) (l.drop k) = F + N - 1) := by
          have e1 : F + ((i + 1 : Nat) : Int) = F + i + 1 := by omega
          have hD : l.drop k = (x, y) :: l.drop (k + 1) := HDX.out
          refine ⟨by rw [List.length_append, HP1.out]; rfl, ?_, ?_, ?_⟩
          · have := HP2.out
            rw [densB_skip (by omega)] at this
            rw [hD, e1, HMI.out, ← this]; simp
          · rw [hD]; exact checkF_last HP3.out (by omega)
          · rw [hD, lastD]; exact HLD.out
        have T6 : Hid (Row .u8 (wr.alloc (.cells #[.int .u8 0] 5)) (some ⟨wr.heap.size, 0, none⟩) 1 [0]) := one_row wr 0 (by decide) _ _
        have S6 : Hid (Src 5 .u8 (wr.alloc (.cells #[.int .u8 0] 5)) w.heap.size ab nb cb pre) := Or.inl (HO.out.alloc _)
        have K6 : Hid (Below w.heap.size w (wr.alloc (.cells #[.int .u8 0] 5))) := bel_al HB.out (Nat.le_refl _) _
        have HW6 : Hid (w.heap.size ≤ (wr.alloc (.cells #[.int .u8 0] 5)).heap.size) := K6.out.size
        clear hx HP2 HP3 HP1 HCT HLD HMI HO HB
        go_wp2_with (at_builtin; refine wpList_append_src _ rfl _ _ 29 rfl w.heap.size 5 i0 1 Tryz.underlying29 HI.out.1 HI.out.2.1 HI.out.2.2.1 HI.out.2.2.2 ab nb cb pre rfl S6.out ⟨wr.heap.size, 0, none⟩ 1 1 [0] rfl (by decide) T6.out (by omega) (by decide) HW6.out ?_)
        intro a7 c7 w7 o7 b7
        have O7 := hide o7
        have K7 : Hid (Below w.heap.size w w7) := K6.out.trans b7
        clear o7 b7 S6 T6 K6 HW6 HGC g0 g1
        go_wp2
        go_roundw
        case rel => exact ⟨a7, nb + 1, c7, k, i + 1, _, rfl, rfl, by go_num, by omega, by omega, by omega, HN, O7, K7⟩
        case measure => simp [intOf]; omega
    · have : i = N := by omega
      subst this
      have HE : Hid (pre = M ∧ M.length = nb) := by
        have := HP.out.2.1
        rw [Nat.sub_self, densB, List.append_nil] at this
        exact ⟨this, by rw [← this]; exact HP.out.1⟩
      have na : ¬ ((i : Int) < LA - F + 1) := by have := HNE.out; omega
      rw [HE.out.1] at HO
      go_wp2
      go_ret
      rw [HE.out.2]
      exact ⟨ab, cb, rfl, HO, HB⟩
end Go.Proofs.YtadcaonkmncgoaaGreat

namespace Go.Proofs.YtadcaonkmncgoaaGreat
open Go.RowKit
set_option maxRecDepth 20000

theorem putH_dense {l : Bks} (h : l ≠ []) (h1 : (denseS l).length < (sparseS l).length) : putH l = denseS l := by unfold putH; rw [if_pos ⟨h, h1⟩]
theorem putH_sparse {l : Bks} (h : l = [] ∨ ¬ (denseS l).length < (sparseS l).length) : putH l = sparseS l := by
  unfold putH
  rw [if_neg]
  rintro ⟨h1, h2⟩
  rcases h with h | h
  · exact h1 h
  · exact h h2

set_option maxHeartbeats 2000000 in
theorem refputH_any (a : Option Addr) (n cap : Nat) (l : Bks) (w : World) (hr : RowB w a n l) (hck : checkS l = true) :
    Calls Tryz.prog 25 #[.slice a n cap] w fun e w' => ∃ a' c', e = .returned (.slice a' (putH l).length c') ∧ Mine w' w.heap.size a' (putH l).length c' (putH l) ∧ Below w.heap.size w w' := by
  have S := hide (refsparse_any a n cap l w hr hck)
  have hl := hr.1
  have hg : Good l := ⟨hck, fit_words hr.2.2.1⟩
  have HR := hide hr
  by_cases h0 : n = 0
  · subst h0
    have hz : l = [] := List.length_eq_zero_iff.1 hl
    rw [putH_sparse (Or.inl hz)]
    generalize sparseS l = X at *
    have D := hide (refdense_none a cap)
    clear hr hz hl
    go_enter Tryz.func25, Tryz.ntmps25
    go_wp2_with fail
    refine S.out.mono ?_
    rintro e w1 ⟨a1, c1, rfl, o1, k1⟩
    go_wp2_with fail
    refine (D.out _).mono ?_
    rintro e w2 ⟨rfl, rfl⟩
    have O1 := hide o1
    have K1 := hide k1
    clear o1 k1 S D
    go_wp2
    go_ret
    exact ⟨a1, c1, rfl, O1, K1⟩
  · have hne : l ≠ [] := by rintro rfl; simp at hl; omega
    have D := hide (fun w1 (hb : Below w.heap.size w w1) => refdense_any a n cap l w1 (hr.below hb (Nat.le_refl _)) hck (by omega))
    have hd0 : 1 ≤ (denseS l).length := by simp [denseS]
    by_cases hlt : (denseS l).length < (sparseS l).length
    · rw [putH_dense hne hlt]
      have t1 : ((denseS l).length : Int) < ((sparseS l).length : Int) := by omega
      generalize sparseS l = X at *
      generalize denseS l = Y at *
      generalize X.length = LX at *
      generalize Y.length = LY at *
      have t0 : (0 : Int) < (LY : Int) := by omega
      clear hr hl hne hlt
      go_enter Tryz.func25, Tryz.ntmps25
      go_wp2_with fail
      refine S.out.mono ?_
      rintro e w1 ⟨a1, c1, rfl, o1, k1⟩
      have D1 := hide (D.out w1 k1)
      have K1 := hide k1
      clear o1 k1 S D
      go_wp2_with fail
      refine D1.out.mono ?_
      rintro e w2 ⟨a2, c2, rfl, o2, k2⟩
      have O2 := hide (o2.mono K1.out.size)
      have K2 : Hid (Below w.heap.size w w2) := bel_to K1.out (Nat.le_refl _) k2
      clear o2 k2 D1
      go_wp2
      go_ret
      exact ⟨a2, c2, rfl, O2, K2⟩
    · rw [putH_sparse (Or.inr hlt)]
      have t1 : ¬ ((denseS l).length : Int) < ((sparseS l).length : Int) := by omega
      generalize sparseS l = X at *
      generalize denseS l = Y at *
      generalize X.length = LX at *
      generalize Y.length = LY at *
      have t0 : (0 : Int) < (LY : Int) := by omega
      clear hr hl hne hlt
      go_enter Tryz.func25, Tryz.ntmps25
      go_wp2_with fail
      refine S.out.mono ?_
      rintro e w1 ⟨a1, c1, rfl, o1, k1⟩
      have D1 := hide (D.out w1 k1)
      have K1 := hide k1
      have O1 := hide o1
      clear o1 k1 S D
      go_wp2_with fail
      refine D1.out.mono ?_
      rintro e w2 ⟨a2, c2, rfl, o2, k2⟩
      have O2 := hide (O1.out.below k2 (Nat.le_refl _))
      have K2 : Hid (Below w.heap.size w w2) := bel_to K1.out (Nat.le_refl _) k2
      clear o2 k2 D1 O1
      go_wp2
      go_ret
      exact ⟨a1, c1, rfl, O2, K2⟩
end Go.Proofs.YtadcaonkmncgoaaGreat

namespace Go.Proofs.YtadcaonkmncgoaaGreat
open Go.RowKit
set_option maxRecDepth 20000

theorem Only.ch {g : Nat} {w w' : World} (h : Only g w w') : Ch (fun k => k = g) w w' := ⟨h.os, h.tape, h.output, by rw [h.size]; exact Nat.le_refl _, fun k _ hn => h.block k hn⟩

set_option maxHeartbeats 2000000 in
theorem countbad_any (g : Nat) (a : Option Addr) (n cap : Nat) (p most : Int) (w : World) (hrb : RB w g a n cap p true) :
    Calls Tryz.prog 54 #[.pointer (some ⟨g, 0, none⟩), .int .i64 most] w fun e w' => e = .returned (.int .i64 0) ∧ Only g w w' ∧ RB w' g a n cap p true := by
  have N := hide (numbad_any g a n cap p w hrb)
  clear hrb
  go_enter Tryz.func54, Tryz.ntmps54
  go_wp2_with fail
  refine N.out.mono ?_
  rintro e x ⟨rfl, k, hrb⟩
  obtain ⟨_, _, d2, df⟩ := hrb.cell
  have df2 := df 2
  have RS := hide hrb.drew.spoil
  have OS := hide (k.drew.setCell 2 (.bool true))
  clear df k hrb N
  go_wp2
  go_region
  go_wp2
  go_ret
  exact ⟨rfl, OS.out, RS.out⟩
end Go.Proofs.YtadcaonkmncgoaaGreat

namespace Go.Proofs.YtadcaonkmncgoaaGreat
open Go.RowKit
set_option maxRecDepth 20000

/-- What the reader's Get leaves. -/
def GetP (g : Nat) (a : Option Addr) (n cap : Nat) (r : Option (Bks × Int)) (w w' : World) (e : Ending) : Prop :=
  Ch (fun k => k = g) w w' ∧ match r with
  | none => e = .returned (.slice none 0 0) ∧ ∃ p', RB w' g a n cap p' true
  | some q => (∃ a' c', e = .returned (.slice a' q.1.length c') ∧ OwnB w' w.heap.size a' q.1.length c' q.1) ∧ RB w' g a n cap q.2 false

/-- The reader, and the list that is being laid. -/
structure St (w wr : World) (g : Nat) (a : Option Addr) (n cap : Nat) (q : Int) (bad : Bool) (am : Option Addr) (nm cm : Nat) (pre : Bks) : Prop where
  rb : RB wr g a n cap q bad
  own : OwnB wr w.heap.size am nm cm pre
  ch : Ch (fun k => k = g) w wr
  lt : g < w.heap.size
  place : bad = false → -9223372036854775808 ≤ q ∧ q ≤ 9223372036854775807
  fits : ∀ x ∈ pre, fitB x
theorem St.wf {w wr : World} {g : Nat} {a : Option Addr} {n cap : Nat} {q : Int} {am : Option Addr} {nm cm : Nat} {pre : Bks} (h : St w wr g a n cap q false am nm cm pre) : (Lit.int .i64 q).wf = true := by
  have := h.place rfl
  exact i64_wf (by omega) (by omega)
theorem St.below {w wr : World} {g : Nat} {a : Option Addr} {n cap : Nat} {q : Int} {bad : Bool} {am : Option Addr} {nm cm : Nat} {pre : Bks} (h : St w wr g a n cap q bad am nm cm pre) {w0 : World} (hg : w0.heap.size ≤ g) (hb : Below w0.heap.size w0 w) : Below w0.heap.size w0 wr :=
  hb.trans (h.ch.below (by have := h.lt; omega) (fun k hk e => by omega))
theorem St.only {w wr w2 : World} {g : Nat} {a : Option Addr} {n cap : Nat} {q q2 : Int} {bad bad2 : Bool} {am : Option Addr} {nm cm : Nat} {pre : Bks} (h : St w wr g a n cap q bad am nm cm pre) (k : Only g wr w2) (hrb : RB w2 g a n cap q2 bad2) (hq : bad2 = false → -9223372036854775808 ≤ q2 ∧ q2 ≤ 9223372036854775807) : St w w2 g a n cap q2 bad2 am nm cm pre :=
  ⟨hrb, h.own.ch k.ch (fun g' hg' e => by have := h.own.block g' hg'; have := h.lt; omega), h.ch.trans k.ch, h.lt, hq, h.fits⟩
theorem St.drew {w wr : World} {g : Nat} {a : Option Addr} {n cap : Nat} {q : Int} {bad : Bool} {am : Option Addr} {nm cm : Nat} {pre : Bks} (h : St w wr g a n cap q bad am nm cm pre) : St w wr.drew g a n cap q bad am nm cm pre :=
  ⟨h.rb, h.own.below ((Below.refl wr.heap.size _).drew) (Nat.le_refl _), ⟨h.ch.os, h.ch.tape, h.ch.output, h.ch.size, h.ch.block⟩, h.lt, h.place, h.fits⟩
theorem St.spoil {w wr : World} {g : Nat} {a : Option Addr} {n cap : Nat} {q : Int} {bad : Bool} {am : Option Addr} {nm cm : Nat} {pre : Bks} (h : St w wr g a n cap q bad am nm cm pre) : St w (wr.setCell ⟨g, 2, none⟩ (.bool true)) g a n cap q true am nm cm pre :=
  h.only ((Only.refl g wr).setCell 2 _) h.rb.spoil (fun e => Bool.noConfusion e)
/-- One more bucket. -/
theorem St.push {w wr w2 : World} {g : Nat} {a : Option Addr} {n cap : Nat} {q : Int} {bad : Bool} {am am2 : Option Addr} {nm cm nm2 cm2 : Nat} {pre pre2 : Bks} (h : St w wr g a n cap q bad am nm cm pre) (o : Obj) (k : Below w.heap.size (wr.alloc o) w2) (ho : OwnB w2 w.heap.size am2 nm2 cm2 pre2) (hf : ∀ x ∈ pre2, fitB x) : St w w2 g a n cap q bad am2 nm2 cm2 pre2 := by
  have hs : wr.heap.size ≤ (wr.alloc o).heap.size := by simp
  have hgr : g < wr.heap.size := h.rb.lt'
  have hb : (w2.heap)[g]? = wr.heap[g]? := (k.block g h.lt).trans (Below.heap_alloc wr o g hgr)
  refine ⟨hb.trans h.rb, ho, ⟨k.os.trans h.ch.os, k.tape.trans h.ch.tape, k.output.trans h.ch.output, Nat.le_trans h.ch.size (Nat.le_trans hs k.size), fun j hj hn => ?_⟩, h.lt, h.place, hf⟩
  exact (k.block j hj).trans ((Below.heap_alloc wr o j (Nat.lt_of_lt_of_le hj h.ch.size)).trans (h.ch.block j hj hn))
theorem getS_place {zs : List Int} {n : Nat} (hz : Bytes8 zs) (hl : zs.length = n) (hn : n ≤ 281474976710656) {q v nx : Int} (h : getS zs q = some (v, nx)) : W64 v ∧ -9223372036854775808 ≤ nx ∧ nx ≤ 9223372036854775807 := by
  obtain ⟨hw, k', _, hk, hnx, hle, _⟩ := getS_some hz h
  exact ⟨hw, by omega, by omega⟩
/-- Where a list's bytes end. -/
theorem parSp_place {zs : List Int} (hz : Bytes8 zs) {c : Nat} {last : Int} {k : Nat} (hk : k ≤ zs.length) {l : Bks} {e : Int} (h : parSp zs c last k = some (l, e)) : ∃ m : Nat, e = m ∧ k ≤ m ∧ m ≤ zs.length := by
  induction c generalizing last k l e with
  | zero => simp [parSp] at h; exact ⟨k, h.2.symm, Nat.le_refl _, hk⟩
  | succ c ih =>
    rw [parSp] at h
    cases h1 : getS zs k with
    | none => rw [h1] at h; simp at h
    | some v =>
      obtain ⟨d, p1⟩ := v
      rw [h1] at h
      simp only at h
      obtain ⟨_, k1, e1, _, e2, e3, _⟩ := getS_some hz h1
      cases h2 : getS zs p1 with
      | none => rw [h2] at h; simp at h
      | some v =>
        obtain ⟨y, p2⟩ := v
        rw [h2] at h
        simp only at h
        obtain ⟨_, k2, e4, _, e5, e6, _⟩ := getS_some hz h2
        split at h
        · simp at h
        · cases h3 : parSp zs c (last + 1 + d) p2 with
          | none => rw [h3] at h; simp at h
          | some v =>
            obtain ⟨l', e'⟩ := v
            rw [h3] at h
            simp only [Option.map_some, Option.some.injEq, Prod.mk.injEq] at h
            rw [e5] at h3
            obtain ⟨m, m1, m2, m3⟩ := ih (by omega) h3
            exact ⟨m, by rw [← h.2]; exact m1, by omega, m3⟩
theorem parDn_place {zs : List Int} (hz : Bytes8 zs) {c : Nat} {f : Int} {k : Nat} (hk : k ≤ zs.length) {l : Bks} {e : Int} (h : parDn zs c f k = some (l, e)) : ∃ m : Nat, e = m ∧ k ≤ m ∧ m ≤ zs.length := by
  induction c generalizing f k l e with
  | zero => simp [parDn] at h; exact ⟨k, h.2.symm, Nat.le_refl _, hk⟩
  | succ c ih =>
    rw [parDn] at h
    cases h1 : getS zs k with
    | none => rw [h1] at h; simp at h
    | some v =>
      obtain ⟨y, p1⟩ := v
      rw [h1] at h
      simp only at h
      obtain ⟨_, k1, e1, _, e2, e3, _⟩ := getS_some hz h1
      cases h3 : parDn zs c (f + 1) p1 with
      | none => rw [h3] at h; simp at h
      | some v =>
        obtain ⟨l', e'⟩ := v
        rw [h3] at h
        simp only [Option.map_some, Option.some.injEq, Prod.mk.injEq] at h
        rw [e2] at h3
        obtain ⟨m, m1, m2, m3⟩ := ih (by omega) h3
        exact ⟨m, by rw [← h.2]; exact m1, by omega, m3⟩
theorem size_place {zs : List Int} (hz : Bytes8 zs) {p most v fr : Int} (h : sizeS zs p most = some (v, fr)) : ∃ k m : Nat, p = k ∧ fr = m ∧ k ≤ m ∧ m ≤ zs.length := by
  obtain ⟨h1, _⟩ := sizeS_some hz h
  obtain ⟨_, k1, e1, _, e2, e3, _⟩ := getS_some hz h1
  exact ⟨k1, _, e1, e2, by omega, e3⟩
theorem parH_place {zs : List Int} (hz : Bytes8 zs) {p : Int} {l : Bks} {e : Int} (h : parH zs p = some (l, e)) : ∃ k m : Nat, p = k ∧ e = m ∧ k ≤ m ∧ m ≤ zs.length := by
  unfold parH at h
  cases h1 : getS zs p with
  | none => rw [h1] at h; simp at h
  | some v =>
    obtain ⟨t, p1⟩ := v
    rw [h1] at h
    simp only at h
    obtain ⟨_, k1, e1, _, e2, e3, _⟩ := getS_some hz h1
    split at h
    · cases h2 : sizeS zs p1 7424 with
      | none => rw [h2] at h; simp at h
      | some v =>
        obtain ⟨c, p2⟩ := v
        rw [h2] at h
        simp only at h
        obtain ⟨k2, m2, f1, f2, f3, f4⟩ := size_place hz h2
        subst f2
        obtain ⟨m, m1, m2', m3⟩ := parSp_place hz f4 h
        exact ⟨k1, m, e1, m1, by omega, m3⟩
    · split at h
      · cases h2 : getS zs p1 with
        | none => rw [h2] at h; simp at h
        | some v =>
          obtain ⟨f, p2⟩ := v
          rw [h2] at h
          simp only at h
          obtain ⟨_, k2, d1, _, d2, d3, _⟩ := getS_some hz h2
          cases h3 : sizeS zs p2 7424 with
          | none => rw [h3] at h; simp at h
          | some v =>
            obtain ⟨c, p3⟩ := v
            rw [h3] at h
            simp only at h
            obtain ⟨k3, m3, f1, f2, f3, f4⟩ := size_place hz h3
            subst f2
            split at h
            · simp at h
            · obtain ⟨m, m1, m2', m3'⟩ := parDn_place hz f4 h
              exact ⟨k1, m, e1, m1, by omega, m3'⟩
      · simp at h

set_option maxRecDepth 100000 in
set_option maxHeartbeats 16000000 in
theorem refgetH_any (p : Int) (g : Nat) (a : Option Addr) (n cap : Nat) (zs : List Int) (w0 w : World) (hp : (Lit.int .i64 p).wf = true) (hc : n ≤ cap) (hr : Row .u8 w0 a n zs) (hg : w0.heap.size ≤ g) (hb : Below w0.heap.size w0 w) (hrb : RB w g a n cap p false) :
    Calls Tryz.prog 28 #[.pointer (some ⟨g, 0, none⟩)] w fun e w' => GetP g a n cap (getH zs p) w w' e := by
  have hn := hr.2.1
  obtain ⟨hp0, hp1⟩ := i64_of_wf hp
  have NUM := hide (fun wr q am nm cm pre (h : St w wr g a n cap q false am nm cm pre) => num_any q g a n cap zs w0 wr h.wf hr hg (h.below hg hb) h.rb)
  have CNT := hide (fun wr q am nm cm pre (h : St w wr g a n cap q false am nm cm pre) => rcount_any q 7424 g a n cap zs w0 wr h.wf (by decide) hc hr hg (h.below hg hb) h.rb)
  have NBAD := hide (fun wr q am nm cm pre (h : St w wr g a n cap q true am nm cm pre) => numbad_any g a n cap q wr h.rb)
  have CBAD := hide (fun wr q am nm cm pre (h : St w wr g a n cap q true am nm cm pre) => countbad_any g a n cap q 7424 wr h.rb)
  have GP := hide (fun q v nx h => getS_place hr.bytes hr.1 hn (q := q) (v := v) (nx := nx) h)
  have S0 : Hid (St w w g a n cap p false none 0 0 []) := ⟨hrb, ownB_nil _ _, Ch.refl _ _, hrb.lt', fun _ => ⟨hp0, hp1⟩, by simp⟩
  have HPL : Hid (∀ l e, parH zs p = some (l, e) → ∃ k m : Nat, p = k ∧ e = m ∧ k ≤ m ∧ m ≤ zs.length) := fun l e h => parH_place hr.bytes h
  obtain ⟨i0, hi0⟩ := info_parts Tryz.infoB
  have HI := hide hi0
  have HPH : Hid (getH zs p = match parH zs p with | none => none | some (l, e) => if checkS l = true ∧ putH l = (zs.drop p.toNat).take (e - p).toNat then some (l, e) else none) := rfl
  have HPP : Hid (parH zs p = match getS zs p with
    | none => none
    | some (t, p1) =>
      if t = 0 then match sizeS zs p1 7424 with
        | none => none
        | some (c, p2) => parSp zs c.toNat (-1) p2
      else if t = 1 then match getS zs p1 with
        | none => none
        | some (f, p2) => match sizeS zs p2 7424 with
          | none => none
          | some (c, p3) => if 7424 ≤ f then none else parDn zs c.toNat f p3
      else none) := rfl
  obtain ⟨c0, c1, c2, cf⟩ := hrb.cell
  have N := hide (NUM.out w p none 0 0 [] S0.out)
  generalize parH zs p = PH at *
  clear hrb hi0 cf c0 c2
  go_enter Tryz.func28, Tryz.ntmps28
  go_wp2_with fail
  refine N.out.mono ?_
  rintro e w1 hN
  have HN := hide hN
  clear N hN c1
  -- what the reader said first: a word, and whether it is bad
  obtain ⟨t, q1, bad1, rfl, S1, HT, ht0, ht1⟩ : ∃ (t q1 : Int) (bad1 : Bool), e = .returned (.int .u64 t) ∧ Hid (St w w1 g a n cap q1 bad1 none 0 0 []) ∧ Hid ((bad1 = true → t = 0 ∧ PH = none) ∧ (bad1 = false → getS zs p = some (t, q1))) ∧ 0 ≤ t ∧ t < 18446744073709551616 := by
    have h := HN.out
    unfold NumP at h
    cases hgs : getS zs p with
    | none =>
      rw [hgs] at h
      obtain ⟨h1, h2, p', h3⟩ := h
      refine ⟨0, p', true, h2, S0.out.only h1 h3 (fun e => Bool.noConfusion e), ⟨fun _ => ⟨rfl, by rw [HPP.out, hgs]⟩, fun h => by simp at h⟩, by omega, by omega⟩
    | some v =>
      obtain ⟨t, q1⟩ := v
      rw [hgs] at h
      obtain ⟨h1, h2, h3⟩ := h
      obtain ⟨hw, hpl⟩ := GP.out _ _ _ hgs
      exact ⟨t, q1, false, h2, S0.out.only h1 h3 (fun _ => hpl), ⟨fun h => by simp at h, fun _ => rfl⟩, hw.1, hw.2⟩
  go_upto_block 0 with fail
  go_cut [4] (fun x wx => ∃ (am : Option Addr) (nm cm : Nat) (pre : Bks) (q : Int) (bad : Bool), x = .slice am nm cm ∧ nm ≤ 7424 ∧ Hid (St w wx g a n cap q bad am nm cm pre) ∧ Hid ((bad = true → PH = none) ∧ (bad = false → PH = some (pre, q))))
  case first =>
    by_cases h0 : t = 0
    · subst h0
      obtain ⟨c, q2, bad2, hcC⟩ : ∃ (c q2 : Int) (bad2 : Bool), 0 ≤ c ∧ c ≤ 7424 ∧ Hid (Calls Tryz.prog 54 #[.pointer (some ⟨g, 0, none⟩), .int .i64 7424] w1 fun e w' => e = .returned (.int .i64 c) ∧ Only g w1 w' ∧ ∃ q', RB w' g a n cap q' bad2 ∧ (bad2 = false → q' = q2)) ∧ Hid ((bad2 = true → PH = none) ∧ (bad2 = false → parSp zs c.toNat (-1) q2 = PH ∧ -9223372036854775808 ≤ q2 ∧ q2 ≤ 9223372036854775807)) := by
        cases bad1
        · have hgs := HT.out.2 rfl
          have C := CNT.out w1 q1 none 0 0 [] S1.out
          rw [HPP.out, hgs]
          simp only [if_true]
          cases hs : sizeS zs q1 7424 with
          | none =>
            rw [hs] at C
            simp only [CountP] at C
            refine ⟨0, 0, true, by omega, by omega, C.mono ?_, ⟨fun _ => rfl, fun e => Bool.noConfusion e⟩⟩
            rintro e w' ⟨h1, h2, q', h3⟩
            exact ⟨h2, h1, q', h3, fun e => Bool.noConfusion e⟩
          | some v =>
            obtain ⟨c, q2⟩ := v
            rw [hs] at C
            simp only [CountP] at C
            obtain ⟨h1, h2, h3, h4, h5⟩ := sizeS_some hr.bytes hs
            have hln := hr.1
            refine ⟨c, q2, false, h2, h3, C.mono ?_, ⟨fun e => Bool.noConfusion e, fun _ => ⟨rfl, by omega, by omega⟩⟩⟩
            rintro e w' ⟨h1, h2, h3⟩
            exact ⟨h2, h1, q2, h3, fun _ => rfl⟩
        · have C := CBAD.out w1 q1 none 0 0 [] S1.out
          refine ⟨0, 0, true, by omega, by omega, C.mono ?_, ⟨fun _ => (HT.out.1 rfl).2, fun e => Bool.noConfusion e⟩⟩
          rintro e w' ⟨h1, h2, h3⟩
          exact ⟨h1, h2, q1, h3, fun e => Bool.noConfusion e⟩
      obtain ⟨hc0, hc1, CC, HCC⟩ := hcC
      have t0 : ((0 : Int) == 0) = true := rfl
      go_wp2_with fail
      refine CC.out.mono ?_
      rintro e w2 ⟨rfl, k2, q', hrb2, hq'⟩
      have S2 : Hid (St w w2 g a n cap q' bad2 none 0 0 []) := S1.out.only k2 hrb2 (fun h => by rw [hq' h]; exact (HCC.out.2 h).2)
      have HQ' := hide hq'
      clear k2 hrb2 hq' CC S1 HT HPP CNT CBAD S0 HN t0
      go_wp2_with fail
      go_loopw [4, 6, 7] (fun x la i wr => ∃ (am : Option Addr) (nm cm k : Nat) (L q : Int) (bad : Bool) (pre : Bks), x = .slice am nm cm ∧ la = .int .i64 L ∧ i = .int .i64 k ∧ (k : Int) ≤ c ∧ nm ≤ k ∧ -1 ≤ L ∧ L ≤ 7424 * k ∧ Hid (St w wr g a n cap q bad am nm cm pre) ∧ Hid ((bad = true → PH = none) ∧ (bad = false → (parSp zs (c.toNat - k) L q).map (fun r => (pre ++ r.1, r.2)) = PH))) (fun _ _ i _ => c.toNat - (intOf i).toNat)
      case atStart =>
        refine ⟨none, 0, 0, 0, -1, q', bad2, [], rfl, rfl, rfl, by omega, by omega, by omega, by omega, S2, ⟨HCC.out.1, fun h => ?_⟩⟩
        rw [Nat.sub_zero, HQ'.out h, (HCC.out.2 h).1]
        cases PH with
        | none => rfl
        | some v => rfl
      case round =>
        obtain ⟨am, nm, cm, k, L, q, bad, pre, rfl, rfl, rfl, hkc, hnk, hL0, hL1, HS, HPB⟩ := hrel
        obtain ⟨z0, z1, z2, zf⟩ := HS.out.rb.cell
        clear z0 z1 zf
        by_cases hk : (k : Int) < c
        · cases bad
          · have NM := hide (NUM.out wr q am nm cm pre HS.out)
            have hPS := HPB.out.2 rfl
            obtain ⟨j, hj⟩ : ∃ j, c.toNat - k = j + 1 := ⟨c.toNat - k - 1, by omega⟩
            have hj2 : c.toNat - (k + 1) = j := by omega
            rw [hj, parSp] at hPS
            unfold NumP at NM
            cases hg1 : getS zs q with
            | none =>
              rw [hg1] at NM hPS
              simp only [Option.map_none] at NM hPS
              have HPN : Hid (PH = none) := hPS.symm
              clear hPS HPB hg1 hj hj2
              go_wp2_with fail
              refine NM.out.mono ?_
              rintro e w3 ⟨k3, rfl, q3, hrb3⟩
              have HS3 : Hid (St w w3 g a n cap q3 true am nm cm pre) := HS.out.only k3 hrb3 (fun e => Bool.noConfusion e)
              have NB := hide (NBAD.out w3 q3 am nm cm pre HS3.out)
              clear k3 hrb3 NM z2
              go_wp2_with fail
              refine NB.out.mono ?_
              rintro e w4 ⟨rfl, k4, hrb4⟩
              have HS4 : Hid (St w w4 g a n cap q3 true am nm cm pre) := HS3.out.only k4 hrb4 (fun e => Bool.noConfusion e)
              have HNX0 := HPN
              have HFT : Hid (fitB (L + 1, 0)) := ⟨i64_wf (by omega) (by omega), wf_of_u64 ⟨by show (0 : Int) ≤ 0; omega, by show (0 : Int) < _; omega⟩⟩
              clear k4 hrb4 NB HS3 HS
              go_wp2_with (at_builtin; refine wpList_append_bks _ rfl _ _ 22 rfl w.heap.size i0 Tryz.underlying22 HI.out.1 HI.out.2.1 HI.out.2.2.1 HI.out.2.2.2 am nm cm pre rfl (OwnB.alloc (w := w4) (St.own HS4.out) _) ⟨w4.heap.size, 0, none⟩ 1 1 [(L + 1, 0)] rfl rfl (two_cells w4 (L + 1, 0) _) (by omega) (by have := (St.ch HS4.out).size; simp; omega) ?_)
              intro a5 c5 w5 o5 b5
              have HS5 : Hid (St w w5 g a n cap q3 true a5 (nm + 1) c5 (pre ++ [(L + 1, 0)])) := St.push HS4.out _ b5 o5 (fun z hz => by
                rcases List.mem_append.1 hz with h | h
                · exact (St.fits HS4.out) z h
                · simp at h; subst h; exact HFT.out)
              clear o5 b5
              go_wp2
              go_roundw
              case rel => exact ⟨a5, nm + 1, c5, k + 1, L + 1, q3, true, _, rfl, by go_num, by go_num, by omega, by omega, by omega, by omega, HS5, ⟨fun _ => HNX0.out, fun e => Bool.noConfusion e⟩⟩
              case measure => simp [intOf]; omega
            | some v =>
              obtain ⟨d, q3⟩ := v
              rw [hg1] at NM hPS
              simp only at NM hPS
              obtain ⟨hdw, hq3⟩ := GP.out _ _ _ hg1
              obtain ⟨dw0, dw1⟩ := hdw
              have HPS := hide hPS
              clear hPS HPB hg1
              go_wp2_with fail
              refine NM.out.mono ?_
              rintro e w3 ⟨k3, rfl, hrb3⟩
              have HS3 : Hid (St w w3 g a n cap q3 false am nm cm pre) := HS.out.only k3 hrb3 (fun _ => hq3)
              have NM2 := hide (NUM.out w3 q3 am nm cm pre HS3.out)
              clear k3 hrb3 NM z2 HS hq3
              unfold NumP at NM2
              have hPS := HPS.out
              clear HPS
              cases hg2 : getS zs q3 with
              | none =>
                rw [hg2] at NM2 hPS
                simp only [Option.map_none] at NM2 hPS
                have HPN : Hid (PH = none) := hPS.symm
                clear hPS hg2 hj hj2
                go_wp2_with fail
                refine NM2.out.mono ?_
                rintro e w4 ⟨k4, rfl, q4, hrb4⟩
                have HS4 : Hid (St w w4 g a n cap q4 true am nm cm pre) := HS3.out.only k4 hrb4 (fun e => Bool.noConfusion e)
                clear k4 hrb4 NM2 HS3
                by_cases hd : 7424 ≤ d
                · obtain ⟨_, _, y2, yf⟩ := HS4.out.rb.cell
                  have yf2 := yf 2
                  have R := hide HS4.out.spoil
                  clear yf
                  go_wp2_with fail
                  go_meet
                  case rel => exact ⟨am, nm, cm, pre, q4, true, rfl, by omega, R, ⟨fun _ => HPN.out, fun e => Bool.noConfusion e⟩⟩
                · have HNX0 := HPN
                  have HFT : Hid (fitB (L + 1 + d, 0)) := ⟨i64_wf (by omega) (by omega), wf_of_u64 ⟨by show (0 : Int) ≤ 0; omega, by show (0 : Int) < _; omega⟩⟩
                  go_wp2_with (at_builtin; refine wpList_append_bks _ rfl _ _ 22 rfl w.heap.size i0 Tryz.underlying22 HI.out.1 HI.out.2.1 HI.out.2.2.1 HI.out.2.2.2 am nm cm pre rfl (OwnB.alloc (w := w4) (St.own HS4.out) _) ⟨w4.heap.size, 0, none⟩ 1 1 [(L + 1 + d, 0)] rfl rfl (two_cells w4 (L + 1 + d, 0) _) (by omega) (by have := (St.ch HS4.out).size; simp; omega) ?_)
                  intro a5 c5 w5 o5 b5
                  have HS5 : Hid (St w w5 g a n cap q4 true a5 (nm + 1) c5 (pre ++ [(L + 1 + d, 0)])) := St.push HS4.out _ b5 o5 (fun z hz => by
                    rcases List.mem_append.1 hz with h | h
                    · exact (St.fits HS4.out) z h
                    · simp at h; subst h; exact HFT.out)
                  clear o5 b5
                  go_wp2
                  go_roundw
                  case rel => exact ⟨a5, nm + 1, c5, k + 1, L + 1 + d, q4, true, _, rfl, by go_num, by go_num, by omega, by omega, by omega, by omega, HS5, ⟨fun _ => HNX0.out, fun e => Bool.noConfusion e⟩⟩
                  case measure => simp [intOf]; omega
              | some v =>
                obtain ⟨y, q4⟩ := v
                rw [hg2] at NM2 hPS
                simp only at NM2 hPS
                obtain ⟨hyw, hq4⟩ := GP.out _ _ _ hg2
                have HYW := hide hyw
                have HPS := hide hPS
                clear hPS hg2 hyw
                go_wp2_with fail
                refine NM2.out.mono ?_
                rintro e w4 ⟨k4, rfl, hrb4⟩
                have HS4 : Hid (St w w4 g a n cap q4 false am nm cm pre) := HS3.out.only k4 hrb4 (fun _ => hq4)
                clear k4 hrb4 NM2 HS3 hq4
                by_cases hd : 7424 ≤ d
                · have HPN : Hid (PH = none) := by
                    have := HPS.out
                    rw [if_pos hd] at this
                    exact this.symm
                  obtain ⟨_, _, y2, yf⟩ := HS4.out.rb.cell
                  have yf2 := yf 2
                  have R := hide HS4.out.spoil
                  clear yf HPS hj hj2
                  go_wp2_with fail
                  go_meet
                  case rel => exact ⟨am, nm, cm, pre, q4, true, rfl, by omega, R, ⟨fun _ => HPN.out, fun e => Bool.noConfusion e⟩⟩
                · have HNX : Hid ((parSp zs (c.toNat - (k + 1)) (L + 1 + d) q4).map (fun r => (pre ++ [(L + 1 + d, y)] ++ r.1, r.2)) = PH) := by
                    show _ = _
                    have := HPS.out
                    rw [if_neg hd] at this
                    rw [hj2, ← this]
                    cases parSp zs j (L + 1 + d) q4 with
                    | none => rfl
                    | some r => simp
                  have HFT : Hid (fitB (L + 1 + d, y)) := ⟨i64_wf (by omega) (by omega), wf_of_u64 HYW.out⟩
                  clear HPS hj hj2
                  go_wp2_with (at_builtin; refine wpList_append_bks _ rfl _ _ 22 rfl w.heap.size i0 Tryz.underlying22 HI.out.1 HI.out.2.1 HI.out.2.2.1 HI.out.2.2.2 am nm cm pre rfl (OwnB.alloc (w := w4) (St.own HS4.out) _) ⟨w4.heap.size, 0, none⟩ 1 1 [(L + 1 + d, y)] rfl rfl (two_cells w4 (L + 1 + d, y) _) (by omega) (by have := (St.ch HS4.out).size; simp; omega) ?_)
                  intro a5 c5 w5 o5 b5
                  have HS5 : Hid (St w w5 g a n cap q4 false a5 (nm + 1) c5 (pre ++ [(L + 1 + d, y)])) := St.push HS4.out _ b5 o5 (fun z hz => by
                    rcases List.mem_append.1 hz with h | h
                    · exact (St.fits HS4.out) z h
                    · simp at h; subst h; exact HFT.out)
                  clear o5 b5
                  go_wp2
                  go_roundw
                  case rel => exact ⟨a5, nm + 1, c5, k + 1, L + 1 + d, q4, false, _, rfl, by go_num, by go_num, by omega, by omega, by omega, by omega, HS5, ⟨fun e => Bool.noConfusion e, fun _ => HNX.out⟩⟩
                  case measure => simp [intOf]; omega
          · have HE := hide (HPB.out.1 rfl)
            go_wp2_with fail
            go_meet
            case rel => exact ⟨am, nm, cm, pre, q, true, rfl, by omega, HS, ⟨fun _ => HE.out, fun e => Bool.noConfusion e⟩⟩
        · have hkE : c.toNat - k = 0 := by omega
          have HE : Hid ((bad = true → PH = none) ∧ (bad = false → PH = some (pre, q))) := by
            refine ⟨HPB.out.1, fun h => ?_⟩
            have := HPB.out.2 h
            rw [hkE, parSp] at this
            simpa using this.symm
          clear hkE
          go_wp2_with fail
          go_meet
          case rel => exact ⟨am, nm, cm, pre, q, bad, rfl, by omega, HS, HE⟩
    · have hb1 : bad1 = false := by
        cases bad1
        · rfl
        · exact absurd (HT.out.1 rfl).1 h0
      subst hb1
      have hgs := HT.out.2 rfl
      have tn0 : (t == 0) = false := by simpa using h0
      by_cases h1 : t = 1
      · subst h1
        have HPP2 : Hid (PH = match getS zs q1 with
          | none => none
          | some (f, p2) => match sizeS zs p2 7424 with
            | none => none
            | some (c, p3) => if 7424 ≤ f then none else parDn zs c.toNat f p3) := by
          show _ = _
          rw [HPP.out, hgs]
          simp only
          rw [if_neg (by omega), if_pos trivial]
        have t1 : ((1 : Int) == 1) = true := rfl
        have NM := hide (NUM.out w1 q1 none 0 0 [] S1.out)
        clear HPP HT hgs HN S0 h0
        go_wp2_with fail
        refine NM.out.mono ?_
        rintro e w2 hN2
        obtain ⟨f, q2, bad2, rfl, S2, HT2, hf0, hf1⟩ : ∃ (f q2 : Int) (bad2 : Bool), e = .returned (.int .u64 f) ∧ Hid (St w w2 g a n cap q2 bad2 none 0 0 []) ∧ Hid ((bad2 = true → PH = none) ∧ (bad2 = false → getS zs q1 = some (f, q2))) ∧ 0 ≤ f ∧ f < 18446744073709551616 := by
          unfold NumP at hN2
          cases hgs : getS zs q1 with
          | none =>
            rw [hgs] at hN2
            obtain ⟨h1, h2, p', h3⟩ := hN2
            exact ⟨0, p', true, h2, S1.out.only h1 h3 (fun e => Bool.noConfusion e), ⟨fun _ => by rw [HPP2.out, hgs], fun e => Bool.noConfusion e⟩, by omega, by omega⟩
          | some v =>
            obtain ⟨f, q2⟩ := v
            rw [hgs] at hN2
            obtain ⟨h1, h2, h3⟩ := hN2
            obtain ⟨hw, hpl⟩ := GP.out _ _ _ hgs
            exact ⟨f, q2, false, h2, S1.out.only h1 h3 (fun _ => hpl), ⟨fun e => Bool.noConfusion e, fun _ => rfl⟩, hw.1, hw.2⟩
        clear hN2 NM S1
        obtain ⟨c, q3, bad3, hcC⟩ : ∃ (c q3 : Int) (bad3 : Bool), 0 ≤ c ∧ c ≤ 7424 ∧ Hid (Calls Tryz.prog 54 #[.pointer (some ⟨g, 0, none⟩), .int .i64 7424] w2 fun e w' => e = .returned (.int .i64 c) ∧ Only g w2 w' ∧ ∃ q', RB w' g a n cap q' bad3 ∧ (bad3 = false → q' = q3)) ∧ Hid ((bad3 = true → PH = none) ∧ (bad3 = false → PH = (if 7424 ≤ f then none else parDn zs c.toNat f q3) ∧ -9223372036854775808 ≤ q3 ∧ q3 ≤ 9223372036854775807)) := by
          cases bad2
          · have hgs := HT2.out.2 rfl
            have C := CNT.out w2 q2 none 0 0 [] S2.out
            rw [HPP2.out, hgs]
            simp only
            cases hs : sizeS zs q2 7424 with
            | none =>
              rw [hs] at C
              simp only [CountP] at C
              refine ⟨0, 0, true, by omega, by omega, C.mono ?_, ⟨fun _ => rfl, fun e => Bool.noConfusion e⟩⟩
              rintro e w' ⟨h1, h2, q', h3⟩
              exact ⟨h2, h1, q', h3, fun e => Bool.noConfusion e⟩
            | some v =>
              obtain ⟨c, q3⟩ := v
              rw [hs] at C
              simp only [CountP] at C
              obtain ⟨_, h2, h3, h4, h5⟩ := sizeS_some hr.bytes hs
              have hln := hr.1
              refine ⟨c, q3, false, h2, h3, C.mono ?_, ⟨fun e => Bool.noConfusion e, fun _ => ⟨rfl, by omega, by omega⟩⟩⟩
              rintro e w' ⟨h1, h2, h3⟩
              exact ⟨h2, h1, q3, h3, fun _ => rfl⟩
          · have C := CBAD.out w2 q2 none 0 0 [] S2.out
            refine ⟨0, 0, true, by omega, by omega, C.mono ?_, ⟨fun _ => HT2.out.1 rfl, fun e => Bool.noConfusion e⟩⟩
            rintro e w' ⟨h1, h2, h3⟩
            exact ⟨h1, h2, q2, h3, fun e => Bool.noConfusion e⟩
        obtain ⟨hc0, hc1, CC, HCC⟩ := hcC
        go_wp2_with fail
        refine CC.out.mono ?_
        rintro e w3 ⟨rfl, k3, q', hrb3, hq'⟩
        have S3 : Hid (St w w3 g a n cap q' bad3 none 0 0 []) := S2.out.only k3 hrb3 (fun h => by rw [hq' h]; exact (HCC.out.2 h).2)
        have HQ' := hide hq'
        clear k3 hrb3 hq' CC S2 HT2 HPP2 CNT CBAD t1 tn0
        obtain ⟨_, _, y2, yf⟩ := S3.out.rb.cell
        have yf2 := yf 2
        have R3 := hide S3.out.spoil
        clear yf
        by_cases hf : 7424 ≤ f
        · have HPN : Hid (PH = none) := by
            cases bad3
            · have := (HCC.out.2 rfl).1
              rw [if_pos hf] at this
              exact this
            · exact HCC.out.1 rfl
          clear HCC HQ' S3
          go_wp2_with fail
          go_loopw [4, 12] (fun x i wr => x = .slice none 0 0 ∧ i = .int .i64 0 ∧ Hid (St w wr g a n cap q' true none 0 0 [])) (fun _ _ _ => 0)
          case atStart => exact ⟨rfl, rfl, R3⟩
          case round =>
            obtain ⟨rfl, rfl, HS⟩ := hrel
            obtain ⟨_, _, z2, zf⟩ := HS.out.rb.cell
            clear zf
            by_cases hk : (0 : Int) < c
            · go_wp2_with fail
              go_meet
              case rel => exact ⟨none, 0, 0, [], q', true, rfl, by omega, HS, ⟨fun _ => HPN.out, fun e => Bool.noConfusion e⟩⟩
            · go_wp2_with fail
              go_meet
              case rel => exact ⟨none, 0, 0, [], q', true, rfl, by omega, HS, ⟨fun _ => HPN.out, fun e => Bool.noConfusion e⟩⟩
        · have hf2 : f < 7424 := by omega
          clear R3
          go_wp2_with fail
          go_loopw [4, 12] (fun x i wr => ∃ (am : Option Addr) (nm cm k : Nat) (q : Int) (bad : Bool) (pre : Bks), x = .slice am nm cm ∧ i = .int .i64 k ∧ (k : Int) ≤ c ∧ nm ≤ k ∧ (bad = false → f < 7424) ∧ Hid (St w wr g a n cap q bad am nm cm pre) ∧ Hid ((bad = true → PH = none) ∧ (bad = false → (parDn zs (c.toNat - k) (f + k) q).map (fun r => (pre ++ r.1, r.2)) = PH))) (fun _ i _ => c.toNat - (intOf i).toNat)
          case atStart =>
            refine ⟨none, 0, 0, 0, q', bad3, [], rfl, rfl, by omega, by omega, fun _ => hf2, S3, ⟨HCC.out.1, fun h => ?_⟩⟩
            have := (HCC.out.2 h).1
            rw [if_neg (by omega)] at this
            rw [this, Nat.sub_zero, HQ'.out h]
            have e : f + ((0 : Nat) : Int) = f := by omega
            rw [e]
            cases parDn zs c.toNat f q3 with
            | none => rfl
            | some v => rfl
          case round =>
            obtain ⟨am, nm, cm, k, q, bad, pre, rfl, rfl, hkc, hnk, hff, HS, HPB⟩ := hrel
            obtain ⟨z0, z1, z2, zf⟩ := HS.out.rb.cell
            clear z0 z1 zf
            by_cases hk : (k : Int) < c
            · cases bad
              · have hf2 := hff rfl
                have NM := hide (NUM.out wr q am nm cm pre HS.out)
                have hPS := HPB.out.2 rfl
                obtain ⟨j, hj⟩ : ∃ j, c.toNat - k = j + 1 := ⟨c.toNat - k - 1, by omega⟩
                have hj2 : c.toNat - (k + 1) = j := by omega
                rw [hj, parDn] at hPS
                unfold NumP at NM
                cases hg1 : getS zs q with
                | none =>
                  rw [hg1] at NM hPS
                  simp only [Option.map_none] at NM hPS
                  have HPN : Hid (PH = none) := hPS.symm
                  clear hPS HPB hg1 hj hj2 hff
                  go_wp2_with fail
                  refine NM.out.mono ?_
                  rintro e w4 ⟨k4, rfl, q4, hrb4⟩
                  have HS4 : Hid (St w w4 g a n cap q4 true am nm cm pre) := HS.out.only k4 hrb4 (fun e => Bool.noConfusion e)
                  clear k4 hrb4 NM z2 HS
                  go_wp2
                  go_roundw
                  case rel => exact ⟨am, nm, cm, k + 1, q4, true, pre, rfl, by go_num, by omega, by omega, (fun e => Bool.noConfusion e), HS4, ⟨fun _ => HPN.out, fun e => Bool.noConfusion e⟩⟩
                  case measure => simp [intOf]; omega
                | some v =>
                  obtain ⟨y, q4⟩ := v
                  rw [hg1] at NM hPS
                  simp only at NM hPS
                  obtain ⟨hyw, hq4⟩ := GP.out _ _ _ hg1
                  have HYW := hide hyw
                  obtain ⟨yw0, yw1⟩ := hyw
                  have HPS := hide hPS
                  clear hPS HPB hg1 hff
                  go_wp2_with fail
                  refine NM.out.mono ?_
                  rintro e w4 ⟨k4, rfl, hrb4⟩
                  have HS4 : Hid (St w w4 g a n cap q4 false am nm cm pre) := HS.out.only k4 hrb4 (fun _ => hq4)
                  clear k4 hrb4 NM z2 HS hq4
                  by_cases hy : 0 < y
                  · have HNX : Hid ((parDn zs (c.toNat - (k + 1)) (f + ((k + 1 : Nat) : Int)) q4).map (fun r => (pre ++ [(f + k, y)] ++ r.1, r.2)) = PH) := by
                      have := HPS.out
                      have e : f + ((k + 1 : Nat) : Int) = f + k + 1 := by omega
                      show _ = _
                      rw [hj2, ← this, e]
                      cases parDn zs j (f + k + 1) q4 with
                      | none => rfl
                      | some r => simp [hy]
                    have HFT : Hid (fitB (f + (k : Int), y)) := ⟨i64_wf (by omega) (by omega), wf_of_u64 HYW.out⟩
                    clear HPS hj hj2
                    go_wp2_with (at_builtin; refine wpList_append_bks _ rfl _ _ 22 rfl w.heap.size i0 Tryz.underlying22 HI.out.1 HI.out.2.1 HI.out.2.2.1 HI.out.2.2.2 am nm cm pre rfl (OwnB.alloc (w := w4) (St.own HS4.out) _) ⟨w4.heap.size, 0, none⟩ 1 1 [(f + (k : Int), y)] rfl rfl (two_cells w4 (f + (k : Int), y) _) (by omega) (by have := (St.ch HS4.out).size; simp; omega) ?_)
                    intro a5 c5 w5 o5 b5
                    have HS5 : Hid (St w w5 g a n cap q4 false a5 (nm + 1) c5 (pre ++ [(f + (k : Int), y)])) := St.push HS4.out _ b5 o5 (fun z hz => by
                      rcases List.mem_append.1 hz with h | h
                      · exact (St.fits HS4.out) z h
                      · simp at h; subst h; exact HFT.out)
                    clear o5 b5
                    go_wp2
                    go_roundw
                    case rel => exact ⟨a5, nm + 1, c5, k + 1, q4, false, _, rfl, by go_num, by omega, by omega, fun _ => hf2, HS5, ⟨fun e => Bool.noConfusion e, fun _ => HNX.out⟩⟩
                    case measure => simp [intOf]; omega
                  · have HNX : Hid ((parDn zs (c.toNat - (k + 1)) (f + ((k + 1 : Nat) : Int)) q4).map (fun r => (pre ++ r.1, r.2)) = PH) := by
                      have := HPS.out
                      have e : f + ((k + 1 : Nat) : Int) = f + k + 1 := by omega
                      show _ = _
                      rw [hj2, ← this, e]
                      cases parDn zs j (f + k + 1) q4 with
                      | none => rfl
                      | some r => simp [hy]
                    clear HPS hj hj2
                    go_wp2
                    go_roundw
                    case rel => exact ⟨am, nm, cm, k + 1, q4, false, pre, rfl, by go_num, by omega, by omega, fun _ => hf2, HS4, ⟨fun e => Bool.noConfusion e, fun _ => HNX.out⟩⟩
                    case measure => simp [intOf]; omega
              · have HE := hide (HPB.out.1 rfl)
                clear hff
                go_wp2_with fail
                go_meet
                case rel => exact ⟨am, nm, cm, pre, q, true, rfl, by omega, HS, ⟨fun _ => HE.out, fun e => Bool.noConfusion e⟩⟩
            · have hkE : c.toNat - k = 0 := by omega
              have HE : Hid ((bad = true → PH = none) ∧ (bad = false → PH = some (pre, q))) := by
                refine ⟨HPB.out.1, fun h => ?_⟩
                have := HPB.out.2 h
                rw [hkE, parDn] at this
                simpa using this.symm
              clear hkE hff
              go_wp2_with fail
              go_meet
              case rel => exact ⟨am, nm, cm, pre, q, bad, rfl, by omega, HS, HE⟩
      · have tn1 : (t == 1) = false := by simpa using h1
        have HPN : Hid (PH = none) := by
          show _ = _
          rw [HPP.out, hgs]
          simp only
          rw [if_neg h0, if_neg h1]
        obtain ⟨_, _, y2, yf⟩ := S1.out.rb.cell
        have yf2 := yf 2
        have R := hide S1.out.spoil
        clear yf HPP HT hgs HN S0 h0 h1
        go_wp2_with fail
        go_meet
        case rel => exact ⟨none, 0, 0, [], q1, true, rfl, by omega, R, ⟨fun _ => HPN.out, fun e => Bool.noConfusion e⟩⟩
  case rest =>
    obtain ⟨am, nm, cm, pre, q, bad, rfl, hnm, HS, HPB⟩ := hcut
    obtain ⟨d0, d1, d2, df⟩ := HS.out.rb.cell
    have df2 := df 2
    clear df NUM CNT NBAD CBAD GP S1 HT HN S0 HPP
    cases bad
    · have hPH := HPB.out.2 rfl
      obtain ⟨k, m, rfl, rfl, hkm, hmn⟩ := HPL.out pre q hPH
      rw [hPH] at HPH
      simp only at HPH
      have hln := hr.1
      have CK := hide (refcheck_any am nm cm pre wc (HS.out.own.row (by omega) HS.out.fits))
      have HSP : Hid (∀ j, St w ((wc.drewN j).setCell ⟨g, 2, none⟩ (.bool true)) g a n cap (m : Int) true am nm cm pre) := fun j => (HS.out.only ((Only.refl g wc).drewN j) (HS.out.rb.drewN j) HS.out.place).spoil
      by_cases hck : checkS pre = true
      · rw [hck] at CK
        go_wp2_with fail
        refine CK.out.mono ?_
        rintro e w3 ⟨rfl, j3, hj3⟩
        have HS3 : Hid (St w w3 g a n cap (m : Int) false am nm cm pre) := by rw [hj3]; exact HS.out.only ((Only.refl g wc).drewN j3) (HS.out.rb.drewN j3) HS.out.place
        clear hj3 CK HSP d0 d1 d2 df2
        obtain ⟨d0, d1, d2, df⟩ := HS3.out.rb.cell
        have df2 := df 2
        clear df
        have hBw3 := HS3.out.below hg hb
        have HRW := hide (hr.below hBw3 (Nat.le_refl _))
        have F := hide (fun (W : World) (h : Row .u8 W a n zs) => row_string (cap := cap - k) ((h.from k (by omega) hc).to (m - k) (by omega)))
        have hsl := slice_mid a n cap k m hkm (by omega)
        have PU := hide (refputH_any am nm cm pre w3.drew (HS3.out.own.row (by omega) HS3.out.fits).drew hck)
        have HG8 : Good pre := ⟨hck, fit_words HS3.out.fits⟩
        have HPL8 := (putH_len HG8).1
        have hlp : pre.length ≤ 7424 := good_len HG8
        have HB8 := hide (putH_byte HG8)
        have HB9 : Hid (∀ z ∈ (zs.drop k).take (m - k), (Lit.int .u8 z).wf = true) := fun z hz => hr.2.2.1 z (List.mem_of_mem_drop (List.mem_of_mem_take hz))
        have HEQ : Hid (strOfNums (putH pre) = strOfNums ((zs.drop k).take (m - k)) → putH pre = (zs.drop k).take (m - k)) := fun h => strOf_inj (fits_wf HB8.out) HB9.out h
        rw [show ((m : Int) - (k : Int)).toNat = m - k by omega, Int.toNat_natCast] at HPH
        have HOK : Hid (putH pre = (zs.drop k).take (m - k) → getH zs (k : Int) = some (pre, (m : Int))) := fun h => by rw [HPH.out, if_pos ⟨hck, h⟩]
        have HNO : Hid (¬ putH pre = (zs.drop k).take (m - k) → getH zs (k : Int) = none) := fun h => by rw [HPH.out, if_neg (fun h' => h h'.2)]
        have HEQ2 : Hid (putH pre = (zs.drop k).take (m - k) → strOfNums (putH pre) = strOfNums ((zs.drop k).take (m - k))) := fun h => by rw [h]
        generalize (zs.drop k).take (m - k) = MID at *
        generalize m - k = len at *
        generalize (if cap = k then a else a.map (·.add k)) = amid at *
        generalize hPX : putH pre = PX at *
        have HPX := hide hPX
        clear hPX
        generalize hPN : PX.length = LP at *
        have HPN := hide hPN
        clear hPN hBw3
        have SS : Hid (∀ W, St w W g a n cap (m : Int) false am nm cm pre → W.cell? ⟨g, 0, none⟩ = some (.slice a n cap) ∧ W.cell? ⟨g, 1, none⟩ = some (.int .i64 (m : Int)) ∧ (convert 29 9 (.slice amid len (cap - k))).run Tryz.prog W = .ok (.string (strOfNums MID)) W) := fun W h => ⟨h.rb.cell.1, h.rb.cell.2.1, F.out W (hr.below (h.below hg hb) (Nat.le_refl _))⟩
        have HS3D := hide HS3.out.drew
        clear F HRW d0 d1 df2
        generalize strOfNums MID = X2 at *
        go_upto_region 31 with fail
        refine wp_region_held_drew (S := fun W => W.cell? ⟨g, 0, none⟩ = some (.slice a n cap) ∧ W.cell? ⟨g, 1, none⟩ = some (.int .i64 (m : Int)) ∧ (convert 29 9 (.slice amid len (cap - k))).run Tryz.prog W = .ok (.string X2) W) (by kernel_rfl) (SS.out _ HS3D.out) (fun hHeld => ?_)
        refine held_take (i := 0) (d := (some 107)) (v := ?_) rfl rfl (by kernel_rfl) (by kernel_rfl) (by kernel_rfl) (fun _ _ _ h => h) (Or.inl ⟨by rfl, ?_⟩) (by first | assumption | rfl | trivial) ?_
        rotate_left 1
        · (intro w hSw; (try dsimp only at hSw); (try subst hSw); go_simp; try with_reducible rfl)
        simp only [Act.put, List.setIfInBounds_toArray, List.set_cons_zero, List.set_cons_succ]
        refine held_take (i := 3) (d := (some 110)) (v := ?_) rfl rfl (by kernel_rfl) (by kernel_rfl) (by kernel_rfl) (fun _ _ _ h => h) (Or.inl ⟨by rfl, ?_⟩) (by first | assumption | rfl | trivial) ?_
        rotate_left 1
        · (intro w hSw; (try dsimp only at hSw); (try subst hSw); go_simp; try with_reducible rfl)
        simp only [Act.put, List.setIfInBounds_toArray, List.set_cons_zero, List.set_cons_succ]
        refine held_take (i := 4) (d := (some 111)) (v := ?_) rfl rfl (by kernel_rfl) (by kernel_rfl) (by kernel_rfl) (fun _ _ _ h => h) (Or.inl ⟨by rfl, ?_⟩) (by first | assumption | rfl | trivial) ?_
        rotate_left 1
        · (intro w hSw; (try dsimp only at hSw); (try subst hSw); go_simp; try with_reducible rfl)
        simp only [Act.put, List.setIfInBounds_toArray, List.set_cons_zero, List.set_cons_succ]
        refine held_take (i := 5) (d := (some 112)) (v := ?_) rfl rfl (by kernel_rfl) (by kernel_rfl) (by kernel_rfl) (fun _ _ _ h => h) (Or.inl ⟨by rfl, ?_⟩) (by first | assumption | rfl | trivial) ?_
        rotate_left 1
        · (intro w hSw; (try dsimp only at hSw); (try subst hSw); go_simp; try with_reducible rfl)
        simp only [Act.put, List.setIfInBounds_toArray, List.set_cons_zero, List.set_cons_succ]
        refine held_take (i := 6) (d := (some 113)) (v := ?_) rfl rfl (by kernel_rfl) (by kernel_rfl) (by kernel_rfl) (fun _ _ _ h => h) (Or.inl ⟨by rfl, ?_⟩) (by first | assumption | rfl | trivial) ?_
        rotate_left 1
        · (intro w hSw; (try dsimp only at hSw); (try subst hSw); go_simp; try with_reducible rfl)
        simp only [Act.put, List.setIfInBounds_toArray, List.set_cons_zero, List.set_cons_succ]
        refine held_take (i := 7) (d := (some 114)) (v := ?_) rfl rfl (by kernel_rfl) (by kernel_rfl) (by kernel_rfl) (fun _ _ _ h => h) (Or.inl ⟨by rfl, ?_⟩) (by first | assumption | rfl | trivial) ?_
        rotate_left 1
        · (intro w hSw; (try dsimp only at hSw); (try subst hSw); go_simp; try with_reducible rfl)
        simp only [Act.put, List.setIfInBounds_toArray, List.set_cons_zero, List.set_cons_succ]
        refine held_take (i := 8) (d := (some 115)) (v := ?_) rfl rfl (by kernel_rfl) (by kernel_rfl) (by kernel_rfl) (fun _ _ _ h => h) (Or.inl ⟨by rfl, ?_⟩) (by first | assumption | rfl | trivial) ?_
        rotate_left 1
        · (intro w hSw; (try dsimp only at hSw); (try subst hSw); go_simp; try with_reducible rfl)
        simp only [Act.put, List.setIfInBounds_toArray, List.set_cons_zero, List.set_cons_succ]
        refine held_take (i := 9) (d := (some 116)) (v := ?_) rfl rfl (by kernel_rfl) (by kernel_rfl) (by kernel_rfl) (fun _ _ _ h => h) (Or.inl ⟨by rfl, ?_⟩) (by first | assumption | rfl | trivial) ?_
        rotate_left 1
        · (intro w hSw; (try dsimp only at hSw); (try subst hSw); go_simp; try with_reducible rfl)
        simp only [Act.put, List.setIfInBounds_toArray, List.set_cons_zero, List.set_cons_succ]
        refine held_take (i := 10) (d := (some 117)) (v := ?_) rfl rfl (by kernel_rfl) (by kernel_rfl) (by kernel_rfl) (fun _ _ _ h => h) (Or.inl ⟨by rfl, ?_⟩) (by first | assumption | rfl | trivial) ?_
        rotate_left 1
        · (intro w hSw; (try dsimp only at hSw); (try subst hSw); go_simp; try with_reducible rfl)
        simp only [Act.put, List.setIfInBounds_toArray, List.set_cons_zero, List.set_cons_succ]
        refine held_take (i := 11) (d := (some 118)) (v := ?_) rfl rfl (by kernel_rfl) (by kernel_rfl) (by kernel_rfl) (fun _ _ _ h => h) (Or.inl ⟨by rfl, ?_⟩) (by first | assumption | rfl | trivial) ?_
        rotate_left 1
        · (intro w hSw; (try dsimp only at hSw); (try subst hSw); go_simp; try with_reducible rfl)
        simp only [Act.put, List.setIfInBounds_toArray, List.set_cons_zero, List.set_cons_succ]
        refine held_take (i := 12) (d := (some 119)) (v := ?_) rfl rfl (by kernel_rfl) (by kernel_rfl) (by kernel_rfl) (fun _ _ _ h => h) (Or.inl ⟨by rfl, ?_⟩) (by first | assumption | rfl | trivial) ?_
        rotate_left 1
        · (intro w hSw; (try dsimp only at hSw); (try subst hSw); go_simp; try with_reducible rfl)
        simp only [Act.put, List.setIfInBounds_toArray, List.set_cons_zero, List.set_cons_succ]
        refine held_take (i := 13) (d := (some 120)) (v := ?_) rfl rfl (by kernel_rfl) (by kernel_rfl) (by kernel_rfl) (fun _ _ _ h => h) (Or.inl ⟨by rfl, ?_⟩) (by first | assumption | rfl | trivial) ?_
        rotate_left 1
        · (intro w hSw; (try dsimp only at hSw); (try subst hSw); go_simp; try with_reducible rfl)
        simp only [Act.put, List.setIfInBounds_toArray, List.set_cons_zero, List.set_cons_succ]
        refine held_call (i := 1) (by kernel_rfl) rfl (by rfl) (fun K hK => ?_)
        go_simp
        refine PU.out.mono ?_
        rintro e w4 ⟨ap, cp, rfl, o4, k4⟩
        have HS4 : Hid (St w w4 g a n cap (m : Int) false am nm cm pre) := by
          have h := HS3D.out
          refine ⟨(k4.block g h.rb.lt').trans h.rb, h.own.below k4 (Nat.le_refl _), ⟨k4.os.trans h.ch.os, k4.tape.trans h.ch.tape, k4.output.trans h.ch.output, Nat.le_trans h.ch.size k4.size, fun j hj hn => (k4.block j (Nat.lt_of_lt_of_le hj h.ch.size)).trans (h.ch.block j hj hn)⟩, h.lt, h.place, h.fits⟩
        have hst := mine_string o4 (by omega) HB8.out
        have hS4 := SS.out w4 HS4.out
        clear o4 k4 PU hHeld
        generalize strOfNums PX = X1 at *
        go_wp2_with fail
        refine hK.out _ _ hS4 ?_
        clear hK SS
        by_cases hX : X1 = X2
        · have tq : (X1.toList == X2.toList) = true := by rw [hX]; simp
          have tq' : (X1.toList != X2.toList) = false := by rw [hX]; simp
          have HE := hide (HOK.out (HEQ.out hX))
          have HPL5 : Hid (nm = pre.length) := HS4.out.own.len.symm
          clear hX HOK HNO HEQ HEQ2
          refine held_take (i := 2) (d := (some 109)) (v := ?_) rfl rfl (by kernel_rfl) (by kernel_rfl) (by kernel_rfl) (fun _ _ _ h => h) (Or.inl ⟨by rfl, ?_⟩) (by first | assumption | rfl | trivial) ?_
          rotate_left 1
          · (intro w hSw; (try dsimp only at hSw); (try subst hSw); go_simp; try with_reducible rfl)
          simp only [Act.put, List.setIfInBounds_toArray, List.set_cons_zero, List.set_cons_succ]
          refine held_take (i := 14) (d := (some 121)) (v := ?_) rfl rfl (by kernel_rfl) (by kernel_rfl) (by kernel_rfl) (fun _ _ _ h => h) (Or.inl ⟨by rfl, ?_⟩) (by first | assumption | rfl | trivial) ?_
          rotate_left 1
          · (intro w hSw; (try dsimp only at hSw); (try subst hSw); go_simp; try with_reducible rfl)
          simp only [Act.put, List.setIfInBounds_toArray, List.set_cons_zero, List.set_cons_succ]
          refine wpAnyH_done (by kernel_rfl) ?_ _
          go_wp2
          go_ret
          rw [HE.out]
          refine ⟨HS4.out.ch, ⟨am, cm, ?_, ?_⟩, HS4.out.rb⟩
          · show Ending.returned (.slice am nm cm) = .returned (.slice am pre.length cm)
            rw [← HPL5.out]
          · show OwnB _ _ am pre.length cm pre
            rw [← HPL5.out]; exact HS4.out.own
        · have hX' : X1.toList ≠ X2.toList := fun h => hX (by
            rw [ByteArray.toList_eq, ByteArray.toList_eq] at h
            exact ByteArray.ext (Array.toList_inj.1 h))
          have tq : (X1.toList == X2.toList) = false := by simpa using hX'
          have tq' : (X1.toList != X2.toList) = true := by simpa using hX'
          have HE : Hid (getH zs (k : Int) = none) := HNO.out (fun h => hX (HEQ2.out h))
          have R := hide HS4.out.spoil
          obtain ⟨_, _, z2, zf⟩ := HS4.out.rb.cell
          have zf2 := zf 2
          clear hX hX' HOK HNO HEQ HEQ2 zf
          refine held_take (i := 2) (d := (some 109)) (v := ?_) rfl rfl (by kernel_rfl) (by kernel_rfl) (by kernel_rfl) (fun _ _ _ h => h) (Or.inl ⟨by rfl, ?_⟩) (by first | assumption | rfl | trivial) ?_
          rotate_left 1
          · (intro w hSw; (try dsimp only at hSw); (try subst hSw); go_simp; try with_reducible rfl)
          simp only [Act.put, List.setIfInBounds_toArray, List.set_cons_zero, List.set_cons_succ]
          refine held_take (i := 14) (d := (some 121)) (v := ?_) rfl rfl (by kernel_rfl) (by kernel_rfl) (by kernel_rfl) (fun _ _ _ h => h) (Or.inl ⟨by rfl, ?_⟩) (by first | assumption | rfl | trivial) ?_
          rotate_left 1
          · (intro w hSw; (try dsimp only at hSw); (try subst hSw); go_simp; try with_reducible rfl)
          simp only [Act.put, List.setIfInBounds_toArray, List.set_cons_zero, List.set_cons_succ]
          refine wpAnyH_done (by kernel_rfl) ?_ _
          go_wp2
          go_ret
          rw [HE.out]
          exact ⟨R.out.ch, rfl, _, R.out.rb⟩
      · have hck' : checkS pre = false := by simpa using hck
        rw [hck'] at CK
        have HE : Hid (getH zs (k : Int) = none) := by show _ = _; rw [HPH.out, if_neg (fun h => hck h.1)]
        go_wp2_with fail
        refine CK.out.mono ?_
        rintro e w3 ⟨rfl, j3, hj3⟩
        subst hj3
        have R := hide (HSP.out j3)
        clear CK HSP
        go_wp2
        go_ret
        rw [HE.out]
        exact ⟨R.out.ch, rfl, _, R.out.rb⟩
    · have hPH := HPB.out.1 rfl
      have HE : Hid (getH zs p = none) := by show _ = _; rw [HPH.out, hPH]
      have R := hide HS.out.spoil
      go_wp2
      go_ret
      rw [HE.out]
      exact ⟨R.out.ch, rfl, _, R.out.rb⟩
end Go.Proofs.YtadcaonkmncgoaaGreat
