/-
  The document's own answer of layer 7 (the laws' reference): the bytes of a list of buckets, in the sparse form: a contract, for every world. The document's own answer of layer 7 (the laws' reference): the bytes of a list of buckets, in the dense form: a contract, for every world. The document's own answer of layer 7 (the laws' reference): the bytes of a list of buckets, in the shorter form: a contract, for every world. A reader that is told to be bad stays so: contracts, for every world. The document's own answer of layer 7 (the laws' reference): bytes read as a list of buckets: a contract, for every world. The document's own bytes of a sketch, and its own reader of one: contracts, for every world. The document's own bytes of a number with a sign, and of a record: contracts, for every world. The document's bytes of a write: a contract, for every world. The document's own answers of layer 5 (the laws' reference): a frame's bytes; what the laws share: appends of rows, sums of texts, a new reader. Statement VfsLaid: a contract, for every world; slices of bytes of the call's own that are written over. A log with a byte that is turned: what is found of it, in plain words; the bytes and the list of ends in memory: contracts, for every world. P17.3 (the walk): a byte that is turned in a file that is not the last one makes it corrupt; in the last one it takes what stands behind away. The call returns true, and its arguments read as they did. What a law's shell hands on: the library's
  Conditions: as each theorem says.
-/
import Derived.Test.YtknghoecjobkiaaGreatDoorZuh
import Derived.Test.YtknghoecjobkiaaGreatDoorZub
import Derived.Test.YtknghoecjobkiaaGreatDoorZug
import Derived.Deep.QuietTactic
import Derived.BigQuiet
import Derived.Test.YtknghoecjobkiaaGreatDoorZua
import Derived.Deep.CutBlock
import Derived.Deep.DeepCutAuto
import Derived.Test.YtknghoecjobkiaaGreatDoorZui
import Derived.Lib.BitFns
import Derived.Test.YtknghoecjobkiaaGreatDoorRows
import Derived.Test.YtknghoecjobkiaaGreatDoorZuSh
import Derived.WalkKit
import Derived.WalkSpells
import Derived.Test.YtknghoecjobkiaaGreatDoorZum
import Derived.RegionTactic
import Derived.ChangeAlike
import Derived.Deep.RegionHeld3
import Derived.Test.YtknghoecjobkiaaGreatDoorZuk
import Derived.Test.YtknghoecjobkiaaGreatDoorZuj
import Derived.Test.YtknghoecjobkiaaGreatDoorZuf
import Derived.Laws.AppendOwnNone
import Derived.Laws.Concat
import Derived.Test.YtknghoecjobkiaaGreatDoorZuc
import Derived.WalkMore
import Derived.OwnWalk
import Derived.Deep.Cut
import Derived.Deep.CutRange
import Derived.Test.YtknghoecjobkiaaGreatDoorZue
import Derived.ChangeSlices
import Derived.ChangeArms
import Derived.Deep.SlicePairs
import Derived.OpenShut
import Derived.SizedLaws
import Derived.Lib.SmallJoins
import Derived.Deep.Strs
import Derived.Lib.LaidTab
import Derived.Laws.IdiomArrays
import Derived.LaidMore
import Derived.Stop.LaidErr
namespace Go.Proofs.YtknghoecjobkiaaGreatDoor
open Go.RowKit
set_option maxRecDepth 20000
theorem mine_some {w : World} {base n cap : Nat} {a : Option Addr} {zs : List Int} (h : Mine w base a n cap zs) (hn : 1 ≤ n) : ∃ g, a = some ⟨g, 0, none⟩ := by
  unfold Mine Own at h
  rcases h.2 with ⟨_, h2⟩ | ⟨g, c, cur, h1, _⟩
  · omega
  · simp only [Value.slice.injEq, true_and] at h1
    exact ⟨g, h1.1⟩
/-- One byte in a row of its own. -/
theorem lit_mine (w : World) (z : Int) : Mine (w.alloc (.cells #[.int .u8 z] 5)) w.heap.size (some ⟨w.heap.size, 0, none⟩) 1 1 [z] :=
  World.ownsRow_lit (base := w.heap.size) w #[.int .u8 z] 1 (Nat.le_refl _) (by decide) rfl

set_option maxHeartbeats 8000000 in
theorem refsparse_any (a : Option Addr) (n cap : Nat) (l : Bks) (w : World) (hr : RowB w a n l) (hck : checkS l = true) :
    Calls Tryz.prog 203 #[.slice a n cap] w fun e w' => ∃ a' c', e = .returned (.slice a' (sparseS l).length c') ∧ Mine w' w.heap.size a' (sparseS l).length c' (sparseS l) ∧ Below w.heap.size w w' := by
  obtain ⟨i0, hi0⟩ := info_parts Tryz.info5
  have HI := hide hi0
  clear hi0
  have hg : Good l := ⟨hck, fit_words hr.2.2.1⟩
  have hn : n ≤ 7424 := by rw [← hr.1]; exact good_len hg
  have HR := hide hr
  have HL := hide hr.1
  have HG := hide hg
  obtain ⟨M, hM⟩ : ∃ M, sparseS l = M := ⟨_, rfl⟩
  have HM := hide hM
  rw [hM]
  have P0 := hide (refput_any (n : Int) (w.alloc (.cells #[.int .u8 0] 5)) (w64_small (by omega) (by omega)))
  have HL0 := (putS_len (n : Int)).1
  have HL0' := (putS_len (n : Int)).2
  have HPB : Hid (Bytes8 (putS (n : Int))) := putS_byte (w64_small (by omega) (by omega))
  have HM0 : Hid ([0] ++ putS (n : Int) ++ sparB (-1) l = M) := by show _ = _; rw [← HM.out, ← HL.out]; simp [sparseS]
  have HT := hide (lit_mine w 0)
  have HTB : Hid (Below w.heap.size w (w.alloc (.cells #[.int .u8 0] 5))) := bel_al (Below.refl _ _) (Nat.le_refl _) _
  clear hr hck hg hM
  generalize putS (n : Int) = Pn at *
  generalize hPl : Pn.length = Ln at *
  have HPL := hide hPl
  clear hPl
  go_enter Tryz.func203, Tryz.ntmps203
  go_wp2_with fail
  refine P0.out.mono ?_
  rintro e w1 ⟨a1, c1, rfl, o1, k1⟩
  obtain ⟨g1, rfl⟩ := mine_some o1 HL0
  have R1 := hide (o1.row8 (by omega) HPB.out)
  have S1 : Hid (Src 5 .u8 w1 w.heap.size (some ⟨w.heap.size, 0, none⟩) 1 1 [0]) := Or.inl (HT.out.below k1 (Nat.le_refl _))
  have K1 : Hid (Below w.heap.size w w1) := bel_to HTB.out (Nat.le_refl _) k1
  have HW1 : Hid (w.heap.size ≤ w1.heap.size) := K1.out.size
  clear o1 k1 P0 HT HTB
  go_wp2_with (at_builtin; refine wpList_append_src _ rfl _ _ 40 rfl w.heap.size 5 i0 1 Tryz.underlying40 HI.out.1 HI.out.2.1 HI.out.2.2.1 HI.out.2.2.2 (some ⟨w.heap.size, 0, none⟩) 1 1 [0] rfl S1.out ⟨g1, 0, none⟩ Ln c1 Pn rfl HL0 R1.out (by omega) (by decide) HW1.out ?_)
  intro a2 c2 w2 o2 b2
  have O2 := hide o2
  have K2 : Hid (Below w.heap.size w w2) := K1.out.trans b2
  clear o2 b2 S1 R1 K1 HW1
  go_wp2
  go_loopw [3, 4] (fun x i wr => ∃ (ab : Option Addr) (nb cb k : Nat) (pre : List Int), x = .slice ab nb cb ∧ i = .int .i64 k ∧ k ≤ n ∧ nb ≤ 1 + Ln + 20 * k ∧ Hid (pre.length = nb ∧ pre ++ sparB (lastD (-1) (l.take k)) (l.drop k) = M) ∧ Hid (Mine wr w.heap.size ab nb cb pre) ∧ Hid (Below w.heap.size w wr)) (fun _ i _ => n - (intOf i).toNat)
  case atStart => exact ⟨a2, 1 + Ln, c2, 0, [0] ++ Pn, rfl, rfl, by omega, by omega, ⟨by rw [List.length_append, HPL.out]; rfl, HM0.out⟩, O2, K2⟩
  case round =>
    obtain ⟨ab, nb, cb, k, pre, rfl, rfl, hk, hnb, HP, HO, HB⟩ := hrel
    by_cases hlt : k < n
    · obtain ⟨bb, off, rfl, hgc⟩ := HR.out.at' hlt
      have HGC := hide hgc
      have HRG := checkF_range (Int.le_refl _) HG.out.check (k := k) (by rw [HL.out]; exact hlt)
      have HY := hide (HG.out.words)
      have HDR := hide (drop_bks (l := l) (k := k) (by rw [HL.out]; exact hlt))
      have HTK := hide (take_bks (l := l) (k := k) (by rw [HL.out]; exact hlt))
      have HNX : Hid (∀ (x y : Int) (PDs PYs : List Int), l.getD k (0, 0) = (x, y) → putS (x - lastD (-1) (l.take k) - 1) = PDs → putS y = PYs → (pre ++ PDs ++ PYs).length = nb + PDs.length + PYs.length ∧ (pre ++ PDs ++ PYs) ++ sparB (lastD (-1) (l.take (k + 1))) (l.drop (k + 1)) = M) := by
        intro x y PDs PYs h1 h2 h3
        refine ⟨by rw [List.length_append, List.length_append, HP.out.1], ?_⟩
        have := HP.out.2
        rw [HDR.out, h1, sparB, h2, h3] at this
        rw [HTK.out, h1, lastD_snoc, ← this]
        simp
      have HLA := checkF_lastD (last := -1) (l := l.take k) (by
        have := HG.out.check
        unfold checkS at this
        rw [← List.take_append_drop k l, checkF_append, Bool.and_eq_true] at this
        exact this.1)
      have HLT : lastD (-1) (l.take k) < (l.getD k (0, 0)).1 := by
        have := HG.out.check
        unfold checkS at this
        rw [← List.take_append_drop k l, checkF_append, Bool.and_eq_true, HDR.out] at this
        generalize l.getD k (0, 0) = v at *
        obtain ⟨x, y⟩ := v
        exact (checkF_cons.1 this.2).1
      have HYW0 : W64 (l.getD k (0, 0)).2 := u64_of_wf (getD_fit HR.out.2.2.1 k).2
      have HPV : Hid (∀ j, k = j + 1 → ∀ W, Below w.heap.size w W → W.cell? ⟨bb, off + j * 2, none⟩ = some (.int .i64 (lastD (-1) (l.take k)))) := by
        rintro j rfl W hW
        obtain ⟨b', off', e', hc'⟩ := HR.out.at' (j := j) (by omega)
        simp only [Option.some.injEq, Addr.mk.injEq, and_true] at e'
        obtain ⟨rfl, rfl⟩ := e'
        have h1 := (hc' W hW).1
        have h2 := take_bks (l := l) (k := j) (by rw [HL.out]; omega)
        rw [h2]
        generalize l.getD j (0, 0) = v at *
        obtain ⟨v1, v2⟩ := v
        rw [lastD_snoc]; exact h1
      have HZ0 : Hid (k = 0 → lastD (-1) (l.take k) = -1) := by rintro rfl; rfl
      clear hgc HDR HTK HY
      generalize lastD (-1) (l.take k) = LA at *
      generalize l.getD k (0, 0) = v at *
      obtain ⟨x, y⟩ := v
      simp only at HRG HLT HYW0 HGC
      obtain ⟨x0, x1⟩ := HRG
      have la0 := HLA.1
      clear HLA
      have HYW := hide HYW0
      clear HYW0
      obtain ⟨PYs, HYP⟩ : ∃ PYs, Hid (putS y = PYs) := ⟨_, rfl⟩
      obtain ⟨LY, HYL⟩ : ∃ LY, Hid (PYs.length = LY) := ⟨_, rfl⟩
      have lY0 : 1 ≤ LY := by rw [← HYL.out, ← HYP.out]; exact (putS_len y).1
      have lY1 : LY ≤ 10 := by rw [← HYL.out, ← HYP.out]; exact (putS_len y).2
      have HPY : Hid (Bytes8 PYs) := by rw [← HYP.out]; exact putS_byte HYW.out
      obtain ⟨PDs, HDP⟩ : ∃ PDs, Hid (putS (x - LA - 1) = PDs) := ⟨_, rfl⟩
      obtain ⟨LD, HDL⟩ : ∃ LD, Hid (PDs.length = LD) := ⟨_, rfl⟩
      have hdw : W64 (x - LA - 1) := w64_small (by omega) (by omega)
      have lD0 : 1 ≤ LD := by rw [← HDL.out, ← HDP.out]; exact (putS_len _).1
      have lD1 : LD ≤ 10 := by rw [← HDL.out, ← HDP.out]; exact (putS_len _).2
      have HPD : Hid (Bytes8 PDs) := by rw [← HDP.out]; exact putS_byte hdw
      have PD := hide (refput_any (x - LA - 1) wr hdw)
      rw [HDP.out, HDL.out] at PD
      have HN : Hid ((pre ++ PDs ++ PYs).length = nb + LD + LY ∧ (pre ++ PDs ++ PYs) ++ sparB (lastD (-1) (l.take (k + 1))) (l.drop (k + 1)) = M) := by
        have := HNX.out x y PDs PYs rfl HDP.out HYP.out
        rw [HDL.out, HYL.out] at this
        exact this
      obtain ⟨g0, g1⟩ := HGC.out wr HB.out
      have i1 : (0 : Int) ≤ (k : Int) := by omega
      have i2 : (k : Int) < (n : Int) := by omega
      clear HNX hdw g1
      by_cases hk0 : k = 0
      · have e0 : LA = -1 := HZ0.out hk0
        subst e0
        subst hk0
        rw [show x - -1 - 1 = x by omega] at PD
        rw [Nat.zero_mul, Nat.add_zero] at g0
        clear HZ0 HPV
        go_wp2_with fail
        refine PD.out.mono ?_
        rintro e w3 ⟨a3, c3, rfl, o3, k3⟩
        obtain ⟨g3, rfl⟩ := mine_some o3 lD0
        have R3 := hide (o3.row8 (by omega) HPD.out)
        have S3 : Hid (Src 5 .u8 w3 w.heap.size ab nb cb pre) := Or.inl (HO.out.below k3 (Nat.le_refl _))
        have K3 : Hid (Below w.heap.size w w3) := bel_to HB.out (Nat.le_refl _) k3
        have HW3 : Hid (w.heap.size ≤ w3.heap.size) := K3.out.size
        clear o3 k3 HO HB PD
        go_wp2_with (at_builtin; refine wpList_append_src _ rfl _ _ 40 rfl w.heap.size 5 i0 1 Tryz.underlying40 HI.out.1 HI.out.2.1 HI.out.2.2.1 HI.out.2.2.2 ab nb cb pre rfl S3.out ⟨g3, 0, none⟩ LD c3 PDs rfl lD0 R3.out (by omega) (by decide) HW3.out ?_)
        intro a4 c4 w4 o4 b4
        have O4 := hide o4
        have K4 : Hid (Below w.heap.size w w4) := K3.out.trans b4
        obtain ⟨f0, f1⟩ := HGC.out w4 K4.out
        clear o4 b4 S3 R3 K3 HW3 g0
        have PY := hide (refput_any y w4 HYW.out)
        rw [HYP.out, HYL.out] at PY
        go_wp2_with fail
        refine PY.out.mono ?_
        rintro e w5 ⟨a5, c5, rfl, o5, k5⟩
        obtain ⟨g5, rfl⟩ := mine_some o5 lY0
        have R5 := hide (o5.row8 (by omega) HPY.out)
        have S5 : Hid (Src 5 .u8 w5 w.heap.size a4 (nb + LD) c4 (pre ++ PDs)) := Or.inl (O4.out.below k5 (Nat.le_refl _))
        have K5 : Hid (Below w.heap.size w w5) := bel_to K4.out (Nat.le_refl _) k5
        have HW5 : Hid (w.heap.size ≤ w5.heap.size) := K5.out.size
        clear o5 k5 O4 K4 PY f0 f1
        go_wp2_with (at_builtin; refine wpList_append_src _ rfl _ _ 40 rfl w.heap.size 5 i0 1 Tryz.underlying40 HI.out.1 HI.out.2.1 HI.out.2.2.1 HI.out.2.2.2 a4 (nb + LD) c4 (pre ++ PDs) rfl S5.out ⟨g5, 0, none⟩ LY c5 PYs rfl lY0 R5.out (by omega) (by decide) HW5.out ?_)
        intro a6 c6 w6 o6 b6
        have O6 : Hid (Mine w6 w.heap.size a6 (nb + LD + LY) c6 (pre ++ PDs ++ PYs)) := by rw [List.append_assoc]; exact o6
        have K6 : Hid (Below w.heap.size w w6) := K5.out.trans b6
        clear o6 b6 S5 R5 K5 HW5 HGC
        go_wp2
        go_roundw
        case rel => exact ⟨a6, nb + LD + LY, c6, 0 + 1, _, rfl, by go_num, by omega, by omega, HN, O6, K6⟩
        case measure => simp [intOf]; omega
      · obtain ⟨j, rfl⟩ : ∃ j, k = j + 1 := ⟨k - 1, by omega⟩
        have h0 := HPV.out j rfl wr HB.out
        have i3 : (0 : Int) ≤ (j : Int) := by omega
        have i4 : (j : Int) < (n : Int) := by omega
        have i5 : (0 : Int) < ((j + 1 : Nat) : Int) := by omega
        clear HZ0 HPV hk0
        go_wp2_with fail
        refine PD.out.mono ?_
        rintro e w3 ⟨a3, c3, rfl, o3, k3⟩
        obtain ⟨g3, rfl⟩ := mine_some o3 lD0
        have R3 := hide (o3.row8 (by omega) HPD.out)
        have S3 : Hid (Src 5 .u8 w3 w.heap.size ab nb cb pre) := Or.inl (HO.out.below k3 (Nat.le_refl _))
        have K3 : Hid (Below w.heap.size w w3) := bel_to HB.out (Nat.le_refl _) k3
        have HW3 : Hid (w.heap.size ≤ w3.heap.size) := K3.out.size
        clear o3 k3 HO HB PD
        go_wp2_with (at_builtin; refine wpList_append_src _ rfl _ _ 40 rfl w.heap.size 5 i0 1 Tryz.underlying40 HI.out.1 HI.out.2.1 HI.out.2.2.1 HI.out.2.2.2 ab nb cb pre rfl S3.out ⟨g3, 0, none⟩ LD c3 PDs rfl lD0 R3.out (by omega) (by decide) HW3.out ?_)
        intro a4 c4 w4 o4 b4
        have O4 := hide o4
        have K4 : Hid (Below w.heap.size w w4) := K3.out.trans b4
        obtain ⟨f0, f1⟩ := HGC.out w4 K4.out
        clear o4 b4 S3 R3 K3 HW3 g0 h0
        have PY := hide (refput_any y w4 HYW.out)
        rw [HYP.out, HYL.out] at PY
        go_wp2_with fail
        refine PY.out.mono ?_
        rintro e w5 ⟨a5, c5, rfl, o5, k5⟩
        obtain ⟨g5, rfl⟩ := mine_some o5 lY0
        have R5 := hide (o5.row8 (by omega) HPY.out)
        have S5 : Hid (Src 5 .u8 w5 w.heap.size a4 (nb + LD) c4 (pre ++ PDs)) := Or.inl (O4.out.below k5 (Nat.le_refl _))
        have K5 : Hid (Below w.heap.size w w5) := bel_to K4.out (Nat.le_refl _) k5
        have HW5 : Hid (w.heap.size ≤ w5.heap.size) := K5.out.size
        clear o5 k5 O4 K4 PY f0 f1
        go_wp2_with (at_builtin; refine wpList_append_src _ rfl _ _ 40 rfl w.heap.size 5 i0 1 Tryz.underlying40 HI.out.1 HI.out.2.1 HI.out.2.2.1 HI.out.2.2.2 a4 (nb + LD) c4 (pre ++ PDs) rfl S5.out ⟨g5, 0, none⟩ LY c5 PYs rfl lY0 R5.out (by omega) (by decide) HW5.out ?_)
        intro a6 c6 w6 o6 b6
        have O6 : Hid (Mine w6 w.heap.size a6 (nb + LD + LY) c6 (pre ++ PDs ++ PYs)) := by rw [List.append_assoc]; exact o6
        have K6 : Hid (Below w.heap.size w w6) := K5.out.trans b6
        clear o6 b6 S5 R5 K5 HW5 HGC
        go_wp2
        go_roundw
        case rel => exact ⟨a6, nb + LD + LY, c6, j + 1 + 1, _, rfl, by go_num, by omega, by omega, HN, O6, K6⟩
        case measure => simp [intOf]; omega
    · have : k = n := by omega
      subst this
      have HE : Hid (pre = M ∧ M.length = nb) := by
        have := HP.out.2
        rw [List.drop_of_length_le (by rw [HL.out]; omega), sparB, List.append_nil] at this
        exact ⟨this, by rw [← this]; exact HP.out.1⟩
      rw [HE.out.1] at HO
      go_wp2
      go_ret
      rw [HE.out.2]
      exact ⟨ab, cb, rfl, HO, HB⟩
set_option maxHeartbeats 1000000 in
theorem refdense_none (a : Option Addr) (cap : Nat) (w : World) :
    Calls Tryz.prog 204 #[.slice a 0 cap] w fun e w' => e = .returned (.slice none 0 0) ∧ w' = w := by
  go_enter Tryz.func204, Tryz.ntmps204
  go_wp2
  go_ret
  exact ⟨rfl, rfl⟩

set_option maxHeartbeats 8000000 in
theorem refdense_any (a : Option Addr) (n cap : Nat) (l : Bks) (w : World) (hr : RowB w a n l) (hck : checkS l = true) (hne : 1 ≤ n) :
    Calls Tryz.prog 204 #[.slice a n cap] w fun e w' => ∃ a' c', e = .returned (.slice a' (denseS l).length c') ∧ Mine w' w.heap.size a' (denseS l).length c' (denseS l) ∧ Below w.heap.size w w' := by
  obtain ⟨i0, hi0⟩ := info_parts Tryz.info5
  have HI := hide hi0
  clear hi0
  have hg : Good l := ⟨hck, fit_words hr.2.2.1⟩
  have hn : n ≤ 7424 := by rw [← hr.1]; exact good_len hg
  have hnl : l ≠ [] := by rintro rfl; have := hr.1; simp at this; omega
  have HC := hide (refcheck_any a n cap l w hr)
  rw [hck] at HC
  obtain ⟨s1, s2, s3, s4, s5, s6, s7⟩ := span_facts hg hnl
  have HR := hide hr
  have HL := hide hr.1
  have HG := hide hg
  obtain ⟨M, hM⟩ : ∃ M, denseS l = M := ⟨_, rfl⟩
  have HM := hide hM
  rw [hM]
  have HF0 : Hid ((l.getD 0 (0, 0)).1 = fromS l) := by
    cases l with
    | nil => exact absurd rfl hnl
    | cons x t => rfl
  have HLS : Hid ((l.getD (n - 1) (0, 0)).1 = lastD (-1) l) := by
    have h1 := take_bks (l := l) (k := n - 1) (by have := hr.1; omega)
    rw [List.take_of_length_le (by have := hr.1; omega)] at h1
    have h2 : lastD (-1) l = lastD (-1) (l.take (n - 1) ++ [l.getD (n - 1) (0, 0)]) := by rw [← h1]
    generalize l.getD (n - 1) (0, 0) = v at *
    obtain ⟨v1, v2⟩ := v
    rw [lastD_snoc] at h2
    exact h2.symm
  have hdd : Hid (checkF (fromS l - 1) l = true ∧ lastD (fromS l - 1) l = fromS l + spanS l - 1) := ⟨s6, by rw [s7]; omega⟩
  have HM0 : Hid ([1] ++ putS (fromS l) ++ putS (spanS l : Int) ++ densB (fromS l) (spanS l) l = M) := by show _ = _; rw [← HM.out]; simp [denseS]
  have wf := w64_small (x := fromS l) (by omega) (by omega)
  have ws := w64_small (x := (spanS l : Int)) (by omega) (by omega)
  have lF0 := (putS_len (fromS l)).1
  have lF1 := (putS_len (fromS l)).2
  have lS0 := (putS_len (spanS l : Int)).1
  have lS1 := (putS_len (spanS l : Int)).2
  have HPF : Hid (Bytes8 (putS (fromS l))) := putS_byte wf
  have HPS : Hid (Bytes8 (putS (spanS l : Int))) := putS_byte ws
  have PF := hide (fun w => refput_any (fromS l) w wf)
  have PS := hide (fun w => refput_any (spanS l : Int) w ws)
  have hlast := s5
  generalize lastD (-1) l = LA at *
  generalize fromS l = F at *
  generalize spanS l = N at *
  have HLAE : Hid (LA + 1 = F + N) := hlast
  have hla1 : LA ≤ 7423 := by omega
  have hla0 : F ≤ LA := by omega
  have hN : (N : Int) = LA - F + 1 := by omega
  have HNE := hide hN
  clear hr hg hM hnl s5 s6 s7 hlast hck hN
  generalize putS F = PFs at *
  generalize putS (N : Int) = PSs at *
  obtain ⟨LF, hLF⟩ : ∃ LF, PFs.length = LF := ⟨_, rfl⟩
  obtain ⟨LS, hLS⟩ : ∃ LS, PSs.length = LS := ⟨_, rfl⟩
  rw [hLF] at PF lF0 lF1
  rw [hLS] at PS lS0 lS1
  have HLF := hide hLF
  have HLSz := hide hLS
  clear hLF hLS wf ws
  obtain ⟨b0, off0, rfl, hg0⟩ := HR.out.at' (j := 0) (by omega)
  obtain ⟨b1, off1, e1, hg1⟩ := HR.out.at' (j := n - 1) (by omega)
  simp only [Option.some.injEq, Addr.mk.injEq, and_true] at e1
  obtain ⟨rfl, rfl⟩ := e1
  have HG0 : Hid (∀ W, Below w.heap.size w W → W.cell? ⟨b0, off0, none⟩ = some (.int .i64 F)) := fun W hW => by
    have := (hg0 W hW).1
    rw [HF0.out, Nat.zero_mul, Nat.add_zero] at this
    exact this
  have HG1 : Hid (∀ W, Below w.heap.size w W → W.cell? ⟨b0, off0 + (n - 1) * 2, none⟩ = some (.int .i64 LA)) := fun W hW => by
    have := (hg1 W hW).1
    rw [HLS.out] at this
    exact this
  clear hg0 hg1
  have t0 : ((n : Int) == 0) = false := by simp; omega
  go_enter Tryz.func204, Tryz.ntmps204
  go_wp2_with fail
  refine HC.out.mono ?_
  rintro e w1 ⟨rfl, q1, hq1⟩
  have K1 : Hid (Below w.heap.size w w1) := by rw [hq1]; exact bel_drewN (Below.refl _ _) _
  have g0 := HG0.out w1 K1.out
  have g1 := HG1.out w1 K1.out
  have T1 := hide (lit_mine w1 1)
  have TB1 : Hid (Below w.heap.size w (w1.alloc (.cells #[.int .u8 1] 5))) := bel_al K1.out (Nat.le_refl _) _
  clear hq1 HC t0
  obtain ⟨j1, rfl⟩ : ∃ j1, n = j1 + 1 := ⟨n - 1, by omega⟩
  rw [Nat.add_sub_cancel] at g1
  rw [HNE.out] at PS
  go_wp2_with fail
  refine (PF.out _).mono ?_
  rintro e w2 ⟨a2, c2, rfl, o2, k2⟩
  obtain ⟨g2, rfl⟩ := mine_some o2 lF0
  have R2 := hide (o2.row8 (by omega) HPF.out)
  have S2 : Hid (Src 5 .u8 w2 w.heap.size (some ⟨w1.heap.size, 0, none⟩) 1 1 [1]) := Or.inl ((T1.out.mono K1.out.size).below k2 (Nat.le_refl _))
  have K2 : Hid (Below w.heap.size w w2) := bel_to TB1.out (Nat.le_refl _) k2
  have HW2 : Hid (w.heap.size ≤ w2.heap.size) := K2.out.size
  clear o2 k2 PF T1 TB1 K1 g0 g1
  go_wp2_with (at_builtin; refine wpList_append_src _ rfl _ _ 40 rfl w.heap.size 5 i0 1 Tryz.underlying40 HI.out.1 HI.out.2.1 HI.out.2.2.1 HI.out.2.2.2 (some ⟨w1.heap.size, 0, none⟩) 1 1 [1] rfl S2.out ⟨g2, 0, none⟩ LF c2 PFs rfl lF0 R2.out (by omega) (by decide) HW2.out ?_)
  intro a3 c3 w3 o3 b3
  have O3 := hide o3
  have K3 : Hid (Below w.heap.size w w3) := K2.out.trans b3
  clear o3 b3 S2 R2 K2 HW2
  go_wp2_with fail
  refine (PS.out _).mono ?_
  rintro e w4 ⟨a4, c4, rfl, o4, k4⟩
  obtain ⟨g4, rfl⟩ := mine_some o4 lS0
  have R4 := hide (o4.row8 (by omega) HPS.out)
  have S4 : Hid (Src 5 .u8 w4 w.heap.size a3 (1 + LF) c3 ([1] ++ PFs)) := Or.inl (O3.out.below k4 (Nat.le_refl _))
  have K4 : Hid (Below w.heap.size w w4) := bel_to K3.out (Nat.le_refl _) k4
  have HW4 : Hid (w.heap.size ≤ w4.heap.size) := K4.out.size
  clear o4 k4 PS K3 O3
  go_wp2_with (at_builtin; refine wpList_append_src _ rfl _ _ 40 rfl w.heap.size 5 i0 1 Tryz.underlying40 HI.out.1 HI.out.2.1 HI.out.2.2.1 HI.out.2.2.2 a3 (1 + LF) c3 ([1] ++ PFs) rfl S4.out ⟨g4, 0, none⟩ LS c4 PSs rfl lS0 R4.out (by omega) (by decide) HW4.out ?_)
  intro a5 c5 w5 o5 b5
  have O5 := hide o5
  have K5 : Hid (Below w.heap.size w w5) := K4.out.trans b5
  clear o5 b5 S4 R4 K4 HW4
  go_wp2
  go_loopw [5, 6, 7] (fun x kk ii wr => ∃ (ab : Option Addr) (nb cb k i : Nat) (pre : List Int), x = .slice ab nb cb ∧ kk = .int .i64 k ∧ ii = .int .i64 i ∧ i ≤ N ∧ k ≤ i ∧ nb ≤ 1 + LF + LS + 10 * i ∧ Hid (pre.length = nb ∧ pre ++ densB (F + i) (N - i) (l.drop k) = M ∧ checkF (F + i - 1) (l.drop k) = true ∧ lastD (F + i - 1) (l.drop k) = F + N - 1) ∧ Hid (Mine wr w.heap.size ab nb cb pre) ∧ Hid (Below w.heap.size w wr)) (fun _ _ ii _ => N - (intOf ii).toNat)
  case atStart =>
    refine ⟨a5, 1 + LF + LS, c5, 0, 0, [1] ++ PFs ++ PSs, rfl, rfl, rfl, by omega, by omega, by omega, ⟨?_, ?_, ?_, ?_⟩, O5, K5⟩
    · rw [List.length_append, List.length_append, HLF.out, HLSz.out]; rfl
    · have e : F + ((0 : Nat) : Int) = F := by omega
      rw [e, Nat.sub_zero]; exact HM0.out
    · have e : F + ((0 : Nat) : Int) - 1 = F - 1 := by omega
      rw [e]; exact hdd.out.1
    · have e : F + ((0 : Nat) : Int) - 1 = F - 1 := by omega
      rw [e]; exact hdd.out.2
  case round =>
    obtain ⟨ab, nb, cb, k, i, pre, rfl, rfl, rfl, hi, hki, hnb, HP, HO, HB⟩ := hrel
    by_cases hlt : i < N
    · have hkn : k < j1 + 1 := by
        by_cases h : k < j1 + 1
        · exact h
        · have := HP.out.2.2.2
          rw [List.drop_of_length_le (by rw [HL.out]; omega), lastD] at this
          omega
      obtain ⟨b', off', e', hgc⟩ := HR.out.at' hkn
      simp only [Option.some.injEq, Addr.mk.injEq, and_true] at e'
      obtain ⟨rfl, rfl⟩ := e'
      have HGC := hide hgc
      have HDR := hide (drop_bks (l := l) (k := k) (by rw [HL.out]; exact hkn))
      have HYW := hide (u64_of_wf (getD_fit HR.out.2.2.1 k).2)
      obtain ⟨p1, p2, p3, p4⟩ := HP.out
      rw [HDR.out] at p2 p3 p4
      have HDX := HDR
      clear hgc HDR
      generalize l.getD k (0, 0) = v at *
      obtain ⟨x, y⟩ := v
      simp only at HGC HYW
      have c1 := checkF_cons.1 p3
      obtain ⟨x1, x2, x3, c4'⟩ := c1
      have HCT := hide c4'
      have HLD : Hid (lastD x (l.drop (k + 1)) = F + N - 1) := p4
      obtain ⟨m, hm⟩ : ∃ m, N - i = m + 1 := ⟨N - i - 1, by omega⟩
      rw [hm] at p2
      have HP2 := hide p2
      have HP1 := hide p1
      have HP3 := hide p3
      have HMI : Hid (N - (i + 1) = m) := by show _ = _; omega
      obtain ⟨g0, g1⟩ := HGC.out wr HB.out
      have i1 : (0 : Int) ≤ (k : Int) := by omega
      have i2 : (k : Int) < ((j1 + 1 : Nat) : Int) := by omega
      have i3 : (i : Int) < LA - F + 1 := by have := HNE.out; omega
      clear p1 p2 p3 p4 hm c4'
      by_cases hx : x = F + i
      · have t1 : (x == F + (i : Int)) = true := by simpa using hx
        obtain ⟨PYs, HYP⟩ : ∃ PYs, Hid (putS y = PYs) := ⟨_, rfl⟩
        obtain ⟨LY, HYL⟩ : ∃ LY, Hid (PYs.length = LY) := ⟨_, rfl⟩
        have lY0 : 1 ≤ LY := by rw [← HYL.out, ← HYP.out]; exact (putS_len y).1
        have lY1 : LY ≤ 10 := by rw [← HYL.out, ← HYP.out]; exact (putS_len y).2
        have HPY : Hid (Bytes8 PYs) := by rw [← HYP.out]; exact putS_byte HYW.out
        have PY := hide (refput_any y wr HYW.out)
        rw [HYP.out, HYL.out] at PY
        have HN : Hid ((pre ++ PYs).length = nb + LY ∧ (pre ++ PYs) ++ densB (F + ((i + 1 : Nat) : Int)) (N - (i + 1)) (l.drop (k + 1)) = M ∧ checkF (F + ((i + 1 : Nat) : Int) - 1) (l.drop (k + 1)) = true ∧ lastD (F + ((i + 1 : Nat) : Int) - 1) (l.drop (k + 1)) = F + N - 1) := by
          have e1 : F + ((i + 1 : Nat) : Int) = F + i + 1 := by omega
          have e2 : F + ((i + 1 : Nat) : Int) - 1 = x := by omega
          refine ⟨by rw [List.length_append, HP1.out, HYL.out], ?_, ?_, ?_⟩
          · have := HP2.out
            rw [hx, densB_here, HYP.out] at this
            rw [e1, HMI.out, ← this]; simp
          · rw [e2]; exact HCT.out
          · rw [e2]; exact HLD.out
        clear hx HP2 HP3 HP1 HCT HLD HMI
        go_wp2_with fail
        refine PY.out.mono ?_
        rintro e w6 ⟨a6, c6, rfl, o6, k6⟩
        obtain ⟨g6, rfl⟩ := mine_some o6 lY0
        have R6 := hide (o6.row8 (by omega) HPY.out)
        have S6 : Hid (Src 5 .u8 w6 w.heap.size ab nb cb pre) := Or.inl (HO.out.below k6 (Nat.le_refl _))
        have K6 : Hid (Below w.heap.size w w6) := bel_to HB.out (Nat.le_refl _) k6
        have HW6 : Hid (w.heap.size ≤ w6.heap.size) := K6.out.size
        clear o6 k6 HO HB PY g0 g1
        go_wp2_with (at_builtin; refine wpList_append_src _ rfl _ _ 40 rfl w.heap.size 5 i0 1 Tryz.underlying40 HI.out.1 HI.out.2.1 HI.out.2.2.1 HI.out.2.2.2 ab nb cb pre rfl S6.out ⟨g6, 0, none⟩ LY c6 PYs rfl lY0 R6.out (by omega) (by decide) HW6.out ?_)
        intro a7 c7 w7 o7 b7
        have O7 := hide o7
        have K7 : Hid (Below w.heap.size w w7) := K6.out.trans b7
        clear o7 b7 S6 R6 K6 HW6 HGC
        go_wp2
        go_roundw
        case rel => exact ⟨a7, nb + LY, c7, k + 1, i + 1, _, rfl, by go_num, by go_num, by omega, by omega, by omega, HN, O7, K7⟩
        case measure => simp [intOf]; omega
      · have t1 : (x == F + (i : Int)) = false := by simpa using hx
        have HN : Hid ((pre ++ [0]).length = nb + 1 ∧ (pre ++ [0]) ++ densB (F + ((i + 1 : Nat) : Int)) (N - (i + 1)) (l.drop k) = M ∧ checkF (F + ((i + 1 : Nat) : Int) - 1) (l.drop k) = true ∧ lastD (F + ((i + 1 : Nat) : Int) - 1) (l.drop k) = F + N - 1) := by
          have e1 : F + ((i + 1 : Nat) : Int) = F + i + 1 := by omega
          have hD : l.drop k = (x, y) :: l.drop (k + 1) := HDX.out
          refine ⟨by rw [List.length_append, HP1.out]; rfl, ?_, ?_, ?_⟩
          · have := HP2.out
            rw [densB_skip (by omega)] at this
            rw [hD, e1, HMI.out, ← this]; simp
          · rw [hD]; exact checkF_last HP3.out (by omega)
          · rw [hD, lastD]; exact HLD.out
        have T6 : Hid (Row .u8 (wr.alloc (.cells #[.int .u8 0] 5)) (some ⟨wr.heap.size, 0, none⟩) 1 [0]) := one_row wr 0 (by decide) _ _
        have S6 : Hid (Src 5 .u8 (wr.alloc (.cells #[.int .u8 0] 5)) w.heap.size ab nb cb pre) := Or.inl (HO.out.alloc _)
        have K6 : Hid (Below w.heap.size w (wr.alloc (.cells #[.int .u8 0] 5))) := bel_al HB.out (Nat.le_refl _) _
        have HW6 : Hid (w.heap.size ≤ (wr.alloc (.cells #[.int .u8 0] 5)).heap.size) := K6.out.size
        clear hx HP2 HP3 HP1 HCT HLD HMI HO HB
        go_wp2_with (at_builtin; refine wpList_append_src _ rfl _ _ 40 rfl w.heap.size 5 i0 1 Tryz.underlying40 HI.out.1 HI.out.2.1 HI.out.2.2.1 HI.out.2.2.2 ab nb cb pre rfl S6.out ⟨wr.heap.size, 0, none⟩ 1 1 [0] rfl (by decide) T6.out (by omega) (by decide) HW6.out ?_)
        intro a7 c7 w7 o7 b7
        have O7 := hide o7
        have K7 : Hid (Below w.heap.size w w7) := K6.out.trans b7
        clear o7 b7 S6 T6 K6 HW6 HGC g0 g1
        go_wp2
        go_roundw
        case rel => exact ⟨a7, nb + 1, c7, k, i + 1, _, rfl, rfl, by go_num, by omega, by omega, by omega, HN, O7, K7⟩
        case measure => simp [intOf]; omega
    · have : i = N := by omega
      subst this
      have HE : Hid (pre = M ∧ M.length = nb) := by
        have := HP.out.2.1
        rw [Nat.sub_self, densB, List.append_nil] at this
        exact ⟨this, by rw [← this]; exact HP.out.1⟩
      have na : ¬ ((i : Int) < LA - F + 1) := by have := HNE.out; omega
      rw [HE.out.1] at HO
      go_wp2
      go_ret
      rw [HE.out.2]
      exact ⟨ab, cb, rfl, HO, HB⟩
theorem putH_dense {l : Bks} (h : l ≠ []) (h1 : (denseS l).length < (sparseS l).length) : putH l = denseS l := by unfold putH; rw [if_pos ⟨h, h1⟩]
theorem putH_sparse {l : Bks} (h : l = [] ∨ ¬ (denseS l).length < (sparseS l).length) : putH l = sparseS l := by
  unfold putH
  rw [if_neg]
  rintro ⟨h1, h2⟩
  rcases h with h | h
  · exact h1 h
  · exact h h2

set_option maxHeartbeats 2000000 in
theorem refputH_any (a : Option Addr) (n cap : Nat) (l : Bks) (w : World) (hr : RowB w a n l) (hck : checkS l = true) :
    Calls Tryz.prog 130 #[.slice a n cap] w fun e w' => ∃ a' c', e = .returned (.slice a' (putH l).length c') ∧ Mine w' w.heap.size a' (putH l).length c' (putH l) ∧ Below w.heap.size w w' := by
  have S := hide (refsparse_any a n cap l w hr hck)
  have hl := hr.1
  have hg : Good l := ⟨hck, fit_words hr.2.2.1⟩
  have HR := hide hr
  by_cases h0 : n = 0
  · subst h0
    have hz : l = [] := List.length_eq_zero_iff.1 hl
    rw [putH_sparse (Or.inl hz)]
    generalize sparseS l = X at *
    have D := hide (refdense_none a cap)
    clear hr hz hl
    go_enter Tryz.func130, Tryz.ntmps130
    go_wp2_with fail
    refine S.out.mono ?_
    rintro e w1 ⟨a1, c1, rfl, o1, k1⟩
    go_wp2_with fail
    refine (D.out _).mono ?_
    rintro e w2 ⟨rfl, rfl⟩
    have O1 := hide o1
    have K1 := hide k1
    clear o1 k1 S D
    go_wp2
    go_ret
    exact ⟨a1, c1, rfl, O1, K1⟩
  · have hne : l ≠ [] := by rintro rfl; simp at hl; omega
    have D := hide (fun w1 (hb : Below w.heap.size w w1) => refdense_any a n cap l w1 (hr.below hb (Nat.le_refl _)) hck (by omega))
    have hd0 : 1 ≤ (denseS l).length := by simp [denseS]
    by_cases hlt : (denseS l).length < (sparseS l).length
    · rw [putH_dense hne hlt]
      have t1 : ((denseS l).length : Int) < ((sparseS l).length : Int) := by omega
      generalize sparseS l = X at *
      generalize denseS l = Y at *
      generalize X.length = LX at *
      generalize Y.length = LY at *
      have t0 : (0 : Int) < (LY : Int) := by omega
      clear hr hl hne hlt
      go_enter Tryz.func130, Tryz.ntmps130
      go_wp2_with fail
      refine S.out.mono ?_
      rintro e w1 ⟨a1, c1, rfl, o1, k1⟩
      have D1 := hide (D.out w1 k1)
      have K1 := hide k1
      clear o1 k1 S D
      go_wp2_with fail
      refine D1.out.mono ?_
      rintro e w2 ⟨a2, c2, rfl, o2, k2⟩
      have O2 := hide (o2.mono K1.out.size)
      have K2 : Hid (Below w.heap.size w w2) := bel_to K1.out (Nat.le_refl _) k2
      clear o2 k2 D1
      go_wp2
      go_ret
      exact ⟨a2, c2, rfl, O2, K2⟩
    · rw [putH_sparse (Or.inr hlt)]
      have t1 : ¬ ((denseS l).length : Int) < ((sparseS l).length : Int) := by omega
      generalize sparseS l = X at *
      generalize denseS l = Y at *
      generalize X.length = LX at *
      generalize Y.length = LY at *
      have t0 : (0 : Int) < (LY : Int) := by omega
      clear hr hl hne hlt
      go_enter Tryz.func130, Tryz.ntmps130
      go_wp2_with fail
      refine S.out.mono ?_
      rintro e w1 ⟨a1, c1, rfl, o1, k1⟩
      have D1 := hide (D.out w1 k1)
      have K1 := hide k1
      have O1 := hide o1
      clear o1 k1 S D
      go_wp2_with fail
      refine D1.out.mono ?_
      rintro e w2 ⟨a2, c2, rfl, o2, k2⟩
      have O2 := hide (O1.out.below k2 (Nat.le_refl _))
      have K2 : Hid (Below w.heap.size w w2) := bel_to K1.out (Nat.le_refl _) k2
      clear o2 k2 D1 O1
      go_wp2
      go_ret
      exact ⟨a1, c1, rfl, O2, K2⟩
set_option maxHeartbeats 4000000 in
theorem refpput_any (h : Hd) (s : Sp) (w : World) (q : SeeP w h s) (ok : Ok s) :
    Calls Tryz.prog 60 #[(Value.agg #[.slice (Hd.a h) (Hd.n h) (Hd.c h), .slice (Hd.k h) (Hd.m h) (Hd.d h), .int .u64 (Gz.n s.g), .int .u64 (Gz.nans s.g), .int .u64 (Gz.lo s.g), .int .u64 (Gz.hi s.g)])] w fun e w' => ∃ a' c', e = .returned (.slice a' (putP s).length c') ∧ Mine w' w.heap.size a' (putP s).length c' (putP s) ∧ Below w.heap.size w w' := by
  obtain ⟨i0, hi, hz0, hz1, hz2⟩ := info_parts Tryz.info5
  have hP := putP_len ok
  have hs1 := good_size ok.h
  have hk1 := (chk_up ok.k).2
  have hR := putRk_len s.keys
  have hG := putG_len s.g
  have hH := putH_len ok.h
  have BR := hide (putR_byte (l := s.keys) (by omega))
  have BG := hide (putG_byte ok.g)
  obtain ⟨w0, hw0⟩ : ∃ w0, Hid (w.alloc (.cells #[.slice h.a h.n h.c, .slice h.k h.m h.d, .int .u64 s.g.n, .int .u64 s.g.nans, .int .u64 s.g.lo, .int .u64 s.g.hi] 29) = w0) := ⟨_, rfl⟩
  have B : Hid (SBox w0 w.heap.size h s.g) := by rw [← hw0.out]; exact SBox.new w _ _ _
  have L : Hid (Below w.heap.size w w0) := by rw [← hw0.out]; exact (Below.refl _ _).alloc (Nat.le_refl _) _
  have Q := hide (q.below L.out (Nat.le_refl _))
  have C1 := hide (fun W (x : SeeP W h s) => refputH_any h.a h.n h.c s.hist W x.rh ok.h.check)
  have C2 := hide (fun W (x : SeeP W h s) => refrise_any h.k h.m h.d s.keys W (by have := hk1; rw [x.rk.1] at this; omega) x.rk)
  have C3 := hide (fun W => refgput_any s.g W ok.g)
  have EP : Hid ((putH s.hist ++ putR s.keys) ++ putG s.g = putP s) := by show _ = _; unfold putP; rw [List.append_assoc]
  have EL : Hid ((putH s.hist).length + (putR s.keys).length + (putG s.g).length = (putP s).length) := by show _ = _; unfold putP; simp only [List.length_append]; omega
  obtain ⟨LH, hLH⟩ : ∃ x, Hid ((putH s.hist).length = x) := ⟨_, rfl⟩
  obtain ⟨LK, hLK⟩ : ∃ x, Hid ((putR s.keys).length = x) := ⟨_, rfl⟩
  obtain ⟨LG, hLG⟩ : ∃ x, Hid ((putG s.g).length = x) := ⟨_, rfl⟩
  rw [hLH.out] at C1 EL hH
  rw [hLK.out] at C2 EL hR
  rw [hLG.out] at C3 EL hG
  rw [← EL.out, ← EP.out]
  generalize putH s.hist = ZH at *
  generalize putR s.keys = ZK at *
  generalize putG s.g = ZG at *
  obtain ⟨k, hk⟩ : ∃ k, Hid (w.heap.size = k) := ⟨_, rfl⟩
  rw [hk.out] at B
  have BL : Hid (k < w0.heap.size) := B.out.lt
  have hb1 : LH ≤ 100000 := by omega
  have hb2 : LK ≤ 20000 := by omega
  have hb3 : LG ≤ 100 := by omega
  clear q ok EP EL hP hR hG hH hs1 hk1
  go_enter Tryz.func60, Tryz.ntmps60
  go_upto_region 1 with fail
  rw [hw0.out, hk.out]
  clear hw0
  obtain ⟨_, ⟨c0, c1, c2, c3, c4, c5⟩, _⟩ := B.out
  go_wp2_with fail
  with_reducible refine (C1.out _ Q.out).mono ?_
  rintro e v1 ⟨a1, k1, rfl, o1, b1⟩
  have O1 := hide o1
  have L1 : Hid (Below w0.heap.size w0 v1) := b1
  have B1 := hide (B.out.below b1 B.out.lt)
  have Q1 := hide (Q.out.below b1 (Nat.le_refl _))
  clear o1 b1 c0 c1 c2 c3 c4 c5 B Q C1
  obtain ⟨_, ⟨c0, c1, c2, c3, c4, c5⟩, _⟩ := B1.out
  go_wp2_with fail
  with_reducible refine (C2.out _ Q1.out).mono ?_
  rintro e v2 ⟨a2, k2, rfl, o2, b2⟩
  have O2 := hide (O1.out.below b2 (Nat.le_refl _))
  have R2 := hide (o2.row (by omega) (fits_wf BR.out))
  have N2 := hide (Own.capped o2).2
  have L2 : Hid (Below w0.heap.size w0 v2) := bel_to L1.out (Nat.le_refl _) b2
  have B2 := hide (B1.out.below b2 B1.out.lt)
  clear o2 b2 c0 c1 c2 c3 c4 c5 B1 Q1 C2 O1 L1
  go_wp2_with (at_builtin; refine wpList_append_row _ rfl _ _ 40 rfl w0.heap.size 5 i0 Tryz.underlying40 hi hz0 hz1 hz2 a1 LH k1 ZH rfl O2.out a2 LK k2 ZK rfl R2.out N2.out (by omega) L2.out.size ?_)
  intro a3 k3 v3 o3 b3
  have O3 := hide o3
  have L3 : Hid (Below w0.heap.size w0 v3) := L2.out.trans b3
  have B3 := hide (B2.out.below b3 BL.out)
  clear o3 b3 R2 N2 L2 B2 O2
  obtain ⟨_, ⟨c0, c1, c2, c3, c4, c5⟩, _⟩ := B3.out
  go_wp2_with fail
  with_reducible refine (C3.out _).mono ?_
  rintro e v4 ⟨a4, k4, rfl, o4, b4⟩
  have O4 := hide (O3.out.below b4 (Nat.le_refl _))
  have R4 := hide (o4.row (by omega) (fits_wf BG.out))
  have N4 := hide (Own.capped o4).2
  have L4 : Hid (Below w0.heap.size w0 v4) := bel_to L3.out (Nat.le_refl _) b4
  clear o4 b4 c0 c1 c2 c3 c4 c5 B3 C3 O3 L3
  go_wp2_with (at_builtin; refine wpList_append_row _ rfl _ _ 40 rfl w0.heap.size 5 i0 Tryz.underlying40 hi hz0 hz1 hz2 a3 (LH + LK) k3 (ZH ++ ZK) rfl O4.out a4 LG k4 ZG rfl R4.out N4.out (by omega) L4.out.size ?_)
  intro a5 k5 v5 o5 b5
  have O5 := hide (o5.mono L.out.size)
  have L5 : Hid (Below w.heap.size w v5) := bel_to L.out (Nat.le_refl _) (L4.out.trans b5)
  clear o5 b5
  go_wp2
  go_ret
  exact ⟨a5, k5, rfl, by rw [List.append_assoc]; exact O5.out, L5.out⟩

section
variable {w W W' : World} {g x y : Nat} {a : Option Addr} {n cap : Nat} {p p' : Int} {bad bad' : Bool} {h : Hd} {s : Sp}
end
set_option linter.unusedVariables false
set_option maxHeartbeats 400000 in
theorem refint_any (v : Int) (w : World) (hv : (Lit.int .i64 v).wf = true) :
    Calls Tryz.prog 57 #[.int .i64 v] w fun e w' => ∃ a' c', e = .returned (.slice a' (putS (zig v)).length c') ∧ Mine w' w.heap.size a' (putS (zig v)).length c' (putS (zig v)) ∧ Below w.heap.size w w' := by
  obtain ⟨v0, v1⟩ := i64_of_wf hv
  have B : Hid (∀ u, u = zig v → Calls Tryz.prog 58 #[.int .u64 u] w fun e w' => ∃ a' c', e = .returned (.slice a' (putS (zig v)).length c') ∧ Mine w' w.heap.size a' (putS (zig v)).length c' (putS (zig v)) ∧ Below w.heap.size w w') := by
    rintro u rfl
    exact refput_any (zig v) w (zig_word v0 v1)
  have E1 : Hid (zig v = if v < 0 then -2 * v - 1 else 2 * v) := rfl
  clear hv
  generalize zig v = Z at *
  generalize putS Z = S at *
  generalize S.length = L at *
  by_cases h : v < 0
  · go_enter Tryz.func57, Tryz.ntmps57
    go_wp2_with fail
    refine (B.out _ (by rw [E1.out, if_pos (by omega)]; omega)).mono ?_
    rintro e w' ⟨a', cap', rfl, h1, h2⟩
    have H1 := hide h1
    clear h1
    go_wp2
    go_ret
    exact ⟨a', cap', rfl, H1.out, h2⟩
  · go_enter Tryz.func57, Tryz.ntmps57
    go_wp2_with fail
    refine (B.out _ (by rw [E1.out, if_neg (by omega)]; omega)).mono ?_
    rintro e w' ⟨a', cap', rfl, h1, h2⟩
    have H1 := hide h1
    clear h1
    go_wp2
    go_ret
    exact ⟨a', cap', rfl, H1.out, h2⟩

theorem keepY {w0 v v' : World} {k B : Nat} {c0 c1 : Value} (hb : Below B v v') (q : (v.cell? ⟨k, 0, none⟩ = some c0 ∧ v.cell? ⟨k, 1, none⟩ = some c1) ∧ Hid (k < B ∧ B ≤ v.heap.size ∧ Below B w0 v)) : (v'.cell? ⟨k, 0, none⟩ = some c0 ∧ v'.cell? ⟨k, 1, none⟩ = some c1) ∧ Hid (k < B ∧ B ≤ v'.heap.size ∧ Below B w0 v') := by
  obtain ⟨⟨c0, c1⟩, l1, l2, l3⟩ := q
  exact ⟨⟨(hb.cell l1).trans c0, (hb.cell l1).trans c1⟩, l1, Nat.le_trans l2 hb.size, l3.trans hb⟩

set_option maxHeartbeats 16000000 in
theorem refPutRec_one (S : Nat → Prop) (x : RecX) (h : RecH) (w : World) (q : SeeR S w x h) (h1 : x.kind = 1) (hl : chkL x.l = true) (hp : chkP x.sk = true) :
    Calls Tryz.prog 13 #[(Value.agg #[.int .i64 (RecX.seq x), .int .i64 (RecX.kind x), .slice (RecH.la h) (RecH.ln h) (RecH.lc h), .int .i64 (RecX.at9 x), .slice (Hd.a (RecH.sk h)) (Hd.n (RecH.sk h)) (Hd.c (RecH.sk h)), .slice (Hd.k (RecH.sk h)) (Hd.m (RecH.sk h)) (Hd.d (RecH.sk h)), .int .u64 (Gz.n (Sp.g (RecX.sk x))), .int .u64 (Gz.nans (Sp.g (RecX.sk x))), .int .u64 (Gz.lo (Sp.g (RecX.sk x))), .int .u64 (Gz.hi (Sp.g (RecX.sk x))), .int .i64 (RecX.tseq x), .int .i64 (Hm.op (RecH.m h)), .string (Hm.nm (RecH.m h)), .string (Hm.vl (RecH.m h)), .slice (Hm.va (RecH.m h)) (Hm.vn (RecH.m h)) (Hm.vc (RecH.m h)), .slice (Hm.ka (RecH.m h)) (Hm.kn (RecH.m h)) (Hm.kc (RecH.m h)), .int .i64 (RecX.frm x), .int .i64 (RecX.till x)])] w fun e w' => ∃ a' c', e = .returned (.slice a' (putRc (rcX x)).length c') ∧ Mine w' w.heap.size a' (putRc (rcX x)).length c' (putRc (rcX x)) ∧ Below w.heap.size w w' := by
  obtain ⟨i0, hi, hz0, hz1, hz2⟩ := info_parts Tryz.info5
  have hs := putS_len (zig x.seq)
  have BS := hide (zig_b8 q.wsq)
  obtain ⟨w0, hw0⟩ : ∃ w0, Hid (w.alloc (.cells ([.int .i64 (RecX.seq x), .int .i64 (RecX.kind x), .slice (RecH.la h) (RecH.ln h) (RecH.lc h), .int .i64 (RecX.at9 x), .slice (Hd.a (RecH.sk h)) (Hd.n (RecH.sk h)) (Hd.c (RecH.sk h)), .slice (Hd.k (RecH.sk h)) (Hd.m (RecH.sk h)) (Hd.d (RecH.sk h)), .int .u64 (Gz.n (Sp.g (RecX.sk x))), .int .u64 (Gz.nans (Sp.g (RecX.sk x))), .int .u64 (Gz.lo (Sp.g (RecX.sk x))), .int .u64 (Gz.hi (Sp.g (RecX.sk x))), .int .i64 (RecX.tseq x), .int .i64 (Hm.op (RecH.m h)), .string (Hm.nm (RecH.m h)), .string (Hm.vl (RecH.m h)), .slice (Hm.va (RecH.m h)) (Hm.vn (RecH.m h)) (Hm.vc (RecH.m h)), .slice (Hm.ka (RecH.m h)) (Hm.kn (RecH.m h)) (Hm.kc (RecH.m h)), .int .i64 (RecX.frm x), .int .i64 (RecX.till x)]).toArray 39) = w0) := ⟨_, rfl⟩
  have B : Hid (BoxV w0 w.heap.size 39 [.int .i64 (RecX.seq x), .int .i64 (RecX.kind x), .slice (RecH.la h) (RecH.ln h) (RecH.lc h), .int .i64 (RecX.at9 x), .slice (Hd.a (RecH.sk h)) (Hd.n (RecH.sk h)) (Hd.c (RecH.sk h)), .slice (Hd.k (RecH.sk h)) (Hd.m (RecH.sk h)) (Hd.d (RecH.sk h)), .int .u64 (Gz.n (Sp.g (RecX.sk x))), .int .u64 (Gz.nans (Sp.g (RecX.sk x))), .int .u64 (Gz.lo (Sp.g (RecX.sk x))), .int .u64 (Gz.hi (Sp.g (RecX.sk x))), .int .i64 (RecX.tseq x), .int .i64 (Hm.op (RecH.m h)), .string (Hm.nm (RecH.m h)), .string (Hm.vl (RecH.m h)), .slice (Hm.va (RecH.m h)) (Hm.vn (RecH.m h)) (Hm.vc (RecH.m h)), .slice (Hm.ka (RecH.m h)) (Hm.kn (RecH.m h)) (Hm.kc (RecH.m h)), .int .i64 (RecX.frm x), .int .i64 (RecX.till x)]) := by rw [← hw0.out]; exact BoxV.new w _ _
  have L : Hid (Below w.heap.size w w0) := by rw [← hw0.out]; exact (Below.refl _ _).alloc (Nat.le_refl _) _
  have Q := hide (q.below L.out (Nat.le_refl _))
  obtain ⟨k, hk⟩ : ∃ k, Hid (w.heap.size = k) := ⟨_, rfl⟩
  rw [hk.out] at B
  have S0 : Hid ((w0.drew.cell? ⟨k, 0, none⟩ = some (.int .i64 x.seq) ∧ w0.drew.cell? ⟨k, 1, none⟩ = some (.int .i64 x.kind)) ∧ Hid (k < w0.heap.size ∧ w0.heap.size ≤ w0.drew.heap.size ∧ Below w0.heap.size w0 w0.drew)) :=
    ⟨⟨B.out.cell rfl, B.out.cell rfl⟩, B.out.lt, Nat.le_refl _, (Below.refl _ _).drew⟩
  have ZZ : Hid (w0.heap.size ≤ w0.drew.heap.size) := Nat.le_refl _
  have KL : Hid (k < w0.heap.size) := B.out.lt
  have SL := hide (fun W (b : Below w0.heap.size w0 W) => Q.out.below b (Nat.le_refl _))
  have C1 := hide (fun W => refint_any x.seq W q.wsq)
  have e : putRc (rcX x) = putS (zig x.seq) ++ (putS 1 ++ (putL x.l ++ (putS (zig x.at9) ++ putP x.sk))) := by
    unfold rcX
    rw [if_pos h1]
    rfl
  have hs0 := smL_of hl
  have ok := ok_of q.row.sk hp
  have n1 := putL_fit hs0
  have n2 := putS_len (zig x.at9)
  have n3 := putP_len ok
  have R1 := hide n1.2.2
  have R2 := hide (zig_b8 q.row.wat)
  have R3 := hide (putP_byte ok)
  have D1 := hide (fun W (y : SeeR S W x h) => reflput_any h.la h.ln h.lc x.l W y.row.rl hs0)
  have D2 := hide (fun W => refint_any x.at9 W q.row.wat)
  have D3 := hide (fun W (y : SeeR S W x h) => refpput_any h.sk x.sk W y.row.sk ok)
  have s2 := putS_len 1
  have BK : Hid (Bytes8 (putS 1)) := putS_byte w64_sm
  have C2 := hide (fun W => refput_any 1 W w64_sm)
  have EW : Hid (IntKind.u64.wrap 1 = 1) := by show _ = _; decide
  rw [e]
  obtain ⟨Z0, hZ0⟩ : ∃ z, Hid (putS (zig x.seq) = z) := ⟨_, rfl⟩
  obtain ⟨lZ0, hlZ0⟩ : ∃ z, Hid (Z0.length = z) := ⟨_, rfl⟩
  obtain ⟨ZK, hZK⟩ : ∃ z, Hid (putS 1 = z) := ⟨_, rfl⟩
  obtain ⟨lZK, hlZK⟩ : ∃ z, Hid (ZK.length = z) := ⟨_, rfl⟩
  obtain ⟨Z1, hZ1⟩ : ∃ z, Hid (putL x.l = z) := ⟨_, rfl⟩
  obtain ⟨lZ1, hlZ1⟩ : ∃ z, Hid (Z1.length = z) := ⟨_, rfl⟩
  obtain ⟨Z2, hZ2⟩ : ∃ z, Hid (putS (zig x.at9) = z) := ⟨_, rfl⟩
  obtain ⟨lZ2, hlZ2⟩ : ∃ z, Hid (Z2.length = z) := ⟨_, rfl⟩
  obtain ⟨Z3, hZ3⟩ : ∃ z, Hid (putP x.sk = z) := ⟨_, rfl⟩
  obtain ⟨lZ3, hlZ3⟩ : ∃ z, Hid (Z3.length = z) := ⟨_, rfl⟩
  rw [hZ0.out] at C1 hs BS
  rw [hlZ0.out] at C1 hs
  rw [hZK.out] at C2 s2 BK
  rw [hlZK.out] at C2 s2
  rw [hZ1.out] at D1 n1 R1
  rw [hlZ1.out] at D1 n1
  rw [hZ2.out] at D2 n2 R2
  rw [hlZ2.out] at D2 n2
  rw [hZ3.out] at D3 n3 R3
  rw [hlZ3.out] at D3 n3
  rw [hZ0.out, hZK.out, hZ1.out, hZ2.out, hZ3.out]
  have EP : Hid (Z0 ++ ZK ++ Z1 ++ Z2 ++ Z3 = Z0 ++ (ZK ++ (Z1 ++ (Z2 ++ Z3)))) := by show _ = _; simp only [List.append_assoc]
  have EL : Hid (lZ0 + lZK + lZ1 + lZ2 + lZ3 = (Z0 ++ (ZK ++ (Z1 ++ (Z2 ++ Z3)))).length) := by show _ = _; simp only [List.length_append]; rw [hlZ0.out, hlZK.out, hlZ1.out, hlZ2.out, hlZ3.out]; omega
  rw [← EP.out] at EL ⊢
  rw [← EL.out]
  obtain ⟨Y0, hY0⟩ : ∃ y, Hid (Z0 ++ ZK = y) := ⟨_, rfl⟩
  rw [hY0.out]
  obtain ⟨Y1, hY1⟩ : ∃ y, Hid (Y0 ++ Z1 = y) := ⟨_, rfl⟩
  rw [hY1.out]
  obtain ⟨Y2, hY2⟩ : ∃ y, Hid (Y1 ++ Z2 = y) := ⟨_, rfl⟩
  rw [hY2.out]
  obtain ⟨Y3, hY3⟩ : ∃ y, Hid (Y2 ++ Z3 = y) := ⟨_, rfl⟩
  rw [hY3.out]
  have b0 : lZ0 ≤ 10 := by omega
  have b1 : lZK ≤ 10 := by omega
  have b2 : lZ1 ≤ 200000 := by omega
  have b3 : lZ2 ≤ 200000 := by omega
  have b4 : lZ3 ≤ 200000 := by omega
  have bK1 : 0 < lZK := by omega
  clear hl hp hs0 ok hs n1 n2 n3 s2 q e EP EL hZ0 hZK hZ1 hZ2 hZ3
  rw [h1] at hw0 B S0 ⊢
  go_enter Tryz.func13, Tryz.ntmps13
  go_upto_region 1 with fail
  rw [hw0.out, hk.out]
  clear hw0
  go_region_held3 (fun w' => (w'.cell? ⟨k, 0, none⟩ = some (.int .i64 x.seq) ∧ w'.cell? ⟨k, 1, none⟩ = some (.int .i64 1)) ∧ Hid (k < w0.heap.size ∧ w0.heap.size ≤ w'.heap.size ∧ Below w0.heap.size w0 w')) (first | with_reducible exact S0.out | with_reducible exact keepX (by assumption) (by assumption) | with_reducible exact keepY (by assumption) (by assumption)) (first
    | (go_at_call 57; with_reducible refine (C1.out _).mono ?_; rintro e v1 ⟨a1, c1, rfl, o1, b1⟩; have O1 := hide (o1.mono ZZ.out))
    | (go_at_call 58; rw [EW.out]; with_reducible refine (C2.out _).mono ?_; rintro e v2 ⟨a2, c2, rfl, o2, b2⟩; have O2 := hide (o2.row (by omega) (fits_wf BK.out)); have O1' := hide (O1.out.below b2 (Nat.le_refl _)); have z2 := hide (Nat.le_trans ZZ.out (Nat.le_trans b1.size b2.size)))
    | (refine wp_append_mine _ _ 40 rfl w0.heap.size 5 i0 Tryz.underlying40 hi hz0 hz1 hz2 a1 lZ0 c1 Z0 rfl O1'.out a2 lZK c2 ZK rfl bK1 O2.out (by omega) z2.out ?_; intro a3 c3 v3 o3 b3; rw [hY0.out] at o3; have O3 := hide o3))
  have L3 : Hid (Below w0.heap.size w0 v3) := (bel_to (bel_to (Below.refl w0.heap.size w0).drew (Nat.le_refl _) b1) (Nat.le_refl _) b2).trans b3
  have B3 := hide (B.out.below L3.out B.out.lt)
  have Q3 := hide (Q.out.below L3.out (Nat.le_refl _))
  clear b1 b2 b3 o1 o2 o3 O1 O1' O2 C1 C2 S0 B Q z2
  have d1 := B3.out.cell (i := 1) rfl
  have d2 := B3.out.cell (i := 2) rfl
  have d3 := B3.out.cell (i := 3) rfl
  have d4 := B3.out.cell (i := 4) rfl
  have d5 := B3.out.cell (i := 5) rfl
  have d6 := B3.out.cell (i := 6) rfl
  have d7 := B3.out.cell (i := 7) rfl
  have d8 := B3.out.cell (i := 8) rfl
  have d9 := B3.out.cell (i := 9) rfl
  go_wp2_with fail
  with_reducible refine (D1.out _ Q3.out).mono ?_
  rintro e v4 ⟨a4, c4, rfl, o4, b4⟩
  have O4 := hide (O3.out.below b4 (Nat.le_refl _))
  have R4' := hide (o4.row (by omega) (fits_wf R1.out))
  have N4 := hide (Own.capped o4).2
  have L4 : Hid (Below w0.heap.size w0 v4) := bel_to L3.out (Nat.le_refl _) b4
  have B4 := hide (B3.out.below b4 B3.out.lt)
  have Q4 := hide (Q3.out.below b4 (Nat.le_refl _))
  clear o4 b4 d1 d2 d3 d4 d5 d6 d7 d8 d9 B3 Q3 O3 L3 D1
  go_wp2_with (at_builtin; refine wpList_append_row _ rfl _ _ 40 rfl w0.heap.size 5 i0 Tryz.underlying40 hi hz0 hz1 hz2 a3 (lZ0 + lZK) c3 (Y0) rfl O4.out a4 lZ1 c4 Z1 rfl R4'.out N4.out (by omega) L4.out.size ?_)
  intro a5 c5 v5 o5 b5
  rw [hY1.out] at o5
  have O5 := hide o5
  have L5 : Hid (Below w0.heap.size w0 v5) := L4.out.trans b5
  have B5 := hide (B4.out.below b5 KL.out)
  have Q5 := hide (SL.out _ L5.out)
  clear o5 b5 B4 Q4 O4 L4 R4' N4
  have d1 := B5.out.cell (i := 1) rfl
  have d2 := B5.out.cell (i := 2) rfl
  have d3 := B5.out.cell (i := 3) rfl
  have d4 := B5.out.cell (i := 4) rfl
  have d5 := B5.out.cell (i := 5) rfl
  have d6 := B5.out.cell (i := 6) rfl
  have d7 := B5.out.cell (i := 7) rfl
  have d8 := B5.out.cell (i := 8) rfl
  have d9 := B5.out.cell (i := 9) rfl
  go_wp2_with fail
  with_reducible refine (D2.out _).mono ?_
  rintro e v6 ⟨a6, c6, rfl, o6, b6⟩
  have O6 := hide (O5.out.below b6 (Nat.le_refl _))
  have R6' := hide (o6.row (by omega) (fits_wf R2.out))
  have N6 := hide (Own.capped o6).2
  have L6 : Hid (Below w0.heap.size w0 v6) := bel_to L5.out (Nat.le_refl _) b6
  have B6 := hide (B5.out.below b6 B5.out.lt)
  have Q6 := hide (Q5.out.below b6 (Nat.le_refl _))
  clear o6 b6 d1 d2 d3 d4 d5 d6 d7 d8 d9 B5 Q5 O5 L5 D2
  go_wp2_with (at_builtin; refine wpList_append_row _ rfl _ _ 40 rfl w0.heap.size 5 i0 Tryz.underlying40 hi hz0 hz1 hz2 a5 (lZ0 + lZK + lZ1) c5 (Y1) rfl O6.out a6 lZ2 c6 Z2 rfl R6'.out N6.out (by omega) L6.out.size ?_)
  intro a7 c7 v7 o7 b7
  rw [hY2.out] at o7
  have O7 := hide o7
  have L7 : Hid (Below w0.heap.size w0 v7) := L6.out.trans b7
  have B7 := hide (B6.out.below b7 KL.out)
  have Q7 := hide (SL.out _ L7.out)
  clear o7 b7 B6 Q6 O6 L6 R6' N6
  have d1 := B7.out.cell (i := 1) rfl
  have d2 := B7.out.cell (i := 2) rfl
  have d3 := B7.out.cell (i := 3) rfl
  have d4 := B7.out.cell (i := 4) rfl
  have d5 := B7.out.cell (i := 5) rfl
  have d6 := B7.out.cell (i := 6) rfl
  have d7 := B7.out.cell (i := 7) rfl
  have d8 := B7.out.cell (i := 8) rfl
  have d9 := B7.out.cell (i := 9) rfl
  go_wp2_with fail
  with_reducible refine (D3.out _ Q7.out).mono ?_
  rintro e v8 ⟨a8, c8, rfl, o8, b8⟩
  have O8 := hide (O7.out.below b8 (Nat.le_refl _))
  have R8' := hide (o8.row (by omega) (fits_wf R3.out))
  have N8 := hide (Own.capped o8).2
  have L8 : Hid (Below w0.heap.size w0 v8) := bel_to L7.out (Nat.le_refl _) b8
  have B8 := hide (B7.out.below b8 B7.out.lt)
  have Q8 := hide (Q7.out.below b8 (Nat.le_refl _))
  clear o8 b8 d1 d2 d3 d4 d5 d6 d7 d8 d9 B7 Q7 O7 L7 D3
  go_wp2_with (at_builtin; refine wpList_append_row _ rfl _ _ 40 rfl w0.heap.size 5 i0 Tryz.underlying40 hi hz0 hz1 hz2 a7 (lZ0 + lZK + lZ1 + lZ2) c7 (Y2) rfl O8.out a8 lZ3 c8 Z3 rfl R8'.out N8.out (by omega) L8.out.size ?_)
  intro a9 c9 v9 o9 b9
  rw [hY3.out] at o9
  have O9 := hide o9
  have L9 : Hid (Below w0.heap.size w0 v9) := L8.out.trans b9
  have B9 := hide (B8.out.below b9 KL.out)
  have Q9 := hide (SL.out _ L9.out)
  clear o9 b9 B8 Q8 O8 L8 R8' N8
  go_wp2
  go_ret
  exact ⟨a9, c9, rfl, O9.out.mono L.out.size, L.out.trans (L9.out.mono L.out.size)⟩
set_option maxHeartbeats 2000000 in
set_option maxRecDepth 100000 in
theorem refframe_any (b : Option Addr) (m capb : Nat) (bs : List Int) (w : World) (hr : Row .u8 w b m bs) (hb : b = none → capb = 0) (hm : m ≤ 1048576) :
    Calls Tryz.prog 40 #[.slice b m capb] w fun e w' => ∃ a' cap', e = .returned (.slice a' (frameS bs).length cap') ∧ Mine w' w.heap.size a' (frameS bs).length cap' (frameS bs) ∧ Below w.heap.size w w' := by
  obtain ⟨i0, hi, hz0, hz1, hz2⟩ := info_parts Tryz.info5
  have M := hide (srefof_any b m capb bs w hr)
  have P := hide (refput_any (m : Int) w (w64_len (by omega)))
  have HR := hide hr
  have hq := putS_len (m : Int)
  have hw := moreS_word (s := 0) (by decide) hr.bytes
  have HF : Hid (frameS bs = putS (m : Int) ++ (quad (moreS 0 bs) ++ bs)) := by show _ = _; unfold frameS sumB; rw [hr.1]
  have HFL : Hid ((frameS bs).length = (putS (m : Int)).length + 4 + m) := by show _ = _; rw [frameS_len, hr.1, Nat.add_assoc]
  clear hr
  generalize moreS 0 bs = s at *
  generalize putS (m : Int) = p at *
  generalize frameS bs = F at *
  obtain ⟨q, hqq⟩ : ∃ q, p.length = q := ⟨_, rfl⟩
  rw [hqq] at P hq HFL
  clear hqq
  obtain ⟨s0, s1⟩ := hw
  have HQ : Hid (∀ W : World, Row .u8 (W.alloc (.cells #[.int .u8 (s % 256), .int .u8 (s / 256 % 256), .int .u8 (s / 65536 % 256), .int .u8 (s / 16777216)] 5)) (some ⟨W.heap.size, 0, none⟩) 4 (quad s)) := by
    intro W
    have := four_row W s
    unfold four_ at this
    rwa [show s / 16777216 % 256 = s / 16777216 from by omega] at this
  go_enter Tryz.func40, Tryz.ntmps40
  go_wp2_with fail
  refine M.out.mono ?_
  rintro e w' ⟨rfl, rfl⟩
  go_wp2_with fail
  refine P.out.mono ?_
  rintro e w1 ⟨a1, c1, rfl, o1, k1⟩
  have O1 := hide o1
  have K1 := hide k1
  have hsz := k1.size
  clear o1 k1 M P
  have HQ1 := hide (HQ.out w1)
  have HS : Hid (Src 5 .u8 (w1.alloc (.cells #[.int .u8 (s % 256), .int .u8 (s / 256 % 256), .int .u8 (s / 65536 % 256), .int .u8 (s / 16777216)] 5)) w'.heap.size a1 q c1 p) := Or.inl (O1.out.alloc _)
  have HBW : Hid (w'.heap.size ≤ (w1.alloc (.cells #[.int .u8 (s % 256), .int .u8 (s / 256 % 256), .int .u8 (s / 65536 % 256), .int .u8 (s / 16777216)] 5)).heap.size) := by show _ ≤ _; simp; omega
  go_wp2_with (at_builtin; refine wpList_append_src _ rfl _ _ 40 rfl w'.heap.size 5 i0 1 Tryz.underlying40 hi hz0 hz1 hz2 a1 q c1 p rfl HS.out ⟨w1.heap.size, 0, none⟩ 4 4 (quad s) rfl (by omega) HQ1.out (by omega) (by omega) HBW.out ?_)
  intro a2 c2 w2 o2 k2
  have O2 := hide o2
  have K2 : Hid (Below w'.heap.size w' w2) := (K1.out.alloc hsz _).trans k2
  have RB2 := hide (HR.out.below K2.out (Nat.le_refl _))
  have hsz2 := K2.out.size
  clear o2 k2 O1 K1 HR HS HBW HQ1 HQ
  go_wp2_with (at_builtin; refine wpList_append_row _ rfl _ _ 40 rfl w'.heap.size 5 i0 Tryz.underlying40 hi hz0 hz1 hz2 a2 (q + 4) c2 (p ++ quad s) rfl O2.out b m capb bs rfl RB2.out hb (by omega) hsz2 ?_)
  intro a3 c3 w3 o3 k3
  rw [← HF.out, ← HFL.out] at o3
  have O3 := hide o3
  have K3 : Hid (Below w'.heap.size w' w3) := K2.out.trans k3
  rw [← HFL.out]
  clear o3 k3 O2 K2 RB2
  go_wp2
  go_ret
  exact ⟨a3, c3, rfl, O3, K3⟩
end Go.Proofs.YtknghoecjobkiaaGreatDoor

namespace Go.Proofs.YtknghoecjobkiaaGreatDoor
open Go.RowKit Go.Maps
set_option maxRecDepth 20000
set_option linter.unusedVariables false
def hhV (h : H3) : List Value := [h3V h]
theorem hhV_len (h : H3) : (hhV h).length = 1 := rfl
theorem hhV_one1 (h : H3) : ∀ u ∈ hhV h, u.oneCell' = true := by
  intro u hu
  obtain rfl := List.mem_singleton.1 hu
  rfl
theorem Tryz.infoBB : (Tryz.prog.info? 40).map (fun i => (i.zero, i.size, i.bytes)) = some (some (.slice none 0 0), 1, 24) := by kernel_rfl
abbrev OwnH (w : World) (base : Nat) (a : Option Addr) (n cap : Nat) (l : List H3) : Prop := OwnG 40 1 hhV w base a n cap l
theorem hh_cells (w : World) (h : H3) (e : TypeId) : ∀ ad, (some (⟨w.heap.size, 0, none⟩ : Addr)) = some ad → ∀ j u, ([h].flatMap hhV)[j]? = some u → (w.alloc (.cells #[.slice h.1 h.2.1 h.2.2] e)).cell? (ad.add j) = some u := by
  intro ad ha j u hj
  obtain rfl := Option.some.inj ha
  match j, hj with
  | 0, hj => simp [hhV, h3V] at hj; subst hj; rw [Addr.add_lit, World.cell?_alloc_mark]; rfl
theorem ownS_rowX {w : World} {base n c : Nat} {a : Option Addr} {ss : List ByteArray} (h : OwnVs w base a n c ss) (hn : n ≤ 140737488355328) : RowX w a n ss := by
  refine ⟨OwnG.len stV_len (by decide) h, hn, ?_⟩
  by_cases h0 : n = 0
  · exact Or.inl h0
  · obtain ⟨g, rfl, -, -⟩ := OwnVs.at' h (i := 0) (by omega)
    refine Or.inr ⟨g, 0, rfl, fun i hi => ?_⟩
    obtain ⟨g2, e, -, hc⟩ := OwnVs.at' h hi
    obtain rfl : g = g2 := by simpa using e
    rw [Nat.zero_add]
    exact hc
theorem ownH_at {w : World} {base n c : Nat} {a : Option Addr} {hs : List H3} (h : OwnH w base a n c hs) {i : Nat} {x : H3} (hi : hs[i]? = some x) : ∃ g, a = some ⟨g, 0, none⟩ ∧ i < n ∧ n ≤ c ∧ w.cell? ⟨g, i, none⟩ = some (.slice x.1 x.2.1 x.2.2) := by
  obtain ⟨g, h1, h2, h3, h4⟩ := OwnG.at hhV_len (by decide) h hi
  have := h4 0 _ rfl
  rw [Nat.mul_one, Nat.add_zero] at this
  exact ⟨g, h1, h2, h3, this⟩
theorem ownH_rowBB {w : World} {base n c : Nat} {a : Option Addr} {hs : List H3} {ds : List (List Int)} (h : OwnH w base a n c hs) (hl : ds.length = n) (he : ∀ (i : Nat) (x : H3) (d : List Int), hs[i]? = some x → ds[i]? = some d → OwnVb w base x.1 x.2.1 x.2.2 d ∧ x.2.1 ≤ 281474976710656 ∧ ∀ z ∈ d, 0 ≤ z ∧ z ≤ 255) : RowBB w a n hs ds := by
  have hl2 := OwnG.len hhV_len (by decide) h
  refine ⟨hl, hl2, ?_, fun i x d hi hd => ?_⟩
  · by_cases h0 : n = 0
    · exact Or.inl h0
    · obtain ⟨g, rfl, -, -, -⟩ := ownH_at h (i := 0) (List.getElem?_eq_getElem (show 0 < hs.length by omega))
      refine Or.inr ⟨g, 0, rfl, fun i x hi => ?_⟩
      obtain ⟨g2, e, -, -, hc⟩ := ownH_at h hi
      obtain rfl : g = g2 := by simpa using e
      rw [Nat.zero_add]
      exact hc
  · obtain ⟨q1, q2, q3⟩ := he i x d hi hd
    exact ⟨ownB_row q1 q2 q3, (OwnG.capped q1).1, fun e => ((OwnG.capped q1).2 e).2⟩
def bodyT (m : Nat) : List Int := putRc (rcN ((m : Int) + 1) m)
def lnT (m : Nat) : Nat := (putS ((bodyT m).length : Int)).length
theorem file_split {n m : Nat} (h : m < n) : ∃ ys, fileR (recsT n) = fileR (recsT m) ++ (frameS (bodyT m) ++ ys) := by
  obtain ⟨l, e⟩ := recsT_take n (m + 1) h
  refine ⟨fileR l, ?_⟩
  rw [e, recsT_succ]
  unfold fileR
  rw [List.map_append, List.map_append, laidS_append, laidS_append, List.append_assoc]
  congr 2
  simp [laidS, bodyT]
theorem bodyT_fit {m : Nat} (h : m ≤ 100) : 1 ≤ (bodyT m).length ∧ (bodyT m).length ≤ 1048576 ∧ Bytes8 (bodyT m) := by
  have g := goodT (i := m) (by omega)
  exact ⟨g.lo, by have := g.hi; unfold bodyT; omega, g.by8⟩
/-- A byte turned behind a frame's length. -/
theorem turned_found {n m K : Nat} {x : Int} (hn : n ≤ 10) (hm : m < n) (h1 : lenT m + lnT m ≤ K) (h2 : K < lenT (m + 1)) (hx : 0 ≤ x ∧ x ≤ 255) (hne : x ≠ (fileR (recsT n)).getD K 0) :
    recsW false ((fileR (recsT n)).set K x) = some (recsT m, lenT m) ∧ GrF ((fileR (recsT n)).set K x) ∧ lenT m < ((fileR (recsT n)).set K x).length := by
  obtain ⟨ys, e⟩ := file_split hm
  have hb := bodyT_fit (m := m) (by omega)
  have hg := recsT_good (n := m) (by omega)
  have h3 : lenT (m + 1) = lenT m + (frameS (bodyT m)).length := lenT_succ m
  obtain ⟨j, rfl⟩ : ∃ j, K = lenT m + j := ⟨K - lenT m, by omega⟩
  have e1 : (fileR (recsT n)).set (lenT m + j) x = fileR (recsT m) ++ ((frameS (bodyT m)).set j x ++ ys) := by
    rw [e, List.set_append, if_neg (by unfold lenT; omega), show lenT m + j - (fileR (recsT m)).length = j by unfold lenT; omega, List.set_append, if_pos (by omega)]
  have e2 : (fileR (recsT n)).getD (lenT m + j) 0 = (frameS (bodyT m)).getD j 0 := by
    rw [e, List.getD_eq_getElem?_getD, List.getElem?_append_right (by unfold lenT; omega), show lenT m + j - (fileR (recsT m)).length = j by unfold lenT; omega, List.getElem?_append_left (by omega), ← List.getD_eq_getElem?_getD]
  rw [e2] at hne
  have hno := findS_turned hb.1 hb.2.1 hb.2.2 (fileR (recsT m)) ys (j := j) hx (by unfold lnT at h1; omega) (by omega) hne
  rw [e1]
  refine ⟨recsW_laid (fileR_fr hg) (fileR_get hg) _ hno, grF_fileR hg hno, ?_⟩
  have h4 : 0 < (frameS (bodyT m)).length := by omega
  rw [List.length_append, List.length_append, List.length_set]
  unfold lenT
  omega
/-- The number ahead of a frame's body. -/
theorem num_file {n m : Nat} (h : m < n) (hn : n ≤ 10) : getS (fileR (recsT n)) (lenT m : Int) = some (((bodyT m).length : Int), ((lenT m + lnT m : Nat) : Int)) := by
  obtain ⟨ys, e⟩ := file_split h
  have hb := bodyT_fit (m := m) (by omega)
  rw [e]
  unfold frameS
  rw [List.append_assoc]
  exact getS_at (w64_len (by omega)) (fileR (recsT m)) _
theorem recsW_nil (D : Bool) : recsW D [] = some ([], 0) := by
  unfold recsW recsF
  rw [findS_out (Or.inr (by simp))]
theorem openW_two {a : Int} {X : Fs} {z : List Int} {rs : List Rc} {e : Nat} (h0 : 0 ≤ a) (h1 : a + 2 ≤ 99999999) (hz : recsW false z = some (rs, e)) (he : e < z.length) : openW false (lgC a [z, []] X) a = none := by
  unfold openW
  obtain ⟨f, hf⟩ : ∃ f, (100000000 - a).toNat = f + 1 + 1 := ⟨(100000000 - a).toNat - 2, by omega⟩
  rw [hf]
  have e0 : readF (lgC a [z, []] X) (nmW a) = some z := by
    have := read_lgc (a := a) (bs := [z, []]) (X := X) h0 (by simp; omega) (j := 0) (by simp)
    simpa using this
  have e1 : readF (lgC a [z, []] X) (nmW (a + 1)) = some [] := by
    have := read_lgc (a := a) (bs := [z, []]) (X := X) h0 (by simp; omega) (j := 1) (by simp)
    simpa using this
  rw [goW, e0]
  dsimp only
  unfold stepW
  rw [hz]
  dsimp only
  rw [if_pos (show (ow0 a).cut = -1 from rfl), if_pos he]
  dsimp only
  rw [goW, e1]
  dsimp only
  unfold stepW
  rw [recsW_nil]
  dsimp only
  rw [if_neg (by omega)]
theorem grF_nil : GrF [] := fun k st v _ h => by
  rw [findS_out (Or.inr (by simp))] at h
  cases h
theorem laidF_two {z : List Int} (h : z.length ≤ 1073741824) : laidF [nmW 1, nmW 2] [z, []] = (some (lgC 1 [z, []] fs0), 0) := by
  unfold laidF
  rw [if_neg (by simp), if_neg ?_, if_neg ?_]
  · rfl
  · rintro (h1 | ⟨b, hb, h1⟩)
    · exact absurd h1 (by decide)
    · rcases List.mem_cons.1 hb with rfl | hb
      · omega
      · obtain rfl := List.mem_singleton.1 hb
        simp at h1
  · intro h1
    apply h1
    have hne : ¬ nmW 1 = nmW 2 := fun e => by
      have := nmW_inj (x := 1) (y := 2) (by omega) (by omega) e
      omega
    refine ⟨fun s hs => ?_, by simp [hne]⟩
    rcases List.mem_cons.1 hs with rfl | hs
    · exact nmW_may (by omega) (by omega)
    · obtain rfl := List.mem_singleton.1 hs
      exact nmW_may (by omega) (by omega)
theorem laidF_oneU {z : List Int} (h : z.length ≤ 1073741824) : laidF [nmW 1] [z] = (some (lgR 1 [] z fs0), 0) := by
  unfold laidF
  rw [if_neg (by simp), if_neg ?_, if_neg ?_]
  · rfl
  · rintro (h1 | ⟨b, hb, h1⟩)
    · exact absurd h1 (by decide)
    · obtain rfl := List.mem_singleton.1 hb
      omega
  · intro h1
    apply h1
    refine ⟨fun s hs => ?_, by simp⟩
    obtain rfl := List.mem_singleton.1 hs
    exact nmW_may (by omega) (by omega)
theorem xorI_ne {a b : Int} (a0 : 0 ≤ a) (b0 : 0 < b) : xorI a b ≠ a := by
  obtain ⟨a, rfl⟩ := Int.eq_ofNat_of_zero_le a0
  obtain ⟨b, rfl⟩ := Int.eq_ofNat_of_zero_le (Int.le_of_lt b0)
  unfold xorI
  rw [Int.toNat_natCast, Int.toNat_natCast]
  intro h
  have h1 : a ^^^ b = a := by omega
  have h2 : a ^^^ (a ^^^ b) = a ^^^ a := by rw [h1]
  rw [← Nat.xor_assoc, Nat.xor_self, Nat.zero_xor] at h2
  omega

/-! ### in memory -/
/-- The bytes, and the list of ends. -/
def TuE (base : Nat) (w u : World) (i e : Nat) (ab : Option Addr) (cb : Nat) (ae : Option Addr) (ce : Nat) : Prop := OwnVb u base ab (lenT i) cb (fileR (recsT i)) ∧ Own 3 .i64 u base ae e ce (endsT e) ∧ (∀ j, (Value.slice ab (lenT i) cb).ownBlock = some j → ¬ (Value.slice ae e ce).ownBlock = some j) ∧ Below base w u ∧ base ≤ u.heap.size
theorem tuE_zero (w : World) : TuE w.heap.size w w 0 0 none 0 none 0 := ⟨ownG_nil _ _, World.ownsRow_nil _ _ _ _, fun j hj => by simp [Value.ownBlock] at hj, Below.refl _ _, Nat.le_refl _⟩
section
variable {base : Nat} {w u v : World} {i e : Nat} {ab ae a' : Option Addr} {cb ce c' : Nat}
theorem TuE.below (h : TuE base w u i e ab cb ae ce) (b : Below u.heap.size u v) : TuE base w v i e ab cb ae ce := by
  obtain ⟨h1, h2, h3, h4, h5⟩ := h
  exact ⟨h1.below b (Nat.le_refl _), row_ch h2 (Ch.of_below b) (fun j hj hk => by have := (row_cells h2 hj).1.lt; omega), h3, h4.trans (b.mono h5), Nat.le_trans h5 b.size⟩
theorem TuE.bel (h : TuE base w u i e ab cb ae ce) : Below base w u := h.2.2.2.1
theorem TuE.sz (h : TuE base w u i e ab cb ae ce) : base ≤ u.heap.size := h.2.2.2.2
theorem TuE.pushB (h : TuE base w u i e ab cb ae ce) (o : OwnVb v base a' (lenT (i + 1)) c' (fileR (recsT (i + 1)))) (gr : u.grownBy v (Value.slice ab (lenT i) cb).ownBlock) (hl : ∀ j, (Value.slice a' (lenT (i + 1)) c').ownBlock = some j → (Value.slice ab (lenT i) cb).ownBlock = some j ∨ u.heap.size ≤ j) : TuE base w v (i + 1) e a' c' ae ce := by
  obtain ⟨h1, h2, h3, h4, h5⟩ := h
  have k := Ch.grown gr
  refine ⟨o, row_ch h2 k (fun j hj hk => h3 j hk hj), fun j hj hk => ?_, h4.trans (k.below h5 (fun j hj e => by have := (h1.cellsT j e).2; omega)), Nat.le_trans h5 k.size⟩
  rcases hl j hj with q | q
  · exact h3 j q hk
  · have := (row_cells h2 hk).1.lt
    omega
theorem TuE.pushE (h : TuE base w u i e ab cb ae ce) (o : Own 3 .i64 v base a' (e + 1) c' (endsT (e + 1))) (gr : u.grownBy v (Value.slice ae e ce).ownBlock) (hl : ∀ j, (Value.slice a' (e + 1) c').ownBlock = some j → (Value.slice ae e ce).ownBlock = some j ∨ u.heap.size ≤ j) : TuE base w v i (e + 1) ab cb a' c' := by
  obtain ⟨h1, h2, h3, h4, h5⟩ := h
  have k := Ch.grown gr
  refine ⟨h1.ch k (fun j hj hk => h3 j hj hk), o, fun j hj hk => ?_, h4.trans (k.below h5 (fun j hj e => by have := (row_cells h2 e).2; omega)), Nat.le_trans h5 k.size⟩
  rcases hl j hk with q | q
  · exact h3 j hj q
  · have := (h1.cellsT j hj).1.lt
    omega
end
theorem ownVb_of {w : World} {base n c : Nat} {a : Option Addr} {zs : List Int} (h : Mine w base a n c zs) : OwnVb w base a n c zs := by
  show World.ownsRow _ _ _ _ _ _ _
  rw [flat_by]
  exact h
theorem ownVb_set {w : World} {base g n c : Nat} {zs : List Int} (h : OwnVb w base (some ⟨g, 0, none⟩) n c zs) (j : Nat) (z : Int) : OwnVb (w.setCell ⟨g, j, none⟩ (.int .u8 z)) base (some ⟨g, 0, none⟩) n c (zs.set j z) := by
  have h2 : Mine w base (some ⟨g, 0, none⟩) n c zs := by
    have : World.ownsRow w base 5 1 (.slice (some ⟨g, 0, none⟩) n c) n (zs.flatMap byV) := h
    rw [flat_by] at this
    exact this
  have := (World.ownsRow.stored h2 j (.int .u8 z)).1
  rw [← List.map_set] at this
  exact ownVb_of this
/-- What is opened of one file. -/
theorem turned_one {w0 w : World} {a b : Option Addr} {x : H3} {z : List Int} {rs : List Rc} {e : Nat} (hT : TbP w0) (hr : RowX w a 1 [nmW 1]) (hd : RowBB w b 1 [x] [z]) (hw : recsW false z = some (rs, e)) (hg : GrF z) (hz : z.length ≤ 300000) (bl : Below w0.heap.size w0 w) :
    Calls Tryz.prog 30 #[.slice a 1 1, .slice b 1 1] w fun x w' => ∃ g, x = .returned (.tuple #[.pointer (some ⟨g, 0, none⟩), .int .i64 0]) ∧
      Calls Tryz.prog 33 #[.pointer (some ⟨g, 0, none⟩), .int .i64 1] w' fun x w'' => ∃ q a c, x = .returned (.tuple #[.pointer (some ⟨q, 0, none⟩), .slice a rs.length c, .int .i64 0]) ∧ Below w0.heap.size w0 w'' := by
  refine (llaid_any a 1 1 [nmW 1] b 1 1 [x] [z] w hr (fun s hs => by obtain rfl := List.mem_singleton.1 hs; exact Nat.le_trans (nmW_size 1) (by decide)) hd (by omega) (by omega)).mono ?_
  intro y w' h
  rw [laidF_oneU (by omega)] at h
  obtain ⟨_, g, he, hm⟩ := h
  have O := onL_from' bl hm
  refine ⟨g, he, ?_⟩
  refine (on_open_of O (fun n bs hb => lgR_grF (fun l hl => by cases hl) hg n bs hb) hT (Nat.le_refl _) (lgR_lim4 (by simp) (fun c hc => by cases hc) (by omega) (by decide)) (by omega) 1 (by decide) (lgR_few (by omega) (by simp) (by simp))).mono ?_
  intro x u' h
  obtain ⟨q, a, c, he, hG, hR⟩ := onOpen_ok h nm1_ne (openR (by omega) (by simp) (fun l hl => by cases hl) hw)
  exact ⟨q, a, c, he, hG.bel⟩
/-- Of two, the first one torn: nothing. -/
theorem turned_two {w0 w : World} {a b : Option Addr} {c2 d2 : Nat} {hs : List H3} {z : List Int} {rs : List Rc} {e : Nat} (hT : TbP w0) (hr : RowX w a 2 [nmW 1, nmW 2]) (hd : RowBB w b 2 hs [z, []]) (hw : recsW false z = some (rs, e)) (he : e < z.length) (hg : GrF z) (hz : z.length ≤ 300000) (bl : Below w0.heap.size w0 w) :
    Calls Tryz.prog 30 #[.slice a 2 c2, .slice b 2 d2] w fun x w' => ∃ g, x = .returned (.tuple #[.pointer (some ⟨g, 0, none⟩), .int .i64 0]) ∧
      Calls Tryz.prog 33 #[.pointer (some ⟨g, 0, none⟩), .int .i64 1] w' fun x w'' => x = .returned (.tuple #[.pointer none, .slice none 0 0, .int .i64 13]) ∧ Below w0.heap.size w0 w'' := by
  refine (llaid_any a 2 c2 [nmW 1, nmW 2] b 2 d2 hs [z, []] w hr (fun s hs => by
    rcases List.mem_cons.1 hs with rfl | hs
    · exact Nat.le_trans (nmW_size 1) (by decide)
    · obtain rfl := List.mem_singleton.1 hs
      exact Nat.le_trans (nmW_size 2) (by decide)) hd (by omega) (by omega)).mono ?_
  intro y w' h
  rw [laidF_two (by omega)] at h
  obtain ⟨_, g, hy, hm⟩ := h
  have O := onL_from' bl hm
  refine ⟨g, hy, ?_⟩
  have hL : LimB 400000 (lgC 1 [z, []] fs0) := by
    unfold lgC
    refine lgU_lim (by simp [cleanW]) (by simp) (fun x hx => ?_) (by decide)
    unfold cleanW at hx
    obtain ⟨b, hb, rfl⟩ := List.mem_map.1 hx
    rcases List.mem_cons.1 hb with rfl | hb
    · show b.length + 0 ≤ _
      omega
    · obtain rfl := List.mem_singleton.1 hb
      exact Nat.zero_le _
  refine (on_open_of O (fun n bs hb => ?_) hT (Nat.le_refl _) hL (by omega) 1 (by decide) (few_until 2 (by omega) ?_)).mono ?_
  · obtain ⟨j, h1, -, rfl⟩ := read_lgany hb
    have h2 : j = 0 ∨ j = 1 := by simp at h1; omega
    rcases h2 with rfl | rfl
    · exact hg
    · exact grF_nil
  · have := read_past (a := 1) (bs := [z, []]) (X := fs0) (by omega) (by simp)
    simpa using this
  · intro x u' h
    unfold OnOpen at h
    rw [if_neg nm1_ne, openW_two (by omega) (by omega) hw he] at h
    exact ⟨h.1, h.2.bel⟩
theorem Tryz.infoWu : (Tryz.prog.info? 3).map (fun i => (i.zero, i.size, i.bytes)) = some (some (.int .i64 0), 1, 8) := by kernel_rfl
theorem endsU_wf (n : Nat) (h : n ≤ 10) : ∀ z ∈ endsT n, (Lit.int .i64 z).wf = true := fun z hz => by
  unfold endsT at hz
  obtain ⟨j, hj, rfl⟩ := List.mem_map.1 hz
  have hj := List.mem_range.1 hj
  have := lenT_le (n := j + 1) (by omega)
  simp [Lit.wf, IntKind.min, IntKind.max, IntKind.signed, IntKind.bits]
  omega

theorem Tryz.infoSu : (Tryz.prog.info? 9).map (fun i => (i.zero, i.size, i.bytes)) = some (some (.string { data := #[] }), 1, 16) := by kernel_rfl
theorem st_cellsU (w : World) (s : ByteArray) (e : TypeId) : ∀ ad, (some (⟨w.heap.size, 0, none⟩ : Addr)) = some ad → ∀ j u, ([s].flatMap stV)[j]? = some u → (w.alloc (.cells #[.string s] e)).cell? (ad.add j) = some u := by
  intro ad ha j u hj
  obtain rfl := Option.some.inj ha
  match j, hj with
  | 0, hj => simp [stV] at hj; subst hj; rw [Addr.add_lit, World.cell?_alloc_mark]; rfl

set_option maxHeartbeats 64000000 in
theorem turned_walk (n at' by' : Int) (last : Bool) (w : World) (tb : TbP w) (hn : (Lit.int .i64 n).wf = true) (hat : (Lit.int .i64 at').wf = true) (hby : (Lit.int .u8 by').wf = true) :
    Calls Tryz.prog 8 #[.int .i64 n, .int .i64 at', .int .u8 by', .bool last] w fun e w' => e = .returned (.bool true) ∧ Below w.heap.size w w' := by
  have HT := hide tb
  obtain ⟨i1, hi1, hz10, hz11, hz12⟩ := info_parts Tryz.infoWu
  obtain ⟨i0, hi0, hz00, hz01, hz02⟩ := info_parts Tryz.infoU8
  obtain ⟨i2', hi2, hz20, hz21, hz22⟩ := info_parts Tryz.infoSu
  obtain ⟨i3', hi3, hz30, hz31, hz32⟩ := info_parts Tryz.infoBB
  have b0 : 0 ≤ by' ∧ by' ≤ 255 := by simp [Lit.wf, IntKind.min, IntKind.max, IntKind.signed, IntKind.bits] at hby; omega
  obtain ⟨N, hN, hN8⟩ : ∃ N : Nat, n % 8 = (N : Int) ∧ N < 8 := by
    have q1 := Int.emod_nonneg n (show (8 : Int) ≠ 0 by omega)
    have q2 := Int.emod_lt_of_pos n (show (0 : Int) < 8 by omega)
    exact ⟨(n % 8).toNat, by omega, by omega⟩
  have P2 := hide (fun u => place_any n 8 (by omega) (by omega) u)
  rw [hN] at P2
  have wN : IntKind.i64.wrap (1 + (N : Int)) = ((N + 1 : Nat) : Int) := by rw [IntKind.wrap_i64]; omega
  have LN := lenT_le (n := N + 1) (by omega)
  have LP : 0 < lenT (N + 1) := by
    have h1 := lenT_mono (n := N + 1) (m := 1) (by omega)
    have h2 : lenT 1 = lenT 0 + (frameS (bodyT 0)).length := lenT_succ 0
    have h3 := (frameS_long (bodyT 0)).1
    omega
  obtain ⟨K, hK, hKL⟩ : ∃ K : Nat, at' % (lenT (N + 1) : Int) = (K : Int) ∧ K < lenT (N + 1) := by
    have q1 := Int.emod_nonneg at' (show (lenT (N + 1) : Int) ≠ 0 by omega)
    have q2 := Int.emod_lt_of_pos at' (show (0 : Int) < (lenT (N + 1) : Int) by omega)
    exact ⟨(at' % (lenT (N + 1) : Int)).toNat, by omega, by omega⟩
  have P3 := hide (fun u => place_any at' (lenT (N + 1) : Int) (by omega) (by omega) u)
  rw [hK] at P3
  generalize hM : N + 1 = M at *
  clear hN tb hn hat hK hby
  go_enter Tryz.func8, Tryz.ntmps8
  go_wp2_with fail
  with_reducible refine (P2.out _).mono ?_
  rintro e u ⟨rfl, hu⟩
  rw [hu]
  clear hu P2
  go_wp2
  go_loopw [9, 10, 11] (fun x y z wr => ∃ (i : Nat) (ab : Option Addr) (cb : Nat) (ae : Option Addr) (ce : Nat), i ≤ M ∧ x = .slice ab (lenT i) cb ∧ y = .slice ae i ce ∧ z = .int .i64 (i : Int) ∧ Hid (TuE w.heap.size w wr i i ab cb ae ce)) (fun _ _ z _ => 30 - (intOf z).toNat)
  case atStart => exact ⟨0, none, 0, none, 0, by omega, rfl, rfl, rfl, tuE_zero w⟩
  case round =>
    obtain ⟨i, ab, cb, ae, ce, hi, rfl, rfl, rfl, HG⟩ := hrel
    obtain ⟨v, rfl⟩ : ∃ v, v = wr := ⟨wr, rfl⟩
    by_cases hlt : i < M
    · have j0 : (0 : Int) ≤ (i : Int) := by omega
      have j1 : (i : Int) < (M : Int) := by omega
      have wi : IntKind.i64.wrap ((i : Int) + 1) = (i : Int) + 1 := by rw [IntKind.wrap_i64]; omega
      have RC := hide (rec_any ((i : Int) + 1) i (by simp [Lit.wf, IntKind.min, IntKind.max, IntKind.signed, IntKind.bits]; omega) (by simp [Lit.wf, IntKind.min, IntKind.max, IntKind.signed, IntKind.bits]; omega) v)
      have LE := lenT_le (n := i + 1) (by omega)
      go_wp2_with fail
      with_reducible refine RC.out.mono ?_
      rintro e v2 ⟨hh, rfl, s2, b2⟩
      have PR := hide (refPutRec_one (fun k => v.heap.size ≤ k) (recN ((i : Int) + 1) i) hh v2 s2 rfl (setN_chk i) (skN_ok i).chk)
      rw [rcX_recN, show putRc (rcN ((i : Int) + 1) i) = bodyT i from rfl] at PR
      have H2 := hide (HG.out.below b2)
      clear s2 b2 RC HG
      go_wp2_with fail
      with_reducible refine PR.out.mono ?_
      rintro e v3 ⟨a3, c3, rfl, o3, b3⟩
      have H3 := hide (H2.out.below b3)
      have hbf := bodyT_fit (m := i) (by omega)
      have FR := hide (refframe_any a3 (bodyT i).length c3 (bodyT i) v3 (Own.row o3 (by omega) (fun z hz => by have := hbf.2.2 z hz; simp [Lit.wf, IntKind.min, IntKind.max, IntKind.signed, IntKind.bits]; omega)) o3.capped.2 hbf.2.1)
      clear o3 b3 PR H2
      go_wp2_with fail
      with_reducible refine FR.out.mono ?_
      rintro e v4 ⟨a4, c4, rfl, o4, b4⟩
      have H4 := hide (H3.out.below b4)
      have OV4 := hide (ownVb_of o4)
      have OB4 := hide H4.out.1
      have SZ4 := hide H4.out.sz
      have hfl : lenT (i + 1) = lenT i + (frameS (bodyT i)).length := lenT_succ i
      have BO : Hid ((a4 = none → (frameS (bodyT i)).length = 0 ∧ c4 = 0) ∧ (a4 = none ∨ 0 < (frameS (bodyT i)).length)) := by
        have q := (frameS_long (bodyT i)).1
        refine ⟨fun e => ?_, Or.inr (by omega)⟩
        have := (OwnG.capped OV4.out).2 e
        omega
      clear o4 b4 FR H3
      go_wp2_with (at_builtin; refine wpList_appAt byV_len (by decide) byV_one1 _ rfl _ _ 40 rfl w.heap.size i0 (.int .u8 0) 1 Tryz.underlying40 hi0 hz00 hz01 hz02 rfl ab (lenT i) cb (fileR (recsT i)) rfl OB4.out a4 (frameS (bodyT i)).length c4 (frameS (bodyT i)) rfl rfl (OwnG.cellsAll OV4.out) BO.out.1 BO.out.2 (by omega) (by omega) SZ4.out ?_)
      intro a5 c5 w5 o5 g5 l5 _
      rw [← hfl] at o5 l5 ⊢
      have T5 := hide (H4.out.pushB (by
        show OwnVb _ _ _ _ _ _
        rw [recsT_succ, fileR_snoc]
        exact o5) g5 l5)
      have OE5 := hide T5.out.2.1
      have SZ5 := hide T5.out.sz
      clear o5 g5 l5 H4 OV4 OB4 SZ4 BO hfl
      go_wp2_with (at_builtin; refine wpList_push _ rfl _ _ 75 rfl w.heap.size 3 i1 (.int .i64 0) 8 Tryz.underlying75 hi1 hz10 hz11 hz12 rfl ae i ce _ rfl (Own.alloc OE5.out _) ⟨w5.heap.size, 0, none⟩ 1 (.int .i64 (lenT (i + 1) : Int)) rfl (one_intcell w5 (lenT (i + 1) : Int) _) rfl (by unfold maxLen; omega) (by omega) (by have := SZ5.out; simp; omega) ?_)
      intro gg cc w6 o6 g6 l6
      have O6 : Hid (Own 3 .i64 w6 w.heap.size (some ⟨gg, 0, none⟩) (i + 1) cc (endsT (i + 1))) := by
        show w6.ownsRow _ _ _ _ _ _
        rw [endsT_succ, List.map_append]; exact o6
      have BA : Hid (Below w5.heap.size w5 (w5.alloc (.cells #[.int .i64 (lenT (i + 1) : Int)] 3))) := (Below.refl _ _).alloc (Nat.le_refl _) _
      have T6 := hide ((T5.out.below BA.out).pushE O6.out g6 (fun j hj => by
        rcases l6 with q1 | q1
        · left
          rw [← hj]
          exact q1
        · right
          have e1 : some gg = some j := hj
          rw [← Option.some.inj e1, size_al]
          exact q1))
      clear o6 g6 l6 BA O6 OE5 SZ5 T5
      go_wp2
      go_roundw
      case rel => exact ⟨i + 1, _, _, _, cc, by omega, rfl, rfl, by go_num, T6⟩
      case measure => simp [intOf]; omega
    · obtain rfl : i = M := by omega
      have j1 : ¬ (i : Int) < (i : Int) := by omega
      by_cases hz : by' = 0
      · have z1 : (by' == 0) = true := by simp [hz]
        have AW := hide (awakeW_any v (HT.out.to HG.out.bel (Nat.le_refl _)))
        go_wp2_with fail
        with_reducible refine AW.out.mono ?_
        rintro e u9 ⟨rfl, b9⟩
        have B9 := hide (bel_to HG.out.bel (Nat.le_refl _) b9)
        clear b9 AW
        go_wp2
        go_ret
        exact ⟨rfl, B9.out⟩
      · have z1 : (by' == 0) = false := by simp [hz]
        have RI := hide (Own.row HG.out.2.1 (by omega) (endsU_wf i (by omega)))
        obtain ⟨gb, hgb, hcb, -, -⟩ := OwnG.at byV_len (by decide) HG.out.1 (List.getElem?_eq_getElem (show 0 < (fileR (recsT i)).length by unfold lenT at LP; omega))
        subst hgb
        have OB := hide HG.out.1
        have BB := hide HG.out.bel
        have SZ := hide HG.out.sz
        clear HG
        go_wp2_with fail
        with_reducible refine (P3.out _).mono ?_
        rintro e u ⟨rfl, hu⟩
        rw [hu]
        clear hu P3
        go_wp2
        go_loopw [14] (fun x wr => ∃ m : Nat, m < i ∧ x = .int .i64 (m : Int) ∧ lenT m ≤ K ∧ Hid (wr = v)) (fun x _ => 30 - (intOf x).toNat)
        case atStart =>
          refine ⟨0, ?_, rfl, Nat.zero_le _, rfl⟩
          rcases Nat.eq_zero_or_pos i with h | h
          · subst h
            exact absurd LP (by decide)
          · exact h
        case round =>
          obtain ⟨m, hm, rfl, hmk, HW⟩ := hrel
          have hW := HW.out
          subst hW
          clear HW
          obtain ⟨-, -, -, h0 | ⟨b9, off9, rfl, hc⟩⟩ := RI.out
          · omega
          have c9 := hc m hm
          rw [endsT_at hm] at c9
          have HC := hide hc
          clear hc
          have i0 : (0 : Int) ≤ (m : Int) := by omega
          have i2 : (m : Int) < (i : Int) := by omega
          by_cases hle : lenT (m + 1) ≤ K
          · have i3 : (lenT (m + 1) : Int) ≤ (K : Int) := by omega
            have hm1 : m + 1 < i := by
              rcases Nat.lt_or_ge (m + 1) i with h | h
              · exact h
              · have e : m + 1 = i := by omega
                rw [e] at hle
                omega
            go_wp2
            go_roundw
            case rel => exact ⟨m + 1, hm1, by go_num, hle, trivial⟩
            case measure => simp [intOf]; omega
          · have i3 : ¬ (lenT (m + 1) : Int) ≤ (K : Int) := by omega
            have i4 : decide ((lenT (m + 1) : Int) ≤ (K : Int)) = false := decide_eq_false i3
            have i5 : (K : Int) < (lenT (m + 1) : Int) := by omega
            have i6 : decide (lenT (m + 1) ≤ K) = false := decide_eq_false hle
            go_upto_if 61 with fail
            go_cut [15] from 60 to 66 (fun x wx => x = .int .i64 (lenT m : Int) ∧ wx = wr)
            case first =>
              cases m with
              | zero =>
                have k1 : ¬ (0 : Int) < ((0 : Nat) : Int) := by omega
                go_wp2_with fail
                go_meet
                case rel => exact ⟨rfl, rfl⟩
              | succ m =>
                have k1 : (0 : Int) < ((m + 1 : Nat) : Int) := by omega
                have k2 : IntKind.i64.wrap (((m + 1 : Nat) : Int) - 1) = (m : Int) := by rw [IntKind.wrap_i64]; omega
                have k4 : IntKind.i64.wrap ((m : Int) + 1 - 1) = (m : Int) := by rw [IntKind.wrap_i64]; omega
                have k3 := HC.out m (by omega)
                rw [endsT_at (show m < i by omega)] at k3
                have k5 : (0 : Int) ≤ (m : Int) := by omega
                have k6 : (m : Int) < (i : Int) := by omega
                go_wp2_with fail
                go_meet
                case rel => exact ⟨rfl, rfl⟩
            case rest =>
              obtain ⟨rfl, hwc⟩ := hcut
              subst hwc
              obtain ⟨vA, hvA⟩ : ∃ v, v = wc := ⟨wc, rfl⟩
              rw [← hvA] at OB BB SZ ⊢
              clear hvA HC c9 RI
              obtain ⟨g9, hg9⟩ : ∃ g9, Hid (vA.heap.size = g9) := ⟨_, rfl⟩
              obtain ⟨u1, hu1⟩ : ∃ u1, Hid (vA.alloc (.cells #[.slice (some ⟨gb, 0, none⟩) (lenT i) cb, .int .i64 (lenT m : Int), .bool false] 99) = u1) := ⟨_, rfl⟩
              have RB1 : Hid (RB u1 g9 (some ⟨gb, 0, none⟩) (lenT i) cb (lenT m : Int) false) := by rw [← hu1.out, ← hg9.out]; exact heap_alloc_new vA _
              have B1 : Hid (Below vA.heap.size vA u1) := by rw [← hu1.out]; exact (Below.refl _ _).alloc (Nat.le_refl _) _
              have BY8 : Hid (∀ z ∈ fileR (recsT i), 0 ≤ z ∧ z ≤ 255) := fun z hz => laidS_byte (fileR_fr (recsT_good (n := i) (by omega))) z hz
              have RW := hide (ownB_row OB.out (by omega) BY8.out)
              have NU := hide (num_any (lenT m : Int) g9 (some ⟨gb, 0, none⟩) (lenT i) cb (fileR (recsT i)) vA u1 (by simp [Lit.wf, IntKind.min, IntKind.max, IntKind.signed, IntKind.bits]; omega) RW.out (by rw [← hg9.out]; exact Nat.le_refl _) B1.out RB1.out)
              rw [num_file hm (by omega)] at NU
              unfold NumP at NU
              dsimp only at NU
              clear RB1 RW
              go_wp2_with fail
              rw [hu1.out, hg9.out]
              with_reducible refine NU.out.mono ?_
              rintro e u2 ⟨on2, rfl, rb2⟩
              obtain ⟨r0, r1, r2, rf⟩ := rb2.cell
              have B2 : Hid (Below vA.heap.size vA u2) := B1.out.trans (on2.below (by rw [hg9.out]; exact Nat.le_refl _))
              have BW2 := hide (bel_to BB.out (Nat.le_refl _) B2.out)
              have OB2 := hide (OB.out.below B2.out (Nat.le_refl _))
              clear rb2 NU hu1 B1 on2 OB BB B2
              by_cases hAt : K < lenT m + lnT m
              · have at1 : (K : Int) < ((lenT m + lnT m : Nat) : Int) := by omega
                have AW := hide (awakeW_any u2 (HT.out.to BW2.out (Nat.le_refl _)))
                go_wp2_with fail
                with_reducible refine AW.out.mono ?_
                rintro e u9 ⟨rfl, bb9⟩
                have B9 := hide (bel_to BW2.out (Nat.le_refl _) bb9)
                clear bb9 AW
                go_wp2
                go_ret
                exact ⟨rfl, B9.out⟩
              · have at1 : ¬ (K : Int) < ((lenT m + lnT m : Nat) : Int) := by omega
                have hKl : K < (fileR (recsT i)).length := hKL
                obtain ⟨Z, hZ⟩ : ∃ Z, (fileR (recsT i)).getD K 0 = Z := ⟨_, rfl⟩
                have hZe : (fileR (recsT i))[K]? = some Z := by
                  rw [List.getD_eq_getElem?_getD, List.getElem?_eq_getElem hKl] at hZ
                  rw [List.getElem?_eq_getElem hKl]
                  exact congrArg some hZ
                obtain ⟨gq, eq, -, -, hc2⟩ := OwnG.at byV_len (by decide) OB2.out hZe
                obtain rfl : gb = gq := by simpa using eq
                have cK : u2.cell? ⟨gb, K, none⟩ = some (.int .u8 Z) := by
                  have := hc2 0 _ rfl
                  rwa [Nat.mul_one, Nat.add_zero] at this
                have fK : u2.frozen? ⟨gb, K, none⟩ = false := World.ownsRow.frozenAt OB2.out K
                have Z8 : 0 ≤ Z ∧ Z ≤ 255 := BY8.out Z (List.mem_of_getElem? hZe)
                have xx := xor_u8 Z8.1 Z8.2 b0.1 b0.2
                have xne : xorI Z by' ≠ Z := xorI_ne Z8.1 (by omega)
                obtain ⟨x1, x2, x3⟩ := xx
                obtain ⟨X, hX⟩ : ∃ X, xorI Z by' = X := ⟨_, rfl⟩
                rw [hX] at x1 x2 x3 xne
                obtain ⟨q1, q2, q3⟩ := turned_found (n := i) (m := m) (K := K) (x := X) (by omega) hm (by omega) (by omega) ⟨x2, x3⟩ (by rw [hZ]; exact xne)
                obtain ⟨u3, hu3⟩ : ∃ u3, Hid (u2.setCell ⟨gb, K, none⟩ (.int .u8 X) = u3) := ⟨_, rfl⟩
                have OB3 : Hid (OwnVb u3 w.heap.size (some ⟨gb, 0, none⟩) (lenT i) cb ((fileR (recsT i)).set K X)) := by rw [← hu3.out]; exact ownVb_set OB2.out K X
                have hgb : w.heap.size ≤ gb := (OB2.out.cellsT gb rfl).2
                have B3 : Hid (Below w.heap.size w u3) := by rw [← hu3.out]; exact BW2.out.setCell (p := ⟨gb, K, none⟩) hgb _
                have BX8 : Hid (∀ z ∈ (fileR (recsT i)).set K X, 0 ≤ z ∧ z ≤ 255) := fun z hz => by
                  rcases List.mem_or_eq_of_mem_set hz with h | h
                  · exact BY8.out z h
                  · rw [h]; exact ⟨x2, x3⟩
                have R3 := hide (ownB_row OB3.out (by omega) BX8.out)
                have CP := hide (OwnG.capped OB3.out)
                obtain ⟨zz, hzz⟩ : ∃ zz, (fileR (recsT i)).set K X = zz := ⟨_, rfl⟩
                have zl : zz.length = lenT i := by rw [← hzz, List.length_set]; rfl
                rw [hzz] at q1 q2 q3 R3 OB3
                have QF := hide q1
                have QG := hide q2
                have NM := hide (wname_any 1 u3 (by decide) (HT.out.to B3.out (Nat.le_refl _)))
                clear hZ hZe eq hc2 OB2 BW2 q1 q2 hzz BX8 BY8
                go_upto_region 24 with fail
                rw [hu3.out]
                clear hu3 cK fK x1 r0 r1 r2 rf
                go_wp2_with fail
                with_reducible refine NM.out.mono ?_
                rintro e u4 ⟨rfl, b4⟩
                have R4 := hide (R3.out.below b4 (Nat.le_refl _))
                have O4 := hide (OB3.out.below b4 (Nat.le_refl _))
                have B4 := hide (bel_to B3.out (Nat.le_refl _) b4)
                clear b4 NM R3 OB3 B3
                obtain ⟨u5, hu5⟩ : ∃ v, Hid (u4.alloc (.cells #[.string (nmW 1)] 9) = v) := ⟨_, rfl⟩
                have G5 : Hid (OwnVs u5 u4.heap.size (some ⟨u4.heap.size, 0, none⟩) 1 1 [nmW 1]) := by rw [← hu5.out]; exact ownG_lit stV_len u4 _ _
                have B5 : Hid (Below u4.heap.size u4 u5) := by rw [← hu5.out]; exact (Below.refl _ _).alloc (Nat.le_refl _) _
                obtain ⟨u6, hu6⟩ : ∃ v, Hid (u5.alloc (.cells #[.slice (some ⟨gb, 0, none⟩) (lenT i) cb] 40) = v) := ⟨_, rfl⟩
                have H6 : Hid (OwnH u6 u5.heap.size (some ⟨u5.heap.size, 0, none⟩) 1 1 [(some ⟨gb, 0, none⟩, lenT i, cb)]) := by rw [← hu6.out]; exact ownG_lit hhV_len u5 _ (some ⟨gb, 0, none⟩, lenT i, cb)
                have e5 : u5.heap.size = u4.heap.size + 1 := by rw [← hu5.out]; exact size_al _ _
                have H6 : Hid (OwnH u6 (u4.heap.size + 1) (some ⟨u4.heap.size + 1, 0, none⟩) 1 1 [(some ⟨gb, 0, none⟩, lenT i, cb)]) := by rw [← e5]; exact H6.out
                have B6 : Hid (Below u5.heap.size u5 u6) := by rw [← hu6.out]; exact (Below.refl _ _).alloc (Nat.le_refl _) _
                have G6 := hide (G5.out.below B6.out (Nat.le_refl _))
                have O6 := hide ((O4.out.below B5.out (Nat.le_refl _)).below B6.out (Nat.le_refl _))
                have W6 := hide (bel_to (bel_to B4.out (Nat.le_refl _) B5.out) (Nat.le_refl _) B6.out)
                have zb : ∀ z ∈ zz, 0 ≤ z ∧ z ≤ 255 := R4.out.bytes
                go_upto_region 26 with fail
                rw [hu5.out, hu6.out]
                cases last with
                | true =>
                  have LC := hide (turned_one HT.out (ownS_rowX G6.out (by omega)) (ownH_rowBB (ds := [zz]) (OwnG.mono H6.out (Nat.zero_le _)) rfl (fun j x d hj hd => by
                    match j, hj, hd with
                    | 0, hj, hd =>
                      obtain rfl := Option.some.inj hj
                      obtain rfl := Option.some.inj hd
                      exact ⟨OwnG.mono O6.out (Nat.zero_le _), by show lenT i ≤ _; omega, zb⟩
                    | j + 1, hj, hd => simp at hj)) QF.out QG.out (by omega) W6.out)
                  clear G5 B5 H6 B6 G6 O6 W6 hu5 hu6 O4 B4 R4
                  go_wp2_with fail
                  with_reducible refine LC.out.mono ?_
                  rintro e u7 ⟨g7, rfl, ho⟩
                  have OP := hide ho
                  clear ho LC
                  go_wp2_with fail
                  with_reducible refine OP.out.mono ?_
                  rintro e u8 ⟨q8, a8, c8, rfl, b8⟩
                  have B8 := hide b8
                  have AW := hide (awakeW_any u8 (HT.out.to b8 (Nat.le_refl _)))
                  rw [recsT_len]
                  clear b8 OP
                  go_wp2_with fail
                  with_reducible refine AW.out.mono ?_
                  rintro e u9 ⟨rfl, bb9⟩
                  have B9 := hide (bel_to B8.out (Nat.le_refl _) bb9)
                  clear bb9 AW
                  go_wp2
                  go_ret
                  exact ⟨rfl, B9.out⟩
                | false =>
                  have NM := hide (wname_any 2 u6 (by decide) (HT.out.to W6.out (Nat.le_refl _)))
                  clear G5 B5 B6 hu5 hu6 R4
                  go_wp2_with fail
                  with_reducible refine NM.out.mono ?_
                  rintro e u7 ⟨rfl, b7⟩
                  have K8 : Hid (Below u6.heap.size u6 (u7.alloc (.cells #[.string (nmW 2)] 9))) := bel_al b7 (Nat.le_refl _) _
                  have G8 := hide (G6.out.below K8.out (Nat.le_refl _))
                  have S8 : Hid (u4.heap.size ≤ (u7.alloc (.cells #[.string (nmW 2)] 9)).heap.size) := by
                    have h1 := (OwnG.cellsT G8.out u4.heap.size rfl).1.lt
                    show _ ≤ _
                    omega
                  clear b7 NM
                  go_wp2_with (at_builtin; refine wpList_appAt stV_len (by decide) stV_one1 _ rfl _ _ 32 rfl u4.heap.size i2' (.string ⟨#[]⟩) 16 Tryz.underlying32 hi2 hz20 hz21 hz22 rfl (some ⟨u4.heap.size, 0, none⟩) 1 1 [nmW 1] rfl G8.out (some ⟨u7.heap.size, 0, none⟩) 1 1 [nmW 2] rfl rfl (st_cellsU _ _ _) (fun e => by cases e) (Or.inr (by decide)) (by omega) (by omega) S8.out ?_)
                  intro a9 c9 u9 o9 g9 l9
                  have G9 : Hid (OwnVs u9 u4.heap.size a9 2 c9 [nmW 1, nmW 2]) := o9
                  have S6 : Hid (u4.heap.size + 1 < u6.heap.size) := (OwnG.cellsT H6.out (u4.heap.size + 1) rfl).1.lt
                  have S7 : Hid (u6.heap.size ≤ (u7.alloc (.cells #[.string (nmW 2)] 9)).heap.size) := K8.out.size
                  have L9 : Hid (∀ j, (Value.slice a9 2 c9).ownBlock = some j → j = u4.heap.size ∨ u6.heap.size ≤ j) := fun j hj => by
                    rcases l9 j hj with h | h
                    · left
                      have e1 : some u4.heap.size = some j := h
                      exact (Option.some.inj e1).symm
                    · right
                      exact Nat.le_trans (by have q := S7.out; rw [size_al] at q; exact q) h
                  have K9 : Hid (Ch (fun j => j = u4.heap.size) u6 u9) := ((Ch.of_below K8.out).more (fun _ _ h => h.elim)).trans ((Ch.grown g9).more (fun j _ h => by
                    have e1 : some u4.heap.size = some j := h
                    exact (Option.some.inj e1).symm))
                  have lgb : Hid (gb < u4.heap.size) := (OwnG.cellsT O4.out gb rfl).1.lt
                  have H9 := hide (H6.out.ch K9.out (fun j hj e => by
                    have e1 : some (u4.heap.size + 1) = some j := hj
                    have := Option.some.inj e1
                    omega))
                  have O9 := hide (O6.out.ch K9.out (fun j hj e => by
                    have e1 : some gb = some j := hj
                    have := Option.some.inj e1
                    have := lgb.out
                    omega))
                  have W9 : Hid (Below w.heap.size w u9) := W6.out.trans (K9.out.below W6.out.size (fun j hj e => by have := B4.out.size; omega))
                  clear o9 g9 l9 K8 G8 S8 H6 O6 G6
                  obtain ⟨u10, hu10⟩ : ∃ v, Hid (u9.alloc (.cells #[.slice none 0 0] 40) = v) := ⟨_, rfl⟩
                  have BD : Hid (Below u9.heap.size u9 u10) := by rw [← hu10.out]; exact (Below.refl _ _).alloc (Nat.le_refl _) _
                  have H10 := hide (H9.out.below BD.out (Nat.le_refl _))
                  have S9 : Hid (u6.heap.size ≤ u9.heap.size) := K9.out.size
                  have CC : Hid (∀ ad, (some (⟨u9.heap.size, 0, none⟩ : Addr)) = some ad → ∀ j u, ([((none, 0, 0) : H3)].flatMap hhV)[j]? = some u → u10.cell? (ad.add j) = some u) := by rw [← hu10.out]; exact hh_cells u9 (none, 0, 0) _
                  have SB : Hid (u4.heap.size + 1 ≤ u10.heap.size) := by have h1 := S6.out; have h2 := S9.out; have h3 := BD.out.size; show _ ≤ _; omega
                  go_upto_region 28 with fail
                  go_wp2_with (at_builtin; rw [hu10.out]; refine wpList_app_g hhV_len (by decide) hhV_one1 _ rfl _ _ 79 rfl (u4.heap.size + 1) i3' (.slice none 0 0) 24 Tryz.underlying79 hi3 hz30 hz31 hz32 rfl (some ⟨u4.heap.size + 1, 0, none⟩) 1 1 [(some ⟨gb, 0, none⟩, lenT i, cb)] rfl H10.out (some ⟨u9.heap.size, 0, none⟩) 1 1 [((none, 0, 0) : H3)] rfl rfl CC.out (fun e => by cases e) (by omega) (by omega) SB.out ?_)
                  intro a11 c11 u11 o11 g11
                  have H11 : Hid (OwnH u11 (u4.heap.size + 1) a11 2 c11 [(some ⟨gb, 0, none⟩, lenT i, cb), (none, 0, 0)]) := o11
                  have K11 : Hid (Ch (fun j => j = u4.heap.size + 1) u9 u11) := ((Ch.of_below BD.out).more (fun _ _ h => h.elim)).trans ((Ch.grown g11).more (fun j _ h => by
                    have e1 : some (u4.heap.size + 1) = some j := h
                    exact (Option.some.inj e1).symm))
                  have G11 := hide (G9.out.ch K11.out (fun j hj e => by
                    have h1 := S6.out
                    rcases L9.out j hj with h | h <;> omega))
                  have O11 := hide (O9.out.ch K11.out (fun j hj e => by
                    have e1 : some gb = some j := hj
                    have := Option.some.inj e1
                    have := lgb.out
                    omega))
                  have W11 : Hid (Below w.heap.size w u11) := W9.out.trans (K11.out.below W9.out.size (fun j hj e => by have := B4.out.size; omega))
                  have LC := hide (turned_two (c2 := c9) (d2 := c11) HT.out (ownS_rowX G11.out (by omega)) (ownH_rowBB (ds := [zz, []]) (OwnG.mono H11.out (Nat.zero_le _)) rfl (fun j x d hj hd => by
                    match j, hj, hd with
                    | 0, hj, hd =>
                      obtain rfl := Option.some.inj hj
                      obtain rfl := Option.some.inj hd
                      exact ⟨OwnG.mono O11.out (Nat.zero_le _), by show lenT i ≤ _; omega, zb⟩
                    | 1, hj, hd =>
                      obtain rfl := Option.some.inj hj
                      obtain rfl := Option.some.inj hd
                      exact ⟨ownG_nil _ _, Nat.zero_le _, fun z hz => by cases hz⟩
                    | j + 2, hj, hd => simp at hj)) QF.out q3 QG.out (by omega) W11.out)
                  clear o11 g11 H9 O9 G9 H10 CC SB K9 K11 G11 O11 H11 W11 W9 L9 S6 S7 S9 BD hu10 W6
                  go_wp2_with fail
                  with_reducible refine LC.out.mono ?_
                  rintro e u12 ⟨g12, rfl, ho⟩
                  have OP := hide ho
                  clear ho LC
                  go_wp2_with fail
                  with_reducible refine OP.out.mono ?_
                  rintro e u13 ⟨rfl, b13⟩
                  have B13 := hide b13
                  have AW := hide (awakeW_any u13 (HT.out.to b13 (Nat.le_refl _)))
                  clear b13 OP
                  go_wp2_with fail
                  with_reducible refine AW.out.mono ?_
                  rintro e u14 ⟨rfl, b14⟩
                  have B14 := hide (bel_to B13.out (Nat.le_refl _) b14)
                  clear b14 AW
                  go_wp2
                  go_ret
                  exact ⟨rfl, B14.out⟩
end Go.Proofs.YtknghoecjobkiaaGreatDoor

namespace Go.Proofs.YtknghoecjobkiaaGreatDoor
open Go.RowKit Go.ChangeShapes Go.WideShapes Go.Joins
set_option maxRecDepth 20000
/-- What the rows list. -/
def laidW3 : List (String × DataW Unit) := [("math/bits.deBruijn32tab", Rows.laid_math_bits_deBruijn32tab), ("math/bits.deBruijn64tab", Rows.laid_math_bits_deBruijn64tab), ("internal/strconv.uint64pow10", Rows.laid_internal_strconv_uint64pow10)]
theorem tPow : (Tryz.prog.globals[2]?).map (·.type) = some 368 := by kernel_rfl
theorem wU64_cells : Tryz.prog.cellsOf 25 = 1 := by kernel_rfl
theorem pow_cells : Tryz.prog.cellsOf 368 = 20 := by kernel_rfl
/-- The door's own heap meets the condition. -/
theorem doorW3_met (os : Os) (args : Array Value) : laidMetH Tryz.prog laidW3 ((World.doorLaid Tryz.prog 400 os).forCall (fun _ _ => 0) ⟨#[], args, []⟩).memory :=
  laidMetH_of_parts3 (fuel := 8) (laidMet_of_run' 8 (by kernel_rfl) (by kernel_rfl)) (by kernel_rfl) (by kernel_rfl)
theorem tab_laid {r : List (String × DataW Unit)} {W : World} (h : laidMet Tryz.prog (("internal/strconv.uint64pow10", Rows.laid_internal_strconv_uint64pow10) :: r) W) : TbP W :=
  Lib.tabIs_of_head gPow tPow Tryz.underlying368 Tryz.underlying25 wU64_cells pow_cells h
theorem tab_of3 {W : World} (h : laidMetH Tryz.prog laidW3 W) : TbP W := by
  rw [MakeChecks.laidMetH_plain _ _ _ (by kernel_rfl)] at h
  exact tab_laid h.tail.tail
end Go.Proofs.YtknghoecjobkiaaGreatDoor
