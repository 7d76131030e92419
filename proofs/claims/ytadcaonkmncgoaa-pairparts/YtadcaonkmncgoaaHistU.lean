/-
  The document's own answer of layer 7 (the laws' reference): one bucket has more: a contract, for every world.
  Conditions: the slice shows its buckets; there is room for one more.
-/
import Derived.Test.YtadcaonkmncgoaaHistS
namespace Go.Proofs.Ytadcaonkmncgoaa
open Go.RowKit
set_option maxRecDepth 20000

theorem insS_at {k c d : Int} {t : Bks} : insS k c ((k, d) :: t) = (k, satS d c) :: t := by rw [insS, if_pos rfl]
theorem insS_gt {j k c d : Int} {t : Bks} (h : k < j) : insS k c ((j, d) :: t) = (k, c) :: (j, d) :: t := by rw [insS, if_neg (by omega), if_pos h]
theorem insS_lt {j k c d : Int} {t : Bks} (h : j < k) : insS k c ((j, d) :: t) = (j, d) :: insS k c t := by rw [insS, if_neg (by omega), if_neg (by omega)]

set_option maxHeartbeats 8000000 in
theorem rhadd_any (a : Option Addr) (n cap : Nat) (l : Bks) (k c : Int) (w : World) (hr : RowB w a n l) (hn : (n + 2) * 16 ≤ 140737488355328) (hk : (Lit.int .i64 k).wf = true) (hc : W64 c) :
    Calls Try.prog 25 #[.slice a n cap, .int .i64 k, .int .u64 c] w fun e w' => ∃ a' c', e = .returned (.slice a' (addN l k c).length c') ∧ OwnB w' w.heap.size a' (addN l k c).length c' (addN l k c) ∧ Below w.heap.size w w' := by
  obtain ⟨i0, hi, hz0, hz1, hz2⟩ := info_parts Try.infoB
  have HR := hide hr
  have HL := hide hr.1
  have HC := hide hc
  obtain ⟨c0, c1⟩ := hc
  obtain ⟨k0, k1⟩ := i64_of_wf hk
  obtain ⟨M, hM⟩ : ∃ M, addN l k c = M := ⟨_, rfl⟩
  have HM := hide hM
  rw [hM]
  clear hr hk hM
  obtain ⟨d0, hd0⟩ : ∃ d0, (c == 0) = d0 := ⟨_, rfl⟩
  have HD0 : Hid ((if d0 then l else insS k c l) = M) := by
    show _ = _
    rw [← HM.out, ← hd0]
    unfold addN
    simp
  go_enter Try.func25, Try.ntmps25
  go_wp2
  clear hd0
  go_loopw [7, 8, 9] (fun m dn i wr => ∃ (am : Option Addr) (nm cm j : Nat) (D : Bool) (pre : Bks), m = .slice am nm cm ∧ dn = .bool D ∧ i = .int .i64 j ∧ j ≤ n ∧ nm ≤ j + 1 ∧ Hid (pre.length = nm ∧ pre ++ (if D then l.drop j else insS k c (l.drop j)) = M) ∧ Hid (D = false → nm = j) ∧ Hid (OwnB wr w.heap.size am nm cm pre) ∧ Hid (Below w.heap.size w wr)) (fun _ _ i _ => n - (intOf i).toNat)
  case atStart => exact ⟨none, 0, 0, 0, d0, [], rfl, rfl, rfl, by omega, by omega, ⟨rfl, HD0.out⟩, fun _ => rfl, ownB_nil _ _, Below.refl _ _⟩
  case round =>
    obtain ⟨am, nm, cm, j, D, pre, rfl, rfl, rfl, hj, hnm, HP, HD, HO, HB⟩ := hrel
    by_cases hlt : j < n
    · obtain ⟨-, -, hfit, h | ⟨b, off, rfl, hcell⟩⟩ := HR.out.below HB.out (Nat.le_refl _)
      · omega
      obtain ⟨g0, g1⟩ := hcell j hlt
      have HY := hide (u64_of_wf (getD_fit hfit j).2)
      have HDR := hide (drop_bks (l := l) (k := j) (by rw [HL.out]; exact hlt))
      have i1 : (0 : Int) ≤ (j : Int) := by omega
      have i2 : (j : Int) < (n : Int) := by omega
      have HBW : Hid (w.heap.size ≤ wr.heap.size) := HB.out.size
      have HG : Hid (∀ W, Below w.heap.size w W → W.cell? ⟨b, off + j * 2, none⟩ = some (.int .i64 (l.getD j (0, 0)).1) ∧ W.cell? ⟨b, off + j * 2 + 1, none⟩ = some (.int .u64 (l.getD j (0, 0)).2)) := by
        intro W hW
        obtain ⟨-, -, -, h | ⟨b', off', e', hcell'⟩⟩ := HR.out.below hW (Nat.le_refl _)
        · omega
        · simp only [Option.some.injEq, Addr.mk.injEq, and_true] at e'
          obtain ⟨rfl, rfl⟩ := e'
          exact hcell' j hlt
      clear hcell hfit
      generalize l.getD j (0, 0) = x at *
      obtain ⟨x, y⟩ := x
      simp only at g0 g1 HY HG
      cases D
      · have hnj := HD.out rfl
        subst hnj
        by_cases e1 : x = k
        · have t1 : (x == k) = true := by simpa using e1
          have A := hide (fun w => refadd_any y c HY.out HC.out w)
          rw [satS_addS] at A
          have HN : Hid ((pre ++ [(k, satS y c)]).length = nm + 1 ∧ (pre ++ [(k, satS y c)]) ++ (if true then l.drop (nm + 1) else insS k c (l.drop (nm + 1))) = M) := by
            refine ⟨by rw [List.length_append, HP.out.1]; rfl, ?_⟩
            have := HP.out.2
            rw [HDR.out, e1, if_neg (by decide), insS_at] at this
            rw [← this]; simp
          generalize satS y c = S at *
          clear e1
          go_wp2_with fail
          refine (A.out _).mono ?_
          rintro e w' ⟨rfl, rfl⟩
          go_wp2_with (at_builtin; refine wpList_append_bks _ rfl _ _ 24 rfl w.heap.size i0 Try.underlying24 hi hz0 hz1 hz2 am nm cm pre rfl (HO.out.alloc _) ⟨w'.heap.size, 0, none⟩ 1 1 [(k, S)] rfl rfl (two_cells w' (k, S) _) (by omega) (by have := HBW.out; simp; omega) ?_)
          intro a2 c2 w2 o2 b2
          have O2 := hide o2
          have K2 : Hid (Below w.heap.size w w2) := (bel_al HB.out (Nat.le_refl _) _).trans b2
          clear o2 b2 HO HB A g0 g1
          go_wp2
          go_roundw
          case rel => exact ⟨a2, nm + 1, c2, nm + 1, true, _, rfl, rfl, by go_num, by omega, by omega, HN, fun h => by simp at h, O2, K2⟩
          case measure => simp [intOf]; omega
        · have t1 : (x == k) = false := by simpa using e1
          by_cases e2 : k < x
          · have t2 : decide (k < x) = true := decide_eq_true e2
            have HN : Hid ((pre ++ [(k, c)] ++ [(x, y)]).length = nm + 1 + 1 ∧ (pre ++ [(k, c)] ++ [(x, y)]) ++ (if true then l.drop (nm + 1) else insS k c (l.drop (nm + 1))) = M) := by
              refine ⟨by rw [List.length_append, List.length_append, HP.out.1]; rfl, ?_⟩
              have := HP.out.2
              rw [HDR.out, if_neg (by decide), insS_gt e2] at this
              rw [← this]; simp
            clear e1 e2
            go_wp2_with (at_builtin; refine wpList_append_bks _ rfl _ _ 24 rfl w.heap.size i0 Try.underlying24 hi hz0 hz1 hz2 am nm cm pre rfl (HO.out.alloc _) ⟨wr.heap.size, 0, none⟩ 1 1 [(k, c)] rfl rfl (two_cells wr (k, c) _) (by omega) (by have := HBW.out; simp; omega) ?_)
            intro a2 c2 w2 o2 b2
            have O2 := hide o2
            have K2 : Hid (Below w.heap.size w w2) := (bel_al HB.out (Nat.le_refl _) _).trans b2
            obtain ⟨f0, f1⟩ := HG.out w2 K2.out
            have HBW2 : Hid (w.heap.size ≤ w2.heap.size) := K2.out.size
            clear o2 b2 HO HB g0 g1 HBW
            have HBW := HBW2
            go_wp2_with (at_builtin; refine wpList_append_bks _ rfl _ _ 24 rfl w.heap.size i0 Try.underlying24 hi hz0 hz1 hz2 a2 (nm + 1) c2 _ rfl (O2.out.alloc _) ⟨w2.heap.size, 0, none⟩ 1 1 [(x, y)] rfl rfl (two_cells w2 (x, y) _) (by omega) (by have := HBW.out; simp; omega) ?_)
            intro a3 c3 w3 o3 b3
            have O3 : Hid (OwnB w3 w.heap.size a3 (nm + 1 + 1) c3 (pre ++ [(k, c)] ++ [(x, y)])) := by rw [List.append_assoc]; exact o3
            have K3 : Hid (Below w.heap.size w w3) := (bel_al K2.out (Nat.le_refl _) _).trans b3
            clear o3 b3 O2 K2 f0 f1
            go_wp2
            go_roundw
            case rel => exact ⟨a3, nm + 1 + 1, c3, nm + 1, true, _, rfl, rfl, by go_num, by omega, by omega, HN, fun h => by simp at h, O3, K3⟩
            case measure => simp [intOf]; omega
          · have t2 : decide (k < x) = false := decide_eq_false e2
            have HN : Hid ((pre ++ [(x, y)]).length = nm + 1 ∧ (pre ++ [(x, y)]) ++ (if false then l.drop (nm + 1) else insS k c (l.drop (nm + 1))) = M) := by
              refine ⟨by rw [List.length_append, HP.out.1]; rfl, ?_⟩
              have := HP.out.2
              rw [HDR.out, if_neg (by decide), insS_lt (by omega)] at this
              rw [← this]; simp
            clear e1 e2
            go_wp2_with (at_builtin; refine wpList_append_bks _ rfl _ _ 24 rfl w.heap.size i0 Try.underlying24 hi hz0 hz1 hz2 am nm cm pre rfl (HO.out.alloc _) ⟨wr.heap.size, 0, none⟩ 1 1 [(x, y)] rfl rfl (two_cells wr (x, y) _) (by omega) (by have := HBW.out; simp; omega) ?_)
            intro a2 c2 w2 o2 b2
            have O2 := hide o2
            have K2 : Hid (Below w.heap.size w w2) := (bel_al HB.out (Nat.le_refl _) _).trans b2
            clear o2 b2 HO HB g0 g1
            go_wp2
            go_roundw
            case rel => exact ⟨a2, nm + 1, c2, nm + 1, false, _, rfl, rfl, by go_num, by omega, by omega, HN, fun _ => rfl, O2, K2⟩
            case measure => simp [intOf]; omega
      · have HN : Hid ((pre ++ [(x, y)]).length = nm + 1 ∧ (pre ++ [(x, y)]) ++ (if true then l.drop (j + 1) else insS k c (l.drop (j + 1))) = M) := by
          refine ⟨by rw [List.length_append, HP.out.1]; rfl, ?_⟩
          have := HP.out.2
          rw [HDR.out, if_pos (by decide)] at this
          rw [← this]; simp
        go_wp2_with (at_builtin; refine wpList_append_bks _ rfl _ _ 24 rfl w.heap.size i0 Try.underlying24 hi hz0 hz1 hz2 am nm cm pre rfl (HO.out.alloc _) ⟨wr.heap.size, 0, none⟩ 1 1 [(x, y)] rfl rfl (two_cells wr (x, y) _) (by omega) (by have := HBW.out; simp; omega) ?_)
        intro a2 c2 w2 o2 b2
        have O2 := hide o2
        have K2 : Hid (Below w.heap.size w w2) := (bel_al HB.out (Nat.le_refl _) _).trans b2
        clear o2 b2 HO HB g0 g1
        go_wp2
        go_roundw
        case rel => exact ⟨a2, nm + 1, c2, j + 1, true, _, rfl, rfl, by go_num, by omega, by omega, HN, fun h => by simp at h, O2, K2⟩
        case measure => simp [intOf]; omega
    · have : j = n := by omega
      subst this
      have HBW : Hid (w.heap.size ≤ wr.heap.size) := HB.out.size
      have HDR : Hid (l.drop j = []) := List.drop_of_length_le (by rw [HL.out]; omega)
      cases D
      · have HN : Hid (pre ++ [(k, c)] = M ∧ M.length = nm + 1) := by
          have := HP.out.2
          rw [HDR.out, if_neg (by decide), insS] at this
          exact ⟨this, by rw [← this, List.length_append, HP.out.1]; rfl⟩
        go_wp2_with (at_builtin; refine wpList_append_bks _ rfl _ _ 24 rfl w.heap.size i0 Try.underlying24 hi hz0 hz1 hz2 am nm cm pre rfl (HO.out.alloc _) ⟨wr.heap.size, 0, none⟩ 1 1 [(k, c)] rfl rfl (two_cells wr (k, c) _) (by omega) (by have := HBW.out; simp; omega) ?_)
        intro a2 c2 w2 o2 b2
        rw [HN.out.1] at o2
        have O2 := hide o2
        have K2 : Hid (Below w.heap.size w w2) := (bel_al HB.out (Nat.le_refl _) _).trans b2
        clear o2 b2 HO HB
        go_wp2
        go_ret
        rw [HN.out.2]
        exact ⟨a2, c2, rfl, O2, K2⟩
      · have HN : Hid (pre = M ∧ M.length = nm) := by
          have := HP.out.2
          rw [HDR.out, if_pos (by decide), List.append_nil] at this
          exact ⟨this, by rw [← this]; exact HP.out.1⟩
        rw [HN.out.1] at HO
        go_wp2
        go_ret
        rw [HN.out.2]
        exact ⟨am, cm, rfl, HO, HB⟩
end Go.Proofs.Ytadcaonkmncgoaa
