/-
  Whether a matcher has a name in it: the laws' names: a contract, for every world; a label of another name turns no answer.
  Conditions: the matcher lies in memory.
-/
import Derived.Test.YthebcmkainplnabMatE
namespace Go.Proofs.Ythebcmkainplnab
open Go.RowKit
set_option maxRecDepth 20000

mutual
/-- Has it the name in it? -/
def hasM (s : ByteArray) : Mt → Bool
  | .mk _ nm _ _ ks => decide (nm = s) || hasKs s ks
def hasKs (s : ByteArray) : List Mt → Bool
  | [] => false
  | k :: ks => hasM s k || hasKs s ks
end
theorem hasKs_any (s : ByteArray) (ks : List Mt) : hasKs s ks = ks.any (hasM s) := by
  induction ks with
  | nil => rfl
  | cons x t ih => rw [hasKs, ih, List.any_cons]
theorem hasM_eq (s : ByteArray) (m : Mt) : hasM s m = (decide (m.nm = s) || m.ks.any (hasM s)) := by
  cases m
  rw [hasM, hasKs_any]
  rfl
theorem valL_more {l : List Lb} {x : Lb} {n : ByteArray} (h : x.1 ≠ n) : valL (l ++ [x]) n = valL l n := by
  unfold valL
  rw [List.find?_append, List.find?_cons_of_neg (by simpa using h), List.find?_nil, Option.or_none]
theorem eval_more (l : List Lb) (x : Lb) (m : Mt) : hasM x.1 m = false → evalM (l ++ [x]) m = evalM l m := by
  refine Mt.ind (P := fun m => hasM x.1 m = false → evalM (l ++ [x]) m = evalM l m) ?_ m
  intro m ih h
  rw [hasM_eq, Bool.or_eq_false_iff, decide_eq_false_iff_not] at h
  obtain ⟨h1, h2⟩ := h
  have hk : ∀ k ∈ m.ks, evalM (l ++ [x]) k = evalM l k := fun k hk => ih k hk (by
    rw [List.any_eq_false] at h2
    simpa using h2 k hk)
  rw [evalM_eq, evalM_eq l, valL_more (fun e => h1 e.symm)]
  have h5 : m.ks.all (evalM (l ++ [x])) = m.ks.all (evalM l) := by
    rw [Bool.eq_iff_iff, List.all_eq_true, List.all_eq_true]
    exact ⟨fun h k hm => by rw [← hk k hm]; exact h k hm, fun h k hm => by rw [hk k hm]; exact h k hm⟩
  have h6 : m.ks.any (evalM (l ++ [x])) = m.ks.any (evalM l) := by
    rw [Bool.eq_iff_iff, List.any_eq_true, List.any_eq_true]
    exact ⟨fun ⟨k, hm, h⟩ => ⟨k, hm, by rw [← hk k hm]; exact h⟩, fun ⟨k, hm, h⟩ => ⟨k, hm, by rw [hk k hm]; exact h⟩⟩
  rw [h5, h6]
  cases hm : m.ks with
  | nil => rfl
  | cons k t =>
    have h7 := hk k (by rw [hm]; exact List.mem_cons_self ..)
    simp only [h7]
theorem any_kids {ks : List Mt} {p : Mt → Bool} {i : Nat} {k : Mt} (h : (ks.take i).any p = false) (hs : ks[i]? = some k) : (ks.take (i + 1)).any p = p k := by
  rw [take_kid hs, List.any_append, h]
  simp

set_option maxHeartbeats 4000000 in
theorem names_any (s : ByteArray) (m : Mt) : ∀ (S : Nat → Prop) (h : Hm) (w : World), SeeM S w m h →
    Calls Try.prog 18 #[.agg #[.int .i64 h.op, .string h.nm, .string h.vl, .slice h.va h.vn h.vc, .slice h.ka h.kn h.kc], .string s] w fun e w' => e = .returned (.bool (hasM s m)) ∧ Below w.heap.size w w' := by
  refine Mt.ind (P := fun m => ∀ (S : Nat → Prop) (h : Hm) (w : World), SeeM S w m h →
    Calls Try.prog 18 #[.agg #[.int .i64 h.op, .string h.nm, .string h.vl, .slice h.va h.vn h.vc, .slice h.ka h.kn h.kc], .string s] w fun e w' => e = .returned (.bool (hasM s m)) ∧ Below w.heap.size w w') ?_ m
  intro m ih S h w q
  obtain ⟨op, nm, vl, va, vn, vc, ka, kn, kc⟩ := h
  have IH := hide ih
  obtain ⟨-, e2, -, hw, -, hk, -⟩ := seeM_iff.1 q
  dsimp only at e2 hk ⊢
  have w1 : nm.size ≤ 9223372036854775807 := hw.nm
  have w4 : kn * 88 ≤ 140737488355328 := hw.kn
  have HKL := hide hk
  have HT := hide (hasM_eq s m)
  rw [← e2] at HT
  generalize hasM s m = ans at *
  have HQ := hide q
  obtain ⟨W, hW⟩ : ∃ W, Hid (w.alloc (.cells #[.int .i64 op, .string nm, .string vl, .slice va vn vc, .slice ka kn kc] 25) = W) := ⟨_, rfl⟩
  have LW : Hid (Below w.heap.size w W) := by rw [← hW.out]; exact (Below.refl _ _).alloc (Nat.le_refl _) _
  have B : Hid (BoxM W w.heap.size ⟨op, nm, vl, va, vn, vc, ka, kn, kc⟩) := by rw [← hW.out]; exact boxM_new w ⟨op, nm, vl, va, vn, vc, ka, kn, kc⟩
  obtain ⟨b0, b1, b2, b3, b4, _⟩ := B.out.all
  dsimp only at b0 b1 b2 b3 b4
  clear ih q hk e2 hw
  by_cases he : nm = s
  · have F : Hid (ans = true) := by show _ = _; rw [HT.out, decide_eq_true he]; rfl
    have e1 : (nm.toList == s.toList) = true := by rw [he]; simp
    clear he HT IH HQ
    go_enter Try.func18, Try.ntmps18
    go_upto_region 1 with fail
    rw [hW.out]
    clear hW
    go_wp2
    go_ret
    exact ⟨by rw [F.out]; rfl, LW.out⟩
  · have HT2 : Hid (ans = m.ks.any (hasM s)) := by show _ = _; rw [HT.out, decide_eq_false he]; rfl
    have e1 : (nm.toList == s.toList) = false := by
      rw [beq_eq_false_iff_ne]
      exact fun e => he (ba_ext e)
    clear he HT
    go_enter Try.func18, Try.ntmps18
    go_upto_region 1 with fail
    rw [hW.out]
    clear hW
    go_wp2
    go_loopw [5] (fun i wr => ∃ j : Nat, j ≤ kn ∧ i = .int .i64 j ∧ Hid (Below w.heap.size w wr) ∧ Hid (BoxM wr w.heap.size ⟨op, nm, vl, va, vn, vc, ka, kn, kc⟩) ∧ Hid ((m.ks.take j).any (hasM s) = false)) (fun i _ => kn - (intOf i).toNat)
    case atStart => exact ⟨0, by omega, rfl, LW, B, by rw [List.take_zero]; rfl⟩
    case round =>
      obtain ⟨j, hj, rfl, HL, HB, HA⟩ := hrel
      obtain ⟨u, rfl⟩ : ∃ u, u = wr := ⟨wr, rfl⟩
      clear b0 b1 b2 b3 b4 B LW
      obtain ⟨b0, b1, b2, b3, b4, _⟩ := HB.out.all
      dsimp only at b0 b1 b2 b3 b4
      by_cases hlt : j < kn
      · obtain ⟨b, off, k, h', e, hk, hsb, q5, qk⟩ := (HQ.out.below HL.out).kid hlt
        obtain ⟨op', nm', vl', va', vn', vc', ka', kn', kc'⟩ := h'
        dsimp only at e
        subst e
        obtain ⟨g0, g1, g2, g3, g4⟩ := q5.all
        dsimp only at g0 g1 g2 g3 g4
        have i1 : (0 : Int) ≤ (j : Int) := by omega
        have i2 : (j : Int) < (kn : Int) := by omega
        have HX := hide hk
        have T := hide (IH.out k (List.mem_of_getElem? hk) S _ u qk)
        dsimp only at T
        have HA2 : Hid ((m.ks.take (j + 1)).any (hasM s) = hasM s k) := any_kids HA.out HX.out
        clear hk hsb q5 qk
        cases ht : hasM s k with
        | true =>
          rw [ht] at T HA2
          have F : Hid (ans = true) := by
            show _ = _
            rw [HT2.out]
            exact List.any_eq_true.2 ⟨k, List.mem_of_getElem? HX.out, ht⟩
          clear ht HA HA2
          go_wp2_with fail
          with_reducible refine T.out.mono ?_
          rintro e w2 ⟨rfl, c2⟩
          have L2 := hide (bel_to HL.out (Nat.le_refl _) c2)
          clear c2 T g0 g1 g2 g3 g4 b0 b1 b2 b3 b4
          go_wp2
          go_ret
          exact ⟨by rw [F.out]; rfl, L2.out⟩
        | false =>
          rw [ht] at T HA2
          clear ht HA
          go_wp2_with fail
          with_reducible refine T.out.mono ?_
          rintro e w2 ⟨rfl, c2⟩
          have L2 := hide (bel_to HL.out (Nat.le_refl _) c2)
          have B2 := hide (HB.out.block (c2.block _ HB.out.lt))
          clear c2 T g0 g1 g2 g3 g4 b0 b1 b2 b3 b4
          go_wp2
          go_roundw
          case rel => exact ⟨j + 1, by omega, by go_num, L2, B2, HA2⟩
          case measure => simp [intOf]; omega
      · have F : Hid (ans = false) := by
          show _ = _
          have hA := HA.out
          rw [show m.ks.take j = m.ks from List.take_of_length_le (by rw [HKL.out]; omega)] at hA
          rw [HT2.out, hA]
        clear HT2 HA
        go_wp2
        go_ret
        exact ⟨by rw [F.out]; rfl, HL.out⟩
end Go.Proofs.Ythebcmkainplnab
