/-
  The law MatchEvals, walked: the program's Eval of copies and the document's Eval agree; the document's examples hold (written by gen/matq.gen.py).
  Conditions: none.
-/
import Derived.Test.YthebcmkainplnaaMatJ
import Derived.Test.YthebcmkainplnaaMatG
namespace Go.Proofs.Ythebcmkainplnaa
open Go.RowKit
set_option maxRecDepth 20000

set_option maxHeartbeats 4000000 in
theorem evalsM_any (m : Mt) (h : Hm) (a : Option Addr) (n cap : Nat) (l : List Lb) (w : World) (q : SeeM (fun _ => True) w m h) (hr : RowL w a n l) (hz : a = none → cap = 0) :
    Calls Try.prog 4 #[.agg #[.int .i64 h.op, .string h.nm, .string h.vl, .slice h.va h.vn h.vc, .slice h.ka h.kn h.kc], .slice a n cap] w fun e w' => e = .returned (.bool true) ∧ Below w.heap.size w w' := by
  obtain ⟨op, nm, vl, va, vn, vc, ka, kn, kc⟩ := h
  dsimp only
  have hn := hr.2.1
  obtain ⟨W, hW⟩ : ∃ W, Hid (w.alloc (.cells #[.int .i64 op, .string nm, .string vl, .slice va vn vc, .slice ka kn kc] 25) = W) := ⟨_, rfl⟩
  have LW : Hid (Below w.heap.size w W) := by rw [← hW.out]; exact (Below.refl _ _).alloc (Nat.le_refl _) _
  have B : Hid (BoxM W w.heap.size ⟨op, nm, vl, va, vn, vc, ka, kn, kc⟩) := by rw [← hW.out]; exact boxM_new w ⟨op, nm, vl, va, vn, vc, ka, kn, kc⟩
  have T1 := hide (tinyT_any (fun _ => True) m _ W (q.below LW.out))
  have T2 := hide (fun u (hu : Below w.heap.size w u) => refchkM_any (fun _ => True) m ⟨op, nm, vl, va, vn, vc, ka, kn, kc⟩ u (q.below hu))
  dsimp only at T1 T2
  have AW := hide awakeM_any
  obtain ⟨b0, b1, b2, b3, b4, _⟩ := B.out.all
  dsimp only at b0 b1 b2 b3 b4
  have HQ := hide q
  have HR := hide hr
  have HZ := hide hz
  clear q hr hz
  go_enter Try.func4, Try.ntmps4
  go_upto_region 1 with fail
  rw [hW.out]
  clear hW
  go_wp2_with fail
  with_reducible refine T1.out.mono ?_
  rintro e v1 ⟨rfl, k1⟩
  have L1 : Hid (Below w.heap.size w v1) := bel_to LW.out (Nat.le_refl _) k1
  have B1 := hide (B.out.block (k1.block _ B.out.lt))
  clear T1 k1 b0 b1 b2 b3 b4 B LW
  obtain ⟨b0, b1, b2, b3, b4, _⟩ := B1.out.all
  dsimp only at b0 b1 b2 b3 b4
  cases ht : tinyM m with
  | false =>
    go_wp2_with fail
    with_reducible refine (AW.out _).mono ?_
    rintro e v2 ⟨rfl, k2⟩
    have L2 := hide (bel_to L1.out (Nat.le_refl _) k2)
    clear k2
    go_wp2
    go_ret
    exact ⟨rfl, L2.out⟩
  | true =>
    go_wp2_with fail
    with_reducible refine (T2.out _ L1.out).mono ?_
    rintro e v2 ⟨rfl, k2⟩
    have L2 := hide (bel_to L1.out (Nat.le_refl _) k2)
    have B2 := hide (B1.out.block (k2.block _ B1.out.lt))
    clear T2 k2 b0 b1 b2 b3 b4 B1 L1
    obtain ⟨b0, b1, b2, b3, b4, _⟩ := B2.out.all
    dsimp only at b0 b1 b2 b3 b4
    cases hc : chkM m with
    | false =>
      go_wp2_with fail
      with_reducible refine (AW.out _).mono ?_
      rintro e v3 ⟨rfl, k2⟩
      have L3 := hide (bel_to L2.out (Nat.le_refl _) k2)
      clear k2
      go_wp2
      go_ret
      exact ⟨rfl, L3.out⟩
    | true =>
      by_cases hbig : 100 < n
      · have t1 : (100 : Int) < (n : Int) := by omega
        go_wp2_with fail
        with_reducible refine (AW.out _).mono ?_
        rintro e v3 ⟨rfl, k2⟩
        have L3 := hide (bel_to L2.out (Nat.le_refl _) k2)
        clear k2
        go_wp2
        go_ret
        exact ⟨rfl, L3.out⟩
      · have t1 : ¬ (100 : Int) < (n : Int) := by omega
        have TM := hide (fun u (hu : u.cell? ⟨w.heap.size, 0, none⟩ = some (.int .i64 op) ∧ u.cell? ⟨w.heap.size, 1, none⟩ = some (.string nm) ∧ u.cell? ⟨w.heap.size, 2, none⟩ = some (.string vl) ∧ u.cell? ⟨w.heap.size, 3, none⟩ = some (.slice va vn vc) ∧ u.cell? ⟨w.heap.size, 4, none⟩ = some (.slice ka kn kc) ∧ Hid (w.heap.size ≤ u.heap.size ∧ Below w.heap.size w u)) => copyM_any (fun _ => True) m ⟨op, nm, vl, va, vn, vc, ka, kn, kc⟩ u (HQ.out.below hu.2.2.2.2.2.out.2) ht)
        have TL := hide (fun u (hu : u.cell? ⟨w.heap.size, 0, none⟩ = some (.int .i64 op) ∧ u.cell? ⟨w.heap.size, 1, none⟩ = some (.string nm) ∧ u.cell? ⟨w.heap.size, 2, none⟩ = some (.string vl) ∧ u.cell? ⟨w.heap.size, 3, none⟩ = some (.slice va vn vc) ∧ u.cell? ⟨w.heap.size, 4, none⟩ = some (.slice ka kn kc) ∧ Hid (w.heap.size ≤ u.heap.size ∧ Below w.heap.size w u)) => labels_any a n cap l u (HR.out.below hu.2.2.2.2.2.out.2 (Nat.le_refl _)) HZ.out)
        have TE := hide (fun S h2 al cl u (q2 : SeeM S u m h2) (r2 : RowL u al n l) => evalT_any l S m h2 al n cl u q2 hc r2)
        have TR := hide (fun u (hu : u.cell? ⟨w.heap.size, 0, none⟩ = some (.int .i64 op) ∧ u.cell? ⟨w.heap.size, 1, none⟩ = some (.string nm) ∧ u.cell? ⟨w.heap.size, 2, none⟩ = some (.string vl) ∧ u.cell? ⟨w.heap.size, 3, none⟩ = some (.slice va vn vc) ∧ u.cell? ⟨w.heap.size, 4, none⟩ = some (.slice ka kn kc) ∧ Hid (w.heap.size ≤ u.heap.size ∧ Below w.heap.size w u)) => reval_any l m (fun _ => True) ⟨op, nm, vl, va, vn, vc, ka, kn, kc⟩ a n cap u (HQ.out.below hu.2.2.2.2.2.out.2) (okM_of hc) (HR.out.below hu.2.2.2.2.2.out.2 (Nat.le_refl _)))
        have HF : Hid (n * 32 ≤ 140737488355328 ∧ ∀ x ∈ l, LbW x) := ⟨HR.out.2.1, HR.out.2.2.1⟩
        dsimp only at TM TR
        generalize evalM l m = ans at *
        have ea : (ans == ans) = true := by simp
        have S0 : Hid (v2.drew.cell? ⟨w.heap.size, 0, none⟩ = some (.int .i64 op) ∧ v2.drew.cell? ⟨w.heap.size, 1, none⟩ = some (.string nm) ∧ v2.drew.cell? ⟨w.heap.size, 2, none⟩ = some (.string vl) ∧ v2.drew.cell? ⟨w.heap.size, 3, none⟩ = some (.slice va vn vc) ∧ v2.drew.cell? ⟨w.heap.size, 4, none⟩ = some (.slice ka kn kc) ∧ Hid (w.heap.size ≤ v2.drew.heap.size ∧ Below w.heap.size w v2.drew)) := ⟨b0, b1, b2, b3, b4, L2.out.size, L2.out.drew⟩
        clear ht hc
        go_upto_region 3 with fail
        clear b0 b1 b2 b3 b4
        go_region_held3 (fun w' => w'.cell? ⟨w.heap.size, 0, none⟩ = some (.int .i64 op) ∧ w'.cell? ⟨w.heap.size, 1, none⟩ = some (.string nm) ∧ w'.cell? ⟨w.heap.size, 2, none⟩ = some (.string vl) ∧ w'.cell? ⟨w.heap.size, 3, none⟩ = some (.slice va vn vc) ∧ w'.cell? ⟨w.heap.size, 4, none⟩ = some (.slice ka kn kc) ∧ Hid (w.heap.size ≤ w'.heap.size ∧ Below w.heap.size w w')) (first | with_reducible exact S0.out | with_reducible exact keep5c (by assumption) (by assumption)) (first
          | (go_at_call 12; (with_reducible refine (TM.out _ (by assumption)).mono ?_); rintro e v3 ⟨⟨op2, nm2, vl2, va2, vn2, vc2, ka2, kn2, kc2⟩, rfl, s2, bv3⟩; have SM := hide s2; clear s2)
          | (go_at_call 15; (with_reducible refine (TL.out _ (by assumption)).mono ?_); rintro e v4 ⟨al2, cl2, rfl, o2, bv4⟩; have SN := hide (SM.out.below bv4); have RL := hide (o2.row HF.out.1 HF.out.2); clear o2)
          | (go_at_call 14; (with_reducible refine (TE.out _ ⟨op2, nm2, vl2, va2, vn2, vc2, ka2, kn2, kc2⟩ _ _ _ SN.out RL.out).mono ?_); rintro e v5 ⟨rfl, bv5⟩)
          | (go_at_call 16; (with_reducible refine (TR.out _ (by assumption)).mono ?_); rintro e v6 ⟨rfl, bv6⟩)
          | (go_at_call 10; (with_reducible refine (AW.out _).mono ?_); rintro e v7 ⟨rfl, bv7⟩))
        rename_i hh
        have F := hide hh.2.2.2.2.2.out.2
        clear hh
        go_wp2
        go_ret
        exact ⟨rfl, F.out⟩
end Go.Proofs.Ythebcmkainplnaa
