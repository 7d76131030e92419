/-
  The law MatchChecks, walked: the program's Check of a copy and the document's Check agree; the document's examples hold.
  Conditions: none.
-/
import Derived.Test.YthebcmkainplnaaMatI
import Derived.Test.YthebcmkainplnaaMatLz
import Derived.Test.YthebcmkainplnaaMatC
namespace Go.Proofs.Ythebcmkainplnaa
open Go.RowKit
set_option maxRecDepth 20000

theorem keep5c {w v v' : World} {B : Nat} {p1 p2 p3 p4 p5 : Addr} {x1 x2 x3 x4 x5 : Value} (hb : Below v.heap.size v v')
    (h : v.cell? p1 = some x1 ∧ v.cell? p2 = some x2 ∧ v.cell? p3 = some x3 ∧ v.cell? p4 = some x4 ∧ v.cell? p5 = some x5 ∧ Hid (B ≤ v.heap.size ∧ Below B w v)) : v'.cell? p1 = some x1 ∧ v'.cell? p2 = some x2 ∧ v'.cell? p3 = some x3 ∧ v'.cell? p4 = some x4 ∧ v'.cell? p5 = some x5 ∧ Hid (B ≤ v'.heap.size ∧ Below B w v') := by
  obtain ⟨c1, c2, c3, c4, c5, l1, l2⟩ := h
  refine ⟨?_, ?_, ?_, ?_, ?_, Nat.le_trans l1 hb.size, l2.trans (hb.mono l1)⟩
  · rw [hb.cell (World.block_lt_of_cell? v _ c1)]; exact c1
  · rw [hb.cell (World.block_lt_of_cell? v _ c2)]; exact c2
  · rw [hb.cell (World.block_lt_of_cell? v _ c3)]; exact c3
  · rw [hb.cell (World.block_lt_of_cell? v _ c4)]; exact c4
  · rw [hb.cell (World.block_lt_of_cell? v _ c5)]; exact c5

set_option maxHeartbeats 4000000 in
theorem checksM_any (m : Mt) (h : Hm) (w : World) (q : SeeM (fun _ => True) w m h) :
    Calls Try.prog 3 #[.agg #[.int .i64 h.op, .string h.nm, .string h.vl, .slice h.va h.vn h.vc, .slice h.ka h.kn h.kc]] w fun e w' => e = .returned (.bool true) ∧ Below w.heap.size w w' := by
  obtain ⟨op, nm, vl, va, vn, vc, ka, kn, kc⟩ := h
  dsimp only
  obtain ⟨W, hW⟩ : ∃ W, Hid (w.alloc (.cells #[.int .i64 op, .string nm, .string vl, .slice va vn vc, .slice ka kn kc] 25) = W) := ⟨_, rfl⟩
  have LW : Hid (Below w.heap.size w W) := by rw [← hW.out]; exact (Below.refl _ _).alloc (Nat.le_refl _) _
  have B : Hid (BoxM W w.heap.size ⟨op, nm, vl, va, vn, vc, ka, kn, kc⟩) := by rw [← hW.out]; exact boxM_new w ⟨op, nm, vl, va, vn, vc, ka, kn, kc⟩
  have T1 := hide (tinyT_any (fun _ => True) m _ W (q.below LW.out))
  dsimp only at T1
  have AW := hide awakeM_any
  obtain ⟨b0, b1, b2, b3, b4, _⟩ := B.out.all
  dsimp only at b0 b1 b2 b3 b4
  go_enter Try.func3, Try.ntmps3
  go_upto_region 1 with fail
  rw [hW.out]
  clear hW
  go_wp2_with fail
  with_reducible refine T1.out.mono ?_
  rintro e v1 ⟨rfl, k1⟩
  have L1 : Hid (Below w.heap.size w v1) := bel_to LW.out (Nat.le_refl _) k1
  have B1 := hide (B.out.block (k1.block _ B.out.lt))
  clear T1 k1 b0 b1 b2 b3 b4 B
  cases ht : tinyM m with
  | false =>
    go_wp2_with fail
    with_reducible refine (AW.out _).mono ?_
    rintro e v2 ⟨rfl, k2⟩
    have L2 := hide (bel_to L1.out (Nat.le_refl _) k2)
    clear k2
    go_wp2
    go_ret
    exact ⟨rfl, L2.out⟩
  | true =>
    have Q1 := hide (q.below (L1.out.drew))
    have D1 : Hid (Below w.heap.size w v1.drew) := L1.out.drew
    have TM := hide (fun u (hu : u.cell? ⟨w.heap.size, 0, none⟩ = some (.int .i64 op) ∧ u.cell? ⟨w.heap.size, 1, none⟩ = some (.string nm) ∧ u.cell? ⟨w.heap.size, 2, none⟩ = some (.string vl) ∧ u.cell? ⟨w.heap.size, 3, none⟩ = some (.slice va vn vc) ∧ u.cell? ⟨w.heap.size, 4, none⟩ = some (.slice ka kn kc) ∧ Hid (w.heap.size ≤ u.heap.size ∧ Below w.heap.size w u)) => copyM_any (fun _ => True) m ⟨op, nm, vl, va, vn, vc, ka, kn, kc⟩ u (q.below hu.2.2.2.2.2.out.2) ht)
    have TR := hide (fun u (hu : u.cell? ⟨w.heap.size, 0, none⟩ = some (.int .i64 op) ∧ u.cell? ⟨w.heap.size, 1, none⟩ = some (.string nm) ∧ u.cell? ⟨w.heap.size, 2, none⟩ = some (.string vl) ∧ u.cell? ⟨w.heap.size, 3, none⟩ = some (.slice va vn vc) ∧ u.cell? ⟨w.heap.size, 4, none⟩ = some (.slice ka kn kc) ∧ Hid (w.heap.size ≤ u.heap.size ∧ Below w.heap.size w u)) => refchkM_any (fun _ => True) m ⟨op, nm, vl, va, vn, vc, ka, kn, kc⟩ u (q.below hu.2.2.2.2.2.out.2))
    dsimp only at TM TR
    have TC := hide (fun S h2 u (q2 : SeeM S u m h2) => chkM_any S m h2 u q2)
    generalize chkM m = ans at *
    have ea : (ans == ans) = true := by simp
    obtain ⟨b0, b1, b2, b3, b4, _⟩ := B1.out.all
    dsimp only at b0 b1 b2 b3 b4
    have S0 : Hid (v1.drew.cell? ⟨w.heap.size, 0, none⟩ = some (.int .i64 op) ∧ v1.drew.cell? ⟨w.heap.size, 1, none⟩ = some (.string nm) ∧ v1.drew.cell? ⟨w.heap.size, 2, none⟩ = some (.string vl) ∧ v1.drew.cell? ⟨w.heap.size, 3, none⟩ = some (.slice va vn vc) ∧ v1.drew.cell? ⟨w.heap.size, 4, none⟩ = some (.slice ka kn kc) ∧ Hid (w.heap.size ≤ v1.drew.heap.size ∧ Below w.heap.size w v1.drew)) := ⟨b0, b1, b2, b3, b4, L1.out.size, L1.out.drew⟩
    clear ht q
    go_upto_region 3 with fail
    clear b0 b1 b2 b3 b4
    go_region_held3 (fun w' => w'.cell? ⟨w.heap.size, 0, none⟩ = some (.int .i64 op) ∧ w'.cell? ⟨w.heap.size, 1, none⟩ = some (.string nm) ∧ w'.cell? ⟨w.heap.size, 2, none⟩ = some (.string vl) ∧ w'.cell? ⟨w.heap.size, 3, none⟩ = some (.slice va vn vc) ∧ w'.cell? ⟨w.heap.size, 4, none⟩ = some (.slice ka kn kc) ∧ Hid (w.heap.size ≤ w'.heap.size ∧ Below w.heap.size w w')) (first | with_reducible exact S0.out | with_reducible exact keep5c (by assumption) (by assumption)) (first
      | (go_at_call 12; (with_reducible refine (TM.out _ (by assumption)).mono ?_); rintro e v2 ⟨⟨op2, nm2, vl2, va2, vn2, vc2, ka2, kn2, kc2⟩, rfl, s2, bv2⟩; have SM := hide s2; clear s2)
      | (go_at_call 13; (with_reducible refine (TR.out _ (by assumption)).mono ?_); rintro e v3 ⟨rfl, bv3⟩; try (have SN := hide (SM.out.below bv3)))
      | (go_at_call 11; (first | with_reducible refine (TC.out _ ⟨op2, nm2, vl2, va2, vn2, vc2, ka2, kn2, kc2⟩ _ SN.out).mono ?_ | with_reducible refine (TC.out _ ⟨op2, nm2, vl2, va2, vn2, vc2, ka2, kn2, kc2⟩ _ SM.out).mono ?_); rintro e v4 ⟨rfl, bv4⟩)
      | (go_at_call 10; (with_reducible refine (AW.out _).mono ?_); rintro e v5 ⟨rfl, bv5⟩))
    rename_i hh
    have F := hide hh.2.2.2.2.2.out.2
    clear hh
    go_wp2
    go_ret
    exact ⟨rfl, F.out⟩
end Go.Proofs.Ythebcmkainplnaa
