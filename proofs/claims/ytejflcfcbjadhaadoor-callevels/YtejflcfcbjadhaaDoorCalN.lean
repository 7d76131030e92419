/-
  Statements CalLevels, CalRises over what is asked: contracts, for every world (written by gen/caln.gen.py).
  Conditions: cal does what is asked.
-/
import Derived.Test.YtejflcfcbjadhaaDoorCalL
namespace Go.Proofs.YtejflcfcbjadhaaDoor
open Go.RowKit
set_option maxRecDepth 20000

set_option maxHeartbeats 8000000 in
theorem levels_of (R : CaRes) (H : CaHor) (L : CaLev) (c : Cf) (now day l : Int) (w : World) (tb : TbW w) (hc : CfW c) (hn : (Lit.int .i64 now).wf = true) (hd : (Lit.int .i64 day).wf = true) (hl : (Lit.int .i64 l).wf = true) :
    Calls Tryd.prog 5 #[cfV c, .int .i64 now, .int .i64 day, .int .i64 l] w fun e w' => e = .returned (.bool true) ∧ Below w.heap.size w w' := by
  obtain ⟨W, hW⟩ : ∃ W, Hid (w.alloc (.cells #[.int .i64 c.sl, .int .i64 c.k0, .int .i64 c.k1, .int .i64 c.k2, .int .i64 c.k3] 24) = W) := ⟨_, rfl⟩
  have LW : Hid (Below w.heap.size w W) := by rw [← hW.out]; exact (Below.refl _ _).alloc (Nat.le_refl _) _
  have B : Hid (BoxC W w.heap.size c) := by rw [← hW.out]; exact boxC_new w c
  have CL : Hid (∀ u, Below W.heap.size W u → cells5 u w.heap.size c ∧ Hid (Below W.heap.size W u)) := fun u hu => ⟨(B.out.below hu B.out.lt).all, hu⟩
  have KP : Hid (∀ v v', Below v.heap.size v v' → (cells5 v w.heap.size c ∧ Hid (Below W.heap.size W v)) → cells5 v' w.heap.size c ∧ Hid (Below W.heap.size W v')) := fun v v' hb h => CL.out v' (bel_to h.2.out (Nat.le_refl _) hb)
  have TK := hide (fun u => rchk_any c u)
  have TA : Hid (∀ u, Below W.heap.size W u → Calls Tryd.prog 13 #[] u fun e w' => e = .returned (.bool true) ∧ Below u.heap.size u w') := fun u b => awakeC_of R H L u (tb.bel (bel_to LW.out (Nat.le_refl _) b))
  clear tb
  obtain ⟨⟨b0, b1, b2, b3, b4⟩, -⟩ := CL.out W (Below.refl _ _)
  have TL := hide (fun u => L.lev c now day u hc hn hd)
  have TH := hide (fun u => H.hor c now l u hc hn hl)
  obtain ⟨hn0, hn1⟩ := i64_of_wf hn
  cases hck : chkC c with
  | false =>
    clear R H L hc hn hd hl B KP
    go_enter Tryd.func5, Tryd.ntmps5
    go_upto_region 1 with fail
    rw [hW.out]
    clear hW
    go_wp2_with fail
    with_reducible refine (TK.out _).mono ?_
    rintro e u1 ⟨rfl, p1⟩
    have B1 := hide p1
    rw [hck]
    clear p1 TK b0 b1 b2 b3 b4
    obtain ⟨⟨b0, b1, b2, b3, b4⟩, -⟩ := CL.out u1 B1.out
    go_wp2_with fail
    with_reducible refine (TL.out _).mono ?_
    rintro e u2 ⟨x2, rfl, -, p2⟩
    have B2 := hide (bel_to B1.out (Nat.le_refl _) p2)
    clear p2 b0 b1 b2 b3 b4
    obtain ⟨⟨b0, b1, b2, b3, b4⟩, -⟩ := CL.out u2 B2.out
    go_wp2_with fail
    with_reducible refine (TH.out _).mono ?_
    rintro e u3 ⟨x3, rfl, -, p3⟩
    have B3 := hide (bel_to B2.out (Nat.le_refl _) p3)
    clear p3 b0 b1 b2 b3 b4
    obtain ⟨⟨b0, b1, b2, b3, b4⟩, -⟩ := CL.out u3 B3.out
    go_wp2_with fail
    with_reducible refine (TA.out _ B3.out).mono ?_
    rintro e u4 ⟨rfl, p4⟩
    have B4 := hide (bel_to B3.out (Nat.le_refl _) p4)
    clear p4 b0 b1 b2 b3 b4
    obtain ⟨⟨b0, b1, b2, b3, b4⟩, -⟩ := CL.out u4 B4.out
    have F := hide (bel_to LW.out (Nat.le_refl _) B4.out)
    go_wp2
    go_ret
    exact ⟨rfl, F.out⟩
  | true =>
    have ok : okC c := of_decide_eq_true hck
    by_cases g0 : now < 0
    · clear R H L hc hn hd hl B KP
      go_enter Tryd.func5, Tryd.ntmps5
      go_upto_region 1 with fail
      rw [hW.out]
      clear hW
      go_wp2_with fail
      with_reducible refine (TK.out _).mono ?_
      rintro e u1 ⟨rfl, p1⟩
      have B1 := hide p1
      rw [hck]
      clear p1 TK b0 b1 b2 b3 b4
      obtain ⟨⟨b0, b1, b2, b3, b4⟩, -⟩ := CL.out u1 B1.out
      go_wp2_with fail
      with_reducible refine (TL.out _).mono ?_
      rintro e u2 ⟨x2, rfl, -, p2⟩
      have B2 := hide (bel_to B1.out (Nat.le_refl _) p2)
      clear p2 b0 b1 b2 b3 b4
      obtain ⟨⟨b0, b1, b2, b3, b4⟩, -⟩ := CL.out u2 B2.out
      go_wp2_with fail
      with_reducible refine (TH.out _).mono ?_
      rintro e u3 ⟨x3, rfl, -, p3⟩
      have B3 := hide (bel_to B2.out (Nat.le_refl _) p3)
      clear p3 b0 b1 b2 b3 b4
      obtain ⟨⟨b0, b1, b2, b3, b4⟩, -⟩ := CL.out u3 B3.out
      go_wp2_with fail
      with_reducible refine (TA.out _ B3.out).mono ?_
      rintro e u4 ⟨rfl, p4⟩
      have B4 := hide (bel_to B3.out (Nat.le_refl _) p4)
      clear p4 b0 b1 b2 b3 b4
      obtain ⟨⟨b0, b1, b2, b3, b4⟩, -⟩ := CL.out u4 B4.out
      have F := hide (bel_to LW.out (Nat.le_refl _) B4.out)
      go_wp2
      go_ret
      exact ⟨rfl, F.out⟩
    · by_cases g1 : 1099511627776 < now
      · clear R H L hc hn hd hl B KP
        go_enter Tryd.func5, Tryd.ntmps5
        go_upto_region 1 with fail
        rw [hW.out]
        clear hW
        go_wp2_with fail
        with_reducible refine (TK.out _).mono ?_
        rintro e u1 ⟨rfl, p1⟩
        have B1 := hide p1
        rw [hck]
        clear p1 TK b0 b1 b2 b3 b4
        obtain ⟨⟨b0, b1, b2, b3, b4⟩, -⟩ := CL.out u1 B1.out
        go_wp2_with fail
        with_reducible refine (TL.out _).mono ?_
        rintro e u2 ⟨x2, rfl, -, p2⟩
        have B2 := hide (bel_to B1.out (Nat.le_refl _) p2)
        clear p2 b0 b1 b2 b3 b4
        obtain ⟨⟨b0, b1, b2, b3, b4⟩, -⟩ := CL.out u2 B2.out
        go_wp2_with fail
        with_reducible refine (TH.out _).mono ?_
        rintro e u3 ⟨x3, rfl, -, p3⟩
        have B3 := hide (bel_to B2.out (Nat.le_refl _) p3)
        clear p3 b0 b1 b2 b3 b4
        obtain ⟨⟨b0, b1, b2, b3, b4⟩, -⟩ := CL.out u3 B3.out
        go_wp2_with fail
        with_reducible refine (TA.out _ B3.out).mono ?_
        rintro e u4 ⟨rfl, p4⟩
        have B4 := hide (bel_to B3.out (Nat.le_refl _) p4)
        clear p4 b0 b1 b2 b3 b4
        obtain ⟨⟨b0, b1, b2, b3, b4⟩, -⟩ := CL.out u4 B4.out
        have F := hide (bel_to LW.out (Nat.le_refl _) B4.out)
        go_wp2
        go_ret
        exact ⟨rfl, F.out⟩
      · have S1 : Hid (∀ u, Below W.heap.size W u → cells5 u.drew w.heap.size c ∧ Hid (Below W.heap.size W u.drew)) := fun u hu => CL.out u.drew hu.drew
        have T1 := hide (fun u => L.at' c now day u hc hd ok (by omega) (by omega))
        have T2 := hide (fun u => H.at' c now l u hc hl ok (by omega) (by omega))
        have T3 := hide (fun u => rhor_any c now l u ok (by omega) (by omega) hl)
        have T4 := hide (fun u => rlev_any c now day u ok (by omega) (by omega))
        generalize horC c now l = x at *
        generalize levC c now day = y at *
        have tx : (x == x) = true := by simp
        have ty : (y == y) = true := by simp
        clear R H L hc hn hd hl B TL TH ok
        go_enter Tryd.func5, Tryd.ntmps5
        go_upto_region 1 with fail
        rw [hW.out]
        clear hW
        go_wp2_with fail
        with_reducible refine (TK.out _).mono ?_
        rintro e u1 ⟨rfl, p1⟩
        have B1 := hide p1
        rw [hck]
        clear p1 TK b0 b1 b2 b3 b4
        obtain ⟨⟨b0, b1, b2, b3, b4⟩, -⟩ := CL.out u1 B1.out
        go_upto_region 5 with fail
        clear b0 b1 b2 b3 b4
        have S2 := hide (S1.out u1 B1.out)
        have KB : Hid (∀ u, cells5 u w.heap.size c ∧ Hid (Below W.heap.size W u) → Below W.heap.size W u) := fun u h => h.2.out
        go_region_held3 (fun u => cells5 u w.heap.size c ∧ Hid (Below W.heap.size W u)) (first | with_reducible exact S2.out | with_reducible exact KP.out _ _ (by assumption) (by assumption)) (first
          | (go_at_call 17; (with_reducible refine (T2.out _).mono ?_); rintro e v1 ⟨rfl, q1⟩)
          | (go_at_call 18; (with_reducible refine (T3.out _).mono ?_); rintro e v2 ⟨rfl, q2⟩)
          | (go_at_call 16; (with_reducible refine (T1.out _).mono ?_); rintro e v3 ⟨rfl, q3⟩)
          | (go_at_call 19; (with_reducible refine (T4.out _).mono ?_); rintro e v4 ⟨rfl, q4⟩)
          | (go_at_call 13; (with_reducible refine (TA.out _ (KB.out _ (by assumption))).mono ?_); rintro e v5 ⟨rfl, q5⟩))
        rename_i hh
        have F := hide (bel_to LW.out (Nat.le_refl _) hh.2.out)
        clear hh
        go_wp2
        go_ret
        exact ⟨rfl, F.out⟩
end Go.Proofs.YtejflcfcbjadhaaDoor
