/-
  Statement CalRises over what is asked: contracts, for every world (written by gen/calo.gen.py).
  Conditions: cal does what is asked.
-/
import Derived.Test.YtejflcfcbjadhaaDoorCalN
namespace Go.Proofs.YtejflcfcbjadhaaDoor
open Go.RowKit
set_option maxRecDepth 20000

set_option maxHeartbeats 8000000 in
theorem rises_of (R : CaRes) (H : CaHor) (L : CaLev) (c : Cf) (now later day more : Int) (w : World) (tb : TbW w) (hc : CfW c) (hn : (Lit.int .i64 now).wf = true) (hl : (Lit.int .i64 later).wf = true) (hd : (Lit.int .i64 day).wf = true) (hm : (Lit.int .i64 more).wf = true) :
    Calls Tryd.prog 6 #[cfV c, .int .i64 now, .int .i64 later, .int .i64 day, .int .i64 more] w fun e w' => e = .returned (.bool true) ∧ Below w.heap.size w w' := by
  obtain ⟨W, hW⟩ : ∃ W, Hid (w.alloc (.cells #[.int .i64 c.sl, .int .i64 c.k0, .int .i64 c.k1, .int .i64 c.k2, .int .i64 c.k3] 24) = W) := ⟨_, rfl⟩
  have LW : Hid (Below w.heap.size w W) := by rw [← hW.out]; exact (Below.refl _ _).alloc (Nat.le_refl _) _
  have B : Hid (BoxC W w.heap.size c) := by rw [← hW.out]; exact boxC_new w c
  have CL : Hid (∀ u, Below W.heap.size W u → cells5 u w.heap.size c ∧ Hid (Below W.heap.size W u)) := fun u hu => ⟨(B.out.below hu B.out.lt).all, hu⟩
  have KP : Hid (∀ v v', Below v.heap.size v v' → (cells5 v w.heap.size c ∧ Hid (Below W.heap.size W v)) → cells5 v' w.heap.size c ∧ Hid (Below W.heap.size W v')) := fun v v' hb h => CL.out v' (bel_to h.2.out (Nat.le_refl _) hb)
  have TK := hide (fun u => rchk_any c u)
  have TA : Hid (∀ u, Below W.heap.size W u → Calls Tryd.prog 13 #[] u fun e w' => e = .returned (.bool true) ∧ Below u.heap.size u w') := fun u b => awakeC_of R H L u (tb.bel (bel_to LW.out (Nat.le_refl _) b))
  clear tb
  obtain ⟨⟨b0, b1, b2, b3, b4⟩, -⟩ := CL.out W (Below.refl _ _)
  obtain ⟨hn0, hn1⟩ := i64_of_wf hn
  obtain ⟨hl0, hl1⟩ := i64_of_wf hl
  obtain ⟨hd0, hd1⟩ := i64_of_wf hd
  obtain ⟨hm0, hm1⟩ := i64_of_wf hm
  cases hck : chkC c with
  | false =>
    clear R H L hc hn hd hl hm B KP
    go_enter Tryd.func6, Tryd.ntmps6
    go_upto_region 1 with fail
    rw [hW.out]
    clear hW
    go_wp2_with fail
    with_reducible refine (TK.out _).mono ?_
    rintro e u1 ⟨rfl, p1⟩
    have B1 := hide p1
    rw [hck]
    clear p1 TK b0 b1 b2 b3 b4
    obtain ⟨⟨b0, b1, b2, b3, b4⟩, -⟩ := CL.out u1 B1.out
    go_wp2_with fail
    with_reducible refine (TA.out _ B1.out).mono ?_
    rintro e u2 ⟨rfl, p2⟩
    have B2 := hide (bel_to B1.out (Nat.le_refl _) p2)
    clear p2 b0 b1 b2 b3 b4
    obtain ⟨⟨b0, b1, b2, b3, b4⟩, -⟩ := CL.out u2 B2.out
    have F := hide (bel_to LW.out (Nat.le_refl _) B2.out)
    go_wp2
    go_ret
    exact ⟨rfl, F.out⟩
  | true =>
    have ok : okC c := of_decide_eq_true hck
    by_cases g0 : now < 0
    · clear R H L hc hn hd hl hm B KP
      go_enter Tryd.func6, Tryd.ntmps6
      go_upto_region 1 with fail
      rw [hW.out]
      clear hW
      go_wp2_with fail
      with_reducible refine (TK.out _).mono ?_
      rintro e u1 ⟨rfl, p1⟩
      have B1 := hide p1
      rw [hck]
      clear p1 TK b0 b1 b2 b3 b4
      obtain ⟨⟨b0, b1, b2, b3, b4⟩, -⟩ := CL.out u1 B1.out
      go_wp2_with fail
      with_reducible refine (TA.out _ B1.out).mono ?_
      rintro e u2 ⟨rfl, p2⟩
      have B2 := hide (bel_to B1.out (Nat.le_refl _) p2)
      clear p2 b0 b1 b2 b3 b4
      obtain ⟨⟨b0, b1, b2, b3, b4⟩, -⟩ := CL.out u2 B2.out
      have F := hide (bel_to LW.out (Nat.le_refl _) B2.out)
      go_wp2
      go_ret
      exact ⟨rfl, F.out⟩
    · by_cases g1 : 1099511627776 < now
      · clear R H L hc hn hd hl hm B KP
        go_enter Tryd.func6, Tryd.ntmps6
        go_upto_region 1 with fail
        rw [hW.out]
        clear hW
        go_wp2_with fail
        with_reducible refine (TK.out _).mono ?_
        rintro e u1 ⟨rfl, p1⟩
        have B1 := hide p1
        rw [hck]
        clear p1 TK b0 b1 b2 b3 b4
        obtain ⟨⟨b0, b1, b2, b3, b4⟩, -⟩ := CL.out u1 B1.out
        go_wp2_with fail
        with_reducible refine (TA.out _ B1.out).mono ?_
        rintro e u2 ⟨rfl, p2⟩
        have B2 := hide (bel_to B1.out (Nat.le_refl _) p2)
        clear p2 b0 b1 b2 b3 b4
        obtain ⟨⟨b0, b1, b2, b3, b4⟩, -⟩ := CL.out u2 B2.out
        have F := hide (bel_to LW.out (Nat.le_refl _) B2.out)
        go_wp2
        go_ret
        exact ⟨rfl, F.out⟩
      · by_cases g2 : later < 0
        · clear R H L hc hn hd hl hm B KP
          go_enter Tryd.func6, Tryd.ntmps6
          go_upto_region 1 with fail
          rw [hW.out]
          clear hW
          go_wp2_with fail
          with_reducible refine (TK.out _).mono ?_
          rintro e u1 ⟨rfl, p1⟩
          have B1 := hide p1
          rw [hck]
          clear p1 TK b0 b1 b2 b3 b4
          obtain ⟨⟨b0, b1, b2, b3, b4⟩, -⟩ := CL.out u1 B1.out
          go_wp2_with fail
          with_reducible refine (TA.out _ B1.out).mono ?_
          rintro e u2 ⟨rfl, p2⟩
          have B2 := hide (bel_to B1.out (Nat.le_refl _) p2)
          clear p2 b0 b1 b2 b3 b4
          obtain ⟨⟨b0, b1, b2, b3, b4⟩, -⟩ := CL.out u2 B2.out
          have F := hide (bel_to LW.out (Nat.le_refl _) B2.out)
          go_wp2
          go_ret
          exact ⟨rfl, F.out⟩
        · by_cases g3 : 1099511627776 - now < later
          · clear R H L hc hn hd hl hm B KP
            go_enter Tryd.func6, Tryd.ntmps6
            go_upto_region 1 with fail
            rw [hW.out]
            clear hW
            go_wp2_with fail
            with_reducible refine (TK.out _).mono ?_
            rintro e u1 ⟨rfl, p1⟩
            have B1 := hide p1
            rw [hck]
            clear p1 TK b0 b1 b2 b3 b4
            obtain ⟨⟨b0, b1, b2, b3, b4⟩, -⟩ := CL.out u1 B1.out
            go_wp2_with fail
            with_reducible refine (TA.out _ B1.out).mono ?_
            rintro e u2 ⟨rfl, p2⟩
            have B2 := hide (bel_to B1.out (Nat.le_refl _) p2)
            clear p2 b0 b1 b2 b3 b4
            obtain ⟨⟨b0, b1, b2, b3, b4⟩, -⟩ := CL.out u2 B2.out
            have F := hide (bel_to LW.out (Nat.le_refl _) B2.out)
            go_wp2
            go_ret
            exact ⟨rfl, F.out⟩
          · by_cases g4 : day < 0
            · clear R H L hc hn hd hl hm B KP
              go_enter Tryd.func6, Tryd.ntmps6
              go_upto_region 1 with fail
              rw [hW.out]
              clear hW
              go_wp2_with fail
              with_reducible refine (TK.out _).mono ?_
              rintro e u1 ⟨rfl, p1⟩
              have B1 := hide p1
              rw [hck]
              clear p1 TK b0 b1 b2 b3 b4
              obtain ⟨⟨b0, b1, b2, b3, b4⟩, -⟩ := CL.out u1 B1.out
              go_wp2_with fail
              with_reducible refine (TA.out _ B1.out).mono ?_
              rintro e u2 ⟨rfl, p2⟩
              have B2 := hide (bel_to B1.out (Nat.le_refl _) p2)
              clear p2 b0 b1 b2 b3 b4
              obtain ⟨⟨b0, b1, b2, b3, b4⟩, -⟩ := CL.out u2 B2.out
              have F := hide (bel_to LW.out (Nat.le_refl _) B2.out)
              go_wp2
              go_ret
              exact ⟨rfl, F.out⟩
            · by_cases g5 : 1099511627776 < day
              · clear R H L hc hn hd hl hm B KP
                go_enter Tryd.func6, Tryd.ntmps6
                go_upto_region 1 with fail
                rw [hW.out]
                clear hW
                go_wp2_with fail
                with_reducible refine (TK.out _).mono ?_
                rintro e u1 ⟨rfl, p1⟩
                have B1 := hide p1
                rw [hck]
                clear p1 TK b0 b1 b2 b3 b4
                obtain ⟨⟨b0, b1, b2, b3, b4⟩, -⟩ := CL.out u1 B1.out
                go_wp2_with fail
                with_reducible refine (TA.out _ B1.out).mono ?_
                rintro e u2 ⟨rfl, p2⟩
                have B2 := hide (bel_to B1.out (Nat.le_refl _) p2)
                clear p2 b0 b1 b2 b3 b4
                obtain ⟨⟨b0, b1, b2, b3, b4⟩, -⟩ := CL.out u2 B2.out
                have F := hide (bel_to LW.out (Nat.le_refl _) B2.out)
                go_wp2
                go_ret
                exact ⟨rfl, F.out⟩
              · by_cases g6 : more < 0
                · clear R H L hc hn hd hl hm B KP
                  go_enter Tryd.func6, Tryd.ntmps6
                  go_upto_region 1 with fail
                  rw [hW.out]
                  clear hW
                  go_wp2_with fail
                  with_reducible refine (TK.out _).mono ?_
                  rintro e u1 ⟨rfl, p1⟩
                  have B1 := hide p1
                  rw [hck]
                  clear p1 TK b0 b1 b2 b3 b4
                  obtain ⟨⟨b0, b1, b2, b3, b4⟩, -⟩ := CL.out u1 B1.out
                  go_wp2_with fail
                  with_reducible refine (TA.out _ B1.out).mono ?_
                  rintro e u2 ⟨rfl, p2⟩
                  have B2 := hide (bel_to B1.out (Nat.le_refl _) p2)
                  clear p2 b0 b1 b2 b3 b4
                  obtain ⟨⟨b0, b1, b2, b3, b4⟩, -⟩ := CL.out u2 B2.out
                  have F := hide (bel_to LW.out (Nat.le_refl _) B2.out)
                  go_wp2
                  go_ret
                  exact ⟨rfl, F.out⟩
                · by_cases g7 : 1099511627776 < more
                  · clear R H L hc hn hd hl hm B KP
                    go_enter Tryd.func6, Tryd.ntmps6
                    go_upto_region 1 with fail
                    rw [hW.out]
                    clear hW
                    go_wp2_with fail
                    with_reducible refine (TK.out _).mono ?_
                    rintro e u1 ⟨rfl, p1⟩
                    have B1 := hide p1
                    rw [hck]
                    clear p1 TK b0 b1 b2 b3 b4
                    obtain ⟨⟨b0, b1, b2, b3, b4⟩, -⟩ := CL.out u1 B1.out
                    go_wp2_with fail
                    with_reducible refine (TA.out _ B1.out).mono ?_
                    rintro e u2 ⟨rfl, p2⟩
                    have B2 := hide (bel_to B1.out (Nat.le_refl _) p2)
                    clear p2 b0 b1 b2 b3 b4
                    obtain ⟨⟨b0, b1, b2, b3, b4⟩, -⟩ := CL.out u2 B2.out
                    have F := hide (bel_to LW.out (Nat.le_refl _) B2.out)
                    go_wp2
                    go_ret
                    exact ⟨rfl, F.out⟩
                  · have T1 := hide (fun u => L.at' c now day u hc hd ok (by omega) (by omega))
                    have T2 := hide (fun u => L.at' c (now + later) day u hc hd ok (by omega) (by omega))
                    have T3 := hide (fun u => L.at' c now (day + more) u hc (wf64 (by omega) (by omega)) ok (by omega) (by omega))
                    have T4 := hide (fun u => L.at' c now (now / 8640) u hc (wf64 (by omega) (by omega)) ok (by omega) (by omega))
                    have e2 : levC c now day ≤ levC c (now + later) day := levC_up (by omega)
                    have e3 : levC c now (day + more) ≤ levC c now day := levC_day (by omega)
                    rw [levC_now ok (by omega)] at T4
                    obtain ⟨e4, e5⟩ := levC_le c now day
                    have hq : now.tdiv 8640 = now / 8640 := Int.tdiv_eq_ediv_of_nonneg (by omega)
                    generalize levC c now day = x at *
                    generalize levC c (now + later) day = y at *
                    generalize levC c now (day + more) = z at *
                    clear R H L hc hn hd hl hm B KP ok
                    go_enter Tryd.func6, Tryd.ntmps6
                    go_upto_region 1 with fail
                    rw [hW.out]
                    clear hW
                    go_wp2_with fail
                    with_reducible refine (TK.out _).mono ?_
                    rintro e u1 ⟨rfl, p1⟩
                    have B1 := hide p1
                    rw [hck]
                    clear p1 TK b0 b1 b2 b3 b4
                    obtain ⟨⟨b0, b1, b2, b3, b4⟩, -⟩ := CL.out u1 B1.out
                    go_wp2_with fail
                    with_reducible refine (T1.out _).mono ?_
                    rintro e u2 ⟨rfl, p2⟩
                    have B2 := hide (bel_to B1.out (Nat.le_refl _) p2)
                    clear p2 b0 b1 b2 b3 b4
                    obtain ⟨⟨b0, b1, b2, b3, b4⟩, -⟩ := CL.out u2 B2.out
                    go_wp2_with fail
                    with_reducible refine (T2.out _).mono ?_
                    rintro e u3 ⟨rfl, p3⟩
                    have B3 := hide (bel_to B2.out (Nat.le_refl _) p3)
                    clear p3 b0 b1 b2 b3 b4
                    obtain ⟨⟨b0, b1, b2, b3, b4⟩, -⟩ := CL.out u3 B3.out
                    go_wp2_with fail
                    with_reducible refine (T3.out _).mono ?_
                    rintro e u4 ⟨rfl, p4⟩
                    have B4 := hide (bel_to B3.out (Nat.le_refl _) p4)
                    clear p4 b0 b1 b2 b3 b4
                    obtain ⟨⟨b0, b1, b2, b3, b4⟩, -⟩ := CL.out u4 B4.out
                    go_wp2_with fail
                    with_reducible refine (T4.out _).mono ?_
                    rintro e u5 ⟨rfl, p5⟩
                    have B5 := hide (bel_to B4.out (Nat.le_refl _) p5)
                    clear p5 b0 b1 b2 b3 b4
                    go_wp2_with fail
                    with_reducible refine (TA.out _ B5.out).mono ?_
                    rintro e u6 ⟨rfl, p6⟩
                    have B6 := hide (bel_to B5.out (Nat.le_refl _) p6)
                    have F := hide (bel_to LW.out (Nat.le_refl _) B6.out)
                    clear p6
                    go_wp2
                    go_ret
                    exact ⟨rfl, F.out⟩
end Go.Proofs.YtejflcfcbjadhaaDoor
