/-
  Statements CalNests, CalDays, CalLasts over what is asked: contracts, for every world (written by gen/cale.gen.py).
  Conditions: cal does what is asked.
-/
import Derived.Test.YtejflcfcbjadhabDoorCalL
import Derived.Test.YtejflcfcbjadhabDoorPlace
import Derived.WalkMore
namespace Go.Proofs.YtejflcfcbjadhabDoor
open Go.RowKit
set_option maxRecDepth 20000

set_option maxHeartbeats 8000000 in
theorem nests_of (G : CaFlo) (R : CaRes) (H : CaHor) (L : CaLev) (at_ a b : Int) (w : World) (tb : TbW w) (hat : (Lit.int .i64 at_).wf = true) :
    Calls Tryd.prog 3 #[.int .i64 at_, .int .i64 a, .int .i64 b] w fun e w' => e = .returned (.bool true) ∧ Below w.heap.size w w' := by
  have TA := hide (fun u b => awakeC_of R H L u (tb.bel b))
  obtain ⟨a0, a1⟩ := i64_of_wf hat
  by_cases g0 : at_ < 0
  · clear G R H L
    go_enter Tryd.func3, Tryd.ntmps3
    go_wp2_with fail
    with_reducible refine (TA.out _ (Below.refl _ _)).mono ?_
    rintro e u1 ⟨rfl, p1⟩
    have B1 := hide p1
    clear p1
    go_wp2
    go_ret
    exact ⟨rfl, B1.out⟩
  · by_cases g1 : 1099511627776 < at_
    · clear G R H L
      go_enter Tryd.func3, Tryd.ntmps3
      go_wp2_with fail
      with_reducible refine (TA.out _ (Below.refl _ _)).mono ?_
      rintro e u1 ⟨rfl, p1⟩
      have B1 := hide p1
      clear p1
      go_wp2
      go_ret
      exact ⟨rfl, B1.out⟩
    · have P1 := hide (fun u => place_any a 4 (by decide) (by decide) u)
      have P2 := hide (fun u => place_any b 4 (by decide) (by decide) u)
      have hx : 0 ≤ a % 4 ∧ a % 4 ≤ 3 := by omega
      have hy : 0 ≤ b % 4 ∧ b % 4 ≤ 3 := by omega
      generalize a % 4 = x at *
      generalize b % 4 = y at *
      by_cases hxy : x < y
      · have hmin : min x y = x := by omega
        have hmax : max x y = y := by omega
        have lo0 : 0 ≤ x ∧ x ≤ 3 ∧ 0 ≤ y ∧ y ≤ 3 := by omega
        obtain ⟨m1, m2, m3, m4, m5, m6, m7, m8⟩ := floorC_nest (a := at_) (lo := x) (hi := y) (by omega) (by omega) (by omega) (by omega)
        have n5 := (floorC_nest (a := at_) (lo := y) (hi := y) (by omega) (by omega) (by omega) (by omega)).2.2.2.2.1
        have T1 := hide (fun u b => G.flo at_ y u (tb.bel b) hat (wf64 (by omega) (by omega)))
        have T2 := hide (fun u b => G.flo at_ x u (tb.bel b) hat (wf64 (by omega) (by omega)))
        have T3 := hide (fun u b => G.flo (floorC at_ x) y u (tb.bel b) (wf64 (by omega) (by omega)) (wf64 (by omega) (by omega)))
        have T4 := hide (fun u b => R.res y u (tb.bel b) (wf64 (by omega) (by omega)))
        have T5 := hide (fun u b => R.res x u (tb.bel b) (wf64 (by omega) (by omega)))
        rw [m1] at T3
        have zz := tmod_zero (resC y) (r := resC x) (by omega)
        rw [decide_eq_true m4] at zz
        have hrm : resC y ≤ 8640 := by rcases resC_cases y with h | h | h | h | h <;> omega
        have hrl : resC x ≤ 8640 := by rcases resC_cases x with h | h | h | h | h <;> omega
        clear m1 G R H L tb
        generalize floorC at_ y = f at *
        generalize floorC at_ x = g at *
        generalize resC y = rh at *
        generalize resC x = rl at *
        have tf : (f == f) = true := by simp
        have r0 : ¬ rl = 0 := by omega
        have r1 : (rl == 0) = false := by simpa using r0
        have z4 : (rh % rl == 0) = true := by simpa using m4
        go_enter Tryd.func3, Tryd.ntmps3
        go_wp2_with fail
        with_reducible refine (P1.out _).mono ?_
        rintro e u ⟨rfl, hu⟩
        rw [hu]
        clear hu
        go_wp2_with fail
        with_reducible refine (P2.out _).mono ?_
        rintro e u ⟨rfl, hu⟩
        rw [hu]
        clear hu P1 P2
        go_wp2_with fail
        with_reducible refine (T1.out _ (Below.refl _ _)).mono ?_
        rintro e u1 ⟨rfl, p1⟩
        have B1 := hide p1
        clear p1 T1
        go_wp2_with fail
        with_reducible refine (T2.out _ B1.out).mono ?_
        rintro e u2 ⟨rfl, p2⟩
        have B2 := hide (bel_to B1.out (Nat.le_refl _) p2)
        clear p2 B1
        go_wp2_with fail
        with_reducible refine (T3.out _ B2.out).mono ?_
        rintro e u3 ⟨rfl, p3⟩
        have B3 := hide (bel_to B2.out (Nat.le_refl _) p3)
        clear p3 B2
        go_wp2_with fail
        with_reducible refine (T4.out _ B3.out).mono ?_
        rintro e u4 ⟨rfl, p4⟩
        have B4 := hide (bel_to B3.out (Nat.le_refl _) p4)
        clear p4 B3
        go_wp2_with fail
        with_reducible refine (T4.out _ B4.out).mono ?_
        rintro e u5 ⟨rfl, p5⟩
        have B5 := hide (bel_to B4.out (Nat.le_refl _) p5)
        clear p5 B4
        go_wp2_with fail
        with_reducible refine (T5.out _ B5.out).mono ?_
        rintro e u6 ⟨rfl, p6⟩
        have B6 := hide (bel_to B5.out (Nat.le_refl _) p6)
        clear p6 B5
        go_wp2_with fail
        with_reducible refine (TA.out _ B6.out).mono ?_
        rintro e u7 ⟨rfl, p7⟩
        have B7 := hide (bel_to B6.out (Nat.le_refl _) p7)
        clear p7 B6
        go_wp2
        go_ret
        exact ⟨rfl, B7.out⟩
      · by_cases hyx : y < x
        · have hmin : min x y = y := by omega
          have hmax : max x y = x := by omega
          have lo0 : 0 ≤ y ∧ y ≤ 3 ∧ 0 ≤ x ∧ x ≤ 3 := by omega
          obtain ⟨m1, m2, m3, m4, m5, m6, m7, m8⟩ := floorC_nest (a := at_) (lo := y) (hi := x) (by omega) (by omega) (by omega) (by omega)
          have n5 := (floorC_nest (a := at_) (lo := x) (hi := x) (by omega) (by omega) (by omega) (by omega)).2.2.2.2.1
          have T1 := hide (fun u b => G.flo at_ x u (tb.bel b) hat (wf64 (by omega) (by omega)))
          have T2 := hide (fun u b => G.flo at_ y u (tb.bel b) hat (wf64 (by omega) (by omega)))
          have T3 := hide (fun u b => G.flo (floorC at_ y) x u (tb.bel b) (wf64 (by omega) (by omega)) (wf64 (by omega) (by omega)))
          have T4 := hide (fun u b => R.res x u (tb.bel b) (wf64 (by omega) (by omega)))
          have T5 := hide (fun u b => R.res y u (tb.bel b) (wf64 (by omega) (by omega)))
          rw [m1] at T3
          have zz := tmod_zero (resC x) (r := resC y) (by omega)
          rw [decide_eq_true m4] at zz
          have hrm : resC x ≤ 8640 := by rcases resC_cases x with h | h | h | h | h <;> omega
          have hrl : resC y ≤ 8640 := by rcases resC_cases y with h | h | h | h | h <;> omega
          clear m1 G R H L tb
          generalize floorC at_ x = f at *
          generalize floorC at_ y = g at *
          generalize resC x = rh at *
          generalize resC y = rl at *
          have tf : (f == f) = true := by simp
          have r0 : ¬ rl = 0 := by omega
          have r1 : (rl == 0) = false := by simpa using r0
          have z4 : (rh % rl == 0) = true := by simpa using m4
          go_enter Tryd.func3, Tryd.ntmps3
          go_wp2_with fail
          with_reducible refine (P1.out _).mono ?_
          rintro e u ⟨rfl, hu⟩
          rw [hu]
          clear hu
          go_wp2_with fail
          with_reducible refine (P2.out _).mono ?_
          rintro e u ⟨rfl, hu⟩
          rw [hu]
          clear hu P1 P2
          go_wp2_with fail
          with_reducible refine (T1.out _ (Below.refl _ _)).mono ?_
          rintro e u1 ⟨rfl, p1⟩
          have B1 := hide p1
          clear p1 T1
          go_wp2_with fail
          with_reducible refine (T2.out _ B1.out).mono ?_
          rintro e u2 ⟨rfl, p2⟩
          have B2 := hide (bel_to B1.out (Nat.le_refl _) p2)
          clear p2 B1
          go_wp2_with fail
          with_reducible refine (T3.out _ B2.out).mono ?_
          rintro e u3 ⟨rfl, p3⟩
          have B3 := hide (bel_to B2.out (Nat.le_refl _) p3)
          clear p3 B2
          go_wp2_with fail
          with_reducible refine (T4.out _ B3.out).mono ?_
          rintro e u4 ⟨rfl, p4⟩
          have B4 := hide (bel_to B3.out (Nat.le_refl _) p4)
          clear p4 B3
          go_wp2_with fail
          with_reducible refine (T4.out _ B4.out).mono ?_
          rintro e u5 ⟨rfl, p5⟩
          have B5 := hide (bel_to B4.out (Nat.le_refl _) p5)
          clear p5 B4
          go_wp2_with fail
          with_reducible refine (T5.out _ B5.out).mono ?_
          rintro e u6 ⟨rfl, p6⟩
          have B6 := hide (bel_to B5.out (Nat.le_refl _) p6)
          clear p6 B5
          go_wp2_with fail
          with_reducible refine (TA.out _ B6.out).mono ?_
          rintro e u7 ⟨rfl, p7⟩
          have B7 := hide (bel_to B6.out (Nat.le_refl _) p7)
          clear p7 B6
          go_wp2
          go_ret
          exact ⟨rfl, B7.out⟩
        · obtain rfl : x = y := by omega
          have hmin : min x x = x := by omega
          have hmax : max x x = x := by omega
          clear hxy hyx
          have lo0 : 0 ≤ x ∧ x ≤ 3 ∧ 0 ≤ x ∧ x ≤ 3 := by omega
          obtain ⟨m1, m2, m3, m4, m5, m6, m7, m8⟩ := floorC_nest (a := at_) (lo := x) (hi := x) (by omega) (by omega) (by omega) (by omega)
          have n5 := (floorC_nest (a := at_) (lo := x) (hi := x) (by omega) (by omega) (by omega) (by omega)).2.2.2.2.1
          have T1 := hide (fun u b => G.flo at_ x u (tb.bel b) hat (wf64 (by omega) (by omega)))
          have T2 := hide (fun u b => G.flo at_ x u (tb.bel b) hat (wf64 (by omega) (by omega)))
          have T3 := hide (fun u b => G.flo (floorC at_ x) x u (tb.bel b) (wf64 (by omega) (by omega)) (wf64 (by omega) (by omega)))
          have T4 := hide (fun u b => R.res x u (tb.bel b) (wf64 (by omega) (by omega)))
          have T5 := hide (fun u b => R.res x u (tb.bel b) (wf64 (by omega) (by omega)))
          rw [m1] at T3
          have zz := tmod_zero (resC x) (r := resC x) (by omega)
          rw [decide_eq_true m4] at zz
          have hrm : resC x ≤ 8640 := by rcases resC_cases x with h | h | h | h | h <;> omega
          have hrl : resC x ≤ 8640 := by rcases resC_cases x with h | h | h | h | h <;> omega
          clear m1 G R H L tb
          generalize floorC at_ x = f at *
          generalize resC x = rh at *
          have tf : (f == f) = true := by simp
          have r0 : ¬ rh = 0 := by omega
          have r1 : (rh == 0) = false := by simpa using r0
          have z4 : (rh % rh == 0) = true := by simp
          go_enter Tryd.func3, Tryd.ntmps3
          go_wp2_with fail
          with_reducible refine (P1.out _).mono ?_
          rintro e u ⟨rfl, hu⟩
          rw [hu]
          clear hu
          go_wp2_with fail
          with_reducible refine (P2.out _).mono ?_
          rintro e u ⟨rfl, hu⟩
          rw [hu]
          clear hu P1 P2
          go_wp2_with fail
          with_reducible refine (T1.out _ (Below.refl _ _)).mono ?_
          rintro e u1 ⟨rfl, p1⟩
          have B1 := hide p1
          clear p1 T1
          go_wp2_with fail
          with_reducible refine (T2.out _ B1.out).mono ?_
          rintro e u2 ⟨rfl, p2⟩
          have B2 := hide (bel_to B1.out (Nat.le_refl _) p2)
          clear p2 B1
          go_wp2_with fail
          with_reducible refine (T3.out _ B2.out).mono ?_
          rintro e u3 ⟨rfl, p3⟩
          have B3 := hide (bel_to B2.out (Nat.le_refl _) p3)
          clear p3 B2
          go_wp2_with fail
          with_reducible refine (T4.out _ B3.out).mono ?_
          rintro e u4 ⟨rfl, p4⟩
          have B4 := hide (bel_to B3.out (Nat.le_refl _) p4)
          clear p4 B3
          go_wp2_with fail
          with_reducible refine (T4.out _ B4.out).mono ?_
          rintro e u5 ⟨rfl, p5⟩
          have B5 := hide (bel_to B4.out (Nat.le_refl _) p5)
          clear p5 B4
          go_wp2_with fail
          with_reducible refine (T5.out _ B5.out).mono ?_
          rintro e u6 ⟨rfl, p6⟩
          have B6 := hide (bel_to B5.out (Nat.le_refl _) p6)
          clear p6 B5
          go_wp2_with fail
          with_reducible refine (TA.out _ B6.out).mono ?_
          rintro e u7 ⟨rfl, p7⟩
          have B7 := hide (bel_to B6.out (Nat.le_refl _) p7)
          clear p7 B6
          go_wp2
          go_ret
          exact ⟨rfl, B7.out⟩

/-- The bound that was told last. -/
def LaP (c : Cf) (now : Int) (k : Nat) (h : Int) : Prop := (k = 0 ∧ h = now) ∨ ∃ j : Nat, k = j + 1 ∧ h = horC c now j

set_option maxHeartbeats 8000000 in
theorem days_of (R : CaRes) (H : CaHor) (L : CaLev) (c : Cf) (now day : Int) (w : World) (tb : TbW w) (hc : CfW c) (hn : (Lit.int .i64 now).wf = true) (hd : (Lit.int .i64 day).wf = true) :
    Calls Tryd.prog 4 #[cfV c, .int .i64 now, .int .i64 day] w fun e w' => e = .returned (.bool true) ∧ Below w.heap.size w w' := by
  obtain ⟨W, hW⟩ : ∃ W, Hid (w.alloc (.cells #[.int .i64 c.sl, .int .i64 c.k0, .int .i64 c.k1, .int .i64 c.k2, .int .i64 c.k3] 28) = W) := ⟨_, rfl⟩
  have LW : Hid (Below w.heap.size w W) := by rw [← hW.out]; exact (Below.refl _ _).alloc (Nat.le_refl _) _
  have B : Hid (BoxC W w.heap.size c) := by rw [← hW.out]; exact boxC_new w c
  have CL : Hid (∀ u, Below W.heap.size W u → cells5 u w.heap.size c ∧ Hid (Below W.heap.size W u)) := fun u hu => ⟨(B.out.below hu B.out.lt).all, hu⟩
  have KP : Hid (∀ v v', Below v.heap.size v v' → (cells5 v w.heap.size c ∧ Hid (Below W.heap.size W v)) → cells5 v' w.heap.size c ∧ Hid (Below W.heap.size W v')) := fun v v' hb h => CL.out v' (bel_to h.2.out (Nat.le_refl _) hb)
  have TK := hide (fun u => rchk_any c u)
  have TA : Hid (∀ u, Below W.heap.size W u → Calls Tryd.prog 6 #[] u fun e w' => e = .returned (.bool true) ∧ Below u.heap.size u w') := fun u b => awakeC_of R H L u (tb.bel (bel_to LW.out (Nat.le_refl _) b))
  clear tb
  obtain ⟨⟨b0, b1, b2, b3, b4⟩, -⟩ := CL.out W (Below.refl _ _)
  obtain ⟨hn0, hn1⟩ := i64_of_wf hn
  obtain ⟨hd0, hd1⟩ := i64_of_wf hd
  cases hck : chkC c with
  | false =>
    clear R H L hc hn hd B KP
    go_enter Tryd.func4, Tryd.ntmps4
    go_upto_region 1 with fail
    rw [hW.out]
    clear hW
    go_wp2_with fail
    with_reducible refine (TK.out _).mono ?_
    rintro e u1 ⟨rfl, p1⟩
    have B1 := hide p1
    rw [hck]
    clear p1 TK b0 b1 b2 b3 b4
    obtain ⟨⟨b0, b1, b2, b3, b4⟩, -⟩ := CL.out u1 B1.out
    go_wp2_with fail
    with_reducible refine (TA.out _ B1.out).mono ?_
    rintro e u2 ⟨rfl, p2⟩
    have B2 := hide (bel_to B1.out (Nat.le_refl _) p2)
    clear p2 b0 b1 b2 b3 b4
    obtain ⟨⟨b0, b1, b2, b3, b4⟩, -⟩ := CL.out u2 B2.out
    have F := hide (bel_to LW.out (Nat.le_refl _) B2.out)
    go_wp2
    go_ret
    exact ⟨rfl, F.out⟩
  | true =>
    have ok : okC c := of_decide_eq_true hck
    by_cases g0 : now < 0
    · clear R H L hc hn hd B KP
      go_enter Tryd.func4, Tryd.ntmps4
      go_upto_region 1 with fail
      rw [hW.out]
      clear hW
      go_wp2_with fail
      with_reducible refine (TK.out _).mono ?_
      rintro e u1 ⟨rfl, p1⟩
      have B1 := hide p1
      rw [hck]
      clear p1 TK b0 b1 b2 b3 b4
      obtain ⟨⟨b0, b1, b2, b3, b4⟩, -⟩ := CL.out u1 B1.out
      go_wp2_with fail
      with_reducible refine (TA.out _ B1.out).mono ?_
      rintro e u2 ⟨rfl, p2⟩
      have B2 := hide (bel_to B1.out (Nat.le_refl _) p2)
      clear p2 b0 b1 b2 b3 b4
      obtain ⟨⟨b0, b1, b2, b3, b4⟩, -⟩ := CL.out u2 B2.out
      have F := hide (bel_to LW.out (Nat.le_refl _) B2.out)
      go_wp2
      go_ret
      exact ⟨rfl, F.out⟩
    · by_cases g1 : 1099511627776 < now
      · clear R H L hc hn hd B KP
        go_enter Tryd.func4, Tryd.ntmps4
        go_upto_region 1 with fail
        rw [hW.out]
        clear hW
        go_wp2_with fail
        with_reducible refine (TK.out _).mono ?_
        rintro e u1 ⟨rfl, p1⟩
        have B1 := hide p1
        rw [hck]
        clear p1 TK b0 b1 b2 b3 b4
        obtain ⟨⟨b0, b1, b2, b3, b4⟩, -⟩ := CL.out u1 B1.out
        go_wp2_with fail
        with_reducible refine (TA.out _ B1.out).mono ?_
        rintro e u2 ⟨rfl, p2⟩
        have B2 := hide (bel_to B1.out (Nat.le_refl _) p2)
        clear p2 b0 b1 b2 b3 b4
        obtain ⟨⟨b0, b1, b2, b3, b4⟩, -⟩ := CL.out u2 B2.out
        have F := hide (bel_to LW.out (Nat.le_refl _) B2.out)
        go_wp2
        go_ret
        exact ⟨rfl, F.out⟩
      · by_cases g2 : day < 0
        · clear R H L hc hn hd B KP
          go_enter Tryd.func4, Tryd.ntmps4
          go_upto_region 1 with fail
          rw [hW.out]
          clear hW
          go_wp2_with fail
          with_reducible refine (TK.out _).mono ?_
          rintro e u1 ⟨rfl, p1⟩
          have B1 := hide p1
          rw [hck]
          clear p1 TK b0 b1 b2 b3 b4
          obtain ⟨⟨b0, b1, b2, b3, b4⟩, -⟩ := CL.out u1 B1.out
          go_wp2_with fail
          with_reducible refine (TA.out _ B1.out).mono ?_
          rintro e u2 ⟨rfl, p2⟩
          have B2 := hide (bel_to B1.out (Nat.le_refl _) p2)
          clear p2 b0 b1 b2 b3 b4
          obtain ⟨⟨b0, b1, b2, b3, b4⟩, -⟩ := CL.out u2 B2.out
          have F := hide (bel_to LW.out (Nat.le_refl _) B2.out)
          go_wp2
          go_ret
          exact ⟨rfl, F.out⟩
        · by_cases g3 : 127258290 < day
          · clear R H L hc hn hd B KP
            go_enter Tryd.func4, Tryd.ntmps4
            go_upto_region 1 with fail
            rw [hW.out]
            clear hW
            go_wp2_with fail
            with_reducible refine (TK.out _).mono ?_
            rintro e u1 ⟨rfl, p1⟩
            have B1 := hide p1
            rw [hck]
            clear p1 TK b0 b1 b2 b3 b4
            obtain ⟨⟨b0, b1, b2, b3, b4⟩, -⟩ := CL.out u1 B1.out
            go_wp2_with fail
            with_reducible refine (TA.out _ B1.out).mono ?_
            rintro e u2 ⟨rfl, p2⟩
            have B2 := hide (bel_to B1.out (Nat.le_refl _) p2)
            clear p2 b0 b1 b2 b3 b4
            obtain ⟨⟨b0, b1, b2, b3, b4⟩, -⟩ := CL.out u2 B2.out
            have F := hide (bel_to LW.out (Nat.le_refl _) B2.out)
            go_wp2
            go_ret
            exact ⟨rfl, F.out⟩
          · have TL := hide (fun u => L.at' c now day u hc hd ok (by omega) (by omega))
            have THk : Hid (∀ (k : Nat) (u : World), k ≤ 3 → Calls Tryd.prog 11 #[cfV c, .int .i64 now, .int .i64 (k : Int)] u fun e w' => e = .returned (.int .i64 (horC c now k)) ∧ Below u.heap.size u w') := fun k u hk => H.at' c now k u hc (wf64 (by omega) (by omega)) ok (by omega) (by omega)
            have HV : Hid (∀ k : Nat, k ≤ 3 → (0 ≤ horC c now k ∧ horC c now k ≤ 1099511627776 ∧ horC c now k % 8640 = 0 ∧ (∀ h, LaP c now k h → horC c now k ≤ h)) ∧ LaP c now (k + 1) (horC c now k) ∧ (levC c now day ≤ k ↔ horC c now k ≤ day * 8640)) := fun k hk => by
              have q1 := dayC_nn (c := c) (now := now) (k : Int)
              have q2 := (dayC_now (c := c) (now := now) ok (by omega) (k : Int)).1
              have q3 := levC_iff (c := c) (now := now) (day := day) ok (l := (k : Int)) (by omega) (by omega)
              refine ⟨⟨by unfold horC; omega, by unfold horC; omega, by unfold horC; omega, ?_⟩, Or.inr ⟨k, rfl, rfl⟩, by rw [q3]; unfold horC; omega⟩
              rintro h (⟨rfl, rfl⟩ | ⟨j, rfl, rfl⟩)
              · unfold horC; exact q2
              · have q4 := dayC_down (c := c) (now := now) ok (l := (j : Int)) (l' := ((j + 1 : Nat) : Int)) (by omega)
                unfold horC
                omega
            have hmul : IntKind.i64.wrap (day * 8640) = day * 8640 := by rw [IntKind.wrap_i64]; omega
            generalize levC c now day = lv at *
            clear R H L hc hn hd B KP
            go_enter Tryd.func4, Tryd.ntmps4
            go_upto_region 1 with fail
            rw [hW.out]
            clear hW
            go_wp2_with fail
            with_reducible refine (TK.out _).mono ?_
            rintro e u1 ⟨rfl, p1⟩
            have B1 := hide p1
            rw [hck]
            clear p1 TK b0 b1 b2 b3 b4
            obtain ⟨⟨b0, b1, b2, b3, b4⟩, -⟩ := CL.out u1 B1.out
            go_wp2
            clear b0 b1 b2 b3 b4
            go_loopw [8, 7] (fun i a wr => ∃ (k : Nat) (h : Int), k ≤ 4 ∧ i = .int .i64 k ∧ a = .int .i64 h ∧ Hid (LaP c now k h) ∧ Hid (Below W.heap.size W wr)) (fun i _ _ => 4 - (intOf i).toNat)
            case atStart => exact ⟨0, now, by omega, rfl, rfl, Or.inl ⟨rfl, rfl⟩, B1⟩
            case round =>
              obtain ⟨k, la, hk, rfl, rfl, HL1, HB⟩ := hrel
              obtain ⟨v, rfl⟩ : ∃ v, v = wr := ⟨wr, rfl⟩
              by_cases hlt : k < 4
              · have i2 : (k : Int) < 4 := by omega
                obtain ⟨⟨b0, b1, b2, b3, b4⟩, -⟩ := CL.out v HB.out
                obtain ⟨⟨y1, y2, y3, y4⟩, hl2, y5⟩ := HV.out k (by omega)
                have y6 := y4 la HL1.out
                have HL2 := hide hl2
                have TH := hide (fun u => THk.out k u (by omega))
                have y7 := tmod_zero (horC c now k) (r := 8640) (by decide)
                rw [decide_eq_true y3] at y7
                have y8 : (horC c now k).tmod 8640 = 0 := by simpa using y7
                clear y4 hl2 y3
                obtain ⟨h, hh⟩ : ∃ h, horC c now k = h := ⟨_, rfl⟩
                rw [hh] at y1 y2 y5 y6 y7 y8 HL2 TH
                clear hh
                by_cases gg : lv ≤ (k : Int)
                · have gh : h ≤ day * 8640 := y5.1 gg
                  have d1 : decide (lv ≤ (k : Int)) = true := decide_eq_true gg
                  have d2 : decide (h ≤ day * 8640) = true := decide_eq_true gh
                  clear y5
                  go_wp2_with fail
                  with_reducible refine (TH.out _).mono ?_
                  rintro e v2 ⟨rfl, p2⟩
                  have Q2 := hide (bel_to HB.out (Nat.le_refl _) p2)
                  clear p2 b0 b1 b2 b3 b4
                  obtain ⟨⟨b0, b1, b2, b3, b4⟩, -⟩ := CL.out v2 Q2.out
                  go_wp2_with fail
                  with_reducible refine (TL.out _).mono ?_
                  rintro e v3 ⟨rfl, p3⟩
                  have Q3 := hide (bel_to Q2.out (Nat.le_refl _) p3)
                  clear p3 Q2 b0 b1 b2 b3 b4 TH
                  go_wp2
                  go_roundw
                  case rel => exact ⟨k + 1, h, by omega, by go_num, by rfl, HL2, Q3⟩
                  case measure => simp [intOf]; omega
                · have gh : ¬ h ≤ day * 8640 := fun x => gg (y5.2 x)
                  have d1 : decide (lv ≤ (k : Int)) = false := decide_eq_false gg
                  have d2 : decide (h ≤ day * 8640) = false := decide_eq_false gh
                  clear y5
                  go_wp2_with fail
                  with_reducible refine (TH.out _).mono ?_
                  rintro e v2 ⟨rfl, p2⟩
                  have Q2 := hide (bel_to HB.out (Nat.le_refl _) p2)
                  clear p2 b0 b1 b2 b3 b4
                  obtain ⟨⟨b0, b1, b2, b3, b4⟩, -⟩ := CL.out v2 Q2.out
                  go_wp2_with fail
                  with_reducible refine (TL.out _).mono ?_
                  rintro e v3 ⟨rfl, p3⟩
                  have Q3 := hide (bel_to Q2.out (Nat.le_refl _) p3)
                  clear p3 Q2 b0 b1 b2 b3 b4 TH
                  go_wp2
                  go_roundw
                  case rel => exact ⟨k + 1, h, by omega, by go_num, by rfl, HL2, Q3⟩
                  case measure => simp [intOf]; omega
              · have i2 : ¬ (k : Int) < 4 := by omega
                have e4 : k = 4 := by omega
                subst e4
                go_wp2_with fail
                with_reducible refine (TA.out _ HB.out).mono ?_
                rintro e v2 ⟨rfl, p2⟩
                have F := hide (bel_to LW.out (Nat.le_refl _) (bel_to HB.out (Nat.le_refl _) p2))
                clear p2
                go_wp2
                go_ret
                exact ⟨rfl, F.out⟩

set_option maxHeartbeats 8000000 in
theorem lasts_of (R : CaRes) (H : CaHor) (L : CaLev) (c : Cf) (day at_ : Int) (w : World) (tb : TbW w) (hc : CfW c) (hd : (Lit.int .i64 day).wf = true) (ha : (Lit.int .i64 at_).wf = true) :
    Calls Tryd.prog 5 #[cfV c, .int .i64 day, .int .i64 at_] w fun e w' => e = .returned (.bool true) ∧ Below w.heap.size w w' := by
  obtain ⟨W, hW⟩ : ∃ W, Hid (w.alloc (.cells #[.int .i64 c.sl, .int .i64 c.k0, .int .i64 c.k1, .int .i64 c.k2, .int .i64 c.k3] 28) = W) := ⟨_, rfl⟩
  have LW : Hid (Below w.heap.size w W) := by rw [← hW.out]; exact (Below.refl _ _).alloc (Nat.le_refl _) _
  have B : Hid (BoxC W w.heap.size c) := by rw [← hW.out]; exact boxC_new w c
  have CL : Hid (∀ u, Below W.heap.size W u → cells5 u w.heap.size c ∧ Hid (Below W.heap.size W u)) := fun u hu => ⟨(B.out.below hu B.out.lt).all, hu⟩
  have KP : Hid (∀ v v', Below v.heap.size v v' → (cells5 v w.heap.size c ∧ Hid (Below W.heap.size W v)) → cells5 v' w.heap.size c ∧ Hid (Below W.heap.size W v')) := fun v v' hb h => CL.out v' (bel_to h.2.out (Nat.le_refl _) hb)
  have TK := hide (fun u => rchk_any c u)
  have TA : Hid (∀ u, Below W.heap.size W u → Calls Tryd.prog 6 #[] u fun e w' => e = .returned (.bool true) ∧ Below u.heap.size u w') := fun u b => awakeC_of R H L u (tb.bel (bel_to LW.out (Nat.le_refl _) b))
  clear tb
  obtain ⟨⟨b0, b1, b2, b3, b4⟩, -⟩ := CL.out W (Below.refl _ _)
  obtain ⟨ha0, ha1⟩ := i64_of_wf ha
  obtain ⟨hd0, hd1⟩ := i64_of_wf hd
  cases hck : chkC c with
  | false =>
    clear R H L hc ha hd B KP
    go_enter Tryd.func5, Tryd.ntmps5
    go_upto_region 1 with fail
    rw [hW.out]
    clear hW
    go_wp2_with fail
    with_reducible refine (TK.out _).mono ?_
    rintro e u1 ⟨rfl, p1⟩
    have B1 := hide p1
    rw [hck]
    clear p1 TK b0 b1 b2 b3 b4
    obtain ⟨⟨b0, b1, b2, b3, b4⟩, -⟩ := CL.out u1 B1.out
    go_wp2_with fail
    with_reducible refine (TA.out _ B1.out).mono ?_
    rintro e u2 ⟨rfl, p2⟩
    have B2 := hide (bel_to B1.out (Nat.le_refl _) p2)
    clear p2 b0 b1 b2 b3 b4
    obtain ⟨⟨b0, b1, b2, b3, b4⟩, -⟩ := CL.out u2 B2.out
    have F := hide (bel_to LW.out (Nat.le_refl _) B2.out)
    go_wp2
    go_ret
    exact ⟨rfl, F.out⟩
  | true =>
    have ok : okC c := of_decide_eq_true hck
    by_cases g0 : day < 0
    · clear R H L hc ha hd B KP
      go_enter Tryd.func5, Tryd.ntmps5
      go_upto_region 1 with fail
      rw [hW.out]
      clear hW
      go_wp2_with fail
      with_reducible refine (TK.out _).mono ?_
      rintro e u1 ⟨rfl, p1⟩
      have B1 := hide p1
      rw [hck]
      clear p1 TK b0 b1 b2 b3 b4
      obtain ⟨⟨b0, b1, b2, b3, b4⟩, -⟩ := CL.out u1 B1.out
      go_wp2_with fail
      with_reducible refine (TA.out _ B1.out).mono ?_
      rintro e u2 ⟨rfl, p2⟩
      have B2 := hide (bel_to B1.out (Nat.le_refl _) p2)
      clear p2 b0 b1 b2 b3 b4
      obtain ⟨⟨b0, b1, b2, b3, b4⟩, -⟩ := CL.out u2 B2.out
      have F := hide (bel_to LW.out (Nat.le_refl _) B2.out)
      go_wp2
      go_ret
      exact ⟨rfl, F.out⟩
    · by_cases g1 : 1048576 < day
      · clear R H L hc ha hd B KP
        go_enter Tryd.func5, Tryd.ntmps5
        go_upto_region 1 with fail
        rw [hW.out]
        clear hW
        go_wp2_with fail
        with_reducible refine (TK.out _).mono ?_
        rintro e u1 ⟨rfl, p1⟩
        have B1 := hide p1
        rw [hck]
        clear p1 TK b0 b1 b2 b3 b4
        obtain ⟨⟨b0, b1, b2, b3, b4⟩, -⟩ := CL.out u1 B1.out
        go_wp2_with fail
        with_reducible refine (TA.out _ B1.out).mono ?_
        rintro e u2 ⟨rfl, p2⟩
        have B2 := hide (bel_to B1.out (Nat.le_refl _) p2)
        clear p2 b0 b1 b2 b3 b4
        obtain ⟨⟨b0, b1, b2, b3, b4⟩, -⟩ := CL.out u2 B2.out
        have F := hide (bel_to LW.out (Nat.le_refl _) B2.out)
        go_wp2
        go_ret
        exact ⟨rfl, F.out⟩
      · by_cases g2 : at_ < 0
        · clear R H L hc ha hd B KP
          go_enter Tryd.func5, Tryd.ntmps5
          go_upto_region 1 with fail
          rw [hW.out]
          clear hW
          go_wp2_with fail
          with_reducible refine (TK.out _).mono ?_
          rintro e u1 ⟨rfl, p1⟩
          have B1 := hide p1
          rw [hck]
          clear p1 TK b0 b1 b2 b3 b4
          obtain ⟨⟨b0, b1, b2, b3, b4⟩, -⟩ := CL.out u1 B1.out
          go_wp2_with fail
          with_reducible refine (TA.out _ B1.out).mono ?_
          rintro e u2 ⟨rfl, p2⟩
          have B2 := hide (bel_to B1.out (Nat.le_refl _) p2)
          clear p2 b0 b1 b2 b3 b4
          obtain ⟨⟨b0, b1, b2, b3, b4⟩, -⟩ := CL.out u2 B2.out
          have F := hide (bel_to LW.out (Nat.le_refl _) B2.out)
          go_wp2
          go_ret
          exact ⟨rfl, F.out⟩
        · by_cases g3 : 8640 ≤ at_
          · clear R H L hc ha hd B KP
            go_enter Tryd.func5, Tryd.ntmps5
            go_upto_region 1 with fail
            rw [hW.out]
            clear hW
            go_wp2_with fail
            with_reducible refine (TK.out _).mono ?_
            rintro e u1 ⟨rfl, p1⟩
            have B1 := hide p1
            rw [hck]
            clear p1 TK b0 b1 b2 b3 b4
            obtain ⟨⟨b0, b1, b2, b3, b4⟩, -⟩ := CL.out u1 B1.out
            go_wp2_with fail
            with_reducible refine (TA.out _ B1.out).mono ?_
            rintro e u2 ⟨rfl, p2⟩
            have B2 := hide (bel_to B1.out (Nat.le_refl _) p2)
            clear p2 b0 b1 b2 b3 b4
            obtain ⟨⟨b0, b1, b2, b3, b4⟩, -⟩ := CL.out u2 B2.out
            have F := hide (bel_to LW.out (Nat.le_refl _) B2.out)
            go_wp2
            go_ret
            exact ⟨rfl, F.out⟩
          · clear R H KP
            go_enter Tryd.func5, Tryd.ntmps5
            go_upto_region 1 with fail
            rw [hW.out]
            clear hW
            go_wp2_with fail
            with_reducible refine (TK.out _).mono ?_
            rintro e u1 ⟨rfl, p1⟩
            have B1 := hide p1
            rw [hck]
            clear p1 TK b0 b1 b2 b3 b4
            obtain ⟨⟨b0, b1, b2, b3, b4⟩, -⟩ := CL.out u1 B1.out
            go_wp2
            clear b0 b1 b2 b3 b4
            go_loopw [7] (fun i wr => ∃ k : Nat, k ≤ 4 ∧ i = .int .i64 k ∧ Hid (Below W.heap.size W wr)) (fun i _ => 4 - (intOf i).toNat)
            case atStart => exact ⟨0, by omega, rfl, B1⟩
            case round =>
              obtain ⟨k, hk, rfl, HB⟩ := hrel
              obtain ⟨v, rfl⟩ : ∃ v, v = wr := ⟨wr, rfl⟩
              obtain ⟨⟨b0, b1, b2, b3, b4⟩, -⟩ := CL.out v HB.out
              have hkk : k = 0 ∨ k = 1 ∨ k = 2 ∨ k = 3 ∨ k = 4 := by omega
              rcases hkk with rfl | rfl | rfl | rfl | rfl
              · obtain ⟨x1, x2⟩ := levC_lasts (c := c) (day := day) ok (l := 0) (at' := at_) (by decide) (by decide) (by omega) (by omega) (by omega)
                rw [show c.kp 0 = c.k0 from rfl] at x1 x2
                have hkk : 1 ≤ c.k0 ∧ c.k0 ≤ 100000 := by unfold okC at ok; omega
                obtain ⟨N, hN⟩ : ∃ N, (day + c.k0) * 8640 + at_ = N := ⟨_, rfl⟩
                rw [hN] at x1 x2
                have hN2 : 0 ≤ N ∧ N ≤ 9923705280 := by omega
                have T1 := hide (fun u => L.at' c N day u hc hd ok (by omega) (by omega))
                have T2 := hide (fun u => L.at' c (N + 8640) day u hc hd ok (by omega) (by omega))
                generalize levC c N day = p at *
                generalize levC c (N + 8640) day = q at *
                have x3 : ¬ (0 : Int) < p := by omega
                clear ok hc hd L
                go_wp2_with fail
                with_reducible refine (T1.out _).mono ?_
                rintro e v2 ⟨rfl, p2⟩
                have Q2 := hide (bel_to HB.out (Nat.le_refl _) p2)
                clear p2 b0 b1 b2 b3 b4
                obtain ⟨⟨b0, b1, b2, b3, b4⟩, -⟩ := CL.out v2 Q2.out
                go_wp2_with fail
                with_reducible refine (T2.out _).mono ?_
                rintro e v3 ⟨rfl, p3⟩
                have Q3 := hide (bel_to Q2.out (Nat.le_refl _) p3)
                clear p3 Q2 b0 b1 b2 b3 b4
                go_wp2
                go_roundw
                case rel => exact ⟨1, by omega, by go_num, Q3⟩
                case measure => simp [intOf]
              · obtain ⟨x1, x2⟩ := levC_lasts (c := c) (day := day) ok (l := 1) (at' := at_) (by decide) (by decide) (by omega) (by omega) (by omega)
                rw [show c.kp 1 = c.k1 from rfl] at x1 x2
                have hkk : 1 ≤ c.k1 ∧ c.k1 ≤ 100000 := by unfold okC at ok; omega
                obtain ⟨N, hN⟩ : ∃ N, (day + c.k1) * 8640 + at_ = N := ⟨_, rfl⟩
                rw [hN] at x1 x2
                have hN2 : 0 ≤ N ∧ N ≤ 9923705280 := by omega
                have T1 := hide (fun u => L.at' c N day u hc hd ok (by omega) (by omega))
                have T2 := hide (fun u => L.at' c (N + 8640) day u hc hd ok (by omega) (by omega))
                generalize levC c N day = p at *
                generalize levC c (N + 8640) day = q at *
                have x3 : ¬ (1 : Int) < p := by omega
                clear ok hc hd L
                go_wp2_with fail
                with_reducible refine (T1.out _).mono ?_
                rintro e v2 ⟨rfl, p2⟩
                have Q2 := hide (bel_to HB.out (Nat.le_refl _) p2)
                clear p2 b0 b1 b2 b3 b4
                obtain ⟨⟨b0, b1, b2, b3, b4⟩, -⟩ := CL.out v2 Q2.out
                go_wp2_with fail
                with_reducible refine (T2.out _).mono ?_
                rintro e v3 ⟨rfl, p3⟩
                have Q3 := hide (bel_to Q2.out (Nat.le_refl _) p3)
                clear p3 Q2 b0 b1 b2 b3 b4
                go_wp2
                go_roundw
                case rel => exact ⟨2, by omega, by go_num, Q3⟩
                case measure => simp [intOf]
              · obtain ⟨x1, x2⟩ := levC_lasts (c := c) (day := day) ok (l := 2) (at' := at_) (by decide) (by decide) (by omega) (by omega) (by omega)
                rw [show c.kp 2 = c.k2 from rfl] at x1 x2
                have hkk : 1 ≤ c.k2 ∧ c.k2 ≤ 100000 := by unfold okC at ok; omega
                obtain ⟨N, hN⟩ : ∃ N, (day + c.k2) * 8640 + at_ = N := ⟨_, rfl⟩
                rw [hN] at x1 x2
                have hN2 : 0 ≤ N ∧ N ≤ 9923705280 := by omega
                have T1 := hide (fun u => L.at' c N day u hc hd ok (by omega) (by omega))
                have T2 := hide (fun u => L.at' c (N + 8640) day u hc hd ok (by omega) (by omega))
                generalize levC c N day = p at *
                generalize levC c (N + 8640) day = q at *
                have x3 : ¬ (2 : Int) < p := by omega
                clear ok hc hd L
                go_wp2_with fail
                with_reducible refine (T1.out _).mono ?_
                rintro e v2 ⟨rfl, p2⟩
                have Q2 := hide (bel_to HB.out (Nat.le_refl _) p2)
                clear p2 b0 b1 b2 b3 b4
                obtain ⟨⟨b0, b1, b2, b3, b4⟩, -⟩ := CL.out v2 Q2.out
                go_wp2_with fail
                with_reducible refine (T2.out _).mono ?_
                rintro e v3 ⟨rfl, p3⟩
                have Q3 := hide (bel_to Q2.out (Nat.le_refl _) p3)
                clear p3 Q2 b0 b1 b2 b3 b4
                go_wp2
                go_roundw
                case rel => exact ⟨3, by omega, by go_num, Q3⟩
                case measure => simp [intOf]
              · obtain ⟨x1, x2⟩ := levC_lasts (c := c) (day := day) ok (l := 3) (at' := at_) (by decide) (by decide) (by omega) (by omega) (by omega)
                rw [show c.kp 3 = c.k3 from rfl] at x1 x2
                have hkk : 1 ≤ c.k3 ∧ c.k3 ≤ 100000 := by unfold okC at ok; omega
                obtain ⟨N, hN⟩ : ∃ N, (day + c.k3) * 8640 + at_ = N := ⟨_, rfl⟩
                rw [hN] at x1 x2
                have hN2 : 0 ≤ N ∧ N ≤ 9923705280 := by omega
                have T1 := hide (fun u => L.at' c N day u hc hd ok (by omega) (by omega))
                have T2 := hide (fun u => L.at' c (N + 8640) day u hc hd ok (by omega) (by omega))
                generalize levC c N day = p at *
                generalize levC c (N + 8640) day = q at *
                have x3 : ¬ (3 : Int) < p := by omega
                clear ok hc hd L
                go_wp2_with fail
                with_reducible refine (T1.out _).mono ?_
                rintro e v2 ⟨rfl, p2⟩
                have Q2 := hide (bel_to HB.out (Nat.le_refl _) p2)
                clear p2 b0 b1 b2 b3 b4
                obtain ⟨⟨b0, b1, b2, b3, b4⟩, -⟩ := CL.out v2 Q2.out
                go_wp2_with fail
                with_reducible refine (T2.out _).mono ?_
                rintro e v3 ⟨rfl, p3⟩
                have Q3 := hide (bel_to Q2.out (Nat.le_refl _) p3)
                clear p3 Q2 b0 b1 b2 b3 b4
                go_wp2
                go_roundw
                case rel => exact ⟨4, by omega, by go_num, Q3⟩
                case measure => simp [intOf]
              · go_wp2_with fail
                with_reducible refine (TA.out _ HB.out).mono ?_
                rintro e v2 ⟨rfl, p2⟩
                have F := hide (bel_to LW.out (Nat.le_refl _) (bel_to HB.out (Nat.le_refl _) p2))
                clear p2
                go_wp2
                go_ret
                exact ⟨rfl, F.out⟩
end Go.Proofs.YtejflcfcbjadhabDoor
