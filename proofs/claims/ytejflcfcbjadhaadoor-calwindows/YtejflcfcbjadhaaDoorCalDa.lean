/-
  What Res, Floor and Horizon of the program's cal tell: contracts (written by gen/calda.gen.py).
  Conditions: the table of slots lies in its variable, where it is read; else none.
-/
import Derived.Test.YtejflcfcbjadhaaDoorCalI
namespace Go.Proofs.YtejflcfcbjadhaaDoor
open Go.RowKit
set_option maxRecDepth 20000

theorem res_any (l : Int) (w : World) (tb : TbW w) : Calls Tryd.prog 11 #[.int .i64 l] w fun e w' => e = .returned (.int .i64 (resC l)) ∧ w' = w := by
  obtain ⟨b0, b1, b2, b3⟩ := tb
  by_cases h0 : l < 0
  · rw [show resC l = 0 by unfold resC; rw [if_neg (by omega), if_neg (by omega), if_neg (by omega), if_neg (by omega)]]
    clear b0 b1 b2 b3
    go_enter Tryd.func11, Tryd.ntmps11
    go_wp2
    go_ret
    exact ⟨rfl, rfl⟩
  · by_cases h4 : 4 ≤ l
    · rw [show resC l = 0 by unfold resC; rw [if_neg (by omega), if_neg (by omega), if_neg (by omega), if_neg (by omega)]]
      clear b0 b1 b2 b3
      go_enter Tryd.func11, Tryd.ntmps11
      go_wp2
      go_ret
      exact ⟨rfl, rfl⟩
    · have hc : l = 0 ∨ l = 1 ∨ l = 2 ∨ l = 3 := by omega
      clear h0 h4
      rcases hc with rfl | rfl | rfl | rfl
      · go_enter Tryd.func11, Tryd.ntmps11
        go_wp2
        go_ret
        exact ⟨rfl, rfl⟩
      · go_enter Tryd.func11, Tryd.ntmps11
        go_wp2
        go_ret
        exact ⟨rfl, rfl⟩
      · go_enter Tryd.func11, Tryd.ntmps11
        go_wp2
        go_ret
        exact ⟨rfl, rfl⟩
      · go_enter Tryd.func11, Tryd.ntmps11
        go_wp2
        go_ret
        exact ⟨rfl, rfl⟩

set_option maxHeartbeats 4000000 in
theorem floor_any (a l : Int) (w : World) (tb : TbW w) (h0 : -9223372036854775808 ≤ a) (h1 : a ≤ 9223372036854775807) :
    Calls Tryd.prog 14 #[.int .i64 a, .int .i64 l] w fun e w' => e = .returned (.int .i64 (floorC a l)) ∧ Below w.heap.size w w' := by
  rcases resC_cases l with e | e | e | e | e
  · rw [show floorC a l = a by unfold floorC; rw [if_pos e]]
    have RR := hide (res_any l w tb)
    rw [e] at RR
    clear e
    go_enter Tryd.func14, Tryd.ntmps14
    go_wp2_with fail
    with_reducible refine RR.out.mono ?_
    rintro e u ⟨rfl, hu⟩
    rw [hu]
    clear hu RR
    go_wp2
    go_ret
    exact ⟨rfl, Below.refl _ _⟩
  · rw [show floorC a l = a by unfold floorC; rw [e, if_neg (by decide), if_neg (by omega)]; omega]
    have RR := hide (res_any l w tb)
    rw [e] at RR
    have ht : a.tmod 1 = 0 := Int.tmod_one a
    have h4 : ¬ a < -9223372036854775808 := by omega
    clear e
    go_enter Tryd.func14, Tryd.ntmps14
    go_wp2_with fail
    with_reducible refine RR.out.mono ?_
    rintro e u ⟨rfl, hu⟩
    rw [hu]
    clear hu RR
    go_wp2
    go_ret
    exact ⟨by go_num, Below.refl _ _⟩
  · have HS : Hid (floorC a l = if a < -9223372036854775808 + a % 6 then a + (6 - a % 6) else a - a % 6) := by show _ = _; unfold floorC; rw [e, if_neg (by decide)]
    rw [HS.out]
    have RR := hide (res_any l w tb)
    rw [e] at RR
    have hr := tmod_fix (a := a) (r := 6) (by decide)
    have hm0 : 0 ≤ a % 6 ∧ a % 6 < 6 := by omega
    have hm1 : a % 6 ≤ a + 9223372036854775808 ∨ a < -9223372036854775808 + a % 6 := by omega
    have hup : a < -9223372036854775808 + a % 6 → a + (6 - a % 6) ≤ 9223372036854775807 := by omega
    obtain ⟨t, ht⟩ : ∃ t, a.tmod 6 = t := ⟨_, rfl⟩
    rw [ht] at hr
    generalize a % 6 = k at *
    clear HS e
    rcases hr with ⟨h2, h3, h5⟩ | ⟨h2, h3⟩
    · by_cases h4 : a < -9223372036854775808 + k
      · rw [if_pos h4]
        go_enter Tryd.func14, Tryd.ntmps14
        go_wp2_with fail
        with_reducible refine RR.out.mono ?_
        rintro e u ⟨rfl, hu⟩
        rw [hu]
        clear hu RR
        go_wp2
        go_ret
        exact ⟨by go_num, Below.refl _ _⟩
      · rw [if_neg h4]
        go_enter Tryd.func14, Tryd.ntmps14
        go_wp2_with fail
        with_reducible refine RR.out.mono ?_
        rintro e u ⟨rfl, hu⟩
        rw [hu]
        clear hu RR
        go_wp2
        go_ret
        exact ⟨by go_num, Below.refl _ _⟩
    · subst h3
      have h2' : ¬ t < 0 := by omega
      by_cases h4 : a < -9223372036854775808 + t
      · rw [if_pos h4]
        go_enter Tryd.func14, Tryd.ntmps14
        go_wp2_with fail
        with_reducible refine RR.out.mono ?_
        rintro e u ⟨rfl, hu⟩
        rw [hu]
        clear hu RR
        go_wp2
        go_ret
        exact ⟨by go_num, Below.refl _ _⟩
      · rw [if_neg h4]
        go_enter Tryd.func14, Tryd.ntmps14
        go_wp2_with fail
        with_reducible refine RR.out.mono ?_
        rintro e u ⟨rfl, hu⟩
        rw [hu]
        clear hu RR
        go_wp2
        go_ret
        exact ⟨by go_num, Below.refl _ _⟩
  · have HS : Hid (floorC a l = if a < -9223372036854775808 + a % 360 then a + (360 - a % 360) else a - a % 360) := by show _ = _; unfold floorC; rw [e, if_neg (by decide)]
    rw [HS.out]
    have RR := hide (res_any l w tb)
    rw [e] at RR
    have hr := tmod_fix (a := a) (r := 360) (by decide)
    have hm0 : 0 ≤ a % 360 ∧ a % 360 < 360 := by omega
    have hm1 : a % 360 ≤ a + 9223372036854775808 ∨ a < -9223372036854775808 + a % 360 := by omega
    have hup : a < -9223372036854775808 + a % 360 → a + (360 - a % 360) ≤ 9223372036854775807 := by omega
    obtain ⟨t, ht⟩ : ∃ t, a.tmod 360 = t := ⟨_, rfl⟩
    rw [ht] at hr
    generalize a % 360 = k at *
    clear HS e
    rcases hr with ⟨h2, h3, h5⟩ | ⟨h2, h3⟩
    · by_cases h4 : a < -9223372036854775808 + k
      · rw [if_pos h4]
        go_enter Tryd.func14, Tryd.ntmps14
        go_wp2_with fail
        with_reducible refine RR.out.mono ?_
        rintro e u ⟨rfl, hu⟩
        rw [hu]
        clear hu RR
        go_wp2
        go_ret
        exact ⟨by go_num, Below.refl _ _⟩
      · rw [if_neg h4]
        go_enter Tryd.func14, Tryd.ntmps14
        go_wp2_with fail
        with_reducible refine RR.out.mono ?_
        rintro e u ⟨rfl, hu⟩
        rw [hu]
        clear hu RR
        go_wp2
        go_ret
        exact ⟨by go_num, Below.refl _ _⟩
    · subst h3
      have h2' : ¬ t < 0 := by omega
      by_cases h4 : a < -9223372036854775808 + t
      · rw [if_pos h4]
        go_enter Tryd.func14, Tryd.ntmps14
        go_wp2_with fail
        with_reducible refine RR.out.mono ?_
        rintro e u ⟨rfl, hu⟩
        rw [hu]
        clear hu RR
        go_wp2
        go_ret
        exact ⟨by go_num, Below.refl _ _⟩
      · rw [if_neg h4]
        go_enter Tryd.func14, Tryd.ntmps14
        go_wp2_with fail
        with_reducible refine RR.out.mono ?_
        rintro e u ⟨rfl, hu⟩
        rw [hu]
        clear hu RR
        go_wp2
        go_ret
        exact ⟨by go_num, Below.refl _ _⟩
  · have HS : Hid (floorC a l = if a < -9223372036854775808 + a % 8640 then a + (8640 - a % 8640) else a - a % 8640) := by show _ = _; unfold floorC; rw [e, if_neg (by decide)]
    rw [HS.out]
    have RR := hide (res_any l w tb)
    rw [e] at RR
    have hr := tmod_fix (a := a) (r := 8640) (by decide)
    have hm0 : 0 ≤ a % 8640 ∧ a % 8640 < 8640 := by omega
    have hm1 : a % 8640 ≤ a + 9223372036854775808 ∨ a < -9223372036854775808 + a % 8640 := by omega
    have hup : a < -9223372036854775808 + a % 8640 → a + (8640 - a % 8640) ≤ 9223372036854775807 := by omega
    obtain ⟨t, ht⟩ : ∃ t, a.tmod 8640 = t := ⟨_, rfl⟩
    rw [ht] at hr
    generalize a % 8640 = k at *
    clear HS e
    rcases hr with ⟨h2, h3, h5⟩ | ⟨h2, h3⟩
    · by_cases h4 : a < -9223372036854775808 + k
      · rw [if_pos h4]
        go_enter Tryd.func14, Tryd.ntmps14
        go_wp2_with fail
        with_reducible refine RR.out.mono ?_
        rintro e u ⟨rfl, hu⟩
        rw [hu]
        clear hu RR
        go_wp2
        go_ret
        exact ⟨by go_num, Below.refl _ _⟩
      · rw [if_neg h4]
        go_enter Tryd.func14, Tryd.ntmps14
        go_wp2_with fail
        with_reducible refine RR.out.mono ?_
        rintro e u ⟨rfl, hu⟩
        rw [hu]
        clear hu RR
        go_wp2
        go_ret
        exact ⟨by go_num, Below.refl _ _⟩
    · subst h3
      have h2' : ¬ t < 0 := by omega
      by_cases h4 : a < -9223372036854775808 + t
      · rw [if_pos h4]
        go_enter Tryd.func14, Tryd.ntmps14
        go_wp2_with fail
        with_reducible refine RR.out.mono ?_
        rintro e u ⟨rfl, hu⟩
        rw [hu]
        clear hu RR
        go_wp2
        go_ret
        exact ⟨by go_num, Below.refl _ _⟩
      · rw [if_neg h4]
        go_enter Tryd.func14, Tryd.ntmps14
        go_wp2_with fail
        with_reducible refine RR.out.mono ?_
        rintro e u ⟨rfl, hu⟩
        rw [hu]
        clear hu RR
        go_wp2
        go_ret
        exact ⟨by go_num, Below.refl _ _⟩

/-- A day's first slot, held at the ends. -/
def fsC (d : Int) : Int := if 1067519911673006 < d then 9223372036854775807 else if d < -1067519911673006 then -9223372036854775808 else d * 8640
theorem fsC_w (d : Int) : -9223372036854775808 ≤ fsC d ∧ fsC d ≤ 9223372036854775807 := by
  unfold fsC
  repeat' split
  all_goals omega
theorem first_any (d : Int) (w : World) : Calls Tryd.prog 27 #[.int .i64 d] w fun e w' => e = .returned (.int .i64 (fsC d)) ∧ w' = w := by
  by_cases h1 : 1067519911673006 < d
  · rw [show fsC d = 9223372036854775807 by unfold fsC; rw [if_pos h1]]
    go_enter Tryd.func27, Tryd.ntmps27
    go_wp2
    go_ret
    exact ⟨rfl, rfl⟩
  · by_cases h2 : d < -1067519911673006
    · rw [show fsC d = -9223372036854775808 by unfold fsC; rw [if_neg h1, if_pos h2]]
      go_enter Tryd.func27, Tryd.ntmps27
      go_wp2
      go_ret
      exact ⟨rfl, rfl⟩
    · rw [show fsC d = d * 8640 by unfold fsC; rw [if_neg h1, if_neg h2]]
      go_enter Tryd.func27, Tryd.ntmps27
      go_wp2
      go_ret
      exact ⟨by go_num, rfl⟩

theorem hor_fit {c : Cf} {now l k T : Int} (hk : c.kp l = k) (hT : 0 ≤ now → T = now / 8640) : (T ≤ k → okC c → 0 ≤ now → now ≤ 1099511627776 → 0 = horC c now l) ∧ (¬ T ≤ k → okC c → 0 ≤ now → now ≤ 1099511627776 → fsC (min (T - k) 9223372036854775807) = horC c now l) := by
  constructor
  · intro h1 ok h2 h3
    have := ok.kp l
    have := hT h2
    rw [horC_of hk]
    split <;> omega
  · intro h1 ok h2 h3
    have := ok.kp l
    have := hT h2
    rw [horC_of hk, Int.min_eq_left (by omega)]
    unfold fsC
    rw [if_neg (by omega), if_neg (by omega), if_neg (by omega)]
    omega
/-- A quotient and its rest, by a day. -/
theorem day_parts {a : Int} (h0 : -9223372036854775808 ≤ a) (h1 : a ≤ 9223372036854775807) : ∃ t r, a.tdiv 8640 = t ∧ a.tmod 8640 = r ∧ -1067519911673006 ≤ t ∧ t ≤ 1067519911673006 ∧ -8640 < r ∧ r < 8640 ∧ (0 ≤ a → t = a / 8640 ∧ 0 ≤ r) := by
  refine ⟨_, _, rfl, rfl, ?_⟩
  have e := Int.tmod_add_mul_tdiv a 8640
  have f := tmod_fix (a := a) (r := 8640) (by decide)
  have f2 : a ≤ 0 → a.tmod 8640 ≤ 0 := fun h => by
    have := Int.tmod_nonneg (a := -a) 8640 (by omega)
    rw [Int.neg_tmod] at this
    omega
  have g : 0 ≤ a → a.tdiv 8640 = a / 8640 := fun h => Int.tdiv_eq_ediv_of_nonneg h
  generalize a.tdiv 8640 = t at *
  generalize a.tmod 8640 = r at *
  omega

/-- What is known of a call of Horizon. -/
def HoP (c : Cf) (now l : Int) (x : Int) : Prop := okC c → 0 ≤ now → now ≤ 1099511627776 → x = horC c now l

set_option maxHeartbeats 16000000 in
theorem hor_any (c : Cf) (now l : Int) (w : World) (hc : CfW c) (hn : (Lit.int .i64 now).wf = true) :
    Calls Tryd.prog 17 #[cfV c, .int .i64 now, .int .i64 l] w fun e w' => ∃ x, e = .returned (.int .i64 x) ∧ HoP c now l x ∧ Below w.heap.size w w' := by
  obtain ⟨W, hW⟩ : ∃ W, Hid (w.alloc (.cells #[.int .i64 c.sl, .int .i64 c.k0, .int .i64 c.k1, .int .i64 c.k2, .int .i64 c.k3] 24) = W) := ⟨_, rfl⟩
  have LW : Hid (Below w.heap.size w W) := by rw [← hW.out]; exact (Below.refl _ _).alloc (Nat.le_refl _) _
  have B : Hid (BoxC W w.heap.size c) := by rw [← hW.out]; exact boxC_new w c
  obtain ⟨b0, b1, b2, b3, b4⟩ := B.out.all
  obtain ⟨hn0, hn1⟩ := i64_of_wf hn
  obtain ⟨t, r, ht, hr, t0, t1, r0, r1, hg⟩ := day_parts hn0 hn1
  have FS := hide (fun d u => first_any d u)
  by_cases ha : l < 0
  · have hx : max l 0 = 0 := by omega
    have hkp : c.kp l = c.k0 := by unfold Cf.kp; rw [if_pos (by omega)]
    obtain ⟨k0, k1⟩ := i64_of_wf hc.k0
    clear hn hc
    by_cases hr0 : r < 0
    · have HF := hide (hor_fit (c := c) (now := now) (l := l) (k := c.k0) (T := t - 1) hkp (fun h => by have := hg h; omega))
      by_cases hle : t - 1 ≤ c.k0
      · have HX : Hid (HoP c now l 0) := HF.out.1 hle
        clear HF hg hkp FS
        go_enter Tryd.func17, Tryd.ntmps17
        go_upto_region 1 with fail
        rw [hW.out]
        clear hW B
        go_wp2
        go_ret
        exact ⟨0, rfl, HX.out, LW.out⟩
      · have hu : IntKind.u64.wrap (IntKind.u64.wrap (t - 1) - IntKind.u64.wrap c.k0) = t - 1 - c.k0 := by rw [IntKind.wrap_u64, IntKind.wrap_u64, IntKind.wrap_u64]; omega
        have HX : Hid (HoP c now l (fsC (min (t - 1 - c.k0) 9223372036854775807))) := HF.out.2 hle
        by_cases hm : t - 1 - c.k0 ≤ 9223372036854775807
        · rw [Int.min_eq_left hm] at HX
          clear HF hg hkp
          go_enter Tryd.func17, Tryd.ntmps17
          go_upto_region 1 with fail
          rw [hW.out]
          clear hW B
          go_wp2_with fail
          with_reducible refine (FS.out _ _).mono ?_
          rintro e u ⟨rfl, hu2⟩
          rw [hu2]
          clear hu2
          go_wp2
          go_ret
          exact ⟨_, rfl, HX.out, LW.out⟩
        · rw [Int.min_eq_right (by omega)] at HX
          have hv : IntKind.u64.wrap (t - 1 - IntKind.u64.wrap c.k0) = t - 1 - c.k0 := by rw [IntKind.wrap_u64, IntKind.wrap_u64]; omega
          clear HF hg hkp
          go_enter Tryd.func17, Tryd.ntmps17
          go_upto_region 1 with fail
          rw [hW.out]
          clear hW B
          go_wp2_with fail
          with_reducible refine (FS.out _ _).mono ?_
          rintro e u ⟨rfl, hu2⟩
          rw [hu2]
          clear hu2
          go_wp2
          go_ret
          exact ⟨_, rfl, by first | exact HX.out | (rw [show wrap64 9223372036854775807 = 9223372036854775807 from by decide]; exact HX.out), LW.out⟩
    · have HF := hide (hor_fit (c := c) (now := now) (l := l) (k := c.k0) (T := t) hkp (fun h => by have := hg h; omega))
      by_cases hle : t ≤ c.k0
      · have HX : Hid (HoP c now l 0) := HF.out.1 hle
        clear HF hg hkp FS
        go_enter Tryd.func17, Tryd.ntmps17
        go_upto_region 1 with fail
        rw [hW.out]
        clear hW B
        go_wp2
        go_ret
        exact ⟨0, rfl, HX.out, LW.out⟩
      · have hu : IntKind.u64.wrap (IntKind.u64.wrap (t) - IntKind.u64.wrap c.k0) = t - c.k0 := by rw [IntKind.wrap_u64, IntKind.wrap_u64, IntKind.wrap_u64]; omega
        have HX : Hid (HoP c now l (fsC (min (t - c.k0) 9223372036854775807))) := HF.out.2 hle
        by_cases hm : t - c.k0 ≤ 9223372036854775807
        · rw [Int.min_eq_left hm] at HX
          clear HF hg hkp
          go_enter Tryd.func17, Tryd.ntmps17
          go_upto_region 1 with fail
          rw [hW.out]
          clear hW B
          go_wp2_with fail
          with_reducible refine (FS.out _ _).mono ?_
          rintro e u ⟨rfl, hu2⟩
          rw [hu2]
          clear hu2
          go_wp2
          go_ret
          exact ⟨_, rfl, HX.out, LW.out⟩
        · rw [Int.min_eq_right (by omega)] at HX
          have hv : IntKind.u64.wrap (t - IntKind.u64.wrap c.k0) = t - c.k0 := by rw [IntKind.wrap_u64, IntKind.wrap_u64]; omega
          clear HF hg hkp
          go_enter Tryd.func17, Tryd.ntmps17
          go_upto_region 1 with fail
          rw [hW.out]
          clear hW B
          go_wp2_with fail
          with_reducible refine (FS.out _ _).mono ?_
          rintro e u ⟨rfl, hu2⟩
          rw [hu2]
          clear hu2
          go_wp2
          go_ret
          exact ⟨_, rfl, by first | exact HX.out | (rw [show wrap64 9223372036854775807 = 9223372036854775807 from by decide]; exact HX.out), LW.out⟩
  · by_cases hb : 3 < l
    · have hx : max l 0 = l := by omega
      have hy : min l 3 = 3 := by omega
      have hkp : c.kp l = c.k3 := by unfold Cf.kp; rw [if_neg (by omega), if_neg (by omega), if_neg (by omega)]
      obtain ⟨k0, k1⟩ := i64_of_wf hc.k3
      clear hn hc
      by_cases hr0 : r < 0
      · have HF := hide (hor_fit (c := c) (now := now) (l := l) (k := c.k3) (T := t - 1) hkp (fun h => by have := hg h; omega))
        by_cases hle : t - 1 ≤ c.k3
        · have HX : Hid (HoP c now l 0) := HF.out.1 hle
          clear HF hg hkp FS
          go_enter Tryd.func17, Tryd.ntmps17
          go_upto_region 1 with fail
          rw [hW.out]
          clear hW B
          go_wp2
          go_ret
          exact ⟨0, rfl, HX.out, LW.out⟩
        · have hu : IntKind.u64.wrap (IntKind.u64.wrap (t - 1) - IntKind.u64.wrap c.k3) = t - 1 - c.k3 := by rw [IntKind.wrap_u64, IntKind.wrap_u64, IntKind.wrap_u64]; omega
          have HX : Hid (HoP c now l (fsC (min (t - 1 - c.k3) 9223372036854775807))) := HF.out.2 hle
          by_cases hm : t - 1 - c.k3 ≤ 9223372036854775807
          · rw [Int.min_eq_left hm] at HX
            clear HF hg hkp
            go_enter Tryd.func17, Tryd.ntmps17
            go_upto_region 1 with fail
            rw [hW.out]
            clear hW B
            go_wp2_with fail
            with_reducible refine (FS.out _ _).mono ?_
            rintro e u ⟨rfl, hu2⟩
            rw [hu2]
            clear hu2
            go_wp2
            go_ret
            exact ⟨_, rfl, HX.out, LW.out⟩
          · rw [Int.min_eq_right (by omega)] at HX
            have hv : IntKind.u64.wrap (t - 1 - IntKind.u64.wrap c.k3) = t - 1 - c.k3 := by rw [IntKind.wrap_u64, IntKind.wrap_u64]; omega
            clear HF hg hkp
            go_enter Tryd.func17, Tryd.ntmps17
            go_upto_region 1 with fail
            rw [hW.out]
            clear hW B
            go_wp2_with fail
            with_reducible refine (FS.out _ _).mono ?_
            rintro e u ⟨rfl, hu2⟩
            rw [hu2]
            clear hu2
            go_wp2
            go_ret
            exact ⟨_, rfl, by first | exact HX.out | (rw [show wrap64 9223372036854775807 = 9223372036854775807 from by decide]; exact HX.out), LW.out⟩
      · have HF := hide (hor_fit (c := c) (now := now) (l := l) (k := c.k3) (T := t) hkp (fun h => by have := hg h; omega))
        by_cases hle : t ≤ c.k3
        · have HX : Hid (HoP c now l 0) := HF.out.1 hle
          clear HF hg hkp FS
          go_enter Tryd.func17, Tryd.ntmps17
          go_upto_region 1 with fail
          rw [hW.out]
          clear hW B
          go_wp2
          go_ret
          exact ⟨0, rfl, HX.out, LW.out⟩
        · have hu : IntKind.u64.wrap (IntKind.u64.wrap (t) - IntKind.u64.wrap c.k3) = t - c.k3 := by rw [IntKind.wrap_u64, IntKind.wrap_u64, IntKind.wrap_u64]; omega
          have HX : Hid (HoP c now l (fsC (min (t - c.k3) 9223372036854775807))) := HF.out.2 hle
          by_cases hm : t - c.k3 ≤ 9223372036854775807
          · rw [Int.min_eq_left hm] at HX
            clear HF hg hkp
            go_enter Tryd.func17, Tryd.ntmps17
            go_upto_region 1 with fail
            rw [hW.out]
            clear hW B
            go_wp2_with fail
            with_reducible refine (FS.out _ _).mono ?_
            rintro e u ⟨rfl, hu2⟩
            rw [hu2]
            clear hu2
            go_wp2
            go_ret
            exact ⟨_, rfl, HX.out, LW.out⟩
          · rw [Int.min_eq_right (by omega)] at HX
            have hv : IntKind.u64.wrap (t - IntKind.u64.wrap c.k3) = t - c.k3 := by rw [IntKind.wrap_u64, IntKind.wrap_u64]; omega
            clear HF hg hkp
            go_enter Tryd.func17, Tryd.ntmps17
            go_upto_region 1 with fail
            rw [hW.out]
            clear hW B
            go_wp2_with fail
            with_reducible refine (FS.out _ _).mono ?_
            rintro e u ⟨rfl, hu2⟩
            rw [hu2]
            clear hu2
            go_wp2
            go_ret
            exact ⟨_, rfl, by first | exact HX.out | (rw [show wrap64 9223372036854775807 = 9223372036854775807 from by decide]; exact HX.out), LW.out⟩
    · have hcc : l = 0 ∨ l = 1 ∨ l = 2 ∨ l = 3 := by omega
      clear ha hb
      rcases hcc with rfl | rfl | rfl | rfl
      · have hkp : c.kp 0 = c.k0 := rfl
        obtain ⟨k0, k1⟩ := i64_of_wf hc.k0
        clear hn hc
        by_cases hr0 : r < 0
        · have HF := hide (hor_fit (c := c) (now := now) (l := 0) (k := c.k0) (T := t - 1) hkp (fun h => by have := hg h; omega))
          by_cases hle : t - 1 ≤ c.k0
          · have HX : Hid (HoP c now 0 0) := HF.out.1 hle
            clear HF hg hkp FS
            go_enter Tryd.func17, Tryd.ntmps17
            go_upto_region 1 with fail
            rw [hW.out]
            clear hW B
            go_wp2
            go_ret
            exact ⟨0, rfl, HX.out, LW.out⟩
          · have hu : IntKind.u64.wrap (IntKind.u64.wrap (t - 1) - IntKind.u64.wrap c.k0) = t - 1 - c.k0 := by rw [IntKind.wrap_u64, IntKind.wrap_u64, IntKind.wrap_u64]; omega
            have HX : Hid (HoP c now 0 (fsC (min (t - 1 - c.k0) 9223372036854775807))) := HF.out.2 hle
            by_cases hm : t - 1 - c.k0 ≤ 9223372036854775807
            · rw [Int.min_eq_left hm] at HX
              clear HF hg hkp
              go_enter Tryd.func17, Tryd.ntmps17
              go_upto_region 1 with fail
              rw [hW.out]
              clear hW B
              go_wp2_with fail
              with_reducible refine (FS.out _ _).mono ?_
              rintro e u ⟨rfl, hu2⟩
              rw [hu2]
              clear hu2
              go_wp2
              go_ret
              exact ⟨_, rfl, HX.out, LW.out⟩
            · rw [Int.min_eq_right (by omega)] at HX
              have hv : IntKind.u64.wrap (t - 1 - IntKind.u64.wrap c.k0) = t - 1 - c.k0 := by rw [IntKind.wrap_u64, IntKind.wrap_u64]; omega
              clear HF hg hkp
              go_enter Tryd.func17, Tryd.ntmps17
              go_upto_region 1 with fail
              rw [hW.out]
              clear hW B
              go_wp2_with fail
              with_reducible refine (FS.out _ _).mono ?_
              rintro e u ⟨rfl, hu2⟩
              rw [hu2]
              clear hu2
              go_wp2
              go_ret
              exact ⟨_, rfl, by first | exact HX.out | (rw [show wrap64 9223372036854775807 = 9223372036854775807 from by decide]; exact HX.out), LW.out⟩
        · have HF := hide (hor_fit (c := c) (now := now) (l := 0) (k := c.k0) (T := t) hkp (fun h => by have := hg h; omega))
          by_cases hle : t ≤ c.k0
          · have HX : Hid (HoP c now 0 0) := HF.out.1 hle
            clear HF hg hkp FS
            go_enter Tryd.func17, Tryd.ntmps17
            go_upto_region 1 with fail
            rw [hW.out]
            clear hW B
            go_wp2
            go_ret
            exact ⟨0, rfl, HX.out, LW.out⟩
          · have hu : IntKind.u64.wrap (IntKind.u64.wrap (t) - IntKind.u64.wrap c.k0) = t - c.k0 := by rw [IntKind.wrap_u64, IntKind.wrap_u64, IntKind.wrap_u64]; omega
            have HX : Hid (HoP c now 0 (fsC (min (t - c.k0) 9223372036854775807))) := HF.out.2 hle
            by_cases hm : t - c.k0 ≤ 9223372036854775807
            · rw [Int.min_eq_left hm] at HX
              clear HF hg hkp
              go_enter Tryd.func17, Tryd.ntmps17
              go_upto_region 1 with fail
              rw [hW.out]
              clear hW B
              go_wp2_with fail
              with_reducible refine (FS.out _ _).mono ?_
              rintro e u ⟨rfl, hu2⟩
              rw [hu2]
              clear hu2
              go_wp2
              go_ret
              exact ⟨_, rfl, HX.out, LW.out⟩
            · rw [Int.min_eq_right (by omega)] at HX
              have hv : IntKind.u64.wrap (t - IntKind.u64.wrap c.k0) = t - c.k0 := by rw [IntKind.wrap_u64, IntKind.wrap_u64]; omega
              clear HF hg hkp
              go_enter Tryd.func17, Tryd.ntmps17
              go_upto_region 1 with fail
              rw [hW.out]
              clear hW B
              go_wp2_with fail
              with_reducible refine (FS.out _ _).mono ?_
              rintro e u ⟨rfl, hu2⟩
              rw [hu2]
              clear hu2
              go_wp2
              go_ret
              exact ⟨_, rfl, by first | exact HX.out | (rw [show wrap64 9223372036854775807 = 9223372036854775807 from by decide]; exact HX.out), LW.out⟩
      · have hkp : c.kp 1 = c.k1 := rfl
        obtain ⟨k0, k1⟩ := i64_of_wf hc.k1
        clear hn hc
        by_cases hr0 : r < 0
        · have HF := hide (hor_fit (c := c) (now := now) (l := 1) (k := c.k1) (T := t - 1) hkp (fun h => by have := hg h; omega))
          by_cases hle : t - 1 ≤ c.k1
          · have HX : Hid (HoP c now 1 0) := HF.out.1 hle
            clear HF hg hkp FS
            go_enter Tryd.func17, Tryd.ntmps17
            go_upto_region 1 with fail
            rw [hW.out]
            clear hW B
            go_wp2
            go_ret
            exact ⟨0, rfl, HX.out, LW.out⟩
          · have hu : IntKind.u64.wrap (IntKind.u64.wrap (t - 1) - IntKind.u64.wrap c.k1) = t - 1 - c.k1 := by rw [IntKind.wrap_u64, IntKind.wrap_u64, IntKind.wrap_u64]; omega
            have HX : Hid (HoP c now 1 (fsC (min (t - 1 - c.k1) 9223372036854775807))) := HF.out.2 hle
            by_cases hm : t - 1 - c.k1 ≤ 9223372036854775807
            · rw [Int.min_eq_left hm] at HX
              clear HF hg hkp
              go_enter Tryd.func17, Tryd.ntmps17
              go_upto_region 1 with fail
              rw [hW.out]
              clear hW B
              go_wp2_with fail
              with_reducible refine (FS.out _ _).mono ?_
              rintro e u ⟨rfl, hu2⟩
              rw [hu2]
              clear hu2
              go_wp2
              go_ret
              exact ⟨_, rfl, HX.out, LW.out⟩
            · rw [Int.min_eq_right (by omega)] at HX
              have hv : IntKind.u64.wrap (t - 1 - IntKind.u64.wrap c.k1) = t - 1 - c.k1 := by rw [IntKind.wrap_u64, IntKind.wrap_u64]; omega
              clear HF hg hkp
              go_enter Tryd.func17, Tryd.ntmps17
              go_upto_region 1 with fail
              rw [hW.out]
              clear hW B
              go_wp2_with fail
              with_reducible refine (FS.out _ _).mono ?_
              rintro e u ⟨rfl, hu2⟩
              rw [hu2]
              clear hu2
              go_wp2
              go_ret
              exact ⟨_, rfl, by first | exact HX.out | (rw [show wrap64 9223372036854775807 = 9223372036854775807 from by decide]; exact HX.out), LW.out⟩
        · have HF := hide (hor_fit (c := c) (now := now) (l := 1) (k := c.k1) (T := t) hkp (fun h => by have := hg h; omega))
          by_cases hle : t ≤ c.k1
          · have HX : Hid (HoP c now 1 0) := HF.out.1 hle
            clear HF hg hkp FS
            go_enter Tryd.func17, Tryd.ntmps17
            go_upto_region 1 with fail
            rw [hW.out]
            clear hW B
            go_wp2
            go_ret
            exact ⟨0, rfl, HX.out, LW.out⟩
          · have hu : IntKind.u64.wrap (IntKind.u64.wrap (t) - IntKind.u64.wrap c.k1) = t - c.k1 := by rw [IntKind.wrap_u64, IntKind.wrap_u64, IntKind.wrap_u64]; omega
            have HX : Hid (HoP c now 1 (fsC (min (t - c.k1) 9223372036854775807))) := HF.out.2 hle
            by_cases hm : t - c.k1 ≤ 9223372036854775807
            · rw [Int.min_eq_left hm] at HX
              clear HF hg hkp
              go_enter Tryd.func17, Tryd.ntmps17
              go_upto_region 1 with fail
              rw [hW.out]
              clear hW B
              go_wp2_with fail
              with_reducible refine (FS.out _ _).mono ?_
              rintro e u ⟨rfl, hu2⟩
              rw [hu2]
              clear hu2
              go_wp2
              go_ret
              exact ⟨_, rfl, HX.out, LW.out⟩
            · rw [Int.min_eq_right (by omega)] at HX
              have hv : IntKind.u64.wrap (t - IntKind.u64.wrap c.k1) = t - c.k1 := by rw [IntKind.wrap_u64, IntKind.wrap_u64]; omega
              clear HF hg hkp
              go_enter Tryd.func17, Tryd.ntmps17
              go_upto_region 1 with fail
              rw [hW.out]
              clear hW B
              go_wp2_with fail
              with_reducible refine (FS.out _ _).mono ?_
              rintro e u ⟨rfl, hu2⟩
              rw [hu2]
              clear hu2
              go_wp2
              go_ret
              exact ⟨_, rfl, by first | exact HX.out | (rw [show wrap64 9223372036854775807 = 9223372036854775807 from by decide]; exact HX.out), LW.out⟩
      · have hkp : c.kp 2 = c.k2 := rfl
        obtain ⟨k0, k1⟩ := i64_of_wf hc.k2
        clear hn hc
        by_cases hr0 : r < 0
        · have HF := hide (hor_fit (c := c) (now := now) (l := 2) (k := c.k2) (T := t - 1) hkp (fun h => by have := hg h; omega))
          by_cases hle : t - 1 ≤ c.k2
          · have HX : Hid (HoP c now 2 0) := HF.out.1 hle
            clear HF hg hkp FS
            go_enter Tryd.func17, Tryd.ntmps17
            go_upto_region 1 with fail
            rw [hW.out]
            clear hW B
            go_wp2
            go_ret
            exact ⟨0, rfl, HX.out, LW.out⟩
          · have hu : IntKind.u64.wrap (IntKind.u64.wrap (t - 1) - IntKind.u64.wrap c.k2) = t - 1 - c.k2 := by rw [IntKind.wrap_u64, IntKind.wrap_u64, IntKind.wrap_u64]; omega
            have HX : Hid (HoP c now 2 (fsC (min (t - 1 - c.k2) 9223372036854775807))) := HF.out.2 hle
            by_cases hm : t - 1 - c.k2 ≤ 9223372036854775807
            · rw [Int.min_eq_left hm] at HX
              clear HF hg hkp
              go_enter Tryd.func17, Tryd.ntmps17
              go_upto_region 1 with fail
              rw [hW.out]
              clear hW B
              go_wp2_with fail
              with_reducible refine (FS.out _ _).mono ?_
              rintro e u ⟨rfl, hu2⟩
              rw [hu2]
              clear hu2
              go_wp2
              go_ret
              exact ⟨_, rfl, HX.out, LW.out⟩
            · rw [Int.min_eq_right (by omega)] at HX
              have hv : IntKind.u64.wrap (t - 1 - IntKind.u64.wrap c.k2) = t - 1 - c.k2 := by rw [IntKind.wrap_u64, IntKind.wrap_u64]; omega
              clear HF hg hkp
              go_enter Tryd.func17, Tryd.ntmps17
              go_upto_region 1 with fail
              rw [hW.out]
              clear hW B
              go_wp2_with fail
              with_reducible refine (FS.out _ _).mono ?_
              rintro e u ⟨rfl, hu2⟩
              rw [hu2]
              clear hu2
              go_wp2
              go_ret
              exact ⟨_, rfl, by first | exact HX.out | (rw [show wrap64 9223372036854775807 = 9223372036854775807 from by decide]; exact HX.out), LW.out⟩
        · have HF := hide (hor_fit (c := c) (now := now) (l := 2) (k := c.k2) (T := t) hkp (fun h => by have := hg h; omega))
          by_cases hle : t ≤ c.k2
          · have HX : Hid (HoP c now 2 0) := HF.out.1 hle
            clear HF hg hkp FS
            go_enter Tryd.func17, Tryd.ntmps17
            go_upto_region 1 with fail
            rw [hW.out]
            clear hW B
            go_wp2
            go_ret
            exact ⟨0, rfl, HX.out, LW.out⟩
          · have hu : IntKind.u64.wrap (IntKind.u64.wrap (t) - IntKind.u64.wrap c.k2) = t - c.k2 := by rw [IntKind.wrap_u64, IntKind.wrap_u64, IntKind.wrap_u64]; omega
            have HX : Hid (HoP c now 2 (fsC (min (t - c.k2) 9223372036854775807))) := HF.out.2 hle
            by_cases hm : t - c.k2 ≤ 9223372036854775807
            · rw [Int.min_eq_left hm] at HX
              clear HF hg hkp
              go_enter Tryd.func17, Tryd.ntmps17
              go_upto_region 1 with fail
              rw [hW.out]
              clear hW B
              go_wp2_with fail
              with_reducible refine (FS.out _ _).mono ?_
              rintro e u ⟨rfl, hu2⟩
              rw [hu2]
              clear hu2
              go_wp2
              go_ret
              exact ⟨_, rfl, HX.out, LW.out⟩
            · rw [Int.min_eq_right (by omega)] at HX
              have hv : IntKind.u64.wrap (t - IntKind.u64.wrap c.k2) = t - c.k2 := by rw [IntKind.wrap_u64, IntKind.wrap_u64]; omega
              clear HF hg hkp
              go_enter Tryd.func17, Tryd.ntmps17
              go_upto_region 1 with fail
              rw [hW.out]
              clear hW B
              go_wp2_with fail
              with_reducible refine (FS.out _ _).mono ?_
              rintro e u ⟨rfl, hu2⟩
              rw [hu2]
              clear hu2
              go_wp2
              go_ret
              exact ⟨_, rfl, by first | exact HX.out | (rw [show wrap64 9223372036854775807 = 9223372036854775807 from by decide]; exact HX.out), LW.out⟩
      · have hkp : c.kp 3 = c.k3 := rfl
        obtain ⟨k0, k1⟩ := i64_of_wf hc.k3
        clear hn hc
        by_cases hr0 : r < 0
        · have HF := hide (hor_fit (c := c) (now := now) (l := 3) (k := c.k3) (T := t - 1) hkp (fun h => by have := hg h; omega))
          by_cases hle : t - 1 ≤ c.k3
          · have HX : Hid (HoP c now 3 0) := HF.out.1 hle
            clear HF hg hkp FS
            go_enter Tryd.func17, Tryd.ntmps17
            go_upto_region 1 with fail
            rw [hW.out]
            clear hW B
            go_wp2
            go_ret
            exact ⟨0, rfl, HX.out, LW.out⟩
          · have hu : IntKind.u64.wrap (IntKind.u64.wrap (t - 1) - IntKind.u64.wrap c.k3) = t - 1 - c.k3 := by rw [IntKind.wrap_u64, IntKind.wrap_u64, IntKind.wrap_u64]; omega
            have HX : Hid (HoP c now 3 (fsC (min (t - 1 - c.k3) 9223372036854775807))) := HF.out.2 hle
            by_cases hm : t - 1 - c.k3 ≤ 9223372036854775807
            · rw [Int.min_eq_left hm] at HX
              clear HF hg hkp
              go_enter Tryd.func17, Tryd.ntmps17
              go_upto_region 1 with fail
              rw [hW.out]
              clear hW B
              go_wp2_with fail
              with_reducible refine (FS.out _ _).mono ?_
              rintro e u ⟨rfl, hu2⟩
              rw [hu2]
              clear hu2
              go_wp2
              go_ret
              exact ⟨_, rfl, HX.out, LW.out⟩
            · rw [Int.min_eq_right (by omega)] at HX
              have hv : IntKind.u64.wrap (t - 1 - IntKind.u64.wrap c.k3) = t - 1 - c.k3 := by rw [IntKind.wrap_u64, IntKind.wrap_u64]; omega
              clear HF hg hkp
              go_enter Tryd.func17, Tryd.ntmps17
              go_upto_region 1 with fail
              rw [hW.out]
              clear hW B
              go_wp2_with fail
              with_reducible refine (FS.out _ _).mono ?_
              rintro e u ⟨rfl, hu2⟩
              rw [hu2]
              clear hu2
              go_wp2
              go_ret
              exact ⟨_, rfl, by first | exact HX.out | (rw [show wrap64 9223372036854775807 = 9223372036854775807 from by decide]; exact HX.out), LW.out⟩
        · have HF := hide (hor_fit (c := c) (now := now) (l := 3) (k := c.k3) (T := t) hkp (fun h => by have := hg h; omega))
          by_cases hle : t ≤ c.k3
          · have HX : Hid (HoP c now 3 0) := HF.out.1 hle
            clear HF hg hkp FS
            go_enter Tryd.func17, Tryd.ntmps17
            go_upto_region 1 with fail
            rw [hW.out]
            clear hW B
            go_wp2
            go_ret
            exact ⟨0, rfl, HX.out, LW.out⟩
          · have hu : IntKind.u64.wrap (IntKind.u64.wrap (t) - IntKind.u64.wrap c.k3) = t - c.k3 := by rw [IntKind.wrap_u64, IntKind.wrap_u64, IntKind.wrap_u64]; omega
            have HX : Hid (HoP c now 3 (fsC (min (t - c.k3) 9223372036854775807))) := HF.out.2 hle
            by_cases hm : t - c.k3 ≤ 9223372036854775807
            · rw [Int.min_eq_left hm] at HX
              clear HF hg hkp
              go_enter Tryd.func17, Tryd.ntmps17
              go_upto_region 1 with fail
              rw [hW.out]
              clear hW B
              go_wp2_with fail
              with_reducible refine (FS.out _ _).mono ?_
              rintro e u ⟨rfl, hu2⟩
              rw [hu2]
              clear hu2
              go_wp2
              go_ret
              exact ⟨_, rfl, HX.out, LW.out⟩
            · rw [Int.min_eq_right (by omega)] at HX
              have hv : IntKind.u64.wrap (t - IntKind.u64.wrap c.k3) = t - c.k3 := by rw [IntKind.wrap_u64, IntKind.wrap_u64]; omega
              clear HF hg hkp
              go_enter Tryd.func17, Tryd.ntmps17
              go_upto_region 1 with fail
              rw [hW.out]
              clear hW B
              go_wp2_with fail
              with_reducible refine (FS.out _ _).mono ?_
              rintro e u ⟨rfl, hu2⟩
              rw [hu2]
              clear hu2
              go_wp2
              go_ret
              exact ⟨_, rfl, by first | exact HX.out | (rw [show wrap64 9223372036854775807 = 9223372036854775807 from by decide]; exact HX.out), LW.out⟩
end Go.Proofs.YtejflcfcbjadhaaDoor
