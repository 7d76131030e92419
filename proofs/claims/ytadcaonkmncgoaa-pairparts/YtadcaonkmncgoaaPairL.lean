/-
  The law of two sketches put together, over what the laws ask of the program's own Merge, Of, Empty.
  Conditions: as PaM, PaO, PaE say.
-/
import Derived.Test.YtadcaonkmncgoaaPairP
import Derived.Deep.RegionHeld3
namespace Go.Proofs.Ytadcaonkmncgoaa
open Go.RowKit
set_option maxRecDepth 20000

theorem keep5 {w v v' : World} {k0 k1 k2 k3 k4 : Nat} {h0 h1 h2 h3 h4 : Hd} {s0 s1 s2 s3 s4 : Sp} (hb : Below v.heap.size v v')
    (q : ((World.cell? v ⟨k0, 0, none⟩ = some (.slice (Hd.a h0) (Hd.n h0) (Hd.c h0))) ∧ (World.cell? v ⟨k0, 1, none⟩ = some (.slice (Hd.k h0) (Hd.m h0) (Hd.d h0))) ∧ (World.cell? v ⟨k0, 2, none⟩ = some (.int .u64 (Gz.n s0.g))) ∧ (World.cell? v ⟨k0, 3, none⟩ = some (.int .u64 (Gz.nans s0.g))) ∧ (World.cell? v ⟨k0, 4, none⟩ = some (.int .u64 (Gz.lo s0.g))) ∧ (World.cell? v ⟨k0, 5, none⟩ = some (.int .u64 (Gz.hi s0.g)))) ∧ ((World.cell? v ⟨k1, 0, none⟩ = some (.slice (Hd.a h1) (Hd.n h1) (Hd.c h1))) ∧ (World.cell? v ⟨k1, 1, none⟩ = some (.slice (Hd.k h1) (Hd.m h1) (Hd.d h1))) ∧ (World.cell? v ⟨k1, 2, none⟩ = some (.int .u64 (Gz.n s1.g))) ∧ (World.cell? v ⟨k1, 3, none⟩ = some (.int .u64 (Gz.nans s1.g))) ∧ (World.cell? v ⟨k1, 4, none⟩ = some (.int .u64 (Gz.lo s1.g))) ∧ (World.cell? v ⟨k1, 5, none⟩ = some (.int .u64 (Gz.hi s1.g)))) ∧ ((World.cell? v ⟨k2, 0, none⟩ = some (.slice (Hd.a h2) (Hd.n h2) (Hd.c h2))) ∧ (World.cell? v ⟨k2, 1, none⟩ = some (.slice (Hd.k h2) (Hd.m h2) (Hd.d h2))) ∧ (World.cell? v ⟨k2, 2, none⟩ = some (.int .u64 (Gz.n s2.g))) ∧ (World.cell? v ⟨k2, 3, none⟩ = some (.int .u64 (Gz.nans s2.g))) ∧ (World.cell? v ⟨k2, 4, none⟩ = some (.int .u64 (Gz.lo s2.g))) ∧ (World.cell? v ⟨k2, 5, none⟩ = some (.int .u64 (Gz.hi s2.g)))) ∧ ((World.cell? v ⟨k3, 0, none⟩ = some (.slice (Hd.a h3) (Hd.n h3) (Hd.c h3))) ∧ (World.cell? v ⟨k3, 1, none⟩ = some (.slice (Hd.k h3) (Hd.m h3) (Hd.d h3))) ∧ (World.cell? v ⟨k3, 2, none⟩ = some (.int .u64 (Gz.n s3.g))) ∧ (World.cell? v ⟨k3, 3, none⟩ = some (.int .u64 (Gz.nans s3.g))) ∧ (World.cell? v ⟨k3, 4, none⟩ = some (.int .u64 (Gz.lo s3.g))) ∧ (World.cell? v ⟨k3, 5, none⟩ = some (.int .u64 (Gz.hi s3.g)))) ∧ ((World.cell? v ⟨k4, 0, none⟩ = some (.slice (Hd.a h4) (Hd.n h4) (Hd.c h4))) ∧ (World.cell? v ⟨k4, 1, none⟩ = some (.slice (Hd.k h4) (Hd.m h4) (Hd.d h4))) ∧ (World.cell? v ⟨k4, 2, none⟩ = some (.int .u64 (Gz.n s4.g))) ∧ (World.cell? v ⟨k4, 3, none⟩ = some (.int .u64 (Gz.nans s4.g))) ∧ (World.cell? v ⟨k4, 4, none⟩ = some (.int .u64 (Gz.lo s4.g))) ∧ (World.cell? v ⟨k4, 5, none⟩ = some (.int .u64 (Gz.hi s4.g)))) ∧ Hid (Pool w v [(k0, h0, s0), (k1, h1, s1), (k2, h2, s2), (k3, h3, s3), (k4, h4, s4)])) :
    ((World.cell? v' ⟨k0, 0, none⟩ = some (.slice (Hd.a h0) (Hd.n h0) (Hd.c h0))) ∧ (World.cell? v' ⟨k0, 1, none⟩ = some (.slice (Hd.k h0) (Hd.m h0) (Hd.d h0))) ∧ (World.cell? v' ⟨k0, 2, none⟩ = some (.int .u64 (Gz.n s0.g))) ∧ (World.cell? v' ⟨k0, 3, none⟩ = some (.int .u64 (Gz.nans s0.g))) ∧ (World.cell? v' ⟨k0, 4, none⟩ = some (.int .u64 (Gz.lo s0.g))) ∧ (World.cell? v' ⟨k0, 5, none⟩ = some (.int .u64 (Gz.hi s0.g)))) ∧ ((World.cell? v' ⟨k1, 0, none⟩ = some (.slice (Hd.a h1) (Hd.n h1) (Hd.c h1))) ∧ (World.cell? v' ⟨k1, 1, none⟩ = some (.slice (Hd.k h1) (Hd.m h1) (Hd.d h1))) ∧ (World.cell? v' ⟨k1, 2, none⟩ = some (.int .u64 (Gz.n s1.g))) ∧ (World.cell? v' ⟨k1, 3, none⟩ = some (.int .u64 (Gz.nans s1.g))) ∧ (World.cell? v' ⟨k1, 4, none⟩ = some (.int .u64 (Gz.lo s1.g))) ∧ (World.cell? v' ⟨k1, 5, none⟩ = some (.int .u64 (Gz.hi s1.g)))) ∧ ((World.cell? v' ⟨k2, 0, none⟩ = some (.slice (Hd.a h2) (Hd.n h2) (Hd.c h2))) ∧ (World.cell? v' ⟨k2, 1, none⟩ = some (.slice (Hd.k h2) (Hd.m h2) (Hd.d h2))) ∧ (World.cell? v' ⟨k2, 2, none⟩ = some (.int .u64 (Gz.n s2.g))) ∧ (World.cell? v' ⟨k2, 3, none⟩ = some (.int .u64 (Gz.nans s2.g))) ∧ (World.cell? v' ⟨k2, 4, none⟩ = some (.int .u64 (Gz.lo s2.g))) ∧ (World.cell? v' ⟨k2, 5, none⟩ = some (.int .u64 (Gz.hi s2.g)))) ∧ ((World.cell? v' ⟨k3, 0, none⟩ = some (.slice (Hd.a h3) (Hd.n h3) (Hd.c h3))) ∧ (World.cell? v' ⟨k3, 1, none⟩ = some (.slice (Hd.k h3) (Hd.m h3) (Hd.d h3))) ∧ (World.cell? v' ⟨k3, 2, none⟩ = some (.int .u64 (Gz.n s3.g))) ∧ (World.cell? v' ⟨k3, 3, none⟩ = some (.int .u64 (Gz.nans s3.g))) ∧ (World.cell? v' ⟨k3, 4, none⟩ = some (.int .u64 (Gz.lo s3.g))) ∧ (World.cell? v' ⟨k3, 5, none⟩ = some (.int .u64 (Gz.hi s3.g)))) ∧ ((World.cell? v' ⟨k4, 0, none⟩ = some (.slice (Hd.a h4) (Hd.n h4) (Hd.c h4))) ∧ (World.cell? v' ⟨k4, 1, none⟩ = some (.slice (Hd.k h4) (Hd.m h4) (Hd.d h4))) ∧ (World.cell? v' ⟨k4, 2, none⟩ = some (.int .u64 (Gz.n s4.g))) ∧ (World.cell? v' ⟨k4, 3, none⟩ = some (.int .u64 (Gz.nans s4.g))) ∧ (World.cell? v' ⟨k4, 4, none⟩ = some (.int .u64 (Gz.lo s4.g))) ∧ (World.cell? v' ⟨k4, 5, none⟩ = some (.int .u64 (Gz.hi s4.g)))) ∧ Hid (Pool w v' [(k0, h0, s0), (k1, h1, s1), (k2, h2, s2), (k3, h3, s3), (k4, h4, s4)]) := by
  have p := q.2.2.2.2.2.out.below hb
  exact ⟨p.at 0 rfl, p.at 1 rfl, p.at 2 rfl, p.at 3 rfl, p.at 4 rfl, p⟩

set_option maxHeartbeats 8000000 in
theorem mergesP_of (M : PaM) (O : PaO) (E : PaE) (h0 : Hd) (s0 : Sp) (h1 : Hd) (s1 : Sp) (w : World) (q0 : SeeP w h0 s0) (q1 : SeeP w h1 s1) :
    Calls Try.prog 5 #[(Value.agg #[.slice (Hd.a h0) (Hd.n h0) (Hd.c h0), .slice (Hd.k h0) (Hd.m h0) (Hd.d h0), .int .u64 (Gz.n s0.g), .int .u64 (Gz.nans s0.g), .int .u64 (Gz.lo s0.g), .int .u64 (Gz.hi s0.g)]), (Value.agg #[.slice (Hd.a h1) (Hd.n h1) (Hd.c h1), .slice (Hd.k h1) (Hd.m h1) (Hd.d h1), .int .u64 (Gz.n s1.g), .int .u64 (Gz.nans s1.g), .int .u64 (Gz.lo s1.g), .int .u64 (Gz.hi s1.g)])] w fun e w' => e = .returned (.bool true) ∧ Below w.heap.size w w' := by
  have AW := hide (awakeP_any O E)
  obtain ⟨k0, hk0⟩ : ∃ k, Hid (w.heap.size = k) := ⟨_, rfl⟩
  obtain ⟨k1, hk1⟩ : ∃ k, Hid (k0 + 1 = k) := ⟨_, rfl⟩
  have P0 := hide ((pool_nil w).push q0 30 hk0.out)
  have P1 := hide (P0.out.push (q1.alloc _) 30 (by rw [size_al, hk0.out, hk1.out]))
  simp only [List.nil_append, List.cons_append] at P1
  have SK := hide (fun W h s (q : SeeP W h s) => sketch_any h s W q)
  have CK := hide (fun W h s (q : SeeP W h s) => refpchk_any h s W q)
  have MG := hide (fun W h s h' s' (q : SeeP W h s) (q' : SeeP W h' s') => M.merge h s h' s' W q q')
  clear q0 q1 P0 M O E
  go_enter Try.func5, Try.ntmps5
  go_upto_region 1 with fail
  generalize ((w.alloc (.cells #[.slice h0.a h0.n h0.c, .slice h0.k h0.m h0.d, .int .u64 s0.g.n, .int .u64 s0.g.nans, .int .u64 s0.g.lo, .int .u64 s0.g.hi] 30)).alloc (.cells #[.slice h1.a h1.n h1.c, .slice h1.k h1.m h1.d, .int .u64 s1.g.n, .int .u64 s1.g.nans, .int .u64 s1.g.lo, .int .u64 s1.g.hi] 30)) = v0 at P1 ⊢
  rw [hk0.out, hk1.out]
  clear hk0 hk1
  obtain ⟨c0, c1, c2, c3, c4, c5⟩ := P1.out.at 0 rfl
  go_wp2_with fail
  with_reducible refine (SK.out _ _ _ (P1.out.sees 0 rfl)).mono ?_
  rintro e v1 ⟨h2, rfl, m, b⟩
  have P2 := hide (P1.out.below b)
  have M2 := hide m.see
  clear m b c0 c1 c2 c3 c4 c5 P1
  go_upto_region 2 with fail
  obtain ⟨k2, hk2⟩ : ∃ k, Hid (v1.heap.size = k) := ⟨_, rfl⟩
  have P3 := hide (P2.out.push M2.out 30 hk2.out)
  simp only [List.cons_append, List.nil_append] at P3
  generalize v1.alloc (.cells #[.slice h2.a h2.n h2.c, .slice h2.k h2.m h2.d, .int .u64 s0.g.n, .int .u64 s0.g.nans, .int .u64 s0.g.lo, .int .u64 s0.g.hi] 30) = v2 at P3 ⊢
  rw [hk2.out]
  clear hk2 P2 M2
  obtain ⟨c0, c1, c2, c3, c4, c5⟩ := P3.out.at 1 rfl
  go_wp2_with fail
  with_reducible refine (SK.out _ _ _ (P3.out.sees 1 rfl)).mono ?_
  rintro e v3 ⟨h3, rfl, m, b⟩
  have P4 := hide (P3.out.below b)
  have M4 := hide m.see
  clear m b c0 c1 c2 c3 c4 c5 P3
  go_upto_region 3 with fail
  obtain ⟨k3, hk3⟩ : ∃ k, Hid (v3.heap.size = k) := ⟨_, rfl⟩
  have P5 := hide (P4.out.push M4.out 30 hk3.out)
  simp only [List.cons_append, List.nil_append] at P5
  generalize v3.alloc (.cells #[.slice h3.a h3.n h3.c, .slice h3.k h3.m h3.d, .int .u64 s1.g.n, .int .u64 s1.g.nans, .int .u64 s1.g.lo, .int .u64 s1.g.hi] 30) = v4 at P5 ⊢
  rw [hk3.out]
  clear hk3 P4 M4
  obtain ⟨c0, c1, c2, c3, c4, c5⟩ := P5.out.at 2 rfl
  obtain ⟨d0, d1, d2, d3, d4, d5⟩ := P5.out.at 3 rfl
  go_wp2_with fail
  with_reducible refine (MG.out _ _ _ _ _ (P5.out.sees 2 rfl) (P5.out.sees 3 rfl)).mono ?_
  intro e v5 hm
  obtain ⟨b, hm⟩ := hm
  have P6 := hide (P5.out.below b)
  clear b c0 c1 c2 c3 c4 c5 d0 d1 d2 d3 d4 d5 P5 MG SK
  have CA := hide (fun W (q : SeeP W h0 s0) => CK.out W _ _ q)
  have CB := hide (fun W (q : SeeP W h1 s1) => CK.out W _ _ q)
  by_cases hc : (chkP s0 && chkP s1) = true
  · rw [if_pos hc] at hm
    obtain ⟨h4, rfl, m⟩ := hm
    have M6 := hide m.see
    rw [Bool.and_eq_true] at hc
    rw [hc.1] at CA
    rw [hc.2] at CB
    have RM := hide (fun W (q : SeeP W h0 s0) (q' : SeeP W h1 s1) => refpmerge_any h0 s0 h1 s1 W q q' hc.1 hc.2)
    clear m hc
    go_upto_region 4 with fail
    obtain ⟨k4, hk4⟩ : ∃ k, Hid (v5.heap.size = k) := ⟨_, rfl⟩
    have P7 := hide (P6.out.push M6.out 30 hk4.out)
    simp only [List.cons_append, List.nil_append] at P7
    generalize mergeP s0 s1 = s4 at *
    generalize v5.alloc (.cells #[.slice h4.a h4.n h4.c, .slice h4.k h4.m h4.d, .int .u64 s4.g.n, .int .u64 s4.g.nans, .int .u64 s4.g.lo, .int .u64 s4.g.hi] 30) = v6 at P7 ⊢
    rw [hk4.out]
    clear hk4 P6 M6
    obtain ⟨c0, c1, c2, c3, c4, c5⟩ := P7.out.at 0 rfl
    go_wp2_with fail
    with_reducible refine (CA.out _ (P7.out.sees 0 rfl)).mono ?_
    rintro e v7 ⟨rfl, b⟩
    have P8 := hide (P7.out.below b)
    clear b c0 c1 c2 c3 c4 c5 P7
    obtain ⟨c0, c1, c2, c3, c4, c5⟩ := P8.out.at 1 rfl
    go_wp2_with fail
    with_reducible refine (CB.out _ (P8.out.sees 1 rfl)).mono ?_
    rintro e v8 ⟨rfl, b⟩
    have P9 := hide (P8.out.below b)
    clear b c0 c1 c2 c3 c4 c5 P8
    have SM1 := hide (fun W h5 (q : SeeP W h4 s4) (q' : SeeP W h5 s4) => refpsame_any h4 s4 h5 s4 W q q')
    have SM2 := hide (fun W (q : SeeP W h2 s0) (q' : SeeP W h0 s0) => refpsame_any h2 s0 h0 s0 W q q')
    have SM3 := hide (fun W (q : SeeP W h3 s1) (q' : SeeP W h1 s1) => refpsame_any h3 s1 h1 s1 W q q')
    rw [show decide (s4 = s4) = true from decide_eq_true rfl] at SM1
    rw [show decide (s0 = s0) = true from decide_eq_true rfl] at SM2
    rw [show decide (s1 = s1) = true from decide_eq_true rfl] at SM3
    go_upto_region 6 with fail
    have PD := hide P9.out.drew
    have S0 : Hid (((World.cell? v8.drew ⟨k0, 0, none⟩ = some (.slice (Hd.a h0) (Hd.n h0) (Hd.c h0))) ∧ (World.cell? v8.drew ⟨k0, 1, none⟩ = some (.slice (Hd.k h0) (Hd.m h0) (Hd.d h0))) ∧ (World.cell? v8.drew ⟨k0, 2, none⟩ = some (.int .u64 (Gz.n s0.g))) ∧ (World.cell? v8.drew ⟨k0, 3, none⟩ = some (.int .u64 (Gz.nans s0.g))) ∧ (World.cell? v8.drew ⟨k0, 4, none⟩ = some (.int .u64 (Gz.lo s0.g))) ∧ (World.cell? v8.drew ⟨k0, 5, none⟩ = some (.int .u64 (Gz.hi s0.g)))) ∧ ((World.cell? v8.drew ⟨k1, 0, none⟩ = some (.slice (Hd.a h1) (Hd.n h1) (Hd.c h1))) ∧ (World.cell? v8.drew ⟨k1, 1, none⟩ = some (.slice (Hd.k h1) (Hd.m h1) (Hd.d h1))) ∧ (World.cell? v8.drew ⟨k1, 2, none⟩ = some (.int .u64 (Gz.n s1.g))) ∧ (World.cell? v8.drew ⟨k1, 3, none⟩ = some (.int .u64 (Gz.nans s1.g))) ∧ (World.cell? v8.drew ⟨k1, 4, none⟩ = some (.int .u64 (Gz.lo s1.g))) ∧ (World.cell? v8.drew ⟨k1, 5, none⟩ = some (.int .u64 (Gz.hi s1.g)))) ∧ ((World.cell? v8.drew ⟨k2, 0, none⟩ = some (.slice (Hd.a h2) (Hd.n h2) (Hd.c h2))) ∧ (World.cell? v8.drew ⟨k2, 1, none⟩ = some (.slice (Hd.k h2) (Hd.m h2) (Hd.d h2))) ∧ (World.cell? v8.drew ⟨k2, 2, none⟩ = some (.int .u64 (Gz.n s0.g))) ∧ (World.cell? v8.drew ⟨k2, 3, none⟩ = some (.int .u64 (Gz.nans s0.g))) ∧ (World.cell? v8.drew ⟨k2, 4, none⟩ = some (.int .u64 (Gz.lo s0.g))) ∧ (World.cell? v8.drew ⟨k2, 5, none⟩ = some (.int .u64 (Gz.hi s0.g)))) ∧ ((World.cell? v8.drew ⟨k3, 0, none⟩ = some (.slice (Hd.a h3) (Hd.n h3) (Hd.c h3))) ∧ (World.cell? v8.drew ⟨k3, 1, none⟩ = some (.slice (Hd.k h3) (Hd.m h3) (Hd.d h3))) ∧ (World.cell? v8.drew ⟨k3, 2, none⟩ = some (.int .u64 (Gz.n s1.g))) ∧ (World.cell? v8.drew ⟨k3, 3, none⟩ = some (.int .u64 (Gz.nans s1.g))) ∧ (World.cell? v8.drew ⟨k3, 4, none⟩ = some (.int .u64 (Gz.lo s1.g))) ∧ (World.cell? v8.drew ⟨k3, 5, none⟩ = some (.int .u64 (Gz.hi s1.g)))) ∧ ((World.cell? v8.drew ⟨k4, 0, none⟩ = some (.slice (Hd.a h4) (Hd.n h4) (Hd.c h4))) ∧ (World.cell? v8.drew ⟨k4, 1, none⟩ = some (.slice (Hd.k h4) (Hd.m h4) (Hd.d h4))) ∧ (World.cell? v8.drew ⟨k4, 2, none⟩ = some (.int .u64 (Gz.n s4.g))) ∧ (World.cell? v8.drew ⟨k4, 3, none⟩ = some (.int .u64 (Gz.nans s4.g))) ∧ (World.cell? v8.drew ⟨k4, 4, none⟩ = some (.int .u64 (Gz.lo s4.g))) ∧ (World.cell? v8.drew ⟨k4, 5, none⟩ = some (.int .u64 (Gz.hi s4.g)))) ∧ Hid (Pool w v8.drew [(k0, h0, s0), (k1, h1, s1), (k2, h2, s0), (k3, h3, s1), (k4, h4, s4)])) := ⟨PD.out.at 0 rfl, PD.out.at 1 rfl, PD.out.at 2 rfl, PD.out.at 3 rfl, PD.out.at 4 rfl, PD⟩
    clear P9
    go_region_held3 (fun w' => ((World.cell? w' ⟨k0, 0, none⟩ = some (.slice (Hd.a h0) (Hd.n h0) (Hd.c h0))) ∧ (World.cell? w' ⟨k0, 1, none⟩ = some (.slice (Hd.k h0) (Hd.m h0) (Hd.d h0))) ∧ (World.cell? w' ⟨k0, 2, none⟩ = some (.int .u64 (Gz.n s0.g))) ∧ (World.cell? w' ⟨k0, 3, none⟩ = some (.int .u64 (Gz.nans s0.g))) ∧ (World.cell? w' ⟨k0, 4, none⟩ = some (.int .u64 (Gz.lo s0.g))) ∧ (World.cell? w' ⟨k0, 5, none⟩ = some (.int .u64 (Gz.hi s0.g)))) ∧ ((World.cell? w' ⟨k1, 0, none⟩ = some (.slice (Hd.a h1) (Hd.n h1) (Hd.c h1))) ∧ (World.cell? w' ⟨k1, 1, none⟩ = some (.slice (Hd.k h1) (Hd.m h1) (Hd.d h1))) ∧ (World.cell? w' ⟨k1, 2, none⟩ = some (.int .u64 (Gz.n s1.g))) ∧ (World.cell? w' ⟨k1, 3, none⟩ = some (.int .u64 (Gz.nans s1.g))) ∧ (World.cell? w' ⟨k1, 4, none⟩ = some (.int .u64 (Gz.lo s1.g))) ∧ (World.cell? w' ⟨k1, 5, none⟩ = some (.int .u64 (Gz.hi s1.g)))) ∧ ((World.cell? w' ⟨k2, 0, none⟩ = some (.slice (Hd.a h2) (Hd.n h2) (Hd.c h2))) ∧ (World.cell? w' ⟨k2, 1, none⟩ = some (.slice (Hd.k h2) (Hd.m h2) (Hd.d h2))) ∧ (World.cell? w' ⟨k2, 2, none⟩ = some (.int .u64 (Gz.n s0.g))) ∧ (World.cell? w' ⟨k2, 3, none⟩ = some (.int .u64 (Gz.nans s0.g))) ∧ (World.cell? w' ⟨k2, 4, none⟩ = some (.int .u64 (Gz.lo s0.g))) ∧ (World.cell? w' ⟨k2, 5, none⟩ = some (.int .u64 (Gz.hi s0.g)))) ∧ ((World.cell? w' ⟨k3, 0, none⟩ = some (.slice (Hd.a h3) (Hd.n h3) (Hd.c h3))) ∧ (World.cell? w' ⟨k3, 1, none⟩ = some (.slice (Hd.k h3) (Hd.m h3) (Hd.d h3))) ∧ (World.cell? w' ⟨k3, 2, none⟩ = some (.int .u64 (Gz.n s1.g))) ∧ (World.cell? w' ⟨k3, 3, none⟩ = some (.int .u64 (Gz.nans s1.g))) ∧ (World.cell? w' ⟨k3, 4, none⟩ = some (.int .u64 (Gz.lo s1.g))) ∧ (World.cell? w' ⟨k3, 5, none⟩ = some (.int .u64 (Gz.hi s1.g)))) ∧ ((World.cell? w' ⟨k4, 0, none⟩ = some (.slice (Hd.a h4) (Hd.n h4) (Hd.c h4))) ∧ (World.cell? w' ⟨k4, 1, none⟩ = some (.slice (Hd.k h4) (Hd.m h4) (Hd.d h4))) ∧ (World.cell? w' ⟨k4, 2, none⟩ = some (.int .u64 (Gz.n s4.g))) ∧ (World.cell? w' ⟨k4, 3, none⟩ = some (.int .u64 (Gz.nans s4.g))) ∧ (World.cell? w' ⟨k4, 4, none⟩ = some (.int .u64 (Gz.lo s4.g))) ∧ (World.cell? w' ⟨k4, 5, none⟩ = some (.int .u64 (Gz.hi s4.g)))) ∧ Hid (Pool w w' [(k0, h0, s0), (k1, h1, s1), (k2, h2, s0), (k3, h3, s1), (k4, h4, s4)])) (first | with_reducible exact S0.out | with_reducible exact keep5 (by assumption) (by assumption)) (first
      | (go_at_call 19; with_reducible refine (RM.out _ (PD.out.sees 0 rfl) (PD.out.sees 1 rfl)).mono ?_; rintro e u1 ⟨h5, rfl, q5, b5⟩; have Q5 := hide q5; have T1 := hide (PD.out.below b5))
      | (go_at_call 10; with_reducible refine (SM1.out _ _ (T1.out.sees 4 rfl) Q5.out).mono ?_; rintro e u2 ⟨rfl, b6⟩; have T2 := hide (T1.out.below b6))
      | (go_at_call 10; with_reducible refine (SM2.out _ (T2.out.sees 2 rfl) (T2.out.sees 0 rfl)).mono ?_; rintro e u3 ⟨rfl, b7⟩; have T3 := hide (T2.out.below b7))
      | (go_at_call 10; with_reducible refine (SM3.out _ (T3.out.sees 3 rfl) (T3.out.sees 1 rfl)).mono ?_; rintro e u4 ⟨rfl, b8⟩; have T4 := hide (T3.out.below b8))
      | (go_at_call 8; with_reducible refine (AW.out _).mono ?_; rintro e u5 ⟨rfl, b9⟩; have T5 := hide (T4.out.below b9)))
    go_wp2
    go_ret
    exact ⟨rfl, T5.out.low⟩
  · rw [if_neg hc] at hm
    dsimp only [g0] at hm
    obtain ⟨h4, rfl, m⟩ := hm
    have M6 := hide m.see
    have SM := hide (fun W (q : SeeP W h4 zeroP) => refpsame_any h4 zeroP hd0 zeroP W q (see_zero W))
    rw [show decide (zeroP = zeroP) = true from decide_eq_true rfl] at SM
    dsimp only [zeroP, hd0, g0] at SM
    clear m
    go_upto_region 4 with fail
    obtain ⟨k4, hk4⟩ : ∃ k, Hid (v5.heap.size = k) := ⟨_, rfl⟩
    have P7 := hide (P6.out.push M6.out 30 hk4.out)
    simp only [List.cons_append, List.nil_append] at P7
    dsimp only [zeroP, g0] at P7
    generalize v5.alloc (.cells #[.slice h4.a h4.n h4.c, .slice h4.k h4.m h4.d, .int .u64 0, .int .u64 0, .int .u64 0, .int .u64 0] 30) = v6 at P7 ⊢
    rw [hk4.out]
    clear hk4 P6 M6
    obtain ⟨c0, c1, c2, c3, c4, c5⟩ := P7.out.at 0 rfl
    cases hc0 : chkP s0
    · rw [hc0] at CA
      go_wp2_with fail
      with_reducible refine (CA.out _ (P7.out.sees 0 rfl)).mono ?_
      rintro e v7 ⟨rfl, b⟩
      have P8 := hide (P7.out.below b)
      clear b c0 c1 c2 c3 c4 c5 P7
      obtain ⟨c0, c1, c2, c3, c4, c5⟩ := P8.out.at 4 rfl
      dsimp only at c0 c1 c2 c3 c4 c5
      go_wp2_with fail
      with_reducible refine (SM.out _ (P8.out.sees 4 rfl)).mono ?_
      rintro e v8 ⟨rfl, b⟩
      have P9 := hide (P8.out.below b)
      clear b
      go_wp2_with fail
      with_reducible refine (AW.out _).mono ?_
      rintro e v9 ⟨rfl, b⟩
      have P10 := hide (P9.out.below b)
      clear b
      go_wp2
      go_ret
      exact ⟨rfl, P10.out.low⟩
    · have hc1 : chkP s1 = false := by rw [hc0] at hc; simpa using hc
      rw [hc0] at CA
      rw [hc1] at CB
      clear hc
      go_wp2_with fail
      with_reducible refine (CA.out _ (P7.out.sees 0 rfl)).mono ?_
      rintro e v7 ⟨rfl, b⟩
      have P8 := hide (P7.out.below b)
      clear b c0 c1 c2 c3 c4 c5 P7
      obtain ⟨c0, c1, c2, c3, c4, c5⟩ := P8.out.at 1 rfl
      go_wp2_with fail
      with_reducible refine (CB.out _ (P8.out.sees 1 rfl)).mono ?_
      rintro e v8 ⟨rfl, b⟩
      have P9 := hide (P8.out.below b)
      clear b c0 c1 c2 c3 c4 c5 P8
      obtain ⟨c0, c1, c2, c3, c4, c5⟩ := P9.out.at 4 rfl
      dsimp only at c0 c1 c2 c3 c4 c5
      go_wp2_with fail
      with_reducible refine (SM.out _ (P9.out.sees 4 rfl)).mono ?_
      rintro e v9 ⟨rfl, b⟩
      have P10 := hide (P9.out.below b)
      clear b
      go_wp2_with fail
      with_reducible refine (AW.out _).mono ?_
      rintro e v10 ⟨rfl, b⟩
      have P11 := hide (P10.out.below b)
      clear b
      go_wp2
      go_ret
      exact ⟨rfl, P11.out.low⟩
end Go.Proofs.Ytadcaonkmncgoaa
