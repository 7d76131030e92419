/-
  The law that to merge may be turned round and grouped, over what the laws ask of the program's own Merge, Same, Of, Empty.
  Conditions: as PaM, PaS, PaO, PaE say.
-/
import Derived.Test.YtadcaonkmncgoabPairJ
import Derived.Deep.RegionHeld3
import Derived.Deep.DeepCutAuto
namespace Go.Proofs.Ytadcaonkmncgoab
open Go.RowKit
set_option maxRecDepth 20000

set_option maxHeartbeats 8000000 in
theorem turnsP_of (M : PaM) (S : PaS) (O : PaO) (E : PaE) (h0 : Hd) (s0 : Sp) (h1 : Hd) (s1 : Sp) (h2 : Hd) (s2 : Sp) (w : World) (q0 : SeeP w h0 s0) (q1 : SeeP w h1 s1) (q2 : SeeP w h2 s2) :
    Calls Try.prog 5 #[(Value.agg #[.slice (Hd.a h0) (Hd.n h0) (Hd.c h0), .slice (Hd.k h0) (Hd.m h0) (Hd.d h0), .int .u64 (Gz.n s0.g), .int .u64 (Gz.nans s0.g), .int .u64 (Gz.lo s0.g), .int .u64 (Gz.hi s0.g)]), (Value.agg #[.slice (Hd.a h1) (Hd.n h1) (Hd.c h1), .slice (Hd.k h1) (Hd.m h1) (Hd.d h1), .int .u64 (Gz.n s1.g), .int .u64 (Gz.nans s1.g), .int .u64 (Gz.lo s1.g), .int .u64 (Gz.hi s1.g)]), (Value.agg #[.slice (Hd.a h2) (Hd.n h2) (Hd.c h2), .slice (Hd.k h2) (Hd.m h2) (Hd.d h2), .int .u64 (Gz.n s2.g), .int .u64 (Gz.nans s2.g), .int .u64 (Gz.lo s2.g), .int .u64 (Gz.hi s2.g)])] w fun e w' => e = .returned (.bool true) ∧ Below w.heap.size w w' := by
  have AW := hide (awakeP_any O E)
  obtain ⟨k0, hk0⟩ : ∃ k, Hid (w.heap.size = k) := ⟨_, rfl⟩
  obtain ⟨k1, hk1⟩ : ∃ k, Hid (k0 + 1 = k) := ⟨_, rfl⟩
  obtain ⟨k2, hk2⟩ : ∃ k, Hid (k1 + 1 = k) := ⟨_, rfl⟩
  have P0 := hide ((pool_nil w).push q0 28 hk0.out)
  have P1 := hide (P0.out.push (q1.alloc _) 28 (by rw [size_al, hk0.out, hk1.out]))
  have P2 := hide (P1.out.push ((q2.alloc _).alloc _) 28 (by rw [size_al, size_al, hk0.out, hk1.out, hk2.out]))
  simp only [List.nil_append, List.cons_append] at P2
  have SK := hide (fun W h s (q : SeeP W h s) => sketch_any h s W q)
  have CA := hide (fun W (q : SeeP W h0 s0) => refpchk_any h0 s0 W q)
  have CB := hide (fun W (q : SeeP W h1 s1) => refpchk_any h1 s1 W q)
  have CC := hide (fun W (q : SeeP W h2 s2) => refpchk_any h2 s2 W q)
  have OK0 := hide (fun c => ok_of (s := s0) q0 c)
  have OK1 := hide (fun c => ok_of (s := s1) q1 c)
  have OK2 := hide (fun c => ok_of (s := s2) q2 c)
  clear q0 q1 q2 P0 P1 O E
  go_enter Try.func5, Try.ntmps5
  go_upto_region 1 with fail
  generalize (((w.alloc (.cells #[.slice h0.a h0.n h0.c, .slice h0.k h0.m h0.d, .int .u64 s0.g.n, .int .u64 s0.g.nans, .int .u64 s0.g.lo, .int .u64 s0.g.hi] 28)).alloc (.cells #[.slice h1.a h1.n h1.c, .slice h1.k h1.m h1.d, .int .u64 s1.g.n, .int .u64 s1.g.nans, .int .u64 s1.g.lo, .int .u64 s1.g.hi] 28)).alloc (.cells #[.slice h2.a h2.n h2.c, .slice h2.k h2.m h2.d, .int .u64 s2.g.n, .int .u64 s2.g.nans, .int .u64 s2.g.lo, .int .u64 s2.g.hi] 28)) = v0 at P2 ⊢
  rw [hk0.out, hk1.out, hk2.out]
  clear hk0 hk1 hk2
  obtain ⟨c0, c1, c2, c3, c4, c5⟩ := P2.out.at 0 rfl
  cases hc0 : chkP s0
  · rw [hc0] at CA
    go_wp2_with fail
    with_reducible refine (CA.out _ (P2.out.sees 0 rfl)).mono ?_
    rintro e v1 ⟨rfl, b⟩
    have P3 := hide (P2.out.below b)
    clear b c0 c1 c2 c3 c4 c5 P2
    go_wp2_with fail
    with_reducible refine (AW.out _).mono ?_
    rintro e u ⟨rfl, b⟩
    have T := hide (P3.out.below b)
    clear b
    go_wp2
    go_ret
    exact ⟨rfl, T.out.low⟩
  rw [hc0] at CA
  go_wp2_with fail
  with_reducible refine (CA.out _ (P2.out.sees 0 rfl)).mono ?_
  rintro e v1 ⟨rfl, b⟩
  have P3 := hide (P2.out.below b)
  clear b c0 c1 c2 c3 c4 c5 P2
  obtain ⟨c0, c1, c2, c3, c4, c5⟩ := P3.out.at 1 rfl
  cases hc1 : chkP s1
  · rw [hc1] at CB
    go_wp2_with fail
    with_reducible refine (CB.out _ (P3.out.sees 1 rfl)).mono ?_
    rintro e v2 ⟨rfl, b⟩
    have P4 := hide (P3.out.below b)
    clear b c0 c1 c2 c3 c4 c5 P3
    go_wp2_with fail
    with_reducible refine (AW.out _).mono ?_
    rintro e u ⟨rfl, b⟩
    have T := hide (P4.out.below b)
    clear b
    go_wp2
    go_ret
    exact ⟨rfl, T.out.low⟩
  rw [hc1] at CB
  go_wp2_with fail
  with_reducible refine (CB.out _ (P3.out.sees 1 rfl)).mono ?_
  rintro e v2 ⟨rfl, b⟩
  have P4 := hide (P3.out.below b)
  clear b c0 c1 c2 c3 c4 c5 P3
  obtain ⟨c0, c1, c2, c3, c4, c5⟩ := P4.out.at 2 rfl
  cases hc2 : chkP s2
  · rw [hc2] at CC
    go_wp2_with fail
    with_reducible refine (CC.out _ (P4.out.sees 2 rfl)).mono ?_
    rintro e v3 ⟨rfl, b⟩
    have P5 := hide (P4.out.below b)
    clear b c0 c1 c2 c3 c4 c5 P4
    go_wp2_with fail
    with_reducible refine (AW.out _).mono ?_
    rintro e u ⟨rfl, b⟩
    have T := hide (P5.out.below b)
    clear b
    go_wp2
    go_ret
    exact ⟨rfl, T.out.low⟩
  rw [hc2] at CC
  go_wp2_with fail
  with_reducible refine (CC.out _ (P4.out.sees 2 rfl)).mono ?_
  rintro e v3 ⟨rfl, b⟩
  have P5 := hide (P4.out.below b)
  clear b c0 c1 c2 c3 c4 c5 P4
  have o0 := OK0.out hc0
  have o1 := OK1.out hc1
  have o2 := OK2.out hc2
  obtain ⟨x, hx⟩ : ∃ x, mergeP s0 s1 = x := ⟨_, rfl⟩
  obtain ⟨z, hz⟩ : ∃ z, mergeP s1 s2 = z := ⟨_, rfl⟩
  obtain ⟨l, hl⟩ : ∃ l, mergeP x s2 = l := ⟨_, rfl⟩
  have ox : Ok x := hx ▸ o0.merge o1
  have oz : Ok z := hz ▸ o1.merge o2
  have M1 := hide (merge_pool M o0 o1 hx)
  have M2 := hide (merge_pool M o1 o0 ((mergeP_turn o1 o0).trans hx))
  have M3 := hide (merge_pool M o1 o2 hz)
  have M4 := hide (merge_pool M ox o2 hl)
  have M5 := hide (merge_pool M o0 oz (show mergeP s0 z = l by rw [← hz, ← mergeP_group o0 o1 o2, hx, hl]))
  have SX := hide (fun W g g' (q : SeeP W g x) (q' : SeeP W g' x) => S.same g x g' x W q q')
  have SL := hide (fun W g g' (q : SeeP W g l) (q' : SeeP W g' l) => S.same g l g' l W q q')
  rw [show decide (x = x) = true from decide_eq_true rfl] at SX
  rw [show decide (l = l) = true from decide_eq_true rfl] at SL
  clear hc0 hc1 hc2 OK0 OK1 OK2 o0 o1 o2 hx hz hl ox oz CA CB CC M S
  go_upto_region 3 with fail
  go_cut [7, 8] (fun p0 p1 wx => ∃ (kx : Nat) (hx : Hd), p0 = .pointer (some ⟨kx, 0, none⟩) ∧ p1 = .int .i64 0 ∧ Hid (Pool w wx ([(k0, h0, s0), (k1, h1, s1), (k2, h2, s2)] ++ [(kx, hx, x)])))
  case first =>
    have PD := hide P5.out.drew
    have PX := hide P5.out
    have S0 : Hid (((World.cell? v3.drew ⟨k0, 0, none⟩ = some (.slice (Hd.a h0) (Hd.n h0) (Hd.c h0))) ∧ (World.cell? v3.drew ⟨k0, 1, none⟩ = some (.slice (Hd.k h0) (Hd.m h0) (Hd.d h0))) ∧ (World.cell? v3.drew ⟨k0, 2, none⟩ = some (.int .u64 (Gz.n s0.g))) ∧ (World.cell? v3.drew ⟨k0, 3, none⟩ = some (.int .u64 (Gz.nans s0.g))) ∧ (World.cell? v3.drew ⟨k0, 4, none⟩ = some (.int .u64 (Gz.lo s0.g))) ∧ (World.cell? v3.drew ⟨k0, 5, none⟩ = some (.int .u64 (Gz.hi s0.g)))) ∧ ((World.cell? v3.drew ⟨k1, 0, none⟩ = some (.slice (Hd.a h1) (Hd.n h1) (Hd.c h1))) ∧ (World.cell? v3.drew ⟨k1, 1, none⟩ = some (.slice (Hd.k h1) (Hd.m h1) (Hd.d h1))) ∧ (World.cell? v3.drew ⟨k1, 2, none⟩ = some (.int .u64 (Gz.n s1.g))) ∧ (World.cell? v3.drew ⟨k1, 3, none⟩ = some (.int .u64 (Gz.nans s1.g))) ∧ (World.cell? v3.drew ⟨k1, 4, none⟩ = some (.int .u64 (Gz.lo s1.g))) ∧ (World.cell? v3.drew ⟨k1, 5, none⟩ = some (.int .u64 (Gz.hi s1.g)))) ∧ Hid (Pool w v3.drew [(k0, h0, s0), (k1, h1, s1), (k2, h2, s2)])) := ⟨PD.out.at 0 rfl, PD.out.at 1 rfl, PD⟩
    go_region_held3 (fun w' => ((World.cell? w' ⟨k0, 0, none⟩ = some (.slice (Hd.a h0) (Hd.n h0) (Hd.c h0))) ∧ (World.cell? w' ⟨k0, 1, none⟩ = some (.slice (Hd.k h0) (Hd.m h0) (Hd.d h0))) ∧ (World.cell? w' ⟨k0, 2, none⟩ = some (.int .u64 (Gz.n s0.g))) ∧ (World.cell? w' ⟨k0, 3, none⟩ = some (.int .u64 (Gz.nans s0.g))) ∧ (World.cell? w' ⟨k0, 4, none⟩ = some (.int .u64 (Gz.lo s0.g))) ∧ (World.cell? w' ⟨k0, 5, none⟩ = some (.int .u64 (Gz.hi s0.g)))) ∧ ((World.cell? w' ⟨k1, 0, none⟩ = some (.slice (Hd.a h1) (Hd.n h1) (Hd.c h1))) ∧ (World.cell? w' ⟨k1, 1, none⟩ = some (.slice (Hd.k h1) (Hd.m h1) (Hd.d h1))) ∧ (World.cell? w' ⟨k1, 2, none⟩ = some (.int .u64 (Gz.n s1.g))) ∧ (World.cell? w' ⟨k1, 3, none⟩ = some (.int .u64 (Gz.nans s1.g))) ∧ (World.cell? w' ⟨k1, 4, none⟩ = some (.int .u64 (Gz.lo s1.g))) ∧ (World.cell? w' ⟨k1, 5, none⟩ = some (.int .u64 (Gz.hi s1.g)))) ∧ Hid (Pool w w' [(k0, h0, s0), (k1, h1, s1), (k2, h2, s2)])) (first | with_reducible exact keepZ 0 1 rfl rfl AZ.out _ _ _ _ _ _ | with_reducible exact S0.out | with_reducible exact keepL2 0 1 rfl rfl (by assumption) (by assumption) | with_reducible exact keepA 0 1 rfl rfl T3.out _ | with_reducible exact keepL2 0 1 rfl rfl ((Below.refl _ _).alloc (Nat.le_refl _) _) (by assumption)) (first
      | (go_at_call 8; with_reducible refine (SK.out _ _ _ (PD.out.sees 0 rfl)).mono ?_; rintro e u1 ⟨g1, rfl, q1, b1⟩; have Q1 := hide q1.see; have T1 := hide (PD.out.below b1))
      | (go_at_call 8; with_reducible refine (SK.out _ _ _ ((PX.out.alloc _).drew.sees 0 rfl)).mono ?_; rintro e u1 ⟨g1, rfl, q1, b1⟩; have Q1 := hide q1.see; have T1 := hide ((PX.out.alloc _).drew.below b1); have AZ := hide ((Zb.newd PX.out 28).below b1))
      | (go_at_call 8; with_reducible refine (SK.out _ _ _ (T1.out.sees 1 rfl)).mono ?_; rintro e u2 ⟨g2, rfl, q2, b2⟩; have Q2 := hide q2.see; have T2 := hide (T1.out.below b2); have Q1' := hide (Q1.out.below b2 (Nat.le_refl _)); (try (replace AZ := hide (AZ.out.below b2))))
      | (go_at_call 8; with_reducible refine (SK.out _ _ _ ((T1.out.alloc _).sees 1 rfl)).mono ?_; rintro e u2 ⟨g2, rfl, q2, b2⟩; have Q2 := hide q2.see; have T2 := hide ((T1.out.alloc _).below b2); have Q1' := hide ((Q1.out.alloc _).below b2 (Nat.le_refl _)); have AZ := hide ((Zb.new T1.out 28).below b2))
      | (go_at_call 9; with_reducible refine (M1.out _ _ _ Q1'.out Q2.out).mono ?_; rintro e u3 ⟨g3, rfl, q3, b3⟩; have Q3 := hide q3; have T3 := hide (T2.out.below b3); (try (have ZL := hide AZ.out.box.lt)); (try (replace AZ := hide (AZ.out.below b3))); (try (obtain ⟨_, ⟨y0, y1, y2, y3, y4, y5⟩, yf⟩ := AZ.out.box; have f0 := yf 0; have f1 := yf 1; have f2 := yf 2; have f3 := yf 3; have f4 := yf 4; have f5 := yf 5; clear yf; dsimp only [hd0, g0] at y0 y1 y2 y3 y4 y5)))
      | (go_at_call 9; with_reducible refine (M1.out _ _ _ (Q1'.out.alloc _) (Q2.out.alloc _)).mono ?_; rintro e u3 ⟨g3, rfl, q3, b3⟩; have Q3 := hide q3; have T3 := hide ((T2.out.alloc _).below b3); have ZL := hide (Zb.new T2.out 28).box.lt; have AZ := hide ((Zb.new T2.out 28).below b3); (try (obtain ⟨_, ⟨y0, y1, y2, y3, y4, y5⟩, yf⟩ := AZ.out.box; have f0 := yf 0; have f1 := yf 1; have f2 := yf 2; have f3 := yf 3; have f4 := yf 4; have f5 := yf 5; clear yf; dsimp only [hd0, g0] at y0 y1 y2 y3 y4 y5))))
    all_goals
      go_wp2_with fail
      go_meet
      case rel => first | with_reducible exact ⟨_, g3, rfl, rfl, hide (T3.out.push Q3.out.see 28 rfl)⟩ | with_reducible exact ⟨_, g3, rfl, rfl, hide (AZ.out.fin' Q3.out ZL.out)⟩
  case rest =>
    obtain ⟨kx, hx, rfl, rfl, P6⟩ := hcut
    simp only [List.cons_append, List.nil_append] at P6
    clear P5
    go_upto_region 4 with fail
    go_cut [9, 10] (fun p0 p1 wx => ∃ (ky : Nat) (hy : Hd), p0 = .pointer (some ⟨ky, 0, none⟩) ∧ p1 = .int .i64 0 ∧ Hid (Pool w wx ([(k0, h0, s0), (k1, h1, s1), (k2, h2, s2), (kx, hx, x)] ++ [(ky, hy, x)])))
    case first =>
      have PD := hide P6.out.drew
      have PX := hide P6.out
      have S0 : Hid (((World.cell? wc.drew ⟨k1, 0, none⟩ = some (.slice (Hd.a h1) (Hd.n h1) (Hd.c h1))) ∧ (World.cell? wc.drew ⟨k1, 1, none⟩ = some (.slice (Hd.k h1) (Hd.m h1) (Hd.d h1))) ∧ (World.cell? wc.drew ⟨k1, 2, none⟩ = some (.int .u64 (Gz.n s1.g))) ∧ (World.cell? wc.drew ⟨k1, 3, none⟩ = some (.int .u64 (Gz.nans s1.g))) ∧ (World.cell? wc.drew ⟨k1, 4, none⟩ = some (.int .u64 (Gz.lo s1.g))) ∧ (World.cell? wc.drew ⟨k1, 5, none⟩ = some (.int .u64 (Gz.hi s1.g)))) ∧ ((World.cell? wc.drew ⟨k0, 0, none⟩ = some (.slice (Hd.a h0) (Hd.n h0) (Hd.c h0))) ∧ (World.cell? wc.drew ⟨k0, 1, none⟩ = some (.slice (Hd.k h0) (Hd.m h0) (Hd.d h0))) ∧ (World.cell? wc.drew ⟨k0, 2, none⟩ = some (.int .u64 (Gz.n s0.g))) ∧ (World.cell? wc.drew ⟨k0, 3, none⟩ = some (.int .u64 (Gz.nans s0.g))) ∧ (World.cell? wc.drew ⟨k0, 4, none⟩ = some (.int .u64 (Gz.lo s0.g))) ∧ (World.cell? wc.drew ⟨k0, 5, none⟩ = some (.int .u64 (Gz.hi s0.g)))) ∧ Hid (Pool w wc.drew [(k0, h0, s0), (k1, h1, s1), (k2, h2, s2), (kx, hx, x)])) := ⟨PD.out.at 1 rfl, PD.out.at 0 rfl, PD⟩
      go_region_held3 (fun w' => ((World.cell? w' ⟨k1, 0, none⟩ = some (.slice (Hd.a h1) (Hd.n h1) (Hd.c h1))) ∧ (World.cell? w' ⟨k1, 1, none⟩ = some (.slice (Hd.k h1) (Hd.m h1) (Hd.d h1))) ∧ (World.cell? w' ⟨k1, 2, none⟩ = some (.int .u64 (Gz.n s1.g))) ∧ (World.cell? w' ⟨k1, 3, none⟩ = some (.int .u64 (Gz.nans s1.g))) ∧ (World.cell? w' ⟨k1, 4, none⟩ = some (.int .u64 (Gz.lo s1.g))) ∧ (World.cell? w' ⟨k1, 5, none⟩ = some (.int .u64 (Gz.hi s1.g)))) ∧ ((World.cell? w' ⟨k0, 0, none⟩ = some (.slice (Hd.a h0) (Hd.n h0) (Hd.c h0))) ∧ (World.cell? w' ⟨k0, 1, none⟩ = some (.slice (Hd.k h0) (Hd.m h0) (Hd.d h0))) ∧ (World.cell? w' ⟨k0, 2, none⟩ = some (.int .u64 (Gz.n s0.g))) ∧ (World.cell? w' ⟨k0, 3, none⟩ = some (.int .u64 (Gz.nans s0.g))) ∧ (World.cell? w' ⟨k0, 4, none⟩ = some (.int .u64 (Gz.lo s0.g))) ∧ (World.cell? w' ⟨k0, 5, none⟩ = some (.int .u64 (Gz.hi s0.g)))) ∧ Hid (Pool w w' [(k0, h0, s0), (k1, h1, s1), (k2, h2, s2), (kx, hx, x)])) (first | with_reducible exact keepZ 1 0 rfl rfl AZ.out _ _ _ _ _ _ | with_reducible exact S0.out | with_reducible exact keepL2 1 0 rfl rfl (by assumption) (by assumption) | with_reducible exact keepA 1 0 rfl rfl T3.out _ | with_reducible exact keepL2 1 0 rfl rfl ((Below.refl _ _).alloc (Nat.le_refl _) _) (by assumption)) (first
        | (go_at_call 8; with_reducible refine (SK.out _ _ _ (PD.out.sees 1 rfl)).mono ?_; rintro e u1 ⟨g1, rfl, q1, b1⟩; have Q1 := hide q1.see; have T1 := hide (PD.out.below b1))
        | (go_at_call 8; with_reducible refine (SK.out _ _ _ ((PX.out.alloc _).drew.sees 1 rfl)).mono ?_; rintro e u1 ⟨g1, rfl, q1, b1⟩; have Q1 := hide q1.see; have T1 := hide ((PX.out.alloc _).drew.below b1); have AZ := hide ((Zb.newd PX.out 28).below b1))
        | (go_at_call 8; with_reducible refine (SK.out _ _ _ (T1.out.sees 0 rfl)).mono ?_; rintro e u2 ⟨g2, rfl, q2, b2⟩; have Q2 := hide q2.see; have T2 := hide (T1.out.below b2); have Q1' := hide (Q1.out.below b2 (Nat.le_refl _)); (try (replace AZ := hide (AZ.out.below b2))))
        | (go_at_call 8; with_reducible refine (SK.out _ _ _ ((T1.out.alloc _).sees 0 rfl)).mono ?_; rintro e u2 ⟨g2, rfl, q2, b2⟩; have Q2 := hide q2.see; have T2 := hide ((T1.out.alloc _).below b2); have Q1' := hide ((Q1.out.alloc _).below b2 (Nat.le_refl _)); have AZ := hide ((Zb.new T1.out 28).below b2))
        | (go_at_call 9; with_reducible refine (M2.out _ _ _ Q1'.out Q2.out).mono ?_; rintro e u3 ⟨g3, rfl, q3, b3⟩; have Q3 := hide q3; have T3 := hide (T2.out.below b3); (try (have ZL := hide AZ.out.box.lt)); (try (replace AZ := hide (AZ.out.below b3))); (try (obtain ⟨_, ⟨y0, y1, y2, y3, y4, y5⟩, yf⟩ := AZ.out.box; have f0 := yf 0; have f1 := yf 1; have f2 := yf 2; have f3 := yf 3; have f4 := yf 4; have f5 := yf 5; clear yf; dsimp only [hd0, g0] at y0 y1 y2 y3 y4 y5)))
        | (go_at_call 9; with_reducible refine (M2.out _ _ _ (Q1'.out.alloc _) (Q2.out.alloc _)).mono ?_; rintro e u3 ⟨g3, rfl, q3, b3⟩; have Q3 := hide q3; have T3 := hide ((T2.out.alloc _).below b3); have ZL := hide (Zb.new T2.out 28).box.lt; have AZ := hide ((Zb.new T2.out 28).below b3); (try (obtain ⟨_, ⟨y0, y1, y2, y3, y4, y5⟩, yf⟩ := AZ.out.box; have f0 := yf 0; have f1 := yf 1; have f2 := yf 2; have f3 := yf 3; have f4 := yf 4; have f5 := yf 5; clear yf; dsimp only [hd0, g0] at y0 y1 y2 y3 y4 y5))))
      all_goals
        go_wp2_with fail
        go_meet
        case rel => first | with_reducible exact ⟨_, g3, rfl, rfl, hide (T3.out.push Q3.out.see 28 rfl)⟩ | with_reducible exact ⟨_, g3, rfl, rfl, hide (AZ.out.fin' Q3.out ZL.out)⟩
    case rest =>
      obtain ⟨ky, hy, rfl, rfl, P7⟩ := hcut
      simp only [List.cons_append, List.nil_append] at P7
      clear P6
      go_upto_region 5 with fail
      go_cut [11, 12] (fun p0 p1 wx => ∃ (kz : Nat) (hz : Hd), p0 = .pointer (some ⟨kz, 0, none⟩) ∧ p1 = .int .i64 0 ∧ Hid (Pool w wx ([(k0, h0, s0), (k1, h1, s1), (k2, h2, s2), (kx, hx, x), (ky, hy, x)] ++ [(kz, hz, z)])))
      case first =>
        have PD := hide P7.out.drew
        have PX := hide P7.out
        have S0 : Hid (((World.cell? wc.drew ⟨k1, 0, none⟩ = some (.slice (Hd.a h1) (Hd.n h1) (Hd.c h1))) ∧ (World.cell? wc.drew ⟨k1, 1, none⟩ = some (.slice (Hd.k h1) (Hd.m h1) (Hd.d h1))) ∧ (World.cell? wc.drew ⟨k1, 2, none⟩ = some (.int .u64 (Gz.n s1.g))) ∧ (World.cell? wc.drew ⟨k1, 3, none⟩ = some (.int .u64 (Gz.nans s1.g))) ∧ (World.cell? wc.drew ⟨k1, 4, none⟩ = some (.int .u64 (Gz.lo s1.g))) ∧ (World.cell? wc.drew ⟨k1, 5, none⟩ = some (.int .u64 (Gz.hi s1.g)))) ∧ ((World.cell? wc.drew ⟨k2, 0, none⟩ = some (.slice (Hd.a h2) (Hd.n h2) (Hd.c h2))) ∧ (World.cell? wc.drew ⟨k2, 1, none⟩ = some (.slice (Hd.k h2) (Hd.m h2) (Hd.d h2))) ∧ (World.cell? wc.drew ⟨k2, 2, none⟩ = some (.int .u64 (Gz.n s2.g))) ∧ (World.cell? wc.drew ⟨k2, 3, none⟩ = some (.int .u64 (Gz.nans s2.g))) ∧ (World.cell? wc.drew ⟨k2, 4, none⟩ = some (.int .u64 (Gz.lo s2.g))) ∧ (World.cell? wc.drew ⟨k2, 5, none⟩ = some (.int .u64 (Gz.hi s2.g)))) ∧ Hid (Pool w wc.drew [(k0, h0, s0), (k1, h1, s1), (k2, h2, s2), (kx, hx, x), (ky, hy, x)])) := ⟨PD.out.at 1 rfl, PD.out.at 2 rfl, PD⟩
        go_region_held3 (fun w' => ((World.cell? w' ⟨k1, 0, none⟩ = some (.slice (Hd.a h1) (Hd.n h1) (Hd.c h1))) ∧ (World.cell? w' ⟨k1, 1, none⟩ = some (.slice (Hd.k h1) (Hd.m h1) (Hd.d h1))) ∧ (World.cell? w' ⟨k1, 2, none⟩ = some (.int .u64 (Gz.n s1.g))) ∧ (World.cell? w' ⟨k1, 3, none⟩ = some (.int .u64 (Gz.nans s1.g))) ∧ (World.cell? w' ⟨k1, 4, none⟩ = some (.int .u64 (Gz.lo s1.g))) ∧ (World.cell? w' ⟨k1, 5, none⟩ = some (.int .u64 (Gz.hi s1.g)))) ∧ ((World.cell? w' ⟨k2, 0, none⟩ = some (.slice (Hd.a h2) (Hd.n h2) (Hd.c h2))) ∧ (World.cell? w' ⟨k2, 1, none⟩ = some (.slice (Hd.k h2) (Hd.m h2) (Hd.d h2))) ∧ (World.cell? w' ⟨k2, 2, none⟩ = some (.int .u64 (Gz.n s2.g))) ∧ (World.cell? w' ⟨k2, 3, none⟩ = some (.int .u64 (Gz.nans s2.g))) ∧ (World.cell? w' ⟨k2, 4, none⟩ = some (.int .u64 (Gz.lo s2.g))) ∧ (World.cell? w' ⟨k2, 5, none⟩ = some (.int .u64 (Gz.hi s2.g)))) ∧ Hid (Pool w w' [(k0, h0, s0), (k1, h1, s1), (k2, h2, s2), (kx, hx, x), (ky, hy, x)])) (first | with_reducible exact keepZ 1 2 rfl rfl AZ.out _ _ _ _ _ _ | with_reducible exact S0.out | with_reducible exact keepL2 1 2 rfl rfl (by assumption) (by assumption) | with_reducible exact keepA 1 2 rfl rfl T3.out _ | with_reducible exact keepL2 1 2 rfl rfl ((Below.refl _ _).alloc (Nat.le_refl _) _) (by assumption)) (first
          | (go_at_call 8; with_reducible refine (SK.out _ _ _ (PD.out.sees 1 rfl)).mono ?_; rintro e u1 ⟨g1, rfl, q1, b1⟩; have Q1 := hide q1.see; have T1 := hide (PD.out.below b1))
          | (go_at_call 8; with_reducible refine (SK.out _ _ _ ((PX.out.alloc _).drew.sees 1 rfl)).mono ?_; rintro e u1 ⟨g1, rfl, q1, b1⟩; have Q1 := hide q1.see; have T1 := hide ((PX.out.alloc _).drew.below b1); have AZ := hide ((Zb.newd PX.out 28).below b1))
          | (go_at_call 8; with_reducible refine (SK.out _ _ _ (T1.out.sees 2 rfl)).mono ?_; rintro e u2 ⟨g2, rfl, q2, b2⟩; have Q2 := hide q2.see; have T2 := hide (T1.out.below b2); have Q1' := hide (Q1.out.below b2 (Nat.le_refl _)); (try (replace AZ := hide (AZ.out.below b2))))
          | (go_at_call 8; with_reducible refine (SK.out _ _ _ ((T1.out.alloc _).sees 2 rfl)).mono ?_; rintro e u2 ⟨g2, rfl, q2, b2⟩; have Q2 := hide q2.see; have T2 := hide ((T1.out.alloc _).below b2); have Q1' := hide ((Q1.out.alloc _).below b2 (Nat.le_refl _)); have AZ := hide ((Zb.new T1.out 28).below b2))
          | (go_at_call 9; with_reducible refine (M3.out _ _ _ Q1'.out Q2.out).mono ?_; rintro e u3 ⟨g3, rfl, q3, b3⟩; have Q3 := hide q3; have T3 := hide (T2.out.below b3); (try (have ZL := hide AZ.out.box.lt)); (try (replace AZ := hide (AZ.out.below b3))); (try (obtain ⟨_, ⟨y0, y1, y2, y3, y4, y5⟩, yf⟩ := AZ.out.box; have f0 := yf 0; have f1 := yf 1; have f2 := yf 2; have f3 := yf 3; have f4 := yf 4; have f5 := yf 5; clear yf; dsimp only [hd0, g0] at y0 y1 y2 y3 y4 y5)))
          | (go_at_call 9; with_reducible refine (M3.out _ _ _ (Q1'.out.alloc _) (Q2.out.alloc _)).mono ?_; rintro e u3 ⟨g3, rfl, q3, b3⟩; have Q3 := hide q3; have T3 := hide ((T2.out.alloc _).below b3); have ZL := hide (Zb.new T2.out 28).box.lt; have AZ := hide ((Zb.new T2.out 28).below b3); (try (obtain ⟨_, ⟨y0, y1, y2, y3, y4, y5⟩, yf⟩ := AZ.out.box; have f0 := yf 0; have f1 := yf 1; have f2 := yf 2; have f3 := yf 3; have f4 := yf 4; have f5 := yf 5; clear yf; dsimp only [hd0, g0] at y0 y1 y2 y3 y4 y5))))
        all_goals
          go_wp2_with fail
          go_meet
          case rel => first | with_reducible exact ⟨_, g3, rfl, rfl, hide (T3.out.push Q3.out.see 28 rfl)⟩ | with_reducible exact ⟨_, g3, rfl, rfl, hide (AZ.out.fin' Q3.out ZL.out)⟩
      case rest =>
        obtain ⟨kz, hz, rfl, rfl, P8⟩ := hcut
        simp only [List.cons_append, List.nil_append] at P8
        clear P7
        go_upto_region 6 with fail
        go_cut [13, 14] (fun p0 p1 wx => ∃ (kl : Nat) (hl : Hd), p0 = .pointer (some ⟨kl, 0, none⟩) ∧ p1 = .int .i64 0 ∧ Hid (Pool w wx ([(k0, h0, s0), (k1, h1, s1), (k2, h2, s2), (kx, hx, x), (ky, hy, x), (kz, hz, z)] ++ [(kl, hl, l)])))
        case first =>
          have PD := hide P8.out.drew
          have PX := hide P8.out
          have S0 : Hid (((World.cell? wc.drew ⟨kx, 0, none⟩ = some (.slice (Hd.a hx) (Hd.n hx) (Hd.c hx))) ∧ (World.cell? wc.drew ⟨kx, 1, none⟩ = some (.slice (Hd.k hx) (Hd.m hx) (Hd.d hx))) ∧ (World.cell? wc.drew ⟨kx, 2, none⟩ = some (.int .u64 (Gz.n x.g))) ∧ (World.cell? wc.drew ⟨kx, 3, none⟩ = some (.int .u64 (Gz.nans x.g))) ∧ (World.cell? wc.drew ⟨kx, 4, none⟩ = some (.int .u64 (Gz.lo x.g))) ∧ (World.cell? wc.drew ⟨kx, 5, none⟩ = some (.int .u64 (Gz.hi x.g)))) ∧ ((World.cell? wc.drew ⟨k2, 0, none⟩ = some (.slice (Hd.a h2) (Hd.n h2) (Hd.c h2))) ∧ (World.cell? wc.drew ⟨k2, 1, none⟩ = some (.slice (Hd.k h2) (Hd.m h2) (Hd.d h2))) ∧ (World.cell? wc.drew ⟨k2, 2, none⟩ = some (.int .u64 (Gz.n s2.g))) ∧ (World.cell? wc.drew ⟨k2, 3, none⟩ = some (.int .u64 (Gz.nans s2.g))) ∧ (World.cell? wc.drew ⟨k2, 4, none⟩ = some (.int .u64 (Gz.lo s2.g))) ∧ (World.cell? wc.drew ⟨k2, 5, none⟩ = some (.int .u64 (Gz.hi s2.g)))) ∧ Hid (Pool w wc.drew [(k0, h0, s0), (k1, h1, s1), (k2, h2, s2), (kx, hx, x), (ky, hy, x), (kz, hz, z)])) := ⟨PD.out.at 3 rfl, PD.out.at 2 rfl, PD⟩
          go_region_held3 (fun w' => ((World.cell? w' ⟨kx, 0, none⟩ = some (.slice (Hd.a hx) (Hd.n hx) (Hd.c hx))) ∧ (World.cell? w' ⟨kx, 1, none⟩ = some (.slice (Hd.k hx) (Hd.m hx) (Hd.d hx))) ∧ (World.cell? w' ⟨kx, 2, none⟩ = some (.int .u64 (Gz.n x.g))) ∧ (World.cell? w' ⟨kx, 3, none⟩ = some (.int .u64 (Gz.nans x.g))) ∧ (World.cell? w' ⟨kx, 4, none⟩ = some (.int .u64 (Gz.lo x.g))) ∧ (World.cell? w' ⟨kx, 5, none⟩ = some (.int .u64 (Gz.hi x.g)))) ∧ ((World.cell? w' ⟨k2, 0, none⟩ = some (.slice (Hd.a h2) (Hd.n h2) (Hd.c h2))) ∧ (World.cell? w' ⟨k2, 1, none⟩ = some (.slice (Hd.k h2) (Hd.m h2) (Hd.d h2))) ∧ (World.cell? w' ⟨k2, 2, none⟩ = some (.int .u64 (Gz.n s2.g))) ∧ (World.cell? w' ⟨k2, 3, none⟩ = some (.int .u64 (Gz.nans s2.g))) ∧ (World.cell? w' ⟨k2, 4, none⟩ = some (.int .u64 (Gz.lo s2.g))) ∧ (World.cell? w' ⟨k2, 5, none⟩ = some (.int .u64 (Gz.hi s2.g)))) ∧ Hid (Pool w w' [(k0, h0, s0), (k1, h1, s1), (k2, h2, s2), (kx, hx, x), (ky, hy, x), (kz, hz, z)])) (first | with_reducible exact keepZ 3 2 rfl rfl AZ.out _ _ _ _ _ _ | with_reducible exact S0.out | with_reducible exact keepL2 3 2 rfl rfl (by assumption) (by assumption) | with_reducible exact keepA 3 2 rfl rfl T3.out _ | with_reducible exact keepL2 3 2 rfl rfl ((Below.refl _ _).alloc (Nat.le_refl _) _) (by assumption)) (first
            | (go_at_call 8; with_reducible refine (SK.out _ _ _ (PD.out.sees 2 rfl)).mono ?_; rintro e u1 ⟨g1, rfl, q1, b1⟩; have Q1 := hide q1.see; have T1 := hide (PD.out.below b1))
            | (go_at_call 8; with_reducible refine (SK.out _ _ _ ((PX.out.alloc _).drew.sees 2 rfl)).mono ?_; rintro e u1 ⟨g1, rfl, q1, b1⟩; have Q1 := hide q1.see; have T1 := hide ((PX.out.alloc _).drew.below b1); have AZ := hide ((Zb.newd PX.out 28).below b1))
            | (go_at_call 9; with_reducible refine (M4.out _ _ _ (T1.out.sees 3 rfl) Q1.out).mono ?_; rintro e u3 ⟨g3, rfl, q3, b3⟩; have Q3 := hide q3; have T3 := hide (T1.out.below b3); (try (have ZL := hide AZ.out.box.lt)); (try (replace AZ := hide (AZ.out.below b3))); (try (obtain ⟨_, ⟨y0, y1, y2, y3, y4, y5⟩, yf⟩ := AZ.out.box; have f0 := yf 0; have f1 := yf 1; have f2 := yf 2; have f3 := yf 3; have f4 := yf 4; have f5 := yf 5; clear yf; dsimp only [hd0, g0] at y0 y1 y2 y3 y4 y5)))
            | (go_at_call 9; with_reducible refine (M4.out _ _ _ ((T1.out.alloc _).sees 3 rfl) (Q1.out.alloc _)).mono ?_; rintro e u3 ⟨g3, rfl, q3, b3⟩; have Q3 := hide q3; have T3 := hide ((T1.out.alloc _).below b3); have ZL := hide (Zb.new T1.out 28).box.lt; have AZ := hide ((Zb.new T1.out 28).below b3); (try (obtain ⟨_, ⟨y0, y1, y2, y3, y4, y5⟩, yf⟩ := AZ.out.box; have f0 := yf 0; have f1 := yf 1; have f2 := yf 2; have f3 := yf 3; have f4 := yf 4; have f5 := yf 5; clear yf; dsimp only [hd0, g0] at y0 y1 y2 y3 y4 y5))))
          all_goals
            go_wp2_with fail
            go_meet
            case rel => first | with_reducible exact ⟨_, g3, rfl, rfl, hide (T3.out.push Q3.out.see 28 rfl)⟩ | with_reducible exact ⟨_, g3, rfl, rfl, hide (AZ.out.fin' Q3.out ZL.out)⟩
        case rest =>
          obtain ⟨kl, hl, rfl, rfl, P9⟩ := hcut
          simp only [List.cons_append, List.nil_append] at P9
          clear P8
          go_upto_region 7 with fail
          go_cut [15, 16] (fun p0 p1 wx => ∃ (kr : Nat) (hr : Hd), p0 = .pointer (some ⟨kr, 0, none⟩) ∧ p1 = .int .i64 0 ∧ Hid (Pool w wx ([(k0, h0, s0), (k1, h1, s1), (k2, h2, s2), (kx, hx, x), (ky, hy, x), (kz, hz, z), (kl, hl, l)] ++ [(kr, hr, l)])))
          case first =>
            have PD := hide P9.out.drew
            have PX := hide P9.out
            have S0 : Hid (((World.cell? wc.drew ⟨k0, 0, none⟩ = some (.slice (Hd.a h0) (Hd.n h0) (Hd.c h0))) ∧ (World.cell? wc.drew ⟨k0, 1, none⟩ = some (.slice (Hd.k h0) (Hd.m h0) (Hd.d h0))) ∧ (World.cell? wc.drew ⟨k0, 2, none⟩ = some (.int .u64 (Gz.n s0.g))) ∧ (World.cell? wc.drew ⟨k0, 3, none⟩ = some (.int .u64 (Gz.nans s0.g))) ∧ (World.cell? wc.drew ⟨k0, 4, none⟩ = some (.int .u64 (Gz.lo s0.g))) ∧ (World.cell? wc.drew ⟨k0, 5, none⟩ = some (.int .u64 (Gz.hi s0.g)))) ∧ ((World.cell? wc.drew ⟨kz, 0, none⟩ = some (.slice (Hd.a hz) (Hd.n hz) (Hd.c hz))) ∧ (World.cell? wc.drew ⟨kz, 1, none⟩ = some (.slice (Hd.k hz) (Hd.m hz) (Hd.d hz))) ∧ (World.cell? wc.drew ⟨kz, 2, none⟩ = some (.int .u64 (Gz.n z.g))) ∧ (World.cell? wc.drew ⟨kz, 3, none⟩ = some (.int .u64 (Gz.nans z.g))) ∧ (World.cell? wc.drew ⟨kz, 4, none⟩ = some (.int .u64 (Gz.lo z.g))) ∧ (World.cell? wc.drew ⟨kz, 5, none⟩ = some (.int .u64 (Gz.hi z.g)))) ∧ Hid (Pool w wc.drew [(k0, h0, s0), (k1, h1, s1), (k2, h2, s2), (kx, hx, x), (ky, hy, x), (kz, hz, z), (kl, hl, l)])) := ⟨PD.out.at 0 rfl, PD.out.at 5 rfl, PD⟩
            go_region_held3 (fun w' => ((World.cell? w' ⟨k0, 0, none⟩ = some (.slice (Hd.a h0) (Hd.n h0) (Hd.c h0))) ∧ (World.cell? w' ⟨k0, 1, none⟩ = some (.slice (Hd.k h0) (Hd.m h0) (Hd.d h0))) ∧ (World.cell? w' ⟨k0, 2, none⟩ = some (.int .u64 (Gz.n s0.g))) ∧ (World.cell? w' ⟨k0, 3, none⟩ = some (.int .u64 (Gz.nans s0.g))) ∧ (World.cell? w' ⟨k0, 4, none⟩ = some (.int .u64 (Gz.lo s0.g))) ∧ (World.cell? w' ⟨k0, 5, none⟩ = some (.int .u64 (Gz.hi s0.g)))) ∧ ((World.cell? w' ⟨kz, 0, none⟩ = some (.slice (Hd.a hz) (Hd.n hz) (Hd.c hz))) ∧ (World.cell? w' ⟨kz, 1, none⟩ = some (.slice (Hd.k hz) (Hd.m hz) (Hd.d hz))) ∧ (World.cell? w' ⟨kz, 2, none⟩ = some (.int .u64 (Gz.n z.g))) ∧ (World.cell? w' ⟨kz, 3, none⟩ = some (.int .u64 (Gz.nans z.g))) ∧ (World.cell? w' ⟨kz, 4, none⟩ = some (.int .u64 (Gz.lo z.g))) ∧ (World.cell? w' ⟨kz, 5, none⟩ = some (.int .u64 (Gz.hi z.g)))) ∧ Hid (Pool w w' [(k0, h0, s0), (k1, h1, s1), (k2, h2, s2), (kx, hx, x), (ky, hy, x), (kz, hz, z), (kl, hl, l)])) (first | with_reducible exact keepZ 0 5 rfl rfl AZ.out _ _ _ _ _ _ | with_reducible exact S0.out | with_reducible exact keepL2 0 5 rfl rfl (by assumption) (by assumption) | with_reducible exact keepA 0 5 rfl rfl T3.out _ | with_reducible exact keepL2 0 5 rfl rfl ((Below.refl _ _).alloc (Nat.le_refl _) _) (by assumption)) (first
              | (go_at_call 8; with_reducible refine (SK.out _ _ _ (PD.out.sees 0 rfl)).mono ?_; rintro e u1 ⟨g1, rfl, q1, b1⟩; have Q1 := hide q1.see; have T1 := hide (PD.out.below b1))
              | (go_at_call 8; with_reducible refine (SK.out _ _ _ ((PX.out.alloc _).drew.sees 0 rfl)).mono ?_; rintro e u1 ⟨g1, rfl, q1, b1⟩; have Q1 := hide q1.see; have T1 := hide ((PX.out.alloc _).drew.below b1); have AZ := hide ((Zb.newd PX.out 28).below b1))
              | (go_at_call 9; with_reducible refine (M5.out _ _ _ Q1.out (T1.out.sees 5 rfl)).mono ?_; rintro e u3 ⟨g3, rfl, q3, b3⟩; have Q3 := hide q3; have T3 := hide (T1.out.below b3); (try (have ZL := hide AZ.out.box.lt)); (try (replace AZ := hide (AZ.out.below b3))); (try (obtain ⟨_, ⟨y0, y1, y2, y3, y4, y5⟩, yf⟩ := AZ.out.box; have f0 := yf 0; have f1 := yf 1; have f2 := yf 2; have f3 := yf 3; have f4 := yf 4; have f5 := yf 5; clear yf; dsimp only [hd0, g0] at y0 y1 y2 y3 y4 y5)))
              | (go_at_call 9; with_reducible refine (M5.out _ _ _ (Q1.out.alloc _) ((T1.out.alloc _).sees 5 rfl)).mono ?_; rintro e u3 ⟨g3, rfl, q3, b3⟩; have Q3 := hide q3; have T3 := hide ((T1.out.alloc _).below b3); have ZL := hide (Zb.new T1.out 28).box.lt; have AZ := hide ((Zb.new T1.out 28).below b3); (try (obtain ⟨_, ⟨y0, y1, y2, y3, y4, y5⟩, yf⟩ := AZ.out.box; have f0 := yf 0; have f1 := yf 1; have f2 := yf 2; have f3 := yf 3; have f4 := yf 4; have f5 := yf 5; clear yf; dsimp only [hd0, g0] at y0 y1 y2 y3 y4 y5))))
            all_goals
              go_wp2_with fail
              go_meet
              case rel => first | with_reducible exact ⟨_, g3, rfl, rfl, hide (T3.out.push Q3.out.see 28 rfl)⟩ | with_reducible exact ⟨_, g3, rfl, rfl, hide (AZ.out.fin' Q3.out ZL.out)⟩
          case rest =>
            obtain ⟨kr, hr, rfl, rfl, P10⟩ := hcut
            simp only [List.cons_append, List.nil_append] at P10
            clear P9
            obtain ⟨c0, c1, c2, c3, c4, c5⟩ := P10.out.at 3 rfl
            obtain ⟨d0, d1, d2, d3, d4, d5⟩ := P10.out.at 4 rfl
            go_wp2_with fail
            with_reducible refine (SX.out _ _ _ (P10.out.sees 3 rfl) (P10.out.sees 4 rfl)).mono ?_
            rintro e u ⟨rfl, b⟩
            have P11 := hide (P10.out.below b)
            clear b c0 c1 c2 c3 c4 c5 d0 d1 d2 d3 d4 d5 P10
            obtain ⟨c0, c1, c2, c3, c4, c5⟩ := P11.out.at 6 rfl
            obtain ⟨d0, d1, d2, d3, d4, d5⟩ := P11.out.at 7 rfl
            go_wp2_with fail
            with_reducible refine (SL.out _ _ _ (P11.out.sees 6 rfl) (P11.out.sees 7 rfl)).mono ?_
            rintro e u' ⟨rfl, b⟩
            have P12 := hide (P11.out.below b)
            clear b c0 c1 c2 c3 c4 c5 d0 d1 d2 d3 d4 d5 P11
            go_wp2_with fail
            with_reducible refine (AW.out _).mono ?_
            rintro e u ⟨rfl, b⟩
            have T := hide (P12.out.below b)
            clear b
            go_wp2
            go_ret
            exact ⟨rfl, T.out.low⟩
end Go.Proofs.Ytadcaonkmncgoab
