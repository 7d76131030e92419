/-
  The law that with nothing a sketch is what it was, over what the laws ask of the program's own Merge, Sum, Same, Of, Empty.
  Conditions: as PaM, PaU, PaS, PaO, PaE say.
-/
import Derived.Test.YtadcaonkmncgoabPairJ
namespace Go.Proofs.Ytadcaonkmncgoab
open Go.RowKit
set_option maxRecDepth 20000

/-- A slice of one sketch, just made. -/
theorem rows_one {v : World} {h : Hd} {s : Sp} (q : SeeP v h s) (t : TypeId) : RowS (v.alloc (.cells #[.slice h.a h.n h.c, .slice h.k h.m h.d, .int .u64 s.g.n, .int .u64 s.g.nans, .int .u64 s.g.lo, .int .u64 s.g.hi] t)) (some ⟨v.heap.size, 0, none⟩) 1 [(h, s)] := by
  refine ⟨rfl, by decide, fun x hx => by rw [List.mem_singleton.1 hx]; exact q.alloc _, Or.inr ⟨_, _, rfl, ?_⟩⟩
  intro i x hx
  cases i with
  | succ i => simp at hx
  | zero =>
    simp only [List.getElem?_cons_zero, Option.some.injEq] at hx
    subst hx
    exact ⟨by simp [go_sem], by simp [go_sem], by simp [go_sem], by simp [go_sem], by simp [go_sem], by simp [go_sem]⟩

set_option maxHeartbeats 8000000 in
theorem zeroP_of (M : PaM) (U : PaU) (S : PaS) (O : PaO) (E : PaE) (h0 : Hd) (s0 : Sp) (w : World) (q0 : SeeP w h0 s0) :
    Calls Try.prog 4 #[(Value.agg #[.slice (Hd.a h0) (Hd.n h0) (Hd.c h0), .slice (Hd.k h0) (Hd.m h0) (Hd.d h0), .int .u64 (Gz.n s0.g), .int .u64 (Gz.nans s0.g), .int .u64 (Gz.lo s0.g), .int .u64 (Gz.hi s0.g)])] w fun e w' => e = .returned (.bool true) ∧ Below w.heap.size w w' := by
  have AW := hide (awakeP_any O E)
  obtain ⟨k0, hk0⟩ : ∃ k, Hid (w.heap.size = k) := ⟨_, rfl⟩
  have P0 := hide ((pool_nil w).push q0 28 hk0.out)
  simp only [List.nil_append] at P0
  have SK := hide (fun W h s (q : SeeP W h s) => sketch_any h s W q)
  have CA := hide (fun W (q : SeeP W h0 s0) => refpchk_any h0 s0 W q)
  have OK0 := hide (fun c => ok_of (s := s0) q0 c)
  clear q0 O E
  go_enter Try.func4, Try.ntmps4
  go_upto_region 1 with fail
  generalize w.alloc (.cells #[.slice h0.a h0.n h0.c, .slice h0.k h0.m h0.d, .int .u64 s0.g.n, .int .u64 s0.g.nans, .int .u64 s0.g.lo, .int .u64 s0.g.hi] 28) = v0 at P0 ⊢
  rw [hk0.out]
  clear hk0
  obtain ⟨c0, c1, c2, c3, c4, c5⟩ := P0.out.at 0 rfl
  cases hc0 : chkP s0
  · rw [hc0] at CA
    go_wp2_with fail
    with_reducible refine (CA.out _ (P0.out.sees 0 rfl)).mono ?_
    rintro e v1 ⟨rfl, b⟩
    have P1 := hide (P0.out.below b)
    clear b c0 c1 c2 c3 c4 c5 P0
    go_wp2_with fail
    with_reducible refine (AW.out _).mono ?_
    rintro e u ⟨rfl, b⟩
    have T := hide (P1.out.below b)
    clear b
    go_wp2
    go_ret
    exact ⟨rfl, T.out.low⟩
  rw [hc0] at CA
  go_wp2_with fail
  with_reducible refine (CA.out _ (P0.out.sees 0 rfl)).mono ?_
  rintro e v1 ⟨rfl, b⟩
  have P1 := hide (P0.out.below b)
  clear b c0 c1 c2 c3 c4 c5 P0
  have o0 := OK0.out hc0
  have M1 := hide (fun W h q q' => merge_pool M o0 ok_zero (merge_zero o0) W h hd0 q q')
  have M2 := hide (fun W h q q' => merge_pool M ok_zero o0 (zero_merge o0) W hd0 h q q')
  have SU : Hid (∀ (v : World) (h : Hd), SeeP v h s0 → Calls Try.prog 10 #[.slice (some ⟨v.heap.size, 0, none⟩) 1 1] (v.alloc (.cells #[.slice h.a h.n h.c, .slice h.k h.m h.d, .int .u64 s0.g.n, .int .u64 s0.g.nans, .int .u64 s0.g.lo, .int .u64 s0.g.hi] 28)) fun e w' => ∃ h2, e = .returned (.tuple #[(Value.agg #[.slice (Hd.a h2) (Hd.n h2) (Hd.c h2), .slice (Hd.k h2) (Hd.m h2) (Hd.d h2), .int .u64 (Gz.n s0.g), .int .u64 (Gz.nans s0.g), .int .u64 (Gz.lo s0.g), .int .u64 (Gz.hi s0.g)]), .int .i64 0]) ∧ SeeP w' h2 s0 ∧ Below v.heap.size v w') := by
    intro v h q
    refine (U.sum _ 1 1 [(h, s0)] _ (rows_one q 28)).mono ?_
    rintro e w' ⟨hb, hm⟩
    rw [if_pos (by simp only [List.all_cons, List.all_nil, o0.chk]; rfl)] at hm
    have e1 : sumP ([(h, s0)].map (·.2)) = s0 := zero_merge o0
    rw [e1] at hm
    obtain ⟨h2, rfl, m⟩ := hm
    exact ⟨h2, rfl, m.see, ((Below.refl v.heap.size v).alloc (Nat.le_refl _) _).trans (hb.mono (by rw [size_al]; omega))⟩
  have SX := hide (fun W g g' (q : SeeP W g s0) (q' : SeeP W g' s0) => S.same g s0 g' s0 W q q')
  rw [show decide (s0 = s0) = true from decide_eq_true rfl] at SX
  dsimp only [zeroP, hd0, g0] at M1 M2
  clear hc0 OK0 o0 CA M S U
  obtain ⟨c0, c1, c2, c3, c4, c5⟩ := P1.out.at 0 rfl
  go_wp2_with fail
  with_reducible refine (SK.out _ _ _ (P1.out.sees 0 rfl)).mono ?_
  rintro e u1 ⟨g1, rfl, m, b⟩
  have T := hide (P1.out.below b)
  have Q := hide m.see
  clear m b c0 c1 c2 c3 c4 c5 P1
  go_wp2_with fail
  with_reducible refine (M1.out _ _ Q.out (see_zero _)).mono ?_
  rintro e u2 ⟨hx, rfl, m, b⟩
  have T2 := hide (T.out.below b)
  have Q2 := hide m.see
  clear m b T Q
  go_upto_region 4 with fail
  obtain ⟨kx, hk⟩ : ∃ k, Hid (u2.heap.size = k) := ⟨_, rfl⟩
  have P2 := hide (T2.out.push Q2.out 28 hk.out)
  simp only [List.cons_append, List.nil_append] at P2
  generalize u2.alloc (.cells #[.slice hx.a hx.n hx.c, .slice hx.k hx.m hx.d, .int .u64 s0.g.n, .int .u64 s0.g.nans, .int .u64 s0.g.lo, .int .u64 s0.g.hi] 28) = v2 at P2 ⊢
  rw [hk.out]
  clear hk T2 Q2
  obtain ⟨c0, c1, c2, c3, c4, c5⟩ := P2.out.at 0 rfl
  go_wp2_with fail
  with_reducible refine (SK.out _ _ _ (P2.out.sees 0 rfl)).mono ?_
  rintro e u1 ⟨g1, rfl, m, b⟩
  have T := hide (P2.out.below b)
  have Q := hide m.see
  clear m b c0 c1 c2 c3 c4 c5 P2
  go_wp2_with fail
  with_reducible refine (M2.out _ _ (see_zero _) Q.out).mono ?_
  rintro e u2 ⟨hy, rfl, m, b⟩
  have T2 := hide (T.out.below b)
  have Q2 := hide m.see
  clear m b T Q
  go_upto_region 5 with fail
  obtain ⟨ky, hk⟩ : ∃ k, Hid (u2.heap.size = k) := ⟨_, rfl⟩
  have P3 := hide (T2.out.push Q2.out 28 hk.out)
  simp only [List.cons_append, List.nil_append] at P3
  generalize u2.alloc (.cells #[.slice hy.a hy.n hy.c, .slice hy.k hy.m hy.d, .int .u64 s0.g.n, .int .u64 s0.g.nans, .int .u64 s0.g.lo, .int .u64 s0.g.hi] 28) = v3 at P3 ⊢
  rw [hk.out]
  clear hk T2 Q2
  obtain ⟨c0, c1, c2, c3, c4, c5⟩ := P3.out.at 0 rfl
  go_wp2_with fail
  with_reducible refine (SK.out _ _ _ (P3.out.sees 0 rfl)).mono ?_
  rintro e u1 ⟨g1, rfl, m, b⟩
  have T := hide (P3.out.below b)
  have Q := hide m.see
  clear m b c0 c1 c2 c3 c4 c5 P3
  go_wp2_with fail
  with_reducible refine (SU.out _ _ Q.out).mono ?_
  rintro e u2 ⟨hz, rfl, m, b⟩
  have T2 := hide (T.out.below b)
  have Q2 := hide m
  clear m b T Q
  go_upto_region 6 with fail
  obtain ⟨kz, hk⟩ : ∃ k, Hid (u2.heap.size = k) := ⟨_, rfl⟩
  have P4 := hide (T2.out.push Q2.out 28 hk.out)
  simp only [List.cons_append, List.nil_append] at P4
  generalize u2.alloc (.cells #[.slice hz.a hz.n hz.c, .slice hz.k hz.m hz.d, .int .u64 s0.g.n, .int .u64 s0.g.nans, .int .u64 s0.g.lo, .int .u64 s0.g.hi] 28) = v4 at P4 ⊢
  rw [hk.out]
  clear hk T2 Q2
  obtain ⟨c0, c1, c2, c3, c4, c5⟩ := P4.out.at 1 rfl
  obtain ⟨d0, d1, d2, d3, d4, d5⟩ := P4.out.at 0 rfl
  go_wp2_with fail
  with_reducible refine (SX.out _ _ _ (P4.out.sees 1 rfl) (P4.out.sees 0 rfl)).mono ?_
  rintro e x0 ⟨rfl, b⟩
  have P5 := hide (P4.out.below b)
  clear b c0 c1 c2 c3 c4 c5 d0 d1 d2 d3 d4 d5 P4
  obtain ⟨c0, c1, c2, c3, c4, c5⟩ := P5.out.at 2 rfl
  obtain ⟨d0, d1, d2, d3, d4, d5⟩ := P5.out.at 0 rfl
  go_wp2_with fail
  with_reducible refine (SX.out _ _ _ (P5.out.sees 2 rfl) (P5.out.sees 0 rfl)).mono ?_
  rintro e x1 ⟨rfl, b⟩
  have P6 := hide (P5.out.below b)
  clear b c0 c1 c2 c3 c4 c5 d0 d1 d2 d3 d4 d5 P5
  obtain ⟨c0, c1, c2, c3, c4, c5⟩ := P6.out.at 3 rfl
  obtain ⟨d0, d1, d2, d3, d4, d5⟩ := P6.out.at 0 rfl
  go_wp2_with fail
  with_reducible refine (SX.out _ _ _ (P6.out.sees 3 rfl) (P6.out.sees 0 rfl)).mono ?_
  rintro e x2 ⟨rfl, b⟩
  have P7 := hide (P6.out.below b)
  clear b c0 c1 c2 c3 c4 c5 d0 d1 d2 d3 d4 d5 P6
  go_wp2_with fail
  with_reducible refine (AW.out _).mono ?_
  rintro e u ⟨rfl, b⟩
  have T := hide (P7.out.below b)
  clear b
  go_wp2
  go_ret
  exact ⟨rfl, T.out.low⟩
end Go.Proofs.Ytadcaonkmncgoab
