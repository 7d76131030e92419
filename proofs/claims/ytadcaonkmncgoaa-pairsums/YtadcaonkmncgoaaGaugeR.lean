/-
  What the document's own answers of gauges come to: may it be one, two put together, one float more: contracts, for every world; what was there before stays.
  Conditions: the gauge's four numbers, and the float, are words.
-/
import Derived.Test.YtadcaonkmncgoaaGaugeB
import Derived.Test.YtadcaonkmncgoaaFloR
import Derived.Deep.RegionHeld3
import Derived.Deep.RegionWith
import Derived.Deep.DeepCutAuto
namespace Go.Proofs.Ytadcaonkmncgoaa
open Go.RowKit
set_option maxRecDepth 20000

theorem chkG_none {g : Gz} (h : g.n = 0) : chkG g = (g.lo == 0 && g.hi == 0) := by
  unfold chkG; rw [if_pos h]; rfl
theorem chkG_some {g : Gz} (h : g.n ≠ 0) : chkG g = (!nanI g.lo && (!nanI g.hi && !lessB g.hi g.lo)) := if_neg h

set_option maxHeartbeats 1000000 in
theorem refgchk_any (g : Gz) (hg : GW g) (w : World) :
    Calls Try.prog 36 #[(Value.agg #[.int .u64 (Gz.n g), .int .u64 (Gz.nans g), .int .u64 (Gz.lo g), .int .u64 (Gz.hi g)])] w fun e w' => e = .returned (.bool (chkG g)) ∧ Below w.heap.size w w' := by
  have A := hide (fun w => refkind_any g.lo hg.lo w)
  have B := hide (fun w => refkind_any g.hi hg.hi w)
  have C := hide (fun w => refless_any g.hi g.lo hg.hi hg.lo w)
  have ka := kind_ne g.lo
  have kb := kind_ne g.hi
  by_cases h : g.n = 0
  · have F := hide (chkG_none h)
    have e0 : (g.n == 0) = true := beq_iff_eq.2 h
    generalize chkG g = c at F ⊢
    obtain ⟨n, m, lo, hi⟩ := g
    dsimp only at A B C F e0 ka kb ⊢
    clear hg h
    go_enter Try.func36, Try.ntmps36
    cases e1 : (lo == 0) <;> cases e2 : (hi == 0)
    all_goals go_wp2
    all_goals (go_ret; exact ⟨by rw [F.out, e1, e2]; rfl, (Below.refl _ _).alloc (Nat.le_refl _) _⟩)
  · have F := hide (chkG_some h)
    have e0 : (g.n == 0) = false := beq_eq_false_iff_ne.2 h
    generalize chkG g = c at F ⊢
    obtain ⟨n, m, lo, hi⟩ := g
    dsimp only at A B C F e0 ka kb ⊢
    clear hg h
    generalize lessB hi lo = l at F C
    generalize nanI lo = p at F ka
    generalize nanI hi = q at F kb
    generalize kindS lo = kl at A ka
    generalize kindS hi = kh at B kb
    go_enter Try.func36, Try.ntmps36
    cases p
    · replace ka : (kl != 4) = true := ka
      cases q
      · replace kb : (kh != 4) = true := kb
        go_wp2_with fail
        refine (A.out _).mono ?_
        rintro e w1 ⟨rfl, rfl⟩
        go_wp2_with fail
        refine (B.out _).mono ?_
        rintro e w1 ⟨rfl, rfl⟩
        go_wp2_with fail
        refine (C.out _).mono ?_
        rintro e w1 ⟨rfl, rfl⟩
        go_wp2
        go_ret
        exact ⟨ret_bool F.out.symm, (Below.refl _ _).alloc (Nat.le_refl _) _⟩
      · replace kb : (kh != 4) = false := kb
        go_wp2_with fail
        refine (A.out _).mono ?_
        rintro e w1 ⟨rfl, rfl⟩
        go_wp2_with fail
        refine (B.out _).mono ?_
        rintro e w1 ⟨rfl, rfl⟩
        go_wp2
        go_ret
        exact ⟨ret_bool F.out.symm, (Below.refl _ _).alloc (Nat.le_refl _) _⟩
    · replace ka : (kl != 4) = false := ka
      go_wp2_with fail
      refine (A.out _).mono ?_
      rintro e w1 ⟨rfl, rfl⟩
      go_wp2
      go_ret
      exact ⟨ret_bool F.out.symm, (Below.refl _ _).alloc (Nat.le_refl _) _⟩

theorem rwadd_any (a b : Int) (ha : Word a) (hb : Word b) (w : World) :
    Calls Try.prog 50 #[.int .u64 a, .int .u64 b] w fun e w' => e = .returned (.int .u64 (addS a b)) ∧ w' = w := by
  obtain ⟨a0, a1⟩ := ha
  obtain ⟨b0, b1⟩ := hb
  go_enter Try.func50, Try.ntmps50
  go_wp2
  all_goals
    go_ret
    exact ⟨ret_u64 (by (try simp only [IntKind.wrap_u64] at *); unfold addS; split <;> omega), rfl⟩

theorem bel4 (w : World) (o1 o2 o3 o4 : Obj) : Below w.heap.size w ((((w.alloc o1).alloc o2).alloc o3).alloc o4).drew :=
  (((((Below.refl _ w).alloc (Nat.le_refl _) o1).alloc (by simp [go_sem]) o2).alloc (by simp [go_sem]; omega) o3).alloc (by simp [go_sem]; omega) o4).drew

set_option maxHeartbeats 2000000 in
theorem refgmerge_any (a b : Gz) (ha : GW a) (hb : GW b) (w : World) :
    Calls Try.prog 41 #[(Value.agg #[.int .u64 (Gz.n a), .int .u64 (Gz.nans a), .int .u64 (Gz.lo a), .int .u64 (Gz.hi a)]), (Value.agg #[.int .u64 (Gz.n b), .int .u64 (Gz.nans b), .int .u64 (Gz.lo b), .int .u64 (Gz.hi b)])] w fun e w' => e = .returned (Value.agg #[.int .u64 (Gz.n (mergeG a b)), .int .u64 (Gz.nans (mergeG a b)), .int .u64 (Gz.lo (mergeG a b)), .int .u64 (Gz.hi (mergeG a b))]) ∧ Below w.heap.size w w' := by
  have E := hide rwadd_any
  have C := hide (fun w => refless_any b.lo a.lo hb.lo ha.lo w)
  have D := hide (fun w => refless_any a.hi b.hi ha.hi hb.hi w)
  obtain ⟨n, m, lo, hi⟩ := a
  obtain ⟨n', m', lo', hi'⟩ := b
  obtain ⟨hn, hm, _, _⟩ := ha
  obtain ⟨hn', hm', _, _⟩ := hb
  dsimp only [mergeG] at C D hn hm hn' hm' ⊢
  obtain ⟨L, HL⟩ : ∃ L, Hid ((if n = 0 then lo' else if n' = 0 then lo else lo2 lo lo') = L) := ⟨_, rfl⟩
  obtain ⟨H, HH⟩ : ∃ H, Hid ((if n = 0 then hi' else if n' = 0 then hi else hi2 hi hi') = H) := ⟨_, rfl⟩
  rw [HL.out, HH.out]
  go_enter Try.func41, Try.ntmps41
  go_upto_region 1 with fail
  go_cut [5] (fun x wx => x = .pointer (some ⟨w.heap.size + 3, 0, none⟩) ∧ wx = ((((w.alloc (.cells #[.int .u64 n, .int .u64 m, .int .u64 lo, .int .u64 hi] 28)).alloc (.cells #[.int .u64 n', .int .u64 m', .int .u64 lo', .int .u64 hi'] 28)).alloc (.cells #[.int .u64 0, .int .u64 0, .int .u64 0, .int .u64 0] 28)).alloc (.cells #[.int .u64 (addS n n'), .int .u64 (addS m m'), .int .u64 lo, .int .u64 hi] 28)).drew)
  case first =>
    go_region_held3 (fun w' => w'.cell? ⟨w.heap.size, 0, none⟩ = some (.int .u64 n) ∧ w'.cell? ⟨w.heap.size, 1, none⟩ = some (.int .u64 m) ∧ w'.cell? ⟨w.heap.size, 2, none⟩ = some (.int .u64 lo) ∧ w'.cell? ⟨w.heap.size, 3, none⟩ = some (.int .u64 hi) ∧ w'.cell? ⟨w.heap.size + 1, 0, none⟩ = some (.int .u64 n') ∧ w'.cell? ⟨w.heap.size + 1, 1, none⟩ = some (.int .u64 m')) (go_keep) ((go_at_call 50; refine (E.out _ _ (by assumption) (by assumption) _).mono ?_; rintro e w' ⟨rfl, rfl⟩))
    all_goals first
      | exact ⟨by simp [go_sem], by simp [go_sem], by simp [go_sem], by simp [go_sem], by simp [go_sem], by simp [go_sem]⟩
      | (go_wp2_with fail
         go_meet
         exact ⟨rfl, rfl⟩)
  case rest =>
    obtain ⟨rfl, rfl⟩ := hcut
    have l1 := HL.out
    have l2 := HH.out
    by_cases h1 : n = 0
    · have e1 : (n == 0) = true := beq_iff_eq.2 h1
      rw [if_pos h1] at l1 l2
      subst l1 l2
      clear h1 HL HH C D E
      go_wp2
      exact bodyPost_ret (v := .agg #[.int .u64 (addS n n'), .int .u64 (addS m m'), .int .u64 lo', .int .u64 hi']) (by simp [results, Try.results41, go_sem]) rfl ⟨rfl, bel4 _ _ _ _ _⟩
    · have e1 : (n == 0) = false := beq_eq_false_iff_ne.2 h1
      rw [if_neg h1] at l1 l2
      by_cases h2 : n' = 0
      · have e2 : (n' == 0) = true := beq_iff_eq.2 h2
        rw [if_pos h2] at l1 l2
        subst l1 l2
        clear h1 h2 HL HH C D E
        go_wp2
        exact bodyPost_ret (v := .agg #[.int .u64 (addS n n'), .int .u64 (addS m m'), .int .u64 lo, .int .u64 hi]) (by simp [results, Try.results41, go_sem]) rfl ⟨rfl, bel4 _ _ _ _ _⟩
      · have e2 : (n' == 0) = false := beq_eq_false_iff_ne.2 h2
        rw [if_neg h2] at l1 l2
        unfold lo2 at l1
        unfold hi2 at l2
        clear h1 h2 HL HH E
        generalize lessB lo' lo = p at C l1
        generalize lessB hi hi' = q at D l2
        go_wp2_with fail
        refine (C.out _).mono ?_
        rintro e w1 ⟨rfl, rfl⟩
        cases p
        · replace l1 : lo = L := l1
          subst l1
          go_wp2_with fail
          refine (D.out _).mono ?_
          rintro e w1 ⟨rfl, rfl⟩
          cases q
          · replace l2 : hi = H := l2
            subst l2
            go_wp2
            exact bodyPost_ret (v := .agg #[.int .u64 (addS n n'), .int .u64 (addS m m'), .int .u64 lo, .int .u64 hi]) (by simp [results, Try.results41, go_sem]) rfl ⟨rfl, bel4 _ _ _ _ _⟩
          · replace l2 : hi' = H := l2
            subst l2
            go_wp2
            exact bodyPost_ret (v := .agg #[.int .u64 (addS n n'), .int .u64 (addS m m'), .int .u64 lo, .int .u64 hi']) (by simp [results, Try.results41, go_sem]) rfl ⟨rfl, bel4 _ _ _ _ _⟩
        · replace l1 : lo' = L := l1
          subst l1
          go_wp2_with fail
          refine (D.out _).mono ?_
          rintro e w1 ⟨rfl, rfl⟩
          cases q
          · replace l2 : hi = H := l2
            subst l2
            go_wp2
            exact bodyPost_ret (v := .agg #[.int .u64 (addS n n'), .int .u64 (addS m m'), .int .u64 lo', .int .u64 hi]) (by simp [results, Try.results41, go_sem]) rfl ⟨rfl, bel4 _ _ _ _ _⟩
          · replace l2 : hi' = H := l2
            subst l2
            go_wp2
            exact bodyPost_ret (v := .agg #[.int .u64 (addS n n'), .int .u64 (addS m m'), .int .u64 lo', .int .u64 hi']) (by simp [results, Try.results41, go_sem]) rfl ⟨rfl, bel4 _ _ _ _ _⟩

theorem kind_eq (x : Int) : (kindS x == 4) = nanI x := kind_nan x

set_option maxHeartbeats 2000000 in
theorem refgadd_any (g : Gz) (x : Int) (hg : GW g) (hx : Word x) (w : World) :
    Calls Try.prog 28 #[(Value.agg #[.int .u64 (Gz.n g), .int .u64 (Gz.nans g), .int .u64 (Gz.lo g), .int .u64 (Gz.hi g)]), .int .u64 x] w fun e w' => e = .returned (Value.agg #[.int .u64 (Gz.n (addG g x)), .int .u64 (Gz.nans (addG g x)), .int .u64 (Gz.lo (addG g x)), .int .u64 (Gz.hi (addG g x))]) ∧ Below w.heap.size w w' := by
  have K := hide (fun w => refkind_any x hx w)
  have k := kind_eq x
  have M := hide (fun w => refgmerge_any g (oneG x) hg (oneG_word hx) w)
  show Calls Try.prog 28 #[(Value.agg #[.int .u64 (Gz.n g), .int .u64 (Gz.nans g), .int .u64 (Gz.lo g), .int .u64 (Gz.hi g)]), .int .u64 x] w fun e w' => e = .returned (Value.agg #[.int .u64 (Gz.n (mergeG g (oneG x))), .int .u64 (Gz.nans (mergeG g (oneG x))), .int .u64 (Gz.lo (mergeG g (oneG x))), .int .u64 (Gz.hi (mergeG g (oneG x)))]) ∧ Below w.heap.size w w'
  generalize mergeG g (oneG x) = r at M ⊢
  obtain ⟨n, m, lo, hi⟩ := g
  obtain ⟨rn, rm, rl, rh⟩ := r
  cases e : nanI x
  · rw [oneG_num e] at M
    rw [e] at k
    dsimp only at M ⊢
    go_enter Try.func28, Try.ntmps28
    go_wp2_with fail
    refine (K.out _).mono ?_
    rintro e w1 ⟨rfl, rfl⟩
    go_wp2_with fail
    refine (M.out _).mono ?_
    rintro e w1 ⟨rfl, hb⟩
    have G : Hid (GBox w1 (w.heap.size + 1) 0 0 0 0) := (GBox.new2 w _ _ 0 0 0 0).below hb (by simp [go_sem])
    have B : Hid (Below w.heap.size w w1) := (bel2 w _ _).trans (hb.mono (by rw [size_al, size_al]; omega))
    have c0 := G.out.c0
    have c1 := G.out.c1
    have c2 := G.out.c2
    have c3 := G.out.c3
    have f0 := G.out.f0
    have f1 := G.out.f1
    have f2 := G.out.f2
    have f3 := G.out.f3
    clear hb
    go_wp2
    have G2 := G.out.set rn rm rl rh
    exact bodyPost_ret (v := .agg #[.int .u64 rn, .int .u64 rm, .int .u64 rl, .int .u64 rh]) (by simp [results, Try.results28, go_sem, G2.c0, G2.c1, G2.c2, G2.c3]) rfl ⟨rfl, bel_set4 B.out (by omega) _ _ _ _⟩
  · rw [oneG_nan e] at M
    rw [e] at k
    dsimp only at M ⊢
    go_enter Try.func28, Try.ntmps28
    go_wp2_with fail
    refine (K.out _).mono ?_
    rintro e w1 ⟨rfl, rfl⟩
    go_wp2_with fail
    refine (M.out _).mono ?_
    rintro e w1 ⟨rfl, hb⟩
    have G : Hid (GBox w1 (w.heap.size + 1) 0 0 0 0) := (GBox.new2 w _ _ 0 0 0 0).below hb (by simp [go_sem])
    have B : Hid (Below w.heap.size w w1) := (bel2 w _ _).trans (hb.mono (by rw [size_al, size_al]; omega))
    have c0 := G.out.c0
    have c1 := G.out.c1
    have c2 := G.out.c2
    have c3 := G.out.c3
    have f0 := G.out.f0
    have f1 := G.out.f1
    have f2 := G.out.f2
    have f3 := G.out.f3
    clear hb
    go_wp2
    have G2 := G.out.set rn rm rl rh
    exact bodyPost_ret (v := .agg #[.int .u64 rn, .int .u64 rm, .int .u64 rl, .int .u64 rh]) (by simp [results, Try.results28, go_sem, G2.c0, G2.c1, G2.c2, G2.c3]) rfl ⟨rfl, bel_set4 B.out (by omega) _ _ _ _⟩
end Go.Proofs.Ytadcaonkmncgoaa
