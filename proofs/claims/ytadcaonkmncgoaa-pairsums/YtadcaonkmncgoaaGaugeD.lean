/-
  What the program's own functions on gauges come to: is it a number, the lesser and the greater of two floats, may it be a gauge, two gauges put together, one float more: contracts, for every world; what was there before stays.
  Conditions: the gauges' numbers and the floats are words; Merge and Add: the gauges may be ones ('chkG').
-/
import Derived.Test.YtadcaonkmncgoaaGaugeI
import Derived.Test.YtadcaonkmncgoaaGaugeR
import Derived.RegionTactic
import Derived.ChangeAlike
namespace Go.Proofs.Ytadcaonkmncgoaa
open Go.RowKit
set_option maxRecDepth 20000
attribute [local go_sem] run_bits run_frombits

theorem isnum_any (x : Int) (h : Word x) (w : World) :
    Calls Try.prog 55 #[.int .u64 x] w fun e w' => e = .returned (.bool (!nanI x)) ∧ w' = w := by
  have lx : x.toNat < 18446744073709551616 := by obtain ⟨_, _⟩ := h; omega
  have N := hide (fun w => isnan_any x.toNat lx w)
  rw [nan_nat h] at N
  go_enter Try.func55, Try.ntmps55
  go_wp2_with (go_at_call 71; refine (N.out _).mono ?_; rintro e w' ⟨rfl, rfl⟩)
  go_ret
  exact ⟨rfl, rfl⟩

theorem lesser_any (x y : Int) (hx : Word x) (hy : Word y) (w : World) :
    Calls Try.prog 78 #[.int .u64 x, .int .u64 y] w fun e w' => e = .returned (.int .u64 (lo2 x y)) ∧ w' = w := by
  have L := hide (fun w => less_any y x hy hx w)
  unfold lo2
  generalize lessB y x = p at L
  cases p <;>
  · go_enter Try.func78, Try.ntmps78
    go_wp2_with (go_at_call 56; refine (L.out _).mono ?_; rintro e w' ⟨rfl, rfl⟩)
    go_ret
    exact ⟨rfl, rfl⟩

theorem greater_any (x y : Int) (hx : Word x) (hy : Word y) (w : World) :
    Calls Try.prog 79 #[.int .u64 x, .int .u64 y] w fun e w' => e = .returned (.int .u64 (hi2 x y)) ∧ w' = w := by
  have L := hide (fun w => less_any x y hx hy w)
  unfold hi2
  generalize lessB x y = p at L
  cases p <;>
  · go_enter Try.func79, Try.ntmps79
    go_wp2_with (go_at_call 56; refine (L.out _).mono ?_; rintro e w' ⟨rfl, rfl⟩)
    go_ret
    exact ⟨rfl, rfl⟩

set_option maxHeartbeats 1000000 in
theorem gchk_any (g : Gz) (hg : GW g) (w : World) :
    Calls Try.prog 31 #[(Value.agg #[.int .u64 (Gz.n g), .int .u64 (Gz.nans g), .int .u64 (Gz.lo g), .int .u64 (Gz.hi g)])] w fun e w' => e = .returned (.bool (chkG g)) ∧ Below w.heap.size w w' := by
  have A := hide (fun w => isnum_any g.lo hg.lo w)
  have B := hide (fun w => isnum_any g.hi hg.hi w)
  have C := hide (fun w => less_any g.hi g.lo hg.hi hg.lo w)
  by_cases h : g.n = 0
  · have F := hide (chkG_none h)
    have e0 : (g.n == 0) = true := beq_iff_eq.2 h
    generalize chkG g = c at F ⊢
    obtain ⟨n, m, lo, hi⟩ := g
    dsimp only at A B C F e0 ⊢
    clear hg h A B C
    go_enter Try.func31, Try.ntmps31
    cases e1 : (lo == 0) <;> cases e2 : (hi == 0)
    all_goals go_wp2
    all_goals (go_ret; exact ⟨by rw [F.out, e1, e2]; rfl, (Below.refl _ _).alloc (Nat.le_refl _) _⟩)
  · have F := hide (chkG_some h)
    have e0 : (g.n == 0) = false := beq_eq_false_iff_ne.2 h
    generalize chkG g = c at F ⊢
    obtain ⟨n, m, lo, hi⟩ := g
    dsimp only at A B C F e0 ⊢
    clear hg h
    generalize lessB hi lo = l at F C
    generalize nanI lo = p at F A
    generalize nanI hi = q at F B
    go_enter Try.func31, Try.ntmps31
    cases p
    · cases q
      · go_wp2_with fail
        refine (A.out _).mono ?_
        rintro e w1 ⟨rfl, rfl⟩
        go_wp2_with fail
        refine (B.out _).mono ?_
        rintro e w1 ⟨rfl, rfl⟩
        go_wp2_with fail
        refine (C.out _).mono ?_
        rintro e w1 ⟨rfl, rfl⟩
        go_wp2
        go_ret
        exact ⟨ret_bool F.out.symm, (Below.refl _ _).alloc (Nat.le_refl _) _⟩
      · go_wp2_with fail
        refine (A.out _).mono ?_
        rintro e w1 ⟨rfl, rfl⟩
        go_wp2_with fail
        refine (B.out _).mono ?_
        rintro e w1 ⟨rfl, rfl⟩
        go_wp2
        go_ret
        exact ⟨ret_bool F.out.symm, (Below.refl _ _).alloc (Nat.le_refl _) _⟩
    · go_wp2_with fail
      refine (A.out _).mono ?_
      rintro e w1 ⟨rfl, rfl⟩
      go_wp2
      go_ret
      exact ⟨ret_bool F.out.symm, (Below.refl _ _).alloc (Nat.le_refl _) _⟩
theorem gaC : GaC := ⟨gchk_any⟩

theorem bel4d (w : World) (o1 o2 o3 o4 : Obj) : Below w.heap.size w ((((w.alloc o1).alloc o2).alloc o3).alloc o4).drew.drew := (bel4 w o1 o2 o3 o4).drew

set_option maxHeartbeats 2000000 in
theorem gmerge_any (a b : Gz) (ha : GW a) (hb : GW b) (w : World) :
    Calls Try.prog 60 #[(Value.agg #[.int .u64 (Gz.n a), .int .u64 (Gz.nans a), .int .u64 (Gz.lo a), .int .u64 (Gz.hi a)]), (Value.agg #[.int .u64 (Gz.n b), .int .u64 (Gz.nans b), .int .u64 (Gz.lo b), .int .u64 (Gz.hi b)])] w fun e w' => e = .returned (Value.agg #[.int .u64 (Gz.n (mergeG a b)), .int .u64 (Gz.nans (mergeG a b)), .int .u64 (Gz.lo (mergeG a b)), .int .u64 (Gz.hi (mergeG a b))]) ∧ Below w.heap.size w w' := by
  have E := hide add_any
  have C := hide (fun w => lesser_any a.lo b.lo ha.lo hb.lo w)
  have D := hide (fun w => greater_any a.hi b.hi ha.hi hb.hi w)
  obtain ⟨n, m, lo, hi⟩ := a
  obtain ⟨n', m', lo', hi'⟩ := b
  obtain ⟨hn, hm, _, _⟩ := ha
  obtain ⟨hn', hm', _, _⟩ := hb
  dsimp only [mergeG] at C D hn hm hn' hm' ⊢
  obtain ⟨L, HL⟩ : ∃ L, Hid ((if n = 0 then lo' else if n' = 0 then lo else lo2 lo lo') = L) := ⟨_, rfl⟩
  obtain ⟨H, HH⟩ : ∃ H, Hid ((if n = 0 then hi' else if n' = 0 then hi else hi2 hi hi') = H) := ⟨_, rfl⟩
  rw [HL.out, HH.out]
  go_enter Try.func60, Try.ntmps60
  go_upto_region 1 with fail
  go_cut [5] (fun x wx => x = .pointer (some ⟨w.heap.size + 3, 0, none⟩) ∧ wx = ((((w.alloc (.cells #[.int .u64 n, .int .u64 m, .int .u64 lo, .int .u64 hi] 28)).alloc (.cells #[.int .u64 n', .int .u64 m', .int .u64 lo', .int .u64 hi'] 28)).alloc (.cells #[.int .u64 0, .int .u64 0, .int .u64 0, .int .u64 0] 28)).alloc (.cells #[.int .u64 (addS n n'), .int .u64 (addS m m'), .int .u64 0, .int .u64 0] 28)).drew)
  case first =>
    go_region_held3 (fun w' => w'.cell? ⟨w.heap.size, 0, none⟩ = some (.int .u64 n) ∧ w'.cell? ⟨w.heap.size, 1, none⟩ = some (.int .u64 m) ∧ w'.cell? ⟨w.heap.size + 1, 0, none⟩ = some (.int .u64 n') ∧ w'.cell? ⟨w.heap.size + 1, 1, none⟩ = some (.int .u64 m')) (go_keep) ((go_at_call 65; refine (E.out _ _ (by assumption) (by assumption) _).mono ?_; rintro e w' ⟨rfl, rfl⟩))
    all_goals first
      | exact ⟨by simp [go_sem], by simp [go_sem], by simp [go_sem], by simp [go_sem]⟩
      | (go_wp2_with fail
         go_meet
         exact ⟨rfl, rfl⟩)
  case rest =>
    obtain ⟨rfl, rfl⟩ := hcut
    have l1 := HL.out
    have l2 := HH.out
    by_cases h1 : n = 0
    · have e1 : (n == 0) = true := beq_iff_eq.2 h1
      rw [if_pos h1] at l1 l2
      subst l1 l2
      clear h1 HL HH C D E
      go_wp2_with fail
      go_region
      all_goals go_wp2
      all_goals exact bodyPost_ret (v := .agg #[.int .u64 (addS n n'), .int .u64 (addS m m'), .int .u64 lo', .int .u64 hi']) (by simp [results, Try.results60, go_sem]) rfl ⟨rfl, bel4d _ _ _ _ _⟩
    · have e1 : (n == 0) = false := beq_eq_false_iff_ne.2 h1
      rw [if_neg h1] at l1 l2
      by_cases h2 : n' = 0
      · have e2 : (n' == 0) = true := beq_iff_eq.2 h2
        rw [if_pos h2] at l1 l2
        subst l1 l2
        clear h1 h2 HL HH C D E
        go_wp2_with fail
        go_region
        all_goals go_wp2
        all_goals exact bodyPost_ret (v := .agg #[.int .u64 (addS n n'), .int .u64 (addS m m'), .int .u64 lo, .int .u64 hi]) (by simp [results, Try.results60, go_sem]) rfl ⟨rfl, bel4d _ _ _ _ _⟩
      · have e2 : (n' == 0) = false := beq_eq_false_iff_ne.2 h2
        rw [if_neg h2] at l1 l2
        rw [l1] at C
        rw [l2] at D
        clear h1 h2 HL HH E l1 l2
        go_wp2_with fail
        go_region_held3 (fun w' => w'.cell? ⟨w.heap.size, 2, none⟩ = some (.int .u64 lo) ∧ w'.cell? ⟨w.heap.size, 3, none⟩ = some (.int .u64 hi) ∧ w'.cell? ⟨w.heap.size + 1, 2, none⟩ = some (.int .u64 lo') ∧ w'.cell? ⟨w.heap.size + 1, 3, none⟩ = some (.int .u64 hi')) (go_keep) (first
          | (go_at_call 78; refine (C.out _).mono ?_; rintro e w' ⟨rfl, rfl⟩)
          | (go_at_call 79; refine (D.out _).mono ?_; rintro e w' ⟨rfl, rfl⟩))
        all_goals first
          | exact ⟨by simp [go_sem], by simp [go_sem], by simp [go_sem], by simp [go_sem]⟩
          | (go_wp2
             exact bodyPost_ret (v := .agg #[.int .u64 (addS n n'), .int .u64 (addS m m'), .int .u64 L, .int .u64 H]) (by simp [results, Try.results60, go_sem]) rfl ⟨rfl, bel4d _ _ _ _ _⟩)

theorem gaM : GaM := ⟨fun a b ha hb _ _ w => gmerge_any a b ha hb w⟩

set_option maxHeartbeats 2000000 in
theorem gadd_any (g : Gz) (x : Int) (hg : GW g) (hx : Word x) (cg : chkG g = true) (w : World) :
    Calls Try.prog 47 #[(Value.agg #[.int .u64 (Gz.n g), .int .u64 (Gz.nans g), .int .u64 (Gz.lo g), .int .u64 (Gz.hi g)]), .int .u64 x] w fun e w' => e = .returned (Value.agg #[.int .u64 (Gz.n (addG g x)), .int .u64 (Gz.nans (addG g x)), .int .u64 (Gz.lo (addG g x)), .int .u64 (Gz.hi (addG g x))]) ∧ Below w.heap.size w w' := by
  have K := hide (fun w => isnum_any x hx w)
  cases e : nanI x
  · have M := hide (fun w => gmerge_any g (oneG x) hg (oneG_word hx) w)
    show Calls Try.prog 47 #[(Value.agg #[.int .u64 (Gz.n g), .int .u64 (Gz.nans g), .int .u64 (Gz.lo g), .int .u64 (Gz.hi g)]), .int .u64 x] w fun e w' => e = .returned (Value.agg #[.int .u64 (Gz.n (mergeG g (oneG x))), .int .u64 (Gz.nans (mergeG g (oneG x))), .int .u64 (Gz.lo (mergeG g (oneG x))), .int .u64 (Gz.hi (mergeG g (oneG x)))]) ∧ Below w.heap.size w w'
    generalize mergeG g (oneG x) = r at M ⊢
    rw [oneG_num e] at M
    rw [e] at K
    obtain ⟨n, m, lo, hi⟩ := g
    obtain ⟨rn, rm, rl, rh⟩ := r
    dsimp only at M ⊢
    clear cg
    go_enter Try.func47, Try.ntmps47
    go_wp2_with fail
    refine (K.out _).mono ?_
    rintro e w1 ⟨rfl, rfl⟩
    go_wp2_with fail
    refine (M.out _).mono ?_
    rintro e w1 ⟨rfl, hb⟩
    have G : Hid (GBox w1 (w.heap.size + 1) 0 0 0 0) := (GBox.new2 w _ _ 0 0 0 0).below hb (by simp [go_sem])
    have B : Hid (Below w.heap.size w w1) := (bel2 w _ _).trans (hb.mono (by rw [size_al, size_al]; omega))
    have c0 := G.out.c0
    have c1 := G.out.c1
    have c2 := G.out.c2
    have c3 := G.out.c3
    have f0 := G.out.f0
    have f1 := G.out.f1
    have f2 := G.out.f2
    have f3 := G.out.f3
    clear hb
    go_wp2
    have G2 := G.out.set rn rm rl rh
    exact bodyPost_ret (v := .agg #[.int .u64 rn, .int .u64 rm, .int .u64 rl, .int .u64 rh]) (by simp [results, Try.results47, go_sem, G2.c0, G2.c1, G2.c2, G2.c3]) rfl ⟨rfl, bel_set4 B.out (by omega) _ _ _ _⟩
  · have S := hide (fun w => add_any g.nans 1 hg.nans w1 w)
    rw [addG_none hg cg e]
    rw [e] at K
    obtain ⟨n, m, lo, hi⟩ := g
    dsimp only at S ⊢
    clear cg
    go_enter Try.func47, Try.ntmps47
    go_wp2_with (first
      | (go_at_call 55; refine (K.out _).mono ?_; rintro e w' ⟨rfl, rfl⟩)
      | (go_at_call 65; refine (S.out _).mono ?_; rintro e w' ⟨rfl, rfl⟩))
    exact bodyPost_ret (v := .agg #[.int .u64 n, .int .u64 (addS m 1), .int .u64 lo, .int .u64 hi]) (by simp [results, Try.results47, go_sem]) rfl ⟨rfl, bel2 _ _ _⟩
theorem gaA : GaA := ⟨gadd_any⟩
end Go.Proofs.Ytadcaonkmncgoaa
