/-
  What the document's own answers of gauges come to: may it be one, two put together, one float more: contracts, for every world; what was there before stays.
  Conditions: the gauge's four numbers, and the float, are words.
-/
import Derived.Test.YtadcaonkmncgoabGaugeB
import Derived.Test.YtadcaonkmncgoabFloR
import Derived.Deep.RegionHeld3
import Derived.Deep.RegionWith
import Derived.Deep.DeepCutAuto
namespace Go.Proofs.Ytadcaonkmncgoab
open Go.RowKit
set_option maxRecDepth 20000

theorem chkG_none {g : Gz} (h : g.n = 0) : chkG g = (g.lo == 0 && g.hi == 0) := by
  unfold chkG; rw [if_pos h]; rfl
theorem chkG_some {g : Gz} (h : g.n ≠ 0) : chkG g = (!nanI g.lo && (!nanI g.hi && !lessB g.hi g.lo)) := if_neg h

set_option maxHeartbeats 1000000 in
theorem refgchk_any (g : Gz) (hg : GW g) (w : World) :
    Calls Try.prog 15 #[(Value.agg #[.int .u64 (Gz.n g), .int .u64 (Gz.nans g), .int .u64 (Gz.lo g), .int .u64 (Gz.hi g)])] w fun e w' => e = .returned (.bool (chkG g)) ∧ Below w.heap.size w w' := by
  have A := hide (fun w => refkind_any g.lo hg.lo w)
  have B := hide (fun w => refkind_any g.hi hg.hi w)
  have C := hide (fun w => refless_any g.hi g.lo hg.hi hg.lo w)
  have ka := kind_ne g.lo
  have kb := kind_ne g.hi
  by_cases h : g.n = 0
  · have F := hide (chkG_none h)
    have e0 : (g.n == 0) = true := beq_iff_eq.2 h
    generalize chkG g = c at F ⊢
    obtain ⟨n, m, lo, hi⟩ := g
    dsimp only at A B C F e0 ka kb ⊢
    clear hg h
    go_enter Try.func15, Try.ntmps15
    cases e1 : (lo == 0) <;> cases e2 : (hi == 0)
    all_goals go_wp2
    all_goals (go_ret; exact ⟨by rw [F.out, e1, e2]; rfl, (Below.refl _ _).alloc (Nat.le_refl _) _⟩)
  · have F := hide (chkG_some h)
    have e0 : (g.n == 0) = false := beq_eq_false_iff_ne.2 h
    generalize chkG g = c at F ⊢
    obtain ⟨n, m, lo, hi⟩ := g
    dsimp only at A B C F e0 ka kb ⊢
    clear hg h
    generalize lessB hi lo = l at F C
    generalize nanI lo = p at F ka
    generalize nanI hi = q at F kb
    generalize kindS lo = kl at A ka
    generalize kindS hi = kh at B kb
    go_enter Try.func15, Try.ntmps15
    cases p
    · replace ka : (kl != 4) = true := ka
      cases q
      · replace kb : (kh != 4) = true := kb
        go_wp2_with fail
        refine (A.out _).mono ?_
        rintro e w1 ⟨rfl, rfl⟩
        go_wp2_with fail
        refine (B.out _).mono ?_
        rintro e w1 ⟨rfl, rfl⟩
        go_wp2_with fail
        refine (C.out _).mono ?_
        rintro e w1 ⟨rfl, rfl⟩
        go_wp2
        go_ret
        exact ⟨ret_bool F.out.symm, (Below.refl _ _).alloc (Nat.le_refl _) _⟩
      · replace kb : (kh != 4) = false := kb
        go_wp2_with fail
        refine (A.out _).mono ?_
        rintro e w1 ⟨rfl, rfl⟩
        go_wp2_with fail
        refine (B.out _).mono ?_
        rintro e w1 ⟨rfl, rfl⟩
        go_wp2
        go_ret
        exact ⟨ret_bool F.out.symm, (Below.refl _ _).alloc (Nat.le_refl _) _⟩
    · replace ka : (kl != 4) = false := ka
      go_wp2_with fail
      refine (A.out _).mono ?_
      rintro e w1 ⟨rfl, rfl⟩
      go_wp2
      go_ret
      exact ⟨ret_bool F.out.symm, (Below.refl _ _).alloc (Nat.le_refl _) _⟩

theorem bel4 (w : World) (o1 o2 o3 o4 : Obj) : Below w.heap.size w ((((w.alloc o1).alloc o2).alloc o3).alloc o4).drew :=
  (((((Below.refl _ w).alloc (Nat.le_refl _) o1).alloc (by simp [go_sem]) o2).alloc (by simp [go_sem]; omega) o3).alloc (by simp [go_sem]; omega) o4).drew

theorem kind_eq (x : Int) : (kindS x == 4) = nanI x := kind_nan x

end Go.Proofs.Ytadcaonkmncgoab
