/-
  What the document's Windows and Check tell: contracts, for every world (written by gen/calt.gen.py).
  Conditions: as each theorem says.
-/
import Derived.Test.YtejflcfcbjadhaaDoorCalS
namespace Go.Proofs.YtejflcfcbjadhaaDoor
open Go.RowKit
set_option maxRecDepth 20000

set_option maxHeartbeats 4000000 in
theorem rwin_any (s t n : Int) (w : World) :
    Calls Tryd.prog 22 #[.int .i64 s, .int .i64 t, .int .i64 n] w fun e w' => e = .returned (.int .i64 (winC s t n)) ∧ w' = w := by
  by_cases h0 : t < 1
  · rw [show winC s t n = 0 by unfold winC; rw [if_pos (by omega)]]
    go_enter Tryd.func22, Tryd.ntmps22
    go_wp2
    go_ret
    exact ⟨rfl, rfl⟩
  · by_cases h1 : n < 1
    · rw [show winC s t n = 0 by unfold winC; rw [if_pos (by omega)]]
      go_enter Tryd.func22, Tryd.ntmps22
      go_wp2
      go_ret
      exact ⟨rfl, rfl⟩
    · by_cases h2 : s < 0
      · rw [show winC s t n = 0 by unfold winC; rw [if_pos (by omega)]]
        go_enter Tryd.func22, Tryd.ntmps22
        go_wp2
        go_ret
        exact ⟨rfl, rfl⟩
      · by_cases h3 : 1099511627776 < s
        · rw [show winC s t n = 0 by unfold winC; rw [if_pos (by omega)]]
          go_enter Tryd.func22, Tryd.ntmps22
          go_wp2
          go_ret
          exact ⟨rfl, rfl⟩
        · by_cases h4 : 1099511627776 < t
          · rw [show winC s t n = 0 by unfold winC; rw [if_pos (by omega)]]
            go_enter Tryd.func22, Tryd.ntmps22
            go_wp2
            go_ret
            exact ⟨rfl, rfl⟩
          · by_cases h5 : 1099511627776 < n
            · rw [show winC s t n = 0 by unfold winC; rw [if_pos (by omega)]]
              go_enter Tryd.func22, Tryd.ntmps22
              go_wp2
              go_ret
              exact ⟨rfl, rfl⟩
            · have hq : (1099511627776 - s).tdiv t = (1099511627776 - s) / t := Int.tdiv_eq_ediv_of_nonneg (by omega)
              have hw : IntKind.i64.wrap (1099511627776 - s) = 1099511627776 - s := by rw [IntKind.wrap_i64]; omega
              have hq0 : 0 ≤ (1099511627776 - s) / t := Int.ediv_nonneg (by omega) (by omega)
              have hq1 : (1099511627776 - s) / t ≤ 1099511627776 - s := Int.ediv_le_self _ (by omega)
              have ht0 : ¬ t = 0 := by omega
              have ht1 : (t == 0) = false := by simpa using ht0
              have HW : Hid (winC s t n = if (1099511627776 - s) / t < n then 0 else n) := by show _ = _; unfold winC; rw [if_neg (by omega)]
              rw [HW.out]
              obtain ⟨q, hqq⟩ : ∃ q, (1099511627776 - s) / t = q := ⟨_, rfl⟩
              rw [hqq] at hq hq0 hq1
              rw [hqq]
              clear HW hqq
              by_cases h7 : q < n
              · rw [if_pos h7]
                go_enter Tryd.func22, Tryd.ntmps22
                go_wp2
                go_ret
                exact ⟨rfl, rfl⟩
              · rw [if_neg h7]
                go_enter Tryd.func22, Tryd.ntmps22
                go_wp2
                go_ret
                exact ⟨rfl, rfl⟩

/-- The first keeps are as they may be. -/
def okK (c : Cf) (k : Nat) : Prop := (1 ≤ k → 1 ≤ c.k0 ∧ c.k0 ≤ 100000) ∧ (2 ≤ k → 1 ≤ c.k1 ∧ c.k1 ≤ 100000 ∧ c.k0 ≤ c.k1) ∧ (3 ≤ k → 1 ≤ c.k2 ∧ c.k2 ≤ 100000 ∧ c.k1 ≤ c.k2) ∧ (4 ≤ k → 1 ≤ c.k3 ∧ c.k3 ≤ 100000 ∧ c.k2 ≤ c.k3)

set_option maxHeartbeats 8000000 in
theorem rchk_any (c : Cf) (w : World) :
    Calls Tryd.prog 10 #[cfV c] w fun e w' => e = .returned (.bool (chkC c)) ∧ Below w.heap.size w w' := by
  obtain ⟨W, hW⟩ : ∃ W, Hid (w.alloc (.cells #[.int .i64 c.sl, .int .i64 c.k0, .int .i64 c.k1, .int .i64 c.k2, .int .i64 c.k3] 24) = W) := ⟨_, rfl⟩
  have LW : Hid (Below w.heap.size w W) := by rw [← hW.out]; exact (Below.refl _ _).alloc (Nat.le_refl _) _
  have B : Hid (BoxC W w.heap.size c) := by rw [← hW.out]; exact boxC_new w c
  obtain ⟨b0, b1, b2, b3, b4⟩ := B.out.all
  have HN : Hid (¬ okC c → chkC c = false) := fun h => decide_eq_false h
  have HY : Hid (okC c → chkC c = true) := fun h => decide_eq_true h
  obtain ⟨X, hX⟩ : ∃ X, Hid (chkC c = X) := ⟨_, rfl⟩
  rw [hX.out] at HN HY
  rw [hX.out]
  by_cases h0 : c.sl < 0
  · have e := HN.out (fun h => by unfold okC at h; omega)
    subst e
    go_enter Tryd.func10, Tryd.ntmps10
    go_upto_region 1 with fail
    rw [hW.out]
    clear hW
    go_wp2
    go_ret
    exact ⟨rfl, LW.out⟩
  · by_cases h1 : 8640000 < c.sl
    · have e := HN.out (fun h => by unfold okC at h; omega)
      subst e
      go_enter Tryd.func10, Tryd.ntmps10
      go_upto_region 1 with fail
      rw [hW.out]
      clear hW
      go_wp2
      go_ret
      exact ⟨rfl, LW.out⟩
    · go_enter Tryd.func10, Tryd.ntmps10
      go_upto_region 1 with fail
      rw [hW.out]
      clear hW
      go_wp2
      clear b0 b1 b2 b3 b4
      go_loopw [3] (fun i wr => ∃ k : Nat, k ≤ 4 ∧ i = .int .i64 k ∧ Hid (okK c k) ∧ Hid (Below W.heap.size W wr)) (fun i _ => 4 - (intOf i).toNat)
      case atStart => exact ⟨0, by omega, rfl, by refine ⟨?_, ?_, ?_, ?_⟩ <;> (intro h; omega), Below.refl _ _⟩
      case round =>
        obtain ⟨k, hk, rfl, HJ, HB⟩ := hrel
        obtain ⟨v, rfl⟩ : ∃ v, v = wr := ⟨wr, rfl⟩
        have LV := hide (bel_to LW.out (Nat.le_refl _) HB.out)
        obtain ⟨b0, b1, b2, b3, b4⟩ := (B.out.below HB.out B.out.lt).all
        have hkk : k = 0 ∨ k = 1 ∨ k = 2 ∨ k = 3 ∨ k = 4 := by omega
        rcases hkk with rfl | rfl | rfl | rfl | rfl
        · by_cases g1 : c.k0 < 1
          · have d1 : decide (c.k0 < 1) = true := decide_eq_true g1
            have e := HN.out (fun h => by unfold okC at h; omega)
            subst e
            clear HJ
            go_wp2
            go_quiet (fail)
            go_wp2
            go_ret
            exact ⟨rfl, bel_drewN LV.out _⟩
          · have d1 : decide (c.k0 < 1) = false := decide_eq_false g1
            by_cases g2 : 100000 < c.k0
            · have d2 : decide (100000 < c.k0) = true := decide_eq_true g2
              have e := HN.out (fun h => by unfold okC at h; omega)
              subst e
              clear HJ
              go_wp2
              go_quiet (fail)
              go_wp2
              go_ret
              exact ⟨rfl, bel_drewN LV.out _⟩
            · have d2 : decide (100000 < c.k0) = false := decide_eq_false g2
              have HJ2 : Hid (okK c 1) := by have := HJ.out; unfold okK at this; show okK c 1; unfold okK; omega
              clear HJ
              go_wp2
              go_quiet (fail)
              go_wp2
              go_roundw
              case rel => exact ⟨1, by omega, by go_num, HJ2, bel_drewN HB.out _⟩
              case measure => simp [intOf]
        · by_cases g1 : c.k1 < 1
          · have d1 : decide (c.k1 < 1) = true := decide_eq_true g1
            have e := HN.out (fun h => by unfold okC at h; omega)
            subst e
            clear HJ
            go_wp2
            go_quiet (fail)
            go_wp2
            go_ret
            exact ⟨rfl, bel_drewN LV.out _⟩
          · have d1 : decide (c.k1 < 1) = false := decide_eq_false g1
            by_cases g2 : 100000 < c.k1
            · have d2 : decide (100000 < c.k1) = true := decide_eq_true g2
              have e := HN.out (fun h => by unfold okC at h; omega)
              subst e
              clear HJ
              go_wp2
              go_quiet (fail)
              go_wp2
              go_ret
              exact ⟨rfl, bel_drewN LV.out _⟩
            · have d2 : decide (100000 < c.k1) = false := decide_eq_false g2
              by_cases g3 : c.k1 < c.k0
              · have d3 : decide (c.k1 < c.k0) = true := decide_eq_true g3
                have e := HN.out (fun h => by unfold okC at h; omega)
                subst e
                clear HJ
                go_wp2
                go_quiet (fail)
                go_wp2
                go_ret
                exact ⟨rfl, bel_drewN LV.out _⟩
              · have d3 : decide (c.k1 < c.k0) = false := decide_eq_false g3
                have HJ2 : Hid (okK c 2) := by have := HJ.out; unfold okK at this; show okK c 2; unfold okK; omega
                clear HJ
                go_wp2
                go_quiet (fail)
                go_wp2
                go_roundw
                case rel => exact ⟨2, by omega, by go_num, HJ2, bel_drewN HB.out _⟩
                case measure => simp [intOf]
        · by_cases g1 : c.k2 < 1
          · have d1 : decide (c.k2 < 1) = true := decide_eq_true g1
            have e := HN.out (fun h => by unfold okC at h; omega)
            subst e
            clear HJ
            go_wp2
            go_quiet (fail)
            go_wp2
            go_ret
            exact ⟨rfl, bel_drewN LV.out _⟩
          · have d1 : decide (c.k2 < 1) = false := decide_eq_false g1
            by_cases g2 : 100000 < c.k2
            · have d2 : decide (100000 < c.k2) = true := decide_eq_true g2
              have e := HN.out (fun h => by unfold okC at h; omega)
              subst e
              clear HJ
              go_wp2
              go_quiet (fail)
              go_wp2
              go_ret
              exact ⟨rfl, bel_drewN LV.out _⟩
            · have d2 : decide (100000 < c.k2) = false := decide_eq_false g2
              by_cases g3 : c.k2 < c.k1
              · have d3 : decide (c.k2 < c.k1) = true := decide_eq_true g3
                have e := HN.out (fun h => by unfold okC at h; omega)
                subst e
                clear HJ
                go_wp2
                go_quiet (fail)
                go_wp2
                go_ret
                exact ⟨rfl, bel_drewN LV.out _⟩
              · have d3 : decide (c.k2 < c.k1) = false := decide_eq_false g3
                have HJ2 : Hid (okK c 3) := by have := HJ.out; unfold okK at this; show okK c 3; unfold okK; omega
                clear HJ
                go_wp2
                go_quiet (fail)
                go_wp2
                go_roundw
                case rel => exact ⟨3, by omega, by go_num, HJ2, bel_drewN HB.out _⟩
                case measure => simp [intOf]
        · by_cases g1 : c.k3 < 1
          · have d1 : decide (c.k3 < 1) = true := decide_eq_true g1
            have e := HN.out (fun h => by unfold okC at h; omega)
            subst e
            clear HJ
            go_wp2
            go_quiet (fail)
            go_wp2
            go_ret
            exact ⟨rfl, bel_drewN LV.out _⟩
          · have d1 : decide (c.k3 < 1) = false := decide_eq_false g1
            by_cases g2 : 100000 < c.k3
            · have d2 : decide (100000 < c.k3) = true := decide_eq_true g2
              have e := HN.out (fun h => by unfold okC at h; omega)
              subst e
              clear HJ
              go_wp2
              go_quiet (fail)
              go_wp2
              go_ret
              exact ⟨rfl, bel_drewN LV.out _⟩
            · have d2 : decide (100000 < c.k3) = false := decide_eq_false g2
              by_cases g3 : c.k3 < c.k2
              · have d3 : decide (c.k3 < c.k2) = true := decide_eq_true g3
                have e := HN.out (fun h => by unfold okC at h; omega)
                subst e
                clear HJ
                go_wp2
                go_quiet (fail)
                go_wp2
                go_ret
                exact ⟨rfl, bel_drewN LV.out _⟩
              · have d3 : decide (c.k3 < c.k2) = false := decide_eq_false g3
                have HJ2 : Hid (okK c 4) := by have := HJ.out; unfold okK at this; show okK c 4; unfold okK; omega
                clear HJ
                go_wp2
                go_quiet (fail)
                go_wp2
                go_roundw
                case rel => exact ⟨4, by omega, by go_num, HJ2, bel_drewN HB.out _⟩
                case measure => simp [intOf]
        · have e := HY.out (by have := HJ.out; unfold okK at this; unfold okC; omega)
          subst e
          go_wp2
          go_ret
          exact ⟨rfl, LV.out⟩
end Go.Proofs.YtejflcfcbjadhaaDoor
