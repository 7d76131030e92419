/-
  What Check, Level and Coarsest of the program's cal tell: contracts (written by gen/caldb.gen.py).
  Conditions: the table of slots lies in its variable, where it is read; else none.
-/
import Derived.Test.YtejflcfcbjadhaaDoorCalDa
import Derived.WalkMore
namespace Go.Proofs.YtejflcfcbjadhaaDoor
open Go.RowKit
set_option maxRecDepth 20000

/-- How many days the level ahead is kept, one at least. -/
def ahC (c : Cf) (k : Nat) : Int := if k = 0 then 1 else if k = 1 then c.k0 else if k = 2 then c.k1 else if k = 3 then c.k2 else c.k3
/-- The first keeps rise as they may. -/
def okA (c : Cf) (k : Nat) : Prop := (1 ≤ k → 1 ≤ c.k0 ∧ c.k0 ≤ 100000) ∧ (2 ≤ k → c.k0 ≤ c.k1 ∧ c.k1 ≤ 100000) ∧ (3 ≤ k → c.k1 ≤ c.k2 ∧ c.k2 ≤ 100000) ∧ (4 ≤ k → c.k2 ≤ c.k3 ∧ c.k3 ≤ 100000)

set_option maxHeartbeats 8000000 in
theorem chk_any (c : Cf) (w : World) :
    Calls Tryd.prog 9 #[cfV c] w fun e w' => e = .returned (.bool (chkC c)) ∧ Below w.heap.size w w' := by
  obtain ⟨W, hW⟩ : ∃ W, Hid (w.alloc (.cells #[.int .i64 c.sl, .int .i64 c.k0, .int .i64 c.k1, .int .i64 c.k2, .int .i64 c.k3] 24) = W) := ⟨_, rfl⟩
  have LW : Hid (Below w.heap.size w W) := by rw [← hW.out]; exact (Below.refl _ _).alloc (Nat.le_refl _) _
  have B : Hid (BoxC W w.heap.size c) := by rw [← hW.out]; exact boxC_new w c
  obtain ⟨b0, b1, b2, b3, b4⟩ := B.out.all
  have HN : Hid (¬ okC c → chkC c = false) := fun h => decide_eq_false h
  have HY : Hid (okC c → chkC c = true) := fun h => decide_eq_true h
  obtain ⟨X, hX⟩ : ∃ X, Hid (chkC c = X) := ⟨_, rfl⟩
  rw [hX.out] at HN HY
  rw [hX.out]
  by_cases h0 : c.sl < 0
  · have e := HN.out (fun h => by unfold okC at h; omega)
    subst e
    go_enter Tryd.func9, Tryd.ntmps9
    go_upto_region 1 with fail
    rw [hW.out]
    clear hW
    go_wp2
    go_ret
    exact ⟨rfl, LW.out⟩
  · by_cases h1 : 8640000 < c.sl
    · have e := HN.out (fun h => by unfold okC at h; omega)
      subst e
      go_enter Tryd.func9, Tryd.ntmps9
      go_upto_region 1 with fail
      rw [hW.out]
      clear hW
      go_wp2
      go_ret
      exact ⟨rfl, LW.out⟩
    · go_enter Tryd.func9, Tryd.ntmps9
      go_upto_region 1 with fail
      rw [hW.out]
      clear hW
      go_wp2
      clear b0 b1 b2 b3 b4
      go_loopw [16, 3] (fun i a wr => ∃ k : Nat, k ≤ 4 ∧ i = .int .i64 k ∧ a = .int .i64 (ahC c k) ∧ Hid (okA c k) ∧ wr = W) (fun i _ _ => 4 - (intOf i).toNat)
      case atStart => exact ⟨0, by omega, rfl, rfl, by refine ⟨?_, ?_, ?_, ?_⟩ <;> (intro h; omega), rfl⟩
      case round =>
        obtain ⟨k, hk, rfl, rfl, HJ, rfl⟩ := hrel
        have hkk : k = 0 ∨ k = 1 ∨ k = 2 ∨ k = 3 ∨ k = 4 := by omega
        rcases hkk with rfl | rfl | rfl | rfl | rfl
        · rw [show ahC c 0 = 1 from rfl]
          have ix : ∀ v, (Instr.index 22 (.agg #[.int .i64 c.k0, .int .i64 c.k1, .int .i64 c.k2, .int .i64 c.k3]) (.int .i64 0)).run Tryd.prog v = .ok (.int .i64 c.k0) v := fun _ => by kernel_rfl
          by_cases g1 : c.k0 < 1
          · have d1 : decide (c.k0 < 1) = true := decide_eq_true g1
            have e := HN.out (fun h => by unfold okC at h; omega)
            subst e
            clear HJ
            go_wp2
            go_ret
            exact ⟨rfl, LW.out⟩
          · have d1 : decide (c.k0 < 1) = false := decide_eq_false g1
            by_cases g2 : 100000 < c.k0
            · have d2 : decide (100000 < c.k0) = true := decide_eq_true g2
              have e := HN.out (fun h => by unfold okC at h; omega)
              subst e
              clear HJ
              go_wp2
              go_ret
              exact ⟨rfl, LW.out⟩
            · have d2 : decide (100000 < c.k0) = false := decide_eq_false g2
              have HJ2 : Hid (okA c 1) := by have := HJ.out; unfold okA at this; show okA c 1; unfold okA; omega
              clear HJ
              go_wp2
              go_roundw
              case rel => exact ⟨1, by omega, by go_num, by rfl, HJ2, by trivial⟩
              case measure => simp [intOf]
        · rw [show ahC c 1 = c.k0 from rfl]
          have ix : ∀ v, (Instr.index 22 (.agg #[.int .i64 c.k0, .int .i64 c.k1, .int .i64 c.k2, .int .i64 c.k3]) (.int .i64 1)).run Tryd.prog v = .ok (.int .i64 c.k1) v := fun _ => by kernel_rfl
          by_cases g1 : c.k1 < c.k0
          · have d1 : decide (c.k1 < c.k0) = true := decide_eq_true g1
            have e := HN.out (fun h => by unfold okC at h; omega)
            subst e
            clear HJ
            go_wp2
            go_ret
            exact ⟨rfl, LW.out⟩
          · have d1 : decide (c.k1 < c.k0) = false := decide_eq_false g1
            by_cases g2 : 100000 < c.k1
            · have d2 : decide (100000 < c.k1) = true := decide_eq_true g2
              have e := HN.out (fun h => by unfold okC at h; omega)
              subst e
              clear HJ
              go_wp2
              go_ret
              exact ⟨rfl, LW.out⟩
            · have d2 : decide (100000 < c.k1) = false := decide_eq_false g2
              have HJ2 : Hid (okA c 2) := by have := HJ.out; unfold okA at this; show okA c 2; unfold okA; omega
              clear HJ
              go_wp2
              go_roundw
              case rel => exact ⟨2, by omega, by go_num, by rfl, HJ2, by trivial⟩
              case measure => simp [intOf]
        · rw [show ahC c 2 = c.k1 from rfl]
          have ix : ∀ v, (Instr.index 22 (.agg #[.int .i64 c.k0, .int .i64 c.k1, .int .i64 c.k2, .int .i64 c.k3]) (.int .i64 2)).run Tryd.prog v = .ok (.int .i64 c.k2) v := fun _ => by kernel_rfl
          by_cases g1 : c.k2 < c.k1
          · have d1 : decide (c.k2 < c.k1) = true := decide_eq_true g1
            have e := HN.out (fun h => by unfold okC at h; omega)
            subst e
            clear HJ
            go_wp2
            go_ret
            exact ⟨rfl, LW.out⟩
          · have d1 : decide (c.k2 < c.k1) = false := decide_eq_false g1
            by_cases g2 : 100000 < c.k2
            · have d2 : decide (100000 < c.k2) = true := decide_eq_true g2
              have e := HN.out (fun h => by unfold okC at h; omega)
              subst e
              clear HJ
              go_wp2
              go_ret
              exact ⟨rfl, LW.out⟩
            · have d2 : decide (100000 < c.k2) = false := decide_eq_false g2
              have HJ2 : Hid (okA c 3) := by have := HJ.out; unfold okA at this; show okA c 3; unfold okA; omega
              clear HJ
              go_wp2
              go_roundw
              case rel => exact ⟨3, by omega, by go_num, by rfl, HJ2, by trivial⟩
              case measure => simp [intOf]
        · rw [show ahC c 3 = c.k2 from rfl]
          have ix : ∀ v, (Instr.index 22 (.agg #[.int .i64 c.k0, .int .i64 c.k1, .int .i64 c.k2, .int .i64 c.k3]) (.int .i64 3)).run Tryd.prog v = .ok (.int .i64 c.k3) v := fun _ => by kernel_rfl
          by_cases g1 : c.k3 < c.k2
          · have d1 : decide (c.k3 < c.k2) = true := decide_eq_true g1
            have e := HN.out (fun h => by unfold okC at h; omega)
            subst e
            clear HJ
            go_wp2
            go_ret
            exact ⟨rfl, LW.out⟩
          · have d1 : decide (c.k3 < c.k2) = false := decide_eq_false g1
            by_cases g2 : 100000 < c.k3
            · have d2 : decide (100000 < c.k3) = true := decide_eq_true g2
              have e := HN.out (fun h => by unfold okC at h; omega)
              subst e
              clear HJ
              go_wp2
              go_ret
              exact ⟨rfl, LW.out⟩
            · have d2 : decide (100000 < c.k3) = false := decide_eq_false g2
              have HJ2 : Hid (okA c 4) := by have := HJ.out; unfold okA at this; show okA c 4; unfold okA; omega
              clear HJ
              go_wp2
              go_roundw
              case rel => exact ⟨4, by omega, by go_num, by rfl, HJ2, by trivial⟩
              case measure => simp [intOf]
        · have e := HY.out (by have := HJ.out; unfold okA at this; unfold okC; omega)
          subst e
          go_wp2
          go_ret
          exact ⟨rfl, LW.out⟩

/-- Which days a level has, told by slots. -/
theorem lev_fit {c : Cf} {now day : Int} {l : Int} (ok : okC c) (h0 : 0 ≤ now) (h1 : now ≤ 1099511627776) : horC c now l ≤ fsC day ↔ dayC c now l ≤ day := by
  have a := dayC_now (c := c) ok h0 l
  have b := dayC_nn (c := c) (now := now) l
  unfold horC fsC
  repeat' split
  all_goals omega

/-- None of the first levels has the day. -/
def NoL (c : Cf) (now day : Int) (k : Nat) : Prop := okC c → 0 ≤ now → now ≤ 1099511627776 → ∀ j : Nat, j < k → ¬ dayC c now j ≤ day

set_option maxHeartbeats 8000000 in
theorem lev_any (c : Cf) (now day : Int) (w : World) (hc : CfW c) (hn : (Lit.int .i64 now).wf = true) :
    Calls Tryd.prog 16 #[cfV c, .int .i64 now, .int .i64 day] w fun e w' => ∃ x, e = .returned (.int .i64 x) ∧ (okC c → 0 ≤ now → now ≤ 1099511627776 → x = levC c now day) ∧ Below w.heap.size w w' := by
  obtain ⟨W, hW⟩ : ∃ W, Hid (w.alloc (.cells #[.int .i64 c.sl, .int .i64 c.k0, .int .i64 c.k1, .int .i64 c.k2, .int .i64 c.k3] 24) = W) := ⟨_, rfl⟩
  have LW : Hid (Below w.heap.size w W) := by rw [← hW.out]; exact (Below.refl _ _).alloc (Nat.le_refl _) _
  have B : Hid (BoxC W w.heap.size c) := by rw [← hW.out]; exact boxC_new w c
  obtain ⟨b0, b1, b2, b3, b4⟩ := B.out.all
  have FS := hide (first_any day)
  have HO := hide (fun l u => hor_any c now l u hc hn)
  have HL : Hid (∀ l x, HoP c now l x → okC c → 0 ≤ now → now ≤ 1099511627776 → (x ≤ fsC day ↔ dayC c now l ≤ day)) := fun l x hx ok h0 h1 => by
    rw [hx ok h0 h1]
    exact lev_fit ok h0 h1
  obtain ⟨f, hf⟩ : ∃ f, Hid (fsC day = f) := ⟨_, rfl⟩
  rw [hf.out] at HL
  rw [hf.out] at FS
  clear hc hn hf
  go_enter Tryd.func16, Tryd.ntmps16
  go_upto_region 1 with fail
  rw [hW.out]
  clear hW
  go_wp2_with fail
  with_reducible refine (FS.out _).mono ?_
  rintro e u ⟨rfl, hu⟩
  rw [hu]
  clear hu FS
  go_wp2
  clear b0 b1 b2 b3 b4
  go_loopw [11] (fun i wr => ∃ k : Nat, k ≤ 4 ∧ i = .int .i64 k ∧ Hid (NoL c now day k) ∧ Hid (Below W.heap.size W wr)) (fun i _ => 4 - (intOf i).toNat)
  case atStart => exact ⟨0, by omega, rfl, (fun _ _ _ j h => by omega), Below.refl _ _⟩
  case round =>
    obtain ⟨k, hk, rfl, HJ, HB⟩ := hrel
    obtain ⟨v, rfl⟩ : ∃ v, v = wr := ⟨wr, rfl⟩
    by_cases hlt : k < 4
    · have i2 : (k : Int) < 4 := by omega
      obtain ⟨b0, b1, b2, b3, b4⟩ := (B.out.below HB.out B.out.lt).all
      have HO1 := hide (HO.out k v)
      go_wp2_with fail
      with_reducible refine HO1.out.mono ?_
      rintro e v2 ⟨x, rfl, hx, p2⟩
      have B2 := hide (bel_to HB.out (Nat.le_refl _) p2)
      have HX := hide hx
      clear p2 hx HO1 b0 b1 b2 b3 b4
      by_cases g : x ≤ f
      · have HE : Hid (okC c → 0 ≤ now → now ≤ 1099511627776 → (k : Int) = levC c now day) := fun ok h0 h1 => (levC_first (by omega) (HJ.out ok h0 h1) ((HL.out _ _ HX.out ok h0 h1).1 g)).symm
        have F := hide (bel_to LW.out (Nat.le_refl _) B2.out)
        clear HX
        go_wp2
        go_ret
        exact ⟨_, rfl, HE.out, F.out⟩
      · have HJ2 : Hid (NoL c now day (k + 1)) := fun ok h0 h1 j hj => by
          by_cases e : j = k
          · subst e
            exact fun h => g ((HL.out _ _ HX.out ok h0 h1).2 h)
          · exact HJ.out ok h0 h1 j (by omega)
        clear HX HJ
        go_wp2
        go_roundw
        case rel => exact ⟨k + 1, by omega, by go_num, HJ2, B2⟩
        case measure => simp [intOf]; omega
    · have e4 : k = 4 := by omega
      subst e4
      have HE : Hid (okC c → 0 ≤ now → now ≤ 1099511627776 → (4 : Int) = levC c now day) := fun ok h0 h1 => (levC_gone (HJ.out ok h0 h1)).symm
      have F := hide (bel_to LW.out (Nat.le_refl _) HB.out)
      clear HJ
      go_wp2
      go_ret
      exact ⟨_, rfl, HE.out, F.out⟩
end Go.Proofs.YtejflcfcbjadhaaDoor
