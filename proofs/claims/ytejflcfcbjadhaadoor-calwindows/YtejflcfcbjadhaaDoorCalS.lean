/-
  What the document's Windows, Level, Coarsest and Check tell: contracts, for every world.
  Conditions: as each theorem says.
-/
import Derived.Test.YtejflcfcbjadhaaDoorCalR
namespace Go.Proofs.YtejflcfcbjadhaaDoor
open Go.RowKit
set_option maxRecDepth 20000

set_option maxHeartbeats 4000000 in
theorem rlev_any (c : Cf) (now day : Int) (w : World) (ok : okC c) (h0 : 0 ≤ now) (h1 : now ≤ 1099511627776) :
    Calls Tryd.prog 19 #[cfV c, .int .i64 now, .int .i64 day] w fun e w' => e = .returned (.int .i64 (levC c now day)) ∧ Below w.heap.size w w' := by
  obtain ⟨W, hW⟩ : ∃ W, Hid (w.alloc (.cells #[.int .i64 c.sl, .int .i64 c.k0, .int .i64 c.k1, .int .i64 c.k2, .int .i64 c.k3] 24) = W) := ⟨_, rfl⟩
  have LW : Hid (Below w.heap.size w W) := by rw [← hW.out]; exact (Below.refl _ _).alloc (Nat.le_refl _) _
  have B : Hid (BoxC W w.heap.size c) := by rw [← hW.out]; exact boxC_new w c
  have OK := hide ok
  have HF : Hid (∀ k : Nat, k ≤ 3 → (∀ j : Nat, j < k → day < dayC c now j) → dayC c now k ≤ day → levC c now day = k) := fun k hk h hd => levC_first hk (fun j hj e => by have := h j hj; omega) hd
  have HG : Hid ((∀ j : Nat, j < 4 → day < dayC c now j) → levC c now day = 4) := fun h => levC_gone (fun j hj e => by have := h j hj; omega)
  obtain ⟨X, hX⟩ : ∃ X, Hid (levC c now day = X) := ⟨_, rfl⟩
  rw [hX.out] at HF HG
  rw [hX.out]
  clear ok
  go_enter Tryd.func19, Tryd.ntmps19
  go_upto_region 1 with fail
  rw [hW.out]
  clear hW
  go_wp2
  go_loopw [7] (fun i wr => ∃ k : Nat, k ≤ 4 ∧ i = .int .i64 k ∧ Hid (∀ j : Nat, j < k → day < dayC c now j) ∧ Hid (Below W.heap.size W wr)) (fun i _ => 4 - (intOf i).toNat)
  case atStart => exact ⟨0, by omega, rfl, fun j hj => absurd hj (by omega), Below.refl _ _⟩
  case round =>
    obtain ⟨k, hk, rfl, HJ, HB⟩ := hrel
    obtain ⟨v, rfl⟩ : ∃ v, v = wr := ⟨wr, rfl⟩
    by_cases hlt : k < 4
    · have i2 : (k : Int) < 4 := by omega
      have RH := hide (rhor_any c now (k : Int) v OK.out h0 h1 (by simp [Lit.wf, IntKind.min, IntKind.max, IntKind.signed, IntKind.bits]; omega))
      obtain ⟨b0, b1, b2, b3, b4⟩ := (B.out.below HB.out B.out.lt).all
      have hd0 := dayC_nn (c := c) (now := now) (k : Int)
      have hd1 := (dayC_now OK.out h0 (k : Int)).1
      have HJ2 : Hid (day < dayC c now k → ∀ j : Nat, j < k + 1 → day < dayC c now j) := fun h j hj => by
        by_cases e : j = k
        · subst e
          exact h
        · exact HJ.out j (by omega)
      have HE := hide (HF.out k (by omega) HJ.out)
      unfold horC at RH
      generalize dayC c now (k : Int) = d at *
      have hq : (d * 8640).tdiv 8640 = d := by rw [Int.tdiv_eq_ediv_of_nonneg (by omega)]; omega
      clear HJ
      go_wp2_with fail
      with_reducible refine RH.out.mono ?_
      rintro e v2 ⟨rfl, bv⟩
      have B2 := hide (bel_to HB.out (Nat.le_refl _) bv)
      have L2 := hide (bel_to LW.out (Nat.le_refl _) B2.out)
      clear RH bv b0 b1 b2 b3 b4 HB
      by_cases hd : d ≤ day
      · have e := HE.out hd
        subst e
        go_wp2
        go_ret
        exact ⟨rfl, L2.out⟩
      · have HJ3 := hide (HJ2.out (by omega))
        clear HJ2 HE
        go_wp2
        go_roundw
        case rel => exact ⟨k + 1, by omega, by go_num, HJ3, B2⟩
        case measure => simp [intOf]; omega
    · have e4 : k = 4 := by omega
      subst e4
      have e := HG.out HJ.out
      subst e
      have L2 := hide (bel_to LW.out (Nat.le_refl _) HB.out)
      go_wp2
      go_ret
      exact ⟨rfl, L2.out⟩

/-- Whether both are multiples. -/
def bothC (s t r : Int) : Bool := decide (s % r = 0) && decide (t % r = 0)
theorem coaC_eq (s t : Int) : coaC s t = if bothC s t 8640 = true then 3 else if bothC s t 360 = true then 2 else if bothC s t 6 = true then 1 else 0 := by
  unfold coaC bothC
  simp only [Bool.and_eq_true, decide_eq_true_eq]
theorem resC_at {k : Nat} (h1 : 1 ≤ k) (h3 : k ≤ 3) : resC k = (if k = 3 then 8640 else if k = 2 then 360 else 6) ∧ 0 < resC k := by
  have : k = 1 ∨ k = 2 ∨ k = 3 := by omega
  rcases this with rfl | rfl | rfl <;> decide
theorem coaC_at {s t : Int} {k : Nat} (h1 : 1 ≤ k) (h3 : k ≤ 3) (h : ∀ j : Nat, k < j → j ≤ 3 → bothC s t (resC j) = false) (hk : bothC s t (resC k) = true) : coaC s t = k := by
  rw [coaC_eq]
  have : k = 1 ∨ k = 2 ∨ k = 3 := by omega
  rcases this with rfl | rfl | rfl
  · have a := h 3 (by omega) (by omega)
    have b := h 2 (by omega) (by omega)
    rw [if_neg (by rw [show bothC s t 8640 = false from a]; decide), if_neg (by rw [show bothC s t 360 = false from b]; decide), if_pos (show bothC s t 6 = true from hk)]
    rfl
  · have a := h 3 (by omega) (by omega)
    rw [if_neg (by rw [show bothC s t 8640 = false from a]; decide), if_pos (show bothC s t 360 = true from hk)]
    rfl
  · rw [if_pos (show bothC s t 8640 = true from hk)]
    rfl
theorem coaC_none {s t : Int} (h : ∀ j : Nat, 0 < j → j ≤ 3 → bothC s t (resC j) = false) : coaC s t = 0 := by
  rw [coaC_eq, if_neg (by rw [show bothC s t 8640 = false from h 3 (by omega) (by omega)]; decide), if_neg (by rw [show bothC s t 360 = false from h 2 (by omega) (by omega)]; decide), if_neg (by rw [show bothC s t 6 = false from h 1 (by omega) (by omega)]; decide)]

set_option maxHeartbeats 4000000 in
theorem rcoa_any (s t : Int) (w : World) :
    Calls Tryd.prog 21 #[.int .i64 s, .int .i64 t] w fun e w' => e = .returned (.int .i64 (coaC s t)) ∧ Below w.heap.size w w' := by
  have HF : Hid (∀ k : Nat, 1 ≤ k → k ≤ 3 → (∀ j : Nat, k < j → j ≤ 3 → bothC s t (resC j) = false) → bothC s t (resC k) = true → coaC s t = k) := fun k a b c d => coaC_at a b c d
  have HG : Hid ((∀ j : Nat, 0 < j → j ≤ 3 → bothC s t (resC j) = false) → coaC s t = 0) := fun h => coaC_none h
  obtain ⟨X, hX⟩ : ∃ X, Hid (coaC s t = X) := ⟨_, rfl⟩
  rw [hX.out] at HF HG
  rw [hX.out]
  go_enter Tryd.func21, Tryd.ntmps21
  go_wp2
  go_loopw [5] (fun i wr => ∃ k : Nat, k ≤ 3 ∧ i = .int .i64 k ∧ Hid (∀ j : Nat, k < j → j ≤ 3 → bothC s t (resC j) = false) ∧ Hid (Below w.heap.size w wr)) (fun i _ => (intOf i).toNat)
  case atStart => exact ⟨3, by omega, rfl, fun j hj h3 => absurd hj (by omega), Below.refl _ _⟩
  case round =>
    obtain ⟨k, hk, rfl, HJ, HB⟩ := hrel
    obtain ⟨v, rfl⟩ : ∃ v, v = wr := ⟨wr, rfl⟩
    by_cases hlt : 0 < k
    · have i2 : (0 : Int) < (k : Int) := by omega
      have RR := hide (rres_any (k : Int) v)
      obtain ⟨-, hr⟩ := resC_at (k := k) (by omega) hk
      have HJ2 : Hid (bothC s t (resC k) = false → ∀ j : Nat, k - 1 < j → j ≤ 3 → bothC s t (resC j) = false) := fun h j hj h3 => by
        by_cases e : j = k
        · subst e
          exact h
        · exact HJ.out j (by omega) h3
      have HE := hide (HF.out k (by omega) hk HJ.out)
      have t1 := tmod_zero s hr
      have t2 := tmod_zero t hr
      have hr1 : (resC (k : Int) == 0) = false := by simp; omega
      have hr2 : ¬ resC (k : Int) = 0 := by omega
      unfold bothC at HE HJ2
      have hrm : resC (k : Int) ≤ 8640 := by rcases resC_cases (k : Int) with h | h | h | h | h <;> omega
      generalize resC (k : Int) = r at *
      clear HJ
      cases q1 : decide (s % r = 0) with
      | false =>
        rw [q1] at t1 HJ2
        have HJ3 := hide (HJ2.out rfl)
        clear HJ2 HE q1 t2
        go_wp2_with fail
        with_reducible refine RR.out.mono ?_
        rintro e v2 ⟨rfl, hv⟩
        rw [hv]
        clear hv RR
        go_wp2
        go_roundw
        case rel => exact ⟨k - 1, by omega, by go_num, HJ3, HB⟩
        case measure => simp [intOf]; omega
      | true =>
        rw [q1] at t1 HJ2 HE
        rw [Bool.true_and] at HJ2 HE
        cases q2 : decide (t % r = 0) with
        | false =>
          rw [q2] at t2 HJ2
          have HJ3 := hide (HJ2.out rfl)
          clear HJ2 HE q1 q2
          go_wp2_with fail
          with_reducible refine RR.out.mono ?_
          rintro e v2 ⟨rfl, hv⟩
          rw [hv]
          clear hv
          go_wp2_with fail
          with_reducible refine RR.out.mono ?_
          rintro e v2 ⟨rfl, hv⟩
          rw [hv]
          clear hv RR
          go_wp2
          go_roundw
          case rel => exact ⟨k - 1, by omega, by go_num, HJ3, HB⟩
          case measure => simp [intOf]; omega
        | true =>
          rw [q2] at t2 HE
          have e := HE.out rfl
          subst e
          clear HJ2 HE q1 q2
          go_wp2_with fail
          with_reducible refine RR.out.mono ?_
          rintro e v2 ⟨rfl, hv⟩
          rw [hv]
          clear hv
          go_wp2_with fail
          with_reducible refine RR.out.mono ?_
          rintro e v2 ⟨rfl, hv⟩
          rw [hv]
          clear hv RR
          go_wp2
          go_ret
          exact ⟨rfl, HB.out⟩
    · have e4 : k = 0 := by omega
      subst e4
      have e := HG.out HJ.out
      subst e
      go_wp2
      go_ret
      exact ⟨rfl, HB.out⟩
end Go.Proofs.YtejflcfcbjadhaaDoor
