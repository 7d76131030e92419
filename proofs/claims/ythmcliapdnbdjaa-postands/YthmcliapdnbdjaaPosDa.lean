/-
  What post's own Rises, rise and tell come to, and what the iterator that tell hands back does with the laws' collector: contracts, for every world.
  Conditions: the slices show their numbers; as each theorem says.
-/
import Derived.Test.YthmcliapdnbdjaaPosC
import Derived.Test.YthmcliapdnbdjaaPosA
namespace Go.Proofs.Ythmcliapdnbdjaa
open Go.RowKit
set_option maxRecDepth 20000

set_option maxHeartbeats 1000000 in
theorem prises_any (a : Option Addr) (n cap : Nat) (zs : List Int) (w : World) (hs : SlI w a n cap zs) :
    Calls Try.prog 11 #[.slice a n cap] w fun e w' => e = .returned (.bool (decide (upI zs))) ∧ Below w.heap.size w w' := by
  have HS := hide hs
  have HL := hide hs.1.1
  have hn := hs.1.2.1
  clear hs
  go_enter Try.func11, Try.ntmps11
  go_wp2
  go_loopw [3] (fun i wr => ∃ k : Nat, (k + 1 ≤ n ∨ k = 0) ∧ i = .int .i64 ((k : Int) + 1) ∧ Hid (upI (zs.take (k + 1))) ∧ Hid (Below w.heap.size w wr)) (fun i _ => n + 1 - (intOf i).toNat)
  case atStart =>
    refine ⟨0, Or.inr rfl, rfl, ?_, Below.refl _ _⟩
    show upI _
    match zs with
    | [] => exact upI_nil
    | x :: _ => simp [upI]
  case round =>
    obtain ⟨k, hk, rfl, HU, HW⟩ := hrel
    by_cases hlt : k + 1 < n
    · obtain ⟨b, off, rfl, g0⟩ := (HS.out.below HW.out (Nat.le_refl _)).at' (i := k) (by omega)
      obtain ⟨b', off', e, g1⟩ := (HS.out.below HW.out (Nat.le_refl _)).at' (i := k + 1) hlt
      simp only [Option.some.injEq, Addr.mk.injEq, and_true] at e
      obtain ⟨rfl, rfl⟩ := e
      have ST := hide (upI_step (l := zs) (k := k) (by rw [HL.out]; exact hlt) HU.out)
      rw [← getD_is, ← getD_is] at ST
      have HN : Hid (¬ upI (zs.take (k + 2)) → decide (upI zs) = false) := fun h => decide_eq_false (fun hu => h (upI_take _ hu))
      have j0 : ((k : Int) + 1 - 1).toNat = k := by omega
      have j1 : ((k : Int) + 1).toNat = k + 1 := by omega
      have i1 : (0 : Int) ≤ (k : Int) + 1 := by omega
      have i2 : (k : Int) + 1 < (n : Int) := by omega
      have i3 : (0 : Int) ≤ (k : Int) + 1 - 1 := by omega
      have i4 : (k : Int) + 1 - 1 < (n : Int) := by omega
      generalize zs.getD k 0 = x at *
      generalize zs.getD (k + 1) 0 = y at *
      by_cases hxy : x < y
      · have t : ¬ y ≤ x := by omega
        have HU2 : Hid (upI (zs.take (k + 1 + 1))) := ST.out.2 hxy
        clear hxy
        go_wp2
        go_region
        go_wp2
        go_roundw
        case rel => exact ⟨k + 1, Or.inl (by omega), by go_num, HU2, HW.out.drew⟩
        case measure => simp [intOf]; omega
      · have t : y ≤ x := by omega
        have HN2 : Hid (decide (upI zs) = false) := HN.out (fun h => hxy (ST.out.1 h))
        clear hxy
        go_wp2
        go_region
        go_wp2
        go_ret
        refine ⟨?_, HW.out.drew⟩
        show Ending.returned (.bool false) = _
        rw [HN2.out]
    · have i2 : ¬ (k : Int) + 1 < (n : Int) := by omega
      have HN : Hid (decide (upI zs) = true) := decide_eq_true (upI_all (n := k + 1) (by rw [HL.out]; omega) HU.out)
      go_wp2
      go_ret
      refine ⟨?_, HW.out⟩
      show Ending.returned (.bool true) = _
      rw [HN.out]

/-- Do all of them rise? -/
def allUp (ls : List (List Int)) : Bool := ls.all (fun l => decide (upI l))
theorem allUp_iff {ls : List (List Int)} : allUp ls = true ↔ ∀ l ∈ ls, upI l := by
  unfold allUp
  rw [List.all_eq_true]
  exact ⟨fun h l hl => of_decide_eq_true (h l hl), fun h l hl => decide_eq_true (h l hl)⟩
theorem allUp_step {ls : List (List Int)} {k : Nat} (h : k < ls.length) (hk : allUp (ls.take k) = true) : allUp (ls.take (k + 1)) = decide (upI (ls.getD k [])) := by
  rw [takeL_get h]
  unfold allUp at hk ⊢
  rw [List.all_append, hk]
  simp
theorem allUp_not {ls : List (List Int)} {k : Nat} (h : k < ls.length) (hk : ¬ upI (ls.getD k [])) : allUp ls = false := by
  rw [Bool.eq_false_iff]
  intro e
  exact hk (allUp_iff.1 e _ (getL_mem h))

set_option maxHeartbeats 1000000 in
theorem rise_any (a : Option Addr) (n cap : Nat) (ls : List (List Int)) (w : World) (hs : RowII w a n ls) :
    Calls Try.prog 26 #[.slice a n cap] w fun e w' => e = .returned (.bool (allUp ls)) ∧ Below w.heap.size w w' := by
  have HS := hide hs
  have HL := hide hs.1
  have hn := hs.2.1
  obtain ⟨ans, HA⟩ : ∃ ans, Hid (allUp ls = ans) := ⟨_, rfl⟩
  rw [HA.out]
  clear hs
  go_enter Try.func26, Try.ntmps26
  go_wp2
  go_loopw [7] (fun i wr => ∃ k : Nat, k ≤ n ∧ i = .int .i64 k ∧ Hid (allUp (ls.take k) = true) ∧ Hid (Below w.heap.size w wr)) (fun i _ => n - (intOf i).toNat)
  case atStart => exact ⟨0, by omega, rfl, rfl, Below.refl _ _⟩
  case round =>
    obtain ⟨k, hk, rfl, HU, BW⟩ := hrel
    obtain ⟨u, rfl⟩ : ∃ u, u = wr := ⟨wr, rfl⟩
    by_cases hlt : k < n
    · obtain ⟨b, off, a1, n1, c1, e, g00, q1⟩ := HS.out.at' hlt
      subst e
      have g0 : u.cell? ⟨b, off + k, none⟩ = some (.slice a1 n1 c1) := by
        rw [BW.out.cell (p := ⟨b, off + k, none⟩) (World.block_lt_of_cell? w _ g00)]
        exact g00
      have i1 : (0 : Int) ≤ (k : Int) := by omega
      have i2 : (k : Int) < (n : Int) := by omega
      have HK : Hid (k < ls.length) := by show _ < _; rw [HL.out]; exact hlt
      have RR := hide (prises_any a1 n1 c1 _ u (q1.below BW.out (Nat.le_refl _)))
      clear q1 g00
      by_cases hup : upI (ls.getD k [])
      · rw [decide_eq_true hup] at RR
        have HU1 : Hid (allUp (ls.take (k + 1)) = true) := by
          show _ = _
          rw [allUp_step HK.out HU.out, decide_eq_true hup]
        clear hup
        go_wp2_with fail
        with_reducible refine RR.out.mono ?_
        rintro e u1 ⟨rfl, b1⟩
        have B1 := hide (bel_to BW.out (Nat.le_refl _) b1)
        clear b1 RR g0
        go_wp2
        go_roundw
        case rel => exact ⟨k + 1, by omega, by go_num, HU1, B1⟩
        case measure => simp [intOf]; omega
      · rw [decide_eq_false hup] at RR
        have HF : Hid (false = ans) := by rw [← HA.out]; exact (allUp_not HK.out hup).symm
        clear hup
        go_wp2_with fail
        with_reducible refine RR.out.mono ?_
        rintro e u1 ⟨rfl, b1⟩
        have B1 := hide (bel_to BW.out (Nat.le_refl _) b1)
        clear b1 RR g0
        go_wp2
        go_ret
        exact ⟨by rw [← HF.out]; rfl, B1.out⟩
    · have i2 : ¬ (k : Int) < (n : Int) := by omega
      have HF : Hid (true = ans) := by
        rw [← HA.out]
        have := HU.out
        rw [List.take_of_length_le (by rw [HL.out]; omega)] at this
        exact this.symm
      go_wp2
      go_ret
      exact ⟨by rw [← HF.out]; rfl, BW.out⟩

/-- What tell hands back: it holds the list in a box. -/
def tellF (B : Nat) : Value := .func (.func 35) #[] #[.pointer (some ⟨B, 0, none⟩)]
theorem tell_any (a : Option Addr) (n cap : Nat) (w : World) :
    Calls Try.prog 27 #[.slice a n cap] w fun e w' => e = .returned (tellF w.heap.size) ∧ w' = w.alloc (.cells #[.slice a n cap] 22) := by
  have hmf : ∀ (fn : Fn) (first cap : Array Value) (w : World), (Instr.makeFunc fn first cap).run Try.prog w = .ok (.func fn first cap) w := fun _ _ _ _ => rfl
  go_enter Try.func27, Try.ntmps27
  go_wp2
  go_ret
  exact ⟨rfl, rfl⟩

set_option maxHeartbeats 2000000 in
theorem tellgo_any (w : World) (Bk : Nat) (a : Option Addr) (n cap : Nat) (zs : List Int) (hk : Boxed w Bk 22 (.slice a n cap)) (hr : SlI w a n cap zs) (hn8 : n ≤ 1000000) : GoesC 35 #[.pointer (some ⟨Bk, 0, none⟩)] w zs := by
  intro W0 n0 Bl Bm most v hB0 hn0 hC hm
  have hcell := (boxed_below hk hB0).cell
  have HR := hide hr
  have HL := hide hr.1.1
  have HC := hide hC
  have HB0 := hide hB0
  have HN0 := hide hn0
  clear hr hk hC hB0 hn0
  show Calls Try.prog 35 #[.func (.func 34) #[] #[.pointer (some ⟨Bl, 0, none⟩), .pointer (some ⟨Bm, 0, none⟩)], .pointer (some ⟨Bk, 0, none⟩)] W0 _
  go_enter Try.func35, Try.ntmps35
  go_wp2
  clear hcell
  go_loopw [7] (fun i wr => ∃ (k : Nat), k ≤ n ∧ i = .int .i64 k ∧ (k = 0 ∨ (k : Int) < most) ∧ Hid (∃ v', CollI wr n0 Bl Bm (zs.take k) most v') ∧ Hid (Below n0 W0 wr)) (fun i _ => n - (intOf i).toNat)
  case atStart => exact ⟨0, by omega, rfl, Or.inl rfl, ⟨v, HC.out⟩, Below.refl _ _⟩
  case round =>
    obtain ⟨k, hk, rfl, hkm, HV, HB⟩ := hrel
    by_cases hlt : k < n
    · obtain ⟨v1, hv1⟩ := HV.out
      obtain ⟨b, off, rfl, hck⟩ := (HR.out.below (HB0.out.trans (HB.out.mono HN0.out)) (Nat.le_refl _)).at' hlt
      have HS : Hid (zs.take (k + 1) = zs.take k ++ [zs.getD k 0]) := take_get (by rw [HL.out]; exact hlt)
      have P := hide (cpush_any (zs.getD k 0) wr n0 Bl Bm k (zs.take k) most v1 hv1 (by rw [List.length_take, HL.out]; omega) (by omega))
      rw [← HS.out] at P
      clear hv1
      generalize zs.getD k 0 = z at *
      obtain ⟨bb, hbb⟩ : ∃ bb, decide ((k : Int) + 1 < most) = bb := ⟨_, rfl⟩
      rw [hbb] at P
      have HBT : Hid (bb = true → (k : Int) + 1 < most) := fun h => of_decide_eq_true (hbb.trans h)
      have HBF : Hid (bb = false → ¬ (k : Int) + 1 < most) := fun h => of_decide_eq_false (hbb.trans h)
      have i1 : (0 : Int) ≤ (k : Int) := by omega
      have i2 : (k : Int) < (n : Int) := by omega
      clear hbb
      go_wp2_with fail
      with_reducible refine P.out.mono ?_
      rintro e w2 ⟨rfl, v2, hv2, hb2⟩
      have HV2 : Hid (∃ v', CollI w2 n0 Bl Bm (zs.take (k + 1)) most v') := ⟨v2, hv2⟩
      have HB2 : Hid (Below n0 W0 w2) := HB.out.trans hb2
      clear hv2 hb2 P hck HB HV HS
      cases bb
      · have h1 := HBF.out rfl
        have HE : Hid (zs.take most.toNat = zs.take (k + 1)) := by
          have e1 : most.toNat = k + 1 := by rcases hkm with h | h <;> omega
          show _ = _
          rw [e1]
        clear h1 HBT HBF
        go_wp2
        refine bodyPost_ret (results_none rfl _ _ _) rfl ?_
        exact ⟨rfl, by rw [HE.out]; exact HV2.out, HB2.out⟩
      · have h1 := HBT.out rfl
        go_wp2
        go_roundw
        case rel => exact ⟨k + 1, by omega, by go_num, Or.inr (by omega), HV2, HB2⟩
        case measure => simp [intOf]; omega
    · have : k = n := by omega
      subst this
      have HE : Hid (zs.take most.toNat = zs.take k) := by
        show _ = _
        have h1 : k ≤ most.toNat := by rcases hkm with h | h <;> omega
        rw [List.take_of_length_le (by rw [HL.out]; omega), List.take_of_length_le (by rw [HL.out]; omega)]
      go_wp2
      go_end0
      exact ⟨rfl, by rw [HE.out]; exact HV.out, HB.out⟩
end Go.Proofs.Ythmcliapdnbdjaa
