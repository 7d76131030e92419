/-
  What Windows of the program's cal tells, and how its iterator goes on: contracts, for every world.
  Conditions: as each theorem says.
-/
import Derived.Test.YtejflcfcbjadhaaDoorCalX
import Derived.WalkMore
namespace Go.Proofs.YtejflcfcbjadhaaDoor
open Go.RowKit
set_option maxRecDepth 20000

set_option maxHeartbeats 4000000 in
theorem wingo_any (W0 : World) (n0 Bn Bs Bt Bl Bm : Nat) (s t : Int) (n : Nat) (most : Int) (v : Value)
    (hn : Boxed W0 Bn 3 (.int .i64 n)) (hs : Boxed W0 Bs 3 (.int .i64 s)) (ht : Boxed W0 Bt 3 (.int .i64 t)) (as' : Bs < n0) (at' : Bt < n0)
    (hb : n = 0 ∨ (0 ≤ s ∧ 1 ≤ t ∧ s + (n : Int) * t ≤ 1099511627776)) (hC : CollW W0 n0 Bl Bm [] most v) (hm : 1 ≤ most) (hm2 : most ≤ 1000) :
    Calls Tryd.prog 28 #[.func (.func 29) #[] #[.pointer (some ⟨Bl, 0, none⟩), .pointer (some ⟨Bm, 0, none⟩)], .pointer (some ⟨Bn, 0, none⟩), .pointer (some ⟨Bs, 0, none⟩), .pointer (some ⟨Bt, 0, none⟩)] W0 fun e W' =>
      e = .returned (.tuple #[]) ∧ (∃ v', CollW W' n0 Bl Bm ((winL s t n).take most.toNat) most v') ∧ Below n0 W0 W' := by
  have cn := hn.cell
  have HS := hide hs.cell
  have HT := hide ht.cell
  have HC := hide hC
  have HO : Hid (∀ k : Nat, k < n → ∃ P, (k : Int) * t = P ∧ IntKind.i64.wrap ((k : Int) * t) = P ∧ 0 ≤ P ∧ 0 ≤ s ∧ 1 ≤ t ∧ s + P + t ≤ 1099511627776) := fun k hk => by
    have h1 := hb.resolve_left (by omega)
    have h2 : ((k : Int) + 1) * t ≤ (n : Int) * t := Int.mul_le_mul_of_nonneg_right (by omega) (by omega)
    have h3 : 0 ≤ (k : Int) * t := Int.mul_nonneg (by omega) (by omega)
    rw [Int.add_mul, Int.one_mul] at h2
    refine ⟨_, rfl, ?_, h3, h1.1, h1.2.1, by omega⟩
    rw [IntKind.wrap_i64]
    omega
  clear hn hs ht hC hb
  go_enter Tryd.func28, Tryd.ntmps28
  go_wp2
  clear cn
  go_loopw [8] (fun i wr => ∃ (k : Nat), k ≤ n ∧ i = .int .i64 k ∧ (k = 0 ∨ (k : Int) < most) ∧ Hid (∃ v', CollW wr n0 Bl Bm (winL s t k) most v') ∧ Hid (Below n0 W0 wr)) (fun i _ => n - (intOf i).toNat)
  case atStart => exact ⟨0, by omega, rfl, Or.inl rfl, ⟨v, HC.out⟩, Below.refl _ _⟩
  case round =>
    obtain ⟨k, hk, rfl, hkm, HV, HB⟩ := hrel
    by_cases hlt : k < n
    · obtain ⟨v1, hv1⟩ := HV.out
      have hcs := (HB.out.cell (p := ⟨Bs, 0, none⟩) as').trans HS.out
      have hct := (HB.out.cell (p := ⟨Bt, 0, none⟩) at').trans HT.out
      obtain ⟨P, hP, hw, p0, s0, t0, p1⟩ := HO.out k hlt
      have HM : Hid (winL s t (k + 1) = winL s t k ++ [(s + P, s + P + t)]) := by
        show _ = _
        rw [winL_more, hP]
      have PU := hide (wpush_any (s + P) (s + P + t) wr n0 Bl Bm k (winL s t k) most v1 hv1 (winL_len _ _ _) (by omega))
      rw [← HM.out] at PU
      clear hv1 HM hP
      obtain ⟨bb, hbb⟩ : ∃ bb, decide ((k : Int) + 1 < most) = bb := ⟨_, rfl⟩
      rw [hbb] at PU
      have HBT : Hid (bb = true → (k : Int) + 1 < most) := fun h => of_decide_eq_true (hbb.trans h)
      have HBF : Hid (bb = false → ¬ (k : Int) + 1 < most) := fun h => of_decide_eq_false (hbb.trans h)
      clear hbb
      go_wp2_with fail
      refine PU.out.mono ?_
      rintro e w2 ⟨rfl, v2, hv2, hb2⟩
      have HV2 : Hid (∃ v', CollW w2 n0 Bl Bm (winL s t (k + 1)) most v') := ⟨v2, hv2⟩
      have HB2 : Hid (Below n0 W0 w2) := HB.out.trans hb2
      clear hv2 hb2 PU hcs hct HB HV
      cases bb
      · have h1 := HBF.out rfl
        have HE : Hid ((winL s t n).take most.toNat = winL s t (k + 1)) := by
          have e1 : most.toNat = k + 1 := by rcases hkm with h | h <;> omega
          show _ = _
          rw [winL_take, e1, Nat.min_eq_left (by omega)]
        clear h1 HBT HBF
        go_wp2
        refine bodyPost_ret (results_none rfl _ _ _) rfl ?_
        exact ⟨rfl, by rw [HE.out]; exact HV2.out, HB2.out⟩
      · have h1 := HBT.out rfl
        go_wp2
        go_roundw
        case rel => exact ⟨k + 1, by omega, by go_num, Or.inr (by omega), HV2, HB2⟩
        case measure => simp [intOf]; omega
    · have : k = n := by omega
      subst this
      have HE : Hid ((winL s t k).take most.toNat = winL s t k) := by
        show _ = _
        have h1 : k ≤ most.toNat := by rcases hkm with h | h <;> omega
        rw [List.take_of_length_le (by rw [winL_len]; omega)]
      go_wp2
      go_end0
      exact ⟨rfl, by rw [HE.out]; exact HV.out, HB.out⟩
theorem TellsW.to {F : Value} {w w' : World} {l : List (Int × Int)} (h : TellsW F w l) (b : Below w.heap.size w w') : TellsW F w' l := fun u hu => h u (bel_to b (Nat.le_refl _) hu)
theorem wingo_enter : ∀ args w, (callFunc 28 args).run Tryd.prog w = .ok (.enter 28 args) w := fun args w => by
  go_simp
/-- What Windows hands out goes through the windows. -/
theorem wingo_tells (w : World) (Bn Bs Bt : Nat) (s t : Int) (n : Nat) (hn : Boxed w Bn 3 (.int .i64 n)) (hs : Boxed w Bs 3 (.int .i64 s)) (ht : Boxed w Bt 3 (.int .i64 t))
    (hb : n = 0 ∨ (0 ≤ s ∧ 1 ≤ t ∧ s + (n : Int) * t ≤ 1099511627776)) : TellsW (.func (.func 28) #[] #[.pointer (some ⟨Bn, 0, none⟩), .pointer (some ⟨Bs, 0, none⟩), .pointer (some ⟨Bt, 0, none⟩)]) w (winL s t n) := by
  refine windows_of _ wingo_enter _ _ _ ?_
  intro W0 n0 Bl Bm most v hu h0 hC h1 h2
  exact wingo_any W0 n0 Bn Bs Bt Bl Bm s t n most v (boxed_below hn hu) (boxed_below hs hu) (boxed_below ht hu) (Nat.lt_of_lt_of_le hs.lt h0) (Nat.lt_of_lt_of_le ht.lt h0) hb hC h1 h2
/- Windows itself. -/
set_option maxHeartbeats 8000000 in
theorem win_any (s t n : Int) (w : World) (hs : (Lit.int .i64 s).wf = true) (ht : (Lit.int .i64 t).wf = true) (hn : (Lit.int .i64 n).wf = true) :
    Calls Tryd.prog 23 #[.int .i64 s, .int .i64 t, .int .i64 n] w fun e w' => ∃ F, e = .returned F ∧ TellsW F w' (winL s t (winC s t n).toNat) ∧ Below w.heap.size w w' := by
  obtain ⟨s0, s1⟩ := i64_of_wf hs
  obtain ⟨t0, t1⟩ := i64_of_wf ht
  obtain ⟨n0, n1⟩ := i64_of_wf hn
  clear hs ht hn
  obtain ⟨W1, hW1⟩ : ∃ W, Hid (w.alloc (.cells #[.int .i64 s] 3) = W) := ⟨_, rfl⟩
  obtain ⟨W2, hW2⟩ : ∃ W, Hid (W1.alloc (.cells #[.int .i64 t] 3) = W) := ⟨_, rfl⟩
  obtain ⟨W3, hW3⟩ : ∃ W, Hid (W2.alloc (.cells #[.int .i64 n] 3) = W) := ⟨_, rfl⟩
  have Z1 : Hid (W1.heap.size = w.heap.size + 1) := by rw [← hW1.out]; show _ = _; simp
  have Z2 : Hid (W2.heap.size = w.heap.size + 1 + 1) := by rw [← hW2.out]; show _ = _; simp [Z1.out]
  have B1 : Hid (Below w.heap.size w W1) := by rw [← hW1.out]; exact (Below.refl _ _).alloc (Nat.le_refl _) _
  have B2 : Hid (Below w.heap.size w W2) := by rw [← hW2.out]; exact bel_al B1.out (Nat.le_refl _) _
  have B3 : Hid (Below w.heap.size w W3) := by rw [← hW3.out]; exact bel_al B2.out (Nat.le_refl _) _
  have X1 : Hid (Boxed W3 w.heap.size 3 (.int .i64 s)) := by rw [← hW3.out, ← hW2.out, ← hW1.out]; exact ((Boxed.new w 3 (.int .i64 s)).alloc _).alloc _
  have X2 : Hid (Boxed W3 W1.heap.size 3 (.int .i64 t)) := by rw [← hW3.out, ← hW2.out]; exact (Boxed.new W1 3 (.int .i64 t)).alloc _
  have X3 : Hid (Boxed W3 W2.heap.size 3 (.int .i64 n)) := by rw [← hW3.out]; exact Boxed.new W2 3 (.int .i64 n)
  have c1 := X1.out.cell
  have c2 := X2.out.cell
  have c3 := X3.out.cell
  have f3 := X3.out.frozen
  have TB : Hid (TellsW (.func (.func 28) #[] #[.pointer (some ⟨W2.heap.size, 0, none⟩), .pointer (some ⟨w.heap.size, 0, none⟩), .pointer (some ⟨W1.heap.size, 0, none⟩)]) (W3.setCell ⟨W2.heap.size, 0, none⟩ (.int .i64 0)) (winL s t 0)) := by
    have D : Ch (fun g => g = W2.heap.size) W3 (W3.setCell ⟨W2.heap.size, 0, none⟩ (.int .i64 0)) := Ch.set W3 W2.heap.size _
    exact wingo_tells _ _ _ _ s t 0 (X3.out.set _) (boxed_ch X1.out D (by have := Z2.out; omega)) (boxed_ch X2.out D (by have := Z2.out; have := Z1.out; omega)) (Or.inl rfl)
  have BS : Hid (Below w.heap.size w (W3.setCell ⟨W2.heap.size, 0, none⟩ (.int .i64 0))) := B3.out.setCell (by show w.heap.size ≤ W2.heap.size; have := Z2.out; omega) _
  by_cases g0 : s < 0
  · have d0 : decide (s < 0) = true := decide_eq_true g0
    have HT2 : Hid (TellsW (.func (.func 28) #[] #[.pointer (some ⟨W2.heap.size, 0, none⟩), .pointer (some ⟨w.heap.size, 0, none⟩), .pointer (some ⟨W1.heap.size, 0, none⟩)]) (W3.setCell ⟨W2.heap.size, 0, none⟩ (.int .i64 0)) (winL s t (winC s t n).toNat)) := by
      show TellsW _ _ _
      rw [show winC s t n = 0 by unfold winC; rw [if_pos (by omega)]]
      exact TB.out
    clear TB X1 X2 X3 B1 B2 B3
    go_enter Tryd.func23, Tryd.ntmps23
    go_upto_region 1 with fail
    rw [hW1.out, hW2.out, hW3.out]
    clear hW1 hW2 hW3
    rw [← Z2.out, ← Z1.out]
    go_quiet (fail)
    go_wp2
    go_ret
    exact ⟨_, rfl, HT2.out.to (bel_drewN (Below.refl _ _) _), bel_drewN BS.out _⟩
  · have d0 : decide (s < 0) = false := decide_eq_false g0
    by_cases g1 : t < 1
    · have d1 : decide (t < 1) = true := decide_eq_true g1
      have HT2 : Hid (TellsW (.func (.func 28) #[] #[.pointer (some ⟨W2.heap.size, 0, none⟩), .pointer (some ⟨w.heap.size, 0, none⟩), .pointer (some ⟨W1.heap.size, 0, none⟩)]) (W3.setCell ⟨W2.heap.size, 0, none⟩ (.int .i64 0)) (winL s t (winC s t n).toNat)) := by
        show TellsW _ _ _
        rw [show winC s t n = 0 by unfold winC; rw [if_pos (by omega)]]
        exact TB.out
      clear TB X1 X2 X3 B1 B2 B3
      go_enter Tryd.func23, Tryd.ntmps23
      go_upto_region 1 with fail
      rw [hW1.out, hW2.out, hW3.out]
      clear hW1 hW2 hW3
      rw [← Z2.out, ← Z1.out]
      go_quiet (fail)
      go_wp2
      go_ret
      exact ⟨_, rfl, HT2.out.to (bel_drewN (Below.refl _ _) _), bel_drewN BS.out _⟩
    · have d1 : decide (t < 1) = false := decide_eq_false g1
      by_cases g2 : n < 1
      · have d2 : decide (n < 1) = true := decide_eq_true g2
        have HT2 : Hid (TellsW (.func (.func 28) #[] #[.pointer (some ⟨W2.heap.size, 0, none⟩), .pointer (some ⟨w.heap.size, 0, none⟩), .pointer (some ⟨W1.heap.size, 0, none⟩)]) (W3.setCell ⟨W2.heap.size, 0, none⟩ (.int .i64 0)) (winL s t (winC s t n).toNat)) := by
          show TellsW _ _ _
          rw [show winC s t n = 0 by unfold winC; rw [if_pos (by omega)]]
          exact TB.out
        clear TB X1 X2 X3 B1 B2 B3
        go_enter Tryd.func23, Tryd.ntmps23
        go_upto_region 1 with fail
        rw [hW1.out, hW2.out, hW3.out]
        clear hW1 hW2 hW3
        rw [← Z2.out, ← Z1.out]
        go_quiet (fail)
        go_wp2
        go_ret
        exact ⟨_, rfl, HT2.out.to (bel_drewN (Below.refl _ _) _), bel_drewN BS.out _⟩
      · have d2 : decide (n < 1) = false := decide_eq_false g2
        obtain ⟨q, hq, hq2, q0, q1⟩ : ∃ q, (1099511627776 - s).tdiv t = q ∧ (s ≤ 1099511627776 → q = (1099511627776 - s) / t) ∧ (1099511627776 < s → q ≤ 0) ∧ (-9223372036854775808 ≤ q ∧ q ≤ 9223372036854775807) := by
          refine ⟨_, rfl, fun h => Int.tdiv_eq_ediv_of_nonneg (by omega), fun h => ?_, ?_⟩
          · have h2 := Int.neg_tdiv (a := s - 1099511627776) (b := t)
            rw [show -(s - 1099511627776) = 1099511627776 - s by omega] at h2
            rw [h2]
            have := Int.tdiv_nonneg (a := s - 1099511627776) (b := t) (by omega) (by omega)
            omega
          · by_cases h : s ≤ 1099511627776
            · rw [Int.tdiv_eq_ediv_of_nonneg (by omega)]
              have h3 := Int.ediv_nonneg (a := 1099511627776 - s) (b := t) (by omega) (by omega)
              have h4 := Int.ediv_le_self (a := 1099511627776 - s) t (by omega)
              omega
            · have h2 := Int.neg_tdiv (a := s - 1099511627776) (b := t)
              rw [show -(s - 1099511627776) = 1099511627776 - s by omega] at h2
              rw [h2]
              rw [Int.tdiv_eq_ediv_of_nonneg (by omega)]
              have h3 := Int.ediv_nonneg (a := s - 1099511627776) (b := t) (by omega) (by omega)
              have h4 := Int.ediv_le_self (a := s - 1099511627776) t (by omega)
              omega
        have hw : IntKind.i64.wrap (1099511627776 - s) = 1099511627776 - s := by rw [IntKind.wrap_i64]; omega
        have hwq : IntKind.i64.wrap q = q := by rw [IntKind.wrap_i64]; omega
        have z0 : ¬ t = 0 := by omega
        have z1 : (t == 0) = false := by simpa using z0
        by_cases g3 : q < n
        · have d3 : decide (q < n) = true := decide_eq_true g3
          have HT2 : Hid (TellsW (.func (.func 28) #[] #[.pointer (some ⟨W2.heap.size, 0, none⟩), .pointer (some ⟨w.heap.size, 0, none⟩), .pointer (some ⟨W1.heap.size, 0, none⟩)]) (W3.setCell ⟨W2.heap.size, 0, none⟩ (.int .i64 0)) (winL s t (winC s t n).toNat)) := by
            show TellsW _ _ _
            rw [show winC s t n = 0 by
              unfold winC
              by_cases a1 : 1099511627776 < s
              · rw [if_pos (by omega)]
              · by_cases a2 : 1099511627776 < t
                · rw [if_pos (by omega)]
                · by_cases a3 : 1099511627776 < n
                  · rw [if_pos (by omega)]
                  · rw [if_neg (by omega), if_pos (by rw [← hq2 (by omega)]; exact g3)]]
            exact TB.out
          clear hq2 q0 TB X1 X2 X3 B1 B2 B3
          go_enter Tryd.func23, Tryd.ntmps23
          go_upto_region 1 with fail
          rw [hW1.out, hW2.out, hW3.out]
          clear hW1 hW2 hW3
          rw [← Z2.out, ← Z1.out]
          go_quiet (fail)
          go_wp2
          go_ret
          exact ⟨_, rfl, HT2.out.to (bel_drewN (Below.refl _ _) _), bel_drewN BS.out _⟩
        · have d3 : decide (q < n) = false := decide_eq_false g3
          have e1 : s ≤ 1099511627776 := by
            apply Classical.byContradiction
            intro h
            have := q0 (by omega)
            omega
          have e2 := hq2 e1
          have e3 : n * t ≤ 1099511627776 - s := by
            have a1 : n * t ≤ q * t := Int.mul_le_mul_of_nonneg_right (by omega) (by omega)
            have a2 : q * t ≤ 1099511627776 - s := by rw [e2]; exact Int.ediv_mul_le _ (by omega)
            omega
          have e4 : n ≤ n * t ∧ t ≤ n * t := by
            constructor
            · have := Int.mul_le_mul_of_nonneg_left (a := 1) (b := t) (c := n) (by omega) (by omega)
              omega
            · have := Int.mul_le_mul_of_nonneg_right (a := 1) (b := n) (c := t) (by omega) (by omega)
              omega
          have HT2 : Hid (TellsW (.func (.func 28) #[] #[.pointer (some ⟨W2.heap.size, 0, none⟩), .pointer (some ⟨w.heap.size, 0, none⟩), .pointer (some ⟨W1.heap.size, 0, none⟩)]) W3 (winL s t (winC s t n).toNat)) := by
            have e5 : winC s t n = n := by
              unfold winC
              rw [if_neg (by omega), if_neg (by rw [← e2]; exact g3)]
            obtain ⟨m, hm⟩ : ∃ m : Nat, n = (m : Int) := ⟨n.toNat, by omega⟩
            show TellsW _ _ _
            rw [e5, hm, Int.toNat_natCast]
            rw [hm] at X3 e3
            exact wingo_tells _ _ _ _ s t m X3.out X1.out X2.out (Or.inr ⟨by omega, by omega, by omega⟩)
          clear hq2 q0 TB X1 X2 X3 B1 B2 e2 e3 e4 BS
          go_enter Tryd.func23, Tryd.ntmps23
          go_upto_region 1 with fail
          rw [hW1.out, hW2.out, hW3.out]
          clear hW1 hW2 hW3
          rw [← Z2.out, ← Z1.out]
          go_quiet (fail)
          go_wp2
          go_ret
          exact ⟨_, rfl, HT2.out.to (bel_drewN (Below.refl _ _) _), bel_drewN B3.out _⟩
end Go.Proofs.YtejflcfcbjadhaaDoor
