/-
  The document's own bytes of a gauge: contracts, for every world: the bytes lie in new memory.
  Conditions: the gauge's numbers are words.
-/
import Derived.Test.YtnhjjdgdffjdcaaGaugeX
import Derived.Test.YtnhjjdgdffjdcaaVintX
import Derived.Laws.AppendOwn
namespace Go.Proofs.Ytnhjjdgdffjdcaa
open Go.RowKit

set_option maxHeartbeats 1000000 in
theorem eight_any (v : Int) (w : World) (hv : Word v) :
    Calls Try.prog 39 #[.int .u64 v] w fun e w' => ∃ a' cap', e = .returned (.slice a' 8 cap') ∧ Mine w' w.heap.size a' 8 cap' (b8 v 8) ∧ Below w.heap.size w w' := by
  obtain ⟨i0, hi, hz0, hz1, hz2⟩ := info_parts Try.info5
  obtain ⟨v0, v1⟩ := hv
  go_enter Try.func39, Try.ntmps39
  go_wp2
  go_loopw [3, 4] (fun b i wr => ∃ (ar : Option Addr) (capr : Nat) (j : Nat), b = .slice ar j capr ∧ i = .int .i64 j ∧ j ≤ 8 ∧ Hid (Mine wr w.heap.size ar j capr (b8 v j)) ∧ Hid (Below w.heap.size w wr)) (fun _ i _ => 8 - (intOf i).toNat)
  case atStart => exact ⟨none, 0, 0, rfl, rfl, by omega, own_nil _ _ _ _, Below.refl _ _⟩
  case round =>
    obtain ⟨ar, capr, j, rfl, rfl, hj, HR, HW⟩ := hrel
    by_cases hu : j < 8
    · have i1 : (j : Int) < 8 := by omega
      obtain ⟨z, hz⟩ : ∃ z : Int, Hid (v / 2 ^ (8 * j) % 256 = z) := ⟨_, rfl⟩
      have zb : 0 ≤ z ∧ z ≤ 255 := by rw [← hz.out]; omega
      have hzz := hz.out
      have HO := hide (one_row (k := .u8) wr z (wf_of_u8 zb.1 zb.2) 5 (0, 0))
      have HSA : Hid (Src 5 .u8 (wr.alloc (.cells #[.int .u8 z] 5)) w.heap.size ar j capr (b8 v j)) := Or.inl (HR.out.alloc _)
      have HBW : Hid (w.heap.size ≤ (wr.alloc (.cells #[.int .u8 z] 5)).heap.size) := by
        have := HW.out.size
        show _ ≤ _
        simp; omega
      clear zb
      go_wp2_with (at_builtin; rw [hzz]; refine wpList_append_one _ rfl _ _ 33 rfl w.heap.size 5 i0 Try.underlying33 hi hz0 hz1 hz2 ar j capr _ rfl HSA.out _ 1 z rfl HO.out (by omega) HBW.out ?_)
      intro a' cap' w' h1 h2
      have HF : Hid (Mine w' w.heap.size a' (j + 1) cap' (b8 v (j + 1)) ∧ Below w.heap.size w w') := by
        refine ⟨?_, (HW.out.alloc HW.out.size _).trans h2⟩
        rw [b8, hz.out]; exact h1
      clear h1 h2 HR HW HSA HO HBW hzz
      go_wp2
      go_roundw
      case rel => exact ⟨a', cap', j + 1, rfl, by go_num, by omega, HF.out.1, HF.out.2⟩
      case measure => simp [intOf]; omega
    · have hj8 : j = 8 := by omega
      subst hj8
      have i1 : ¬ ((8 : Nat) : Int) < 8 := by omega
      go_wp2
      go_ret
      exact ⟨ar, capr, rfl, HR.out, HW.out⟩

theorem wp_append_mine {P : Program} {w : World} {o : Oper} {a : Act} {K : Act → World → Prop} {Q : Exit → Act → World → Prop} (s x : Operand) (t : TypeId)
    (ho : o.op = .call { callee := .builtin .append, args := #[s, x], argTypes := #[t, t] })
    (base : Nat) (e : TypeId) (i : TypeInfo) (ht : P.underlying t = some (.slice e)) (hi : P.info? e = some i) (hz : i.zero = some (.int .u8 0)) (hsize : i.size = 1) (hby : i.bytes = 1)
    (ao : Option Addr) (n cap : Nat) (zs : List Int) (hs : a.eval s = .slice ao n cap) (hown : Own e .u8 w base ao n cap zs)
    (ax : Option Addr) (m c : Nat) (news : List Int) (hx : a.eval x = .slice ax m c) (hm : 0 < m) (hrow : Row .u8 w ax m news)
    (hbytes : n + m ≤ 1000) (hbase : base ≤ w.heap.size)
    (h : ∀ a' cap' w', Own e .u8 w' base a' (n + m) cap' (zs ++ news) → Below base w w' → K (a.put o.dst (.slice a' (n + m) cap')) w') : o.wp P a w K Q := by
  obtain ⟨ad, rfl⟩ : ∃ ad, ax = some ad := by
    cases ax with
    | none => have := hrow.nz rfl; omega
    | some ad => exact ⟨ad, rfl⟩
  refine wp_append_own w s x t ho base e i (.int .u8 0) 1 1 ht hi hz hsize hby rfl (by decide) _ n (zs.map (Value.int .u8)) hs hown ad m c (news.map (Value.int .u8)) hx (by simp [hrow.1]) hrow.cells (one_cell .u8 news) (by unfold maxLen; omega) (by omega) hbase ?_
  intro v' w' h1 h2 _
  rw [← List.map_append] at h1
  obtain ⟨a', cap', rfl, h3⟩ := own_form h1
  exact h a' cap' w' h3 ((Below.refl _ _).grown h2 hbase (own_block hown))

set_option maxHeartbeats 2000000 in
theorem refgput_any (g : Gz) (w : World) (hg : GW g) :
    Calls Try.prog 19 #[(Value.agg #[.int .u64 (Gz.n g), .int .u64 (Gz.nans g), .int .u64 (Gz.lo g), .int .u64 (Gz.hi g)])] w fun e w' => ∃ a' cap', e = .returned (.slice a' (putG g).length cap') ∧ Mine w' w.heap.size a' (putG g).length cap' (putG g) ∧ Below w.heap.size w w' := by
  obtain ⟨i0, hi, hz0, hz1, hz2⟩ := info_parts Try.info5
  obtain ⟨w0, hw0⟩ : ∃ w0, Hid (w.alloc (.cells #[.int .u64 g.n, .int .u64 g.nans, .int .u64 g.lo, .int .u64 g.hi] 24) = w0) := ⟨_, rfl⟩
  have G : Hid (GBox w0 w.heap.size g.n g.nans g.lo g.hi) := by rw [← hw0.out]; exact GBox.new w _ _ _ _ _
  have Z0 : Hid (w.heap.size + 1 ≤ w0.heap.size) := G.out.lt
  have S0 : Hid (((World.cell? w0.drew ⟨w.heap.size, 0, none⟩ = some (.int .u64 (Gz.n g))) ∧ (World.cell? w0.drew ⟨w.heap.size, 1, none⟩ = some (.int .u64 (Gz.nans g))) ∧ (World.cell? w0.drew ⟨w.heap.size, 2, none⟩ = some (.int .u64 (Gz.lo g))) ∧ (World.cell? w0.drew ⟨w.heap.size, 3, none⟩ = some (.int .u64 (Gz.hi g)))) ∧ Hid (Below (w.heap.size + 1) w0 w0.drew)) := ⟨G.out.drew.gc, (Below.refl _ _).drew⟩
  have B0 : Hid (Below w.heap.size w w0) := by rw [← hw0.out]; exact (Below.refl _ _).alloc (Nat.le_refl _) _
  obtain ⟨PM, hPM⟩ : ∃ PM, Hid (putS g.nans = PM) := ⟨_, rfl⟩
  obtain ⟨PN, hPN⟩ : ∃ PN, Hid (putS g.n = PN) := ⟨_, rfl⟩
  obtain ⟨lm, hlm⟩ : ∃ l, Hid (PM.length = l) := ⟨_, rfl⟩
  obtain ⟨ln, hln⟩ : ∃ l, Hid (PN.length = l) := ⟨_, rfl⟩
  have hm1 : 1 ≤ lm ∧ lm ≤ 10 := by rw [← hlm.out, ← hPM.out]; exact putS_len _
  have hn1 : 1 ≤ ln ∧ ln ≤ 10 := by rw [← hln.out, ← hPN.out]; exact putS_len _
  have BN : Hid (Bytes8 PN) := by rw [← hPN.out]; exact putS_byte hg.n
  have P1 := hide (fun W => refput_any g.nans W hg.nans)
  have P2 := hide (fun W => refput_any g.n W hg.n)
  rw [hPM.out, hlm.out] at P1
  rw [hPN.out, hln.out] at P2
  have Q1 := hide (fun W => eight_any g.lo W hg.lo)
  have Q2 := hide (fun W => eight_any g.hi W hg.hi)
  have HE : Hid (putG g = PM ++ PN ++ (if g.n = 0 then [] else b8 g.lo 8 ++ b8 g.hi 8)) := by
    show _ = _
    unfold putG; rw [hPM.out, hPN.out, List.append_assoc]
  have hl8 := b8_len g.lo 8
  have hh8 := b8_len g.hi 8
  have BL := hide (b8_byte g.lo 8)
  have BH := hide (b8_byte g.hi 8)
  have hgn := hg.n.1
  clear hg G hPM hPN
  generalize putG g = PG at HE ⊢
  generalize b8 g.lo 8 = BLO at *
  generalize b8 g.hi 8 = BHI at *
  go_enter Try.func19, Try.ntmps19
  go_upto_region 1 with fail
  rw [hw0.out]
  clear hw0
  obtain ⟨k, hk⟩ : ∃ k, Hid (w.heap.size = k) := ⟨_, rfl⟩
  rw [hk.out] at S0 Z0
  rw [hk.out]
  go_cut [3] (fun x wx => ∃ a1 c1, x = .slice a1 (lm + ln) c1 ∧ Hid (Mine wx (k + 1) a1 (lm + ln) c1 (PM ++ PN)) ∧ Hid (((World.cell? wx ⟨k, 0, none⟩ = some (.int .u64 (Gz.n g))) ∧ (World.cell? wx ⟨k, 1, none⟩ = some (.int .u64 (Gz.nans g))) ∧ (World.cell? wx ⟨k, 2, none⟩ = some (.int .u64 (Gz.lo g))) ∧ (World.cell? wx ⟨k, 3, none⟩ = some (.int .u64 (Gz.hi g)))) ∧ Hid (Below (k + 1) w0 wx)))
  case first =>
    go_region_held3 (fun w' => ((World.cell? w' ⟨k, 0, none⟩ = some (.int .u64 (Gz.n g))) ∧ (World.cell? w' ⟨k, 1, none⟩ = some (.int .u64 (Gz.nans g))) ∧ (World.cell? w' ⟨k, 2, none⟩ = some (.int .u64 (Gz.lo g))) ∧ (World.cell? w' ⟨k, 3, none⟩ = some (.int .u64 (Gz.hi g)))) ∧ Hid (Below (k + 1) w0 w')) (first | exact S0.out | exact keepH Z0 (by assumption) (by assumption) | exact keepG (by assumption) (by assumption)) (first
      | (go_at_call 38; with_reducible refine (P1.out _).mono ?_; rintro e v1 ⟨a1, c1, rfl, o1, b1⟩; have O1 := hide o1; have z1 := hide (Nat.le_trans Z0.out b1.size))
      | (go_at_call 38; with_reducible refine (P2.out _).mono ?_; rintro e v2 ⟨a2, c2, rfl, o2, b2⟩; have O2 := hide (o2.row (by omega) (fits_wf BN.out)); have O1' := hide ((O1.out.mono Z0.out).below b2 (Nat.le_refl _)); have z2 := hide (Nat.le_trans z1.out b2.size))
      | (refine wp_append_mine _ _ 33 rfl (k + 1) 5 i0 Try.underlying33 hi hz0 hz1 hz2 a1 lm c1 PM rfl O1'.out a2 ln c2 PN rfl (by omega) O2.out (by omega) z2.out ?_; intro a3 c3 v3 o3 b3; have O3 := hide o3))
    go_wp2_with fail
    go_meet
    case rel => exact ⟨a3, c3, rfl, O3, by assumption⟩
  case rest =>
    obtain ⟨a1, c1, rfl, O1, S1⟩ := hcut
    have f0 := S1.out.1.1
    have HBW : Hid (Below w.heap.size w wc) := by
      rw [hk.out] at B0 ⊢
      exact B0.out.trans (S1.out.2.out.mono (Nat.le_succ _))
    by_cases h0 : g.n = 0
    · have i0 : ¬ 0 < g.n := by omega
      have hE := HE.out
      rw [if_pos h0, List.append_nil] at hE
      have hL : PG.length = lm + ln := by rw [hE, List.length_append, hlm.out, hln.out]
      have hO : Hid (Mine wc w.heap.size a1 (lm + ln) c1 PG) := by rw [hE]; exact O1.out.mono (by rw [hk.out]; omega)
      clear hE HE h0 P1 P2 Q1 Q2 O1
      go_wp2
      go_ret
      try rw [hL]
      exact ⟨a1, c1, rfl, hO.out, HBW.out⟩
    · have i0' : 0 < g.n := by omega
      have S2 : Hid (((World.cell? wc.drew ⟨k, 0, none⟩ = some (.int .u64 (Gz.n g))) ∧ (World.cell? wc.drew ⟨k, 1, none⟩ = some (.int .u64 (Gz.nans g))) ∧ (World.cell? wc.drew ⟨k, 2, none⟩ = some (.int .u64 (Gz.lo g))) ∧ (World.cell? wc.drew ⟨k, 3, none⟩ = some (.int .u64 (Gz.hi g)))) ∧ Hid (Below (k + 1) w0 wc.drew)) := ⟨S1.out.1, S1.out.2.out.drew⟩
      have O1d : Hid (Mine wc.drew (k + 1) a1 (lm + ln) c1 (PM ++ PN)) := O1.out.drew
      have Z1 : Hid (k + 1 ≤ wc.drew.heap.size) := Nat.le_trans Z0.out S1.out.2.out.size
      have hE := HE.out
      rw [if_neg h0] at hE
      have hL : PG.length = lm + ln + 16 := by rw [hE]; simp only [List.length_append]; rw [hlm.out, hln.out, hl8, hh8]
      have hE2 : PM ++ PN ++ BLO ++ BHI = PG := by rw [hE]; simp only [List.append_assoc]
      clear hE HE h0 P1 P2 O1
      go_upto_region 3 with fail
      go_cut [3] (fun x wx => ∃ a1 c1, x = .slice a1 (lm + ln + 16) c1 ∧ Hid (Mine wx (k + 1) a1 (lm + ln + 16) c1 PG) ∧ Hid (((World.cell? wx ⟨k, 0, none⟩ = some (.int .u64 (Gz.n g))) ∧ (World.cell? wx ⟨k, 1, none⟩ = some (.int .u64 (Gz.nans g))) ∧ (World.cell? wx ⟨k, 2, none⟩ = some (.int .u64 (Gz.lo g))) ∧ (World.cell? wx ⟨k, 3, none⟩ = some (.int .u64 (Gz.hi g)))) ∧ Hid (Below (k + 1) w0 wx)))
      case first =>
        go_region_held3 (fun w' => ((World.cell? w' ⟨k, 0, none⟩ = some (.int .u64 (Gz.n g))) ∧ (World.cell? w' ⟨k, 1, none⟩ = some (.int .u64 (Gz.nans g))) ∧ (World.cell? w' ⟨k, 2, none⟩ = some (.int .u64 (Gz.lo g))) ∧ (World.cell? w' ⟨k, 3, none⟩ = some (.int .u64 (Gz.hi g)))) ∧ Hid (Below (k + 1) w0 w')) (first | exact S2.out | exact keepH Z0 (by assumption) (by assumption) | exact keepG (by assumption) (by assumption)) (first
          | (go_at_call 39; with_reducible refine (Q1.out _).mono ?_; rintro e v1 ⟨a2, c2, rfl, o1, b1⟩; have O2 := hide (o1.row (by omega) (fits_wf BL.out)); have O1' := hide (O1d.out.below b1 (Nat.le_refl _)); have z1 := hide (Nat.le_trans Z1.out b1.size))
          | (refine wp_append_mine _ _ 33 rfl (k + 1) 5 i0 Try.underlying33 hi hz0 hz1 hz2 a1 (lm + ln) c1 (PM ++ PN) rfl O1'.out a2 8 c2 BLO rfl (by omega) O2.out (by omega) z1.out ?_; intro a3 c3 v3 o3 b3; have O3 := hide o3; have z3 := hide (Nat.le_trans z1.out b3.size))
          | (go_at_call 39; with_reducible refine (Q2.out _).mono ?_; rintro e v4 ⟨a4, c4, rfl, o4, b4⟩; have O4 := hide (o4.row (by omega) (fits_wf BH.out)); have O3' := hide (O3.out.below b4 (Nat.le_refl _)); have z4 := hide (Nat.le_trans z3.out b4.size))
          | (refine wp_append_mine _ _ 33 rfl (k + 1) 5 i0 Try.underlying33 hi hz0 hz1 hz2 a3 (lm + ln + 8) c3 (PM ++ PN ++ BLO) rfl O3'.out a4 8 c4 BHI rfl (by omega) O4.out (by omega) z4.out ?_; intro a5 c5 v5 o5 b5; rw [hE2] at o5; have O5 := hide o5))
        go_wp2_with fail
        go_meet
        case rel => exact ⟨a5, c5, rfl, O5, by assumption⟩
      case rest =>
        obtain ⟨a4, c4, rfl, O4, S4⟩ := hcut
        clear HBW S2 O1d Z1 f0 S1 Q1 Q2
        have HBW : Hid (Below w.heap.size w wc) := by
          rw [hk.out] at B0 ⊢
          exact B0.out.trans (S4.out.2.out.mono (Nat.le_succ _))
        have hO : Hid (Mine wc w.heap.size a4 (lm + ln + 16) c4 PG) := O4.out.mono (by rw [hk.out]; omega)
        clear O4 S4
        go_wp2
        go_ret
        try rw [hL]
        exact ⟨a4, c4, rfl, hO.out, HBW.out⟩
end Go.Proofs.Ytnhjjdgdffjdcaa
