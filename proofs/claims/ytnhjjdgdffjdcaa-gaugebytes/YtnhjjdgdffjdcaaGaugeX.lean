/-
  The program's own Put of a gauge: a contract, for every world: the bytes lie in new memory.
  Conditions: the gauge's numbers are words; there are at most 2^47 bytes ahead.
-/
import Derived.Test.YtnhjjdgdffjdcaaGaugeJ
import Derived.Test.YtnhjjdgdffjdcaaGaugeT
import Derived.Test.YtnhjjdgdffjdcaaCatK
import Derived.Deep.RegionHeld3
import Derived.Deep.DeepCutAuto
namespace Go.Proofs.Ytnhjjdgdffjdcaa
open Go.RowKit

/-- A gauge in memory, and what was there before is as it was. -/
theorem keepG {w0 v v' : World} {k : Nat} {x : Gz} (hb : Below (k + 1) v v') (h : ((World.cell? v ⟨k, 0, none⟩ = some (.int .u64 (Gz.n x))) ∧ (World.cell? v ⟨k, 1, none⟩ = some (.int .u64 (Gz.nans x))) ∧ (World.cell? v ⟨k, 2, none⟩ = some (.int .u64 (Gz.lo x))) ∧ (World.cell? v ⟨k, 3, none⟩ = some (.int .u64 (Gz.hi x)))) ∧ Hid (Below (k + 1) w0 v)) : ((World.cell? v' ⟨k, 0, none⟩ = some (.int .u64 (Gz.n x))) ∧ (World.cell? v' ⟨k, 1, none⟩ = some (.int .u64 (Gz.nans x))) ∧ (World.cell? v' ⟨k, 2, none⟩ = some (.int .u64 (Gz.lo x))) ∧ (World.cell? v' ⟨k, 3, none⟩ = some (.int .u64 (Gz.hi x)))) ∧ Hid (Below (k + 1) w0 v') :=
  ⟨gc_below hb (Nat.lt_succ_self _) h.1, h.2.out.trans hb⟩
theorem keepH {w0 v v' : World} {k : Nat} {x : Gz} (h0 : Hid (k + 1 ≤ w0.heap.size)) (hb : Below v.heap.size v v') (h : ((World.cell? v ⟨k, 0, none⟩ = some (.int .u64 (Gz.n x))) ∧ (World.cell? v ⟨k, 1, none⟩ = some (.int .u64 (Gz.nans x))) ∧ (World.cell? v ⟨k, 2, none⟩ = some (.int .u64 (Gz.lo x))) ∧ (World.cell? v ⟨k, 3, none⟩ = some (.int .u64 (Gz.hi x)))) ∧ Hid (Below (k + 1) w0 v)) : ((World.cell? v' ⟨k, 0, none⟩ = some (.int .u64 (Gz.n x))) ∧ (World.cell? v' ⟨k, 1, none⟩ = some (.int .u64 (Gz.nans x))) ∧ (World.cell? v' ⟨k, 2, none⟩ = some (.int .u64 (Gz.lo x))) ∧ (World.cell? v' ⟨k, 3, none⟩ = some (.int .u64 (Gz.hi x)))) ∧ Hid (Below (k + 1) w0 v') :=
  keepG (hb.mono (Nat.le_trans h0.out h.2.out.size)) h

set_option maxHeartbeats 2000000 in
theorem gput_any (a : Option Addr) (n cap : Nat) (zs : List Int) (g : Gz) (w : World) (hg : GW g) (hn : n ≤ 140737488355328) (hr : Row .u8 w a n zs) :
    Calls Try.prog 16 #[.slice a n cap, (Value.agg #[.int .u64 (Gz.n g), .int .u64 (Gz.nans g), .int .u64 (Gz.lo g), .int .u64 (Gz.hi g)])] w fun e w' => ∃ a' cap', e = .returned (.slice a' (n + (putG g).length) cap') ∧ Mine w' w.heap.size a' (n + (putG g).length) cap' (zs ++ putG g) ∧ Below w.heap.size w w' := by
  obtain ⟨w0, hw0⟩ : ∃ w0, Hid (w.alloc (.cells #[.int .u64 g.n, .int .u64 g.nans, .int .u64 g.lo, .int .u64 g.hi] 24) = w0) := ⟨_, rfl⟩
  have G : Hid (GBox w0 w.heap.size g.n g.nans g.lo g.hi) := by rw [← hw0.out]; exact GBox.new w _ _ _ _ _
  have Z0 : Hid (w.heap.size + 1 ≤ w0.heap.size) := G.out.lt
  have S0 : Hid (((World.cell? w0.drew ⟨w.heap.size, 0, none⟩ = some (.int .u64 (Gz.n g))) ∧ (World.cell? w0.drew ⟨w.heap.size, 1, none⟩ = some (.int .u64 (Gz.nans g))) ∧ (World.cell? w0.drew ⟨w.heap.size, 2, none⟩ = some (.int .u64 (Gz.lo g))) ∧ (World.cell? w0.drew ⟨w.heap.size, 3, none⟩ = some (.int .u64 (Gz.hi g)))) ∧ Hid (Below (w.heap.size + 1) w0 w0.drew)) := ⟨G.out.drew.gc, (Below.refl _ _).drew⟩
  have R0 : Hid (Row .u8 w0 a n zs) := by rw [← hw0.out]; exact hr.alloc _
  have B0 : Hid (Below w.heap.size w w0) := by rw [← hw0.out]; exact (Below.refl _ _).alloc (Nat.le_refl _) _
  obtain ⟨PM, hPM⟩ : ∃ PM, Hid (putS g.nans = PM) := ⟨_, rfl⟩
  obtain ⟨PN, hPN⟩ : ∃ PN, Hid (putS g.n = PN) := ⟨_, rfl⟩
  obtain ⟨lm, hlm⟩ : ∃ l, Hid (PM.length = l) := ⟨_, rfl⟩
  obtain ⟨ln, hln⟩ : ∃ l, Hid (PN.length = l) := ⟨_, rfl⟩
  have hm1 : 1 ≤ lm ∧ lm ≤ 10 := by rw [← hlm.out, ← hPM.out]; exact putS_len _
  have hn1 : 1 ≤ ln ∧ ln ≤ 10 := by rw [← hln.out, ← hPN.out]; exact putS_len _
  have BM : Hid (Bytes8 PM) := by rw [← hPM.out]; exact putS_byte hg.nans
  have BN : Hid (Bytes8 PN) := by rw [← hPN.out]; exact putS_byte hg.n
  have P1 : Hid (∀ W : World, Calls Try.prog 33 #[.slice none 0 0, .int .u64 g.nans] W fun e w' => ∃ a' cap', e = .returned (.slice a' lm cap') ∧ Mine w' W.heap.size a' lm cap' PM ∧ Below W.heap.size W w') := fun W => by
    have h := put_any g.nans none 0 0 [] W hg.nans (by omega) (Nat.le_refl _) (nil_row _ _ _)
    rw [List.nil_append, hPM.out, hlm.out, Nat.zero_add] at h
    exact h
  have P2 : Hid (∀ (W : World) (a1 : Option Addr) (c1 base : Nat), Mine W base a1 lm c1 PM → Calls Try.prog 33 #[.slice a1 lm c1, .int .u64 g.n] W fun e w' => ∃ a' cap', e = .returned (.slice a' (lm + ln) cap') ∧ Mine w' W.heap.size a' (lm + ln) cap' (PM ++ PN) ∧ Below W.heap.size W w') := fun W a1 c1 base o => by
    have h := put_any g.n a1 lm c1 PM W hg.n (by omega) o.capped.1 (o.row (by omega) (fits_wf BM.out))
    rw [hPN.out, hln.out] at h
    exact h
  have HE : Hid (putG g = PM ++ PN ++ (if g.n = 0 then [] else b8 g.lo 8 ++ b8 g.hi 8)) := by
    show _ = _
    unfold putG; rw [hPM.out, hPN.out, List.append_assoc]
  have hl8 := b8_len g.lo 8
  have hh8 := b8_len g.hi 8
  have Q1 : Hid (∀ (W : World) (a1 : Option Addr) (c1 base : Nat), base ≤ W.heap.size → Mine W base a1 (lm + ln) c1 (PM ++ PN) → Calls Try.prog 34 #[.slice a1 (lm + ln) c1, .int .u64 g.lo] W fun e w' => ∃ a' cap', e = .returned (.slice a' (lm + ln + 8) cap') ∧ Mine w' base a' (lm + ln + 8) cap' (PM ++ PN ++ b8 g.lo 8) ∧ Below base W w') := fun W a1 c1 base hb o =>
    putbits_any g.lo base a1 (lm + ln) c1 (PM ++ PN) W hg.lo (by omega) hb o
  have Q2 : Hid (∀ (W : World) (a1 : Option Addr) (c1 base : Nat), base ≤ W.heap.size → Mine W base a1 (lm + ln + 8) c1 (PM ++ PN ++ b8 g.lo 8) → Calls Try.prog 34 #[.slice a1 (lm + ln + 8) c1, .int .u64 g.hi] W fun e w' => ∃ a' cap', e = .returned (.slice a' (lm + ln + 16) cap') ∧ Mine w' base a' (lm + ln + 16) cap' (PM ++ PN ++ b8 g.lo 8 ++ b8 g.hi 8) ∧ Below base W w') := fun W a1 c1 base hb o =>
    putbits_any g.hi base a1 (lm + ln + 8) c1 (PM ++ PN ++ b8 g.lo 8) W hg.hi (by omega) hb o
  have CT : Hid (∀ (W : World) (a1 : Option Addr) (m c1 base : Nat) (Z : List Int), Below w.heap.size w W → m ≤ 100 → 0 < m → Bytes8 Z → Mine W base a1 m c1 Z → Calls Try.prog 35 #[.slice (some ⟨W.heap.size, 0, none⟩) 2 2] (W.alloc (.cells #[.slice a n cap, .slice a1 m c1] 33)) fun e w' => ∃ a' cap', e = .returned (.slice a' (n + m) cap') ∧ Mine w' W.heap.size a' (n + m) cap' (zs ++ Z) ∧ Below W.heap.size W w') := fun W a1 m c1 base Z hW hm1 hm2 hZ o =>
    concat_two a n cap zs a1 m c1 Z W (hr.below hW (Nat.le_refl _)) (o.row (by omega) (fits_wf hZ)) hm2 (by omega)
  have BL := hide (b8_byte g.lo 8)
  have BH := hide (b8_byte g.hi 8)
  have hgn := hg.n.1
  clear hg G hr R0 hPM hPN
  generalize putG g = PG at HE ⊢
  generalize b8 g.lo 8 = BLO at *
  generalize b8 g.hi 8 = BHI at *
  go_enter Try.func16, Try.ntmps16
  go_upto_region 1 with fail
  rw [hw0.out]
  clear hw0
  obtain ⟨k, hk⟩ : ∃ k, Hid (w.heap.size = k) := ⟨_, rfl⟩
  rw [hk.out] at S0 Z0
  rw [hk.out]
  go_cut [5] (fun x wx => ∃ a1 c1, x = .slice a1 (lm + ln) c1 ∧ Hid (Mine wx (k + 1) a1 (lm + ln) c1 (PM ++ PN)) ∧ Hid (((World.cell? wx ⟨k, 0, none⟩ = some (.int .u64 (Gz.n g))) ∧ (World.cell? wx ⟨k, 1, none⟩ = some (.int .u64 (Gz.nans g))) ∧ (World.cell? wx ⟨k, 2, none⟩ = some (.int .u64 (Gz.lo g))) ∧ (World.cell? wx ⟨k, 3, none⟩ = some (.int .u64 (Gz.hi g)))) ∧ Hid (Below (k + 1) w0 wx)))
  case first =>
    go_region_held3 (fun w' => ((World.cell? w' ⟨k, 0, none⟩ = some (.int .u64 (Gz.n g))) ∧ (World.cell? w' ⟨k, 1, none⟩ = some (.int .u64 (Gz.nans g))) ∧ (World.cell? w' ⟨k, 2, none⟩ = some (.int .u64 (Gz.lo g))) ∧ (World.cell? w' ⟨k, 3, none⟩ = some (.int .u64 (Gz.hi g)))) ∧ Hid (Below (k + 1) w0 w')) (first | exact S0.out | exact keepH Z0 (by assumption) (by assumption)) (first
      | (go_at_call 33; with_reducible refine (P1.out _).mono ?_; rintro e v1 ⟨a1, c1, rfl, o1, b1⟩; have O1 := hide o1)
      | (go_at_call 33; with_reducible refine (P2.out _ _ _ _ O1.out).mono ?_; rintro e v2 ⟨a2, c2, rfl, o2, b2⟩; have O2 := hide o2))
    go_wp2_with fail
    go_meet
    case rel =>
      have hz : k + 1 ≤ v1.heap.size := Nat.le_trans Z0.out b1.size
      exact ⟨a2, c2, rfl, O2.out.mono hz, by assumption⟩
  case rest =>
    obtain ⟨a1, c1, rfl, O1, S1⟩ := hcut
    have f0 := S1.out.1.1
    have HBW : Hid (Below w.heap.size w wc) := by
      rw [hk.out] at B0 ⊢
      exact B0.out.trans (S1.out.2.out.mono (Nat.le_succ _))
    have HB2 : Hid (∀ W' : World, Below wc.heap.size wc W' → Below w.heap.size w W') := fun W' h => bel_to HBW.out (Nat.le_refl _) h
    by_cases h0 : g.n = 0
    · have i0 : ¬ 0 < g.n := by omega
      have hE := HE.out
      rw [if_pos h0, List.append_nil] at hE
      have hL : PG.length = lm + ln := by rw [hE, List.length_append, hlm.out, hln.out]
      have C := hide (CT.out wc a1 (lm + ln) c1 (k + 1) PG HBW.out (by omega) (by omega) (by rw [hE]; exact Bytes8.append BM.out BN.out) (by rw [hE]; exact O1.out))
      clear hE HE h0 P1 P2 Q1 Q2 CT O1
      go_wp2_with fail
      refine C.out.mono ?_
      rintro e w' ⟨a', c', rfl, o, b⟩
      have O := hide o
      have B := hide (HB2.out _ b)
      have hz : w.heap.size ≤ wc.heap.size := HBW.out.size
      clear o b
      go_wp2
      go_ret
      rw [hL]
      exact ⟨a', c', rfl, O.out.mono hz, B.out⟩
    · have i0 : 0 < g.n := by omega
      have S2 : Hid (((World.cell? wc.drew ⟨k, 0, none⟩ = some (.int .u64 (Gz.n g))) ∧ (World.cell? wc.drew ⟨k, 1, none⟩ = some (.int .u64 (Gz.nans g))) ∧ (World.cell? wc.drew ⟨k, 2, none⟩ = some (.int .u64 (Gz.lo g))) ∧ (World.cell? wc.drew ⟨k, 3, none⟩ = some (.int .u64 (Gz.hi g)))) ∧ Hid (Below (k + 1) w0 wc.drew)) := ⟨S1.out.1, S1.out.2.out.drew⟩
      have O1d : Hid (Mine wc.drew (k + 1) a1 (lm + ln) c1 (PM ++ PN)) := O1.out.drew
      have Z1 : Hid (k + 1 ≤ wc.drew.heap.size) := Nat.le_trans Z0.out S1.out.2.out.size
      have hE := HE.out
      rw [if_neg h0] at hE
      have hL : PG.length = lm + ln + 16 := by rw [hE]; simp only [List.length_append]; rw [hlm.out, hln.out, hl8, hh8]
      have hE2 : PM ++ PN ++ BLO ++ BHI = PG := by rw [hE]; simp only [List.append_assoc]
      have HPB : Hid (Bytes8 PG) := by rw [hE]; exact Bytes8.append (Bytes8.append BM.out BN.out) (Bytes8.append BL.out BH.out)
      rw [hE2] at Q2
      clear hE hE2 HE h0 P1 P2 O1
      go_upto_region 3 with fail
      go_cut [5] (fun x wx => ∃ a1 c1, x = .slice a1 (lm + ln + 16) c1 ∧ Hid (Mine wx (k + 1) a1 (lm + ln + 16) c1 PG) ∧ Hid (((World.cell? wx ⟨k, 0, none⟩ = some (.int .u64 (Gz.n g))) ∧ (World.cell? wx ⟨k, 1, none⟩ = some (.int .u64 (Gz.nans g))) ∧ (World.cell? wx ⟨k, 2, none⟩ = some (.int .u64 (Gz.lo g))) ∧ (World.cell? wx ⟨k, 3, none⟩ = some (.int .u64 (Gz.hi g)))) ∧ Hid (Below (k + 1) w0 wx)))
      case first =>
        go_region_held3 (fun w' => ((World.cell? w' ⟨k, 0, none⟩ = some (.int .u64 (Gz.n g))) ∧ (World.cell? w' ⟨k, 1, none⟩ = some (.int .u64 (Gz.nans g))) ∧ (World.cell? w' ⟨k, 2, none⟩ = some (.int .u64 (Gz.lo g))) ∧ (World.cell? w' ⟨k, 3, none⟩ = some (.int .u64 (Gz.hi g)))) ∧ Hid (Below (k + 1) w0 w')) (first | exact S2.out | exact keepG (by assumption) (by assumption)) (first
          | (go_at_call 34; with_reducible refine (Q1.out _ _ _ _ Z1.out O1d.out).mono ?_; rintro e v1 ⟨a2, c2, rfl, o1, b1⟩; have O2 := hide o1)
          | (go_at_call 34; with_reducible refine (Q2.out _ _ _ _ (Nat.le_trans Z1.out b1.size) O2.out).mono ?_; rintro e v2 ⟨a3, c3, rfl, o2, b2⟩; have O3 := hide o2))
        go_wp2_with fail
        go_meet
        case rel => exact ⟨a3, c3, rfl, O3, by assumption⟩
      case rest =>
        obtain ⟨a4, c4, rfl, O4, S4⟩ := hcut
        clear HB2 HBW S2 O1d Z1 f0 S1 Q1 Q2
        have HBW : Hid (Below w.heap.size w wc) := by
          rw [hk.out] at B0 ⊢
          exact B0.out.trans (S4.out.2.out.mono (Nat.le_succ _))
        have HB2 : Hid (∀ W' : World, Below wc.heap.size wc W' → Below w.heap.size w W') := fun W' h => bel_to HBW.out (Nat.le_refl _) h
        have C := hide (CT.out wc a4 (lm + ln + 16) c4 (k + 1) PG HBW.out (by omega) (by omega) HPB.out O4.out)
        clear CT O4 S4
        go_wp2_with fail
        refine C.out.mono ?_
        rintro e w' ⟨a', c', rfl, o, b⟩
        have O := hide o
        have B := hide (HB2.out _ b)
        have hz : w.heap.size ≤ wc.heap.size := HBW.out.size
        clear o b
        go_wp2
        go_ret
        rw [hL]
        exact ⟨a', c', rfl, O.out.mono hz, B.out⟩
end Go.Proofs.Ytnhjjdgdffjdcaa
