/-
  The document's Same: whether two matchers are the same, part by part: a contract, for every world.
  Conditions: they lie in memory.
-/
import Derived.Test.YthebcmkainplnaaMatX
import Derived.Deep.QuietTactic
import Derived.Deep.RegionHeld3
namespace Go.Proofs.Ythebcmkainplnaa
open Go.RowKit
set_option maxRecDepth 20000

open Classical in
/-- The same? -/
noncomputable def sameB (m n : Mt) : Bool := decide (m = n)
theorem sameB_self (m : Mt) : sameB m m = true := by simp [sameB]
theorem sameB_no {m n : Mt} (h : m ≠ n) : sameB m n = false := by simp [sameB, h]
theorem sameB_iff {m n : Mt} : sameB m n = true ↔ m = n := by simp [sameB]
theorem ends_take {α : Type} {l r : List α} (hl : l.length = r.length) (h : ∀ j, j < l.length → l[j]? = r[j]?) : l = r := by
  refine List.ext_getElem? fun i => ?_
  by_cases hi : i < l.length
  · exact h i hi
  · rw [List.getElem?_eq_none (by omega), List.getElem?_eq_none (by omega)]
theorem BoxM.drewN {w : World} {g : Nat} {h : Hm} (q : BoxM w g h) (j : Nat) : BoxM (w.drewN j) g h := q
theorem BoxM.drew {w : World} {g : Nat} {h : Hm} (q : BoxM w g h) : BoxM w.drew g h := q
theorem TxR.below {S : Nat → Prop} {w w' : World} {a : Option Addr} {n : Nat} {ss : List ByteArray} (q : TxR S w a n ss) (hb : Below w.heap.size w w') : TxR S w' a n ss := q.ch (Ch.of_below hb) (fun _ _ => id)

theorem keepS {w v v' : World} {B g1 g2 b1 o1 b2 o2 : Nat} {x1 x2 p0 p1 p2 p3 p4 q0 q1 q2 q3 q4 : Value} (hb : Below v.heap.size v v')
    (h : (v.cell? ⟨g1, 4, none⟩ = some x1 ∧ v.cell? ⟨g2, 4, none⟩ = some x2) ∧ (v.cell? ⟨b1, o1, none⟩ = some p0 ∧ v.cell? ⟨b1, o1 + 1, none⟩ = some p1 ∧ v.cell? ⟨b1, o1 + 2, none⟩ = some p2 ∧ v.cell? ⟨b1, o1 + 3, none⟩ = some p3 ∧ v.cell? ⟨b1, o1 + 4, none⟩ = some p4) ∧ (v.cell? ⟨b2, o2, none⟩ = some q0 ∧ v.cell? ⟨b2, o2 + 1, none⟩ = some q1 ∧ v.cell? ⟨b2, o2 + 2, none⟩ = some q2 ∧ v.cell? ⟨b2, o2 + 3, none⟩ = some q3 ∧ v.cell? ⟨b2, o2 + 4, none⟩ = some q4) ∧ Hid (B ≤ v.heap.size ∧ Below B w v)) :
    (v'.cell? ⟨g1, 4, none⟩ = some x1 ∧ v'.cell? ⟨g2, 4, none⟩ = some x2) ∧ (v'.cell? ⟨b1, o1, none⟩ = some p0 ∧ v'.cell? ⟨b1, o1 + 1, none⟩ = some p1 ∧ v'.cell? ⟨b1, o1 + 2, none⟩ = some p2 ∧ v'.cell? ⟨b1, o1 + 3, none⟩ = some p3 ∧ v'.cell? ⟨b1, o1 + 4, none⟩ = some p4) ∧ (v'.cell? ⟨b2, o2, none⟩ = some q0 ∧ v'.cell? ⟨b2, o2 + 1, none⟩ = some q1 ∧ v'.cell? ⟨b2, o2 + 2, none⟩ = some q2 ∧ v'.cell? ⟨b2, o2 + 3, none⟩ = some q3 ∧ v'.cell? ⟨b2, o2 + 4, none⟩ = some q4) ∧ Hid (B ≤ v'.heap.size ∧ Below B w v') := by
  have k : ∀ {b o : Nat} {x : Value}, v.cell? ⟨b, o, none⟩ = some x → v'.cell? ⟨b, o, none⟩ = some x := fun {b o x} e => by
    rw [hb.cell (p := ⟨b, o, none⟩) (World.block_lt_of_cell? v _ e)]; exact e
  obtain ⟨⟨a1, a2⟩, ⟨c0, c1, c2, c3, c4⟩, ⟨d0, d1, d2, d3, d4⟩, l1, l2⟩ := h
  exact ⟨⟨k a1, k a2⟩, ⟨k c0, k c1, k c2, k c3, k c4⟩, ⟨k d0, k d1, k d2, k d3, k d4⟩, Nat.le_trans l1 hb.size, l2.trans (hb.mono l1)⟩

set_option maxHeartbeats 8000000 in
theorem same_any (m : Mt) : ∀ (S : Nat → Prop) (h : Hm) (m2 : Mt) (S2 : Nat → Prop) (h2 : Hm) (w : World), SeeM S w m h → SeeM S2 w m2 h2 →
    Calls Try.prog 20 #[.agg #[.int .i64 h.op, .string h.nm, .string h.vl, .slice h.va h.vn h.vc, .slice h.ka h.kn h.kc], .agg #[.int .i64 h2.op, .string h2.nm, .string h2.vl, .slice h2.va h2.vn h2.vc, .slice h2.ka h2.kn h2.kc]] w fun e w' => e = .returned (.bool (sameB m m2)) ∧ Below w.heap.size w w' := by
  refine Mt.ind (P := fun m => ∀ (S : Nat → Prop) (h : Hm) (m2 : Mt) (S2 : Nat → Prop) (h2 : Hm) (w : World), SeeM S w m h → SeeM S2 w m2 h2 →
    Calls Try.prog 20 #[.agg #[.int .i64 h.op, .string h.nm, .string h.vl, .slice h.va h.vn h.vc, .slice h.ka h.kn h.kc], .agg #[.int .i64 h2.op, .string h2.nm, .string h2.vl, .slice h2.va h2.vn h2.vc, .slice h2.ka h2.kn h2.kc]] w fun e w' => e = .returned (.bool (sameB m m2)) ∧ Below w.heap.size w w') ?_ m
  intro m ih S h m2 S2 h2 w q q2
  obtain ⟨op, nm, vl, va, vn, vc, ka, kn, kc⟩ := h
  obtain ⟨op2, nm2, vl2, va2, vn2, vc2, ka2, kn2, kc2⟩ := h2
  have IH := hide ih
  obtain ⟨e1, e2, e3, hw, hv, hk, -⟩ := seeM_iff.1 q
  obtain ⟨e1', e2', e3', hw', hv', hk', -⟩ := seeM_iff.1 q2
  dsimp only at e1 e2 e3 hv hk e1' e2' e3' hv' hk' ⊢
  have w1 : nm.size ≤ 9223372036854775807 := hw.nm
  have w2 : vl.size ≤ 9223372036854775807 := hw.vl
  have w3 : vn * 16 ≤ 140737488355328 := hv.2.1
  have w4 : kn * 88 ≤ 140737488355328 := hw.kn
  have w3' : vn2 * 16 ≤ 140737488355328 := hv'.2.1
  have w4' : kn2 * 88 ≤ 140737488355328 := hw'.kn
  have HQ := hide q
  have HQ2 := hide q2
  have HV := hide hv
  have HV2 := hide hv'
  have HE := hide (And.intro e1 (And.intro e2 (And.intro e3 hk)))
  have HE2 := hide (And.intro e1' (And.intro e2' (And.intro e3' hk')))
  obtain ⟨W, hW⟩ : ∃ W, Hid ((w.alloc (.cells #[.int .i64 op, .string nm, .string vl, .slice va vn vc, .slice ka kn kc] 25)).alloc (.cells #[.int .i64 op2, .string nm2, .string vl2, .slice va2 vn2 vc2, .slice ka2 kn2 kc2] 25) = W) := ⟨_, rfl⟩
  have B : Hid (BoxM W w.heap.size ⟨op, nm, vl, va, vn, vc, ka, kn, kc⟩) := by
    rw [← hW.out]
    exact (boxM_new w ⟨op, nm, vl, va, vn, vc, ka, kn, kc⟩).block (Below.heap_alloc _ _ _ (by simp))
  have A : Hid (BoxM W (w.heap.size + 1) ⟨op2, nm2, vl2, va2, vn2, vc2, ka2, kn2, kc2⟩) := by
    rw [← hW.out]
    have := boxM_new (w.alloc (.cells #[.int .i64 op, .string nm, .string vl, .slice va vn vc, .slice ka kn kc] 25)) ⟨op2, nm2, vl2, va2, vn2, vc2, ka2, kn2, kc2⟩
    rwa [show (w.alloc (.cells #[.int .i64 op, .string nm, .string vl, .slice va vn vc, .slice ka kn kc] 25)).heap.size = w.heap.size + 1 by simp] at this
  have L : Hid (Below w.heap.size w W) := by rw [← hW.out]; exact ((Below.refl _ _).alloc (Nat.le_refl _) _).alloc (by simp) _
  obtain ⟨b0, b1, b2, b3, b4, _⟩ := B.out.all
  obtain ⟨c0, c1, c2, c3, c4, _⟩ := A.out.all
  dsimp only at b0 b1 b2 b3 b4 c0 c1 c2 c3 c4
  clear ih q q2 hw hw' hv hv' e1 e2 e3 hk e1' e2' e3' hk'
  by_cases a1 : op = op2
  · subst a1
    have t1 : (op != op) = false := by simp
    by_cases a2 : nm = nm2
    · subst a2
      have t2 : (nm.toList == nm.toList) = true := by simp
      by_cases a3 : vl = vl2
      · subst a3
        have t3 : (vl.toList == vl.toList) = true := by simp
        by_cases a4 : vn = vn2
        · subst a4
          have t4 : ((vn : Int) != (vn : Int)) = false := by simp
          by_cases a5 : kn = kn2
          · subst a5
            have t5 : ((kn : Int) != (kn : Int)) = false := by simp
            go_enter Try.func20, Try.ntmps20
            go_upto_region 1 with fail
            rw [hW.out]
            clear hW
            go_wp2
            go_loopw [5] (fun i wr => ∃ j : Nat, j ≤ vn ∧ i = .int .i64 j ∧ Hid (BoxM wr w.heap.size ⟨op, nm, vl, va, vn, vc, ka, kn, kc⟩) ∧ Hid (BoxM wr (w.heap.size + 1) ⟨op, nm, vl, va2, vn, vc2, ka2, kn, kc2⟩) ∧ Hid (Below w.heap.size w wr) ∧ Hid (∀ i, i < j → m.vs[i]? = m2.vs[i]?)) (fun i _ => vn - (intOf i).toNat)
            case atStart => exact ⟨0, by omega, rfl, B, A, L, fun i hi => absurd hi (Nat.not_lt_zero _)⟩
            case round =>
              obtain ⟨j, hj, rfl, HB1, HA1, HL, HS⟩ := hrel
              obtain ⟨u, rfl⟩ : ∃ u, u = wr := ⟨wr, rfl⟩
              clear B A L b0 b1 b2 b3 b4 c0 c1 c2 c3 c4
              obtain ⟨_, _, _, b3, _, _⟩ := HB1.out.all
              obtain ⟨_, _, _, c3, _, _⟩ := HA1.out.all
              dsimp only at b3 c3
              by_cases hlt : j < vn
              · obtain ⟨x1, y1, s, rfl, hs, hsz, _, hc⟩ := (HV.out.below HL.out).at' hlt
                obtain ⟨x2, y2, s2, rfl, hs2, hsz2, _, hc2⟩ := (HV2.out.below HL.out).at' hlt
                have i1 : (0 : Int) ≤ (j : Int) := by omega
                have i2 : (j : Int) < (vn : Int) := by omega
                have HX := hide (And.intro hs hs2)
                clear hs hs2
                by_cases a6 : s = s2
                · subst a6
                  have t6 : (s.toList == s.toList) = true := by simp
                  have HS2 : Hid (∀ i, i < j + 1 → m.vs[i]? = m2.vs[i]?) := by
                    intro i hi
                    by_cases e : i = j
                    · subst e; rw [HX.out.1, HX.out.2]
                    · exact HS.out i (by omega)
                  go_wp2
                  go_quiet (fail)
                  go_wp2
                  go_roundw
                  case rel => exact ⟨j + 1, by omega, by go_num, HB1.out.drewN _, HA1.out.drewN _, bel_drewN HL.out _, HS2⟩
                  case measure => simp [intOf]; omega
                · have t6 : (s.toList == s2.toList) = false := by rw [ba_eq]; exact decide_eq_false a6
                  have HN : Hid (sameB m m2 = false) := sameB_no (fun e => a6 (by
                    have h1 := HX.out.1
                    rw [e, HX.out.2] at h1
                    simpa using h1.symm))
                  clear a6
                  go_wp2
                  go_quiet (fail)
                  go_wp2
                  go_ret
                  exact ⟨by rw [HN.out]; rfl, bel_drewN HL.out _⟩
              · obtain ⟨j0, hj0⟩ : ∃ j0, j0 = j := ⟨j, rfl⟩
                have : vn = j0 := by omega
                subst this
                subst hj0
                have HVS : Hid (m.vs = m2.vs) := ends_take (by rw [HV.out.1, HV2.out.1]) (fun i hi => HS.out i (by rw [HV.out.1] at hi; exact hi))
                clear HS b3 c3
                obtain ⟨_, _, _, b3, b4, _⟩ := HB1.out.all
                obtain ⟨_, _, _, c3, c4, _⟩ := HA1.out.all
                dsimp only at b3 c3 b4 c4
                go_wp2
                go_loopw [6] (fun i wr => ∃ j : Nat, j ≤ kn ∧ i = .int .i64 j ∧ Hid (BoxM wr w.heap.size ⟨op, nm, vl, va, vn, vc, ka, kn, kc⟩) ∧ Hid (BoxM wr (w.heap.size + 1) ⟨op, nm, vl, va2, vn, vc2, ka2, kn, kc2⟩) ∧ Hid (Below w.heap.size w wr) ∧ Hid (∀ i, i < j → m.ks[i]? = m2.ks[i]?)) (fun i _ => kn - (intOf i).toNat)
                case atStart => exact ⟨0, by omega, rfl, HB1, HA1, HL, fun i hi => absurd hi (Nat.not_lt_zero _)⟩
                case round =>
                  obtain ⟨j, hj, rfl, HB2, HA2, HL2, HS⟩ := hrel
                  obtain ⟨v, rfl⟩ : ∃ v, v = wr := ⟨wr, rfl⟩
                  clear HB1 HA1 HL b3 c3 b4 c4
                  obtain ⟨_, _, _, _, b4, _⟩ := HB2.out.all
                  obtain ⟨_, _, _, _, c4, _⟩ := HA2.out.all
                  dsimp only at b4 c4
                  by_cases hlt : j < kn
                  · obtain ⟨x1, y1, kd, h', e, hkd, -, q5, qk⟩ := (HQ.out.below HL2.out).kid hlt
                    obtain ⟨x2, y2, kd2, h'', e', hkd2, -, q6, qk2⟩ := (HQ2.out.below HL2.out).kid hlt
                    obtain ⟨p0, p1, p2, p3, p4, p5, p6, p7, p8⟩ := h'
                    obtain ⟨r0, r1, r2, r3, r4, r5, r6, r7, r8⟩ := h''
                    dsimp only at e e'
                    subst e
                    subst e'
                    have i1 : (0 : Int) ≤ (j : Int) := by omega
                    have i2 : (j : Int) < (kn : Int) := by omega
                    have HX := hide (And.intro hkd hkd2)
                    have S0 : Hid ((v.drew.cell? ⟨w.heap.size, 4, none⟩ = some (.slice (some ⟨x1, y1, none⟩) kn kc) ∧ v.drew.cell? ⟨w.heap.size + 1, 4, none⟩ = some (.slice (some ⟨x2, y2, none⟩) kn kc2)) ∧ (v.drew.cell? ⟨x1, y1 + j * 5, none⟩ = some (.int .i64 p0) ∧ v.drew.cell? ⟨x1, y1 + j * 5 + 1, none⟩ = some (.string p1) ∧ v.drew.cell? ⟨x1, y1 + j * 5 + 2, none⟩ = some (.string p2) ∧ v.drew.cell? ⟨x1, y1 + j * 5 + 3, none⟩ = some (.slice p3 p4 p5) ∧ v.drew.cell? ⟨x1, y1 + j * 5 + 4, none⟩ = some (.slice p6 p7 p8)) ∧ (v.drew.cell? ⟨x2, y2 + j * 5, none⟩ = some (.int .i64 r0) ∧ v.drew.cell? ⟨x2, y2 + j * 5 + 1, none⟩ = some (.string r1) ∧ v.drew.cell? ⟨x2, y2 + j * 5 + 2, none⟩ = some (.string r2) ∧ v.drew.cell? ⟨x2, y2 + j * 5 + 3, none⟩ = some (.slice r3 r4 r5) ∧ v.drew.cell? ⟨x2, y2 + j * 5 + 4, none⟩ = some (.slice r6 r7 r8)) ∧ Hid (w.heap.size ≤ v.drew.heap.size ∧ Below w.heap.size w v.drew)) :=
                      ⟨⟨b4, c4⟩, q5.all, q6.all, HL2.out.size, HL2.out.drew⟩
                    have T := hide (IH.out kd (List.mem_of_getElem? hkd) S _ kd2 S2 _ v.drew qk.drew qk2.drew)
                    dsimp only at T
                    clear hkd hkd2 q5 q6 qk qk2
                    go_upto_region 11 with fail
                    clear b4 c4
                    go_region_held3 (fun w' => (w'.cell? ⟨w.heap.size, 4, none⟩ = some (.slice (some ⟨x1, y1, none⟩) kn kc) ∧ w'.cell? ⟨w.heap.size + 1, 4, none⟩ = some (.slice (some ⟨x2, y2, none⟩) kn kc2)) ∧ (w'.cell? ⟨x1, y1 + j * 5, none⟩ = some (.int .i64 p0) ∧ w'.cell? ⟨x1, y1 + j * 5 + 1, none⟩ = some (.string p1) ∧ w'.cell? ⟨x1, y1 + j * 5 + 2, none⟩ = some (.string p2) ∧ w'.cell? ⟨x1, y1 + j * 5 + 3, none⟩ = some (.slice p3 p4 p5) ∧ w'.cell? ⟨x1, y1 + j * 5 + 4, none⟩ = some (.slice p6 p7 p8)) ∧ (w'.cell? ⟨x2, y2 + j * 5, none⟩ = some (.int .i64 r0) ∧ w'.cell? ⟨x2, y2 + j * 5 + 1, none⟩ = some (.string r1) ∧ w'.cell? ⟨x2, y2 + j * 5 + 2, none⟩ = some (.string r2) ∧ w'.cell? ⟨x2, y2 + j * 5 + 3, none⟩ = some (.slice r3 r4 r5) ∧ w'.cell? ⟨x2, y2 + j * 5 + 4, none⟩ = some (.slice r6 r7 r8)) ∧ Hid (w.heap.size ≤ w'.heap.size ∧ Below w.heap.size w w')) (first | with_reducible exact S0.out | with_reducible exact keepS (by assumption) (by assumption)) (first
                      | (go_at_call 20; with_reducible refine T.out.mono ?_; rintro e v2 ⟨rfl, bv2⟩))
                    have BV : Hid (Below w.heap.size w v2) := bel_to HL2.out.drew (Nat.le_refl _) bv2
                    have HB3 := hide (HB2.out.drew.block (bv2.block _ HB2.out.drew.lt))
                    have HA3 := hide (HA2.out.drew.block (bv2.block _ HA2.out.drew.lt))
                    clear bv2 S0 T
                    by_cases a7 : kd = kd2
                    · subst a7
                      rw [sameB_self]
                      have HS2 : Hid (∀ i, i < j + 1 → m.ks[i]? = m2.ks[i]?) := by
                        intro i hi
                        by_cases e : i = j
                        · subst e; rw [HX.out.1, HX.out.2]
                        · exact HS.out i (by omega)
                      go_wp2
                      go_roundw
                      case rel => exact ⟨j + 1, by omega, by go_num, HB3, HA3, BV, HS2⟩
                      case measure => simp [intOf]; omega
                    · rw [sameB_no a7]
                      have HN : Hid (sameB m m2 = false) := sameB_no (fun e => a7 (by
                        have h1 := HX.out.1
                        rw [e, HX.out.2] at h1
                        simpa using h1.symm))
                      go_wp2
                      go_ret
                      exact ⟨by rw [HN.out]; rfl, BV.out⟩
                  · obtain ⟨j0, hj0⟩ : ∃ j0, j0 = j := ⟨j, rfl⟩
                    have : kn = j0 := by omega
                    subst this
                    subst hj0
                    have HN : Hid (sameB m m2 = true) := sameB_iff.2 (Mt.ext (HE.out.1.symm.trans HE2.out.1) (HE.out.2.1.symm.trans HE2.out.2.1) (HE.out.2.2.1.symm.trans HE2.out.2.2.1) HVS.out (ends_take (by rw [HE.out.2.2.2, HE2.out.2.2.2]) (fun i hi => HS.out i (by rw [HE.out.2.2.2] at hi; exact hi))))
                    go_wp2
                    go_ret
                    exact ⟨by rw [HN.out]; rfl, HL2.out⟩
          · have t5 : ((kn : Int) != (kn2 : Int)) = true := by simp; omega
            have HN : Hid (sameB m m2 = false) := sameB_no (fun e => a5 (by rw [← HE.out.2.2.2, ← HE2.out.2.2.2, e]))
            go_enter Try.func20, Try.ntmps20
            go_upto_region 1 with fail
            rw [hW.out]
            go_wp2
            go_ret
            exact ⟨by rw [HN.out]; rfl, L.out⟩
        · have t4 : ((vn : Int) != (vn2 : Int)) = true := by simp; omega
          have HN : Hid (sameB m m2 = false) := sameB_no (fun e => a4 (by rw [← HV.out.1, ← HV2.out.1, e]))
          go_enter Try.func20, Try.ntmps20
          go_upto_region 1 with fail
          rw [hW.out]
          go_wp2
          go_ret
          exact ⟨by rw [HN.out]; rfl, L.out⟩
      · have t3 : (vl.toList == vl2.toList) = false := by rw [ba_eq]; exact decide_eq_false a3
        have HN : Hid (sameB m m2 = false) := sameB_no (fun e => a3 (by rw [HE.out.2.2.1, HE2.out.2.2.1, e]))
        go_enter Try.func20, Try.ntmps20
        go_upto_region 1 with fail
        rw [hW.out]
        go_wp2
        go_ret
        exact ⟨by rw [HN.out]; rfl, L.out⟩
    · have t2 : (nm.toList == nm2.toList) = false := by rw [ba_eq]; exact decide_eq_false a2
      have HN : Hid (sameB m m2 = false) := sameB_no (fun e => a2 (by rw [HE.out.2.1, HE2.out.2.1, e]))
      go_enter Try.func20, Try.ntmps20
      go_upto_region 1 with fail
      rw [hW.out]
      go_wp2
      go_ret
      exact ⟨by rw [HN.out]; rfl, L.out⟩
  · have t1 : (op != op2) = true := by simp [a1]
    have HN : Hid (sameB m m2 = false) := sameB_no (fun e => a1 (by rw [HE.out.1, HE2.out.1, e]))
    go_enter Try.func20, Try.ntmps20
    go_upto_region 1 with fail
    rw [hW.out]
    go_wp2
    go_ret
    exact ⟨by rw [HN.out]; rfl, L.out⟩
end Go.Proofs.Ythebcmkainplnaa
