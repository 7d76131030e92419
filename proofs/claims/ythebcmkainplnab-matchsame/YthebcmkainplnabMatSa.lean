/-
  The program's own Same of matchers (same; slices.Equal, slices.EqualFunc): contracts, for every world; what was there before stays (written by gen/matsa.gen.py).
  Conditions: they lie in memory.
-/
import Derived.Test.YthebcmkainplnabMatS
import Derived.Test.YthebcmkainplnabMatDb
import Derived.Test.YthebcmkainplnabShelf
namespace Go.Proofs.Ythebcmkainplnab
open Go.RowKit
set_option maxRecDepth 20000

theorem eqStr_any (S S2 : Nat → Prop) (a : Option Addr) (n c : Nat) (vs : List ByteArray) (a2 : Option Addr) (n2 c2 : Nat) (vs2 : List ByteArray) (w : World) (t : TxR S w a n vs) (t2 : TxR S2 w a2 n2 vs2) :
    Calls Try.prog 34 #[.slice a n c, .slice a2 n2 c2] w fun e w' => e = .returned (.bool (decide (vs = vs2))) ∧ Below w.heap.size w w' := by
  have h1 := t.1
  have h1' := t2.1
  have h2 := t.2.1
  have h2' := t2.2.1
  by_cases hn : n = n2
  · subst hn
    by_cases h0 : n = 0
    · subst h0
      have e1 : vs = [] := List.length_eq_zero_iff.1 h1
      have e2 : vs2 = [] := List.length_eq_zero_iff.1 h1'
      subst e1 e2
      refine (Try.slices_Equal_string_empty a a2 c 0 c2 w (by decide)).mono fun e w' ⟨he, hw⟩ => ⟨he, ?_⟩
      rw [hw]
      exact Below.refl _ _
    · obtain ⟨-, -, -, h4 | ⟨b, off, rfl, -, hc⟩⟩ := t
      · omega
      obtain ⟨-, -, -, h4 | ⟨b2, off2, rfl, -, hc2⟩⟩ := t2
      · omega
      refine (Try.slices_Equal_string b off n c b2 off2 n c2 vs vs2 w (by omega) (by omega) (by omega) (by omega) (fun j hj => hc j (by omega)) (fun j hj => hc2 j (by omega))).mono fun e w' ⟨he, q, hw⟩ => ⟨?_, ?_⟩
      · rw [he, List.take_of_length_le (by omega), List.take_of_length_le (by omega)]
      · rw [hw]
        exact bel_drewN (Below.refl _ _) q
  · refine (Try.slices_Equal_string_lens a a2 n c n2 c2 w hn).mono fun e w' ⟨he, hw⟩ => ⟨?_, ?_⟩
    · rw [he, decide_eq_false (fun e => hn (by rw [← h1, ← h1', e]))]
    · rw [hw]
      exact Below.refl _ _
open Classical in
/-- The same kids? -/
noncomputable def sameKB (m n : List Mt) : Bool := decide (m = n)
theorem sameKB_no {m n : List Mt} (h : m ≠ n) : sameKB m n = false := by simp [sameKB, h]
theorem sameKB_iff {m n : List Mt} : sameKB m n = true ↔ m = n := by simp [sameKB]
def SamP (m : Mt) : Prop := ∀ (S : Nat → Prop) (h : Hm) (m2 : Mt) (S2 : Nat → Prop) (h2 : Hm) (w : World), SeeM S w m h → SeeM S2 w m2 h2 →
    Calls Try.prog 22 #[.agg #[.int .i64 h.op, .string h.nm, .string h.vl, .slice h.va h.vn h.vc, .slice h.ka h.kn h.kc], .agg #[.int .i64 h2.op, .string h2.nm, .string h2.vl, .slice h2.va h2.vn h2.vc, .slice h2.ka h2.kn h2.kc]] w fun e w' => e = .returned (.bool (sameB m m2)) ∧ Below w.heap.size w w'

set_option maxHeartbeats 4000000 in
theorem eqFunc_of (m : Mt) (ih : ∀ k ∈ m.ks, SamP k) (S : Nat → Prop) (h : Hm) (m2 : Mt) (S2 : Nat → Prop) (h2 : Hm) (w : World) (q : SeeM S w m h) (q2 : SeeM S2 w m2 h2) :
    Calls Try.prog 35 #[.slice h.ka h.kn h.kc, .slice h2.ka h2.kn h2.kc, .func (.func 22) #[] #[]] w fun e w' => e = .returned (.bool (sameKB m.ks m2.ks)) ∧ Below w.heap.size w w' := by
  obtain ⟨op, nm, vl, va, vn, vc, ka, kn, kc⟩ := h
  obtain ⟨op2, nm2, vl2, va2, vn2, vc2, ka2, kn2, kc2⟩ := h2
  have IH := hide ih
  obtain ⟨-, -, -, hw, -, hk, -⟩ := seeM_iff.1 q
  obtain ⟨-, -, -, hw', -, hk', -⟩ := seeM_iff.1 q2
  dsimp only at hk hk' ⊢
  have w4 : kn * 88 ≤ 140737488355328 := hw.kn
  have w4' : kn2 * 88 ≤ 140737488355328 := hw'.kn
  have HQ := hide q
  have HQ2 := hide q2
  have HK := hide (And.intro hk hk')
  generalize hans : sameKB m.ks m2.ks = ans
  have HA := hide hans
  clear ih q q2 hw hw' hk hk' hans
  by_cases a5 : kn = kn2
  · subst a5
    have t5 : ((kn : Int) != (kn : Int)) = false := by simp
    go_enter Try.func35, Try.ntmps35
    go_wp2
    go_loopw [17] (fun i wr => ∃ j : Nat, j ≤ kn ∧ i = .int .i64 j ∧ Hid (Below w.heap.size w wr) ∧ Hid (∀ i, i < j → m.ks[i]? = m2.ks[i]?)) (fun i _ => kn - (intOf i).toNat)
    case atStart => exact ⟨0, by omega, rfl, Below.refl _ _, fun i hi => absurd hi (Nat.not_lt_zero _)⟩
    case round =>
      obtain ⟨j, hj, rfl, HL, HS⟩ := hrel
      obtain ⟨v, rfl⟩ : ∃ v, v = wr := ⟨wr, rfl⟩
      by_cases hlt : j < kn
      · obtain ⟨x1, y1, kd, h', e, hkd, -, q5, qk⟩ := (HQ.out.below HL.out).kid hlt
        obtain ⟨x2, y2, kd2, h'', e', hkd2, -, q6, qk2⟩ := (HQ2.out.below HL.out).kid hlt
        obtain ⟨op3, nm3, vl3, va3, vn3, vc3, ka3, kn3, kc3⟩ := h'
        obtain ⟨op4, nm4, vl4, va4, vn4, vc4, ka4, kn4, kc4⟩ := h''
        dsimp only at e e'
        subst e
        subst e'
        have i1 : (0 : Int) ≤ (j : Int) := by omega
        have i2 : (j : Int) < (kn : Int) := by omega
        have HX := hide (And.intro hkd hkd2)
        obtain ⟨g0, g1, g2, g3, g4⟩ := q5.all
        obtain ⟨f0, f1, f2, f3, f4⟩ := q6.all
        dsimp only at g0 g1 g2 g3 g4 f0 f1 f2 f3 f4
        obtain ⟨W, hW⟩ : ∃ W, Hid ((v.alloc (.cells #[.int .i64 op3, .string nm3, .string vl3, .slice va3 vn3 vc3, .slice ka3 kn3 kc3] 25)).alloc (.cells #[.int .i64 op4, .string nm4, .string vl4, .slice va4 vn4 vc4, .slice ka4 kn4 kc4] 25) = W) := ⟨_, rfl⟩
        have KW : Hid (Below v.heap.size v W) := by rw [← hW.out]; exact bel_al (bel_al (Below.refl _ _) (Nat.le_refl _) _) (Nat.le_refl _) _
        have BA : Hid (BoxM W v.heap.size ⟨op3, nm3, vl3, va3, vn3, vc3, ka3, kn3, kc3⟩) := by
          rw [← hW.out]
          exact (boxM_new v ⟨op3, nm3, vl3, va3, vn3, vc3, ka3, kn3, kc3⟩).block (Below.heap_alloc _ _ _ (by simp))
        have BB : Hid (BoxM W (v.heap.size + 1) ⟨op4, nm4, vl4, va4, vn4, vc4, ka4, kn4, kc4⟩) := by
          rw [← hW.out]
          have := boxM_new (v.alloc (.cells #[.int .i64 op3, .string nm3, .string vl3, .slice va3 vn3 vc3, .slice ka3 kn3 kc3] 25)) ⟨op4, nm4, vl4, va4, vn4, vc4, ka4, kn4, kc4⟩
          rwa [show (v.alloc (.cells #[.int .i64 op3, .string nm3, .string vl3, .slice va3 vn3 vc3, .slice ka3 kn3 kc3] 25)).heap.size = v.heap.size + 1 by simp] at this
        have T := hide (IH.out kd (List.mem_of_getElem? hkd) S _ kd2 S2 _ W (qk.below KW.out) (qk2.below KW.out))
        dsimp only at T
        have LW := hide (bel_to HL.out (Nat.le_refl _) KW.out)
        have c0 := Below.refl v.heap.size (v.alloc (.cells #[.int .i64 op3, .string nm3, .string vl3, .slice va3 vn3 vc3, .slice ka3 kn3 kc3] 25))
        have F0 : Hid (five (v.alloc (.cells #[.int .i64 op3, .string nm3, .string vl3, .slice va3 vn3 vc3, .slice ka3 kn3 kc3] 25)) x2 (y2 + j * 5) ⟨op4, nm4, vl4, va4, vn4, vc4, ka4, kn4, kc4⟩) := q6.block (Below.heap_alloc _ _ _ q6.lt)
        obtain ⟨d0, d1, d2, d3, d4⟩ := F0.out.all
        dsimp only at d0 d1 d2 d3 d4
        clear hkd hkd2 q5 q6 qk qk2 c0 F0 KW
        go_upto_region 7 with fail
        rw [hW.out]
        clear hW g0 g1 g2 g3 g4 f0 f1 f2 f3 f4 d0 d1 d2 d3 d4
        obtain ⟨g0, g1, g2, g3, g4, _⟩ := BA.out.all
        obtain ⟨f0, f1, f2, f3, f4, _⟩ := BB.out.all
        dsimp only at g0 g1 g2 g3 g4 f0 f1 f2 f3 f4
        go_wp2_with fail
        with_reducible refine T.out.mono ?_
        rintro e v2 ⟨rfl, k2⟩
        have L2 := hide (bel_to LW.out (Nat.le_refl _) k2)
        clear k2 T g0 g1 g2 g3 g4 f0 f1 f2 f3 f4
        by_cases a7 : kd = kd2
        · subst a7
          rw [sameB_self]
          have HS2 : Hid (∀ i, i < j + 1 → m.ks[i]? = m2.ks[i]?) := by
            intro i hi
            by_cases e : i = j
            · subst e; rw [HX.out.1, HX.out.2]
            · exact HS.out i (by omega)
          go_wp2
          go_roundw
          case rel => exact ⟨j + 1, by omega, by go_num, L2, HS2⟩
          case measure => simp [intOf]; omega
        · rw [sameB_no a7]
          have HN : Hid (ans = false) := by
            rw [← HA.out]
            exact sameKB_no (fun e => a7 (by
              have h1 := HX.out.1
              rw [e, HX.out.2] at h1
              simpa using h1.symm))
          go_wp2
          go_ret
          exact ⟨by rw [HN.out]; rfl, L2.out⟩
      · have HN : Hid (ans = true) := by
          rw [← HA.out]
          exact sameKB_iff.2 (ends_take (by rw [HK.out.1, HK.out.2]) (fun i hi => HS.out i (by rw [HK.out.1] at hi; omega)))
        go_wp2
        go_ret
        exact ⟨by rw [HN.out]; rfl, HL.out⟩
  · have t5 : ((kn : Int) != (kn2 : Int)) = true := by simp; omega
    have HN : Hid (ans = false) := by
      rw [← HA.out]
      exact sameKB_no (fun e => a5 (by rw [← HK.out.1, ← HK.out.2, e]))
    go_enter Try.func35, Try.ntmps35
    go_wp2
    go_ret
    exact ⟨by rw [HN.out]; rfl, Below.refl _ _⟩

set_option maxHeartbeats 8000000 in
theorem sameP_any (m : Mt) : SamP m := by
  refine Mt.ind (P := SamP) ?_ m
  intro m ih S h m2 S2 h2 w q q2
  obtain ⟨op, nm, vl, va, vn, vc, ka, kn, kc⟩ := h
  obtain ⟨op2, nm2, vl2, va2, vn2, vc2, ka2, kn2, kc2⟩ := h2
  obtain ⟨e1, e2, e3, hw, hv, hk, -⟩ := seeM_iff.1 q
  obtain ⟨e1', e2', e3', hw', hv', hk', -⟩ := seeM_iff.1 q2
  dsimp only at e1 e2 e3 hv hk e1' e2' e3' hv' hk' ⊢
  obtain ⟨W, hW⟩ : ∃ W, Hid ((w.alloc (.cells #[.int .i64 op, .string nm, .string vl, .slice va vn vc, .slice ka kn kc] 25)).alloc (.cells #[.int .i64 op2, .string nm2, .string vl2, .slice va2 vn2 vc2, .slice ka2 kn2 kc2] 25) = W) := ⟨_, rfl⟩
  have B : Hid (BoxM W w.heap.size ⟨op, nm, vl, va, vn, vc, ka, kn, kc⟩) := by
    rw [← hW.out]
    exact (boxM_new w ⟨op, nm, vl, va, vn, vc, ka, kn, kc⟩).block (Below.heap_alloc _ _ _ (by simp))
  have A : Hid (BoxM W (w.heap.size + 1) ⟨op2, nm2, vl2, va2, vn2, vc2, ka2, kn2, kc2⟩) := by
    rw [← hW.out]
    have := boxM_new (w.alloc (.cells #[.int .i64 op, .string nm, .string vl, .slice va vn vc, .slice ka kn kc] 25)) ⟨op2, nm2, vl2, va2, vn2, vc2, ka2, kn2, kc2⟩
    rwa [show (w.alloc (.cells #[.int .i64 op, .string nm, .string vl, .slice va vn vc, .slice ka kn kc] 25)).heap.size = w.heap.size + 1 by simp] at this
  have L : Hid (Below w.heap.size w W) := by rw [← hW.out]; exact ((Below.refl _ _).alloc (Nat.le_refl _) _).alloc (by simp) _
  obtain ⟨b0, b1, b2, b3, b4, _⟩ := B.out.all
  obtain ⟨c0, c1, c2, c3, c4, _⟩ := A.out.all
  dsimp only at b0 b1 b2 b3 b4 c0 c1 c2 c3 c4
  have TV := hide (fun u (hu : Below w.heap.size w u) => eqStr_any S S2 va vn vc m.vs va2 vn2 vc2 m2.vs u (hv.below hu) (hv'.below hu))
  have TK := hide (fun u (hu : Below w.heap.size w u) => eqFunc_of m ih S _ m2 S2 _ u (q.below hu) (q2.below hu))
  dsimp only at TK
  have HE := hide (And.intro e1 (And.intro e2 (And.intro e3 hk)))
  have HE2 := hide (And.intro e1' (And.intro e2' (And.intro e3' hk')))
  clear ih q q2 hw hw' hv hv' e1 e2 e3 hk e1' e2' e3' hk'
  generalize hans : sameB m m2 = ans
  have HA := hide hans
  clear hans
  by_cases a1 : op = op2
  · subst a1
    have t1 : (op == op) = true := by simp
    by_cases a2 : nm = nm2
    · subst a2
      have t2 : (nm.toList == nm.toList) = true := by simp
      by_cases a3 : vl = vl2
      · subst a3
        have t3 : (vl.toList == vl.toList) = true := by simp
        go_enter Try.func22, Try.ntmps22
        go_upto_region 1 with fail
        rw [hW.out]
        clear hW
        go_wp2_with fail
        with_reducible refine (TV.out _ L.out).mono ?_
        rintro e v1 ⟨rfl, k1⟩
        have L1 := hide (bel_to L.out (Nat.le_refl _) k1)
        have B1 := hide (B.out.block (k1.block _ B.out.lt))
        have A1 := hide (A.out.block (k1.block _ A.out.lt))
        clear TV k1 b0 b1 b2 b3 b4 c0 c1 c2 c3 c4 B A L
        obtain ⟨b0, b1, b2, b3, b4, _⟩ := B1.out.all
        obtain ⟨c0, c1, c2, c3, c4, _⟩ := A1.out.all
        dsimp only at b0 b1 b2 b3 b4 c0 c1 c2 c3 c4
        by_cases a4 : m.vs = m2.vs
        · rw [decide_eq_true a4]
          have HV := hide a4
          clear a4
          have HF : Hid (ans = sameKB m.ks m2.ks) := by
            rw [← HA.out, Bool.eq_iff_iff, sameB_iff, sameKB_iff]
            exact ⟨fun e => by rw [e], fun e => Mt.ext (HE.out.1.symm.trans HE2.out.1) (HE.out.2.1.symm.trans HE2.out.2.1) (HE.out.2.2.1.symm.trans HE2.out.2.2.1) HV.out e⟩
          go_wp2_with fail
          with_reducible refine (TK.out _ L1.out).mono ?_
          rintro e v2 ⟨rfl, k2⟩
          have L2 := hide (bel_to L1.out (Nat.le_refl _) k2)
          clear TK k2 b0 b1 b2 b3 b4 c0 c1 c2 c3 c4
          go_wp2
          go_ret
          exact ⟨by rw [HF.out]; rfl, L2.out⟩
        · rw [decide_eq_false a4]
          have HN : Hid (ans = false) := by
            rw [← HA.out]
            exact sameB_no (fun e => a4 (by rw [e]))
          go_wp2
          go_ret
          exact ⟨by rw [HN.out]; rfl, L1.out⟩
      · have t3 : (vl.toList == vl2.toList) = false := by rw [ba_eq]; exact decide_eq_false a3
        have HN : Hid (ans = false) := by
          rw [← HA.out]
          exact sameB_no (fun e => a3 (by rw [HE.out.2.2.1, HE2.out.2.2.1, e]))
        go_enter Try.func22, Try.ntmps22
        go_upto_region 1 with fail
        rw [hW.out]
        clear hW
        go_wp2
        go_ret
        exact ⟨by rw [HN.out]; rfl, L.out⟩
    · have t2 : (nm.toList == nm2.toList) = false := by rw [ba_eq]; exact decide_eq_false a2
      have HN : Hid (ans = false) := by
        rw [← HA.out]
        exact sameB_no (fun e => a2 (by rw [HE.out.2.1, HE2.out.2.1, e]))
      go_enter Try.func22, Try.ntmps22
      go_upto_region 1 with fail
      rw [hW.out]
      clear hW
      go_wp2
      go_ret
      exact ⟨by rw [HN.out]; rfl, L.out⟩
  · have t1 : (op == op2) = false := by simp [a1]
    have HN : Hid (ans = false) := by
      rw [← HA.out]
      exact sameB_no (fun e => a1 (by rw [HE.out.1, HE2.out.1, e]))
    go_enter Try.func22, Try.ntmps22
    go_upto_region 1 with fail
    rw [hW.out]
    clear hW
    go_wp2
    go_ret
    exact ⟨by rw [HN.out]; rfl, L.out⟩

set_option maxHeartbeats 4000000 in
/-- The program's own Same, of two of which the first may be. -/
theorem sameT_any (m : Mt) (S : Nat → Prop) (h : Hm) (m2 : Mt) (S2 : Nat → Prop) (h2 : Hm) (w : World) (q : SeeM S w m h) (q2 : SeeM S2 w m2 h2) (hc : chkM m = true) :
    Calls Try.prog 10 #[.agg #[.int .i64 h.op, .string h.nm, .string h.vl, .slice h.va h.vn h.vc, .slice h.ka h.kn h.kc], .agg #[.int .i64 h2.op, .string h2.nm, .string h2.vl, .slice h2.va h2.vn h2.vc, .slice h2.ka h2.kn h2.kc]] w fun e w' => e = .returned (.bool (sameB m m2)) ∧ Below w.heap.size w w' := by
  obtain ⟨op, nm, vl, va, vn, vc, ka, kn, kc⟩ := h
  obtain ⟨op2, nm2, vl2, va2, vn2, vc2, ka2, kn2, kc2⟩ := h2
  dsimp only
  obtain ⟨W, hW⟩ : ∃ W, Hid ((w.alloc (.cells #[.int .i64 op, .string nm, .string vl, .slice va vn vc, .slice ka kn kc] 25)).alloc (.cells #[.int .i64 op2, .string nm2, .string vl2, .slice va2 vn2 vc2, .slice ka2 kn2 kc2] 25) = W) := ⟨_, rfl⟩
  have B : Hid (BoxM W w.heap.size ⟨op, nm, vl, va, vn, vc, ka, kn, kc⟩) := by
    rw [← hW.out]
    exact (boxM_new w ⟨op, nm, vl, va, vn, vc, ka, kn, kc⟩).block (Below.heap_alloc _ _ _ (by simp))
  have A : Hid (BoxM W (w.heap.size + 1) ⟨op2, nm2, vl2, va2, vn2, vc2, ka2, kn2, kc2⟩) := by
    rw [← hW.out]
    have := boxM_new (w.alloc (.cells #[.int .i64 op, .string nm, .string vl, .slice va vn vc, .slice ka kn kc] 25)) ⟨op2, nm2, vl2, va2, vn2, vc2, ka2, kn2, kc2⟩
    rwa [show (w.alloc (.cells #[.int .i64 op, .string nm, .string vl, .slice va vn vc, .slice ka kn kc] 25)).heap.size = w.heap.size + 1 by simp] at this
  have L : Hid (Below w.heap.size w W) := by rw [← hW.out]; exact ((Below.refl _ _).alloc (Nat.le_refl _) _).alloc (by simp) _
  obtain ⟨b0, b1, b2, b3, b4, _⟩ := B.out.all
  obtain ⟨c0, c1, c2, c3, c4, _⟩ := A.out.all
  dsimp only at b0 b1 b2 b3 b4 c0 c1 c2 c3 c4
  have T := hide (chkM_any S m _ W (q.below L.out))
  rw [hc] at T
  have T2 := hide (fun u (hu : Below w.heap.size w u) => sameP_any m S _ m2 S2 _ u (q.below hu) (q2.below hu))
  dsimp only at T T2
  generalize sameB m m2 = ans at *
  clear q q2 hc
  go_enter Try.func10, Try.ntmps10
  go_upto_region 1 with fail
  rw [hW.out]
  clear hW
  go_wp2_with fail
  with_reducible refine T.out.mono ?_
  rintro e v1 ⟨rfl, k1⟩
  have L1 := hide (bel_to L.out (Nat.le_refl _) k1)
  have B1 := hide (B.out.block (k1.block _ B.out.lt))
  have A1 := hide (A.out.block (k1.block _ A.out.lt))
  clear T k1 b0 b1 b2 b3 b4 c0 c1 c2 c3 c4 B A L
  obtain ⟨b0, b1, b2, b3, b4, _⟩ := B1.out.all
  obtain ⟨c0, c1, c2, c3, c4, _⟩ := A1.out.all
  dsimp only at b0 b1 b2 b3 b4 c0 c1 c2 c3 c4
  go_wp2_with fail
  with_reducible refine (T2.out _ L1.out).mono ?_
  rintro e v2 ⟨rfl, k2⟩
  have L2 := hide (bel_to L1.out (Nat.le_refl _) k2)
  clear T2 k2 b0 b1 b2 b3 b4 c0 c1 c2 c3 c4
  go_wp2
  go_ret
  exact ⟨rfl, L2.out⟩
end Go.Proofs.Ythebcmkainplnab
