/-
  The program's own isBare, rise, fits of a matcher: contracts, for every world; what was there before stays (written by gen/matda.gen.py).
  Conditions: the matcher lies in memory.
-/
import Derived.Test.YtpffhpnmbpjifaaGreatMatU
import Derived.Test.YtpffhpnmbpjifaaGreatMatV
import Derived.Test.YtpffhpnmbpjifaaGreatLabZc
namespace Go.Proofs.YtpffhpnmbpjifaaGreat
open Go.RowKit
set_option maxRecDepth 20000

set_option maxHeartbeats 4000000 in
theorem isbare_any (h : Hm) (w : World) (hw : HmW h) :
    Calls Tryz.prog 80 #[.agg #[.int .i64 h.op, .string h.nm, .string h.vl, .slice h.va h.vn h.vc, .slice h.ka h.kn h.kc]] w fun e w' => e = .returned (.bool (decide (h.nm.size = 0) && (decide (h.vl.size = 0) && decide (h.vn = 0)))) ∧ Below w.heap.size w w' := by
  have BA := hide ((Below.refl w.heap.size w).alloc (Nat.le_refl _) (.cells #[.int .i64 h.op, .string h.nm, .string h.vl, .slice h.va h.vn h.vc, .slice h.ka h.kn h.kc] 26))
  have w1 := hw.nm
  have w2 := hw.vl
  clear hw
  by_cases a0 : h.nm.size = 0
  · have t0 : h.nm.toList = [] := ba_nil.2 a0
    have t0' := ba_nil1 a0
    rw [decide_eq_true a0]
    clear a0
    by_cases a1 : h.vl.size = 0
    · have t1 : h.vl.toList = [] := ba_nil.2 a1
      have t1' := ba_nil1 a1
      rw [decide_eq_true a1]
      clear a1
      by_cases a2 : h.vn = 0
      · have t2 : ((h.vn : Int) == 0) = true := by simp [a2]
        rw [decide_eq_true a2]
        clear a2
        go_enter Tryz.func80, Tryz.ntmps80
        go_wp2
        go_ret
        exact ⟨rfl, BA.out⟩
      · have t2 : ((h.vn : Int) == 0) = false := by simp; omega
        rw [decide_eq_false a2]
        simp only [Bool.and_false]
        clear a2
        go_enter Tryz.func80, Tryz.ntmps80
        go_wp2
        go_ret
        exact ⟨rfl, BA.out⟩
    · have t1 : ¬ h.vl.toList = [] := fun e => a1 (ba_nil.1 e)
      have t1' := ba_nil0 a1
      rw [decide_eq_false a1]
      simp only [Bool.false_and, Bool.and_false]
      clear a1
      go_enter Tryz.func80, Tryz.ntmps80
      go_wp2
      go_ret
      exact ⟨rfl, BA.out⟩
  · have t0 : ¬ h.nm.toList = [] := fun e => a0 (ba_nil.1 e)
    have t0' := ba_nil0 a0
    rw [decide_eq_false a0]
    simp only [Bool.false_and]
    clear a0
    go_enter Tryz.func80, Tryz.ntmps80
    go_wp2
    go_ret
    exact ⟨rfl, BA.out⟩

set_option maxHeartbeats 4000000 in
theorem riseV_any (S : Nat → Prop) (a : Option Addr) (n cap : Nat) (vs : List ByteArray) (w : World) (hr : TxR S w a n vs) :
    Calls Tryz.prog 81 #[.slice a n cap] w fun e w' => e = .returned (.bool (valsB vs)) ∧ w' = w := by
  have hn := hr.2.1
  have HR := hide hr
  have HL := hide hr.1
  have HV : Hid (valsB vs = (decide (1 ≤ n) && decide (n ≤ 16) && risB vs)) := by show _ = _; unfold valsB; rw [HL.out]
  generalize valsB vs = ans at *
  clear hr
  by_cases h1 : 1 ≤ n
  · by_cases h2 : n ≤ 16
    · have a1 : ((n : Int) == 0) = false := by simp; omega
      have a2 : ¬ (16 : Int) < (n : Int) := by omega
      rw [decide_eq_true h1, decide_eq_true h2, Bool.true_and, Bool.true_and] at HV
      go_enter Tryz.func81, Tryz.ntmps81
      go_wp2
      go_loopg [15] n (fun g i wr => ∃ k : Nat, k ≤ n ∧ n - k ≤ g ∧ i = .int .i64 k ∧ wr = w ∧ Hid (∀ (i : Nat) (s : ByteArray), i < k → vs[i]? = some s → s.size ≤ 64 ∧ ∀ p, 1 ≤ i → vs[i - 1]? = some p → Op.bytesLess p.toList s.toList = true))
      case atStart => exact ⟨0, Nat.zero_le _, by omega, rfl, rfl, fun i s hi => absurd hi (Nat.not_lt_zero _)⟩
      case round =>
        obtain ⟨k, hk, hg, rfl, rfl, A⟩ := hrel
        by_cases hlt : k < n
        · obtain ⟨b1, o1, x, rfl, hx, hxw, -, f0⟩ := HR.out.at' hlt
          have i1 : (0 : Int) ≤ (k : Int) := by omega
          have i2 : (k : Int) < (n : Int) := by omega
          have HX := hide hx
          clear hx
          by_cases h3 : x.size ≤ 64
          · have e2' : ¬ (64 : Int) < (x.size : Int) := by omega
            by_cases hk0 : k = 0
            · have A2 : Hid (∀ (i : Nat) (s : ByteArray), i < k + 1 → vs[i]? = some s → s.size ≤ 64 ∧ ∀ p, 1 ≤ i → vs[i - 1]? = some p → Op.bytesLess p.toList s.toList = true) := by
                intro i s hi hs
                have : i = k := by omega
                subst this
                rw [HX.out] at hs
                simp only [Option.some.injEq] at hs
                subst hs
                exact ⟨h3, fun p h4 => by omega⟩
              have e3' : ¬ (0 : Int) < (k : Int) := by omega
              clear hk0 h3
              go_wp2
              go_roundg (n - (k + 1))
              case measure => omega
              case rel => exact ⟨k + 1, by omega, by omega, by go_num, rfl, A2⟩
            · obtain ⟨j, rfl⟩ : ∃ j, k = j + 1 := ⟨k - 1, by omega⟩
              obtain ⟨b2, o2, y, hbo, hy, -, -, g0⟩ := HR.out.at' (i := j) (by omega)
              simp only [Option.some.injEq, Addr.mk.injEq, and_true] at hbo
              obtain ⟨rfl, rfl⟩ := hbo
              have HY := hide hy
              have e3' : (0 : Int) < (j : Int) + 1 := by omega
              have j1 : (0 : Int) ≤ (j : Int) := by omega
              have j2 : (j : Int) < (n : Int) := by omega
              clear hy
              cases hb : Op.bytesLess y.toList x.toList with
              | false =>
                have F : Hid (ans = false) := by
                  show _ = _
                  rw [HV.out, Bool.eq_false_iff]
                  intro e
                  have := (risB_iff.1 e (j + 1) x HX.out).2 y (by omega) (by rw [Nat.add_sub_cancel]; exact HY.out)
                  rw [hb] at this
                  cases this
                clear h3
                go_wp2
                go_ret
                exact ⟨by rw [F.out]; rfl, rfl⟩
              | true =>
                have A2 : Hid (∀ (i : Nat) (s : ByteArray), i < j + 1 + 1 → vs[i]? = some s → s.size ≤ 64 ∧ ∀ p, 1 ≤ i → vs[i - 1]? = some p → Op.bytesLess p.toList s.toList = true) := by
                  intro i s hi hs
                  by_cases e : i = j + 1
                  · subst e
                    rw [HX.out] at hs
                    simp only [Option.some.injEq] at hs
                    subst hs
                    refine ⟨h3, fun p _ hp => ?_⟩
                    rw [Nat.add_sub_cancel, HY.out] at hp
                    simp only [Option.some.injEq] at hp
                    subst hp
                    exact hb
                  · exact A.out i s (by omega) hs
                clear h3
                go_wp2
                go_roundg (n - (j + 1 + 1))
                case measure => omega
                case rel => exact ⟨j + 1 + 1, by omega, by omega, by go_num, rfl, A2⟩
          · have e2' : (64 : Int) < (x.size : Int) := by omega
            have F : Hid (ans = false) := by
              show _ = _
              rw [HV.out, Bool.eq_false_iff]
              intro e
              exact h3 (risB_iff.1 e k x HX.out).1
            clear h3
            go_wp2
            go_ret
            exact ⟨by rw [F.out]; rfl, rfl⟩
        · have hkn : k = n := by omega
          have F : Hid (ans = true) := by
            show _ = _
            rw [HV.out, risB_iff]
            intro i s hs
            have : i < vs.length := (List.getElem?_eq_some_iff.1 hs).1
            exact A.out i s (by rw [HL.out] at this; omega) hs
          clear A HV
          go_wp2
          go_ret
          exact ⟨by rw [F.out]; rfl, rfl⟩
    · have a1 : ((n : Int) == 0) = false := by simp; omega
      have a2 : (16 : Int) < (n : Int) := by omega
      have F : Hid (ans = false) := by show _ = _; rw [HV.out, decide_eq_false h2, Bool.and_false, Bool.false_and]
      clear HV
      go_enter Tryz.func81, Tryz.ntmps81
      go_wp2
      go_ret
      exact ⟨by rw [F.out]; rfl, rfl⟩
  · have a1 : ((n : Int) == 0) = true := by simp; omega
    have F : Hid (ans = false) := by show _ = _; rw [HV.out, decide_eq_false h1, Bool.false_and, Bool.false_and]
    clear HV
    go_enter Tryz.func81, Tryz.ntmps81
    go_wp2
    go_ret
    exact ⟨by rw [F.out]; rfl, rfl⟩

set_option maxHeartbeats 4000000 in
theorem fits_0 (nm vl : ByteArray) (va : Option Addr) (vn vc : Nat) (ka : Option Addr) (kn kc : Nat) (w : World) (hw : HmW ⟨0, nm, vl, va, vn, vc, ka, kn, kc⟩) :
    Calls Tryz.prog 64 #[.agg #[.int .i64 0, .string nm, .string vl, .slice va vn vc, .slice ka kn kc]] w fun e w' => e = .returned (.bool ((decide (nm.size = 0) && (decide (vl.size = 0) && decide (vn = 0))) && decide (kn = 0))) ∧ Below w.heap.size w w' := by
  have C := hide (fun W => isbare_any ⟨0, nm, vl, va, vn, vc, ka, kn, kc⟩ W hw)
  dsimp only at C
  generalize (decide (nm.size = 0) && (decide (vl.size = 0) && decide (vn = 0))) = f at C ⊢
  obtain ⟨ans, HA⟩ : ∃ ans, Hid ((f && decide (kn = 0)) = ans) := ⟨_, rfl⟩
  rw [HA.out]
  have BA := hide ((Below.refl w.heap.size w).alloc (Nat.le_refl _) (.cells #[.int .i64 0, .string nm, .string vl, .slice va vn vc, .slice ka kn kc] 26))
  have B := hide (boxM_new w ⟨0, nm, vl, va, vn, vc, ka, kn, kc⟩)
  dsimp only at B
  have w3 : kn * 88 ≤ 140737488355328 := hw.kn
  generalize hW : w.alloc (.cells #[.int .i64 0, .string nm, .string vl, .slice va vn vc, .slice ka kn kc] 26) = W at B BA
  have HW := hide hW
  clear hW hw
  obtain ⟨b0, b1, b2, b3, b4, _⟩ := B.out.all
  dsimp only at b0 b1 b2 b3 b4
  go_enter Tryz.func64, Tryz.ntmps64
  go_upto_region 1 with fail
  rw [HW.out]
  clear HW
  go_wp2_with fail
  with_reducible refine (C.out _).mono ?_
  rintro e w2 ⟨rfl, bw⟩
  have B2 := hide (B.out.block (bw.block _ B.out.lt))
  have BB : Hid (Below w.heap.size w w2) := bel_to BA.out (Nat.le_refl _) bw
  clear C b0 b1 b2 b3 b4 bw
  obtain ⟨b0, b1, b2, b3, b4, _⟩ := B2.out.all
  dsimp only at b0 b1 b2 b3 b4
  cases f with
  | false =>
    have F : Hid (false = ans) := HA.out
    go_wp2
    go_ret
    exact ⟨by rw [← F.out]; rfl, BB.out⟩
  | true =>
    by_cases a : kn = 0
    · have t : ((kn : Int) == 0) = true := by simp [a]
      have F : Hid (true = ans) := by rw [← HA.out, decide_eq_true a]; exact rfl
      clear a
      go_wp2
      go_ret
      exact ⟨by rw [← F.out]; rfl, BB.out⟩
    · have t : ((kn : Int) == 0) = false := by simp; omega
      have F : Hid (false = ans) := by rw [← HA.out, decide_eq_false a]; exact rfl
      clear a
      go_wp2
      go_ret
      exact ⟨by rw [← F.out]; rfl, BB.out⟩

set_option maxHeartbeats 4000000 in
theorem fits_5 (nm vl : ByteArray) (va : Option Addr) (vn vc : Nat) (ka : Option Addr) (kn kc : Nat) (w : World) (hw : HmW ⟨5, nm, vl, va, vn, vc, ka, kn, kc⟩) :
    Calls Tryz.prog 64 #[.agg #[.int .i64 5, .string nm, .string vl, .slice va vn vc, .slice ka kn kc]] w fun e w' => e = .returned (.bool ((decide (nm.size = 0) && (decide (vl.size = 0) && decide (vn = 0))))) ∧ Below w.heap.size w w' := by
  have C := hide (fun W => isbare_any ⟨5, nm, vl, va, vn, vc, ka, kn, kc⟩ W hw)
  dsimp only at C
  generalize (decide (nm.size = 0) && (decide (vl.size = 0) && decide (vn = 0))) = f at C ⊢
  
  have BA := hide ((Below.refl w.heap.size w).alloc (Nat.le_refl _) (.cells #[.int .i64 5, .string nm, .string vl, .slice va vn vc, .slice ka kn kc] 26))
  have B := hide (boxM_new w ⟨5, nm, vl, va, vn, vc, ka, kn, kc⟩)
  dsimp only at B
  have w3 : kn * 88 ≤ 140737488355328 := hw.kn
  generalize hW : w.alloc (.cells #[.int .i64 5, .string nm, .string vl, .slice va vn vc, .slice ka kn kc] 26) = W at B BA
  have HW := hide hW
  clear hW hw
  obtain ⟨b0, b1, b2, b3, b4, _⟩ := B.out.all
  dsimp only at b0 b1 b2 b3 b4
  go_enter Tryz.func64, Tryz.ntmps64
  go_upto_region 1 with fail
  rw [HW.out]
  clear HW
  go_wp2_with fail
  with_reducible refine (C.out _).mono ?_
  rintro e w2 ⟨rfl, bw⟩
  have B2 := hide (B.out.block (bw.block _ B.out.lt))
  have BB : Hid (Below w.heap.size w w2) := bel_to BA.out (Nat.le_refl _) bw
  clear C b0 b1 b2 b3 b4 bw
  obtain ⟨b0, b1, b2, b3, b4, _⟩ := B2.out.all
  dsimp only at b0 b1 b2 b3 b4
  go_wp2
  go_ret
  exact ⟨rfl, BB.out⟩

set_option maxHeartbeats 4000000 in
theorem fits_6 (nm vl : ByteArray) (va : Option Addr) (vn vc : Nat) (ka : Option Addr) (kn kc : Nat) (w : World) (hw : HmW ⟨6, nm, vl, va, vn, vc, ka, kn, kc⟩) :
    Calls Tryz.prog 64 #[.agg #[.int .i64 6, .string nm, .string vl, .slice va vn vc, .slice ka kn kc]] w fun e w' => e = .returned (.bool ((decide (nm.size = 0) && (decide (vl.size = 0) && decide (vn = 0))))) ∧ Below w.heap.size w w' := by
  have C := hide (fun W => isbare_any ⟨6, nm, vl, va, vn, vc, ka, kn, kc⟩ W hw)
  dsimp only at C
  generalize (decide (nm.size = 0) && (decide (vl.size = 0) && decide (vn = 0))) = f at C ⊢
  
  have BA := hide ((Below.refl w.heap.size w).alloc (Nat.le_refl _) (.cells #[.int .i64 6, .string nm, .string vl, .slice va vn vc, .slice ka kn kc] 26))
  have B := hide (boxM_new w ⟨6, nm, vl, va, vn, vc, ka, kn, kc⟩)
  dsimp only at B
  have w3 : kn * 88 ≤ 140737488355328 := hw.kn
  generalize hW : w.alloc (.cells #[.int .i64 6, .string nm, .string vl, .slice va vn vc, .slice ka kn kc] 26) = W at B BA
  have HW := hide hW
  clear hW hw
  obtain ⟨b0, b1, b2, b3, b4, _⟩ := B.out.all
  dsimp only at b0 b1 b2 b3 b4
  go_enter Tryz.func64, Tryz.ntmps64
  go_upto_region 1 with fail
  rw [HW.out]
  clear HW
  go_wp2_with fail
  with_reducible refine (C.out _).mono ?_
  rintro e w2 ⟨rfl, bw⟩
  have B2 := hide (B.out.block (bw.block _ B.out.lt))
  have BB : Hid (Below w.heap.size w w2) := bel_to BA.out (Nat.le_refl _) bw
  clear C b0 b1 b2 b3 b4 bw
  obtain ⟨b0, b1, b2, b3, b4, _⟩ := B2.out.all
  dsimp only at b0 b1 b2 b3 b4
  go_wp2
  go_ret
  exact ⟨rfl, BB.out⟩

set_option maxHeartbeats 4000000 in
theorem fits_7 (nm vl : ByteArray) (va : Option Addr) (vn vc : Nat) (ka : Option Addr) (kn kc : Nat) (w : World) (hw : HmW ⟨7, nm, vl, va, vn, vc, ka, kn, kc⟩) :
    Calls Tryz.prog 64 #[.agg #[.int .i64 7, .string nm, .string vl, .slice va vn vc, .slice ka kn kc]] w fun e w' => e = .returned (.bool ((decide (nm.size = 0) && (decide (vl.size = 0) && decide (vn = 0))) && decide (kn = 1))) ∧ Below w.heap.size w w' := by
  have C := hide (fun W => isbare_any ⟨7, nm, vl, va, vn, vc, ka, kn, kc⟩ W hw)
  dsimp only at C
  generalize (decide (nm.size = 0) && (decide (vl.size = 0) && decide (vn = 0))) = f at C ⊢
  obtain ⟨ans, HA⟩ : ∃ ans, Hid ((f && decide (kn = 1)) = ans) := ⟨_, rfl⟩
  rw [HA.out]
  have BA := hide ((Below.refl w.heap.size w).alloc (Nat.le_refl _) (.cells #[.int .i64 7, .string nm, .string vl, .slice va vn vc, .slice ka kn kc] 26))
  have B := hide (boxM_new w ⟨7, nm, vl, va, vn, vc, ka, kn, kc⟩)
  dsimp only at B
  have w3 : kn * 88 ≤ 140737488355328 := hw.kn
  generalize hW : w.alloc (.cells #[.int .i64 7, .string nm, .string vl, .slice va vn vc, .slice ka kn kc] 26) = W at B BA
  have HW := hide hW
  clear hW hw
  obtain ⟨b0, b1, b2, b3, b4, _⟩ := B.out.all
  dsimp only at b0 b1 b2 b3 b4
  go_enter Tryz.func64, Tryz.ntmps64
  go_upto_region 1 with fail
  rw [HW.out]
  clear HW
  go_wp2_with fail
  with_reducible refine (C.out _).mono ?_
  rintro e w2 ⟨rfl, bw⟩
  have B2 := hide (B.out.block (bw.block _ B.out.lt))
  have BB : Hid (Below w.heap.size w w2) := bel_to BA.out (Nat.le_refl _) bw
  clear C b0 b1 b2 b3 b4 bw
  obtain ⟨b0, b1, b2, b3, b4, _⟩ := B2.out.all
  dsimp only at b0 b1 b2 b3 b4
  cases f with
  | false =>
    have F : Hid (false = ans) := HA.out
    go_wp2
    go_ret
    exact ⟨by rw [← F.out]; rfl, BB.out⟩
  | true =>
    by_cases a : kn = 1
    · have t : ((kn : Int) == 1) = true := by simp [a]
      have F : Hid (true = ans) := by rw [← HA.out, decide_eq_true a]; exact rfl
      clear a
      go_wp2
      go_ret
      exact ⟨by rw [← F.out]; rfl, BB.out⟩
    · have t : ((kn : Int) == 1) = false := by simp; omega
      have F : Hid (false = ans) := by rw [← HA.out, decide_eq_false a]; exact rfl
      clear a
      go_wp2
      go_ret
      exact ⟨by rw [← F.out]; rfl, BB.out⟩

set_option maxHeartbeats 4000000 in
theorem fits_1 (nm vl : ByteArray) (va : Option Addr) (vn vc : Nat) (ka : Option Addr) (kn kc : Nat) (w : World) (hw : HmW ⟨1, nm, vl, va, vn, vc, ka, kn, kc⟩) :
    Calls Tryz.prog 64 #[.agg #[.int .i64 1, .string nm, .string vl, .slice va vn vc, .slice ka kn kc]] w fun e w' => e = .returned (.bool (nameB nm && (decide (vl.size ≤ 64) && (decide (vn = 0) && decide (kn = 0))))) ∧ Below w.heap.size w w' := by
  have hnm := hw.nm
  have C := hide (fun W => name_any nm W hnm)
  generalize nameB nm = f at C ⊢
  obtain ⟨ans, HA⟩ : ∃ ans, Hid ((f && (decide (vl.size ≤ 64) && (decide (vn = 0) && decide (kn = 0)))) = ans) := ⟨_, rfl⟩
  rw [HA.out]
  have BA := hide ((Below.refl w.heap.size w).alloc (Nat.le_refl _) (.cells #[.int .i64 1, .string nm, .string vl, .slice va vn vc, .slice ka kn kc] 26))
  have B := hide (boxM_new w ⟨1, nm, vl, va, vn, vc, ka, kn, kc⟩)
  dsimp only at B
  have w2 : vl.size ≤ 9223372036854775807 := hw.vl
  have w3 : kn * 88 ≤ 140737488355328 := hw.kn
  generalize hW : w.alloc (.cells #[.int .i64 1, .string nm, .string vl, .slice va vn vc, .slice ka kn kc] 26) = W at B BA
  have HW := hide hW
  clear hW hw hnm
  obtain ⟨b0, b1, b2, b3, b4, _⟩ := B.out.all
  dsimp only at b0 b1 b2 b3 b4
  go_enter Tryz.func64, Tryz.ntmps64
  go_upto_region 1 with fail
  rw [HW.out]
  clear HW
  go_wp2_with fail
  with_reducible refine (C.out _).mono ?_
  rintro e w' ⟨rfl, hw'⟩
  rw [hw']
  clear hw' C
  cases f with
  | false =>
    go_wp2
    go_ret
    exact ⟨by rw [← HA.out]; rfl, BA.out⟩
  | true =>
    by_cases a1 : vl.size ≤ 64
    · have t1 : (vl.size : Int) ≤ 64 := by omega
      have D1 : Hid (decide (vl.size ≤ 64) = true) := decide_eq_true a1
      clear a1
      by_cases a2 : vn = 0
      · have t2 : ((vn : Int) == 0) = true := by simp [a2]
        have D2 : Hid (decide (vn = 0) = true) := decide_eq_true a2
        clear a2
        by_cases a3 : kn = 0
        · have t3 : ((kn : Int) == 0) = true := by simp [a3]
          have D3 : Hid (decide (kn = 0) = true) := decide_eq_true a3
          clear a3
          go_wp2
          go_ret
          exact ⟨by rw [← HA.out, D1.out, D2.out, D3.out]; rfl, BA.out⟩
        · have t3 : ((kn : Int) == 0) = false := by simp; omega
          have D3 : Hid (decide (kn = 0) = false) := decide_eq_false a3
          clear a3
          go_wp2
          go_ret
          exact ⟨by rw [← HA.out, D1.out, D2.out, D3.out]; rfl, BA.out⟩
      · have t2 : ((vn : Int) == 0) = false := by simp; omega
        have D2 : Hid (decide (vn = 0) = false) := decide_eq_false a2
        clear a2
        go_wp2
        go_ret
        exact ⟨by rw [← HA.out, D1.out, D2.out]; rfl, BA.out⟩
    · have t1 : ¬ (vl.size : Int) ≤ 64 := by omega
      have D1 : Hid (decide (vl.size ≤ 64) = false) := decide_eq_false a1
      clear a1
      go_wp2
      go_ret
      exact ⟨by rw [← HA.out, D1.out]; rfl, BA.out⟩

set_option maxHeartbeats 4000000 in
theorem fits_2 (nm vl : ByteArray) (va : Option Addr) (vn vc : Nat) (ka : Option Addr) (kn kc : Nat) (w : World) (hw : HmW ⟨2, nm, vl, va, vn, vc, ka, kn, kc⟩) :
    Calls Tryz.prog 64 #[.agg #[.int .i64 2, .string nm, .string vl, .slice va vn vc, .slice ka kn kc]] w fun e w' => e = .returned (.bool (nameB nm && (decide (vl.size ≤ 64) && (decide (vn = 0) && decide (kn = 0))))) ∧ Below w.heap.size w w' := by
  have hnm := hw.nm
  have C := hide (fun W => name_any nm W hnm)
  generalize nameB nm = f at C ⊢
  obtain ⟨ans, HA⟩ : ∃ ans, Hid ((f && (decide (vl.size ≤ 64) && (decide (vn = 0) && decide (kn = 0)))) = ans) := ⟨_, rfl⟩
  rw [HA.out]
  have BA := hide ((Below.refl w.heap.size w).alloc (Nat.le_refl _) (.cells #[.int .i64 2, .string nm, .string vl, .slice va vn vc, .slice ka kn kc] 26))
  have B := hide (boxM_new w ⟨2, nm, vl, va, vn, vc, ka, kn, kc⟩)
  dsimp only at B
  have w2 : vl.size ≤ 9223372036854775807 := hw.vl
  have w3 : kn * 88 ≤ 140737488355328 := hw.kn
  generalize hW : w.alloc (.cells #[.int .i64 2, .string nm, .string vl, .slice va vn vc, .slice ka kn kc] 26) = W at B BA
  have HW := hide hW
  clear hW hw hnm
  obtain ⟨b0, b1, b2, b3, b4, _⟩ := B.out.all
  dsimp only at b0 b1 b2 b3 b4
  go_enter Tryz.func64, Tryz.ntmps64
  go_upto_region 1 with fail
  rw [HW.out]
  clear HW
  go_wp2_with fail
  with_reducible refine (C.out _).mono ?_
  rintro e w' ⟨rfl, hw'⟩
  rw [hw']
  clear hw' C
  cases f with
  | false =>
    go_wp2
    go_ret
    exact ⟨by rw [← HA.out]; rfl, BA.out⟩
  | true =>
    by_cases a1 : vl.size ≤ 64
    · have t1 : (vl.size : Int) ≤ 64 := by omega
      have D1 : Hid (decide (vl.size ≤ 64) = true) := decide_eq_true a1
      clear a1
      by_cases a2 : vn = 0
      · have t2 : ((vn : Int) == 0) = true := by simp [a2]
        have D2 : Hid (decide (vn = 0) = true) := decide_eq_true a2
        clear a2
        by_cases a3 : kn = 0
        · have t3 : ((kn : Int) == 0) = true := by simp [a3]
          have D3 : Hid (decide (kn = 0) = true) := decide_eq_true a3
          clear a3
          go_wp2
          go_ret
          exact ⟨by rw [← HA.out, D1.out, D2.out, D3.out]; rfl, BA.out⟩
        · have t3 : ((kn : Int) == 0) = false := by simp; omega
          have D3 : Hid (decide (kn = 0) = false) := decide_eq_false a3
          clear a3
          go_wp2
          go_ret
          exact ⟨by rw [← HA.out, D1.out, D2.out, D3.out]; rfl, BA.out⟩
      · have t2 : ((vn : Int) == 0) = false := by simp; omega
        have D2 : Hid (decide (vn = 0) = false) := decide_eq_false a2
        clear a2
        go_wp2
        go_ret
        exact ⟨by rw [← HA.out, D1.out, D2.out]; rfl, BA.out⟩
    · have t1 : ¬ (vl.size : Int) ≤ 64 := by omega
      have D1 : Hid (decide (vl.size ≤ 64) = false) := decide_eq_false a1
      clear a1
      go_wp2
      go_ret
      exact ⟨by rw [← HA.out, D1.out]; rfl, BA.out⟩

set_option maxHeartbeats 4000000 in
theorem fits_3 (nm vl : ByteArray) (va : Option Addr) (vn vc : Nat) (ka : Option Addr) (kn kc : Nat) (w : World) (hw : HmW ⟨3, nm, vl, va, vn, vc, ka, kn, kc⟩) :
    Calls Tryz.prog 64 #[.agg #[.int .i64 3, .string nm, .string vl, .slice va vn vc, .slice ka kn kc]] w fun e w' => e = .returned (.bool (nameB nm && (decide (vl.size ≤ 64) && (decide (vn = 0) && decide (kn = 0))))) ∧ Below w.heap.size w w' := by
  have hnm := hw.nm
  have C := hide (fun W => name_any nm W hnm)
  generalize nameB nm = f at C ⊢
  obtain ⟨ans, HA⟩ : ∃ ans, Hid ((f && (decide (vl.size ≤ 64) && (decide (vn = 0) && decide (kn = 0)))) = ans) := ⟨_, rfl⟩
  rw [HA.out]
  have BA := hide ((Below.refl w.heap.size w).alloc (Nat.le_refl _) (.cells #[.int .i64 3, .string nm, .string vl, .slice va vn vc, .slice ka kn kc] 26))
  have B := hide (boxM_new w ⟨3, nm, vl, va, vn, vc, ka, kn, kc⟩)
  dsimp only at B
  have w2 : vl.size ≤ 9223372036854775807 := hw.vl
  have w3 : kn * 88 ≤ 140737488355328 := hw.kn
  generalize hW : w.alloc (.cells #[.int .i64 3, .string nm, .string vl, .slice va vn vc, .slice ka kn kc] 26) = W at B BA
  have HW := hide hW
  clear hW hw hnm
  obtain ⟨b0, b1, b2, b3, b4, _⟩ := B.out.all
  dsimp only at b0 b1 b2 b3 b4
  go_enter Tryz.func64, Tryz.ntmps64
  go_upto_region 1 with fail
  rw [HW.out]
  clear HW
  go_wp2_with fail
  with_reducible refine (C.out _).mono ?_
  rintro e w' ⟨rfl, hw'⟩
  rw [hw']
  clear hw' C
  cases f with
  | false =>
    go_wp2
    go_ret
    exact ⟨by rw [← HA.out]; rfl, BA.out⟩
  | true =>
    by_cases a1 : vl.size ≤ 64
    · have t1 : (vl.size : Int) ≤ 64 := by omega
      have D1 : Hid (decide (vl.size ≤ 64) = true) := decide_eq_true a1
      clear a1
      by_cases a2 : vn = 0
      · have t2 : ((vn : Int) == 0) = true := by simp [a2]
        have D2 : Hid (decide (vn = 0) = true) := decide_eq_true a2
        clear a2
        by_cases a3 : kn = 0
        · have t3 : ((kn : Int) == 0) = true := by simp [a3]
          have D3 : Hid (decide (kn = 0) = true) := decide_eq_true a3
          clear a3
          go_wp2
          go_ret
          exact ⟨by rw [← HA.out, D1.out, D2.out, D3.out]; rfl, BA.out⟩
        · have t3 : ((kn : Int) == 0) = false := by simp; omega
          have D3 : Hid (decide (kn = 0) = false) := decide_eq_false a3
          clear a3
          go_wp2
          go_ret
          exact ⟨by rw [← HA.out, D1.out, D2.out, D3.out]; rfl, BA.out⟩
      · have t2 : ((vn : Int) == 0) = false := by simp; omega
        have D2 : Hid (decide (vn = 0) = false) := decide_eq_false a2
        clear a2
        go_wp2
        go_ret
        exact ⟨by rw [← HA.out, D1.out, D2.out]; rfl, BA.out⟩
    · have t1 : ¬ (vl.size : Int) ≤ 64 := by omega
      have D1 : Hid (decide (vl.size ≤ 64) = false) := decide_eq_false a1
      clear a1
      go_wp2
      go_ret
      exact ⟨by rw [← HA.out, D1.out]; rfl, BA.out⟩

set_option maxHeartbeats 4000000 in
theorem fits_4 (S : Nat → Prop) (vs : List ByteArray) (nm vl : ByteArray) (va : Option Addr) (vn vc : Nat) (ka : Option Addr) (kn kc : Nat) (w : World) (hw : HmW ⟨4, nm, vl, va, vn, vc, ka, kn, kc⟩) (hv : TxR S w va vn vs) :
    Calls Tryz.prog 64 #[.agg #[.int .i64 4, .string nm, .string vl, .slice va vn vc, .slice ka kn kc]] w fun e w' => e = .returned (.bool (nameB nm && (decide (vl.size = 0) && (valsB vs && decide (kn = 0))))) ∧ Below w.heap.size w w' := by
  have hnm := hw.nm
  have C := hide (fun W => name_any nm W hnm)
  generalize nameB nm = f at C ⊢
  obtain ⟨ans, HA⟩ : ∃ ans, Hid ((f && (decide (vl.size = 0) && (valsB vs && decide (kn = 0)))) = ans) := ⟨_, rfl⟩
  rw [HA.out]
  have BA := hide ((Below.refl w.heap.size w).alloc (Nat.le_refl _) (.cells #[.int .i64 4, .string nm, .string vl, .slice va vn vc, .slice ka kn kc] 26))
  have B := hide (boxM_new w ⟨4, nm, vl, va, vn, vc, ka, kn, kc⟩)
  dsimp only at B
  have w2 : vl.size ≤ 9223372036854775807 := hw.vl
  have w3 : kn * 88 ≤ 140737488355328 := hw.kn
  have V := hide (riseV_any S va vn vc vs (w.alloc (.cells #[.int .i64 4, .string nm, .string vl, .slice va vn vc, .slice ka kn kc] 26)) (hv.ch (Ch.of_below BA.out) (fun _ _ => id)))
  generalize valsB vs = u at V HA
  generalize hW : w.alloc (.cells #[.int .i64 4, .string nm, .string vl, .slice va vn vc, .slice ka kn kc] 26) = W at B BA V
  have HW := hide hW
  clear hW hw hv hnm
  obtain ⟨b0, b1, b2, b3, b4, _⟩ := B.out.all
  dsimp only at b0 b1 b2 b3 b4
  go_enter Tryz.func64, Tryz.ntmps64
  go_upto_region 1 with fail
  rw [HW.out]
  clear HW
  go_wp2_with fail
  with_reducible refine (C.out _).mono ?_
  rintro e w' ⟨rfl, hw'⟩
  rw [hw']
  clear hw' C
  cases f with
  | false =>
    go_wp2
    go_ret
    exact ⟨by rw [← HA.out]; rfl, BA.out⟩
  | true =>
    by_cases a1 : vl.size = 0
    · have t1 : vl.toList = [] := ba_nil.2 a1
      have t1' := ba_nil1 a1
      have D1 : Hid (decide (vl.size = 0) = true) := decide_eq_true a1
      clear a1
      go_wp2_with fail
      with_reducible refine V.out.mono ?_
      rintro e w' ⟨rfl, hw'⟩
      rw [hw']
      clear hw' V
      cases u with
      | false =>
        go_wp2
        go_ret
        exact ⟨by rw [← HA.out, D1.out]; rfl, BA.out⟩
      | true =>
        by_cases a3 : kn = 0
        · have t3 : ((kn : Int) == 0) = true := by simp [a3]
          have D3 : Hid (decide (kn = 0) = true) := decide_eq_true a3
          clear a3
          go_wp2
          go_ret
          exact ⟨by rw [← HA.out, D1.out, D3.out]; rfl, BA.out⟩
        · have t3 : ((kn : Int) == 0) = false := by simp; omega
          have D3 : Hid (decide (kn = 0) = false) := decide_eq_false a3
          clear a3
          go_wp2
          go_ret
          exact ⟨by rw [← HA.out, D1.out, D3.out]; rfl, BA.out⟩
    · have t1 : ¬ vl.toList = [] := fun e => a1 (ba_nil.1 e)
      have t1' := ba_nil0 a1
      have D1 : Hid (decide (vl.size = 0) = false) := decide_eq_false a1
      clear a1
      go_wp2
      go_ret
      exact ⟨by rw [← HA.out, D1.out]; rfl, BA.out⟩

set_option maxHeartbeats 4000000 in
theorem fits_no (h : Hm) (w : World) (h0 : h.op ≠ 0) (h1 : h.op ≠ 1) (h2 : h.op ≠ 2) (h3 : h.op ≠ 3) (h4 : h.op ≠ 4) (h5 : h.op ≠ 5) (h6 : h.op ≠ 6) (h7 : h.op ≠ 7) :
    Calls Tryz.prog 64 #[.agg #[.int .i64 h.op, .string h.nm, .string h.vl, .slice h.va h.vn h.vc, .slice h.ka h.kn h.kc]] w fun e w' => e = .returned (.bool false) ∧ Below w.heap.size w w' := by
  have BA := hide ((Below.refl w.heap.size w).alloc (Nat.le_refl _) (.cells #[.int .i64 h.op, .string h.nm, .string h.vl, .slice h.va h.vn h.vc, .slice h.ka h.kn h.kc] 26))
  have t0 : (h.op == 0) = false := by simp [h0]
  have t1 : (h.op == 1) = false := by simp [h1]
  have t2 : (h.op == 2) = false := by simp [h2]
  have t3 : (h.op == 3) = false := by simp [h3]
  have t4 : (h.op == 4) = false := by simp [h4]
  have t5 : (h.op == 5) = false := by simp [h5]
  have t6 : (h.op == 6) = false := by simp [h6]
  have t7 : (h.op == 7) = false := by simp [h7]
  clear h0 h1 h2 h3 h4 h5 h6 h7
  go_enter Tryz.func64, Tryz.ntmps64
  go_wp2
  go_ret
  exact ⟨rfl, BA.out⟩

theorem fits_any (S : Nat → Prop) (m : Mt) (h : Hm) (w : World) (q : SeeM S w m h) :
    Calls Tryz.prog 64 #[.agg #[.int .i64 h.op, .string h.nm, .string h.vl, .slice h.va h.vn h.vc, .slice h.ka h.kn h.kc]] w fun e w' => e = .returned (.bool (fitB m)) ∧ Below w.heap.size w w' := by
  obtain ⟨op, nm, vl, va, vn, vc, ka, kn, kc⟩ := h
  obtain ⟨e1, e2, e3, hw, hv, hk, -⟩ := seeM_iff.1 q
  dsimp only at e1 e2 e3 hv hk ⊢
  have hvl := hv.1
  have F : fitB m = (if op = 0 then decide (vl.size = 0) && decide (nm.size = 0) && decide (vn = 0) && decide (kn = 0)
      else if op = 1 ∨ op = 2 ∨ op = 3 then decide (vn = 0) && decide (kn = 0) && nameB nm && decide (vl.size ≤ 64)
      else if op = 4 then decide (vl.size = 0) && decide (kn = 0) && nameB nm && valsB m.vs
      else if op = 5 ∨ op = 6 ∨ op = 7 then decide (vl.size = 0) && decide (nm.size = 0) && decide (vn = 0) && (decide (op ≠ 7) || decide (kn = 1))
      else false) := by
    unfold fitB
    rw [← e1, ← e2, ← e3, hvl, hk]
  by_cases o0 : op = 0
  · subst o0
    rw [F, if_pos rfl]
    refine (fits_0 nm vl va vn vc ka kn kc w hw).mono fun e w' h => ⟨?_, h.2⟩
    rw [h.1]
    congr 2
    simp only [Bool.and_comm, Bool.and_left_comm]
  · by_cases o1 : op = 1
    · subst o1
      rw [F, if_neg (by decide), if_pos (by decide)]
      refine (fits_1 nm vl va vn vc ka kn kc w hw).mono fun e w' h => ⟨?_, h.2⟩
      rw [h.1]
      congr 2
      simp only [Bool.and_assoc, Bool.and_comm, Bool.and_left_comm]
    · by_cases o2 : op = 2
      · subst o2
        rw [F, if_neg (by decide), if_pos (by decide)]
        refine (fits_2 nm vl va vn vc ka kn kc w hw).mono fun e w' h => ⟨?_, h.2⟩
        rw [h.1]
        congr 2
        simp only [Bool.and_assoc, Bool.and_comm, Bool.and_left_comm]
      · by_cases o3 : op = 3
        · subst o3
          rw [F, if_neg (by decide), if_pos (by decide)]
          refine (fits_3 nm vl va vn vc ka kn kc w hw).mono fun e w' h => ⟨?_, h.2⟩
          rw [h.1]
          congr 2
          simp only [Bool.and_assoc, Bool.and_comm, Bool.and_left_comm]
        · by_cases o4 : op = 4
          · subst o4
            rw [F, if_neg (by decide), if_neg (by decide), if_pos rfl]
            refine (fits_4 S m.vs nm vl va vn vc ka kn kc w hw hv).mono fun e w' h => ⟨?_, h.2⟩
            rw [h.1]
            congr 2
            simp only [Bool.and_assoc, Bool.and_comm, Bool.and_left_comm]
          · by_cases o5 : op = 5
            · subst o5
              rw [F, if_neg (by decide), if_neg (by decide), if_neg (by decide), if_pos (by decide)]
              refine (fits_5 nm vl va vn vc ka kn kc w hw).mono fun e w' h => ⟨?_, h.2⟩
              rw [h.1]
              congr 2
              simp [Bool.and_assoc, Bool.and_comm]
            · by_cases o6 : op = 6
              · subst o6
                rw [F, if_neg (by decide), if_neg (by decide), if_neg (by decide), if_pos (by decide)]
                refine (fits_6 nm vl va vn vc ka kn kc w hw).mono fun e w' h => ⟨?_, h.2⟩
                rw [h.1]
                congr 2
                simp [Bool.and_assoc, Bool.and_comm]
              · by_cases o7 : op = 7
                · subst o7
                  rw [F, if_neg (by decide), if_neg (by decide), if_neg (by decide), if_pos (by decide)]
                  refine (fits_7 nm vl va vn vc ka kn kc w hw).mono fun e w' h => ⟨?_, h.2⟩
                  rw [h.1]
                  congr 2
                  simp [Bool.and_assoc, Bool.and_comm]
                · rw [F, if_neg o0, if_neg (by omega), if_neg o4, if_neg (by omega)]
                  exact fits_no ⟨op, nm, vl, va, vn, vc, ka, kn, kc⟩ w o0 o1 o2 o3 o4 o5 o6 o7
end Go.Proofs.YtpffhpnmbpjifaaGreat
