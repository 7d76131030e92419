/-
  The document's values: whether they may be: a contract, for every world.
  Conditions: they lie in memory.
-/
import Derived.Test.YtpffhpnmbpjifaaGreatMatS
import Derived.Test.YtpffhpnmbpjifaaGreatLabZb
namespace Go.Proofs.YtpffhpnmbpjifaaGreat
open Go.RowKit
set_option maxRecDepth 20000

theorem risB_iff : ∀ {l : List ByteArray}, risB l = true ↔ ∀ (i : Nat) (s : ByteArray), l[i]? = some s → s.size ≤ 64 ∧ ∀ p, 1 ≤ i → l[i - 1]? = some p → Op.bytesLess p.toList s.toList = true
  | [] => by simp [risB]
  | [v] => by
    simp only [risB, decide_eq_true_eq]
    constructor
    · intro h i s hi
      cases i with
      | zero =>
        simp only [List.getElem?_cons_zero, Option.some.injEq] at hi
        subst hi
        exact ⟨h, fun p h1 => by omega⟩
      | succ i => simp at hi
    · intro h
      exact (h 0 v rfl).1
  | v :: v' :: t => by
    rw [risB, Bool.and_eq_true, Bool.and_eq_true, risB_iff (l := v' :: t), decide_eq_true_eq]
    constructor
    · rintro ⟨⟨h1, h2⟩, h3⟩ i s hi
      cases i with
      | zero =>
        simp only [List.getElem?_cons_zero, Option.some.injEq] at hi
        subst hi
        exact ⟨h1, fun p h1 => by omega⟩
      | succ i =>
        rw [List.getElem?_cons_succ] at hi
        refine ⟨(h3 i s hi).1, fun p _ hp => ?_⟩
        rw [Nat.add_sub_cancel] at hp
        cases i with
        | zero =>
          simp only [List.getElem?_cons_zero, Option.some.injEq] at hi hp
          subst hi hp
          exact h2
        | succ i =>
          rw [List.getElem?_cons_succ] at hp
          exact (h3 (i + 1) s hi).2 p (by omega) (by rw [Nat.add_sub_cancel]; exact hp)
    · intro h
      refine ⟨⟨(h 0 v rfl).1, (h 1 v' rfl).2 v (by omega) rfl⟩, fun i s hi => ?_⟩
      have := h (i + 1) s (by rw [List.getElem?_cons_succ]; exact hi)
      refine ⟨this.1, fun p h1 hp => this.2 p (by omega) ?_⟩
      rw [Nat.add_sub_cancel]
      obtain ⟨i', rfl⟩ : ∃ i', i = i' + 1 := ⟨i - 1, by omega⟩
      rw [List.getElem?_cons_succ]
      rw [Nat.add_sub_cancel] at hp
      exact hp
theorem TxR.drewN {S : Nat → Prop} {w : World} {a : Option Addr} {n : Nat} {ss : List ByteArray} (q : TxR S w a n ss) (j : Nat) : TxR S (w.drewN j) a n ss := q.below (bel_drewN (Below.refl _ _) j)

set_option maxHeartbeats 4000000 in
theorem values_any (S : Nat → Prop) (a : Option Addr) (n cap : Nat) (vs : List ByteArray) (w : World) (hr : TxR S w a n vs) :
    Calls Tryz.prog 51 #[.slice a n cap] w fun e w' => e = .returned (.bool (valsB vs)) ∧ ∃ q, w' = w.drewN q := by
  have hn := hr.2.1
  have HR := hide hr
  have HL := hide hr.1
  have HV : Hid (valsB vs = (decide (1 ≤ n) && decide (n ≤ 16) && risB vs)) := by show _ = _; unfold valsB; rw [HL.out]
  generalize valsB vs = ans at *
  clear hr
  by_cases h1 : 1 ≤ n
  · by_cases h2 : n ≤ 16
    · have a1 : ¬ (n : Int) < 1 := by omega
      have a2 : ¬ (16 : Int) < (n : Int) := by omega
      rw [decide_eq_true h1, decide_eq_true h2, Bool.true_and, Bool.true_and] at HV
      go_enter Tryz.func51, Tryz.ntmps51
      go_wp2
      go_loopg [3] n (fun g i wr => ∃ k q : Nat, k ≤ n ∧ n - k ≤ g ∧ i = .int .i64 k ∧ wr = w.drewN q ∧ Hid (∀ (i : Nat) (s : ByteArray), i < k → vs[i]? = some s → s.size ≤ 64 ∧ ∀ p, 1 ≤ i → vs[i - 1]? = some p → Op.bytesLess p.toList s.toList = true))
      case atStart => exact ⟨0, 0, Nat.zero_le _, by omega, rfl, rfl, fun i s hi => absurd hi (Nat.not_lt_zero _)⟩
      case round =>
        obtain ⟨k, q, hk, hg, rfl, rfl, A⟩ := hrel
        by_cases hlt : k < n
        · obtain ⟨b1, o1, x, rfl, hx, hxw, -, f0⟩ := HR.out.at' hlt
          have i1 : (0 : Int) ≤ (k : Int) := by omega
          have i2 : (k : Int) < (n : Int) := by omega
          have HX := hide hx
          clear hx
          by_cases h3 : x.size ≤ 64
          · have e2 : decide ((64 : Int) < (x.size : Int)) = false := decide_eq_false (by omega)
            have e2' : ¬ (64 : Int) < (x.size : Int) := by omega
            by_cases hk0 : k = 0
            · have A2 : Hid (∀ (i : Nat) (s : ByteArray), i < k + 1 → vs[i]? = some s → s.size ≤ 64 ∧ ∀ p, 1 ≤ i → vs[i - 1]? = some p → Op.bytesLess p.toList s.toList = true) := by
                intro i s hi hs
                have : i = k := by omega
                subst this
                rw [HX.out] at hs
                simp only [Option.some.injEq] at hs
                subst hs
                exact ⟨h3, fun p h4 => by omega⟩
              have e3 : decide ((0 : Int) < (k : Int)) = false := decide_eq_false (by omega)
              have e3' : ¬ (0 : Int) < (k : Int) := by omega
              have e3n : decide (0 < k) = false := decide_eq_false (by omega)
              clear hk0 h3
              go_wp2
              go_quiet (fail)
              go_wp2
              go_roundg (n - (k + 1))
              case measure => omega
              case rel => exact ⟨k + 1, _, by omega, by omega, by go_num, rfl, A2⟩
            · obtain ⟨j, rfl⟩ : ∃ j, k = j + 1 := ⟨k - 1, by omega⟩
              obtain ⟨b2, o2, y, hbo, hy, -, -, g0⟩ := HR.out.at' (i := j) (by omega)
              simp only [Option.some.injEq, Addr.mk.injEq, and_true] at hbo
              obtain ⟨rfl, rfl⟩ := hbo
              have HY := hide hy
              have e3 : decide ((0 : Int) < (j : Int) + 1) = true := decide_eq_true (by omega)
              have e3' : (0 : Int) < (j : Int) + 1 := by omega
              have e4 := leq_less x.toList y.toList
              have j1 : (0 : Int) ≤ (j : Int) := by omega
              have j2 : (j : Int) < (n : Int) := by omega
              clear hy
              cases hb : Op.bytesLess y.toList x.toList with
              | false =>
                have F : Hid (ans = false) := by
                  show _ = _
                  rw [HV.out, Bool.eq_false_iff]
                  intro e
                  have := (risB_iff.1 e (j + 1) x HX.out).2 y (by omega) (by rw [Nat.add_sub_cancel]; exact HY.out)
                  rw [hb] at this
                  cases this
                rw [hb] at e4
                clear hb h3
                go_wp2
                go_quiet (fail)
                go_wp2
                go_ret
                exact ⟨by rw [F.out]; rfl, q + _, World.drewN_drewN _ _ _⟩
              | true =>
                have A2 : Hid (∀ (i : Nat) (s : ByteArray), i < j + 1 + 1 → vs[i]? = some s → s.size ≤ 64 ∧ ∀ p, 1 ≤ i → vs[i - 1]? = some p → Op.bytesLess p.toList s.toList = true) := by
                  intro i s hi hs
                  by_cases e : i = j + 1
                  · subst e
                    rw [HX.out] at hs
                    simp only [Option.some.injEq] at hs
                    subst hs
                    refine ⟨h3, fun p _ hp => ?_⟩
                    rw [Nat.add_sub_cancel, HY.out] at hp
                    simp only [Option.some.injEq] at hp
                    subst hp
                    exact hb
                  · exact A.out i s (by omega) hs
                rw [hb] at e4
                clear hb h3
                go_wp2
                go_quiet (fail)
                go_wp2
                go_roundg (n - (j + 1 + 1))
                case measure => omega
                case rel => exact ⟨j + 1 + 1, _, by omega, by omega, by go_num, rfl, A2⟩
          · have e2 : decide ((64 : Int) < (x.size : Int)) = true := decide_eq_true (by omega)
            have e2' : (64 : Int) < (x.size : Int) := by omega
            have F : Hid (ans = false) := by
              show _ = _
              rw [HV.out, Bool.eq_false_iff]
              intro e
              exact h3 (risB_iff.1 e k x HX.out).1
            clear h3
            go_wp2
            go_quiet (fail)
            go_wp2
            go_ret
            exact ⟨by rw [F.out]; rfl, q + _, World.drewN_drewN _ _ _⟩
        · have hkn : k = n := by omega
          have F : Hid (ans = true) := by
            show _ = _
            rw [HV.out, risB_iff]
            intro i s hs
            have : i < vs.length := (List.getElem?_eq_some_iff.1 hs).1
            exact A.out i s (by rw [HL.out] at this; omega) hs
          clear A HV
          go_wp2
          go_ret
          exact ⟨by rw [F.out]; rfl, q, rfl⟩
    · have a1 : ¬ (n : Int) < 1 := by omega
      have a2 : (16 : Int) < (n : Int) := by omega
      have F : Hid (ans = false) := by show _ = _; rw [HV.out, decide_eq_false h2, Bool.and_false, Bool.false_and]
      clear HV
      go_enter Tryz.func51, Tryz.ntmps51
      go_wp2
      go_ret
      exact ⟨by rw [F.out]; rfl, 0, rfl⟩
  · have a1 : (n : Int) < 1 := by omega
    have F : Hid (ans = false) := by show _ = _; rw [HV.out, decide_eq_false h1, Bool.false_and, Bool.false_and]
    clear HV
    go_enter Tryz.func51, Tryz.ntmps51
    go_wp2
    go_ret
    exact ⟨by rw [F.out]; rfl, 0, rfl⟩
end Go.Proofs.YtpffhpnmbpjifaaGreat
