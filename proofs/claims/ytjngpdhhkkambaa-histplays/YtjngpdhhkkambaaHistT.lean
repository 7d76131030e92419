/-
  The document's own answer of layer 7 (the laws' reference): quantiles of a list of buckets: a contract, for every world.
  Conditions: the slice shows its buckets, which may be.
-/
import Derived.Test.YtjngpdhhkkambaaHistS
namespace Go.Proofs.Ytjngpdhhkkambaa
open Go.RowKit

theorem sum_nonneg {l : List Int} (h : WordsH l) : 0 ≤ l.sum := by
  induction l with
  | nil => simp
  | cons c t ih =>
    have := h c (List.mem_cons_self ..)
    have := ih (fun x hx => h x (List.mem_cons_of_mem _ hx))
    rw [List.sum_cons]; omega
theorem sum_take_le {l : List Int} (h : WordsH l) (k : Nat) : (l.take k).sum ≤ l.sum := by
  have h1 : WordsH (l.drop k) := fun x hx => h x (List.mem_of_mem_drop hx)
  have h2 := sum_nonneg h1
  conv => rhs; rw [← List.take_append_drop k l, List.sum_append]
  omega
theorem countS_sum {l : Bks} (h : WordsB l) (hc : countS l ≠ 18446744073709551615) : (l.map (·.2)).sum = countS l ∧ countS l < 18446744073709551615 := by
  have h1 := satAll_sum (s := 0) ⟨by omega, by omega⟩ (wordsB_snd h)
  have h0 := sum_nonneg (wordsB_snd h)
  unfold countS at *
  rw [h1] at hc ⊢
  split at hc
  · rename_i h2
    rw [if_pos h2]
    exact ⟨by omega, by omega⟩
  · exact absurd rfl hc

set_option maxHeartbeats 4000000 in
theorem refquant_any (a : Option Addr) (n cap : Nat) (l : Bks) (p q : Int) (w : World) (hr : RowB w a n l) (hck : checkS l = true) (hp : W64 p) (hq : W64 q) :
    Calls Try.prog 25 #[.slice a n cap, .int .u64 p, .int .u64 q] w fun e w' => e = .returned (.tuple #[.int .u64 (quantS l p q).1, .int .i64 (quantS l p q).2]) ∧ w' = w := by
  have HWB := hide (fit_words hr.2.2.1)
  obtain ⟨p0, p1⟩ := hp
  obtain ⟨q0, q1⟩ := hq
  by_cases c1 : q = 0
  · have HE : Hid (quantS l p q = (0, 5)) := by show _ = _; unfold quantS; rw [if_pos (Or.inl c1)]
    have d1 : (q == 0) = true := by simpa using c1
    clear c1 hr
    rw [HE.out]
    go_enter Try.func25, Try.ntmps25
    go_wp2
    go_ret2
    exact ⟨rfl, rfl⟩
  have d1 : (q == 0) = false := by simpa using c1
  by_cases c2 : q < p
  · have HE : Hid (quantS l p q = (0, 5)) := by show _ = _; unfold quantS; rw [if_pos (Or.inr c2)]
    have d2 : decide (q < p) = true := decide_eq_true c2
    clear c1 hr
    rw [HE.out]
    go_enter Try.func25, Try.ntmps25
    go_wp2
    go_ret2
    exact ⟨rfl, rfl⟩
  have d2 : decide (q < p) = false := decide_eq_false c2
  have C := hide (refcount_any a n cap l w hr)
  by_cases c3 : countS l = 18446744073709551615
  · have HE : Hid (quantS l p q = (0, 11)) := by show _ = _; unfold quantS; rw [if_neg (by omega), if_pos c3]
    have HF : Hid (countE l = 11) := by show _ = _; unfold countE; rw [if_pos c3]
    rw [HF.out] at C
    rw [HE.out]
    clear c1 c3 hr
    go_enter Try.func25, Try.ntmps25
    go_wp2_with fail
    refine C.out.mono ?_
    rintro e w' ⟨rfl, rfl⟩
    go_wp2
    go_ret2
    exact ⟨rfl, rfl⟩
  have HF : Hid (countE l = 0) := by show _ = _; unfold countE; rw [if_neg c3]
  rw [HF.out] at C
  obtain ⟨s1, s2⟩ := countS_sum HWB.out c3
  have s0 := (satAll_word (s := 0) ⟨by omega, by omega⟩ (wordsB_snd HWB.out)).1
  change 0 ≤ countS l at s0
  by_cases c4 : countS l = 0
  · have HE : Hid (quantS l p q = (0, 3)) := by show _ = _; unfold quantS; rw [if_neg (by omega), if_neg c3, if_pos c4]
    have d4 : (countS l == 0) = true := by simpa using c4
    rw [HE.out]
    clear c1 c3 c4 s1 hr
    generalize countS l = N at *
    go_enter Try.func25, Try.ntmps25
    go_wp2_with fail
    refine C.out.mono ?_
    rintro e w' ⟨rfl, rfl⟩
    go_wp2
    go_ret2
    exact ⟨rfl, rfl⟩
  have d4 : (countS l == 0) = false := by simpa using c4
  have HQ : Hid (quantS l p q = match findB (wantS (countS l) p q) 0 l with | some j => (lowS j, 0) | none => (0, 3)) := by
    show _ = _
    conv => lhs; unfold quantS
    rw [if_neg (by omega), if_neg c3, if_neg c4]
    rfl
  have HC := hide (refceil_any p (countS l) q ⟨p0, p1⟩ ⟨s0, by omega⟩ ⟨q0, q1⟩ w)
  have HWT : Hid (wantS (countS l) p q = if ceilV p (countS l) q < 1 then 1 else ceilV p (countS l) q) := rfl
  have HSM := hide s1
  have HR := hide hr
  have HL := hide hr.1
  have hn := hr.2.1
  have HCK := hide hck
  generalize wantS (countS l) p q = K at *
  generalize ceilV p (countS l) q = V at *
  generalize ceilB p (countS l) q = VB at *
  generalize countS l = N at *
  clear s1 hr hck c1 c3 c4
  have HTL : Hid (∀ k, ((l.take k).map (·.2)).sum ≤ N) := by
    intro k
    rw [← HSM.out, List.map_take]
    exact sum_take_le (wordsB_snd HWB.out) k
  have hK1 : 1 ≤ K := by rw [HWT.out]; split <;> omega
  have HV : Hid (V < 1 → K = 1) := fun h => by rw [HWT.out, if_pos h]
  have HV' : Hid (¬ V < 1 → K = V) := fun h => by rw [HWT.out, if_neg h]
  have HFind : Hid (∀ j : Int, findB K 0 l = some j → quantS l p q = (lowS j, 0)) := fun j h => by rw [HQ.out, h]
  have HNone : Hid (findB K 0 l = none → quantS l p q = (0, 3)) := fun h => by rw [HQ.out, h]
  clear HQ HSM
  have hcase : (V < 1 ∧ K = 1) ∨ (¬ V < 1 ∧ K = V) := by
    by_cases h : V < 1
    · exact Or.inl ⟨h, HV.out h⟩
    · exact Or.inr ⟨h, HV'.out h⟩
  clear HV HV' HWT
  rcases hcase with ⟨hV, rfl⟩ | ⟨hV, rfl⟩
  · have d5 : decide (V < 1) = true := decide_eq_true hV
    clear hV
    go_enter Try.func25, Try.ntmps25
    go_wp2_with fail
    refine C.out.mono ?_
    rintro e w' ⟨rfl, rfl⟩
    go_wp2_with fail
    refine HC.out.mono ?_
    rintro e w' ⟨rfl, rfl⟩
    clear HC C d1 d2 d4
    go_wp2
    go_loop [12, 13] (fun s i => ∃ (k : Nat) (R : Int), k ≤ n ∧ s = .int .u64 R ∧ i = .int .i64 k ∧ 0 ≤ R ∧ R ≤ N ∧ Hid (R = ((l.take k).map (·.2)).sum ∧ findB 1 R (l.drop k) = findB 1 0 l)) (fun _ i => n - (intOf i).toNat)
    case atStart => exact ⟨0, 0, by omega, rfl, rfl, by omega, by omega, ⟨rfl, rfl⟩⟩
    case round =>
      obtain ⟨k, R, hk, rfl, rfl, r0, r1, HT⟩ := hrel
      by_cases hlt : k < n
      · have hrg := checkF_range (Int.le_refl _) HCK.out (k := k) (by rw [HL.out]; exact hlt)
        obtain ⟨_, _, hfit, h | ⟨b, off, rfl, hc⟩⟩ := HR.out
        · omega
        obtain ⟨g0, g1⟩ := hc k hlt
        have hy := u64_of_wf (getD_fit hfit k).2
        have HS : Hid (∀ x y, l.getD k (0, 0) = (x, y) → ((l.take (k + 1)).map (·.2)).sum = R + y) := by
          intro x y h
          rw [two_at l k h (by rw [HL.out]; exact hlt), List.sum_append, ← HT.out.1]
          simp
        have HD := hide (drop_bks (l := l) (k := k) (by rw [HL.out]; exact hlt))
        have i1 : (0 : Int) ≤ (k : Int) := by omega
        have i2 : (k : Int) < (n : Int) := by omega
        clear hc hfit
        generalize l.getD k (0, 0) = x at *
        obtain ⟨x, y⟩ := x
        simp only at g0 g1 hy hrg
        obtain ⟨x0, x1⟩ := hrg
        have hsum := HS.out x y rfl
        have hle := HTL.out (k + 1)
        rw [hsum] at hle
        have y0 := hy.1
        have HSU := hide hsum
        clear hsum hy
        by_cases hf : 1 ≤ R + y
        · have HE : Hid (quantS l p q = (lowS x, 0)) := by
            refine HFind.out x ?_
            rw [← HT.out.2, HD.out, findB, if_pos hf]
          have LW := hide (reflow_in x w' x0 x1)
          generalize lowS x = LX at *
          clear HT HD HS HFind HNone HSU
          go_wp2_with fail
          refine LW.out.mono ?_
          rintro e w'' ⟨rfl, rfl⟩
          go_wp2
          go_ret2
          rw [HE.out]
          exact ⟨rfl, rfl⟩
        · have HN : Hid (findB 1 (R + y) (l.drop (k + 1)) = findB 1 0 l) := by
            show _ = _
            rw [← HT.out.2, HD.out, findB, if_neg hf]
          go_wp2
          exact ⟨⟨k + 1, R + y, by omega, by go_num, by go_num, by omega, by omega, ⟨HSU.out.symm, HN.out⟩⟩, by simp [intOf]; omega⟩
      · have : k = n := by omega
        subst this
        have HE : Hid (quantS l p q = (0, 3)) := by
          refine HNone.out ?_
          rw [← HT.out.2, List.drop_of_length_le (by rw [HL.out]; omega)]
          rfl
        go_wp2
        go_ret2
        rw [HE.out]
        exact ⟨rfl, rfl⟩
  · have d5 : decide (K < 1) = false := decide_eq_false hV
    clear hV
    go_enter Try.func25, Try.ntmps25
    go_wp2_with fail
    refine C.out.mono ?_
    rintro e w' ⟨rfl, rfl⟩
    go_wp2_with fail
    refine HC.out.mono ?_
    rintro e w' ⟨rfl, rfl⟩
    clear HC C d1 d2 d4
    go_wp2
    go_loop [12, 13] (fun s i => ∃ (k : Nat) (R : Int), k ≤ n ∧ s = .int .u64 R ∧ i = .int .i64 k ∧ 0 ≤ R ∧ R ≤ N ∧ Hid (R = ((l.take k).map (·.2)).sum ∧ findB K R (l.drop k) = findB K 0 l)) (fun _ i => n - (intOf i).toNat)
    case atStart => exact ⟨0, 0, by omega, rfl, rfl, by omega, by omega, ⟨rfl, rfl⟩⟩
    case round =>
      obtain ⟨k, R, hk, rfl, rfl, r0, r1, HT⟩ := hrel
      by_cases hlt : k < n
      · have hrg := checkF_range (Int.le_refl _) HCK.out (k := k) (by rw [HL.out]; exact hlt)
        obtain ⟨_, _, hfit, h | ⟨b, off, rfl, hc⟩⟩ := HR.out
        · omega
        obtain ⟨g0, g1⟩ := hc k hlt
        have hy := u64_of_wf (getD_fit hfit k).2
        have HS : Hid (∀ x y, l.getD k (0, 0) = (x, y) → ((l.take (k + 1)).map (·.2)).sum = R + y) := by
          intro x y h
          rw [two_at l k h (by rw [HL.out]; exact hlt), List.sum_append, ← HT.out.1]
          simp
        have HD := hide (drop_bks (l := l) (k := k) (by rw [HL.out]; exact hlt))
        have i1 : (0 : Int) ≤ (k : Int) := by omega
        have i2 : (k : Int) < (n : Int) := by omega
        clear hc hfit
        generalize l.getD k (0, 0) = x at *
        obtain ⟨x, y⟩ := x
        simp only at g0 g1 hy hrg
        obtain ⟨x0, x1⟩ := hrg
        have hsum := HS.out x y rfl
        have hle := HTL.out (k + 1)
        rw [hsum] at hle
        have y0 := hy.1
        have HSU := hide hsum
        clear hsum hy
        by_cases hf : K ≤ R + y
        · have HE : Hid (quantS l p q = (lowS x, 0)) := by
            refine HFind.out x ?_
            rw [← HT.out.2, HD.out, findB, if_pos hf]
          have LW := hide (reflow_in x w' x0 x1)
          generalize lowS x = LX at *
          clear HT HD HS HFind HNone HSU
          go_wp2_with fail
          refine LW.out.mono ?_
          rintro e w'' ⟨rfl, rfl⟩
          go_wp2
          go_ret2
          rw [HE.out]
          exact ⟨rfl, rfl⟩
        · have HN : Hid (findB K (R + y) (l.drop (k + 1)) = findB K 0 l) := by
            show _ = _
            rw [← HT.out.2, HD.out, findB, if_neg hf]
          go_wp2
          exact ⟨⟨k + 1, R + y, by omega, by go_num, by go_num, by omega, by omega, ⟨HSU.out.symm, HN.out⟩⟩, by simp [intOf]; omega⟩
      · have : k = n := by omega
        subst this
        have HE : Hid (quantS l p q = (0, 3)) := by
          refine HNone.out ?_
          rw [← HT.out.2, List.drop_of_length_le (by rw [HL.out]; omega)]
          rfl
        go_wp2
        go_ret2
        rw [HE.out]
        exact ⟨rfl, rfl⟩
end Go.Proofs.Ytjngpdhhkkambaa
