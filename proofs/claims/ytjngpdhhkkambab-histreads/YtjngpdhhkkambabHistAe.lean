/-
  The first bucket that is enough, and quantiles: contracts, for every world.
  Conditions: the histogram lies where it is said to lie; numbers are words of 64 bits.
-/
import Derived.Test.YtjngpdhhkkambabHistAd
import Derived.Test.YtjngpdhhkkambabHistQ
import Derived.WalkMore
namespace Go.Proofs.Ytjngpdhhkkambab
open Go.RowKit

set_option maxHeartbeats 2000000 in
theorem first_any (g : Nat) (H : List Int) (K : Int) (w : World) (hH : HistAt w g H) (k1 : 1 ≤ K) (k2 : K < 18446744073709551616) (hs : K ≤ H.sum) :
    Calls Try.prog 45 #[.pointer (some ⟨g, 0, none⟩), .int .u64 K] w fun e w' => ∃ j : Nat, e = .returned (.int .i64 j) ∧ findA K 0 0 H = some (j : Int) ∧ j < 7424 ∧ w' = w := by
  have HH := hide hH
  have HS := hide hs
  clear hH hs
  go_enter Try.func45, Try.ntmps45
  go_wp2
  go_step3
  go_wp2
  go_step3
  go_wp2
  go_loop [5, 6, 15] (fun z m i => ∃ (k : Nat) (M : Int), k ≤ 7424 ∧ z = .int .i64 0 ∧ m = .int .u64 M ∧ i = .int .i64 k ∧ 1 ≤ M ∧ M < 18446744073709551616 ∧ Hid (M = K - (H.take k).sum ∧ findA K (H.take k).sum k (H.drop k) = findA K 0 0 H)) (fun _ _ i => 7424 - (intOf i).toNat)
  case atStart => exact ⟨0, K, by omega, rfl, rfl, rfl, k1, k2, ⟨by simp, rfl⟩⟩
  case round =>
    obtain ⟨k, M, hk, rfl, rfl, rfl, m1, m2, HT⟩ := hrel
    by_cases hlt : k < 7424
    · have hc := HH.out.cell (i := k) (by omega)
      have hy := HH.out.getD k
      have HTK := hide (take_ints (l := H) (k := k) (by rw [HH.out.len]; omega))
      have HDK := hide (drop_ints (l := H) (k := k) (by rw [HH.out.len]; omega))
      have i1 : (0 : Int) ≤ (k : Int) := by omega
      have i2 : (k : Int) < 7424 := by omega
      generalize H.getD k 0 = y at *
      obtain ⟨y0, y1⟩ := hy
      by_cases hf : M ≤ y
      · have HE : Hid (findA K 0 0 H = some (k : Int)) := by
          show _ = _
          rw [← HT.out.2, HDK.out, findA, if_pos (by have := HT.out.1; omega)]
        go_wp2
        go_ret
        exact ⟨k, rfl, HE.out, hlt, rfl⟩
      · have HN : Hid (M - y = K - (H.take (k + 1)).sum ∧ findA K (H.take (k + 1)).sum ((k + 1 : Nat) : Int) (H.drop (k + 1)) = findA K 0 0 H) := by
          have h1 := HT.out.1
          have h2 : (H.take (k + 1)).sum = (H.take k).sum + y := by rw [HTK.out, List.sum_append]; simp
          refine ⟨by omega, ?_⟩
          rw [← HT.out.2, HDK.out, findA, if_neg (by omega), h2]
          rfl
        go_wp2
        exact ⟨⟨k + 1, M - y, by omega, rfl, by go_num, by go_num, by omega, by omega, HN⟩, by simp [intOf]; omega⟩
    · have : k = 7424 := by omega
      subst this
      exfalso
      have h1 := HT.out.1
      rw [List.take_of_length_le (by rw [HH.out.len]; omega)] at h1
      have h2 := HS.out
      omega

theorem findB_spS {H : List Int} (hH : WordsH H) {K : Int} (h : 1 ≤ K) : findB K 0 (spS H) = findA K 0 0 H := find_same hH (by omega)
theorem sum_spS {H : List Int} (hH : WordsH H) : sumB (spS H) = H.sum := spF_sum hH

set_option maxHeartbeats 4000000 in
theorem hquant_any (g : Nat) (H : List Int) (p q : Int) (w : World) (hH : HistAt w g H) (hp : W64 p) (hq : W64 q) :
    Calls Try.prog 21 #[.pointer (some ⟨g, 0, none⟩), .int .u64 p, .int .u64 q] w fun e w' => e = .returned (.tuple #[.int .u64 (quantS (spS H) p q).1, .int .i64 (quantS (spS H) p q).2]) ∧ Below w.heap.size w w' := by
  have HWB := hide (spS_words hH.words)
  obtain ⟨p0, p1⟩ := hp
  obtain ⟨q0, q1⟩ := hq
  by_cases c1 : q = 0
  · have HE : Hid (quantS (spS H) p q = (0, 5)) := by show _ = _; unfold quantS; rw [if_pos (Or.inl c1)]
    have d1 : (q == 0) = true := by simpa using c1
    clear c1 hH
    rw [HE.out]
    go_enter Try.func21, Try.ntmps21
    go_wp2
    go_ret2
    exact ⟨rfl, Below.refl _ _⟩
  have d1 : (q == 0) = false := by simpa using c1
  by_cases c2 : q < p
  · have HE : Hid (quantS (spS H) p q = (0, 5)) := by show _ = _; unfold quantS; rw [if_pos (Or.inr c2)]
    have d2 : decide (q < p) = true := decide_eq_true c2
    clear c1 hH
    rw [HE.out]
    go_enter Try.func21, Try.ntmps21
    go_wp2
    go_ret2
    exact ⟨rfl, Below.refl _ _⟩
  have d2 : decide (q < p) = false := decide_eq_false c2
  have C := hide (hcount_any g H w hH)
  by_cases c3 : countS (spS H) = 18446744073709551615
  · have HE : Hid (quantS (spS H) p q = (0, 11)) := by show _ = _; unfold quantS; rw [if_neg (by omega), if_pos c3]
    have HF : Hid (countE (spS H) = 11) := by show _ = _; unfold countE; rw [if_pos c3]
    rw [HF.out] at C
    rw [HE.out]
    clear c1 c3 hH
    go_enter Try.func21, Try.ntmps21
    go_wp2_with fail
    refine C.out.mono ?_
    rintro e w' ⟨rfl, rfl⟩
    go_wp2
    go_ret2
    exact ⟨rfl, Below.refl _ _⟩
  have HF : Hid (countE (spS H) = 0) := by show _ = _; unfold countE; rw [if_neg c3]
  rw [HF.out] at C
  obtain ⟨s1, s2⟩ := countS_sum HWB.out c3
  have s0 := (satAll_word (s := 0) ⟨by omega, by omega⟩ (wordsB_snd HWB.out)).1
  change 0 ≤ countS (spS H) at s0
  by_cases c4 : countS (spS H) = 0
  · have HE : Hid (quantS (spS H) p q = (0, 3)) := by show _ = _; unfold quantS; rw [if_neg (by omega), if_neg c3, if_pos c4]
    have d4 : (countS (spS H) == 0) = true := by simpa using c4
    rw [HE.out]
    clear c1 c3 c4 s1 hH
    generalize countS (spS H) = N at *
    go_enter Try.func21, Try.ntmps21
    go_wp2_with fail
    refine C.out.mono ?_
    rintro e w' ⟨rfl, rfl⟩
    go_wp2
    go_ret2
    exact ⟨rfl, Below.refl _ _⟩
  have d4 : (countS (spS H) == 0) = false := by simpa using c4
  have HQ : Hid (quantS (spS H) p q = match findB (wantS (countS (spS H)) p q) 0 (spS H) with | some j => (lowS j, 0) | none => (0, 3)) := by
    show _ = _
    conv => lhs; unfold quantS
    rw [if_neg (by omega), if_neg c3, if_neg c4]
    rfl
  have HC := hide (ceil_any p (countS (spS H)) q ⟨p0, p1⟩ ⟨s0, by omega⟩ ⟨q0, q1⟩ w)
  have hwr := want_range (a := p) (n := countS (spS H)) (b := q) ⟨p0, p1⟩ ⟨s0, by omega⟩ ⟨q0, q1⟩ (by omega) (by omega) (by omega)
  have HWT : Hid (wantS (countS (spS H)) p q = if ceilV p (countS (spS H)) q < 1 then 1 else ceilV p (countS (spS H)) q) := rfl
  have hsum : H.sum = countS (spS H) := by
    rw [← s1]; exact (sum_spS hH.words).symm
  have HFi := hide (fun W (b : Below w.heap.size w W) => first_any g H (wantS (countS (spS H)) p q) W (hH.below b hH.lt) hwr.1 (by omega) (by rw [hsum]; exact hwr.2))
  have HFB := hide (findB_spS hH.words (K := wantS (countS (spS H)) p q) hwr.1)
  have hv0 : 0 ≤ ceilV p (countS (spS H)) q := by
    unfold wantS at hwr
    unfold ceilV
    split
    · obtain ⟨⟨k1, k2⟩, -, -⟩ := quo_bounds (hiS_word ⟨p0, p1⟩ ⟨s0, by omega⟩) (loS_word p (countS (spS H))) (by assumption : _ ∧ _).1
      split <;> omega
    · omega
  generalize wantS (countS (spS H)) p q = K at *
  generalize ceilV p (countS (spS H)) q = V at *
  generalize ceilB p (countS (spS H)) q = VB at *
  generalize countS (spS H) = N at *
  have hmax : max V 1 = K := by rw [HWT.out]; split <;> omega
  obtain ⟨k1, k2⟩ := hwr
  clear s1 hH c1 c3 c4 HWT hsum HWB
  go_enter Try.func21, Try.ntmps21
  go_wp2_with fail
  refine C.out.mono ?_
  rintro e w' ⟨rfl, rfl⟩
  go_wp2_with fail
  refine HC.out.mono ?_
  rintro e w1 ⟨rfl, hg⟩
  have HB := hide hg.2
  have F := hide (HFi.out w1 hg.2)
  clear HC C hg HFi
  go_wp2_with fail
  refine F.out.mono ?_
  rintro e w2 ⟨j, rfl, hj, hj2, rfl⟩
  have HE : Hid (quantS (spS H) p q = (lowS j, 0)) := by
    show _ = _
    rw [HQ.out, HFB.out, hj]
  have L := hide (low_in (j : Int) w2 (by omega) (by omega))
  clear HQ HFB hj F
  generalize lowS (j : Int) = X at *
  go_wp2_with fail
  refine L.out.mono ?_
  rintro e w3 ⟨rfl, rfl⟩
  go_wp2
  go_ret2
  rw [HE.out]
  exact ⟨rfl, HB.out⟩
end Go.Proofs.Ytjngpdhhkkambab
