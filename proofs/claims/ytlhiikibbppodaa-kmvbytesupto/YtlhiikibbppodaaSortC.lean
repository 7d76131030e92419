/-
  The library's sort by a heap: its two functions, for every world.
  Conditions: the row shows its words; the part lies within.
-/
import Derived.Test.YtlhiikibbppodaaSortA
namespace Go.Proofs.Ytlhiikibbppodaa
open Go.RowKit

/-- Where a child of the heap stands: the first one at p, the second one at p1. -/
structure Chd (first root hi ch ch1 p p1 r n : Nat) : Prop where
  a : ch = 2 * root + 1
  b : ch1 = ch + 1
  c : p = first + ch
  d : p1 = first + ch1
  e : r = first + root
  f : first + hi ≤ n

theorem sift_end {hi first root : Nat} {d : Array Int} (h : hi ≤ 2 * root + 1) : Go.Sort.siftDown ltI hi first root d = d := by
  rw [Go.Sort.siftDown, dif_pos h]
theorem sift_one_on {first root hi ch ch1 p p1 r n : Nat} {d : Array Int} (H : Chd first root hi ch ch1 p p1 r n) (h1 : ¬ hi ≤ ch) (h2 : ch1 < hi) (hl : ltI d[p]! d[p1]! = true) (hl2 : ltI d[r]! d[p1]! = true) :
    Go.Sort.siftDown ltI hi first root d = Go.Sort.siftDown ltI hi first ch1 (Go.Sort.swp d r p1) := by
  obtain ⟨rfl, rfl, rfl, rfl, rfl, -⟩ := H
  have e : first + (2 * root + 1 + 1) = first + (2 * root + 1) + 1 := rfl
  have e2 : 2 * root + 2 = 2 * root + 1 + 1 := rfl
  rw [e] at hl hl2 ⊢
  rw [Go.Sort.siftDown, dif_neg (by omega), e2, e, if_pos (by simp [hl, h2]), if_neg (by simp [hl2]), dif_pos h2]
theorem sift_one_off {first root hi ch ch1 p p1 r n : Nat} {d : Array Int} (H : Chd first root hi ch ch1 p p1 r n) (h1 : ¬ hi ≤ ch) (h2 : ch1 < hi) (hl : ltI d[p]! d[p1]! = true) (hl2 : ltI d[r]! d[p1]! = false) :
    Go.Sort.siftDown ltI hi first root d = d := by
  obtain ⟨rfl, rfl, rfl, rfl, rfl, -⟩ := H
  have e : first + (2 * root + 1 + 1) = first + (2 * root + 1) + 1 := rfl
  have e2 : 2 * root + 2 = 2 * root + 1 + 1 := rfl
  rw [e] at hl hl2
  rw [Go.Sort.siftDown, dif_neg (by omega), e2, e, if_pos (by simp [hl, h2]), if_pos (by simp [hl2])]
theorem sift_two_on {first root hi ch ch1 p p1 r n : Nat} {d : Array Int} (H : Chd first root hi ch ch1 p p1 r n) (h1 : ¬ hi ≤ ch) (_h2 : ch1 < hi) (hl : ltI d[p]! d[p1]! = false) (hl2 : ltI d[r]! d[p]! = true) :
    Go.Sort.siftDown ltI hi first root d = Go.Sort.siftDown ltI hi first ch (Go.Sort.swp d r p) := by
  obtain ⟨rfl, rfl, rfl, rfl, rfl, -⟩ := H
  have e : first + (2 * root + 1 + 1) = first + (2 * root + 1) + 1 := rfl
  rw [e] at hl
  rw [Go.Sort.siftDown, dif_neg (by omega), if_neg (by simp [hl]), if_neg (by simp [hl2])]
theorem sift_two_off {first root hi ch ch1 p p1 r n : Nat} {d : Array Int} (H : Chd first root hi ch ch1 p p1 r n) (h1 : ¬ hi ≤ ch) (_h2 : ch1 < hi) (hl : ltI d[p]! d[p1]! = false) (hl2 : ltI d[r]! d[p]! = false) :
    Go.Sort.siftDown ltI hi first root d = d := by
  obtain ⟨rfl, rfl, rfl, rfl, rfl, -⟩ := H
  have e : first + (2 * root + 1 + 1) = first + (2 * root + 1) + 1 := rfl
  rw [e] at hl
  rw [Go.Sort.siftDown, dif_neg (by omega), if_neg (by simp [hl]), if_pos (by simp [hl2])]
theorem sift_three_on {first root hi ch ch1 p p1 r n : Nat} {d : Array Int} (H : Chd first root hi ch ch1 p p1 r n) (h1 : ¬ hi ≤ ch) (h2 : ¬ ch1 < hi) (hl2 : ltI d[r]! d[p]! = true) :
    Go.Sort.siftDown ltI hi first root d = Go.Sort.siftDown ltI hi first ch (Go.Sort.swp d r p) := by
  obtain ⟨rfl, rfl, rfl, rfl, rfl, -⟩ := H
  rw [Go.Sort.siftDown, dif_neg (by omega), if_neg (by simp; omega), if_neg (by simp [hl2])]
theorem sift_three_off {first root hi ch ch1 p p1 r n : Nat} {d : Array Int} (H : Chd first root hi ch ch1 p p1 r n) (h1 : ¬ hi ≤ ch) (h2 : ¬ ch1 < hi) (hl2 : ltI d[r]! d[p]! = false) :
    Go.Sort.siftDown ltI hi first root d = d := by
  obtain ⟨rfl, rfl, rfl, rfl, rfl, -⟩ := H
  rw [Go.Sort.siftDown, dif_neg (by omega), if_neg (by simp; omega), if_pos (by simp [hl2])]
theorem Chd.int {first root hi ch ch1 p p1 r n : Nat} (H : Chd first root hi ch ch1 p p1 r n) :
    (2 : Int) * (root : Int) + 1 = (ch : Int) ∧ (ch : Int) + 1 = (ch1 : Int) ∧ (first : Int) + (ch : Int) = (p : Int) ∧ (first : Int) + (ch1 : Int) = (p1 : Int) ∧ (p : Int) + 1 = (p1 : Int) ∧ (first : Int) + (root : Int) = (r : Int) := by
  obtain ⟨rfl, rfl, rfl, rfl, rfl, -⟩ := H
  omega

set_option maxHeartbeats 8000000 in
theorem sift_any (g c cp : Nat) (d : Array Int) (lo hi first : Nat) (w : World) (h : SRow w g c d) (hf : first + hi ≤ d.size) (hlo : lo ≤ hi) :
    Calls Try.prog 73 #[.slice (some ⟨g, 0, none⟩) d.size cp, .int .i64 lo, .int .i64 hi, .int .i64 first] w fun e w' => e = .returned (.tuple #[]) ∧ SRow w' g c (Go.Sort.siftDown ltI hi first lo d) ∧ Ch (fun k => k = g) w w' := by
  have H := hide h
  have hr := h.room
  obtain ⟨n, HN⟩ : ∃ n, Hid (d.size = n) := ⟨_, rfl⟩
  obtain ⟨D, HDD⟩ : ∃ D, Hid (Go.Sort.siftDown ltI hi first lo d = D) := ⟨_, rfl⟩
  rw [HN.out] at hf hr ⊢
  rw [HDD.out]
  clear h
  go_enter Try.func73, Try.ntmps73
  go_wp2
  go_loopw [8] (fun x8 wr => ∃ (root : Nat) (d' : Array Int), x8 = .int .i64 root ∧ root ≤ hi ∧ Hid (Go.Sort.siftDown ltI hi first root d' = D) ∧ Hid (d'.size = n) ∧ Hid (SRow wr g c d') ∧ Hid (Ch (fun k => k = g) w wr)) (fun x8 _ => hi - (intOf x8).toNat)
  case atStart => exact ⟨lo, d, rfl, hlo, HDD.out, HN.out, H.out, Ch.refl _ _⟩
  case round =>
    obtain ⟨root, d', rfl, hrt, HE, HD, HS, HC⟩ := hrel
    obtain ⟨ch, ch1, p, p1, r, HCH⟩ : ∃ ch ch1 p p1 r, Hid (Chd first root hi ch ch1 p p1 r n) := ⟨_, _, _, _, _, ⟨rfl, rfl, rfl, rfl, rfl, hf⟩⟩
    obtain ⟨e1, e2, e3, e4, e5, e6⟩ := HCH.out.int
    have b0 : (ch : Int) ≤ 1000000000000000 := by omega
    have b1 : (0 : Int) ≤ (root : Int) := by omega
    have b2 : (0 : Int) ≤ (ch : Int) := by omega
    have b3 : (0 : Int) ≤ (p : Int) := by omega
    have b4 : (0 : Int) ≤ (p1 : Int) := by omega
    have b5 : (0 : Int) ≤ (r : Int) := by omega
    by_cases h1 : hi ≤ ch
    · have i1 : (hi : Int) ≤ (ch : Int) := by omega
      have HX : Hid (d' = D) := by have := HE.out; rwa [sift_end (by have := HCH.out.a; omega)] at this
      go_wp2
      go_end0
      exact ⟨rfl, HX.out ▸ HS.out, HC.out⟩
    · have i1 : ¬ (hi : Int) ≤ (ch : Int) := by omega
      have j1 : (r : Int) < (n : Int) := by omega
      have j2 : (p : Int) < (n : Int) := by omega
      have k1 : r < n := by omega
      have k2 : p < n := by omega
      by_cases h2 : ch1 < hi
      · have i2 : (ch1 : Int) < (hi : Int) := by omega
        have j3 : (p1 : Int) < (n : Int) := by omega
        have k3 : p1 < n := by omega
        have a1 := HS.out.cell (i := p) (by rw [HD.out]; exact k2)
        have a2 := HS.out.cell (i := p1) (by rw [HD.out]; exact k3)
        by_cases hl : ltI d'[p]! d'[p1]! = true
        · have HL := hide hl
          have HSw := hide (fun q => (HS.out.drewN q).swap (i := r) (j := p1) (by rw [HD.out]; have := HCH.out; omega) (by rw [HD.out]; have := HCH.out; omega))
          have HCw := hide (fun q => ch_swap (HC.out.drewN q) r p1 (.int .u64 d'[p1]!) (.int .u64 d'[r]!))
          obtain ⟨c1, c2, f1, f2, v, c3⟩ := HS.out.two (i := r) (j := p1) (by rw [HD.out]; have := HCH.out; omega) (by rw [HD.out]; have := HCH.out; omega)
          have c1q := fun q => (HS.out.drewN q).cell (i := r) (by rw [HD.out]; exact k1)
          have c2q := fun q => (HS.out.drewN q).cell (i := p1) (by rw [HD.out]; omega)
          have HT1 : Hid (ltI d'[r]! d'[p1]! = true → Go.Sort.siftDown ltI hi first ch1 (Go.Sort.swp d' r p1) = D) := by
            intro hl2
            rw [← HE.out]
            exact (sift_one_on HCH.out h1 h2 HL.out hl2).symm
          have HTF : Hid (ltI d'[r]! d'[p1]! = false → d' = D) := by
            intro hl2
            rw [← HE.out]
            exact (sift_one_off HCH.out h1 h2 HL.out hl2).symm
          have L1 := hide (less_any d'[p]! d'[p1]!)
          rw [hl] at L1
          clear hl HL
          generalize d'[r]! = z at *
          generalize d'[p]! = pv at *
          generalize d'[p1]! = p1v at *
          by_cases hl2 : ltI z p1v = true
          · have HX : Hid (Go.Sort.siftDown ltI hi first ch1 (Go.Sort.swp d' r p1) = D) := HT1.out hl2
            have HSz : Hid ((Go.Sort.swp d' r p1).size = n) := (size_swp _ _ _).trans HD.out
            have L2 := hide (less_any z p1v)
            rw [hl2] at L2
            clear hl2 HT1 HTF HE HS HC HD
            go_wp2
            go_big_quiet ((go_at_call 67; exact Calls.quiet_of_same (L1.out _)))
            go_wp2
            go_big_quiet ((go_at_call 67; exact quiet_at L2.out))
            go_wp2
            go_region
            go_wp2
            go_roundw
            case rel => exact ⟨ch1, _, by go_num, by have := HCH.out; omega, HX.out, HSz.out, HSw.out _, HCw.out _⟩
            case measure => have := HCH.out; simp [intOf]; omega
          · have hl2' : ltI z p1v = false := by simpa using hl2
            have HX : Hid (d' = D) := HTF.out hl2'
            have L2 := hide (less_any z p1v)
            rw [hl2'] at L2
            clear hl2 hl2' HT1 HTF HE HD HSw HCw
            go_wp2
            go_big_quiet ((go_at_call 67; exact Calls.quiet_of_same (L1.out _)))
            go_wp2
            go_big_quiet ((go_at_call 67; exact quiet_at L2.out))
            go_wp2
            refine bodyPost_ret (results_none rfl _ _ _) rfl ?_
            exact ⟨rfl, HX.out ▸ (HS.out.drewN _).drewN _, (HC.out.drewN _).drewN _⟩
        · have hl' : ltI d'[p]! d'[p1]! = false := by simpa using hl
          have HL := hide hl'
          have HSw := hide (fun q => (HS.out.drewN q).swap (i := r) (j := p) (by rw [HD.out]; have := HCH.out; omega) (by rw [HD.out]; have := HCH.out; omega))
          have HCw := hide (fun q => ch_swap (HC.out.drewN q) r p (.int .u64 d'[p]!) (.int .u64 d'[r]!))
          obtain ⟨c1, c2, f1, f2, v, c3⟩ := HS.out.two (i := r) (j := p) (by rw [HD.out]; have := HCH.out; omega) (by rw [HD.out]; have := HCH.out; omega)
          have c1q := fun q => (HS.out.drewN q).cell (i := r) (by rw [HD.out]; exact k1)
          have c2q := fun q => (HS.out.drewN q).cell (i := p) (by rw [HD.out]; omega)
          have HT2 : Hid (ltI d'[r]! d'[p]! = true → Go.Sort.siftDown ltI hi first ch (Go.Sort.swp d' r p) = D) := by
            intro hl2
            rw [← HE.out]
            exact (sift_two_on HCH.out h1 h2 HL.out hl2).symm
          have HTF : Hid (ltI d'[r]! d'[p]! = false → d' = D) := by
            intro hl2
            rw [← HE.out]
            exact (sift_two_off HCH.out h1 h2 HL.out hl2).symm
          have L1 := hide (less_any d'[p]! d'[p1]!)
          rw [hl'] at L1
          clear hl hl' HL
          generalize d'[r]! = z at *
          generalize d'[p]! = pv at *
          generalize d'[p1]! = p1v at *
          by_cases hl2 : ltI z pv = true
          · have HX : Hid (Go.Sort.siftDown ltI hi first ch (Go.Sort.swp d' r p) = D) := HT2.out hl2
            have HSz : Hid ((Go.Sort.swp d' r p).size = n) := (size_swp _ _ _).trans HD.out
            have L2 := hide (less_any z pv)
            rw [hl2] at L2
            clear hl2 HT2 HTF HE HS HC HD
            go_wp2
            go_big_quiet ((go_at_call 67; exact Calls.quiet_of_same (L1.out _)))
            go_wp2
            go_big_quiet ((go_at_call 67; exact quiet_at L2.out))
            go_wp2
            go_region
            go_wp2
            go_roundw
            case rel => exact ⟨ch, _, by go_num, by have := HCH.out; omega, HX.out, HSz.out, HSw.out _, HCw.out _⟩
            case measure => have := HCH.out; simp [intOf]; omega
          · have hl2' : ltI z pv = false := by simpa using hl2
            have HX : Hid (d' = D) := HTF.out hl2'
            have L2 := hide (less_any z pv)
            rw [hl2'] at L2
            clear hl2 hl2' HT2 HTF HE HD HSw HCw
            go_wp2
            go_big_quiet ((go_at_call 67; exact Calls.quiet_of_same (L1.out _)))
            go_wp2
            go_big_quiet ((go_at_call 67; exact quiet_at L2.out))
            go_wp2
            refine bodyPost_ret (results_none rfl _ _ _) rfl ?_
            exact ⟨rfl, HX.out ▸ (HS.out.drewN _).drewN _, (HC.out.drewN _).drewN _⟩
      · have i2 : ¬ (ch1 : Int) < (hi : Int) := by omega
        have i3 : decide ((ch1 : Int) < (hi : Int)) = false := decide_eq_false i2
        have i4 : decide (ch1 < hi) = false := decide_eq_false h2
        have HSw := hide (fun q => (HS.out.drewN q).swap (i := r) (j := p) (by rw [HD.out]; have := HCH.out; omega) (by rw [HD.out]; have := HCH.out; omega))
        have HCw := hide (fun q => ch_swap (HC.out.drewN q) r p (.int .u64 d'[p]!) (.int .u64 d'[r]!))
        obtain ⟨c1, c2, f1, f2, v, c3⟩ := HS.out.two (i := r) (j := p) (by rw [HD.out]; have := HCH.out; omega) (by rw [HD.out]; have := HCH.out; omega)
        have c1q := fun q => (HS.out.drewN q).cell (i := r) (by rw [HD.out]; exact k1)
        have c2q := fun q => (HS.out.drewN q).cell (i := p) (by rw [HD.out]; omega)
        have HT3 : Hid (ltI d'[r]! d'[p]! = true → Go.Sort.siftDown ltI hi first ch (Go.Sort.swp d' r p) = D) := by
          intro hl2
          rw [← HE.out]
          exact (sift_three_on HCH.out h1 h2 hl2).symm
        have HTF : Hid (ltI d'[r]! d'[p]! = false → d' = D) := by
          intro hl2
          rw [← HE.out]
          exact (sift_three_off HCH.out h1 h2 hl2).symm
        generalize d'[r]! = z at *
        generalize d'[p]! = pv at *
        by_cases hl2 : ltI z pv = true
        · have HX : Hid (Go.Sort.siftDown ltI hi first ch (Go.Sort.swp d' r p) = D) := HT3.out hl2
          have HSz : Hid ((Go.Sort.swp d' r p).size = n) := (size_swp _ _ _).trans HD.out
          have L2 := hide (less_any z pv)
          rw [hl2] at L2
          clear hl2 HT3 HTF HE HS HC HD
          go_wp2
          go_big_quiet (fail)
          go_wp2
          go_big_quiet ((go_at_call 67; exact quiet_at L2.out))
          go_wp2
          go_region
          go_wp2
          go_roundw
          case rel => exact ⟨ch, _, by go_num, by have := HCH.out; omega, HX.out, HSz.out, HSw.out _, HCw.out _⟩
          case measure => have := HCH.out; simp [intOf]; omega
        · have hl2' : ltI z pv = false := by simpa using hl2
          have HX : Hid (d' = D) := HTF.out hl2'
          have L2 := hide (less_any z pv)
          rw [hl2'] at L2
          clear hl2 hl2' HT3 HTF HE HD HSw HCw
          go_wp2
          go_big_quiet (fail)
          go_wp2
          go_big_quiet ((go_at_call 67; exact quiet_at L2.out))
          go_wp2
          refine bodyPost_ret (results_none rfl _ _ _) rfl ?_
          exact ⟨rfl, HX.out ▸ (HS.out.drewN _).drewN _, (HC.out.drewN _).drewN _⟩

theorem heapBuild_step {hi first k : Nat} {d : Array Int} : Go.Sort.heapBuild ltI hi first (k + 1) d = Go.Sort.heapBuild ltI hi first k (Go.Sort.siftDown ltI hi first k d) := rfl
theorem heapPop_step {first k : Nat} {d : Array Int} : Go.Sort.heapPop ltI first (k + 1) d = Go.Sort.heapPop ltI first k (Go.Sort.siftDown ltI k first 0 (Go.Sort.swp d first (first + k))) := rfl
theorem sift_size {n : Nat} (hi first root : Nat) (d : Array Int) (hf : first + hi ≤ d.size) (hn : d.size = n) : (Go.Sort.siftDown ltI hi first root d).size = n := by
  subst hn
  fun_induction Go.Sort.siftDown ltI hi first root d with
  | case1 => rfl
  | case2 => rfl
  | case3 root d h1 h2 h3 h4 ih => rw [ih (by rw [size_swp]; exact hf), size_swp]
  | case4 => rfl
  | case5 => rfl
  | case6 root d h1 h2 h3 ih => rw [ih (by rw [size_swp]; exact hf), size_swp]

set_option maxHeartbeats 8000000 in
theorem heap_any (g c cp : Nat) (d : Array Int) (a b : Nat) (w : World) (h : SRow w g c d) (hab : a < b) (hb : b ≤ d.size) :
    Calls Try.prog 62 #[.slice (some ⟨g, 0, none⟩) d.size cp, .int .i64 a, .int .i64 b] w fun e w' => e = .returned (.tuple #[]) ∧ SRow w' g c (Go.Sort.heapSort ltI d a b) ∧ Ch (fun k => k = g) w w' := by
  have H := hide h
  have hr := h.room
  obtain ⟨n, HN⟩ : ∃ n, Hid (d.size = n) := ⟨_, rfl⟩
  obtain ⟨D, HDD⟩ : ∃ D, Hid (Go.Sort.heapSort ltI d a b = D) := ⟨_, rfl⟩
  rw [HN.out] at hb hr ⊢
  rw [HDD.out]
  clear h
  obtain ⟨hi, HI⟩ : ∃ hi, Hid (b - a = hi) := ⟨_, rfl⟩
  obtain ⟨D1, HD1⟩ : ∃ D1, Hid (Go.Sort.heapBuild ltI hi a ((hi - 1) / 2 + 1) d = D1) := ⟨_, rfl⟩
  have HDD2 : Hid (Go.Sort.heapPop ltI a hi D1 = D) := by rw [← HD1.out, ← HDD.out, ← HI.out]; rfl
  have hhi := HI.out
  have h0 : 0 < hi := by omega
  have h1 : a + hi ≤ n := by omega
  have e1 : (b : Int) - (a : Int) = (hi : Int) := by omega
  obtain ⟨m, HM⟩ : ∃ m, Hid ((hi - 1) / 2 = m) := ⟨_, rfl⟩
  have hm := HM.out
  have e2 : Int.tdiv ((hi : Int) - 1) 2 = (m : Int) := by
    have e : (hi : Int) - 1 = ((hi - 1 : Nat) : Int) := by omega
    rw [e, Int.tdiv_eq_ediv_of_nonneg (by omega), ← hm]
    omega
  have h2 : m ≤ hi := by omega
  have h3 : hi ≤ n := by omega
  rw [HM.out] at HD1
  clear hhi hm
  go_enter Try.func62, Try.ntmps62
  go_wp2
  go_loopw [9] (fun x9 wr => ∃ (k : Nat) (z : Int) (d' : Array Int), x9 = .int .i64 z ∧ z = (k : Int) - 1 ∧ k ≤ m + 1 ∧ Hid (Go.Sort.heapBuild ltI hi a k d' = D1) ∧ Hid (d'.size = n) ∧ Hid (SRow wr g c d') ∧ Hid (Ch (fun k => k = g) w wr)) (fun x9 _ => (intOf x9 + 1).toNat)
  case atStart => exact ⟨m + 1, m, d, by go_num, by omega, by omega, HD1.out, HN.out, H.out, Ch.refl _ _⟩
  case round =>
    obtain ⟨k, z, d', rfl, hz, hk, HE, HD, HS, HC⟩ := hrel
    by_cases hk0 : k = 0
    · subst hk0
      obtain rfl : z = -1 := by omega
      have HX : Hid (d' = D1) := HE.out
      clear HE hk hz
      go_wp2
      go_loopw [10] (fun x10 wr => ∃ (k : Nat) (z : Int) (d' : Array Int), x10 = .int .i64 z ∧ z = (k : Int) - 1 ∧ k ≤ hi ∧ Hid (Go.Sort.heapPop ltI a k d' = D) ∧ Hid (d'.size = n) ∧ Hid (SRow wr g c d') ∧ Hid (Ch (fun k => k = g) w wr)) (fun x10 _ => (intOf x10 + 1).toNat)
      case atStart => exact ⟨hi, hi - 1, d', by go_num, by omega, by omega, by rw [HX.out]; exact HDD2.out, HD.out, HS.out, HC.out⟩
      case round =>
        obtain ⟨k, z, d2, rfl, hz, hk, HE, HD2, HS2, HC2⟩ := hrel
        by_cases hk0 : k = 0
        · subst hk0
          obtain rfl : z = -1 := by omega
          have HX2 : Hid (d2 = D) := HE.out
          clear hz
          go_wp2
          go_end0
          exact ⟨rfl, HX2.out ▸ HS2.out, HC2.out⟩
        · obtain ⟨i, rfl⟩ : ∃ i, k = i + 1 := ⟨k - 1, by omega⟩
          obtain rfl : z = (i : Int) := by omega
          obtain ⟨p, HP⟩ : ∃ p, Hid (p = a + i) := ⟨_, rfl⟩
          have hp := HP.out
          have e3 : (a : Int) + (i : Int) = (p : Int) := by omega
          have HE' : Hid (Go.Sort.heapPop ltI a i (Go.Sort.siftDown ltI i a 0 (Go.Sort.swp d2 a p)) = D) := by rw [hp]; exact HE.out
          have j1 : (a : Int) < (n : Int) := by omega
          have j2 : (p : Int) < (n : Int) := by omega
          have j3 : (0 : Int) ≤ (p : Int) := by omega
          have j4 : (0 : Int) ≤ (i : Int) := by omega
          have j5 : (0 : Int) ≤ (a : Int) := by omega
          have k1 : a < n := by omega
          have k2 : p < n := by omega
          have HSz : Hid ((Go.Sort.swp d2 a p).size = n) := (size_swp _ _ _).trans HD2.out
          have HSw := hide (fun q => (HS2.out.drewN q).swap (i := a) (j := p) (by rw [HD2.out]; exact k1) (by rw [HD2.out]; exact k2))
          have HCw := hide (fun q => ch_swap (HC2.out.drewN q) a p (.int .u64 d2[p]!) (.int .u64 d2[a]!))
          obtain ⟨c1, c2, f1, f2, v, c3⟩ := HS2.out.two (i := a) (j := p) (by rw [HD2.out]; exact k1) (by rw [HD2.out]; exact k2)
          have HSF : Hid (a + i ≤ (Go.Sort.swp d2 a p).size) := by show _ ≤ _; rw [HSz.out]; omega
          generalize d2[a]! = x at *
          generalize d2[p]! = y at *
          have SF := hide (fun q => sift_any g c cp (Go.Sort.swp d2 a p) 0 i a _ (HSw.out q) HSF.out (Nat.zero_le _))
          rw [HSz.out] at SF
          clear hp hz hk0 HE HS2 HC2 HD2
          go_wp2
          go_region
          go_wp2_with fail
          refine (SF.out 1).mono ?_
          rintro e w1 ⟨rfl, s1, ch1⟩
          have S1 := hide s1
          have C1 : Hid (Ch (fun k => k = g) w w1) := (HCw.out 1).trans ch1
          have Z1 : Hid ((Go.Sort.siftDown ltI i a 0 (Go.Sort.swp d2 a p)).size = n) := sift_size _ _ _ _ HSF.out HSz.out
          clear s1 ch1 SF
          go_wp2
          go_roundw
          case rel => exact ⟨i, (i : Int) - 1, _, by go_num, by omega, by omega, HE'.out, Z1.out, S1.out, C1.out⟩
          case measure => simp [intOf]
    · obtain ⟨i, rfl⟩ : ∃ i, k = i + 1 := ⟨k - 1, by omega⟩
      obtain rfl : z = (i : Int) := by omega
      have j4 : (0 : Int) ≤ (i : Int) := by omega
      have SF := hide (sift_any g c cp d' i hi a wr HS.out (by rw [HD.out]; exact h1) (by omega))
      rw [HD.out] at SF
      clear hz hk0
      go_wp2_with fail
      refine SF.out.mono ?_
      rintro e w1 ⟨rfl, s1, ch1⟩
      have S1 := hide s1
      have C1 : Hid (Ch (fun k => k = g) w w1) := HC.out.trans ch1
      have Z1 : Hid ((Go.Sort.siftDown ltI hi a i d').size = n) := sift_size _ _ _ _ (by rw [HD.out]; exact h1) HD.out
      have HE' : Hid (Go.Sort.heapBuild ltI hi a i (Go.Sort.siftDown ltI hi a i d') = D1) := HE.out
      clear s1 ch1 SF
      go_wp2
      go_roundw
      case rel => exact ⟨i, (i : Int) - 1, _, by go_num, by omega, by omega, HE'.out, Z1.out, S1.out, C1.out⟩
      case measure => simp [intOf]
end Go.Proofs.Ytlhiikibbppodaa
