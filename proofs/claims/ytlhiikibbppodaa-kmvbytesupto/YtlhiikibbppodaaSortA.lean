/-
  The library's order of two words; a row's part turned round: contracts, for every world. The library's sort of few words, one by one: its contract, for every world. The library's choice of a pivot: which of the places it is; nothing but a new count turns. The library's choice of a pivot: a place of the part; nothing that was there turns.
  Conditions: the row shows its words; the part lies within; the row shows its words; the part lies within and has more than 12.
-/
import Derived.Test.YtlhiikibbppodaaSortK
import Derived.Test.YtlhiikibbppodaaRows
import Derived.RegionTactic
import Derived.BigRegion
import Derived.BigQuiet
import Derived.Deep.QuietTactic
import Derived.WalkMore
import Derived.RangeFuncBox
namespace Go.Proofs.Ytlhiikibbppodaa
open Go.RowKit

abbrev ltI : Int → Int → Bool := Go.Sort.ltInt

theorem isnan_any (x : Int) (w : World) : Calls Try.prog 78 #[.int .u64 x] w fun e w' => e = .returned (.bool false) ∧ w' = w := by
  go_enter Try.func78, Try.ntmps78
  go_wp2
  go_ret
  simp
theorem less_any (x y : Int) (w : World) : Calls Try.prog 67 #[.int .u64 x, .int .u64 y] w fun e w' => e = .returned (.bool (ltI x y)) ∧ w' = w := by
  have N := hide (isnan_any x w)
  go_enter Try.func67, Try.ntmps67
  go_wp2_with fail
  refine N.out.mono ?_
  rintro e w' ⟨rfl, rfl⟩
  go_wp2
  go_ret
  exact ⟨rfl, rfl⟩

/-- A call that turns nothing, within a region behind another one that drew. -/
theorem quiet_at {P : Program} {f : Nat} {args : Array Value} {v : Value} {wr : World} {q x : Nat} (h : ∀ w, Calls P f args w (fun e w' => e = .returned v ∧ w' = w)) : Calls P f args (wr.drewN (q + x)) fun e w' => e = .returned v ∧ ∃ n, w' = wr.drewN (q + n) :=
  (h _).mono (fun _ _ k => ⟨k.1, x, k.2⟩)

/-- What the sort's functions leave: the row, turned within, and nothing else. -/
def Sorts (w : World) (g c : Nat) (P : Array Int → Prop) (w' : World) : Prop := ∃ d, P d ∧ SRow w' g c d ∧ Ch (fun k => k = g) w w'

set_option maxHeartbeats 2000000 in
theorem reverse_any (g c cp : Nat) (d : Array Int) (a b : Nat) (w : World) (h : SRow w g c d) (hab : a < b) (hb : b ≤ d.size) :
    Calls Try.prog 65 #[.slice (some ⟨g, 0, none⟩) d.size cp, .int .i64 a, .int .i64 b] w fun e w' => e = .returned (.tuple #[]) ∧ Sorts w g c (Go.Sort.PermIn a b d) w' := by
  have H := hide h
  have hr := h.room
  have HB := hide hb
  obtain ⟨n, HN⟩ : ∃ n, Hid (d.size = n) := ⟨_, rfl⟩
  rw [HN.out] at hb hr ⊢
  clear h
  go_enter Try.func65, Try.ntmps65
  go_wp2
  go_loopw [6, 7] (fun x6 x7 wr => ∃ (i j : Nat) (d' : Array Int), x6 = .int .i64 i ∧ x7 = .int .i64 j ∧ a ≤ i ∧ j < b ∧ i ≤ b ∧ Hid (Go.Sort.PermIn a b d d') ∧ Hid (SRow wr g c d') ∧ Hid (Ch (fun k => k = g) w wr)) (fun _ x7 _ => (intOf x7).toNat)
  case atStart => exact ⟨a, b - 1, d, rfl, by go_num, by omega, by omega, by omega, Go.Sort.permIn_refl _ _ _, H.out, Ch.refl _ _⟩
  case round =>
    obtain ⟨i, j, d', rfl, rfl, hi, hj, hib, HP, HS, HC⟩ := hrel
    by_cases hlt : i < j
    · have HD : Hid (d'.size = n) := HP.out.1.trans HN.out
      have HX : Hid (Go.Sort.PermIn a b d (Go.Sort.swp d' i j)) := Go.Sort.permIn_trans _ _ _ _ _ HP.out (Go.Sort.swp_permIn _ _ _ _ _ hi (by omega) (by omega) hj (by rw [HD.out]; exact hb))
      have HSw := hide (HS.out.swap (i := i) (j := j) (by rw [HD.out]; omega) (by rw [HD.out]; omega))
      have HCw := hide (ch_swap HC.out i j (.int .u64 d'[j]!) (.int .u64 d'[i]!))
      obtain ⟨c1, c2, f1, f2, v, c3⟩ := HS.out.two (i := i) (j := j) (by rw [HD.out]; omega) (by rw [HD.out]; omega)
      generalize d'[i]! = x at *
      generalize d'[j]! = y at *
      have i1 : (i : Int) < (j : Int) := by omega
      have i2 : (i : Int) < (n : Int) := by omega
      have i3 : (j : Int) < (n : Int) := by omega
      have i4 : (0 : Int) ≤ (i : Int) := by omega
      have i5 : (0 : Int) ≤ (j : Int) := by omega
      clear HP HS HC HD
      go_wp2
      go_region
      go_wp2
      go_roundw
      case rel => exact ⟨i + 1, j - 1, _, by go_num, by go_num, by omega, by omega, by omega, HX.out, HSw.out.drew, HCw.out.drew⟩
      case measure => simp [intOf]; omega
    · have i1 : ¬ (i : Int) < (j : Int) := by omega
      go_wp2
      go_end0
      exact ⟨rfl, d', HP.out, HS.out, HC.out⟩
end Go.Proofs.Ytlhiikibbppodaa

namespace Go.Proofs.Ytlhiikibbppodaa
open Go.RowKit

theorem insInner_on {a k : Nat} {d : Array Int} (h : a < k + 1) (hl : ltI d[k + 1]! d[k]! = true) : Go.Sort.insInner ltI a (k + 1) d = Go.Sort.insInner ltI a k (Go.Sort.swp d (k + 1) k) := by
  rw [Go.Sort.insInner, if_pos (by simp [h, hl])]
theorem insInner_off {a k : Nat} {d : Array Int} (hl : ltI d[k + 1]! d[k]! = false) : Go.Sort.insInner ltI a (k + 1) d = d := by
  rw [Go.Sort.insInner, if_neg (by simp [hl])]
theorem insInner_end {a k : Nat} {d : Array Int} (h : k ≤ a) : Go.Sort.insInner ltI a k d = d := by
  cases k with
  | zero => rfl
  | succ k => rw [Go.Sort.insInner, if_neg (by simp; omega)]

set_option maxHeartbeats 4000000 in
theorem insertion_any (g c cp : Nat) (d : Array Int) (a b : Nat) (w : World) (h : SRow w g c d) (hab : a ≤ b) (hb : b ≤ d.size) :
    Calls Try.prog 61 #[.slice (some ⟨g, 0, none⟩) d.size cp, .int .i64 a, .int .i64 b] w fun e w' => e = .returned (.tuple #[]) ∧ SRow w' g c (Go.Sort.insertionSort ltI d a b) ∧ Ch (fun k => k = g) w w' := by
  have H := hide h
  have hr := h.room
  have HB := hide hb
  obtain ⟨n, HN⟩ : ∃ n, Hid (d.size = n) := ⟨_, rfl⟩
  obtain ⟨D, HDD⟩ : ∃ D, Hid (Go.Sort.insertionSort ltI d a b = D) := ⟨_, rfl⟩
  rw [HN.out] at hb hr ⊢
  rw [HDD.out]
  clear h
  go_enter Try.func61, Try.ntmps61
  go_wp2
  go_loopw [6] (fun x6 wr => ∃ (i : Nat) (d' : Array Int), x6 = .int .i64 i ∧ a + 1 ≤ i ∧ i ≤ b + 1 ∧ Hid (Go.Sort.insOuter ltI a b i d' = D) ∧ Hid (d'.size = n) ∧ Hid (SRow wr g c d') ∧ Hid (Ch (fun k => k = g) w wr)) (fun x6 _ => b + 1 - (intOf x6).toNat)
  case atStart => exact ⟨a + 1, d, by go_num, by omega, by omega, HDD.out, HN.out, H.out, Ch.refl _ _⟩
  case round =>
    obtain ⟨i, d', rfl, hai, hib, HE, HD, HS, HC⟩ := hrel
    by_cases hlt : i < b
    · have i1 : (i : Int) < (b : Int) := by omega
      go_wp2
      go_loopw [7] (fun x7 wr2 => ∃ (j : Nat) (d2 : Array Int), x7 = .int .i64 j ∧ j ≤ i ∧ Hid (Go.Sort.insInner ltI a j d2 = Go.Sort.insInner ltI a i d') ∧ Hid (d2.size = n) ∧ Hid (SRow wr2 g c d2) ∧ Hid (Ch (fun k => k = g) w wr2)) (fun x7 _ => (intOf x7).toNat)
      case atStart => exact ⟨i, d', rfl, Nat.le_refl _, rfl, HD.out, HS.out, HC.out⟩
      case round =>
        obtain ⟨j, d2, rfl, hji, HE2, HD2, HS2, HC2⟩ := hrel
        by_cases hja : a < j
        · obtain ⟨k, HK⟩ : ∃ k, Hid (j = k + 1) := ⟨j - 1, by show _ = _; omega⟩
          have hk := HK.out
          have HSw := hide (fun q => (HS2.out.drewN q).swap (i := j) (j := k) (by rw [HD2.out]; omega) (by rw [HD2.out]; omega))
          have HCw := hide (fun q => ch_swap (HC2.out.drewN q) j k (.int .u64 d2[k]!) (.int .u64 d2[j]!))
          obtain ⟨c1, c2, f1, f2, v, c3⟩ := HS2.out.two (i := j) (j := k) (by rw [HD2.out]; omega) (by rw [HD2.out]; omega)
          have HOn : Hid (ltI d2[j]! d2[k]! = true → Go.Sort.insInner ltI a j d2 = Go.Sort.insInner ltI a k (Go.Sort.swp d2 j k)) := by subst hk; exact fun hl => insInner_on (a := a) (k := k) (d := d2) hja hl
          have HOff : Hid (ltI d2[j]! d2[k]! = false → Go.Sort.insInner ltI a j d2 = d2) := by subst hk; exact fun hl => insInner_off (a := a) (k := k) (d := d2) hl
          generalize d2[j]! = x at *
          generalize d2[k]! = y at *
          have L := hide (less_any x y)
          have i2 : (j : Int) < (n : Int) := by omega
          have i3 : (k : Int) < (n : Int) := by omega
          have i4 : (0 : Int) ≤ (k : Int) := by omega
          have i5 : (a : Int) < (j : Int) := by omega
          have i6 : (0 : Int) ≤ (j : Int) := by omega
          have e1 : (j : Int) - 1 = (k : Int) := by omega
          have e2 : IntKind.i64.wrap (k : Int) = (k : Int) := by rw [IntKind.wrap_i64]; omega
          clear hk
          by_cases hl : ltI x y = true
          · have HX : Hid (Go.Sort.insInner ltI a k (Go.Sort.swp d2 j k) = Go.Sort.insInner ltI a i d') := (HOn.out hl).symm.trans HE2.out
            have HSz : Hid ((Go.Sort.swp d2 j k).size = n) := (size_swp _ _ _).trans HD2.out
            rw [hl] at L
            clear HE2 HD2 HS2 HC2 HOn HOff hl
            go_wp2
            go_big_quiet ((go_at_call 67; exact Calls.quiet_of_same (L.out _)))
            go_wp2
            go_region
            go_wp2
            go_roundw
            case rel => exact ⟨k, _, by go_num, by have := HK.out; omega, HX.out, HSz.out, HSw.out _, HCw.out _⟩
            case measure => have := HK.out; simp [intOf]; omega
          · have hl' : ltI x y = false := by simpa using hl
            rw [hl'] at L
            have HX : Hid (d2 = Go.Sort.insInner ltI a i d') := (HOff.out hl').symm.trans HE2.out
            clear HE2 HOn HOff hl hl' HSw HCw
            go_wp2
            go_big_quiet ((go_at_call 67; exact Calls.quiet_of_same (L.out _)))
            go_wp2
            go_roundw
            case rel => exact ⟨i + 1, d2, by go_num, by omega, by omega, by have := HE.out; rw [Go.Sort.insOuter, if_pos hlt, ← HX.out] at this; exact this, HD2.out, HS2.out.drewN _, HC2.out.drewN _⟩
            case measure => simp [intOf]; omega
        · have i5 : decide ((a : Int) < (j : Int)) = false := decide_eq_false (by omega)
          have i6 : ¬ (a : Int) < (j : Int) := by omega
          have i7 : decide (a < j) = false := decide_eq_false (by omega)
          have HX : Hid (d2 = Go.Sort.insInner ltI a i d') := (insInner_end (by omega)).symm.trans HE2.out
          go_wp2
          go_quiet (fail)
          go_wp2
          go_roundw
          case rel => exact ⟨i + 1, d2, by go_num, by omega, by omega, by have := HE.out; rw [Go.Sort.insOuter, if_pos hlt, ← HX.out] at this; exact this, HD2.out, HS2.out.drewN _, HC2.out.drewN _⟩
          case measure => simp [intOf]; omega
    · have i1 : ¬ (i : Int) < (b : Int) := by omega
      have HX : Hid (d' = D) := by have := HE.out; rwa [Go.Sort.insOuter, if_neg hlt] at this
      go_wp2
      go_end0
      exact ⟨rfl, HX.out ▸ HS.out, HC.out⟩
end Go.Proofs.Ytlhiikibbppodaa

namespace Go.Proofs.Ytlhiikibbppodaa
open Go.RowKit

/-- The count that the choice keeps: a block of its own, of an int. -/
def Cnt (w : World) (q : Nat) (x : Int) : Prop := w.heap[q]? = some (.cells #[.int .i64 x] 3 (0, 0))
theorem Cnt.cell {w : World} {q : Nat} {x : Int} (h : Cnt w q x) : w.cell? ⟨q, 0, none⟩ = some (.int .i64 x) := by
  rw [cell_of_row w q 0 _ _ (0, 0) h]; rfl
theorem Cnt.frozen {w : World} {q : Nat} {x : Int} (h : Cnt w q x) : w.frozen? ⟨q, 0, none⟩ = false := frozen_of_row w q 0 _ _ h
theorem Cnt.lt {w : World} {q : Nat} {x : Int} (h : Cnt w q x) : q < w.heap.size := (Array.getElem?_eq_some_iff.1 h).1
theorem Cnt.set {w : World} {q : Nat} {x : Int} (h : Cnt w q x) (y : Int) : Cnt (w.setCell ⟨q, 0, none⟩ (.int .i64 y)) q y := by
  unfold Cnt
  rw [heap_setCell_same w q 0 _ _ _ h]
  rfl
theorem Cnt.ne {w : World} {q g c : Nat} {x : Int} {d : Array Int} (h : Cnt w q x) (k : SRow w g c d) : g ≠ q := by
  rintro rfl
  obtain ⟨cur, h1, _⟩ := k.heap
  rw [h] at h1
  simp at h1

/-- What the choice's functions leave: the row as it was, the count at some number. -/
structure Still (w w' : World) (g c q : Nat) (d : Array Int) : Prop where
  row : SRow w' g c d
  cnt : ∃ x, Cnt w' q x
  ch : Ch (fun k => k = q) w w'
theorem Still.refl {w : World} {g c q : Nat} {d : Array Int} {x : Int} (h : SRow w g c d) (k : Cnt w q x) : Still w w g c q d := ⟨h, ⟨x, k⟩, Ch.refl _ _⟩
theorem Still.trans {w w1 w2 : World} {g c q : Nat} {d : Array Int} (h : Still w w1 g c q d) (k : Still w1 w2 g c q d) : Still w w2 g c q d := ⟨k.row, k.cnt, h.ch.trans k.ch⟩

set_option maxHeartbeats 2000000 in
theorem order2_any (g c cp q : Nat) (d : Array Int) (a b : Nat) (x : Int) (w : World) (h : SRow w g c d) (hq : Cnt w q x) (ha : a < d.size) (hb : b < d.size) :
    Calls Try.prog 80 #[.slice (some ⟨g, 0, none⟩) d.size cp, .int .i64 a, .int .i64 b, .pointer (some ⟨q, 0, none⟩)] w fun e w' => (e = .returned (.tuple #[.int .i64 a, .int .i64 b]) ∨ e = .returned (.tuple #[.int .i64 b, .int .i64 a])) ∧ Still w w' g c q d := by
  have H := hide h
  have HQ := hide hq
  have hr := h.room
  have c1 := h.cell ha
  have c2 := h.cell hb
  have m1 := hq.cell
  have m2 := hq.frozen
  have HNe := hide (hq.ne h)
  obtain ⟨n, HN⟩ : ∃ n, Hid (d.size = n) := ⟨_, rfl⟩
  rw [HN.out] at ha hb hr ⊢
  generalize d[a]! = y at *
  generalize d[b]! = z at *
  have i1 : (a : Int) < (n : Int) := by omega
  have i2 : (b : Int) < (n : Int) := by omega
  have i3 : (0 : Int) ≤ (a : Int) := by omega
  have i4 : (0 : Int) ≤ (b : Int) := by omega
  have L := hide (less_any z y)
  clear h hq
  by_cases hl : ltI z y = true
  · rw [hl] at L
    clear hl
    go_enter Try.func80, Try.ntmps80
    go_wp2
    go_big_quiet ((go_at_call 67; exact Calls.quiet_of_same (L.out _)))
    go_wp2
    refine bodyPost_ret (results_tmp2 rfl _ _ _) rfl ?_
    refine ⟨Or.inr rfl, ?_, ?_, ?_⟩
    · refine H.out.block ?_
      rw [Below.heap_setCell _ _ _ _ HNe.out]
      rfl
    · exact ⟨_, Cnt.set (w := w.drewN _) HQ.out _⟩
    · exact ((Ch.refl _ w).drewN _).trans (ch_set _ q 0 _)
  · have hl' : ltI z y = false := by simpa using hl
    rw [hl'] at L
    clear hl hl'
    go_enter Try.func80, Try.ntmps80
    go_wp2
    go_big_quiet ((go_at_call 67; exact Calls.quiet_of_same (L.out _)))
    go_wp2
    refine bodyPost_ret (results_tmp2 rfl _ _ _) rfl ?_
    exact ⟨Or.inl rfl, H.out.drewN _, ⟨x, HQ.out⟩, (Ch.refl _ w).drewN _⟩

theorem order2_two {P : Program} {f : Nat} {args : Array Value} {w : World} {a b n : Nat} {R : World → Prop} (ha : a < n) (hb : b < n)
    (h : Calls P f args w fun e w' => (e = .returned (.tuple #[.int .i64 a, .int .i64 b]) ∨ e = .returned (.tuple #[.int .i64 b, .int .i64 a])) ∧ R w') :
    Calls P f args w fun e w' => ∃ x y : Nat, e = .returned (.tuple #[.int .i64 x, .int .i64 y]) ∧ ((x = a ∧ y = b) ∨ (x = b ∧ y = a)) ∧ x < n ∧ y < n ∧ R w' := by
  refine h.mono ?_
  rintro e w' ⟨rfl | rfl, h2⟩
  · exact ⟨a, b, rfl, Or.inl ⟨rfl, rfl⟩, ha, hb, h2⟩
  · exact ⟨b, a, rfl, Or.inr ⟨rfl, rfl⟩, hb, ha, h2⟩

set_option maxHeartbeats 2000000 in
theorem median_any (g c cp q : Nat) (d : Array Int) (a b m : Nat) (x : Int) (w : World) (h : SRow w g c d) (hq : Cnt w q x) (ha : a < d.size) (hb : b < d.size) (hm : m < d.size) :
    Calls Try.prog 77 #[.slice (some ⟨g, 0, none⟩) d.size cp, .int .i64 a, .int .i64 b, .int .i64 m, .pointer (some ⟨q, 0, none⟩)] w fun e w' => ∃ r : Nat, e = .returned (.int .i64 r) ∧ (r = a ∨ r = b ∨ r = m) ∧ Still w w' g c q d := by
  have O := hide (fun (a b : Nat) (ha : a < d.size) (hb : b < d.size) (x : Int) (w : World) (h : SRow w g c d) (hq : Cnt w q x) => order2_two ha hb (order2_any g c cp q d a b x w h hq ha hb))
  have O1 := hide (O.out a b ha hb x w h hq)
  have HM := hide hm
  obtain ⟨n, HN⟩ : ∃ n, Hid (d.size = n) := ⟨_, rfl⟩
  rw [HN.out] at O1 ⊢
  clear h hq ha hb hm
  go_enter Try.func77, Try.ntmps77
  go_wp2_with fail
  refine O1.out.mono ?_
  rintro e w1 ⟨a1, b1, rfl, h1, ha1, hb1, s1⟩
  obtain ⟨x1, k1⟩ := s1.cnt
  have O2 := hide (O.out b1 m (by rw [HN.out]; exact hb1) HM.out x1 w1 s1.row k1)
  rw [HN.out] at O2
  have H1 := hide h1
  have S1 := hide s1
  have A1 := hide ha1
  clear h1 s1 O1 ha1 hb1 k1
  go_wp2_with fail
  refine O2.out.mono ?_
  rintro e w2 ⟨b2, m2, rfl, h2, hb2, hm2, s2⟩
  obtain ⟨x2, k2⟩ := s2.cnt
  have O3 := hide (O.out a1 b2 (by rw [HN.out]; exact A1.out) (by rw [HN.out]; exact hb2) x2 w2 s2.row k2)
  rw [HN.out] at O3
  have H2 := hide h2
  have S2 := hide (S1.out.trans s2)
  clear h2 s2 O2 hb2 hm2 k2
  go_wp2_with fail
  refine O3.out.mono ?_
  rintro e w3 ⟨a3, b3, rfl, h3, ha3, hb3, s3⟩
  have H3 := hide h3
  have S3 := hide (S2.out.trans s3)
  clear h3 s3 O3 ha3 hb3
  go_wp2
  go_ret
  refine ⟨b3, rfl, ?_, S3.out⟩
  have := H1.out; have := H2.out; have := H3.out
  omega

theorem medadj_any (g c cp q : Nat) (d : Array Int) (a : Nat) (x : Int) (w : World) (h : SRow w g c d) (hq : Cnt w q x) (ha : 0 < a) (hb : a + 1 < d.size) :
    Calls Try.prog 76 #[.slice (some ⟨g, 0, none⟩) d.size cp, .int .i64 a, .pointer (some ⟨q, 0, none⟩)] w fun e w' => ∃ r : Nat, e = .returned (.int .i64 r) ∧ a - 1 ≤ r ∧ r ≤ a + 1 ∧ Still w w' g c q d := by
  have hr := h.room
  have M := hide (median_any g c cp q d (a - 1) a (a + 1) x w h hq (by omega) (by omega) hb)
  obtain ⟨n, HN⟩ : ∃ n, Hid (d.size = n) := ⟨_, rfl⟩
  rw [HN.out] at M hb hr ⊢
  obtain ⟨a0, HA⟩ : ∃ a0, Hid (a - 1 = a0) := ⟨_, rfl⟩
  obtain ⟨a2, HB⟩ : ∃ a2, Hid (a + 1 = a2) := ⟨_, rfl⟩
  rw [HA.out, HB.out] at M
  have h1 := HA.out
  have h2 := HB.out
  have e1 : (a : Int) - 1 = (a0 : Int) := by omega
  have e2 : (a : Int) + 1 = (a2 : Int) := by omega
  have i1 : (a0 : Int) < (n : Int) := by omega
  have i2 : (a2 : Int) < (n : Int) := by omega
  clear h hq h1 h2
  go_enter Try.func76, Try.ntmps76
  go_wp2_with fail
  refine M.out.mono ?_
  rintro e w1 ⟨r, rfl, h1, s1⟩
  have H1 := hide h1
  have S1 := hide s1
  clear h1 s1 M
  go_wp2
  go_ret
  have := H1.out; have := HA.out; have := HB.out
  exact ⟨r, rfl, by omega, by omega, S1.out⟩
end Go.Proofs.Ytlhiikibbppodaa

namespace Go.Proofs.Ytlhiikibbppodaa
open Go.RowKit

theorem cnt_made (w : World) : Cnt (w.alloc (.cells #[.int .i64 0] 3)) w.heap.size 0 := World.alloc_heap_new w _

set_option maxRecDepth 20000 in
set_option maxHeartbeats 8000000 in
theorem pivot_any (g c cp : Nat) (d : Array Int) (a b : Nat) (w : World) (h : SRow w g c d) (hab : a + 12 < b) (hb : b ≤ d.size) :
    Calls Try.prog 64 #[.slice (some ⟨g, 0, none⟩) d.size cp, .int .i64 a, .int .i64 b] w fun e w' => ∃ (r : Nat) (t : Int), e = .returned (.tuple #[.int .i64 r, .int .i64 t]) ∧ a ≤ r ∧ r < b ∧ (t = 0 ∨ t = 1 ∨ t = 2) ∧ SRow w' g c d ∧ Below w.heap.size w w' := by
  have hr := h.room
  have S0 := hide (Still.refl (h.alloc (.cells #[.int .i64 0] 3)) (cnt_made w))
  have fin : Hid (∀ W, Still (w.alloc (.cells #[.int .i64 0] 3)) W g c w.heap.size d → Below w.heap.size w W) := by
    intro W s
    refine (bel_al (Below.refl _ _) (Nat.le_refl _) _).trans (s.ch.below (by simp) (fun k hk e => by omega))
  have MA := hide (fun (i : Nat) (x : Int) (W : World) (s : SRow W g c d) (q : Cnt W w.heap.size x) (h0 : 0 < i) (h1 : i + 1 < d.size) => medadj_any g c cp w.heap.size d i x W s q h0 h1)
  have MD := hide (fun (i j k : Nat) (x : Int) (W : World) (s : SRow W g c d) (q : Cnt W w.heap.size x) (h0 : i < d.size) (h1 : j < d.size) (h2 : k < d.size) => median_any g c cp w.heap.size d i j k x W s q h0 h1 h2)
  obtain ⟨n, HN⟩ : ∃ n, Hid (d.size = n) := ⟨_, rfl⟩
  rw [HN.out] at hb hr MA MD ⊢
  obtain ⟨l, HL⟩ : ∃ l, Hid (b - a = l) := ⟨_, rfl⟩
  obtain ⟨m, HM⟩ : ∃ m, Hid (l / 4 = m) := ⟨_, rfl⟩
  obtain ⟨i, HI⟩ : ∃ i, Hid (a + m = i) := ⟨_, rfl⟩
  obtain ⟨j, HJ⟩ : ∃ j, Hid (a + m * 2 = j) := ⟨_, rfl⟩
  obtain ⟨k, HK⟩ : ∃ k, Hid (a + m * 3 = k) := ⟨_, rfl⟩
  have hl := HL.out
  have hm := HM.out
  have hi := HI.out
  have hj := HJ.out
  have hk := HK.out
  have e1 : (b : Int) - (a : Int) = (l : Int) := by omega
  have e2 : Int.tdiv (l : Int) 4 = (m : Int) := by rw [Int.tdiv_eq_ediv_of_nonneg (by omega)]; omega
  have e3 : (a : Int) + (m : Int) = (i : Int) := by omega
  have e4 : (a : Int) + (m : Int) * 2 = (j : Int) := by omega
  have e5 : (a : Int) + (m : Int) * 3 = (k : Int) := by omega
  have b1 : (8 : Int) ≤ (l : Int) := by omega
  have b2 : (l : Int) ≤ (n : Int) := by omega
  have b3 : (m : Int) ≤ (n : Int) := by omega
  have q1 : a + 1 ≤ i := by omega
  have q2 : i + 2 ≤ j := by omega
  have q3 : j + 2 ≤ k := by omega
  have q4 : k + 1 < b := by omega
  clear h hl hm hi hj hk
  by_cases h50 : 50 ≤ l
  · have b4 : (50 : Int) ≤ (l : Int) := by omega
    obtain ⟨x0, k0⟩ := S0.out.cnt
    have M1 := hide (MA.out i x0 _ S0.out.row k0 (by omega) (by omega))
    clear k0
    go_enter Try.func64, Try.ntmps64
    go_wp2_with fail
    refine M1.out.mono ?_
    rintro e w1 ⟨i1, rfl, h1, h1', s1⟩
    obtain ⟨x1, k1⟩ := s1.cnt
    have M2 := hide (MA.out j x1 w1 s1.row k1 (by omega) (by omega))
    have S1 := hide (S0.out.trans s1)
    clear s1 k1 M1
    go_wp2_with fail
    refine M2.out.mono ?_
    rintro e w2 ⟨j1, rfl, h2, h2', s2⟩
    obtain ⟨x2, k2⟩ := s2.cnt
    have M3 := hide (MA.out k x2 w2 s2.row k2 (by omega) (by omega))
    have S2 := hide (S1.out.trans s2)
    clear s2 k2 M2
    go_wp2_with fail
    refine M3.out.mono ?_
    rintro e w3 ⟨k1, rfl, h3, h3', s3⟩
    obtain ⟨x3, k3⟩ := s3.cnt
    have M := hide (MD.out i1 j1 k1 x3 w3 s3.row k3 (by omega) (by omega) (by omega))
    have S3 := hide (S2.out.trans s3)
    clear s3 k3 M3
    go_wp2_with fail
    refine M.out.mono ?_
    rintro e w5 ⟨r, rfl, h5, s5⟩
    obtain ⟨x5, k5⟩ := s5.cnt
    have m5 := k5.cell
    have HR : Hid (a ≤ r ∧ r < b) := by
      show _ ∧ _
      omega
    have S5 : Hid (SRow w5 g c d ∧ Below w.heap.size w w5) := ⟨s5.row, fin.out _ (S3.out.trans s5)⟩
    clear h5 s5 k5 M
    by_cases z0 : x5 = 0
    · subst z0
      go_wp2
      refine bodyPost_ret (results_tmp2 rfl _ _ _) rfl ?_
      exact ⟨r, 1, rfl, HR.out.1, HR.out.2, by decide, S5.out.1, S5.out.2⟩
    · have z1 : (x5 == 0) = false := by rw [beq_eq_false_iff_ne]; exact z0
      by_cases z2 : x5 = 12
      · subst z2
        go_wp2
        refine bodyPost_ret (results_tmp2 rfl _ _ _) rfl ?_
        exact ⟨r, 2, rfl, HR.out.1, HR.out.2, by decide, S5.out.1, S5.out.2⟩
      · have z3 : (x5 == 12) = false := by rw [beq_eq_false_iff_ne]; exact z2
        go_wp2
        refine bodyPost_ret (results_tmp2 rfl _ _ _) rfl ?_
        exact ⟨r, 0, rfl, HR.out.1, HR.out.2, by decide, S5.out.1, S5.out.2⟩
  · have b4 : ¬ (50 : Int) ≤ (l : Int) := by omega
    obtain ⟨x0, k0⟩ := S0.out.cnt
    have M := hide (MD.out i j k x0 _ S0.out.row k0 (by omega) (by omega) (by omega))
    clear k0
    go_enter Try.func64, Try.ntmps64
    go_wp2_with fail
    refine M.out.mono ?_
    rintro e w5 ⟨r, rfl, h5, s5⟩
    obtain ⟨x5, k5⟩ := s5.cnt
    have m5 := k5.cell
    have HR : Hid (a ≤ r ∧ r < b) := by
      show _ ∧ _
      omega
    have S5 : Hid (SRow w5 g c d ∧ Below w.heap.size w w5) := ⟨s5.row, fin.out _ (S0.out.trans s5)⟩
    clear h5 s5 k5 M
    by_cases z0 : x5 = 0
    · subst z0
      go_wp2
      refine bodyPost_ret (results_tmp2 rfl _ _ _) rfl ?_
      exact ⟨r, 1, rfl, HR.out.1, HR.out.2, by decide, S5.out.1, S5.out.2⟩
    · have z1 : (x5 == 0) = false := by rw [beq_eq_false_iff_ne]; exact z0
      by_cases z2 : x5 = 12
      · subst z2
        go_wp2
        refine bodyPost_ret (results_tmp2 rfl _ _ _) rfl ?_
        exact ⟨r, 2, rfl, HR.out.1, HR.out.2, by decide, S5.out.1, S5.out.2⟩
      · have z3 : (x5 == 12) = false := by rw [beq_eq_false_iff_ne]; exact z2
        go_wp2
        refine bodyPost_ret (results_tmp2 rfl _ _ _) rfl ?_
        exact ⟨r, 0, rfl, HR.out.1, HR.out.2, by decide, S5.out.1, S5.out.2⟩
end Go.Proofs.Ytlhiikibbppodaa
