/-
  A row of words of the call's own that is put in order: what the walks of the library's sort are told of it, and what an exchange of two words makes of it. The library's order of two words; a row's part turned round: contracts, for every world. The library's sort of few words, one by one: its contract, for every world. The library's choice of a pivot: which of the places it is; nothing but a new count turns. The library's choice of a pivot: a place of the part; nothing that was there turns. The library's sort by a heap: its two functions, for every world. The library's two partitions: contracts, for every world. The library's partition: its contract, for every world. The library's sort of what is in order but for few words: its contract, for every world. The library's scattering of some words: they are exchanged within the part, whatever the drawn places are. The library's sort of words: its contract, for every world: the part is put in order, nothing else turns. The keys of a map of words, told in some order, each once; collected in a new row; put in order: contracts, for every world. What an iterator over a map's keys tells, collected in a new row: contracts, for every world. A new row of words put in order; the words of a map in order: contracts, for every world.
  Conditions: as each theorem says; the row shows its words; the part lies within; the row shows its words; the part lies within and has more than 12; the row shows its words; the part lies within; the row shows its words; the part and the pivot lie within; the row shows its words; the part lies within; the row shows its words; the part lies within and has more than 12; the row shows its words; the part lies within; nothing in it is less than what stands ahead of it; the map reads as a set of words, of at most 2^20; the row is the call's own; the map reads as a set of words, of at most 2^20.
-/
import Derived.Test.YtadcaonkmncgoaaGreatKmvAz
import Derived.Test.YtadcaonkmncgoaaGreatChK
import Derived.BigQuiet
import Derived.Deep.QuietTactic
import Derived.Sort.LotA
import Derived.Sort.LotB
import Derived.Sort.LotC
import Derived.Sort.LotD3
import Derived.Test.YtadcaonkmncgoaaGreatRows
import Derived.RegionTactic
import Derived.BigRegion
import Derived.WalkMore
import Derived.RangeFuncBox
import Derived.Deep.DeepCutAuto
import Derived.Test.YtadcaonkmncgoaaGreatShelf
import Derived.Lib.ItoaNum
import Derived.Maps.OwnSet
import Derived.Maps.RangeWalk
import Derived.Sort.MapsRangeIn
import Derived.RangeFuncSeq
import Derived.RangeFuncNested
import Derived.RangeFuncBound
import Derived.RangeFuncCalls
import Derived.RangeFuncLeaves
import Derived.Shelf.AbstractIn
import Derived.WalkKit
import Derived.OwnWalkIn
import Derived.TacticsInMore
import Derived.RegionIn
import Derived.LoopNIn
import Derived.LoopIn
import Derived.Maps.AppendAt
namespace Go.Proofs.YtadcaonkmncgoaaGreat
open Go.RowKit
set_option maxRecDepth 20000

/-- Block g holds c cells, of which the first show the words d. -/
structure SRow (w : World) (g c : Nat) (d : Array Int) : Prop where
  fits : d.size ≤ c
  room : d.size ≤ 281474976710656
  heap : ∃ cur, w.heap[g]? = some (.cells cur 24 (0, 0)) ∧ cur.size = c ∧ ∀ i, i < d.size → cur[i]? = some (.int .u64 d[i]!)

section
variable {w w' : World} {g c : Nat} {d : Array Int}
theorem SRow.lt (h : SRow w g c d) : g < w.heap.size := by
  obtain ⟨cur, h1, _⟩ := h.heap
  exact (Array.getElem?_eq_some_iff.1 h1).1
theorem SRow.cell (h : SRow w g c d) {i : Nat} (hi : i < d.size) : w.cell? ⟨g, i, none⟩ = some (.int .u64 d[i]!) := by
  obtain ⟨cur, h1, _, h3⟩ := h.heap
  rw [cell_of_row w g i _ _ (0, 0) h1]
  exact h3 i hi
theorem SRow.frozen (h : SRow w g c d) (i : Nat) : w.frozen? ⟨g, i, none⟩ = false := by
  obtain ⟨cur, h1, _⟩ := h.heap
  exact frozen_of_row w g i _ _ h1
theorem SRow.block (h : SRow w g c d) (e : w'.heap[g]? = w.heap[g]?) : SRow w' g c d := by
  obtain ⟨cur, h1, h2⟩ := h.heap
  exact ⟨h.fits, h.room, cur, e.trans h1, h2⟩
theorem SRow.drew (h : SRow w g c d) : SRow w.drew g c d := h.block rfl
theorem SRow.drewN (h : SRow w g c d) (q : Nat) : SRow (w.drewN q) g c d := h.block rfl
theorem SRow.ch {S : Nat → Prop} (h : SRow w g c d) (k : Ch S w w') (hn : ¬ S g) : SRow w' g c d := h.block (k.block g h.lt hn)
theorem SRow.alloc (h : SRow w g c d) (o : Obj) : SRow (w.alloc o) g c d := h.block (Below.heap_alloc w o g h.lt)
theorem SRow.set (h : SRow w g c d) {i : Nat} (hi : i < d.size) (x : Int) : SRow (w.setCell ⟨g, i, none⟩ (.int .u64 x)) g c (d.setIfInBounds i x) := by
  obtain ⟨cur, h1, h2, h3⟩ := h.heap
  refine ⟨by simpa using h.fits, by simpa using h.room, cur.setIfInBounds i (.int .u64 x), heap_setCell_same w g i _ _ _ h1, by simpa using h2, fun k hk => ?_⟩
  have hk' : k < d.size := by simpa using hk
  by_cases e : i = k
  · subst e
    have hic : i < cur.size := by have := h.fits; omega
    rw [Array.getElem?_setIfInBounds, if_pos rfl, if_pos hic]
    simp [hi]
  · rw [Array.getElem?_setIfInBounds, if_neg e, h3 k hk']
    simp [getElem!_pos, hk', e]
/-- Two words exchanged, the left one written first. -/
theorem SRow.swap (h : SRow w g c d) {i j : Nat} (hi : i < d.size) (hj : j < d.size) :
    SRow ((w.setCell ⟨g, i, none⟩ (.int .u64 d[j]!)).setCell ⟨g, j, none⟩ (.int .u64 d[i]!)) g c (Go.Sort.swp d i j) := by
  unfold Go.Sort.swp
  exact (h.set hi _).set (by simpa using hj) _
theorem Ch.step {S : Nat → Prop} {a b : World} (h : Ch S a b) {w' : World} (k : Ch S b w') : Ch S a w' := h.trans k
theorem Ch.drew {S : Nat → Prop} {a b : World} (h : Ch S a b) : Ch S a b.drew := ⟨h.os, h.tape, h.output, h.size, h.block⟩
theorem Ch.drewN {S : Nat → Prop} {a b : World} (h : Ch S a b) (q : Nat) : Ch S a (b.drewN q) := ⟨h.os, h.tape, h.output, h.size, h.block⟩
theorem ch_swap (h : Ch (fun k => k = g) w w') (i j : Nat) (u v : Value) : Ch (fun k => k = g) w ((w'.setCell ⟨g, i, none⟩ u).setCell ⟨g, j, none⟩ v) := h.trans ((ch_set w' g i u).trans (ch_set _ g j v))
/-- What a walk wants of an exchange: both words, both cells free, the second one there behind the first store. -/
theorem SRow.two (h : SRow w g c d) {i j : Nat} (hi : i < d.size) (hj : j < d.size) :
    w.cell? ⟨g, i, none⟩ = some (.int .u64 d[i]!) ∧ w.cell? ⟨g, j, none⟩ = some (.int .u64 d[j]!) ∧ w.frozen? ⟨g, i, none⟩ = false ∧ w.frozen? ⟨g, j, none⟩ = false ∧ ∃ v, (w.setCell ⟨g, i, none⟩ (.int .u64 d[j]!)).cell? ⟨g, j, none⟩ = some v :=
  ⟨h.cell hi, h.cell hj, h.frozen i, h.frozen j, cell?_setCell_some (h.cell hj)⟩
theorem size_swp (d : Array Int) (i j : Nat) : (Go.Sort.swp d i j).size = d.size := Go.Sort.size_swp d i j
end
end Go.Proofs.YtadcaonkmncgoaaGreat

namespace Go.Proofs.YtadcaonkmncgoaaGreat
open Go.RowKit

abbrev ltI : Int → Int → Bool := Go.Sort.ltInt

theorem sisnan_any (x : Int) (w : World) : Calls Tryz.prog 119 #[.int .u64 x] w fun e w' => e = .returned (.bool false) ∧ w' = w := by
  go_enter Tryz.func119, Tryz.ntmps119
  go_wp2
  go_ret
  simp
theorem sless_any (x y : Int) (w : World) : Calls Tryz.prog 110 #[.int .u64 x, .int .u64 y] w fun e w' => e = .returned (.bool (ltI x y)) ∧ w' = w := by
  have N := hide (sisnan_any x w)
  go_enter Tryz.func110, Tryz.ntmps110
  go_wp2_with fail
  refine N.out.mono ?_
  rintro e w' ⟨rfl, rfl⟩
  go_wp2
  go_ret
  exact ⟨rfl, rfl⟩

/-- A call that turns nothing, within a region behind another one that drew. -/
theorem quiet_at {P : Program} {f : Nat} {args : Array Value} {v : Value} {wr : World} {q x : Nat} (h : ∀ w, Calls P f args w (fun e w' => e = .returned v ∧ w' = w)) : Calls P f args (wr.drewN (q + x)) fun e w' => e = .returned v ∧ ∃ n, w' = wr.drewN (q + n) :=
  (h _).mono (fun _ _ k => ⟨k.1, x, k.2⟩)

/-- What the sort's functions leave: the row, turned within, and nothing else. -/
def Sorts (w : World) (g c : Nat) (P : Array Int → Prop) (w' : World) : Prop := ∃ d, P d ∧ SRow w' g c d ∧ Ch (fun k => k = g) w w'

set_option maxHeartbeats 2000000 in
theorem reverse_any (g c cp : Nat) (d : Array Int) (a b : Nat) (w : World) (h : SRow w g c d) (hab : a < b) (hb : b ≤ d.size) :
    Calls Tryz.prog 108 #[.slice (some ⟨g, 0, none⟩) d.size cp, .int .i64 a, .int .i64 b] w fun e w' => e = .returned (.tuple #[]) ∧ Sorts w g c (Go.Sort.PermIn a b d) w' := by
  have H := hide h
  have hr := h.room
  have HB := hide hb
  obtain ⟨n, HN⟩ : ∃ n, Hid (d.size = n) := ⟨_, rfl⟩
  rw [HN.out] at hb hr ⊢
  clear h
  go_enter Tryz.func108, Tryz.ntmps108
  go_wp2
  go_loopw [6, 7] (fun x6 x7 wr => ∃ (i j : Nat) (d' : Array Int), x6 = .int .i64 i ∧ x7 = .int .i64 j ∧ a ≤ i ∧ j < b ∧ i ≤ b ∧ Hid (Go.Sort.PermIn a b d d') ∧ Hid (SRow wr g c d') ∧ Hid (Ch (fun k => k = g) w wr)) (fun _ x7 _ => (intOf x7).toNat)
  case atStart => exact ⟨a, b - 1, d, rfl, by go_num, by omega, by omega, by omega, Go.Sort.permIn_refl _ _ _, H.out, Ch.refl _ _⟩
  case round =>
    obtain ⟨i, j, d', rfl, rfl, hi, hj, hib, HP, HS, HC⟩ := hrel
    by_cases hlt : i < j
    · have HD : Hid (d'.size = n) := HP.out.1.trans HN.out
      have HX : Hid (Go.Sort.PermIn a b d (Go.Sort.swp d' i j)) := Go.Sort.permIn_trans _ _ _ _ _ HP.out (Go.Sort.swp_permIn _ _ _ _ _ hi (by omega) (by omega) hj (by rw [HD.out]; exact hb))
      have HSw := hide (HS.out.swap (i := i) (j := j) (by rw [HD.out]; omega) (by rw [HD.out]; omega))
      have HCw := hide (ch_swap HC.out i j (.int .u64 d'[j]!) (.int .u64 d'[i]!))
      obtain ⟨c1, c2, f1, f2, v, c3⟩ := HS.out.two (i := i) (j := j) (by rw [HD.out]; omega) (by rw [HD.out]; omega)
      generalize d'[i]! = x at *
      generalize d'[j]! = y at *
      have i1 : (i : Int) < (j : Int) := by omega
      have i2 : (i : Int) < (n : Int) := by omega
      have i3 : (j : Int) < (n : Int) := by omega
      have i4 : (0 : Int) ≤ (i : Int) := by omega
      have i5 : (0 : Int) ≤ (j : Int) := by omega
      clear HP HS HC HD
      go_wp2
      go_region
      go_wp2
      go_roundw
      case rel => exact ⟨i + 1, j - 1, _, by go_num, by go_num, by omega, by omega, by omega, HX.out, HSw.out.drew, HCw.out.drew⟩
      case measure => simp [intOf]; omega
    · have i1 : ¬ (i : Int) < (j : Int) := by omega
      go_wp2
      go_end0
      exact ⟨rfl, d', HP.out, HS.out, HC.out⟩
end Go.Proofs.YtadcaonkmncgoaaGreat

namespace Go.Proofs.YtadcaonkmncgoaaGreat
open Go.RowKit

theorem insInner_on {a k : Nat} {d : Array Int} (h : a < k + 1) (hl : ltI d[k + 1]! d[k]! = true) : Go.Sort.insInner ltI a (k + 1) d = Go.Sort.insInner ltI a k (Go.Sort.swp d (k + 1) k) := by
  rw [Go.Sort.insInner, if_pos (by simp [h, hl])]
theorem insInner_off {a k : Nat} {d : Array Int} (hl : ltI d[k + 1]! d[k]! = false) : Go.Sort.insInner ltI a (k + 1) d = d := by
  rw [Go.Sort.insInner, if_neg (by simp [hl])]
theorem insInner_end {a k : Nat} {d : Array Int} (h : k ≤ a) : Go.Sort.insInner ltI a k d = d := by
  cases k with
  | zero => rfl
  | succ k => rw [Go.Sort.insInner, if_neg (by simp; omega)]

set_option maxHeartbeats 4000000 in
theorem insertion_any (g c cp : Nat) (d : Array Int) (a b : Nat) (w : World) (h : SRow w g c d) (hab : a ≤ b) (hb : b ≤ d.size) :
    Calls Tryz.prog 104 #[.slice (some ⟨g, 0, none⟩) d.size cp, .int .i64 a, .int .i64 b] w fun e w' => e = .returned (.tuple #[]) ∧ SRow w' g c (Go.Sort.insertionSort ltI d a b) ∧ Ch (fun k => k = g) w w' := by
  have H := hide h
  have hr := h.room
  have HB := hide hb
  obtain ⟨n, HN⟩ : ∃ n, Hid (d.size = n) := ⟨_, rfl⟩
  obtain ⟨D, HDD⟩ : ∃ D, Hid (Go.Sort.insertionSort ltI d a b = D) := ⟨_, rfl⟩
  rw [HN.out] at hb hr ⊢
  rw [HDD.out]
  clear h
  go_enter Tryz.func104, Tryz.ntmps104
  go_wp2
  go_loopw [6] (fun x6 wr => ∃ (i : Nat) (d' : Array Int), x6 = .int .i64 i ∧ a + 1 ≤ i ∧ i ≤ b + 1 ∧ Hid (Go.Sort.insOuter ltI a b i d' = D) ∧ Hid (d'.size = n) ∧ Hid (SRow wr g c d') ∧ Hid (Ch (fun k => k = g) w wr)) (fun x6 _ => b + 1 - (intOf x6).toNat)
  case atStart => exact ⟨a + 1, d, by go_num, by omega, by omega, HDD.out, HN.out, H.out, Ch.refl _ _⟩
  case round =>
    obtain ⟨i, d', rfl, hai, hib, HE, HD, HS, HC⟩ := hrel
    by_cases hlt : i < b
    · have i1 : (i : Int) < (b : Int) := by omega
      go_wp2
      go_loopw [7] (fun x7 wr2 => ∃ (j : Nat) (d2 : Array Int), x7 = .int .i64 j ∧ j ≤ i ∧ Hid (Go.Sort.insInner ltI a j d2 = Go.Sort.insInner ltI a i d') ∧ Hid (d2.size = n) ∧ Hid (SRow wr2 g c d2) ∧ Hid (Ch (fun k => k = g) w wr2)) (fun x7 _ => (intOf x7).toNat)
      case atStart => exact ⟨i, d', rfl, Nat.le_refl _, rfl, HD.out, HS.out, HC.out⟩
      case round =>
        obtain ⟨j, d2, rfl, hji, HE2, HD2, HS2, HC2⟩ := hrel
        by_cases hja : a < j
        · obtain ⟨k, HK⟩ : ∃ k, Hid (j = k + 1) := ⟨j - 1, by show _ = _; omega⟩
          have hk := HK.out
          have HSw := hide (fun q => (HS2.out.drewN q).swap (i := j) (j := k) (by rw [HD2.out]; omega) (by rw [HD2.out]; omega))
          have HCw := hide (fun q => ch_swap (HC2.out.drewN q) j k (.int .u64 d2[k]!) (.int .u64 d2[j]!))
          obtain ⟨c1, c2, f1, f2, v, c3⟩ := HS2.out.two (i := j) (j := k) (by rw [HD2.out]; omega) (by rw [HD2.out]; omega)
          have HOn : Hid (ltI d2[j]! d2[k]! = true → Go.Sort.insInner ltI a j d2 = Go.Sort.insInner ltI a k (Go.Sort.swp d2 j k)) := by subst hk; exact fun hl => insInner_on (a := a) (k := k) (d := d2) hja hl
          have HOff : Hid (ltI d2[j]! d2[k]! = false → Go.Sort.insInner ltI a j d2 = d2) := by subst hk; exact fun hl => insInner_off (a := a) (k := k) (d := d2) hl
          generalize d2[j]! = x at *
          generalize d2[k]! = y at *
          have L := hide (sless_any x y)
          have i2 : (j : Int) < (n : Int) := by omega
          have i3 : (k : Int) < (n : Int) := by omega
          have i4 : (0 : Int) ≤ (k : Int) := by omega
          have i5 : (a : Int) < (j : Int) := by omega
          have i6 : (0 : Int) ≤ (j : Int) := by omega
          have e1 : (j : Int) - 1 = (k : Int) := by omega
          have e2 : IntKind.i64.wrap (k : Int) = (k : Int) := by rw [IntKind.wrap_i64]; omega
          clear hk
          by_cases hl : ltI x y = true
          · have HX : Hid (Go.Sort.insInner ltI a k (Go.Sort.swp d2 j k) = Go.Sort.insInner ltI a i d') := (HOn.out hl).symm.trans HE2.out
            have HSz : Hid ((Go.Sort.swp d2 j k).size = n) := (size_swp _ _ _).trans HD2.out
            rw [hl] at L
            clear HE2 HD2 HS2 HC2 HOn HOff hl
            go_wp2
            go_big_quiet ((go_at_call 110; exact Calls.quiet_of_same (L.out _)))
            go_wp2
            go_region
            go_wp2
            go_roundw
            case rel => exact ⟨k, _, by go_num, by have := HK.out; omega, HX.out, HSz.out, HSw.out _, HCw.out _⟩
            case measure => have := HK.out; simp [intOf]; omega
          · have hl' : ltI x y = false := by simpa using hl
            rw [hl'] at L
            have HX : Hid (d2 = Go.Sort.insInner ltI a i d') := (HOff.out hl').symm.trans HE2.out
            clear HE2 HOn HOff hl hl' HSw HCw
            go_wp2
            go_big_quiet ((go_at_call 110; exact Calls.quiet_of_same (L.out _)))
            go_wp2
            go_roundw
            case rel => exact ⟨i + 1, d2, by go_num, by omega, by omega, by have := HE.out; rw [Go.Sort.insOuter, if_pos hlt, ← HX.out] at this; exact this, HD2.out, HS2.out.drewN _, HC2.out.drewN _⟩
            case measure => simp [intOf]; omega
        · have i5 : decide ((a : Int) < (j : Int)) = false := decide_eq_false (by omega)
          have i6 : ¬ (a : Int) < (j : Int) := by omega
          have i7 : decide (a < j) = false := decide_eq_false (by omega)
          have HX : Hid (d2 = Go.Sort.insInner ltI a i d') := (insInner_end (by omega)).symm.trans HE2.out
          go_wp2
          go_quiet (fail)
          go_wp2
          go_roundw
          case rel => exact ⟨i + 1, d2, by go_num, by omega, by omega, by have := HE.out; rw [Go.Sort.insOuter, if_pos hlt, ← HX.out] at this; exact this, HD2.out, HS2.out.drewN _, HC2.out.drewN _⟩
          case measure => simp [intOf]; omega
    · have i1 : ¬ (i : Int) < (b : Int) := by omega
      have HX : Hid (d' = D) := by have := HE.out; rwa [Go.Sort.insOuter, if_neg hlt] at this
      go_wp2
      go_end0
      exact ⟨rfl, HX.out ▸ HS.out, HC.out⟩
end Go.Proofs.YtadcaonkmncgoaaGreat

namespace Go.Proofs.YtadcaonkmncgoaaGreat
open Go.RowKit

/-- The count that the choice keeps: a block of its own, of an int. -/
def Cnt (w : World) (q : Nat) (x : Int) : Prop := w.heap[q]? = some (.cells #[.int .i64 x] 3 (0, 0))
theorem Cnt.cell {w : World} {q : Nat} {x : Int} (h : Cnt w q x) : w.cell? ⟨q, 0, none⟩ = some (.int .i64 x) := by
  rw [cell_of_row w q 0 _ _ (0, 0) h]; rfl
theorem Cnt.frozen {w : World} {q : Nat} {x : Int} (h : Cnt w q x) : w.frozen? ⟨q, 0, none⟩ = false := frozen_of_row w q 0 _ _ h
theorem Cnt.lt {w : World} {q : Nat} {x : Int} (h : Cnt w q x) : q < w.heap.size := (Array.getElem?_eq_some_iff.1 h).1
theorem Cnt.set {w : World} {q : Nat} {x : Int} (h : Cnt w q x) (y : Int) : Cnt (w.setCell ⟨q, 0, none⟩ (.int .i64 y)) q y := by
  unfold Cnt
  rw [heap_setCell_same w q 0 _ _ _ h]
  rfl
theorem Cnt.ne {w : World} {q g c : Nat} {x : Int} {d : Array Int} (h : Cnt w q x) (k : SRow w g c d) : g ≠ q := by
  rintro rfl
  obtain ⟨cur, h1, _⟩ := k.heap
  rw [h] at h1
  simp at h1

/-- What the choice's functions leave: the row as it was, the count at some number. -/
structure Still (w w' : World) (g c q : Nat) (d : Array Int) : Prop where
  row : SRow w' g c d
  cnt : ∃ x, Cnt w' q x
  ch : Ch (fun k => k = q) w w'
theorem Still.refl {w : World} {g c q : Nat} {d : Array Int} {x : Int} (h : SRow w g c d) (k : Cnt w q x) : Still w w g c q d := ⟨h, ⟨x, k⟩, Ch.refl _ _⟩
theorem Still.trans {w w1 w2 : World} {g c q : Nat} {d : Array Int} (h : Still w w1 g c q d) (k : Still w1 w2 g c q d) : Still w w2 g c q d := ⟨k.row, k.cnt, h.ch.trans k.ch⟩

set_option maxHeartbeats 2000000 in
theorem order2_any (g c cp q : Nat) (d : Array Int) (a b : Nat) (x : Int) (w : World) (h : SRow w g c d) (hq : Cnt w q x) (ha : a < d.size) (hb : b < d.size) :
    Calls Tryz.prog 120 #[.slice (some ⟨g, 0, none⟩) d.size cp, .int .i64 a, .int .i64 b, .pointer (some ⟨q, 0, none⟩)] w fun e w' => (e = .returned (.tuple #[.int .i64 a, .int .i64 b]) ∨ e = .returned (.tuple #[.int .i64 b, .int .i64 a])) ∧ Still w w' g c q d := by
  have H := hide h
  have HQ := hide hq
  have hr := h.room
  have c1 := h.cell ha
  have c2 := h.cell hb
  have m1 := hq.cell
  have m2 := hq.frozen
  have HNe := hide (hq.ne h)
  obtain ⟨n, HN⟩ : ∃ n, Hid (d.size = n) := ⟨_, rfl⟩
  rw [HN.out] at ha hb hr ⊢
  generalize d[a]! = y at *
  generalize d[b]! = z at *
  have i1 : (a : Int) < (n : Int) := by omega
  have i2 : (b : Int) < (n : Int) := by omega
  have i3 : (0 : Int) ≤ (a : Int) := by omega
  have i4 : (0 : Int) ≤ (b : Int) := by omega
  have L := hide (sless_any z y)
  clear h hq
  by_cases hl : ltI z y = true
  · rw [hl] at L
    clear hl
    go_enter Tryz.func120, Tryz.ntmps120
    go_wp2
    go_big_quiet ((go_at_call 110; exact Calls.quiet_of_same (L.out _)))
    go_wp2
    refine bodyPost_ret (results_tmp2 rfl _ _ _) rfl ?_
    refine ⟨Or.inr rfl, ?_, ?_, ?_⟩
    · refine H.out.block ?_
      rw [Below.heap_setCell _ _ _ _ HNe.out]
      rfl
    · exact ⟨_, Cnt.set (w := w.drewN _) HQ.out _⟩
    · exact ((Ch.refl _ w).drewN _).trans (ch_set _ q 0 _)
  · have hl' : ltI z y = false := by simpa using hl
    rw [hl'] at L
    clear hl hl'
    go_enter Tryz.func120, Tryz.ntmps120
    go_wp2
    go_big_quiet ((go_at_call 110; exact Calls.quiet_of_same (L.out _)))
    go_wp2
    refine bodyPost_ret (results_tmp2 rfl _ _ _) rfl ?_
    exact ⟨Or.inl rfl, H.out.drewN _, ⟨x, HQ.out⟩, (Ch.refl _ w).drewN _⟩

theorem order2_two {P : Program} {f : Nat} {args : Array Value} {w : World} {a b n : Nat} {R : World → Prop} (ha : a < n) (hb : b < n)
    (h : Calls P f args w fun e w' => (e = .returned (.tuple #[.int .i64 a, .int .i64 b]) ∨ e = .returned (.tuple #[.int .i64 b, .int .i64 a])) ∧ R w') :
    Calls P f args w fun e w' => ∃ x y : Nat, e = .returned (.tuple #[.int .i64 x, .int .i64 y]) ∧ ((x = a ∧ y = b) ∨ (x = b ∧ y = a)) ∧ x < n ∧ y < n ∧ R w' := by
  refine h.mono ?_
  rintro e w' ⟨rfl | rfl, h2⟩
  · exact ⟨a, b, rfl, Or.inl ⟨rfl, rfl⟩, ha, hb, h2⟩
  · exact ⟨b, a, rfl, Or.inr ⟨rfl, rfl⟩, hb, ha, h2⟩

set_option maxHeartbeats 2000000 in
theorem median_any (g c cp q : Nat) (d : Array Int) (a b m : Nat) (x : Int) (w : World) (h : SRow w g c d) (hq : Cnt w q x) (ha : a < d.size) (hb : b < d.size) (hm : m < d.size) :
    Calls Tryz.prog 118 #[.slice (some ⟨g, 0, none⟩) d.size cp, .int .i64 a, .int .i64 b, .int .i64 m, .pointer (some ⟨q, 0, none⟩)] w fun e w' => ∃ r : Nat, e = .returned (.int .i64 r) ∧ (r = a ∨ r = b ∨ r = m) ∧ Still w w' g c q d := by
  have O := hide (fun (a b : Nat) (ha : a < d.size) (hb : b < d.size) (x : Int) (w : World) (h : SRow w g c d) (hq : Cnt w q x) => order2_two ha hb (order2_any g c cp q d a b x w h hq ha hb))
  have O1 := hide (O.out a b ha hb x w h hq)
  have HM := hide hm
  obtain ⟨n, HN⟩ : ∃ n, Hid (d.size = n) := ⟨_, rfl⟩
  rw [HN.out] at O1 ⊢
  clear h hq ha hb hm
  go_enter Tryz.func118, Tryz.ntmps118
  go_wp2_with fail
  refine O1.out.mono ?_
  rintro e w1 ⟨a1, b1, rfl, h1, ha1, hb1, s1⟩
  obtain ⟨x1, k1⟩ := s1.cnt
  have O2 := hide (O.out b1 m (by rw [HN.out]; exact hb1) HM.out x1 w1 s1.row k1)
  rw [HN.out] at O2
  have H1 := hide h1
  have S1 := hide s1
  have A1 := hide ha1
  clear h1 s1 O1 ha1 hb1 k1
  go_wp2_with fail
  refine O2.out.mono ?_
  rintro e w2 ⟨b2, m2, rfl, h2, hb2, hm2, s2⟩
  obtain ⟨x2, k2⟩ := s2.cnt
  have O3 := hide (O.out a1 b2 (by rw [HN.out]; exact A1.out) (by rw [HN.out]; exact hb2) x2 w2 s2.row k2)
  rw [HN.out] at O3
  have H2 := hide h2
  have S2 := hide (S1.out.trans s2)
  clear h2 s2 O2 hb2 hm2 k2
  go_wp2_with fail
  refine O3.out.mono ?_
  rintro e w3 ⟨a3, b3, rfl, h3, ha3, hb3, s3⟩
  have H3 := hide h3
  have S3 := hide (S2.out.trans s3)
  clear h3 s3 O3 ha3 hb3
  go_wp2
  go_ret
  refine ⟨b3, rfl, ?_, S3.out⟩
  have := H1.out; have := H2.out; have := H3.out
  omega

theorem medadj_any (g c cp q : Nat) (d : Array Int) (a : Nat) (x : Int) (w : World) (h : SRow w g c d) (hq : Cnt w q x) (ha : 0 < a) (hb : a + 1 < d.size) :
    Calls Tryz.prog 117 #[.slice (some ⟨g, 0, none⟩) d.size cp, .int .i64 a, .pointer (some ⟨q, 0, none⟩)] w fun e w' => ∃ r : Nat, e = .returned (.int .i64 r) ∧ a - 1 ≤ r ∧ r ≤ a + 1 ∧ Still w w' g c q d := by
  have hr := h.room
  have M := hide (median_any g c cp q d (a - 1) a (a + 1) x w h hq (by omega) (by omega) hb)
  obtain ⟨n, HN⟩ : ∃ n, Hid (d.size = n) := ⟨_, rfl⟩
  rw [HN.out] at M hb hr ⊢
  obtain ⟨a0, HA⟩ : ∃ a0, Hid (a - 1 = a0) := ⟨_, rfl⟩
  obtain ⟨a2, HB⟩ : ∃ a2, Hid (a + 1 = a2) := ⟨_, rfl⟩
  rw [HA.out, HB.out] at M
  have h1 := HA.out
  have h2 := HB.out
  have e1 : (a : Int) - 1 = (a0 : Int) := by omega
  have e2 : (a : Int) + 1 = (a2 : Int) := by omega
  have i1 : (a0 : Int) < (n : Int) := by omega
  have i2 : (a2 : Int) < (n : Int) := by omega
  clear h hq h1 h2
  go_enter Tryz.func117, Tryz.ntmps117
  go_wp2_with fail
  refine M.out.mono ?_
  rintro e w1 ⟨r, rfl, h1, s1⟩
  have H1 := hide h1
  have S1 := hide s1
  clear h1 s1 M
  go_wp2
  go_ret
  have := H1.out; have := HA.out; have := HB.out
  exact ⟨r, rfl, by omega, by omega, S1.out⟩
end Go.Proofs.YtadcaonkmncgoaaGreat

namespace Go.Proofs.YtadcaonkmncgoaaGreat
open Go.RowKit

theorem cnt_made (w : World) : Cnt (w.alloc (.cells #[.int .i64 0] 3)) w.heap.size 0 := World.alloc_heap_new w _

set_option maxRecDepth 20000 in
set_option maxHeartbeats 8000000 in
theorem pivot_any (g c cp : Nat) (d : Array Int) (a b : Nat) (w : World) (h : SRow w g c d) (hab : a + 12 < b) (hb : b ≤ d.size) :
    Calls Tryz.prog 107 #[.slice (some ⟨g, 0, none⟩) d.size cp, .int .i64 a, .int .i64 b] w fun e w' => ∃ (r : Nat) (t : Int), e = .returned (.tuple #[.int .i64 r, .int .i64 t]) ∧ a ≤ r ∧ r < b ∧ (t = 0 ∨ t = 1 ∨ t = 2) ∧ SRow w' g c d ∧ Below w.heap.size w w' := by
  have hr := h.room
  have S0 := hide (Still.refl (h.alloc (.cells #[.int .i64 0] 3)) (cnt_made w))
  have fin : Hid (∀ W, Still (w.alloc (.cells #[.int .i64 0] 3)) W g c w.heap.size d → Below w.heap.size w W) := by
    intro W s
    refine (bel_al (Below.refl _ _) (Nat.le_refl _) _).trans (s.ch.below (by simp) (fun k hk e => by omega))
  have MA := hide (fun (i : Nat) (x : Int) (W : World) (s : SRow W g c d) (q : Cnt W w.heap.size x) (h0 : 0 < i) (h1 : i + 1 < d.size) => medadj_any g c cp w.heap.size d i x W s q h0 h1)
  have MD := hide (fun (i j k : Nat) (x : Int) (W : World) (s : SRow W g c d) (q : Cnt W w.heap.size x) (h0 : i < d.size) (h1 : j < d.size) (h2 : k < d.size) => median_any g c cp w.heap.size d i j k x W s q h0 h1 h2)
  obtain ⟨n, HN⟩ : ∃ n, Hid (d.size = n) := ⟨_, rfl⟩
  rw [HN.out] at hb hr MA MD ⊢
  obtain ⟨l, HL⟩ : ∃ l, Hid (b - a = l) := ⟨_, rfl⟩
  obtain ⟨m, HM⟩ : ∃ m, Hid (l / 4 = m) := ⟨_, rfl⟩
  obtain ⟨i, HI⟩ : ∃ i, Hid (a + m = i) := ⟨_, rfl⟩
  obtain ⟨j, HJ⟩ : ∃ j, Hid (a + m * 2 = j) := ⟨_, rfl⟩
  obtain ⟨k, HK⟩ : ∃ k, Hid (a + m * 3 = k) := ⟨_, rfl⟩
  have hl := HL.out
  have hm := HM.out
  have hi := HI.out
  have hj := HJ.out
  have hk := HK.out
  have e1 : (b : Int) - (a : Int) = (l : Int) := by omega
  have e2 : Int.tdiv (l : Int) 4 = (m : Int) := by rw [Int.tdiv_eq_ediv_of_nonneg (by omega)]; omega
  have e3 : (a : Int) + (m : Int) = (i : Int) := by omega
  have e4 : (a : Int) + (m : Int) * 2 = (j : Int) := by omega
  have e5 : (a : Int) + (m : Int) * 3 = (k : Int) := by omega
  have b1 : (8 : Int) ≤ (l : Int) := by omega
  have b2 : (l : Int) ≤ (n : Int) := by omega
  have b3 : (m : Int) ≤ (n : Int) := by omega
  have q1 : a + 1 ≤ i := by omega
  have q2 : i + 2 ≤ j := by omega
  have q3 : j + 2 ≤ k := by omega
  have q4 : k + 1 < b := by omega
  clear h hl hm hi hj hk
  by_cases h50 : 50 ≤ l
  · have b4 : (50 : Int) ≤ (l : Int) := by omega
    obtain ⟨x0, k0⟩ := S0.out.cnt
    have M1 := hide (MA.out i x0 _ S0.out.row k0 (by omega) (by omega))
    clear k0
    go_enter Tryz.func107, Tryz.ntmps107
    go_wp2_with fail
    refine M1.out.mono ?_
    rintro e w1 ⟨i1, rfl, h1, h1', s1⟩
    obtain ⟨x1, k1⟩ := s1.cnt
    have M2 := hide (MA.out j x1 w1 s1.row k1 (by omega) (by omega))
    have S1 := hide (S0.out.trans s1)
    clear s1 k1 M1
    go_wp2_with fail
    refine M2.out.mono ?_
    rintro e w2 ⟨j1, rfl, h2, h2', s2⟩
    obtain ⟨x2, k2⟩ := s2.cnt
    have M3 := hide (MA.out k x2 w2 s2.row k2 (by omega) (by omega))
    have S2 := hide (S1.out.trans s2)
    clear s2 k2 M2
    go_wp2_with fail
    refine M3.out.mono ?_
    rintro e w3 ⟨k1, rfl, h3, h3', s3⟩
    obtain ⟨x3, k3⟩ := s3.cnt
    have M := hide (MD.out i1 j1 k1 x3 w3 s3.row k3 (by omega) (by omega) (by omega))
    have S3 := hide (S2.out.trans s3)
    clear s3 k3 M3
    go_wp2_with fail
    refine M.out.mono ?_
    rintro e w5 ⟨r, rfl, h5, s5⟩
    obtain ⟨x5, k5⟩ := s5.cnt
    have m5 := k5.cell
    have HR : Hid (a ≤ r ∧ r < b) := by
      show _ ∧ _
      omega
    have S5 : Hid (SRow w5 g c d ∧ Below w.heap.size w w5) := ⟨s5.row, fin.out _ (S3.out.trans s5)⟩
    clear h5 s5 k5 M
    by_cases z0 : x5 = 0
    · subst z0
      go_wp2
      refine bodyPost_ret (results_tmp2 rfl _ _ _) rfl ?_
      exact ⟨r, 1, rfl, HR.out.1, HR.out.2, by decide, S5.out.1, S5.out.2⟩
    · have z1 : (x5 == 0) = false := by rw [beq_eq_false_iff_ne]; exact z0
      by_cases z2 : x5 = 12
      · subst z2
        go_wp2
        refine bodyPost_ret (results_tmp2 rfl _ _ _) rfl ?_
        exact ⟨r, 2, rfl, HR.out.1, HR.out.2, by decide, S5.out.1, S5.out.2⟩
      · have z3 : (x5 == 12) = false := by rw [beq_eq_false_iff_ne]; exact z2
        go_wp2
        refine bodyPost_ret (results_tmp2 rfl _ _ _) rfl ?_
        exact ⟨r, 0, rfl, HR.out.1, HR.out.2, by decide, S5.out.1, S5.out.2⟩
  · have b4 : ¬ (50 : Int) ≤ (l : Int) := by omega
    obtain ⟨x0, k0⟩ := S0.out.cnt
    have M := hide (MD.out i j k x0 _ S0.out.row k0 (by omega) (by omega) (by omega))
    clear k0
    go_enter Tryz.func107, Tryz.ntmps107
    go_wp2_with fail
    refine M.out.mono ?_
    rintro e w5 ⟨r, rfl, h5, s5⟩
    obtain ⟨x5, k5⟩ := s5.cnt
    have m5 := k5.cell
    have HR : Hid (a ≤ r ∧ r < b) := by
      show _ ∧ _
      omega
    have S5 : Hid (SRow w5 g c d ∧ Below w.heap.size w w5) := ⟨s5.row, fin.out _ (S0.out.trans s5)⟩
    clear h5 s5 k5 M
    by_cases z0 : x5 = 0
    · subst z0
      go_wp2
      refine bodyPost_ret (results_tmp2 rfl _ _ _) rfl ?_
      exact ⟨r, 1, rfl, HR.out.1, HR.out.2, by decide, S5.out.1, S5.out.2⟩
    · have z1 : (x5 == 0) = false := by rw [beq_eq_false_iff_ne]; exact z0
      by_cases z2 : x5 = 12
      · subst z2
        go_wp2
        refine bodyPost_ret (results_tmp2 rfl _ _ _) rfl ?_
        exact ⟨r, 2, rfl, HR.out.1, HR.out.2, by decide, S5.out.1, S5.out.2⟩
      · have z3 : (x5 == 12) = false := by rw [beq_eq_false_iff_ne]; exact z2
        go_wp2
        refine bodyPost_ret (results_tmp2 rfl _ _ _) rfl ?_
        exact ⟨r, 0, rfl, HR.out.1, HR.out.2, by decide, S5.out.1, S5.out.2⟩
end Go.Proofs.YtadcaonkmncgoaaGreat

namespace Go.Proofs.YtadcaonkmncgoaaGreat
open Go.RowKit

/-- Where a child of the heap stands: the first one at p, the second one at p1. -/
structure Chd (first root hi ch ch1 p p1 r n : Nat) : Prop where
  a : ch = 2 * root + 1
  b : ch1 = ch + 1
  c : p = first + ch
  d : p1 = first + ch1
  e : r = first + root
  f : first + hi ≤ n

theorem sift_end {hi first root : Nat} {d : Array Int} (h : hi ≤ 2 * root + 1) : Go.Sort.siftDown ltI hi first root d = d := by
  rw [Go.Sort.siftDown, dif_pos h]
theorem sift_one_on {first root hi ch ch1 p p1 r n : Nat} {d : Array Int} (H : Chd first root hi ch ch1 p p1 r n) (h1 : ¬ hi ≤ ch) (h2 : ch1 < hi) (hl : ltI d[p]! d[p1]! = true) (hl2 : ltI d[r]! d[p1]! = true) :
    Go.Sort.siftDown ltI hi first root d = Go.Sort.siftDown ltI hi first ch1 (Go.Sort.swp d r p1) := by
  obtain ⟨rfl, rfl, rfl, rfl, rfl, -⟩ := H
  have e : first + (2 * root + 1 + 1) = first + (2 * root + 1) + 1 := rfl
  have e2 : 2 * root + 2 = 2 * root + 1 + 1 := rfl
  rw [e] at hl hl2 ⊢
  rw [Go.Sort.siftDown, dif_neg (by omega), e2, e, if_pos (by simp [hl, h2]), if_neg (by simp [hl2]), dif_pos h2]
theorem sift_one_off {first root hi ch ch1 p p1 r n : Nat} {d : Array Int} (H : Chd first root hi ch ch1 p p1 r n) (h1 : ¬ hi ≤ ch) (h2 : ch1 < hi) (hl : ltI d[p]! d[p1]! = true) (hl2 : ltI d[r]! d[p1]! = false) :
    Go.Sort.siftDown ltI hi first root d = d := by
  obtain ⟨rfl, rfl, rfl, rfl, rfl, -⟩ := H
  have e : first + (2 * root + 1 + 1) = first + (2 * root + 1) + 1 := rfl
  have e2 : 2 * root + 2 = 2 * root + 1 + 1 := rfl
  rw [e] at hl hl2
  rw [Go.Sort.siftDown, dif_neg (by omega), e2, e, if_pos (by simp [hl, h2]), if_pos (by simp [hl2])]
theorem sift_two_on {first root hi ch ch1 p p1 r n : Nat} {d : Array Int} (H : Chd first root hi ch ch1 p p1 r n) (h1 : ¬ hi ≤ ch) (_h2 : ch1 < hi) (hl : ltI d[p]! d[p1]! = false) (hl2 : ltI d[r]! d[p]! = true) :
    Go.Sort.siftDown ltI hi first root d = Go.Sort.siftDown ltI hi first ch (Go.Sort.swp d r p) := by
  obtain ⟨rfl, rfl, rfl, rfl, rfl, -⟩ := H
  have e : first + (2 * root + 1 + 1) = first + (2 * root + 1) + 1 := rfl
  rw [e] at hl
  rw [Go.Sort.siftDown, dif_neg (by omega), if_neg (by simp [hl]), if_neg (by simp [hl2])]
theorem sift_two_off {first root hi ch ch1 p p1 r n : Nat} {d : Array Int} (H : Chd first root hi ch ch1 p p1 r n) (h1 : ¬ hi ≤ ch) (_h2 : ch1 < hi) (hl : ltI d[p]! d[p1]! = false) (hl2 : ltI d[r]! d[p]! = false) :
    Go.Sort.siftDown ltI hi first root d = d := by
  obtain ⟨rfl, rfl, rfl, rfl, rfl, -⟩ := H
  have e : first + (2 * root + 1 + 1) = first + (2 * root + 1) + 1 := rfl
  rw [e] at hl
  rw [Go.Sort.siftDown, dif_neg (by omega), if_neg (by simp [hl]), if_pos (by simp [hl2])]
theorem sift_three_on {first root hi ch ch1 p p1 r n : Nat} {d : Array Int} (H : Chd first root hi ch ch1 p p1 r n) (h1 : ¬ hi ≤ ch) (h2 : ¬ ch1 < hi) (hl2 : ltI d[r]! d[p]! = true) :
    Go.Sort.siftDown ltI hi first root d = Go.Sort.siftDown ltI hi first ch (Go.Sort.swp d r p) := by
  obtain ⟨rfl, rfl, rfl, rfl, rfl, -⟩ := H
  rw [Go.Sort.siftDown, dif_neg (by omega), if_neg (by simp; omega), if_neg (by simp [hl2])]
theorem sift_three_off {first root hi ch ch1 p p1 r n : Nat} {d : Array Int} (H : Chd first root hi ch ch1 p p1 r n) (h1 : ¬ hi ≤ ch) (h2 : ¬ ch1 < hi) (hl2 : ltI d[r]! d[p]! = false) :
    Go.Sort.siftDown ltI hi first root d = d := by
  obtain ⟨rfl, rfl, rfl, rfl, rfl, -⟩ := H
  rw [Go.Sort.siftDown, dif_neg (by omega), if_neg (by simp; omega), if_pos (by simp [hl2])]
theorem Chd.int {first root hi ch ch1 p p1 r n : Nat} (H : Chd first root hi ch ch1 p p1 r n) :
    (2 : Int) * (root : Int) + 1 = (ch : Int) ∧ (ch : Int) + 1 = (ch1 : Int) ∧ (first : Int) + (ch : Int) = (p : Int) ∧ (first : Int) + (ch1 : Int) = (p1 : Int) ∧ (p : Int) + 1 = (p1 : Int) ∧ (first : Int) + (root : Int) = (r : Int) := by
  obtain ⟨rfl, rfl, rfl, rfl, rfl, -⟩ := H
  omega

set_option maxHeartbeats 8000000 in
theorem sift_any (g c cp : Nat) (d : Array Int) (lo hi first : Nat) (w : World) (h : SRow w g c d) (hf : first + hi ≤ d.size) (hlo : lo ≤ hi) :
    Calls Tryz.prog 114 #[.slice (some ⟨g, 0, none⟩) d.size cp, .int .i64 lo, .int .i64 hi, .int .i64 first] w fun e w' => e = .returned (.tuple #[]) ∧ SRow w' g c (Go.Sort.siftDown ltI hi first lo d) ∧ Ch (fun k => k = g) w w' := by
  have H := hide h
  have hr := h.room
  obtain ⟨n, HN⟩ : ∃ n, Hid (d.size = n) := ⟨_, rfl⟩
  obtain ⟨D, HDD⟩ : ∃ D, Hid (Go.Sort.siftDown ltI hi first lo d = D) := ⟨_, rfl⟩
  rw [HN.out] at hf hr ⊢
  rw [HDD.out]
  clear h
  go_enter Tryz.func114, Tryz.ntmps114
  go_wp2
  go_loopw [8] (fun x8 wr => ∃ (root : Nat) (d' : Array Int), x8 = .int .i64 root ∧ root ≤ hi ∧ Hid (Go.Sort.siftDown ltI hi first root d' = D) ∧ Hid (d'.size = n) ∧ Hid (SRow wr g c d') ∧ Hid (Ch (fun k => k = g) w wr)) (fun x8 _ => hi - (intOf x8).toNat)
  case atStart => exact ⟨lo, d, rfl, hlo, HDD.out, HN.out, H.out, Ch.refl _ _⟩
  case round =>
    obtain ⟨root, d', rfl, hrt, HE, HD, HS, HC⟩ := hrel
    obtain ⟨ch, ch1, p, p1, r, HCH⟩ : ∃ ch ch1 p p1 r, Hid (Chd first root hi ch ch1 p p1 r n) := ⟨_, _, _, _, _, ⟨rfl, rfl, rfl, rfl, rfl, hf⟩⟩
    obtain ⟨e1, e2, e3, e4, e5, e6⟩ := HCH.out.int
    have b0 : (ch : Int) ≤ 1000000000000000 := by omega
    have b1 : (0 : Int) ≤ (root : Int) := by omega
    have b2 : (0 : Int) ≤ (ch : Int) := by omega
    have b3 : (0 : Int) ≤ (p : Int) := by omega
    have b4 : (0 : Int) ≤ (p1 : Int) := by omega
    have b5 : (0 : Int) ≤ (r : Int) := by omega
    by_cases h1 : hi ≤ ch
    · have i1 : (hi : Int) ≤ (ch : Int) := by omega
      have HX : Hid (d' = D) := by have := HE.out; rwa [sift_end (by have := HCH.out.a; omega)] at this
      go_wp2
      go_end0
      exact ⟨rfl, HX.out ▸ HS.out, HC.out⟩
    · have i1 : ¬ (hi : Int) ≤ (ch : Int) := by omega
      have j1 : (r : Int) < (n : Int) := by omega
      have j2 : (p : Int) < (n : Int) := by omega
      have k1 : r < n := by omega
      have k2 : p < n := by omega
      by_cases h2 : ch1 < hi
      · have i2 : (ch1 : Int) < (hi : Int) := by omega
        have j3 : (p1 : Int) < (n : Int) := by omega
        have k3 : p1 < n := by omega
        have a1 := HS.out.cell (i := p) (by rw [HD.out]; exact k2)
        have a2 := HS.out.cell (i := p1) (by rw [HD.out]; exact k3)
        by_cases hl : ltI d'[p]! d'[p1]! = true
        · have HL := hide hl
          have HSw := hide (fun q => (HS.out.drewN q).swap (i := r) (j := p1) (by rw [HD.out]; have := HCH.out; omega) (by rw [HD.out]; have := HCH.out; omega))
          have HCw := hide (fun q => ch_swap (HC.out.drewN q) r p1 (.int .u64 d'[p1]!) (.int .u64 d'[r]!))
          obtain ⟨c1, c2, f1, f2, v, c3⟩ := HS.out.two (i := r) (j := p1) (by rw [HD.out]; have := HCH.out; omega) (by rw [HD.out]; have := HCH.out; omega)
          have c1q := fun q => (HS.out.drewN q).cell (i := r) (by rw [HD.out]; exact k1)
          have c2q := fun q => (HS.out.drewN q).cell (i := p1) (by rw [HD.out]; omega)
          have HT1 : Hid (ltI d'[r]! d'[p1]! = true → Go.Sort.siftDown ltI hi first ch1 (Go.Sort.swp d' r p1) = D) := by
            intro hl2
            rw [← HE.out]
            exact (sift_one_on HCH.out h1 h2 HL.out hl2).symm
          have HTF : Hid (ltI d'[r]! d'[p1]! = false → d' = D) := by
            intro hl2
            rw [← HE.out]
            exact (sift_one_off HCH.out h1 h2 HL.out hl2).symm
          have L1 := hide (sless_any d'[p]! d'[p1]!)
          rw [hl] at L1
          clear hl HL
          generalize d'[r]! = z at *
          generalize d'[p]! = pv at *
          generalize d'[p1]! = p1v at *
          by_cases hl2 : ltI z p1v = true
          · have HX : Hid (Go.Sort.siftDown ltI hi first ch1 (Go.Sort.swp d' r p1) = D) := HT1.out hl2
            have HSz : Hid ((Go.Sort.swp d' r p1).size = n) := (size_swp _ _ _).trans HD.out
            have L2 := hide (sless_any z p1v)
            rw [hl2] at L2
            clear hl2 HT1 HTF HE HS HC HD
            go_wp2
            go_big_quiet ((go_at_call 110; exact Calls.quiet_of_same (L1.out _)))
            go_wp2
            go_big_quiet ((go_at_call 110; exact quiet_at L2.out))
            go_wp2
            go_region
            go_wp2
            go_roundw
            case rel => exact ⟨ch1, _, by go_num, by have := HCH.out; omega, HX.out, HSz.out, HSw.out _, HCw.out _⟩
            case measure => have := HCH.out; simp [intOf]; omega
          · have hl2' : ltI z p1v = false := by simpa using hl2
            have HX : Hid (d' = D) := HTF.out hl2'
            have L2 := hide (sless_any z p1v)
            rw [hl2'] at L2
            clear hl2 hl2' HT1 HTF HE HD HSw HCw
            go_wp2
            go_big_quiet ((go_at_call 110; exact Calls.quiet_of_same (L1.out _)))
            go_wp2
            go_big_quiet ((go_at_call 110; exact quiet_at L2.out))
            go_wp2
            refine bodyPost_ret (results_none rfl _ _ _) rfl ?_
            exact ⟨rfl, HX.out ▸ (HS.out.drewN _).drewN _, (HC.out.drewN _).drewN _⟩
        · have hl' : ltI d'[p]! d'[p1]! = false := by simpa using hl
          have HL := hide hl'
          have HSw := hide (fun q => (HS.out.drewN q).swap (i := r) (j := p) (by rw [HD.out]; have := HCH.out; omega) (by rw [HD.out]; have := HCH.out; omega))
          have HCw := hide (fun q => ch_swap (HC.out.drewN q) r p (.int .u64 d'[p]!) (.int .u64 d'[r]!))
          obtain ⟨c1, c2, f1, f2, v, c3⟩ := HS.out.two (i := r) (j := p) (by rw [HD.out]; have := HCH.out; omega) (by rw [HD.out]; have := HCH.out; omega)
          have c1q := fun q => (HS.out.drewN q).cell (i := r) (by rw [HD.out]; exact k1)
          have c2q := fun q => (HS.out.drewN q).cell (i := p) (by rw [HD.out]; omega)
          have HT2 : Hid (ltI d'[r]! d'[p]! = true → Go.Sort.siftDown ltI hi first ch (Go.Sort.swp d' r p) = D) := by
            intro hl2
            rw [← HE.out]
            exact (sift_two_on HCH.out h1 h2 HL.out hl2).symm
          have HTF : Hid (ltI d'[r]! d'[p]! = false → d' = D) := by
            intro hl2
            rw [← HE.out]
            exact (sift_two_off HCH.out h1 h2 HL.out hl2).symm
          have L1 := hide (sless_any d'[p]! d'[p1]!)
          rw [hl'] at L1
          clear hl hl' HL
          generalize d'[r]! = z at *
          generalize d'[p]! = pv at *
          generalize d'[p1]! = p1v at *
          by_cases hl2 : ltI z pv = true
          · have HX : Hid (Go.Sort.siftDown ltI hi first ch (Go.Sort.swp d' r p) = D) := HT2.out hl2
            have HSz : Hid ((Go.Sort.swp d' r p).size = n) := (size_swp _ _ _).trans HD.out
            have L2 := hide (sless_any z pv)
            rw [hl2] at L2
            clear hl2 HT2 HTF HE HS HC HD
            go_wp2
            go_big_quiet ((go_at_call 110; exact Calls.quiet_of_same (L1.out _)))
            go_wp2
            go_big_quiet ((go_at_call 110; exact quiet_at L2.out))
            go_wp2
            go_region
            go_wp2
            go_roundw
            case rel => exact ⟨ch, _, by go_num, by have := HCH.out; omega, HX.out, HSz.out, HSw.out _, HCw.out _⟩
            case measure => have := HCH.out; simp [intOf]; omega
          · have hl2' : ltI z pv = false := by simpa using hl2
            have HX : Hid (d' = D) := HTF.out hl2'
            have L2 := hide (sless_any z pv)
            rw [hl2'] at L2
            clear hl2 hl2' HT2 HTF HE HD HSw HCw
            go_wp2
            go_big_quiet ((go_at_call 110; exact Calls.quiet_of_same (L1.out _)))
            go_wp2
            go_big_quiet ((go_at_call 110; exact quiet_at L2.out))
            go_wp2
            refine bodyPost_ret (results_none rfl _ _ _) rfl ?_
            exact ⟨rfl, HX.out ▸ (HS.out.drewN _).drewN _, (HC.out.drewN _).drewN _⟩
      · have i2 : ¬ (ch1 : Int) < (hi : Int) := by omega
        have i3 : decide ((ch1 : Int) < (hi : Int)) = false := decide_eq_false i2
        have i4 : decide (ch1 < hi) = false := decide_eq_false h2
        have HSw := hide (fun q => (HS.out.drewN q).swap (i := r) (j := p) (by rw [HD.out]; have := HCH.out; omega) (by rw [HD.out]; have := HCH.out; omega))
        have HCw := hide (fun q => ch_swap (HC.out.drewN q) r p (.int .u64 d'[p]!) (.int .u64 d'[r]!))
        obtain ⟨c1, c2, f1, f2, v, c3⟩ := HS.out.two (i := r) (j := p) (by rw [HD.out]; have := HCH.out; omega) (by rw [HD.out]; have := HCH.out; omega)
        have c1q := fun q => (HS.out.drewN q).cell (i := r) (by rw [HD.out]; exact k1)
        have c2q := fun q => (HS.out.drewN q).cell (i := p) (by rw [HD.out]; omega)
        have HT3 : Hid (ltI d'[r]! d'[p]! = true → Go.Sort.siftDown ltI hi first ch (Go.Sort.swp d' r p) = D) := by
          intro hl2
          rw [← HE.out]
          exact (sift_three_on HCH.out h1 h2 hl2).symm
        have HTF : Hid (ltI d'[r]! d'[p]! = false → d' = D) := by
          intro hl2
          rw [← HE.out]
          exact (sift_three_off HCH.out h1 h2 hl2).symm
        generalize d'[r]! = z at *
        generalize d'[p]! = pv at *
        by_cases hl2 : ltI z pv = true
        · have HX : Hid (Go.Sort.siftDown ltI hi first ch (Go.Sort.swp d' r p) = D) := HT3.out hl2
          have HSz : Hid ((Go.Sort.swp d' r p).size = n) := (size_swp _ _ _).trans HD.out
          have L2 := hide (sless_any z pv)
          rw [hl2] at L2
          clear hl2 HT3 HTF HE HS HC HD
          go_wp2
          go_big_quiet (fail)
          go_wp2
          go_big_quiet ((go_at_call 110; exact quiet_at L2.out))
          go_wp2
          go_region
          go_wp2
          go_roundw
          case rel => exact ⟨ch, _, by go_num, by have := HCH.out; omega, HX.out, HSz.out, HSw.out _, HCw.out _⟩
          case measure => have := HCH.out; simp [intOf]; omega
        · have hl2' : ltI z pv = false := by simpa using hl2
          have HX : Hid (d' = D) := HTF.out hl2'
          have L2 := hide (sless_any z pv)
          rw [hl2'] at L2
          clear hl2 hl2' HT3 HTF HE HD HSw HCw
          go_wp2
          go_big_quiet (fail)
          go_wp2
          go_big_quiet ((go_at_call 110; exact quiet_at L2.out))
          go_wp2
          refine bodyPost_ret (results_none rfl _ _ _) rfl ?_
          exact ⟨rfl, HX.out ▸ (HS.out.drewN _).drewN _, (HC.out.drewN _).drewN _⟩

theorem heapBuild_step {hi first k : Nat} {d : Array Int} : Go.Sort.heapBuild ltI hi first (k + 1) d = Go.Sort.heapBuild ltI hi first k (Go.Sort.siftDown ltI hi first k d) := rfl
theorem heapPop_step {first k : Nat} {d : Array Int} : Go.Sort.heapPop ltI first (k + 1) d = Go.Sort.heapPop ltI first k (Go.Sort.siftDown ltI k first 0 (Go.Sort.swp d first (first + k))) := rfl
theorem sift_size {n : Nat} (hi first root : Nat) (d : Array Int) (hf : first + hi ≤ d.size) (hn : d.size = n) : (Go.Sort.siftDown ltI hi first root d).size = n := by
  subst hn
  fun_induction Go.Sort.siftDown ltI hi first root d with
  | case1 => rfl
  | case2 => rfl
  | case3 root d h1 h2 h3 h4 ih => rw [ih (by rw [size_swp]; exact hf), size_swp]
  | case4 => rfl
  | case5 => rfl
  | case6 root d h1 h2 h3 ih => rw [ih (by rw [size_swp]; exact hf), size_swp]

set_option maxHeartbeats 8000000 in
theorem heap_any (g c cp : Nat) (d : Array Int) (a b : Nat) (w : World) (h : SRow w g c d) (hab : a < b) (hb : b ≤ d.size) :
    Calls Tryz.prog 105 #[.slice (some ⟨g, 0, none⟩) d.size cp, .int .i64 a, .int .i64 b] w fun e w' => e = .returned (.tuple #[]) ∧ SRow w' g c (Go.Sort.heapSort ltI d a b) ∧ Ch (fun k => k = g) w w' := by
  have H := hide h
  have hr := h.room
  obtain ⟨n, HN⟩ : ∃ n, Hid (d.size = n) := ⟨_, rfl⟩
  obtain ⟨D, HDD⟩ : ∃ D, Hid (Go.Sort.heapSort ltI d a b = D) := ⟨_, rfl⟩
  rw [HN.out] at hb hr ⊢
  rw [HDD.out]
  clear h
  obtain ⟨hi, HI⟩ : ∃ hi, Hid (b - a = hi) := ⟨_, rfl⟩
  obtain ⟨D1, HD1⟩ : ∃ D1, Hid (Go.Sort.heapBuild ltI hi a ((hi - 1) / 2 + 1) d = D1) := ⟨_, rfl⟩
  have HDD2 : Hid (Go.Sort.heapPop ltI a hi D1 = D) := by rw [← HD1.out, ← HDD.out, ← HI.out]; rfl
  have hhi := HI.out
  have h0 : 0 < hi := by omega
  have h1 : a + hi ≤ n := by omega
  have e1 : (b : Int) - (a : Int) = (hi : Int) := by omega
  obtain ⟨m, HM⟩ : ∃ m, Hid ((hi - 1) / 2 = m) := ⟨_, rfl⟩
  have hm := HM.out
  have e2 : Int.tdiv ((hi : Int) - 1) 2 = (m : Int) := by
    have e : (hi : Int) - 1 = ((hi - 1 : Nat) : Int) := by omega
    rw [e, Int.tdiv_eq_ediv_of_nonneg (by omega), ← hm]
    omega
  have h2 : m ≤ hi := by omega
  have h3 : hi ≤ n := by omega
  rw [HM.out] at HD1
  clear hhi hm
  go_enter Tryz.func105, Tryz.ntmps105
  go_wp2
  go_loopw [9] (fun x9 wr => ∃ (k : Nat) (z : Int) (d' : Array Int), x9 = .int .i64 z ∧ z = (k : Int) - 1 ∧ k ≤ m + 1 ∧ Hid (Go.Sort.heapBuild ltI hi a k d' = D1) ∧ Hid (d'.size = n) ∧ Hid (SRow wr g c d') ∧ Hid (Ch (fun k => k = g) w wr)) (fun x9 _ => (intOf x9 + 1).toNat)
  case atStart => exact ⟨m + 1, m, d, by go_num, by omega, by omega, HD1.out, HN.out, H.out, Ch.refl _ _⟩
  case round =>
    obtain ⟨k, z, d', rfl, hz, hk, HE, HD, HS, HC⟩ := hrel
    by_cases hk0 : k = 0
    · subst hk0
      obtain rfl : z = -1 := by omega
      have HX : Hid (d' = D1) := HE.out
      clear HE hk hz
      go_wp2
      go_loopw [10] (fun x10 wr => ∃ (k : Nat) (z : Int) (d' : Array Int), x10 = .int .i64 z ∧ z = (k : Int) - 1 ∧ k ≤ hi ∧ Hid (Go.Sort.heapPop ltI a k d' = D) ∧ Hid (d'.size = n) ∧ Hid (SRow wr g c d') ∧ Hid (Ch (fun k => k = g) w wr)) (fun x10 _ => (intOf x10 + 1).toNat)
      case atStart => exact ⟨hi, hi - 1, d', by go_num, by omega, by omega, by rw [HX.out]; exact HDD2.out, HD.out, HS.out, HC.out⟩
      case round =>
        obtain ⟨k, z, d2, rfl, hz, hk, HE, HD2, HS2, HC2⟩ := hrel
        by_cases hk0 : k = 0
        · subst hk0
          obtain rfl : z = -1 := by omega
          have HX2 : Hid (d2 = D) := HE.out
          clear hz
          go_wp2
          go_end0
          exact ⟨rfl, HX2.out ▸ HS2.out, HC2.out⟩
        · obtain ⟨i, rfl⟩ : ∃ i, k = i + 1 := ⟨k - 1, by omega⟩
          obtain rfl : z = (i : Int) := by omega
          obtain ⟨p, HP⟩ : ∃ p, Hid (p = a + i) := ⟨_, rfl⟩
          have hp := HP.out
          have e3 : (a : Int) + (i : Int) = (p : Int) := by omega
          have HE' : Hid (Go.Sort.heapPop ltI a i (Go.Sort.siftDown ltI i a 0 (Go.Sort.swp d2 a p)) = D) := by rw [hp]; exact HE.out
          have j1 : (a : Int) < (n : Int) := by omega
          have j2 : (p : Int) < (n : Int) := by omega
          have j3 : (0 : Int) ≤ (p : Int) := by omega
          have j4 : (0 : Int) ≤ (i : Int) := by omega
          have j5 : (0 : Int) ≤ (a : Int) := by omega
          have k1 : a < n := by omega
          have k2 : p < n := by omega
          have HSz : Hid ((Go.Sort.swp d2 a p).size = n) := (size_swp _ _ _).trans HD2.out
          have HSw := hide (fun q => (HS2.out.drewN q).swap (i := a) (j := p) (by rw [HD2.out]; exact k1) (by rw [HD2.out]; exact k2))
          have HCw := hide (fun q => ch_swap (HC2.out.drewN q) a p (.int .u64 d2[p]!) (.int .u64 d2[a]!))
          obtain ⟨c1, c2, f1, f2, v, c3⟩ := HS2.out.two (i := a) (j := p) (by rw [HD2.out]; exact k1) (by rw [HD2.out]; exact k2)
          have HSF : Hid (a + i ≤ (Go.Sort.swp d2 a p).size) := by show _ ≤ _; rw [HSz.out]; omega
          generalize d2[a]! = x at *
          generalize d2[p]! = y at *
          have SF := hide (fun q => sift_any g c cp (Go.Sort.swp d2 a p) 0 i a _ (HSw.out q) HSF.out (Nat.zero_le _))
          rw [HSz.out] at SF
          clear hp hz hk0 HE HS2 HC2 HD2
          go_wp2
          go_region
          go_wp2_with fail
          refine (SF.out 1).mono ?_
          rintro e w1 ⟨rfl, s1, ch1⟩
          have S1 := hide s1
          have C1 : Hid (Ch (fun k => k = g) w w1) := (HCw.out 1).trans ch1
          have Z1 : Hid ((Go.Sort.siftDown ltI i a 0 (Go.Sort.swp d2 a p)).size = n) := sift_size _ _ _ _ HSF.out HSz.out
          clear s1 ch1 SF
          go_wp2
          go_roundw
          case rel => exact ⟨i, (i : Int) - 1, _, by go_num, by omega, by omega, HE'.out, Z1.out, S1.out, C1.out⟩
          case measure => simp [intOf]
    · obtain ⟨i, rfl⟩ : ∃ i, k = i + 1 := ⟨k - 1, by omega⟩
      obtain rfl : z = (i : Int) := by omega
      have j4 : (0 : Int) ≤ (i : Int) := by omega
      have SF := hide (sift_any g c cp d' i hi a wr HS.out (by rw [HD.out]; exact h1) (by omega))
      rw [HD.out] at SF
      clear hz hk0
      go_wp2_with fail
      refine SF.out.mono ?_
      rintro e w1 ⟨rfl, s1, ch1⟩
      have S1 := hide s1
      have C1 : Hid (Ch (fun k => k = g) w w1) := HC.out.trans ch1
      have Z1 : Hid ((Go.Sort.siftDown ltI hi a i d').size = n) := sift_size _ _ _ _ (by rw [HD.out]; exact h1) HD.out
      have HE' : Hid (Go.Sort.heapBuild ltI hi a i (Go.Sort.siftDown ltI hi a i d') = D1) := HE.out
      clear s1 ch1 SF
      go_wp2
      go_roundw
      case rel => exact ⟨i, (i : Int) - 1, _, by go_num, by omega, by omega, HE'.out, Z1.out, S1.out, C1.out⟩
      case measure => simp [intOf]
end Go.Proofs.YtadcaonkmncgoaaGreat

namespace Go.Proofs.YtadcaonkmncgoaaGreat
open Go.RowKit

theorem scanUp_on {p : Int → Bool} {d : Array Int} {j i : Nat} (h : i ≤ j) (hp : p d[i]! = true) : Go.Sort.scanUp p d j i = Go.Sort.scanUp p d j (i + 1) := by
  rw [Go.Sort.scanUp, if_pos (by simp [h, hp])]
theorem scanUp_off {p : Int → Bool} {d : Array Int} {j i : Nat} (h : (decide (i ≤ j) && p d[i]!) = false) : Go.Sort.scanUp p d j i = i := by
  rw [Go.Sort.scanUp, if_neg (by rw [h]; exact Bool.false_ne_true)]
theorem scanDown_on {p : Int → Bool} {d : Array Int} {j i : Nat} (h0 : 0 < j) (h : i ≤ j) (hp : p d[j]! = true) : Go.Sort.scanDown p d i j = Go.Sort.scanDown p d i (j - 1) := by
  obtain ⟨k, rfl⟩ : ∃ k, j = k + 1 := ⟨j - 1, by omega⟩
  rw [Go.Sort.scanDown, if_pos (by simp [h, hp])]
  rfl
theorem scanDown_off {p : Int → Bool} {d : Array Int} {j i : Nat} (h : (decide (i ≤ j) && p d[j]!) = false) : Go.Sort.scanDown p d i j = j := by
  cases j with
  | zero => rfl
  | succ k => rw [Go.Sort.scanDown, if_neg (by rw [h]; exact Bool.false_ne_true)]

set_option maxRecDepth 20000 in
set_option maxHeartbeats 8000000 in
theorem parteq_any (g c cp : Nat) (d : Array Int) (a b pv : Nat) (w : World) (h : SRow w g c d) (hap : a ≤ pv) (hpb : pv < b) (hb : b ≤ d.size) :
    Calls Tryz.prog 111 #[.slice (some ⟨g, 0, none⟩) d.size cp, .int .i64 a, .int .i64 b, .int .i64 pv] w fun e w' => e = .returned (.int .i64 ((Go.Sort.partitionEqual ltI d a b pv).1 : Nat)) ∧ SRow w' g c (Go.Sort.partitionEqual ltI d a b pv).2 ∧ Ch (fun k => k = g) w w' := by
  have H := hide h
  have hr := h.room
  have C0 : Hid (Ch (fun k => k = g) w w) := Ch.refl _ _
  obtain ⟨n, HN⟩ : ∃ n, Hid (d.size = n) := ⟨_, rfl⟩
  obtain ⟨D, HDD⟩ : ∃ D, Hid (Go.Sort.partitionEqual ltI d a b pv = D) := ⟨_, rfl⟩
  rw [HN.out] at hb hr ⊢
  rw [HDD.out]
  have HD0 : Hid (Go.Sort.partEqLoop ltI a (a + 1) (b - 1) (Go.Sort.swp d a pv) = D) := HDD.out
  clear h
  have HSw0 := hide (fun q => (H.out.drewN q).swap (i := a) (j := pv) (by rw [HN.out]; omega) (by rw [HN.out]; omega))
  have HCw0 := hide (fun q => ch_swap (C0.out.drewN q) a pv (.int .u64 d[pv]!) (.int .u64 d[a]!))
  have HSz0 : Hid ((Go.Sort.swp d a pv).size = n) := (size_swp _ _ _).trans HN.out
  have j1 : (a : Int) < (n : Int) := by omega
  have j2 : (pv : Int) < (n : Int) := by omega
  have j3 : (0 : Int) ≤ (a : Int) := by omega
  have j4 : (0 : Int) ≤ (pv : Int) := by omega
  obtain ⟨c1, c2, f1, f2, v0, c3⟩ := H.out.two (i := a) (j := pv) (by rw [HN.out]; omega) (by rw [HN.out]; omega)
  generalize d[a]! = x0 at c1 c2 c3 HSw0 HCw0
  generalize d[pv]! = y0 at c1 c2 c3 HSw0 HCw0
  go_enter Tryz.func111, Tryz.ntmps111
  go_wp2
  go_region
  go_wp2
  clear c1 c2 c3 f1 f2
  go_loopw [9, 10] (fun x9 x10 wr => ∃ (i j : Nat) (d' : Array Int), x9 = .int .i64 i ∧ x10 = .int .i64 j ∧ a < i ∧ i ≤ b + 1 ∧ a ≤ j ∧ j < b ∧ Hid (Go.Sort.partEqLoop ltI a i j d' = D) ∧ Hid (d'.size = n) ∧ Hid (SRow wr g c d') ∧ Hid (Ch (fun k => k = g) w wr)) (fun x9 x10 _ => (intOf x10).toNat + 1 - (intOf x9).toNat)
  case atStart => exact ⟨a + 1, b - 1, _, by go_num, by go_num, by omega, by omega, by omega, by omega, HD0.out, HSz0.out, HSw0.out 1, HCw0.out 1⟩
  case round =>
    obtain ⟨i, j, d', rfl, rfl, hi, hib, haj, hj, HE, HD, HS, HC⟩ := hrel
    go_wp2
    go_loopw [9] (fun x wr => ∃ (u1 : Nat), x = .int .i64 u1 ∧ i ≤ u1 ∧ u1 ≤ b + 1 ∧ Hid (Go.Sort.scanUp (fun x => !ltI d'[a]! x) d' j u1 = Go.Sort.scanUp (fun x => !ltI d'[a]! x) d' j i) ∧ Hid (SRow wr g c d') ∧ Hid (Ch (fun k => k = g) w wr)) (fun x _ => b + 1 - (intOf x).toNat)
    case atStart => exact ⟨i, rfl, by omega, by omega, rfl, HS.out, HC.out⟩
    case round =>
      obtain ⟨u1, rfl, h11, h21, HE1, HSa, HCa⟩ := hrel
      obtain ⟨B, HB⟩ : ∃ B, Hid ((decide (u1 ≤ j) && !ltI d'[a]! d'[u1]!) = B) := ⟨_, rfl⟩
      go_upto_region 3 with fail
      go_cut [43] (fun x wx => x = .bool B ∧ Hid (SRow wx g c d' ∧ Ch (fun k => k = g) w wx))
      case first =>
        by_cases hij : u1 ≤ j
        · have c1 := HSa.out.cell (i := u1) (by rw [HD.out]; omega)
          have c2 := HSa.out.cell (i := a) (by rw [HD.out]; omega)
          have hB : (!ltI d'[a]! d'[u1]!) = B := by have := HB.out; rwa [decide_eq_true hij, Bool.true_and] at this
          generalize d'[u1]! = x at c1 hB
          generalize d'[a]! = y at c2 hB
          obtain ⟨lv, hlv⟩ : ∃ lv, ltI y x = lv := ⟨_, rfl⟩
          have L := hide (sless_any y x)
          rw [hlv] at L hB
          subst hB
          have i1 : (u1 : Int) ≤ (j : Int) := by omega
          have i2 : (u1 : Int) < (n : Int) := by omega
          have i3 : (0 : Int) ≤ (u1 : Int) := by omega
          have i4 : (a : Int) < (n : Int) := by omega
          have i5 : (0 : Int) ≤ (a : Int) := by omega
          clear hlv HB
          go_big_quiet ((go_at_call 110; exact Calls.quiet_of_same (L.out _)))
          go_wp2
          go_meet
          case rel => exact ⟨rfl, HSa.out.drewN _, HCa.out.drewN _⟩
        · have hB : false = B := by have := HB.out; rwa [decide_eq_false hij, Bool.false_and] at this
          subst hB
          have i1 : decide ((u1 : Int) ≤ (j : Int)) = false := decide_eq_false (by omega)
          have i2 : decide (u1 ≤ j) = false := decide_eq_false hij
          clear HB
          go_big_quiet (fail)
          go_wp2
          go_meet
          case rel => exact ⟨rfl, HSa.out.drewN _, HCa.out.drewN _⟩
      case rest =>
        obtain ⟨rfl, HW⟩ := hcut
        cases B with
        | true =>
          have hon : u1 ≤ j ∧ (!ltI d'[a]! d'[u1]!) = true := by have := HB.out; rwa [Bool.and_eq_true, decide_eq_true_eq] at this
          have hij := hon.1
          have HF : Hid (Go.Sort.scanUp (fun x => !ltI d'[a]! x) d' j (u1 + 1) = Go.Sort.scanUp (fun x => !ltI d'[a]! x) d' j i) := (scanUp_on hon.1 hon.2).symm.trans HE1.out
          clear hon HB HSa HCa HE1
          go_wp2
          go_roundw
          case rel => exact ⟨u1 + 1, by go_num, by omega, by omega, HF.out, HW.out.1, HW.out.2⟩
          case measure => simp [intOf]; omega
        | false =>
          have HF1 : Hid (Go.Sort.scanUp (fun x => !ltI d'[a]! x) d' j i = u1) := HE1.out.symm.trans (scanUp_off HB.out)
          have HS1 : Hid (SRow wc g c d') := HW.out.1
          have HC1 : Hid (Ch (fun k => k = g) w wc) := HW.out.2
          clear HB HSa HCa HE1 HW
          go_wp2
          go_loopw [10] (fun x wr => ∃ (v2 : Nat), x = .int .i64 v2 ∧ a ≤ v2 ∧ v2 ≤ j ∧ Hid (Go.Sort.scanDown (fun x => ltI d'[a]! x) d' u1 v2 = Go.Sort.scanDown (fun x => ltI d'[a]! x) d' u1 j) ∧ Hid (SRow wr g c d') ∧ Hid (Ch (fun k => k = g) w wr)) (fun x _ => (intOf x).toNat)
          case atStart => exact ⟨j, rfl, by omega, by omega, rfl, HS1.out, HC1.out⟩
          case round =>
            obtain ⟨v2, rfl, h12, h22, HE2, HSa, HCa⟩ := hrel
            obtain ⟨B, HB⟩ : ∃ B, Hid ((decide (u1 ≤ v2) && ltI d'[a]! d'[v2]!) = B) := ⟨_, rfl⟩
            go_upto_region 5 with fail
            go_cut [59] (fun x wx => x = .bool B ∧ Hid (SRow wx g c d' ∧ Ch (fun k => k = g) w wx))
            case first =>
              by_cases hij : u1 ≤ v2
              · have c1 := HSa.out.cell (i := v2) (by rw [HD.out]; omega)
                have c2 := HSa.out.cell (i := a) (by rw [HD.out]; omega)
                have hB : (ltI d'[a]! d'[v2]!) = B := by have := HB.out; rwa [decide_eq_true hij, Bool.true_and] at this
                generalize d'[v2]! = x at c1 hB
                generalize d'[a]! = y at c2 hB
                obtain ⟨lv, hlv⟩ : ∃ lv, ltI y x = lv := ⟨_, rfl⟩
                have L := hide (sless_any y x)
                rw [hlv] at L hB
                subst hB
                have i1 : (u1 : Int) ≤ (v2 : Int) := by omega
                have i2 : (v2 : Int) < (n : Int) := by omega
                have i3 : (0 : Int) ≤ (v2 : Int) := by omega
                have i4 : (a : Int) < (n : Int) := by omega
                have i5 : (0 : Int) ≤ (a : Int) := by omega
                clear hlv HB
                go_big_quiet ((go_at_call 110; exact Calls.quiet_of_same (L.out _)))
                go_wp2
                go_meet
                case rel => exact ⟨rfl, HSa.out.drewN _, HCa.out.drewN _⟩
              · have hB : false = B := by have := HB.out; rwa [decide_eq_false hij, Bool.false_and] at this
                subst hB
                have i1 : decide ((u1 : Int) ≤ (v2 : Int)) = false := decide_eq_false (by omega)
                have i2 : decide (u1 ≤ v2) = false := decide_eq_false hij
                clear HB
                go_big_quiet (fail)
                go_wp2
                go_meet
                case rel => exact ⟨rfl, HSa.out.drewN _, HCa.out.drewN _⟩
            case rest =>
              obtain ⟨rfl, HW⟩ := hcut
              cases B with
              | true =>
                have hon : u1 ≤ v2 ∧ (ltI d'[a]! d'[v2]!) = true := by have := HB.out; rwa [Bool.and_eq_true, decide_eq_true_eq] at this
                have hij := hon.1
                have HF : Hid (Go.Sort.scanDown (fun x => ltI d'[a]! x) d' u1 (v2 - 1) = Go.Sort.scanDown (fun x => ltI d'[a]! x) d' u1 j) := (scanDown_on (by omega) hon.1 hon.2).symm.trans HE2.out
                clear hon HB HSa HCa HE2
                go_wp2
                go_roundw
                case rel => exact ⟨v2 - 1, by go_num, by omega, by omega, HF.out, HW.out.1, HW.out.2⟩
                case measure => simp [intOf]; omega
              | false =>
                have HF2 : Hid (Go.Sort.scanDown (fun x => ltI d'[a]! x) d' u1 j = v2) := HE2.out.symm.trans (scanDown_off HB.out)
                have HS2 : Hid (SRow wc g c d') := HW.out.1
                have HC2 : Hid (Ch (fun k => k = g) w wc) := HW.out.2
                clear HB HSa HCa HE2 HW
                by_cases hex : v2 < u1
                · have i1 : (v2 : Int) < (u1 : Int) := by omega
                  have HX : Hid ((u1, d') = D) := by
                    show _ = _
                    rw [← HE.out, Go.Sort.partEqLoop_eq, HF1.out, HF2.out, if_pos hex]
                  go_wp2
                  go_ret
                  have hx := HX.out
                  subst hx
                  exact ⟨rfl, HS2.out, HC2.out⟩
                · have i1 : ¬ (v2 : Int) < (u1 : Int) := by omega
                  have HX : Hid (Go.Sort.partEqLoop ltI a (u1 + 1) (v2 - 1) (Go.Sort.swp d' u1 v2) = D) := by
                    show _ = _
                    rw [← HE.out, Go.Sort.partEqLoop_eq ltI a i j d', HF1.out, HF2.out, if_neg hex]
                  have HSw3 := hide (fun q => (HS2.out.drewN q).swap (i := u1) (j := v2) (by rw [HD.out]; omega) (by rw [HD.out]; omega))
                  have HCw3 := hide (fun q => ch_swap (HC2.out.drewN q) u1 v2 (.int .u64 d'[v2]!) (.int .u64 d'[u1]!))
                  have HSz3 : Hid ((Go.Sort.swp d' u1 v2).size = n) := (size_swp _ _ _).trans HD.out
                  have j1 : (u1 : Int) < (n : Int) := by omega
                  have j2 : (v2 : Int) < (n : Int) := by omega
                  have j3 : (0 : Int) ≤ (u1 : Int) := by omega
                  have j4 : (0 : Int) ≤ (v2 : Int) := by omega
                  obtain ⟨c1, c2, f1, f2, v3, c3⟩ := HS2.out.two (i := u1) (j := v2) (by rw [HD.out]; omega) (by rw [HD.out]; omega)
                  generalize d'[u1]! = x3 at c1 c2 c3 HSw3 HCw3
                  generalize d'[v2]! = y3 at c1 c2 c3 HSw3 HCw3
                  clear HE HF1 HF2
                  go_wp2
                  go_region
                  go_wp2
                  go_roundw
                  case rel => exact ⟨u1 + 1, v2 - 1, _, by go_num, by go_num, by omega, by omega, by omega, by omega, HX.out, HSz3.out, HSw3.out 1, HCw3.out 1⟩
                  case measure => simp [intOf]; omega
end Go.Proofs.YtadcaonkmncgoaaGreat

namespace Go.Proofs.YtadcaonkmncgoaaGreat
open Go.RowKit

theorem part_done {d : Array Int} {a b pv : Nat} (I J : Nat) (hI : Go.Sort.scanUp (fun x => ltI x (Go.Sort.swp d a pv)[a]!) (Go.Sort.swp d a pv) (b - 1) (a + 1) = I) (hJ : Go.Sort.scanDown (fun x => !ltI x (Go.Sort.swp d a pv)[a]!) (Go.Sort.swp d a pv) I (b - 1) = J) (h : J < I) :
    Go.Sort.partition ltI d a b pv = (J, true, Go.Sort.swp (Go.Sort.swp d a pv) J a) := by
  unfold Go.Sort.partition
  simp only [hI, hJ]
  rw [if_pos h]
theorem part_more {d : Array Int} {a b pv : Nat} (I J : Nat) (hI : Go.Sort.scanUp (fun x => ltI x (Go.Sort.swp d a pv)[a]!) (Go.Sort.swp d a pv) (b - 1) (a + 1) = I) (hJ : Go.Sort.scanDown (fun x => !ltI x (Go.Sort.swp d a pv)[a]!) (Go.Sort.swp d a pv) I (b - 1) = J) (h : ¬ J < I) :
    Go.Sort.partition ltI d a b pv = ((Go.Sort.partLoop ltI a (I + 1) (J - 1) (Go.Sort.swp (Go.Sort.swp d a pv) I J)).1, false, Go.Sort.swp (Go.Sort.partLoop ltI a (I + 1) (J - 1) (Go.Sort.swp (Go.Sort.swp d a pv) I J)).2 (Go.Sort.partLoop ltI a (I + 1) (J - 1) (Go.Sort.swp (Go.Sort.swp d a pv) I J)).1 a) := by
  unfold Go.Sort.partition
  simp only [hI, hJ]
  rw [if_neg h]

set_option maxRecDepth 20000 in
set_option maxHeartbeats 16000000 in
theorem part_any (g c cp : Nat) (d : Array Int) (a b pv : Nat) (w : World) (h : SRow w g c d) (hap : a ≤ pv) (hpb : pv < b) (hb : b ≤ d.size) :
    Calls Tryz.prog 112 #[.slice (some ⟨g, 0, none⟩) d.size cp, .int .i64 a, .int .i64 b, .int .i64 pv] w fun e w' => e = .returned (.tuple #[.int .i64 ((Go.Sort.partition ltI d a b pv).1 : Nat), .bool (Go.Sort.partition ltI d a b pv).2.1]) ∧ SRow w' g c (Go.Sort.partition ltI d a b pv).2.2 ∧ Ch (fun k => k = g) w w' := by
  have H := hide h
  have hr := h.room
  have C0 : Hid (Ch (fun k => k = g) w w) := Ch.refl _ _
  obtain ⟨n, HN⟩ : ∃ n, Hid (d.size = n) := ⟨_, rfl⟩
  obtain ⟨D, HDD⟩ : ∃ D, Hid (Go.Sort.partition ltI d a b pv = D) := ⟨_, rfl⟩
  rw [HN.out] at hb hr ⊢
  rw [HDD.out]
  clear h
  have HSw0 := hide (fun q => (H.out.drewN q).swap (i := a) (j := pv) (by rw [HN.out]; omega) (by rw [HN.out]; omega))
  have HCw0 := hide (fun q => ch_swap (C0.out.drewN q) a pv (.int .u64 d[pv]!) (.int .u64 d[a]!))
  have HSz0 : Hid ((Go.Sort.swp d a pv).size = n) := (size_swp _ _ _).trans HN.out
  have j1 : (a : Int) < (n : Int) := by omega
  have j2 : (pv : Int) < (n : Int) := by omega
  have j3 : (0 : Int) ≤ (a : Int) := by omega
  have j4 : (0 : Int) ≤ (pv : Int) := by omega
  obtain ⟨c1, c2, f1, f2, v0, c3⟩ := H.out.two (i := a) (j := pv) (by rw [HN.out]; omega) (by rw [HN.out]; omega)
  generalize d[a]! = x0 at c1 c2 c3 HSw0 HCw0
  generalize d[pv]! = y0 at c1 c2 c3 HSw0 HCw0
  obtain ⟨d1, HD1⟩ : ∃ d1, Hid (Go.Sort.swp d a pv = d1) := ⟨_, rfl⟩
  obtain ⟨i0, HI0⟩ : ∃ i0, Hid (a + 1 = i0) := ⟨_, rfl⟩
  obtain ⟨j0, HJ0⟩ : ∃ j0, Hid (b - 1 = j0) := ⟨_, rfl⟩
  have hi0 := HI0.out
  have hj0 := HJ0.out
  have q1 : a < i0 := by omega
  have q2 : i0 ≤ b + 1 := by omega
  have q3 : a ≤ j0 := by omega
  have q4 : j0 < b := by omega
  have e1 : (a : Int) + 1 = (i0 : Int) := by omega
  have e2 : (b : Int) - 1 = (j0 : Int) := by omega
  have part_done := hide (part_done (d := d) (a := a) (b := b) (pv := pv))
  have part_more := hide (part_more (d := d) (a := a) (b := b) (pv := pv))
  rw [HD1.out] at HSz0 HSw0 part_done part_more
  rw [HI0.out, HJ0.out] at part_done part_more
  have HZ1 : Hid (d1.size = n) := HSz0.out
  have HW0 := hide (HSw0.out 1)
  have HV0 := hide (HCw0.out 1)
  clear hi0 hj0
  go_enter Tryz.func112, Tryz.ntmps112
  go_wp2
  go_region
  go_wp2
  clear c1 c2 c3 f1 f2
  go_loopw [10] (fun x wr => ∃ (u1 : Nat), x = .int .i64 u1 ∧ i0 ≤ u1 ∧ u1 ≤ b + 1 ∧ Hid (Go.Sort.scanUp (fun x => ltI x d1[a]!) d1 j0 u1 = Go.Sort.scanUp (fun x => ltI x d1[a]!) d1 j0 i0) ∧ Hid (SRow wr g c d1) ∧ Hid (Ch (fun k => k = g) w wr)) (fun x _ => b + 1 - (intOf x).toNat)
  case atStart => exact ⟨i0, rfl, by omega, by omega, rfl, HW0.out, HV0.out⟩
  case round =>
    obtain ⟨u1, rfl, h11, h21, HE1, HSa, HCa⟩ := hrel
    obtain ⟨B, HB⟩ : ∃ B, Hid ((decide (u1 ≤ j0) && ltI d1[u1]! d1[a]!) = B) := ⟨_, rfl⟩
    go_upto_region 3 with fail
    go_cut [43] (fun x wx => x = .bool B ∧ Hid (SRow wx g c d1 ∧ Ch (fun k => k = g) w wx))
    case first =>
      by_cases hij : u1 ≤ j0
      · have c1 := HSa.out.cell (i := u1) (by rw [HZ1.out]; omega)
        have c2 := HSa.out.cell (i := a) (by rw [HZ1.out]; omega)
        have hB : (ltI d1[u1]! d1[a]!) = B := by have := HB.out; rwa [decide_eq_true hij, Bool.true_and] at this
        generalize d1[u1]! = x at c1 hB
        generalize d1[a]! = y at c2 hB
        obtain ⟨lv, hlv⟩ : ∃ lv, ltI x y = lv := ⟨_, rfl⟩
        have L := hide (sless_any x y)
        rw [hlv] at L hB
        subst hB
        have i1 : (u1 : Int) ≤ (j0 : Int) := by omega
        have i2 : (u1 : Int) < (n : Int) := by omega
        have i3 : (0 : Int) ≤ (u1 : Int) := by omega
        have i4 : (a : Int) < (n : Int) := by omega
        have i5 : (0 : Int) ≤ (a : Int) := by omega
        clear hlv HB
        go_big_quiet ((go_at_call 110; exact Calls.quiet_of_same (L.out _)))
        go_wp2
        go_meet
        case rel => exact ⟨rfl, HSa.out.drewN _, HCa.out.drewN _⟩
      · have hB : false = B := by have := HB.out; rwa [decide_eq_false hij, Bool.false_and] at this
        subst hB
        have i1 : decide ((u1 : Int) ≤ (j0 : Int)) = false := decide_eq_false (by omega)
        have i2 : decide (u1 ≤ j0) = false := decide_eq_false hij
        clear HB
        go_big_quiet (fail)
        go_wp2
        go_meet
        case rel => exact ⟨rfl, HSa.out.drewN _, HCa.out.drewN _⟩
    case rest =>
      obtain ⟨rfl, HW⟩ := hcut
      cases B with
      | true =>
        have hon : u1 ≤ j0 ∧ (ltI d1[u1]! d1[a]!) = true := by have := HB.out; rwa [Bool.and_eq_true, decide_eq_true_eq] at this
        have hij := hon.1
        have HF : Hid (Go.Sort.scanUp (fun x => ltI x d1[a]!) d1 j0 (u1 + 1) = Go.Sort.scanUp (fun x => ltI x d1[a]!) d1 j0 i0) := (scanUp_on hon.1 hon.2).symm.trans HE1.out
        clear hon HB HSa HCa HE1
        go_wp2
        go_roundw
        case rel => exact ⟨u1 + 1, by go_num, by omega, by omega, HF.out, HW.out.1, HW.out.2⟩
        case measure => simp [intOf]; omega
      | false =>
        have HF1 : Hid (Go.Sort.scanUp (fun x => ltI x d1[a]!) d1 j0 i0 = u1) := HE1.out.symm.trans (scanUp_off HB.out)
        have HS1 : Hid (SRow wc g c d1) := HW.out.1
        have HC1 : Hid (Ch (fun k => k = g) w wc) := HW.out.2
        clear HB HSa HCa HE1 HW
        go_wp2
        go_loopw [11] (fun x wr => ∃ (v2 : Nat), x = .int .i64 v2 ∧ a ≤ v2 ∧ v2 ≤ j0 ∧ Hid (Go.Sort.scanDown (fun x => !ltI x d1[a]!) d1 u1 v2 = Go.Sort.scanDown (fun x => !ltI x d1[a]!) d1 u1 j0) ∧ Hid (SRow wr g c d1) ∧ Hid (Ch (fun k => k = g) w wr)) (fun x _ => (intOf x).toNat)
        case atStart => exact ⟨j0, rfl, by omega, by omega, rfl, HS1.out, HC1.out⟩
        case round =>
          obtain ⟨v2, rfl, h12, h22, HE2, HSa, HCa⟩ := hrel
          obtain ⟨B, HB⟩ : ∃ B, Hid ((decide (u1 ≤ v2) && !ltI d1[v2]! d1[a]!) = B) := ⟨_, rfl⟩
          go_upto_region 5 with fail
          go_cut [60] (fun x wx => x = .bool B ∧ Hid (SRow wx g c d1 ∧ Ch (fun k => k = g) w wx))
          case first =>
            by_cases hij : u1 ≤ v2
            · have c1 := HSa.out.cell (i := v2) (by rw [HZ1.out]; omega)
              have c2 := HSa.out.cell (i := a) (by rw [HZ1.out]; omega)
              have hB : (!ltI d1[v2]! d1[a]!) = B := by have := HB.out; rwa [decide_eq_true hij, Bool.true_and] at this
              generalize d1[v2]! = x at c1 hB
              generalize d1[a]! = y at c2 hB
              obtain ⟨lv, hlv⟩ : ∃ lv, ltI x y = lv := ⟨_, rfl⟩
              have L := hide (sless_any x y)
              rw [hlv] at L hB
              subst hB
              have i1 : (u1 : Int) ≤ (v2 : Int) := by omega
              have i2 : (v2 : Int) < (n : Int) := by omega
              have i3 : (0 : Int) ≤ (v2 : Int) := by omega
              have i4 : (a : Int) < (n : Int) := by omega
              have i5 : (0 : Int) ≤ (a : Int) := by omega
              clear hlv HB
              go_big_quiet ((go_at_call 110; exact Calls.quiet_of_same (L.out _)))
              go_wp2
              go_meet
              case rel => exact ⟨rfl, HSa.out.drewN _, HCa.out.drewN _⟩
            · have hB : false = B := by have := HB.out; rwa [decide_eq_false hij, Bool.false_and] at this
              subst hB
              have i1 : decide ((u1 : Int) ≤ (v2 : Int)) = false := decide_eq_false (by omega)
              have i2 : decide (u1 ≤ v2) = false := decide_eq_false hij
              clear HB
              go_big_quiet (fail)
              go_wp2
              go_meet
              case rel => exact ⟨rfl, HSa.out.drewN _, HCa.out.drewN _⟩
          case rest =>
            obtain ⟨rfl, HW⟩ := hcut
            cases B with
            | true =>
              have hon : u1 ≤ v2 ∧ (!ltI d1[v2]! d1[a]!) = true := by have := HB.out; rwa [Bool.and_eq_true, decide_eq_true_eq] at this
              have hij := hon.1
              have HF : Hid (Go.Sort.scanDown (fun x => !ltI x d1[a]!) d1 u1 (v2 - 1) = Go.Sort.scanDown (fun x => !ltI x d1[a]!) d1 u1 j0) := (scanDown_on (by omega) hon.1 hon.2).symm.trans HE2.out
              clear hon HB HSa HCa HE2
              go_wp2
              go_roundw
              case rel => exact ⟨v2 - 1, by go_num, by omega, by omega, HF.out, HW.out.1, HW.out.2⟩
              case measure => simp [intOf]; omega
            | false =>
              have HF2 : Hid (Go.Sort.scanDown (fun x => !ltI x d1[a]!) d1 u1 j0 = v2) := HE2.out.symm.trans (scanDown_off HB.out)
              have HS2 : Hid (SRow wc g c d1) := HW.out.1
              have HC2 : Hid (Ch (fun k => k = g) w wc) := HW.out.2
              clear HB HSa HCa HE2 HW
              by_cases hex : v2 < u1
              · have i1 : (v2 : Int) < (u1 : Int) := by omega
                have HX : Hid ((v2, true, Go.Sort.swp d1 v2 a) = D) := by
                  show _ = _
                  rw [← HDD.out, part_done.out _ _ HF1.out HF2.out hex]
                have HSw3 := hide (fun q => (HS2.out.drewN q).swap (i := v2) (j := a) (by rw [HZ1.out]; omega) (by rw [HZ1.out]; omega))
                have HCw3 := hide (fun q => ch_swap (HC2.out.drewN q) v2 a (.int .u64 d1[a]!) (.int .u64 d1[v2]!))
                have HSz3 : Hid ((Go.Sort.swp d1 v2 a).size = n) := (size_swp _ _ _).trans HZ1.out
                have j1 : (v2 : Int) < (n : Int) := by omega
                have j2 : (a : Int) < (n : Int) := by omega
                have j3 : (0 : Int) ≤ (v2 : Int) := by omega
                have j4 : (0 : Int) ≤ (a : Int) := by omega
                obtain ⟨c1, c2, f1, f2, v3, c3⟩ := HS2.out.two (i := v2) (j := a) (by rw [HZ1.out]; omega) (by rw [HZ1.out]; omega)
                generalize d1[v2]! = x3 at c1 c2 c3 HSw3 HCw3
                generalize d1[a]! = y3 at c1 c2 c3 HSw3 HCw3
                clear HF1 HF2
                go_wp2
                go_region
                go_wp2
                refine bodyPost_ret (results_tmp2 rfl _ _ _) rfl ?_
                have hx := HX.out
                subst hx
                exact ⟨rfl, HSw3.out 1, HCw3.out 1⟩
              · have i1 : ¬ (v2 : Int) < (u1 : Int) := by omega
                obtain ⟨R, HR0⟩ : ∃ R, Hid (Go.Sort.partLoop ltI a (u1 + 1) (v2 - 1) (Go.Sort.swp d1 u1 v2) = R) := ⟨_, rfl⟩
                have HR : Hid ((R.1, false, Go.Sort.swp R.2 R.1 a) = D) := by
                  show _ = _
                  rw [← HDD.out, part_more.out _ _ HF1.out HF2.out hex, HR0.out]
                have HSw3 := hide (fun q => (HS2.out.drewN q).swap (i := u1) (j := v2) (by rw [HZ1.out]; omega) (by rw [HZ1.out]; omega))
                have HCw3 := hide (fun q => ch_swap (HC2.out.drewN q) u1 v2 (.int .u64 d1[v2]!) (.int .u64 d1[u1]!))
                have HSz3 : Hid ((Go.Sort.swp d1 u1 v2).size = n) := (size_swp _ _ _).trans HZ1.out
                have j1 : (u1 : Int) < (n : Int) := by omega
                have j2 : (v2 : Int) < (n : Int) := by omega
                have j3 : (0 : Int) ≤ (u1 : Int) := by omega
                have j4 : (0 : Int) ≤ (v2 : Int) := by omega
                obtain ⟨c1, c2, f1, f2, v3, c3⟩ := HS2.out.two (i := u1) (j := v2) (by rw [HZ1.out]; omega) (by rw [HZ1.out]; omega)
                generalize d1[u1]! = x3 at c1 c2 c3 HSw3 HCw3
                generalize d1[v2]! = y3 at c1 c2 c3 HSw3 HCw3
                clear HF1 HF2
                go_wp2
                go_region
                go_wp2
                clear c1 c2 c3 f1 f2
                go_loopw [10, 11] (fun x10 x11 wr => ∃ (i j : Nat) (d' : Array Int), x10 = .int .i64 i ∧ x11 = .int .i64 j ∧ a < i ∧ i ≤ b + 1 ∧ a ≤ j ∧ j < b ∧ Hid (Go.Sort.partLoop ltI a i j d' = R) ∧ Hid (d'.size = n) ∧ Hid (SRow wr g c d') ∧ Hid (Ch (fun k => k = g) w wr)) (fun x10 x11 _ => (intOf x11).toNat + 1 - (intOf x10).toNat)
                case atStart => exact ⟨u1 + 1, v2 - 1, _, by go_num, by go_num, by omega, by omega, by omega, by omega, HR0.out, HSz3.out, HSw3.out 1, HCw3.out 1⟩
                case round =>
                  obtain ⟨i, j, d', rfl, rfl, hi, hib, haj, hj, HE, HD, HS, HC⟩ := hrel
                  go_wp2
                  go_loopw [10] (fun x wr => ∃ (u4 : Nat), x = .int .i64 u4 ∧ i ≤ u4 ∧ u4 ≤ b + 1 ∧ Hid (Go.Sort.scanUp (fun x => ltI x d'[a]!) d' j u4 = Go.Sort.scanUp (fun x => ltI x d'[a]!) d' j i) ∧ Hid (SRow wr g c d') ∧ Hid (Ch (fun k => k = g) w wr)) (fun x _ => b + 1 - (intOf x).toNat)
                  case atStart => exact ⟨i, rfl, by omega, by omega, rfl, HS.out, HC.out⟩
                  case round =>
                    obtain ⟨u4, rfl, h14, h24, HE4, HSa, HCa⟩ := hrel
                    obtain ⟨B, HB⟩ : ∃ B, Hid ((decide (u4 ≤ j) && ltI d'[u4]! d'[a]!) = B) := ⟨_, rfl⟩
                    go_upto_region 13 with fail
                    go_cut [112] (fun x wx => x = .bool B ∧ Hid (SRow wx g c d' ∧ Ch (fun k => k = g) w wx))
                    case first =>
                      by_cases hij : u4 ≤ j
                      · have c1 := HSa.out.cell (i := u4) (by rw [HD.out]; omega)
                        have c2 := HSa.out.cell (i := a) (by rw [HD.out]; omega)
                        have hB : (ltI d'[u4]! d'[a]!) = B := by have := HB.out; rwa [decide_eq_true hij, Bool.true_and] at this
                        generalize d'[u4]! = x at c1 hB
                        generalize d'[a]! = y at c2 hB
                        obtain ⟨lv, hlv⟩ : ∃ lv, ltI x y = lv := ⟨_, rfl⟩
                        have L := hide (sless_any x y)
                        rw [hlv] at L hB
                        subst hB
                        have i1 : (u4 : Int) ≤ (j : Int) := by omega
                        have i2 : (u4 : Int) < (n : Int) := by omega
                        have i3 : (0 : Int) ≤ (u4 : Int) := by omega
                        have i4 : (a : Int) < (n : Int) := by omega
                        have i5 : (0 : Int) ≤ (a : Int) := by omega
                        clear hlv HB
                        go_big_quiet ((go_at_call 110; exact Calls.quiet_of_same (L.out _)))
                        go_wp2
                        go_meet
                        case rel => exact ⟨rfl, HSa.out.drewN _, HCa.out.drewN _⟩
                      · have hB : false = B := by have := HB.out; rwa [decide_eq_false hij, Bool.false_and] at this
                        subst hB
                        have i1 : decide ((u4 : Int) ≤ (j : Int)) = false := decide_eq_false (by omega)
                        have i2 : decide (u4 ≤ j) = false := decide_eq_false hij
                        clear HB
                        go_big_quiet (fail)
                        go_wp2
                        go_meet
                        case rel => exact ⟨rfl, HSa.out.drewN _, HCa.out.drewN _⟩
                    case rest =>
                      obtain ⟨rfl, HW⟩ := hcut
                      cases B with
                      | true =>
                        have hon : u4 ≤ j ∧ (ltI d'[u4]! d'[a]!) = true := by have := HB.out; rwa [Bool.and_eq_true, decide_eq_true_eq] at this
                        have hij := hon.1
                        have HF : Hid (Go.Sort.scanUp (fun x => ltI x d'[a]!) d' j (u4 + 1) = Go.Sort.scanUp (fun x => ltI x d'[a]!) d' j i) := (scanUp_on hon.1 hon.2).symm.trans HE4.out
                        clear hon HB HSa HCa HE4
                        go_wp2
                        go_roundw
                        case rel => exact ⟨u4 + 1, by go_num, by omega, by omega, HF.out, HW.out.1, HW.out.2⟩
                        case measure => simp [intOf]; omega
                      | false =>
                        have HF4 : Hid (Go.Sort.scanUp (fun x => ltI x d'[a]!) d' j i = u4) := HE4.out.symm.trans (scanUp_off HB.out)
                        have HS4 : Hid (SRow wc g c d') := HW.out.1
                        have HC4 : Hid (Ch (fun k => k = g) w wc) := HW.out.2
                        clear HB HSa HCa HE4 HW
                        go_wp2
                        go_loopw [11] (fun x wr => ∃ (v5 : Nat), x = .int .i64 v5 ∧ a ≤ v5 ∧ v5 ≤ j ∧ Hid (Go.Sort.scanDown (fun x => !ltI x d'[a]!) d' u4 v5 = Go.Sort.scanDown (fun x => !ltI x d'[a]!) d' u4 j) ∧ Hid (SRow wr g c d') ∧ Hid (Ch (fun k => k = g) w wr)) (fun x _ => (intOf x).toNat)
                        case atStart => exact ⟨j, rfl, by omega, by omega, rfl, HS4.out, HC4.out⟩
                        case round =>
                          obtain ⟨v5, rfl, h15, h25, HE5, HSa, HCa⟩ := hrel
                          obtain ⟨B, HB⟩ : ∃ B, Hid ((decide (u4 ≤ v5) && !ltI d'[v5]! d'[a]!) = B) := ⟨_, rfl⟩
                          go_upto_region 15 with fail
                          go_cut [129] (fun x wx => x = .bool B ∧ Hid (SRow wx g c d' ∧ Ch (fun k => k = g) w wx))
                          case first =>
                            by_cases hij : u4 ≤ v5
                            · have c1 := HSa.out.cell (i := v5) (by rw [HD.out]; omega)
                              have c2 := HSa.out.cell (i := a) (by rw [HD.out]; omega)
                              have hB : (!ltI d'[v5]! d'[a]!) = B := by have := HB.out; rwa [decide_eq_true hij, Bool.true_and] at this
                              generalize d'[v5]! = x at c1 hB
                              generalize d'[a]! = y at c2 hB
                              obtain ⟨lv, hlv⟩ : ∃ lv, ltI x y = lv := ⟨_, rfl⟩
                              have L := hide (sless_any x y)
                              rw [hlv] at L hB
                              subst hB
                              have i1 : (u4 : Int) ≤ (v5 : Int) := by omega
                              have i2 : (v5 : Int) < (n : Int) := by omega
                              have i3 : (0 : Int) ≤ (v5 : Int) := by omega
                              have i4 : (a : Int) < (n : Int) := by omega
                              have i5 : (0 : Int) ≤ (a : Int) := by omega
                              clear hlv HB
                              go_big_quiet ((go_at_call 110; exact Calls.quiet_of_same (L.out _)))
                              go_wp2
                              go_meet
                              case rel => exact ⟨rfl, HSa.out.drewN _, HCa.out.drewN _⟩
                            · have hB : false = B := by have := HB.out; rwa [decide_eq_false hij, Bool.false_and] at this
                              subst hB
                              have i1 : decide ((u4 : Int) ≤ (v5 : Int)) = false := decide_eq_false (by omega)
                              have i2 : decide (u4 ≤ v5) = false := decide_eq_false hij
                              clear HB
                              go_big_quiet (fail)
                              go_wp2
                              go_meet
                              case rel => exact ⟨rfl, HSa.out.drewN _, HCa.out.drewN _⟩
                          case rest =>
                            obtain ⟨rfl, HW⟩ := hcut
                            cases B with
                            | true =>
                              have hon : u4 ≤ v5 ∧ (!ltI d'[v5]! d'[a]!) = true := by have := HB.out; rwa [Bool.and_eq_true, decide_eq_true_eq] at this
                              have hij := hon.1
                              have HF : Hid (Go.Sort.scanDown (fun x => !ltI x d'[a]!) d' u4 (v5 - 1) = Go.Sort.scanDown (fun x => !ltI x d'[a]!) d' u4 j) := (scanDown_on (by omega) hon.1 hon.2).symm.trans HE5.out
                              clear hon HB HSa HCa HE5
                              go_wp2
                              go_roundw
                              case rel => exact ⟨v5 - 1, by go_num, by omega, by omega, HF.out, HW.out.1, HW.out.2⟩
                              case measure => simp [intOf]; omega
                            | false =>
                              have HF5 : Hid (Go.Sort.scanDown (fun x => !ltI x d'[a]!) d' u4 j = v5) := HE5.out.symm.trans (scanDown_off HB.out)
                              have HS5 : Hid (SRow wc g c d') := HW.out.1
                              have HC5 : Hid (Ch (fun k => k = g) w wc) := HW.out.2
                              clear HB HSa HCa HE5 HW
                              by_cases hex5 : v5 < u4
                              · have i1 : (v5 : Int) < (u4 : Int) := by omega
                                have HX : Hid ((v5, d') = R) := by
                                  show _ = _
                                  rw [← HE.out, Go.Sort.partLoop_eq, HF4.out, HF5.out, if_pos hex5]
                                have HY : Hid ((v5, false, Go.Sort.swp d' v5 a) = D) := by
                                  show _ = _
                                  rw [← HR.out, ← HX.out]
                                have HSw6 := hide (fun q => (HS5.out.drewN q).swap (i := v5) (j := a) (by rw [HD.out]; omega) (by rw [HD.out]; omega))
                                have HCw6 := hide (fun q => ch_swap (HC5.out.drewN q) v5 a (.int .u64 d'[a]!) (.int .u64 d'[v5]!))
                                have HSz6 : Hid ((Go.Sort.swp d' v5 a).size = n) := (size_swp _ _ _).trans HD.out
                                have j1 : (v5 : Int) < (n : Int) := by omega
                                have j2 : (a : Int) < (n : Int) := by omega
                                have j3 : (0 : Int) ≤ (v5 : Int) := by omega
                                have j4 : (0 : Int) ≤ (a : Int) := by omega
                                obtain ⟨c1, c2, f1, f2, v6, c3⟩ := HS5.out.two (i := v5) (j := a) (by rw [HD.out]; omega) (by rw [HD.out]; omega)
                                generalize d'[v5]! = x6 at c1 c2 c3 HSw6 HCw6
                                generalize d'[a]! = y6 at c1 c2 c3 HSw6 HCw6
                                clear HE HF4 HF5
                                go_wp2
                                go_region
                                go_wp2
                                refine bodyPost_ret (results_tmp2 rfl _ _ _) rfl ?_
                                have hx := HY.out
                                subst hx
                                exact ⟨rfl, HSw6.out 1, HCw6.out 1⟩
                              · have i1 : ¬ (v5 : Int) < (u4 : Int) := by omega
                                have HX : Hid (Go.Sort.partLoop ltI a (u4 + 1) (v5 - 1) (Go.Sort.swp d' u4 v5) = R) := by
                                  show _ = _
                                  rw [← HE.out, Go.Sort.partLoop_eq ltI a i j d', HF4.out, HF5.out, if_neg hex5]
                                have HSw7 := hide (fun q => (HS5.out.drewN q).swap (i := u4) (j := v5) (by rw [HD.out]; omega) (by rw [HD.out]; omega))
                                have HCw7 := hide (fun q => ch_swap (HC5.out.drewN q) u4 v5 (.int .u64 d'[v5]!) (.int .u64 d'[u4]!))
                                have HSz7 : Hid ((Go.Sort.swp d' u4 v5).size = n) := (size_swp _ _ _).trans HD.out
                                have j1 : (u4 : Int) < (n : Int) := by omega
                                have j2 : (v5 : Int) < (n : Int) := by omega
                                have j3 : (0 : Int) ≤ (u4 : Int) := by omega
                                have j4 : (0 : Int) ≤ (v5 : Int) := by omega
                                obtain ⟨c1, c2, f1, f2, v7, c3⟩ := HS5.out.two (i := u4) (j := v5) (by rw [HD.out]; omega) (by rw [HD.out]; omega)
                                generalize d'[u4]! = x7 at c1 c2 c3 HSw7 HCw7
                                generalize d'[v5]! = y7 at c1 c2 c3 HSw7 HCw7
                                clear HE HF4 HF5
                                go_wp2
                                go_region
                                go_wp2
                                go_roundw
                                case rel => exact ⟨u4 + 1, v5 - 1, _, by go_num, by go_num, by omega, by omega, by omega, by omega, HX.out, HSz7.out, HSw7.out 1, HCw7.out 1⟩
                                case measure => simp [intOf]; omega
end Go.Proofs.YtadcaonkmncgoaaGreat

namespace Go.Proofs.YtadcaonkmncgoaaGreat
open Go.RowKit

theorem scanSorted_on {d : Array Int} {b i k : Nat} (hk : i - 1 = k) (h : i < b) (hl : (!ltI d[i]! d[k]!) = true) : Go.Sort.scanSorted ltI d b i = Go.Sort.scanSorted ltI d b (i + 1) := by
  subst hk
  rw [Go.Sort.scanSorted, if_pos (by simp only [h, decide_true, Bool.true_and]; exact hl)]
theorem scanSorted_off {d : Array Int} {b i k : Nat} (hk : i - 1 = k) (h : (decide (i < b) && !ltI d[i]! d[k]!) = false) : Go.Sort.scanSorted ltI d b i = i := by
  subst hk
  rw [Go.Sort.scanSorted, if_neg (by rw [h]; exact Bool.false_ne_true)]
theorem shiftDown_on {d : Array Int} {j m : Nat} (hm : j = m + 1) (hl : ltI d[j]! d[m]! = true) : Go.Sort.shiftDown ltI j d = Go.Sort.shiftDown ltI m (Go.Sort.swp d j m) := by
  subst hm
  rw [Go.Sort.shiftDown, if_neg (by rw [hl]; exact Bool.false_ne_true)]
theorem shiftDown_off {d : Array Int} {j m : Nat} (hm : j = m + 1) (hl : ltI d[j]! d[m]! = false) : Go.Sort.shiftDown ltI j d = d := by
  subst hm
  rw [Go.Sort.shiftDown, if_pos (by rw [hl]; rfl)]
theorem shiftDown_end {d : Array Int} {j : Nat} (h : j = 0) : Go.Sort.shiftDown ltI j d = d := by
  subst h
  rfl
theorem shiftUp_on {d : Array Int} {b j m : Nat} (h : j < b) (hm : j = m + 1) (hl : ltI d[j]! d[m]! = true) : Go.Sort.shiftUp ltI b j d = Go.Sort.shiftUp ltI b (j + 1) (Go.Sort.swp d j m) := by
  obtain rfl : m = j - 1 := by omega
  rw [Go.Sort.shiftUp, if_pos h, if_neg (by rw [hl]; exact Bool.false_ne_true)]
theorem shiftUp_off {d : Array Int} {b j m : Nat} (hm : j = m + 1) (hl : ltI d[j]! d[m]! = false) : Go.Sort.shiftUp ltI b j d = d := by
  obtain rfl : m = j - 1 := by omega
  rw [Go.Sort.shiftUp]
  by_cases h : j < b
  · rw [if_pos h, if_pos (by rw [hl]; rfl)]
  · rw [if_neg h]
theorem shiftUp_end {d : Array Int} {b j : Nat} (h : b ≤ j) : Go.Sort.shiftUp ltI b j d = d := by
  rw [Go.Sort.shiftUp, if_neg (by omega)]

/-- The step behind the words that are in order: both shifts. -/
theorem partial_last {d : Array Int} {a b s i u : Nat} (hu : Go.Sort.scanSorted ltI d b i = u) (h : u = b) : Go.Sort.partialIns ltI a b (s + 1) i d = (d, true) := by
  rw [Go.Sort.partialIns_succ]
  simp only [hu]
  rw [if_pos h]
theorem partial_few {d : Array Int} {a b s i u : Nat} (hu : Go.Sort.scanSorted ltI d b i = u) (h : ¬ u = b) (h2 : b - a < 50) : Go.Sort.partialIns ltI a b (s + 1) i d = (d, false) := by
  rw [Go.Sort.partialIns_succ]
  simp only [hu]
  rw [if_neg h, if_pos h2]
theorem partial_on {d : Array Int} {a b s i u k : Nat} (hk : u - 1 = k) (hu : Go.Sort.scanSorted ltI d b i = u) (h : ¬ u = b) (h2 : ¬ b - a < 50) : Go.Sort.partialIns ltI a b (s + 1) i d = Go.Sort.partialIns ltI a b s u (Go.Sort.fixUp ltI b u (Go.Sort.fixDown ltI a u (Go.Sort.swp d u k))) := by
  subst hk
  rw [Go.Sort.partialIns_succ]
  simp only [hu]
  rw [if_neg h, if_neg h2]
theorem size_shiftDown {n : Nat} (j : Nat) (d : Array Int) (h : d.size = n) : (Go.Sort.shiftDown ltI j d).size = n := by
  induction j generalizing d with
  | zero => exact h
  | succ j ih =>
    rw [Go.Sort.shiftDown]
    split
    · exact h
    · exact ih _ ((size_swp _ _ _).trans h)
theorem size_fixDown {n a i : Nat} {d : Array Int} (h : d.size = n) : (Go.Sort.fixDown ltI a i d).size = n := by
  unfold Go.Sort.fixDown
  split
  · exact size_shiftDown _ _ h
  · exact h

set_option maxRecDepth 20000 in
set_option maxHeartbeats 16000000 in
theorem partial_any (g c cp : Nat) (d : Array Int) (a b : Nat) (w : World) (h : SRow w g c d) (hab : a < b) (hb : b ≤ d.size) :
    Calls Tryz.prog 109 #[.slice (some ⟨g, 0, none⟩) d.size cp, .int .i64 a, .int .i64 b] w fun e w' => e = .returned (.bool (Go.Sort.partialInsertionSort ltI d a b).2) ∧ SRow w' g c (Go.Sort.partialInsertionSort ltI d a b).1 ∧ Ch (fun k => k = g) w w' := by
  have H := hide h
  have hr := h.room
  obtain ⟨n, HN⟩ : ∃ n, Hid (d.size = n) := ⟨_, rfl⟩
  obtain ⟨D, HDD⟩ : ∃ D, Hid (Go.Sort.partialInsertionSort ltI d a b = D) := ⟨_, rfl⟩
  rw [HN.out] at hb hr ⊢
  rw [HDD.out]
  clear h
  go_enter Tryz.func109, Tryz.ntmps109
  go_wp2
  go_loopw [8, 7] (fun x8 x7 wr => ∃ (t i : Nat) (d' : Array Int), x8 = .int .i64 t ∧ x7 = .int .i64 i ∧ t ≤ 5 ∧ a + 1 ≤ i ∧ i ≤ b ∧ Hid (Go.Sort.partialIns ltI a b (5 - t) i d' = D) ∧ Hid (d'.size = n) ∧ Hid (SRow wr g c d') ∧ Hid (Ch (fun k => k = g) w wr)) (fun x8 _ _ => 5 - (intOf x8).toNat)
  case atStart => exact ⟨0, a + 1, d, rfl, by go_num, by omega, by omega, by omega, HDD.out, HN.out, H.out, Ch.refl _ _⟩
  case round =>
    obtain ⟨t, i, d', rfl, rfl, ht, hai, hib, HE, HD, HS, HC⟩ := hrel
    by_cases ht5 : t = 5
    · subst ht5
      have HX : Hid ((d', false) = D) := HE.out
      go_wp2
      go_ret
      have hx := HX.out
      subst hx
      exact ⟨rfl, HS.out, HC.out⟩
    obtain ⟨s, HSs⟩ : ∃ s, Hid (5 - t = s + 1) := ⟨4 - t, by show _ = _; omega⟩
    have hs := HSs.out
    rw [hs] at HE
    have hs2 : 5 - (t + 1) = s := by omega
    have HS2 := hide hs2
    have it : (t : Int) < 5 := by omega
    clear hs hs2
    go_wp2
    go_loopw [7] (fun x wr => ∃ (u : Nat), x = .int .i64 u ∧ i ≤ u ∧ u ≤ b ∧ Hid (Go.Sort.scanSorted ltI d' b u = Go.Sort.scanSorted ltI d' b i) ∧ Hid (SRow wr g c d') ∧ Hid (Ch (fun k => k = g) w wr)) (fun x _ => b - (intOf x).toNat)
    case atStart => exact ⟨i, rfl, Nat.le_refl _, hib, rfl, HS.out, HC.out⟩
    case round =>
      obtain ⟨u, rfl, hu1, hu2, HE1, HSa, HCa⟩ := hrel
      obtain ⟨k, HK⟩ : ∃ k, Hid (u - 1 = k) := ⟨_, rfl⟩
      have hk := HK.out
      have e1 : (u : Int) - 1 = (k : Int) := by omega
      obtain ⟨B, HB⟩ : ∃ B, Hid ((decide (u < b) && !ltI d'[u]! d'[k]!) = B) := ⟨_, rfl⟩
      go_upto_region 5 with fail
      go_cut [32] (fun x wx => x = .bool B ∧ Hid (SRow wx g c d' ∧ Ch (fun k => k = g) w wx))
      case first =>
        by_cases hij : u < b
        · have c1 := HSa.out.cell (i := u) (by rw [HD.out]; omega)
          have c2 := HSa.out.cell (i := k) (by rw [HD.out]; omega)
          have hB : (!ltI d'[u]! d'[k]!) = B := by have := HB.out; rwa [decide_eq_true hij, Bool.true_and] at this
          generalize d'[u]! = x at c1 hB
          generalize d'[k]! = y at c2 hB
          obtain ⟨lv, hlv⟩ : ∃ lv, ltI x y = lv := ⟨_, rfl⟩
          have L := hide (sless_any x y)
          rw [hlv] at L hB
          subst hB
          have i1 : (u : Int) < (b : Int) := by omega
          have i2 : (u : Int) < (n : Int) := by omega
          have i3 : (0 : Int) ≤ (u : Int) := by omega
          have i4 : (k : Int) < (n : Int) := by omega
          have i5 : (0 : Int) ≤ (k : Int) := by omega
          clear hlv HB hk
          go_big_quiet ((go_at_call 110; exact Calls.quiet_of_same (L.out _)))
          go_wp2
          go_meet
          case rel => exact ⟨rfl, HSa.out.drewN _, HCa.out.drewN _⟩
        · have hB : false = B := by have := HB.out; rwa [decide_eq_false hij, Bool.false_and] at this
          subst hB
          have i1 : decide ((u : Int) < (b : Int)) = false := decide_eq_false (by omega)
          have i2 : decide (u < b) = false := decide_eq_false hij
          clear HB hk
          go_big_quiet (fail)
          go_wp2
          go_meet
          case rel => exact ⟨rfl, HSa.out.drewN _, HCa.out.drewN _⟩
      case rest =>
        obtain ⟨rfl, HW⟩ := hcut
        cases B with
        | true =>
          have hon : u < b ∧ (!ltI d'[u]! d'[k]!) = true := by have := HB.out; rwa [Bool.and_eq_true, decide_eq_true_eq] at this
          have hij := hon.1
          have HF : Hid (Go.Sort.scanSorted ltI d' b (u + 1) = Go.Sort.scanSorted ltI d' b i) := (scanSorted_on hk hon.1 hon.2).symm.trans HE1.out
          clear hon HB HSa HCa HE1 hk
          go_wp2
          go_roundw
          case rel => exact ⟨u + 1, by go_num, by omega, by omega, HF.out, HW.out.1, HW.out.2⟩
          case measure => simp [intOf]; omega
        | false =>
          have HF1 : Hid (Go.Sort.scanSorted ltI d' b i = u) := HE1.out.symm.trans (scanSorted_off hk HB.out)
          have HS1 : Hid (SRow wc g c d') := HW.out.1
          have HC1 : Hid (Ch (fun k => k = g) w wc) := HW.out.2
          clear HB HSa HCa HE1 HW HS HC
          by_cases hub : u = b
          · have HX : Hid ((d', true) = D) := (partial_last HF1.out hub).symm.trans HE.out
            have i1 : ((u : Int) == (b : Int)) = true := by rw [beq_iff_eq]; omega
            have i2 : (u : Int) = (b : Int) := by omega
            clear hub hk
            go_wp2
            go_ret
            have hx := HX.out
            subst hx
            exact ⟨rfl, HS1.out, HC1.out⟩
          have i1 : ((u : Int) == (b : Int)) = false := by rw [beq_eq_false_iff_ne]; omega
          have i1' : ¬ (u : Int) = (b : Int) := by omega
          by_cases h50 : b - a < 50
          · have HX : Hid ((d', false) = D) := (partial_few HF1.out hub h50).symm.trans HE.out
            have i2 : (b : Int) - (a : Int) < 50 := by omega
            clear hk
            go_wp2
            go_ret
            have hx := HX.out
            subst hx
            exact ⟨rfl, HS1.out, HC1.out⟩
          have i2 : ¬ (b : Int) - (a : Int) < 50 := by omega
          have HP := hide (partial_on HK.out HF1.out hub h50 (a := a) (s := s))
          rw [HE.out] at HP
          obtain ⟨d2, HD2⟩ : ∃ d2, Hid (Go.Sort.swp d' u k = d2) := ⟨_, rfl⟩
          obtain ⟨d3, HD3⟩ : ∃ d3, Hid (Go.Sort.fixDown ltI a u d2 = d3) := ⟨_, rfl⟩
          obtain ⟨d5, HD5⟩ : ∃ d5, Hid (Go.Sort.fixUp ltI b u d3 = d5) := ⟨_, rfl⟩
          rw [HD2.out, HD3.out, HD5.out, ← HS2.out] at HP
          have HNext : Hid (Go.Sort.partialIns ltI a b (5 - (t + 1)) u d5 = D) := HP.out.symm
          have hul : u < b := by omega
          have HSw1 := hide (fun q => (HS1.out.drewN q).swap (i := u) (j := k) (by rw [HD.out]; omega) (by rw [HD.out]; omega))
          have HCw1 := hide (fun q => ch_swap (HC1.out.drewN q) u k (.int .u64 d'[k]!) (.int .u64 d'[u]!))
          have HSz1 : Hid ((Go.Sort.swp d' u k).size = n) := (size_swp _ _ _).trans HD.out
          have j1 : (u : Int) < (n : Int) := by omega
          have j2 : (k : Int) < (n : Int) := by omega
          have j3 : (0 : Int) ≤ (u : Int) := by omega
          have j4 : (0 : Int) ≤ (k : Int) := by omega
          obtain ⟨c1, c2, f1, f2, v1, c3⟩ := HS1.out.two (i := u) (j := k) (by rw [HD.out]; omega) (by rw [HD.out]; omega)
          generalize d'[u]! = x1 at c1 c2 c3 HSw1 HCw1
          generalize d'[k]! = y1 at c1 c2 c3 HSw1 HCw1
          rw [HD2.out] at HSw1 HSz1
          have HZ2 : Hid (d2.size = n) := HSz1.out
          have HZ3 : Hid (d3.size = n) := HD3.out ▸ size_fixDown HZ2.out
          clear HSz1 HP HE HF1 HS2 HS1 HC1
          have HS2 := HSw1
          have HC2 := HCw1
          clear HSw1 HCw1 hk
          go_wp2
          go_region
          clear c1 c2 c3 f1 f2
          go_upto_if 61 with fail
          go_cut [7] (fun x7 wx => x7 = .int .i64 u ∧ Hid (SRow wx g c d3) ∧ Hid (Ch (fun k => k = g) w wx))
          case first =>
            by_cases h2 : u - a ≥ 2
            · have i3 : (2 : Int) ≤ (u : Int) - (a : Int) := by omega
              have HDn : Hid (Go.Sort.shiftDown ltI k d2 = d3) := by
                have := HD3.out
                unfold Go.Sort.fixDown at this
                rw [if_pos h2, HK.out] at this
                exact this
              clear HD3
              go_wp2
              go_loopw [9] (fun x wr => ∃ (j : Nat) (d4 : Array Int), x = .int .i64 j ∧ j ≤ k ∧ Hid (Go.Sort.shiftDown ltI j d4 = d3) ∧ Hid (d4.size = n) ∧ Hid (SRow wr g c d4) ∧ Hid (Ch (fun k => k = g) w wr)) (fun x _ => (intOf x).toNat)
              case atStart => exact ⟨k, d2, by go_num, Nat.le_refl _, HDn.out, HZ2.out, HS2.out 1, HC2.out 1⟩
              case round =>
                obtain ⟨j, d4, rfl, hj1, HE4, HZ4, HS4, HC4⟩ := hrel
                by_cases hend : j = 0
                · have HX : Hid (d4 = d3) := (shiftDown_end hend).symm.trans HE4.out
                  have i1 : ¬ (1 : Int) ≤ (j : Int) := by omega
                  go_wp2
                  go_meet
                  case rel => exact ⟨rfl, HX.out ▸ HS4.out, HC4.out⟩
                · obtain ⟨m, HM⟩ : ∃ m, Hid (j = m + 1) := ⟨j - 1, by show _ = _; omega⟩
                  have hm := HM.out
                  have i1 : (1 : Int) ≤ (j : Int) := by omega
                  have e1 : (j : Int) - 1 = (m : Int) := by omega
                  have HSw4 := hide (fun q => (HS4.out.drewN q).swap (i := j) (j := m) (by rw [HZ4.out]; omega) (by rw [HZ4.out]; omega))
                  have HCw4 := hide (fun q => ch_swap (HC4.out.drewN q) j m (.int .u64 d4[m]!) (.int .u64 d4[j]!))
                  have HSz4 : Hid ((Go.Sort.swp d4 j m).size = n) := (size_swp _ _ _).trans HZ4.out
                  have j1 : (j : Int) < (n : Int) := by omega
                  have j2 : (m : Int) < (n : Int) := by omega
                  have j3 : (0 : Int) ≤ (j : Int) := by omega
                  have j4 : (0 : Int) ≤ (m : Int) := by omega
                  obtain ⟨c1, c2, f1, f2, v4, c3⟩ := HS4.out.two (i := j) (j := m) (by rw [HZ4.out]; omega) (by rw [HZ4.out]; omega)
                  have HOn : Hid (ltI d4[j]! d4[m]! = true → Go.Sort.shiftDown ltI (m) (Go.Sort.swp d4 j m) = d3) := fun hl => (shiftDown_on hm hl).symm.trans HE4.out
                  have HOff : Hid (ltI d4[j]! d4[m]! = false → d4 = d3) := fun hl => (shiftDown_off hm hl).symm.trans HE4.out
                  generalize d4[j]! = x at *
                  generalize d4[m]! = y at *
                  have L := hide (sless_any x y)
                  clear hm
                  by_cases hl : ltI x y = true
                  · have HX := hide (HOn.out hl)
                    rw [hl] at L
                    clear hl HOn HOff HE4 HS4 HC4 HZ4
                    go_wp2
                    go_big_quiet ((go_at_call 110; exact Calls.quiet_of_same (L.out _)))
                    go_wp2
                    go_region
                    go_wp2
                    go_roundw
                    case rel => exact ⟨m, _, by go_num, by have := HM.out; omega, HX.out, HSz4.out, HSw4.out _, HCw4.out _⟩
                    case measure => have := HM.out; simp [intOf]; omega
                  · have hl' : ltI x y = false := by simpa using hl
                    have HX := hide (HOff.out hl')
                    rw [hl'] at L
                    clear hl hl' HOn HOff HE4 HSw4 HCw4
                    go_wp2
                    go_big_quiet ((go_at_call 110; exact Calls.quiet_of_same (L.out _)))
                    go_wp2
                    go_meet
                    case rel => exact ⟨rfl, HX.out ▸ HS4.out.drewN _, HC4.out.drewN _⟩
            · have i3 : ¬ (2 : Int) ≤ (u : Int) - (a : Int) := by omega
              have HX : Hid (d2 = d3) := by
                have := HD3.out
                unfold Go.Sort.fixDown at this
                rwa [if_neg h2] at this
              go_wp2
              go_meet
              case rel => exact ⟨rfl, HX.out ▸ HS2.out 1, HC2.out 1⟩
          case rest =>
            obtain ⟨rfl, HS3, HC3⟩ := hcut
            clear HS2 HC2 HD3
            by_cases h3 : b - u ≥ 2
            · have i3 : (2 : Int) ≤ (b : Int) - (u : Int) := by omega
              have HU : Hid (Go.Sort.shiftUp ltI b (u + 1) d3 = d5) := by
                have := HD5.out
                unfold Go.Sort.fixUp at this
                rwa [if_pos h3] at this
              clear HD5
              go_wp2
              go_loopw [10] (fun x wr => ∃ (j : Nat) (d4 : Array Int), x = .int .i64 j ∧ u + 1 ≤ j ∧ j ≤ b ∧ Hid (Go.Sort.shiftUp ltI b j d4 = d5) ∧ Hid (d4.size = n) ∧ Hid (SRow wr g c d4) ∧ Hid (Ch (fun k => k = g) w wr)) (fun x _ => b - (intOf x).toNat)
              case atStart => exact ⟨u + 1, d3, by go_num, by omega, by omega, HU.out, HZ3.out, HS3.out, HC3.out⟩
              case round =>
                obtain ⟨j, d4, rfl, hj1, hj2, HE4, HZ4, HS4, HC4⟩ := hrel
                by_cases hend : b ≤ j
                · have HX : Hid (d4 = d5) := (shiftUp_end hend).symm.trans HE4.out
                  have i1 : ¬ (j : Int) < (b : Int) := by omega
                  go_wp2
                  go_roundw
                  case rel => exact ⟨t + 1, u, d4, by go_num, rfl, by omega, by omega, by omega, by rw [HX.out]; exact HNext.out, HZ4.out, HS4.out, HC4.out⟩
                  case measure => simp [intOf]; omega
                · obtain ⟨m, HM⟩ : ∃ m, Hid (j = m + 1) := ⟨j - 1, by show _ = _; omega⟩
                  have hm := HM.out
                  have i1 : (j : Int) < (b : Int) := by omega
                  have e1 : (j : Int) - 1 = (m : Int) := by omega
                  have HSw4 := hide (fun q => (HS4.out.drewN q).swap (i := j) (j := m) (by rw [HZ4.out]; omega) (by rw [HZ4.out]; omega))
                  have HCw4 := hide (fun q => ch_swap (HC4.out.drewN q) j m (.int .u64 d4[m]!) (.int .u64 d4[j]!))
                  have HSz4 : Hid ((Go.Sort.swp d4 j m).size = n) := (size_swp _ _ _).trans HZ4.out
                  have j1 : (j : Int) < (n : Int) := by omega
                  have j2 : (m : Int) < (n : Int) := by omega
                  have j3 : (0 : Int) ≤ (j : Int) := by omega
                  have j4 : (0 : Int) ≤ (m : Int) := by omega
                  obtain ⟨c1, c2, f1, f2, v4, c3⟩ := HS4.out.two (i := j) (j := m) (by rw [HZ4.out]; omega) (by rw [HZ4.out]; omega)
                  have HOn : Hid (ltI d4[j]! d4[m]! = true → Go.Sort.shiftUp ltI b (j + 1) (Go.Sort.swp d4 j m) = d5) := fun hl => (shiftUp_on (by omega) hm hl).symm.trans HE4.out
                  have HOff : Hid (ltI d4[j]! d4[m]! = false → d4 = d5) := fun hl => (shiftUp_off hm hl).symm.trans HE4.out
                  generalize d4[j]! = x at *
                  generalize d4[m]! = y at *
                  have L := hide (sless_any x y)
                  clear hm
                  by_cases hl : ltI x y = true
                  · have HX := hide (HOn.out hl)
                    rw [hl] at L
                    clear hl HOn HOff HE4 HS4 HC4 HZ4
                    go_wp2
                    go_big_quiet ((go_at_call 110; exact Calls.quiet_of_same (L.out _)))
                    go_wp2
                    go_region
                    go_wp2
                    go_roundw
                    case rel => exact ⟨j + 1, _, by go_num, by omega, by omega, HX.out, HSz4.out, HSw4.out _, HCw4.out _⟩
                    case measure => simp [intOf]; omega
                  · have hl' : ltI x y = false := by simpa using hl
                    have HX := hide (HOff.out hl')
                    rw [hl'] at L
                    clear hl hl' HOn HOff HE4 HSw4 HCw4
                    go_wp2
                    go_big_quiet ((go_at_call 110; exact Calls.quiet_of_same (L.out _)))
                    go_wp2
                    go_roundw
                    case rel => exact ⟨t + 1, u, d4, by go_num, rfl, by omega, by omega, by omega, by rw [HX.out]; exact HNext.out, HZ4.out, HS4.out.drewN _, HC4.out.drewN _⟩
                    case measure => simp [intOf]; omega
            · have i3 : ¬ (2 : Int) ≤ (b : Int) - (u : Int) := by omega
              have HX : Hid (d3 = d5) := by
                have := HD5.out
                unfold Go.Sort.fixUp at this
                rwa [if_neg h3] at this
              go_wp2
              go_roundw
              case rel => exact ⟨t + 1, u, d3, by go_num, rfl, by omega, by omega, by omega, by rw [HX.out]; exact HNext.out, HZ3.out, HS3.out, HC3.out⟩
              case measure => simp [intOf]; omega
end Go.Proofs.YtadcaonkmncgoaaGreat

namespace Go.Proofs.YtadcaonkmncgoaaGreat
open Go.RowKit

/-- The drawn number: a block of its own. -/
def Rnd (w : World) (q : Nat) (x : Int) : Prop := w.heap[q]? = some (.cells #[.int .u64 x] 143 (0, 0))
theorem Rnd.cell {w : World} {q : Nat} {x : Int} (h : Rnd w q x) : w.cell? ⟨q, 0, none⟩ = some (.int .u64 x) := by
  rw [cell_of_row w q 0 _ _ (0, 0) h]; rfl
theorem Rnd.frozen {w : World} {q : Nat} {x : Int} (h : Rnd w q x) : w.frozen? ⟨q, 0, none⟩ = false := frozen_of_row w q 0 _ _ h
theorem Rnd.lt {w : World} {q : Nat} {x : Int} (h : Rnd w q x) : q < w.heap.size := (Array.getElem?_eq_some_iff.1 h).1
theorem Rnd.drewN {w : World} {q : Nat} {x : Int} (h : Rnd w q x) (k : Nat) : Rnd (w.drewN k) q x := h
theorem Rnd.set {w : World} {q : Nat} {x : Int} (h : Rnd w q x) (y : Int) : Rnd (w.setCell ⟨q, 0, none⟩ (.int .u64 y)) q y := by
  unfold Rnd
  rw [heap_setCell_same w q 0 _ _ _ h]
  rfl
theorem Rnd.set' {w : World} {q g : Nat} {x : Int} (h : Rnd w q x) (hn : g ≠ q) (i : Nat) (u : Value) : Rnd (w.setCell ⟨g, i, none⟩ u) q x := by
  unfold Rnd
  rw [Below.heap_setCell _ _ _ _ (fun e => hn e.symm)]
  exact h
theorem Rnd.ne {w : World} {q g c : Nat} {x : Int} {d : Array Int} (h : Rnd w q x) (k : SRow w g c d) : g ≠ q := by
  rintro rfl
  obtain ⟨cur, h1, _⟩ := k.heap
  rw [h] at h1
  simp at h1

theorem bits_word (op : BinOp) (a b : Int) : W64 (bits op .u64 a b) := by
  unfold W64
  unfold bits
  rw [IntKind.wrap_u64]
  omega
theorem and_pow {y : Int} {M k : Nat} (hy : W64 y) (hM : M = 2 ^ k) (hl : M ≤ 9223372036854775808) : bits .and .u64 y ((M : Int) - 1) = ((y.toNat % M : Nat) : Int) := by
  obtain ⟨y, rfl⟩ := Int.eq_ofNat_of_zero_le hy.1
  have h1 := hy.2
  have h0 : 0 < M := by rw [hM]; exact Nat.two_pow_pos k
  have e : (M : Int) - 1 = ((M - 1 : Nat) : Int) := by omega
  have e2 : y &&& (M - 1) = y % M := by rw [hM]; exact Nat.and_two_pow_sub_one_eq_mod y k
  have h2 : y % M < M := Nat.mod_lt _ h0
  rw [e]
  show IntKind.u64.wrap ((BitVec.ofInt 64 (y : Int) &&& BitVec.ofInt 64 ((M - 1 : Nat) : Int)).toNat : Int) = _
  rw [BitVec.toNat_and, nat_u64 (by omega), nat_u64 (by omega), e2, IntKind.wrap_u64, Int.toNat_natCast]
  omega

set_option maxHeartbeats 4000000 in
theorem next_any (q : Nat) (x : Int) (w : World) (h : Rnd w q x) :
    Calls Tryz.prog 116 #[.pointer (some ⟨q, 0, none⟩)] w fun e w' => ∃ y, e = .returned (.int .u64 y) ∧ W64 y ∧ Rnd w' q y ∧ Ch (fun k => k = q) w w' := by
  have H := hide h
  have c0 := h.cell
  have f0 := h.frozen
  clear h
  go_enter Tryz.func116, Tryz.ntmps116
  go_wp2
  go_region
  generalize bits BinOp.xor .u64 x (IntKind.u64.wrap (x * 8192)) = y1
  obtain ⟨W1, HW1⟩ : ∃ W, Hid ((w.setCell ⟨q, 0, none⟩ (.int .u64 y1)).drew = W) := ⟨_, rfl⟩
  have R1 : Hid (Rnd W1 q y1) := HW1.out ▸ H.out.set y1
  have C1 : Hid (Ch (fun k => k = q) w W1) := HW1.out ▸ (ch_set w q 0 _).drew
  rw [HW1.out]
  have c1 := R1.out.cell
  have f1 := R1.out.frozen
  clear c0 f0 HW1
  go_wp2
  go_region
  generalize bits BinOp.xor .u64 y1 (y1 / 128) = y2
  obtain ⟨W2, HW2⟩ : ∃ W, Hid ((W1.setCell ⟨q, 0, none⟩ (.int .u64 y2)).drew = W) := ⟨_, rfl⟩
  have R2 : Hid (Rnd W2 q y2) := HW2.out ▸ R1.out.set y2
  have C2 : Hid (Ch (fun k => k = q) w W2) := HW2.out ▸ (C1.out.trans (ch_set W1 q 0 _)).drew
  rw [HW2.out]
  have c2 := R2.out.cell
  have f2 := R2.out.frozen
  clear c1 f1 HW2 R1 C1
  go_wp2
  go_region
  have HB := hide (bits_word BinOp.xor y2 (IntKind.u64.wrap (y2 * 131072)))
  generalize bits BinOp.xor .u64 y2 (IntKind.u64.wrap (y2 * 131072)) = y3 at HB ⊢
  obtain ⟨W3, HW3⟩ : ∃ W, Hid ((W2.setCell ⟨q, 0, none⟩ (.int .u64 y3)).drew = W) := ⟨_, rfl⟩
  have R3 : Hid (Rnd W3 q y3) := HW3.out ▸ R2.out.set y3
  have C3 : Hid (Ch (fun k => k = q) w W3) := HW3.out ▸ (C2.out.trans (ch_set W2 q 0 _)).drew
  rw [HW3.out]
  have c3 := R3.out.cell
  clear c2 f2 HW3 R2 C2
  go_wp2
  go_ret
  exact ⟨y3, rfl, HB.out, R3.out, C3.out⟩

theorem nextpow_any (l : Nat) (w : World) (h0 : 0 < l) (h1 : l ≤ 281474976710656) :
    Calls Tryz.prog 115 #[.int .i64 l] w fun e w' => ∃ M k : Nat, e = .returned (.int .u64 M) ∧ M = 2 ^ k ∧ l < M ∧ M ≤ 2 * l ∧ w' = w := by
  have B := hide (Tryz.bits_Len (l : Int) w (by omega) (by omega))
  rw [Int.toNat_natCast] at B
  have hb := Lib.bitLenAux_bounds 64 l (by omega) (by omega)
  have e0 : Lib.bitLenAux 64 l = Lib.bitLen l := rfl
  rw [e0] at hb
  generalize Lib.bitLen l = k at *
  obtain ⟨M, HM⟩ : ∃ M : Nat, Hid ((2 : Nat) ^ k = M) := ⟨_, rfl⟩
  have e1 : (2 : Nat) ^ k = 2 * 2 ^ (k - 1) := by
    obtain ⟨j, rfl⟩ : ∃ j, k = j + 1 := ⟨k - 1, by omega⟩
    rw [Nat.pow_succ, Nat.add_sub_cancel, Nat.mul_comm]
  have HMb : Hid (l < M ∧ M ≤ 2 * l) := by
    rw [← HM.out]
    exact ⟨hb.2.2, by omega⟩
  have hk : k < 64 := by
    rcases Nat.lt_or_ge k 64 with h | h
    · exact h
    · have : 2 ^ 63 ≤ 2 ^ (k - 1) := Nat.pow_le_pow_right (by decide) (by omega)
      omega
  have eM : IntKind.u64.wrap (2 ^ k) = (M : Int) := by
    have h2 := HMb.out
    have e2 : (2 : Int) ^ k = (M : Int) := by rw [← HM.out, Int.natCast_pow]; rfl
    rw [e2, IntKind.wrap_u64]
    omega
  have k0 : (0 : Int) ≤ (k : Int) := by omega
  have k1 : (k : Int) < 64 := by omega
  clear hb e0 e1 hk
  go_enter Tryz.func115, Tryz.ntmps115
  go_wp2_with fail
  refine B.out.mono ?_
  rintro e w' ⟨rfl, rfl⟩
  go_wp2
  go_ret
  exact ⟨M, k, by simp, HM.out.symm, HMb.out.1, HMb.out.2, rfl⟩

set_option maxRecDepth 20000 in
set_option maxHeartbeats 8000000 in
theorem break_any (g c cp : Nat) (d : Array Int) (a b : Nat) (w : World) (h : SRow w g c d) (hab : a + 12 < b) (hb : b ≤ d.size) :
    Calls Tryz.prog 106 #[.slice (some ⟨g, 0, none⟩) d.size cp, .int .i64 a, .int .i64 b] w fun e w' => e = .returned (.tuple #[]) ∧ Sorts w g c (Go.Sort.PermIn a b d) w' := by
  have H := hide h
  have hr := h.room
  obtain ⟨n, HN⟩ : ∃ n, Hid (d.size = n) := ⟨_, rfl⟩
  rw [HN.out] at hb hr ⊢
  obtain ⟨l, HL⟩ : ∃ l, Hid (b - a = l) := ⟨_, rfl⟩
  obtain ⟨m, HM⟩ : ∃ m, Hid (l / 4 = m) := ⟨_, rfl⟩
  obtain ⟨j, HJ⟩ : ∃ j, Hid (a + m * 2 = j) := ⟨_, rfl⟩
  have hl := HL.out
  have hm := HM.out
  have hj := HJ.out
  have e1 : (b : Int) - (a : Int) = (l : Int) := by omega
  have e2 : Int.tdiv (l : Int) 4 = (m : Int) := by rw [Int.tdiv_eq_ediv_of_nonneg (by omega)]; omega
  have e4 : (a : Int) + (m : Int) * 2 = (j : Int) := by omega
  have b1 : (8 : Int) ≤ (l : Int) := by omega
  have b2 : (l : Int) ≤ (n : Int) := by omega
  have b3 : (m : Int) ≤ (n : Int) := by omega
  have q1 : a + 1 ≤ j := by omega
  have q2 : j + 2 ≤ b := by omega
  have q3 : (j : Int) < (n : Int) := by omega
  have q4 : a + l = b := by omega
  have HNe : Hid (g ≠ w.heap.size) := by
    intro e
    have := H.out.lt
    omega
  have eW : IntKind.u64.wrap (l : Int) = (l : Int) := by rw [IntKind.wrap_u64]; omega
  have P := hide (fun W => nextpow_any l W (by omega) (by omega))
  have NX := hide (fun x W h => next_any w.heap.size x W h)
  obtain ⟨q, HQ⟩ : ∃ q, Hid (w.heap.size = q) := ⟨_, rfl⟩
  have S0 := hide (h.alloc (.cells #[.int .u64 (l : Int)] 143))
  have R0 : Hid (Rnd (w.alloc (.cells #[.int .u64 (l : Int)] 143)) q l) := by rw [← HQ.out]; exact World.alloc_heap_new w _
  have C0 : Hid (Ch (fun k => k = g ∨ k = q) w (w.alloc (.cells #[.int .u64 (l : Int)] 143))) := (Ch.refl _ _).alloc _
  rw [HQ.out] at HNe NX
  clear h hl hm hj
  go_enter Tryz.func106, Tryz.ntmps106
  go_wp2_with fail
  rw [HQ.out]
  refine (P.out _).mono ?_
  rintro e w1 ⟨M, k, rfl, hM, hM1, hM2, rfl⟩
  have HMk := hide hM
  have m1 : (0 : Int) < (M : Int) := by omega
  have m2 : (M : Int) ≤ 1125899906842624 := by omega
  clear hM P
  go_wp2
  go_loopw [9] (fun x9 wr => ∃ (x : Nat) (y0 : Int) (d' : Array Int), x9 = .int .i64 x ∧ j ≤ x + 1 ∧ x ≤ j + 2 ∧ Hid (Go.Sort.PermIn a b d d') ∧ Hid (SRow wr g c d') ∧ Hid (Rnd wr q y0) ∧ Hid (Ch (fun k => k = g ∨ k = q) w wr)) (fun x9 _ => j + 2 - (intOf x9).toNat)
  case atStart => exact ⟨j - 1, l, d, by go_num, by omega, by omega, Go.Sort.permIn_refl _ _ _, S0.out, R0.out, C0.out⟩
  case round =>
    obtain ⟨x, y0, d', rfl, hx1, hx2, HPm, HS, HR, HC⟩ := hrel
    by_cases hx : x ≤ j + 1
    · have i1 : (x : Int) ≤ (j : Int) + 1 := by omega
      have N := hide (NX.out y0 wr HR.out)
      go_wp2_with fail
      refine N.out.mono ?_
      rintro e w3 ⟨y, rfl, hy, r3, ch3⟩
      have S3 := hide (HS.out.ch ch3 HNe.out)
      have R3 := hide r3
      have C3 : Hid (Ch (fun k => k = g ∨ k = q) w w3) := HC.out.trans (ch3.more (fun _ _ e => Or.inr e))
      have eA := and_pow hy HMk.out (by omega)
      obtain ⟨o0, HO0⟩ : ∃ o0, Hid (y.toNat % M = o0) := ⟨_, rfl⟩
      rw [HO0.out] at eA
      have ho0 : o0 < M := by rw [← HO0.out]; exact Nat.mod_lt _ (by omega)
      have o1 : (0 : Int) ≤ (o0 : Int) := by omega
      have o2 : (o0 : Int) < (M : Int) := by omega
      clear r3 ch3 N HS HR HC hy
      by_cases ho : l ≤ o0
      · have i2 : (l : Int) ≤ (o0 : Int) := by omega
        obtain ⟨o, HO⟩ : ∃ o, Hid (o0 - l = o) := ⟨_, rfl⟩
        have ho' := HO.out
        have e7 : (o0 : Int) - (l : Int) = (o : Int) := by omega
        have o3 : o < l := by omega
        clear ho'
        obtain ⟨p, HP⟩ : ∃ p, Hid (a + o = p) := ⟨_, rfl⟩
        have hp := HP.out
        have e6 : (a : Int) + (o : Int) = (p : Int) := by omega
        have HX : Hid (Go.Sort.PermIn a b d (Go.Sort.swp d' x p)) := Go.Sort.permIn_trans _ _ _ _ _ HPm.out (Go.Sort.swp_permIn _ _ _ _ _ (by omega) (by omega) (by omega) (by omega) (by rw [HPm.out.1, HN.out]; exact hb))
        have HD : Hid (d'.size = n) := HPm.out.1.trans HN.out
        have HSw := hide (fun q => (S3.out.drewN q).swap (i := x) (j := p) (by rw [HD.out]; omega) (by rw [HD.out]; omega))
        have HCw : Hid (∀ q' u v, Ch (fun k => k = g ∨ k = q) w (((w3.drewN q').setCell ⟨g, x, none⟩ u).setCell ⟨g, p, none⟩ v)) := fun q' u v => (C3.out.drewN q').trans (((ch_set _ g x u).trans (ch_set _ g p v)).more (fun _ _ e => Or.inl e))
        have HRw : Hid (∀ q' u v, Rnd (((w3.drewN q').setCell ⟨g, x, none⟩ u).setCell ⟨g, p, none⟩ v) q y) := fun q' u v => ((R3.out.drewN q').set' HNe.out x u).set' HNe.out p v
        obtain ⟨c1, c2, f1, f2, v, c3⟩ := S3.out.two (i := x) (j := p) (by rw [HD.out]; omega) (by rw [HD.out]; omega)
        generalize d'[x]! = z1 at *
        generalize d'[p]! = z2 at *
        have j1 : (x : Int) < (n : Int) := by omega
        have j2 : (p : Int) < (n : Int) := by omega
        have j3 : (0 : Int) ≤ (x : Int) := by omega
        have j4 : (0 : Int) ≤ (p : Int) := by omega
        clear hp
        go_wp2
        go_region
        go_wp2
        go_roundw
        case rel => exact ⟨x + 1, y, _, by go_num, by omega, by omega, HX.out, HSw.out 1, HRw.out 1 _ _, HCw.out 1 _ _⟩
        case measure => simp [intOf]; omega
      · have i2 : ¬ (l : Int) ≤ (o0 : Int) := by omega
        have o3 : o0 < l := by omega
        obtain ⟨p, HP⟩ : ∃ p, Hid (a + o0 = p) := ⟨_, rfl⟩
        have hp := HP.out
        have e6 : (a : Int) + (o0 : Int) = (p : Int) := by omega
        have HX : Hid (Go.Sort.PermIn a b d (Go.Sort.swp d' x p)) := Go.Sort.permIn_trans _ _ _ _ _ HPm.out (Go.Sort.swp_permIn _ _ _ _ _ (by omega) (by omega) (by omega) (by omega) (by rw [HPm.out.1, HN.out]; exact hb))
        have HD : Hid (d'.size = n) := HPm.out.1.trans HN.out
        have HSw := hide (fun q => (S3.out.drewN q).swap (i := x) (j := p) (by rw [HD.out]; omega) (by rw [HD.out]; omega))
        have HCw : Hid (∀ q' u v, Ch (fun k => k = g ∨ k = q) w (((w3.drewN q').setCell ⟨g, x, none⟩ u).setCell ⟨g, p, none⟩ v)) := fun q' u v => (C3.out.drewN q').trans (((ch_set _ g x u).trans (ch_set _ g p v)).more (fun _ _ e => Or.inl e))
        have HRw : Hid (∀ q' u v, Rnd (((w3.drewN q').setCell ⟨g, x, none⟩ u).setCell ⟨g, p, none⟩ v) q y) := fun q' u v => ((R3.out.drewN q').set' HNe.out x u).set' HNe.out p v
        obtain ⟨c1, c2, f1, f2, v, c3⟩ := S3.out.two (i := x) (j := p) (by rw [HD.out]; omega) (by rw [HD.out]; omega)
        generalize d'[x]! = z1 at *
        generalize d'[p]! = z2 at *
        have j1 : (x : Int) < (n : Int) := by omega
        have j2 : (p : Int) < (n : Int) := by omega
        have j3 : (0 : Int) ≤ (x : Int) := by omega
        have j4 : (0 : Int) ≤ (p : Int) := by omega
        clear hp
        go_wp2
        go_region
        go_wp2
        go_roundw
        case rel => exact ⟨x + 1, y, _, by go_num, by omega, by omega, HX.out, HSw.out 1, HRw.out 1 _ _, HCw.out 1 _ _⟩
        case measure => simp [intOf]; omega
    · have i1 : ¬ (x : Int) ≤ (j : Int) + 1 := by omega
      go_wp2
      go_end0
      exact ⟨rfl, d', HPm.out, HS.out, HC.out.more (fun k hk e => e.elim id (fun e => by have := HQ.out; omega))⟩
end Go.Proofs.YtadcaonkmncgoaaGreat

namespace Go.Proofs.YtadcaonkmncgoaaGreat
open Go.RowKit

/-- A part put in order. -/
def InOrder (a b : Nat) (d r : Array Int) : Prop := Go.Sort.PermIn a b d r ∧ Go.Sort.SortedIn ltI a b r
/-- What is asked of the sort at parts of at most N. -/
def PdqOk (g c cp n N : Nat) : Prop := ∀ (d : Array Int) (a b lim : Nat) (w : World), b - a ≤ N → d.size = n → SRow w g c d → a ≤ b → b ≤ n → Go.Sort.Below ltI a b d → lim ≤ 64 →
  Calls Tryz.prog 102 #[.slice (some ⟨g, 0, none⟩) n cp, .int .i64 a, .int .i64 b, .int .i64 lim] w fun e w' => e = .returned (.tuple #[]) ∧ Sorts w g c (InOrder a b d) w'

theorem swoI : Go.Sort.SWO ltI := Go.Sort.swo_ltInt
theorem ins_ok {a b : Nat} {d : Array Int} (h : a ≤ b) (hb : b ≤ d.size) : InOrder a b d (Go.Sort.insertionSort ltI d a b) := Go.Sort.insertionSort_holds swoI d a b h hb
theorem heap_ok {a b : Nat} {d : Array Int} (h : a ≤ b) (hb : b ≤ d.size) : InOrder a b d (Go.Sort.heapSort ltI d a b) := Go.Sort.heapSort_holds swoI d a b h hb
theorem permI {a b : Nat} {d r s : Array Int} (h : Go.Sort.PermIn a b d r) (k : Go.Sort.PermIn a b r s) : Go.Sort.PermIn a b d s := Go.Sort.permIn_trans _ _ _ _ _ h k

set_option maxRecDepth 40000 in
set_option maxHeartbeats 16000000 in
theorem pdq_step (g c cp n N : Nat) (IH : ∀ M, M < N → PdqOk g c cp n M) : PdqOk g c cp n N := by
  intro d a b lim w hN hdn h hab hb hBl hlim
  have H := hide h
  have hr := h.room
  rw [hdn] at hr
  have HI := hide IH
  have HN := hide hdn
  have HB0 := hide hBl
  have HF : Hid (∀ R, InOrder a b d R → InOrder a b d R) := fun _ h => h
  clear h IH hdn hBl
  go_enter Tryz.func102, Tryz.ntmps102
  go_wp2
  go_loopw [1, 2, 3, 8, 9] (fun x1 x2 x3 x8 x9 wr => ∃ (a' b' l' : Nat) (wb wp : Bool) (d' : Array Int), x1 = .int .i64 a' ∧ x2 = .int .i64 b' ∧ x3 = .int .i64 l' ∧ x8 = .bool wb ∧ x9 = .bool wp ∧ a' ≤ b' ∧ b' ≤ n ∧ l' ≤ 64 ∧ b' - a' ≤ N ∧ Hid (d'.size = n) ∧ Hid (Go.Sort.Below ltI a' b' d') ∧ Hid (∀ R, InOrder a' b' d' R → InOrder a b d R) ∧ Hid (SRow wr g c d') ∧ Hid (Ch (fun k => k = g) w wr)) (fun x1 x2 _ _ _ _ => (intOf x2).toNat - (intOf x1).toNat)
  case atStart => exact ⟨a, b, lim, true, true, d, rfl, rfl, rfl, rfl, rfl, hab, hb, hlim, hN, HN.out, HB0.out, HF.out, H.out, Ch.refl _ _⟩
  case round =>
    obtain ⟨a', b', l', wb, wp, d', rfl, rfl, rfl, rfl, rfl, h1, h2, h3, h4, HD, HBl, HG, HS, HC⟩ := hrel
    obtain ⟨l, HL⟩ : ∃ l, Hid (b' - a' = l) := ⟨_, rfl⟩
    have hl := HL.out
    have e1 : (b' : Int) - (a' : Int) = (l : Int) := by omega
    have hz : b' ≤ d'.size := by rw [HD.out]; exact h2
    have HZ := hide hz
    clear H HF HB0 hN hab hb hlim hz
    by_cases h12 : l ≤ 12
    · have INS := hide (insertion_any g c cp d' a' b' wr HS.out h1 HZ.out)
      rw [HD.out] at INS
      have i1 : (l : Int) ≤ 12 := by omega
      go_wp2_with fail
      refine INS.out.mono ?_
      rintro e w1 ⟨rfl, s1, ch1⟩
      have S1 := hide s1
      have C1 := hide (HC.out.trans ch1)
      clear s1 ch1 INS
      go_wp2
      refine bodyPost_ret (results_none rfl _ _ _) rfl ?_
      exact ⟨rfl, _, HG.out _ (ins_ok h1 HZ.out), S1.out, C1.out⟩
    have i1 : ¬ (l : Int) ≤ 12 := by omega
    by_cases hl0 : l' = 0
    · subst hl0
      have HP := hide (heap_any g c cp d' a' b' wr HS.out (by omega) HZ.out)
      rw [HD.out] at HP
      go_wp2_with fail
      refine HP.out.mono ?_
      rintro e w1 ⟨rfl, s1, ch1⟩
      have S1 := hide s1
      have C1 := hide (HC.out.trans ch1)
      clear s1 ch1 HP
      go_wp2
      refine bodyPost_ret (results_none rfl _ _ _) rfl ?_
      exact ⟨rfl, _, HG.out _ (heap_ok h1 HZ.out), S1.out, C1.out⟩
    have i2 : ((l' : Int) == 0) = false := by rw [beq_eq_false_iff_ne]; omega
    go_upto_if 35 with fail
    go_cut [3] (fun x3 wx => ∃ (l1 : Nat) (d1 : Array Int), x3 = .int .i64 l1 ∧ l1 ≤ 64 ∧ Hid (Go.Sort.PermIn a' b' d' d1) ∧ Hid (SRow wx g c d1) ∧ Hid (Ch (fun k => k = g) w wx))
    case first =>
      cases wb with
      | true =>
        go_wp2
        go_meet
        case rel => exact ⟨l', d', rfl, h3, Go.Sort.permIn_refl _ _ _, HS.out, HC.out⟩
      | false =>
        have BR := hide (break_any g c cp d' a' b' wr HS.out (by omega) HZ.out)
        rw [HD.out] at BR
        go_wp2_with fail
        refine BR.out.mono ?_
        rintro e w1 ⟨rfl, d1, p1, s1, ch1⟩
        have P1 := hide p1
        have S1 := hide s1
        have C1 := hide (HC.out.trans ch1)
        clear p1 s1 ch1 BR
        go_wp2
        go_meet
        case rel => exact ⟨l' - 1, d1, by go_num, by omega, P1.out, S1.out, C1.out⟩
    case rest =>
      obtain ⟨l1, d1, rfl, h5, HP1, HS1, HC1⟩ := hcut
      have PV := hide (pivot_any g c cp d1 a' b' wc HS1.out (by omega) (by rw [HP1.out.1]; exact HZ.out))
      rw [HP1.out.1, HD.out] at PV
      clear HS HC i2 hl0 h3
      go_wp2_with fail
      refine PV.out.mono ?_
      rintro e w2 ⟨pv, t, rfl, hp1, hp2, ht, s2, b2⟩
      have HS2 := hide s2
      have HC2 : Hid (Ch (fun k => k = g) w w2) := HC1.out.trans ((Ch.of_below b2).more (fun _ _ h => h.elim))
      clear s2 b2 PV HS1 HC1
      go_upto_if 50 with fail
      go_cut [11, 12] (fun x11 x12 wx => ∃ (pv : Nat) (t : Int) (d2 : Array Int), x11 = .int .i64 pv ∧ x12 = .int .i64 t ∧ a' ≤ pv ∧ pv < b' ∧ (t = 0 ∨ t = 1) ∧ Hid (Go.Sort.PermIn a' b' d' d2) ∧ Hid (SRow wx g c d2) ∧ Hid (Ch (fun k => k = g) w wx))
      case first =>
        rcases ht with rfl | rfl | rfl
        · go_wp2
          go_meet
          case rel => exact ⟨pv, 0, d1, rfl, rfl, hp1, hp2, Or.inl rfl, HP1.out, HS2.out, HC2.out⟩
        · go_wp2
          go_meet
          case rel => exact ⟨pv, 1, d1, rfl, rfl, hp1, hp2, Or.inr rfl, HP1.out, HS2.out, HC2.out⟩
        · have RV := hide (reverse_any g c cp d1 a' b' w2 HS2.out (by omega) (by rw [HP1.out.1]; exact HZ.out))
          rw [HP1.out.1, HD.out] at RV
          go_wp2_with fail
          refine RV.out.mono ?_
          rintro e w3 ⟨rfl, d2, p2, s3, ch3⟩
          have P2 := hide (permI HP1.out p2)
          have S3 := hide s3
          have C3 := hide (HC2.out.trans ch3)
          clear p2 s3 ch3 RV
          go_wp2
          go_meet
          case rel => exact ⟨(b' - 1) - (pv - a'), 1, d2, by go_num, rfl, by omega, by omega, Or.inr rfl, P2.out, S3.out, C3.out⟩
      case rest =>
        obtain ⟨pv2, t2, d2, rfl, rfl, hq1, hq2, ht2, HP2, HS3, HC3⟩ := hcut
        clear HP1 HS2 HC2 hp1 hp2 ht
        go_upto_region 15 with fail
        go_cut [68] (fun x68 wx => ∃ B : Bool, x68 = .bool B ∧ wx = wc)
        case first =>
          cases wb with
          | false =>
            go_wp2
            go_meet
            case rel => exact ⟨_, rfl, rfl⟩
          | true =>
            cases wp with
            | false =>
              go_wp2
              go_meet
              case rel => exact ⟨_, rfl, rfl⟩
            | true =>
              go_wp2
              go_meet
              case rel => exact ⟨_, rfl, rfl⟩
        case rest =>
          obtain ⟨B, rfl, rfl⟩ := hcut
          go_upto_if 68 with fail
          go_cut [1] (fun x1 wx => x1 = .int .i64 a' ∧ ∃ d3 : Array Int, Hid (Go.Sort.PermIn a' b' d' d3) ∧ Hid (SRow wx g c d3) ∧ Hid (Ch (fun k => k = g) w wx))
          case first =>
            cases B with
            | false =>
              go_wp2
              go_meet
              case rel => exact ⟨rfl, d2, HP2.out, HS3.out, HC3.out⟩
            | true =>
              have hz2 : b' ≤ d2.size := by rw [HP2.out.1]; exact HZ.out
              have PA := hide (partial_any g c cp d2 a' b' wc HS3.out (by omega) hz2)
              have PS := hide (Go.Sort.partialInsertionSort_holds swoI d2 a' b' (by omega) hz2 (HBl.out.perm HZ.out HP2.out))
              rw [HP2.out.1, HD.out] at PA
              clear hz2
              obtain ⟨r, HR⟩ : ∃ r, Hid (Go.Sort.partialInsertionSort ltI d2 a' b' = r) := ⟨_, rfl⟩
              rw [HR.out] at PA PS
              obtain ⟨d3, rb⟩ := r
              go_wp2_with fail
              refine PA.out.mono ?_
              rintro e w4 ⟨rfl, s4, ch4⟩
              have S4 := hide s4
              have C4 := hide (HC3.out.trans ch4)
              clear s4 ch4 PA
              cases rb with
              | true =>
                go_wp2
                refine bodyPost_ret (results_none rfl _ _ _) rfl ?_
                exact ⟨rfl, _, HG.out _ ⟨permI HP2.out PS.out.1, PS.out.2 trivial⟩, S4.out, C4.out⟩
              | false =>
                go_wp2
                go_meet
                case rel => exact ⟨rfl, d3, permI HP2.out PS.out.1, S4.out, C4.out⟩
          case rest =>
            obtain ⟨rfl, d3, HP3, HS4, HC4⟩ := hcut
            have HD3 : Hid (d3.size = n) := HP3.out.1.trans HD.out
            have HB3 : Hid (Go.Sort.Below ltI a' b' d3) := HBl.out.perm HZ.out HP3.out
            have HG3 : Hid (∀ R, InOrder a' b' d3 R → InOrder a b d R) := fun R hR => HG.out R ⟨permI HP3.out hR.1, hR.2⟩
            clear HP2 HS3 HC3 HG HBl HP3 HZ HD
            obtain ⟨B2, HB2⟩ : ∃ B2, Hid ((decide (0 < a') && !ltI d3[a' - 1]! d3[pv2]!) = B2) := ⟨_, rfl⟩
            go_upto_region 17 with fail
            go_cut [87] (fun x87 wx => x87 = .bool B2 ∧ Hid (SRow wx g c d3) ∧ Hid (Ch (fun k => k = g) w wx))
            case first =>
              by_cases ha0 : 0 < a'
              · obtain ⟨m, HM⟩ : ∃ m, Hid (a' - 1 = m) := ⟨_, rfl⟩
                have hm := HM.out
                have e2 : (a' : Int) - 1 = (m : Int) := by omega
                have c1 := HS4.out.cell (i := m) (by rw [HD3.out]; omega)
                have c2 := HS4.out.cell (i := pv2) (by rw [HD3.out]; omega)
                have hB : (!ltI d3[m]! d3[pv2]!) = B2 := by have := HB2.out; rw [decide_eq_true ha0, Bool.true_and, hm] at this; exact this
                generalize d3[m]! = x at c1 hB
                generalize d3[pv2]! = y at c2 hB
                obtain ⟨lv, hlv⟩ : ∃ lv, ltI x y = lv := ⟨_, rfl⟩
                have L := hide (sless_any x y)
                rw [hlv] at L hB
                subst hB
                have j1 : (0 : Int) < (a' : Int) := by omega
                have j2 : (m : Int) < (n : Int) := by omega
                have j3 : (0 : Int) ≤ (m : Int) := by omega
                have j4 : (pv2 : Int) < (n : Int) := by omega
                have j5 : (0 : Int) ≤ (pv2 : Int) := by omega
                clear hlv HB2 hm
                go_big_quiet ((go_at_call 110; exact Calls.quiet_of_same (L.out _)))
                go_wp2
                go_meet
                case rel => exact ⟨rfl, HS4.out.drewN _, HC4.out.drewN _⟩
              · obtain rfl : a' = 0 := by omega
                have hB : false = B2 := by have := HB2.out; rwa [decide_eq_false ha0, Bool.false_and] at this
                subst hB
                clear HB2
                go_big_quiet (fail)
                go_wp2
                go_meet
                case rel => exact ⟨rfl, HS4.out.drewN _, HC4.out.drewN _⟩
            case rest =>
              obtain ⟨rfl, HS5, HC5⟩ := hcut
              clear HS4 HC4
              have hz3 : b' ≤ d3.size := by rw [HD3.out]; exact h2
              cases B2 with
              | true =>
                have hon : 0 < a' ∧ (!ltI d3[a' - 1]! d3[pv2]!) = true := by have := HB2.out; rwa [Bool.and_eq_true, decide_eq_true_eq] at this
                have PE := hide (parteq_any g c cp d3 a' b' pv2 wc HS5.out hq1 hq2 hz3)
                rw [HD3.out] at PE
                obtain ⟨r, HR⟩ : ∃ r, Hid (Go.Sort.partitionEqual ltI d3 a' b' pv2 = r) := ⟨_, rfl⟩
                obtain ⟨mid, d4⟩ := r
                have RE := Go.Sort.round_eq swoI (Go.Sort.partitionEqual_holds _) hon.1 hq1 hq2 hz3 HB3.out (by have := hon.2; simpa using this) HR.out
                rw [HR.out] at PE
                obtain ⟨r1, r2, r3, r4, r5⟩ := RE
                have HR4 := hide r4
                have HR5 : Hid (∀ R, InOrder mid b' d4 R → InOrder a b d R) := fun R hR => HG3.out R (r5 R hR.1 hR.2)
                have HZ4 : Hid (d4.size = n) := r3.trans HD3.out
                clear hon r3 r4 r5 HB2 hz3 HR HB3 HG3
                go_wp2_with fail
                refine PE.out.mono ?_
                rintro e w6 ⟨rfl, s6, ch6⟩
                have S6 := hide s6
                have C6 := hide (HC5.out.trans ch6)
                clear s6 ch6 PE HS5 HC5
                go_wp2
                go_roundw
                case rel => exact ⟨mid, b', l1, wb, wp, d4, by first | rfl | go_num, rfl, rfl, rfl, rfl, r2, h2, h5, by omega, HZ4.out, HR4.out, HR5.out, S6.out, C6.out⟩
                case measure => simp [intOf]; omega
              | false =>
                have PT := hide (part_any g c cp d3 a' b' pv2 wc HS5.out hq1 hq2 hz3)
                rw [HD3.out] at PT
                obtain ⟨r, HR⟩ : ∃ r, Hid (Go.Sort.partition ltI d3 a' b' pv2 = r) := ⟨_, rfl⟩
                obtain ⟨mid, ap, d4⟩ := r
                have RE := Go.Sort.round_part swoI (Go.Sort.partition_holds _) hq1 hq2 hz3 HB3.out HR.out
                rw [HR.out] at PT
                obtain ⟨r1, r2, r3, r4, r4', r5, r6⟩ := RE
                have HR4 := hide r4
                have HR4' := hide r4'
                have HR5 := hide r5
                have HR6 := hide r6
                have HZ4 : Hid (d4.size = n) := r3.trans HD3.out
                clear r3 r4 r4' r5 r6 HB2 hz3 HR HB3
                go_wp2_with fail
                refine PT.out.mono ?_
                rintro e w6 ⟨rfl, s6, ch6⟩
                have S6 := hide s6
                have C6 := hide (HC5.out.trans ch6)
                clear s6 ch6 PT HS5 HC5
                by_cases hlr : mid - a' < b' - mid
                · have k1 : (mid : Int) - (a' : Int) < (b' : Int) - (mid : Int) := by omega
                  have RC := hide (HI.out (mid - a') (by omega) d4 a' mid l1 w6 (Nat.le_refl _) HZ4.out S6.out r1 (by omega) HR4.out h5)
                  go_wp2_with fail
                  refine RC.out.mono ?_
                  rintro e w7 ⟨rfl, dL, pL, s7, ch7⟩
                  have P7 := hide (HR5.out dL pL.1 pL.2)
                  have Z7 : Hid (dL.size = n) := pL.1.1.trans HZ4.out
                  have S7 := hide s7
                  have C7 := hide (C6.out.trans ch7)
                  have G7 : Hid (∀ R, InOrder (mid + 1) b' dL R → InOrder a b d R) := fun R hR => HG3.out R (P7.out.2 R hR.1 hR.2)
                  clear pL s7 ch7 RC
                  go_wp2
                  go_roundw
                  case rel => exact ⟨mid + 1, b', l1, _, ap, dL, by go_num, rfl, rfl, rfl, rfl, by omega, h2, h5, by omega, Z7.out, P7.out.1, G7.out, S7.out, C7.out⟩
                  case measure => simp [intOf]; omega
                · have k1 : ¬ (mid : Int) - (a' : Int) < (b' : Int) - (mid : Int) := by omega
                  obtain ⟨m1, HM1⟩ : ∃ m1, Hid (mid + 1 = m1) := ⟨_, rfl⟩
                  have hm1 := HM1.out
                  have e3 : (mid : Int) + 1 = (m1 : Int) := by omega
                  have RC := hide (HI.out (b' - (mid + 1)) (by omega) d4 (mid + 1) b' l1 w6 (Nat.le_refl _) HZ4.out S6.out (by omega) (by omega) HR4'.out h5)
                  rw [HM1.out] at RC HR6
                  clear hm1
                  go_wp2_with fail
                  refine RC.out.mono ?_
                  rintro e w7 ⟨rfl, dL, pL, s7, ch7⟩
                  have P7 := hide (HR6.out dL pL.1 pL.2)
                  have Z7 : Hid (dL.size = n) := pL.1.1.trans HZ4.out
                  have S7 := hide s7
                  have C7 := hide (C6.out.trans ch7)
                  have G7 : Hid (∀ R, InOrder a' mid dL R → InOrder a b d R) := fun R hR => HG3.out R (P7.out.2 R hR.1 hR.2)
                  clear pL s7 ch7 RC
                  go_wp2
                  go_roundw
                  case rel => exact ⟨a', mid, l1, _, ap, dL, rfl, by go_num, rfl, rfl, rfl, r1, by omega, h5, by omega, Z7.out, P7.out.1, G7.out, S7.out, C7.out⟩
                  case measure => simp [intOf]; omega

theorem pdq_all (g c cp n N : Nat) : PdqOk g c cp n N := Nat.strongRecOn N (fun N ih => pdq_step g c cp n N ih)
end Go.Proofs.YtadcaonkmncgoaaGreat

namespace Go.Proofs.YtadcaonkmncgoaaGreat
open Go.RowKit Go.Maps Go.Shelf

abbrev keyU : Keyed Tryz.prog 24 := int_keyed Tryz.underlying24
/-- A map of words in block b that reads as D. -/
abbrev MapU (w : World) (b n : Nat) (D : DataW Unit) : Prop := w.ownsMap Tryz.prog 24 (unitElem (H := Unit)) b n D
theorem sameU (x y : Int) : (Lit.int .u64 x).sameKey (Lit.int .u64 y) = decide (x = y) := by
  by_cases e : x = y
  · subst e; simp [Lit.sameKey]
  · rw [decide_eq_false e]
    exact sameKey_ne (fun h => e (by cases h; rfl))

/-- The words that came so far, while those that 'left' tells are still to come. -/
structure CollU (D : DataW Unit) (left : Lit → Bool) (zs : List Int) : Prop where
  nd : zs.Nodup
  mem : ∀ x, x ∈ zs ↔ (W64 x ∧ Maps.has D (.int .u64 x) = true ∧ left (.int .u64 x) = false)
theorem CollU.start (D : DataW Unit) : CollU D (Maps.has D) [] := ⟨List.nodup_nil, fun x => by simp⟩
theorem CollU.step {D : DataW Unit} {left : Lit → Bool} {zs : List Int} (h : CollU D left zs) {x : Int} (hx : W64 x) (hl : left (.int .u64 x) = true) (hh : Maps.has D (.int .u64 x) = true) :
    CollU D (fun z => left z && !z.sameKey (.int .u64 x)) (zs ++ [x]) := by
  have hn : x ∉ zs := fun e => by rw [(h.mem x).1 e |>.2.2] at hl; cases hl
  refine ⟨List.nodup_append.2 ⟨h.nd, by simp, fun a ha b hb => ?_⟩, fun y => ?_⟩
  · simp at hb; subst hb; rintro rfl; exact hn ha
  · rw [List.mem_append, h.mem y, List.mem_singleton, sameU]
    by_cases e : y = x
    · subst e; simp [hx, hh]
    · simp [e]
/-- The words of a map, each once. -/
def SetOfU (D : DataW Unit) (zs : List Int) : Prop := zs.Nodup ∧ ∀ x, x ∈ zs ↔ (W64 x ∧ Maps.has D (.int .u64 x) = true)
theorem CollU.done {D : DataW Unit} {left : Lit → Bool} {zs : List Int} (h : CollU D left zs) (hl : ∀ k, left k = false) : SetOfU D zs := ⟨h.nd, fun x => by rw [h.mem x, hl]; simp⟩

theorem keys_any (b : Nat) (w : World) :
    Calls Tryz.prog 89 #[.map (some b)] w fun e w' => e = .returned (.func (.func 100) #[] #[.pointer (some ⟨w.heap.size, 0, none⟩)]) ∧ w' = w.alloc (.cells #[.map (some b)] 114) := by
  go_enter Tryz.func89, Tryz.ntmps89
  go_wp2
  go_ret
  exact ⟨rfl, rfl⟩

set_option maxHeartbeats 2000000 in
set_option maxRecDepth 100000 in
theorem keys_stops (m : Nat) (hm1 : 1 ≤ m) (w0 : World) (Bm b nn : Nat) (D : DataW Unit) (hbox : Boxed w0 Bm 114 (.map (some b))) (hown0 : MapU w0 b nn D) :
    SeqStopsK Fence.wide m Tryz.prog 100 #[.pointer (some ⟨Bm, 0, none⟩)] (fun x : Int => #[.int .u64 x]) KeepsWalks (SetOfU D) (fun _ => True) (Maps.size D) w0 := fun l J Jx W hW hJ hJx hY h0 => by
  have hm := (boxed_below hbox hW).cell
  have hown : MapU W b nn D := hown0.kept (below_grown hW) (by simp)
  refine callsIn_of_wp Tryz.func100 rfl trivial ?_ rfl
  simp only [Tryz.ntmps100, List.size_toArray, List.length_cons, List.length_nil, Nat.reduceAdd, Nat.reduceSub, Array.replicate_succ, Array.replicate_zero, List.push_toArray, List.append_toArray, List.nil_append, List.cons_append]
  gi_wp2_with (first
    | (gi_at_range; refine wpListIn_range_own _ rfl _ 114 rfl 24 126 keyU Tryz.underlying114 _ b nn _ rfl hown ?_; intro w1 hrg0 hg0 hs0)
    | gi_in)
  try go_frame
  gi_loopw [3] (fun _ wr => ∃ (left : Lit → Bool) (cnt : Nat) (zs : List Int), wr.ranges Tryz.prog 24 (unitElem (H := Unit)) b W.heap.size nn D left cnt ∧ zs.length + cnt ≤ Maps.size D ∧ CollU D left zs ∧ J zs wr)
    (fun _ wr => wr.rangeLeft b W.heap.size)
  case atStart =>
    exact ⟨_, _, [], hrg0, by simp, CollU.start D, hJ [] W w1 none h0 hg0 (fun r e => by cases e)⟩
  case round =>
    obtain ⟨left, cnt, zs, hrg, hcs, hC, hJs⟩ := hrel
    gi_wp2_with (first
      | (gi_at_next; refine wpListIn_next_ranges _ rfl _ rfl 24 keyU (unitElem (H := Unit)) (Value.int .u64) id (fun key kl hk => by obtain ⟨x, hx, _⟩ := Maps.keyOf_int_inv Tryz.underlying24 hk; exact ⟨x, hx⟩) (fun v _ _ => ⟨v, rfl⟩) b W.heap.size nn _ _ _ rfl hrg ?_ ?_)
      | gi_in)
    · intro hc0 hl0
      gi_wp2
      go_end0
      exact ⟨⟨_, rfl⟩, .inl ⟨zs, hC.done hl0, hJs⟩⟩
    · intro x c kl yd yp w2 cnt2 hkey hlk hv hat hrg2 hlt hg2 hs2 hen
      obtain ⟨x', ex, rfl, hwx⟩ := Maps.keyOf_int_inv Tryz.underlying24 hkey
      cases ex
      have hJ2 : J zs w2 := hJ zs wr w2 (some W.heap.size) hJs hg2 (fun r e => by cases e; exact ⟨Nat.le_refl _, hrg.iter_walk⟩)
      obtain ⟨fn, tmps, assign, body, hy, hR⟩ := hY zs x w2 hJ2 (by omega)
      clear hs2
      gi_wp2
      refine hR.mono ?_
      have hC2 := hC.step (u64_of_wf hwx) hlk (Maps.has_true_of_atKey hat)
      rintro e W3 (⟨rfl, hJ3, hk3⟩ | ⟨rfl, hJx3⟩)
      · gi_wp2
        have hrg3 := hrg2.of_walks hk3
        go_roundw
        case rel => exact ⟨_, cnt2, zs ++ [x], hrg3, by simp; omega, hC2, hJ3⟩
        case measure => rw [hrg3.left_eq, hrg.left_eq]; exact hlt
      · gi_wp2
        refine bodyPost_ret (results_none rfl _ _ _) rfl ?_
        exact ⟨⟨_, rfl⟩, .inr ⟨_, trivial, hJx3⟩⟩
end Go.Proofs.YtadcaonkmncgoaaGreat

namespace Go.Proofs.YtadcaonkmncgoaaGreat
open Go.RowKit Go.Maps Go.Shelf
attribute [local go_sem] Oper.semAt_some

/-- What lies in s's box while the words come. -/
def BoxS (n0 B : Nat) (pre : List Int) (W : World) : Prop := ∃ v, Boxed W B 23 v ∧ W.ownsRow n0 24 1 v pre.length (pre.map (Value.int .u64)) ∧ True

set_option maxHeartbeats 2000000 in
set_option maxRecDepth 100000 in
theorem appendseq_any (Bm b nn : Nat) (D : DataW Unit) (w : World) (hN : Maps.size D ≤ 1048576) (hbox : Boxed w Bm 114 (.map (some b))) (hown : MapU w b nn D) :
    Calls Tryz.prog 101 #[.slice none 0 0, .func (.func 100) #[] #[.pointer (some ⟨Bm, 0, none⟩)]] w fun e w' => ∃ a n cap zs, e = .returned (.slice a n cap) ∧ OwnU w' w.heap.size a n cap zs ∧ SetOfU D zs ∧ Below w.heap.size w w' := by
  have HSeq := hide (fun w0 h1 h2 => keys_stops 8 (by omega) w0 Bm b nn D h1 h2)
  have HBx := hide hbox
  have HOw := hide hown
  obtain ⟨i0, hi0⟩ := info_parts Tryz.infoU
  have HI := hide hi0
  clear hbox hown hi0
  refine (callsIn_wide (n := 9)).1 ?_
  refine callsIn_of_wp_marks Tryz.func101 rfl trivial ?_ rfl
  simp only [Tryz.ntmps101, List.size_toArray, List.length_cons, List.length_nil, Nat.reduceAdd, Nat.reduceSub, Array.replicate_succ, Array.replicate_zero, List.push_toArray, List.append_toArray, List.nil_append, List.cons_append]
  gi_wp2_with fail
  have hmx : Tryz.prog.follows .mixedOrders = true := by kernel_rfl
  have hb1 : Boxed (w.alloc (.cells #[.slice none 0 0] 23)) w.heap.size 23 (.slice none 0 0) := Boxed.new w _ _
  have hb2 := HBx.out.alloc (.cells #[.slice none 0 0] 23)
  have ho2 := HOw.out.alloc (.cells #[.slice none 0 0] 23)
  have hB0 : Below w.heap.size w (w.alloc (.cells #[.slice none 0 0] 23)) := (Below.refl _ w).alloc (Nat.le_refl _) _
  have hsz : (w.alloc (.cells #[.slice none 0 0] 23)).heap.size = w.heap.size + 1 := by simp
  obtain ⟨W0, hW0⟩ : ∃ W0, w.alloc (.cells #[.slice none 0 0] 23) = W0 := ⟨_, rfl⟩
  rw [hW0] at hb1 hb2 ho2 hB0 hsz ⊢
  clear hW0
  refine wpIn_rangeFunc_ownF rfl (by omega) (gf := 100) (lb := #[.pointer (some ⟨Bm, 0, none⟩)]) rfl trivial (enters_of Tryz.func100 (by kernel_rfl) rfl)
    (HSeq.out W0 hb2 ho2) walksK_t (walksK_b (w := W0)) (Below.refl _ _) (fun _ => rfl)
    (fun pre W => BoxS w.heap.size w.heap.size pre W ∧ Below w.heap.size w W)
    (fun _ _ _ => False)
    (OwnFrom.and (Own.from (holdsRow_own _ _ _ _ _ _ _ _) _) (ownFrom_below (Nat.le_refl _) (by omega)))
    (fun _ _ _ _ _ hs _ _ => hs)
    ⟨⟨_, hb1, World.ownsRow_nil _ _ _ _, trivial⟩, hB0⟩
    (fun x => { tmps := #[.slice none 0 0, .func (.func 100) #[] #[.pointer (some ⟨Bm, 0, none⟩)], .pointer (some ⟨w.heap.size, 0, none⟩), undef, .slice none 0 0, .int .u64 x, .func (.func 100) #[] #[.pointer (some ⟨Bm, 0, none⟩)], .int .u64 x, undef, undef, undef, undef, undef], defers := [] }) ?assign ?body ?done ?stop
  case assign =>
    intro l x W K hK
    gi_wp2
    exact hK
  case body =>
    rintro l pre x W ⟨⟨v, hv, hrow, -⟩, hB⟩ hpre
    have hcell := hv.cell
    have hs1 : w.heap.size ≤ W.heap.size := hB.size
    gi_wp2_with (gi_at_builtin; refine wpListIn_append_own _ rfl _ _ 23 rfl w.heap.size 24 i0 (.int .u64 0) 1 8 Tryz.underlying23 HI.out.1 HI.out.2.1 HI.out.2.2.1 HI.out.2.2.2 rfl (by decide) _ _ _ rfl (hrow.alloc _) ⟨W.heap.size, 0, none⟩ 1 1 [.int .u64 x] rfl rfl (cell_one_new _ _ _) (by simp [Value.oneCell']) (by unfold maxLen; omega) (by omega) (by simp; omega) ?_; intro v' w1 hown' hgrow _; obtain ⟨g', cap', rfl⟩ := ownsRow_succ hown'; obtain ⟨hv1, hv2, hr2, hk2, hb2⟩ := hv.appended (by decide) hrow hs1 (Nat.le_refl _) hown' hgrow; have hc1 := hv1.cell; have hf1 := hv1.frozen)
    refine ⟨hk2, hk2.walks, ⟨_, hv2, ?_, trivial⟩, hB.trans hb2⟩
    rw [List.length_append, List.map_append]
    exact hr2
  case done =>
    rintro Dd xs W hD hS ⟨⟨v, hv, hrow, -⟩, hB⟩ hK
    have hcell := hv.cell
    obtain ⟨ao, cap, rfl⟩ := row_form hrow
    gi_wp2
    refine ⟨by simp, .inl ⟨_, _, rfl, run_takeDeferred hK, ?_⟩⟩
    refine ⟨_, results_tmp rfl _ _ _, ao, xs.length, cap, xs, rfl, ?_, hS, ?_⟩
    · exact ownsRow_putObj hrow _ hK rfl
    · exact hB.trans (belowK_b (w := w) (Nat.le_refl _) _ Dd _ _ (by omega) hK rfl rfl)
  case stop =>
    rintro D c pre W _ _ h _
    exact h.elim
end Go.Proofs.YtadcaonkmncgoaaGreat

namespace Go.Proofs.YtadcaonkmncgoaaGreat
open Go.RowKit Go.Maps

theorem own_srow {w : World} {base n cap : Nat} {a : Option Addr} {zs : List Int} (h : OwnU w base a n cap zs) (hn : n ≤ 1048576) :
    (a = none ∧ n = 0 ∧ zs = []) ∨ ∃ g, a = some ⟨g, 0, none⟩ ∧ base ≤ g ∧ cap ≤ maxLen ∧ SRow w g cap zs.toArray := by
  have hl : zs.length = n := h.len
  unfold OwnU Own at h
  rcases h.2 with ⟨h1, h2⟩ | ⟨g, c, cur, h1, hb, hg, h4, h5, h6, h7⟩
  · simp only [Value.slice.injEq] at h1
    exact Or.inl ⟨h1.1, h2, List.length_eq_zero_iff.1 (by omega)⟩
  · simp only [Value.slice.injEq, true_and] at h1
    obtain ⟨rfl, rfl⟩ := h1
    refine Or.inr ⟨g, rfl, hb, h5, ⟨by simpa [hl] using h4, by simp [hl]; omega, cur, hg, by omega, fun i hi => ?_⟩⟩
    have hi' : i < zs.length := by simpa using hi
    have e : (cur.toList.take (n * 1))[i]? = (zs.map (Value.int .u64))[i]? := by rw [h7]
    rw [List.getElem?_take, if_pos (by omega), List.getElem?_map, List.getElem?_eq_getElem hi', Array.getElem?_toList] at e
    rw [e]
    simp [hi']
theorem srow_own {w : World} {base g cap : Nat} {d : Array Int} (h : SRow w g cap d) (hb : base ≤ g) (hc : cap ≤ maxLen) : OwnU w base (some ⟨g, 0, none⟩) d.size cap d.toList := by
  unfold OwnU Own
  obtain ⟨cur, h1, h2, h3⟩ := h.heap
  refine ⟨by simp, Or.inr ⟨g, cap, cur, rfl, hb, h1, h.fits, hc, by omega, ?_⟩⟩
  apply List.ext_getElem?
  intro i
  rw [Nat.mul_one, List.getElem?_take, List.getElem?_map]
  by_cases hi : i < d.size
  · rw [if_pos hi, Array.getElem?_toList, h3 i hi, Array.getElem?_toList, Array.getElem?_eq_getElem hi]
    simp [hi]
  · rw [if_neg hi, List.getElem?_eq_none (by simpa using hi)]
    rfl
theorem inOrder_list {d r : Array Int} (h : InOrder 0 d.size d r) : r.size = d.size ∧ r.toList.Perm d.toList ∧ r.toList.Pairwise (· ≤ ·) := by
  obtain ⟨⟨h1, -, h3⟩, h4⟩ := h
  refine ⟨h1, ?_, ?_⟩
  · have e1 : r.extract 0 d.size = r := by rw [← h1]; simp
    have e2 : d.extract 0 d.size = d := by simp
    rwa [e1, e2] at h3
  · rw [List.pairwise_iff_getElem]
    intro i j hi hj hij
    have hi' : i < r.size := by simpa using hi
    have hj' : j < r.size := by simpa using hj
    have := h4 i j (Nat.zero_le _) hij (by omega)
    simp only [ltI, Go.Sort.ltInt, decide_eq_false_iff_not, getElem!_pos, hi', hj'] at this
    simp only [Array.getElem_toList]
    omega
theorem below0 {a : Nat} {d : Array Int} : Go.Sort.Below ltI 0 a d := Or.inl rfl

theorem ins0_any (v : Value) (w : World) : Calls Tryz.prog 104 #[v, .int .i64 0, .int .i64 0] w fun e w' => e = .returned (.tuple #[]) ∧ w' = w := by
  go_enter Tryz.func104, Tryz.ntmps104
  go_wp2
  go_loopw [6] (fun x6 wr => x6 = .int .i64 1 ∧ wr = w) (fun _ _ => 0)
  case atStart => exact ⟨rfl, rfl⟩
  case round =>
    obtain ⟨rfl, rfl⟩ := hrel
    go_wp2
    go_end0
    exact ⟨rfl, rfl⟩
theorem pdq0_any (v : Value) (lim : Int) (w : World) : Calls Tryz.prog 102 #[v, .int .i64 0, .int .i64 0, .int .i64 lim] w fun e w' => e = .returned (.tuple #[]) ∧ w' = w := by
  have I := hide (ins0_any v w)
  go_enter Tryz.func102, Tryz.ntmps102
  go_wp2
  go_loopw [1, 2, 3, 8, 9] (fun x1 x2 x3 x8 x9 wr => x1 = .int .i64 0 ∧ x2 = .int .i64 0 ∧ x3 = .int .i64 lim ∧ x8 = .bool true ∧ x9 = .bool true ∧ wr = w) (fun _ _ _ _ _ _ => 0)
  case atStart => exact ⟨rfl, rfl, rfl, rfl, rfl, rfl⟩
  case round =>
    obtain ⟨rfl, rfl, rfl, rfl, rfl, rfl⟩ := hrel
    go_wp2_with fail
    refine I.out.mono ?_
    rintro e w1 ⟨rfl, rfl⟩
    go_wp2
    refine bodyPost_ret (results_none rfl _ _ _) rfl ?_
    exact ⟨rfl, rfl⟩

set_option maxHeartbeats 1000000 in
theorem sort_any (base : Nat) (a : Option Addr) (n cap : Nat) (zs : List Int) (w : World) (h : OwnU w base a n cap zs) (hn : n ≤ 1048576) :
    Calls Tryz.prog 99 #[.slice a n cap] w fun e w' => e = .returned (.tuple #[]) ∧ (∃ zs', OwnU w' base a n cap zs' ∧ zs'.Perm zs ∧ zs'.Pairwise (· ≤ ·)) ∧ Below base w w' := by
  have B := hide (fun W => Tryz.bits_Len (n : Int) W (by omega) (by omega))
  rw [Int.toNat_natCast] at B
  have hk : Lib.bitLen n ≤ 64 := Lib.bitLen_le n 64 (by omega) (by omega)
  rcases own_srow h hn with ⟨rfl, rfl, rfl⟩ | ⟨g, rfl, hb, hc, hs⟩
  · have P := hide (fun lim => pdq0_any (.slice none 0 cap) lim w)
    have H := hide h
    generalize Lib.bitLen 0 = k at *
    clear h
    go_enter Tryz.func99, Tryz.ntmps99
    go_wp2_with fail
    refine (B.out _).mono ?_
    rintro e w1 ⟨rfl, rfl⟩
    go_wp2_with fail
    refine (P.out _).mono ?_
    rintro e w1 ⟨rfl, rfl⟩
    go_wp2
    go_end0
    exact ⟨rfl, ⟨[], H.out, List.Perm.refl _, List.Pairwise.nil⟩, Below.refl _ _⟩
  · have hl : zs.length = n := h.len
    have hz : zs.toArray.size = n := by simpa using hl
    have HZ := hide hz
    have HB := hide hb
    have HC := hide hc
    have hlt := hs.lt
    have HBS : Hid (base ≤ w.heap.size) := by show _ ≤ _; omega
    have P := hide (pdq_all g cap cap n n zs.toArray 0 n (Lib.bitLen n) w (by omega) hz hs (by omega) (Nat.le_refl _) below0 hk)
    generalize Lib.bitLen n = k at *
    clear h hs hb hc hl hz hlt
    go_enter Tryz.func99, Tryz.ntmps99
    go_wp2_with fail
    refine (B.out _).mono ?_
    rintro e w1 ⟨rfl, rfl⟩
    go_wp2_with fail
    refine P.out.mono ?_
    rintro e w1 ⟨rfl, r, hr, sr, ch⟩
    have HR := hide hr
    have SR := hide sr
    have CR := hide ch
    clear hr sr ch P
    go_wp2
    go_end0
    have h2 := HR.out
    rw [← HZ.out] at h2
    obtain ⟨q1, q2, q3⟩ := inOrder_list h2
    refine ⟨rfl, ⟨r.toList, ?_, by simpa using q2, q3⟩, CR.out.below HBS.out (fun k hk e => by have := HB.out; omega)⟩
    have := srow_own SR.out HB.out HC.out
    rwa [q1, HZ.out] at this

theorem collect_any (Bm b nn : Nat) (D : DataW Unit) (w : World) (hN : Maps.size D ≤ 1048576) (hbox : Boxed w Bm 114 (.map (some b))) (hown : MapU w b nn D) :
    Calls Tryz.prog 98 #[.func (.func 100) #[] #[.pointer (some ⟨Bm, 0, none⟩)]] w fun e w' => ∃ a n cap zs, e = .returned (.slice a n cap) ∧ OwnU w' w.heap.size a n cap zs ∧ SetOfU D zs ∧ Below w.heap.size w w' := by
  have A := hide (appendseq_any Bm b nn D w hN hbox hown)
  clear hbox hown
  go_enter Tryz.func98, Tryz.ntmps98
  go_wp2_with fail
  refine A.out.mono ?_
  rintro e w1 ⟨a, n, cap, zs, rfl, h1, h2, h3⟩
  have H1 := hide h1
  have H2 := hide h2
  have H3 := hide h3
  clear h1 h2 h3 A
  go_wp2
  go_ret
  exact ⟨a, n, cap, zs, rfl, H1.out, H2.out, H3.out⟩

/-- A rising list is the set that a map reads as. -/
structure IsSetU (D : DataW Unit) (l : List Int) : Prop where
  up : Up l
  words : ∀ x ∈ l, W64 x
  mem : ∀ x, W64 x → (x ∈ l ↔ Maps.has D (.int .u64 x) = true)
  size : Maps.size D = l.length
theorem set_sorted {D : DataW Unit} {l zs zs' : List Int} (h : IsSetU D l) (hz : SetOfU D zs) (hp : zs'.Perm zs) (hs : zs'.Pairwise (· ≤ ·)) : zs' = l := by
  refine up_ext ?_ h.up (fun x => ?_)
  · unfold Up
    have hnd : zs'.Nodup := hp.nodup_iff.2 hz.1
    exact (hs.and hnd).imp (fun hab => by have h1 := hab.1; have h2 := hab.2; omega)
  · rw [hp.mem_iff, hz.2 x]
    exact ⟨fun hx => (h.mem x hx.1).2 hx.2, fun hx => ⟨h.words x hx, (h.mem x (h.words x hx)).1 hx⟩⟩
theorem set_len {D : DataW Unit} {l zs : List Int} (h : IsSetU D l) (hz : SetOfU D zs) : zs.length = l.length := by
  have hnd : l.Nodup := h.up.imp (fun hab e => by omega)
  exact ((List.perm_ext_iff_of_nodup hz.1 hnd).2 (fun x => by
    rw [hz.2 x]
    exact ⟨fun hx => (h.mem x hx.1).2 hx.2, fun hx => ⟨h.words x hx, (h.mem x (h.words x hx)).1 hx⟩⟩)).length_eq

theorem sorted_any (Bm b nn : Nat) (D : DataW Unit) (l : List Int) (w : World) (hl : IsSetU D l) (hN : l.length ≤ 1048576) (hbox : Boxed w Bm 114 (.map (some b))) (hown : MapU w b nn D) :
    Calls Tryz.prog 88 #[.func (.func 100) #[] #[.pointer (some ⟨Bm, 0, none⟩)]] w fun e w' => ∃ a cap, e = .returned (.slice a l.length cap) ∧ OwnU w' w.heap.size a l.length cap l ∧ Below w.heap.size w w' := by
  have C := hide (collect_any Bm b nn D w (by rw [hl.size]; exact hN) hbox hown)
  have HL := hide hl
  have HN := hide hN
  clear hbox hown hl hN
  go_enter Tryz.func88, Tryz.ntmps88
  go_wp2_with fail
  refine C.out.mono ?_
  rintro e w1 ⟨a, n, cap, zs, rfl, h1, h2, h3⟩
  have hn : n = l.length := h1.len.symm.trans (set_len HL.out h2)
  have S := hide (sort_any w.heap.size a n cap zs w1 h1 (by rw [hn]; exact HN.out))
  have HZ := hide h2
  have HB := hide h3
  have HNn := hide hn
  clear h1 h2 h3 C hn
  go_wp2_with fail
  refine S.out.mono ?_
  rintro e w2 ⟨rfl, ⟨zs', o2, p2, s2⟩, b2⟩
  have e2 := set_sorted HL.out HZ.out p2 s2
  have O2 := hide o2
  have B2 : Hid (Below w.heap.size w w2) := HB.out.trans b2
  have E2 := hide e2
  clear o2 p2 s2 b2 e2 S
  go_wp2
  go_ret
  have hn := HNn.out
  subst hn
  exact ⟨a, cap, rfl, E2.out ▸ O2.out, B2.out⟩
end Go.Proofs.YtadcaonkmncgoaaGreat
