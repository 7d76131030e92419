/-
  Whether two lists of numbers are the same, by the laws' own SameNums: a contract, for every world.
  Conditions: the slices show their numbers.
-/
import Derived.Test.YtlhiikibbppodaaVintA
import Derived.Test.YtlhiikibbppodaaRows
import Derived.WalkKit
namespace Go.Proofs.Ytlhiikibbppodaa
open Go.RowKit

theorem take_step {ls : List Int} {k : Nat} (h : k < ls.length) : ls.take (k + 1) = ls.take k ++ [ls.getD k 0] := by
  rw [List.take_succ_eq_append_getElem h, List.getD_eq_getElem?_getD, List.getElem?_eq_getElem h]
  rfl

set_option maxHeartbeats 1000000 in
theorem same_any (a : Option Addr) (n cap : Nat) (xs : List Int) (b : Option Addr) (m capb : Nat) (ys : List Int) (w : World) (hx : Row .u64 w a n xs) (hy : Row .u64 w b m ys) :
    Calls Try.prog 20 #[.slice a n cap, .slice b m capb] w fun e w' => e = .returned (.bool (decide (xs = ys))) ∧ Below w.heap.size w w' := by
  have hl := hx.1
  have hm := hy.1
  have hn := hx.2.1
  have hn2 := hy.2.1
  by_cases he : n = m
  · subst he
    have HX := hide hx
    have HY := hide hy
    have HL := hide hl
    have HM := hide hm
    clear hx hy hl hm
    go_enter Try.func20, Try.ntmps20
    go_wp2
    go_loopw [5] (fun i wr => ∃ k : Nat, k ≤ n ∧ i = .int .i64 k ∧ Hid (xs.take k = ys.take k) ∧ Hid (Below w.heap.size w wr)) (fun i _ => n - (intOf i).toNat)
    case atStart => exact ⟨0, by omega, rfl, by show _ = _; simp, Below.refl _ _⟩
    case round =>
      obtain ⟨k, hk, rfl, HT, HW⟩ := hrel
      by_cases hlt : k < n
      · have q0 := HX.out.below HW.out (Nat.le_refl _)
        have q1 := HY.out.below HW.out (Nat.le_refl _)
        obtain ⟨_, _, _, h | ⟨x0, o0, rfl, f0⟩⟩ := q0
        · omega
        obtain ⟨_, _, _, h | ⟨x1, o1, rfl, f1⟩⟩ := q1
        · omega
        have g0 := f0 k hlt
        have g1 := f1 k hlt
        have S0 := hide (take_step (ls := xs) (k := k) (by rw [HL.out]; exact hlt))
        have S1 := hide (take_step (ls := ys) (k := k) (by rw [HM.out]; exact hlt))
        have i1 : (0 : Int) ≤ (k : Int) := by omega
        have i2 : (k : Int) < (n : Int) := by omega
        have HG : Hid (xs.getD k 0 ≠ ys.getD k 0 → xs ≠ ys) := fun h e => h (by rw [e])
        clear f0 f1
        generalize xs.getD k 0 = p at *
        generalize ys.getD k 0 = q at *
        by_cases hpq : p = q
        · subst hpq
          have HT2 : Hid (xs.take (k + 1) = ys.take (k + 1)) := by show _ = _; rw [S0.out, S1.out, HT.out]
          have t : (p != p) = false := by simp
          go_wp2
          go_region
          go_wp2
          go_roundw
          case rel => exact ⟨k + 1, by omega, by go_num, HT2, HW.out.drew⟩
          case measure => simp [intOf]; omega
        · have t : (p != q) = true := by simpa using hpq
          have HN : Hid (decide (xs = ys) = false) := by show _ = _; simpa using HG.out hpq
          clear hpq
          go_wp2
          go_region
          go_wp2
          go_ret
          refine ⟨?_, HW.out.drew⟩
          show Ending.returned (.bool false) = _
          rw [HN.out]
      · have : k = n := by omega
        subst this
        have HN : Hid (decide (xs = ys) = true) := by
          have := HT.out
          rw [List.take_of_length_le (by rw [HL.out]; omega), List.take_of_length_le (by rw [HM.out]; omega)] at this
          show _ = _
          simpa using this
        go_wp2
        go_ret
        refine ⟨?_, HW.out⟩
        show Ending.returned (.bool true) = _
        rw [HN.out]
  · have hne : decide (xs = ys) = false := by
      simp only [decide_eq_false_iff_not]
      rintro rfl
      omega
    have t : ((n : Int) != (m : Int)) = true := by simp; omega
    rw [hne]
    clear hne hl hm hx hy
    go_enter Try.func20, Try.ntmps20
    go_wp2
    go_ret
    exact ⟨rfl, Below.refl _ _⟩
end Go.Proofs.Ytlhiikibbppodaa
