/-
  The document's own answer of layer 7 (the laws' reference): how many were seen, ranks and quantiles of a list of buckets: contracts, for every world.
  Conditions: the slice shows its buckets; quantiles: of buckets that may be.
-/
import Derived.Test.YtjngpdhhkkambaaHistR
import Derived.Test.YtjngpdhhkkambaaHistM
import Derived.Test.YtjngpdhhkkambaaWideF
namespace Go.Proofs.Ytjngpdhhkkambaa
open Go.RowKit

def countS (l : Bks) : Int := satAll 0 (l.map (·.2))
def countE (l : Bks) : Int := if countS l = 18446744073709551615 then 11 else 0
def rankS (l : Bks) (v : Int) : Int := satAll 0 ((upB l (bucketS v)).map (·.2))
/-- Which of how many a part asks for. -/
def wantS (n a b : Int) : Int := if ceilV a n b < 1 then 1 else ceilV a n b
def quantS (l : Bks) (a b : Int) : Int × Int :=
  if b = 0 ∨ b < a then (0, 5) else if countS l = 18446744073709551615 then (0, 11) else if countS l = 0 then (0, 3)
  else match findB (wantS (countS l) a b) 0 l with
    | some j => (lowS j, 0)
    | none => (0, 3)

theorem satAll_word {s : Int} {l : List Int} (hs : 0 ≤ s ∧ s < 18446744073709551616) (hl : WordsH l) : 0 ≤ satAll s l ∧ satAll s l < 18446744073709551616 := by
  unfold satAll
  induction l generalizing s with
  | nil => exact hs
  | cons c t ih => exact ih (satS_word hs (hl c (List.mem_cons_self ..))) (fun x hx => hl x (List.mem_cons_of_mem _ hx))
theorem satAll_snoc (s : Int) (l : List Int) (c : Int) : satAll s (l ++ [c]) = satS (satAll s l) c := by unfold satAll; rw [List.foldl_append]; rfl
theorem wordsB_take {l : Bks} (h : WordsB l) (k : Nat) : WordsB (l.take k) := fun x hx => h x (List.mem_of_mem_take hx)
theorem satS_addS (a b : Int) : addS a b = satS a b := rfl
theorem two_at (l : Bks) (k : Nat) {x y : Int} (h : l.getD k (0, 0) = (x, y)) (hk : k < l.length) : (l.take (k + 1)).map (·.2) = (l.take k).map (·.2) ++ [y] := by
  rw [take_bks hk, h, List.map_append]
  rfl

set_option maxHeartbeats 2000000 in
theorem refcount_any (a : Option Addr) (n cap : Nat) (l : Bks) (w : World) (hr : RowB w a n l) :
    Calls Try.prog 42 #[.slice a n cap] w fun e w' => e = .returned (.tuple #[.int .u64 (countS l), .int .i64 (countE l)]) ∧ w' = w := by
  have HWB := hide (fit_words hr.2.2.1)
  have HR := hide hr
  have HL := hide hr.1
  have hn := hr.2.1
  clear hr
  go_enter Try.func42, Try.ntmps42
  go_wp2
  go_loop [4, 5] (fun s i => ∃ (k : Nat) (R : Int), k ≤ n ∧ s = .int .u64 R ∧ i = .int .i64 k ∧ 0 ≤ R ∧ R < 18446744073709551616 ∧ Hid (R = satAll 0 ((l.take k).map (·.2)))) (fun _ i => n - (intOf i).toNat)
  case atStart => exact ⟨0, 0, by omega, rfl, rfl, by omega, by omega, rfl⟩
  case round =>
    obtain ⟨k, R, hk, rfl, rfl, r0, r1, HT⟩ := hrel
    by_cases hlt : k < n
    · obtain ⟨_, _, hfit, h | ⟨b, off, rfl, hc⟩⟩ := HR.out
      · omega
      obtain ⟨-, g1⟩ := hc k hlt
      have hy := u64_of_wf (getD_fit hfit k).2
      have HS : Hid (∀ x y, l.getD k (0, 0) = (x, y) → satAll 0 ((l.take (k + 1)).map (·.2)) = satS R y) := by
        intro x y h
        rw [two_at l k h (by rw [HL.out]; exact hlt), satAll_snoc, ← HT.out]
      have i1 : (0 : Int) ≤ (k : Int) := by omega
      have i2 : (k : Int) < (n : Int) := by omega
      clear hc hfit
      generalize l.getD k (0, 0) = x at *
      obtain ⟨x, y⟩ := x
      simp only at g1 hy
      have HS2 := hide (HS.out x y rfl)
      have A := hide (refadd_any R y ⟨r0, r1⟩ hy w)
      rw [satS_addS] at A
      have hsw := satS_word ⟨r0, r1⟩ hy
      generalize satS R y = S at *
      clear hy HS
      go_wp2_with fail
      refine A.out.mono ?_
      rintro e w' ⟨rfl, rfl⟩
      go_wp2
      exact ⟨⟨k + 1, S, by omega, rfl, by go_num, hsw.1, hsw.2, HS2.out.symm⟩, by simp [intOf]; omega⟩
    · have : k = n := by omega
      subst this
      have HE : Hid (countS l = R) := by
        show _ = _
        rw [HT.out, List.take_of_length_le (by rw [HL.out]; omega)]
        rfl
      have HF : Hid (countE l = if R = 18446744073709551615 then 11 else 0) := by show _ = _; unfold countE; rw [HE.out]
      by_cases hR : R = 18446744073709551615
      · have t : (R == 18446744073709551615) = true := by simpa using hR
        rw [if_pos hR] at HF
        clear hR
        go_wp2
        go_ret2
        rw [HE.out, HF.out]
        exact ⟨rfl, rfl⟩
      · have t : (R == 18446744073709551615) = false := by simpa using hR
        rw [if_neg hR] at HF
        clear hR
        go_wp2
        go_ret2
        rw [HE.out, HF.out]
        exact ⟨rfl, rfl⟩

theorem upB_cons_le {j : Int} {x y : Int} {t : Bks} (h : x ≤ j) : upB ((x, y) :: t) j = (x, y) :: upB t j := by
  unfold upB; rw [List.takeWhile_cons, if_pos (by simpa using h)]
theorem upB_cons_gt {j : Int} {x y : Int} {t : Bks} (h : j < x) : upB ((x, y) :: t) j = [] := by
  unfold upB; rw [List.takeWhile_cons, if_neg (by simpa using h)]
set_option maxHeartbeats 2000000 in
theorem refrank_any (a : Option Addr) (n cap : Nat) (l : Bks) (v : Int) (w : World) (hr : RowB w a n l) (hv : W64 v) :
    Calls Try.prog 27 #[.slice a n cap, .int .u64 v] w fun e w' => e = .returned (.int .u64 (rankS l v)) ∧ ∃ q, w' = w.drewN q := by
  have HR := hide hr
  have HL := hide hr.1
  have hn := hr.2.1
  have HRK : Hid (rankS l v = satAll 0 ((upB l (bucketS v)).map (·.2))) := rfl
  have CB := hide (fun w => refbucket_any v w hv)
  generalize bucketS v = bk at *
  clear hr hv
  go_enter Try.func27, Try.ntmps27
  go_wp2
  go_loopw [5, 6] (fun s i wr => ∃ (k : Nat) (R : Int), k ≤ n ∧ s = .int .u64 R ∧ i = .int .i64 k ∧ 0 ≤ R ∧ R < 18446744073709551616 ∧ Hid (R = satAll 0 ((l.take k).map (·.2)) ∧ upB l bk = l.take k ++ upB (l.drop k) bk) ∧ Hid (∃ q, wr = w.drewN q)) (fun _ i _ => n - (intOf i).toNat)
  case atStart => exact ⟨0, 0, by omega, rfl, rfl, by omega, by omega, ⟨rfl, rfl⟩, ⟨0, rfl⟩⟩
  case round =>
    obtain ⟨k, R, hk, rfl, rfl, r0, r1, HT, HW⟩ := hrel
    obtain ⟨q, hq⟩ := HW.out
    have HQ : Hid (∀ j, ∃ q, wr.drewN j = w.drewN q) := fun j => ⟨q + j, by rw [hq]; simp [World.drewN, Nat.add_assoc]⟩
    by_cases hlt : k < n
    · obtain ⟨_, _, hfit, h | ⟨b, off, rfl, hc⟩⟩ := HR.out
      · omega
      obtain ⟨g0, g1⟩ := hc k hlt
      have f0 : wr.cell? ⟨b, off + k * 2, none⟩ = some (.int .i64 (l.getD k (0, 0)).1) := by rw [hq]; exact g0
      have f1 : wr.cell? ⟨b, off + k * 2 + 1, none⟩ = some (.int .u64 (l.getD k (0, 0)).2) := by rw [hq]; exact g1
      have hy := u64_of_wf (getD_fit hfit k).2
      have HD := hide (drop_bks (l := l) (k := k) (by rw [HL.out]; exact hlt))
      have HK := hide (take_bks (l := l) (k := k) (by rw [HL.out]; exact hlt))
      have HS : Hid (∀ x y, l.getD k (0, 0) = (x, y) → satAll 0 ((l.take (k + 1)).map (·.2)) = satS R y) := by
        intro x y h
        rw [two_at l k h (by rw [HL.out]; exact hlt), satAll_snoc, ← HT.out.1]
      have i1 : (0 : Int) ≤ (k : Int) := by omega
      have i2 : (k : Int) < (n : Int) := by omega
      clear hc hfit g0 g1 hq
      generalize l.getD k (0, 0) = x at *
      obtain ⟨x, y⟩ := x
      simp only at f0 f1 hy
      have d0 : decide ((k : Int) < (n : Int)) = true := decide_eq_true i2
      by_cases hx : x ≤ bk
      · have d1 : decide (x ≤ bk) = true := decide_eq_true hx
        have HN : Hid (upB l bk = l.take (k + 1) ++ upB (l.drop (k + 1)) bk) := by
          show _ = _
          rw [HT.out.2, HD.out, upB_cons_le hx, HK.out]
          simp
        have HS2 := hide (HS.out x y rfl)
        have A := hide (fun w => refadd_any R y ⟨r0, r1⟩ hy w)
        rw [satS_addS] at A
        have hsw := satS_word ⟨r0, r1⟩ hy
        generalize satS R y = S at *
        clear hy HS HT HD HK hx
        go_wp2
        go_quiet ((go_at_call 14; exact Calls.quiet_of_same (CB.out _)))
        go_wp2_with fail
        refine (A.out _).mono ?_
        rintro e w' ⟨rfl, rfl⟩
        go_wp2
        go_roundw
        case rel => exact ⟨k + 1, S, by omega, rfl, by go_num, hsw.1, hsw.2, ⟨HS2.out.symm, HN.out⟩, HQ.out _⟩
        case measure => simp [intOf]; omega
      · have d1 : decide (x ≤ bk) = false := decide_eq_false hx
        have HE : Hid (rankS l v = R) := by
          show _ = _
          rw [HRK.out, HT.out.1, HT.out.2, HD.out, upB_cons_gt (by omega), List.append_nil]
        clear hy HS HT HD HK hx
        go_wp2
        go_quiet ((go_at_call 14; exact Calls.quiet_of_same (CB.out _)))
        go_wp2
        go_ret
        rw [HE.out]
        exact ⟨rfl, HQ.out _⟩
    · have : k = n := by omega
      subst this
      have HE : Hid (rankS l v = R) := by
        show _ = _
        rw [HRK.out, HT.out.1, HT.out.2, List.drop_of_length_le (by rw [HL.out]; omega)]
        simp [upB]
      have d0 : decide ((k : Int) < (k : Int)) = false := decide_eq_false (by omega)
      clear HT
      go_wp2
      go_quiet (fail)
      go_wp2
      go_ret
      rw [HE.out]
      exact ⟨rfl, HQ.out _⟩
end Go.Proofs.Ytjngpdhhkkambaa
