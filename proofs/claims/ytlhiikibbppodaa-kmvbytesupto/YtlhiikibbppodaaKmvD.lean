/-
  The document's own answer of layer 8 (the laws' reference): a thing comes, how many unlike things: contracts, for every world.
  Conditions: the slice shows its numbers; one more hash: of a list that may be; the division by its contract.
-/
import Derived.Test.YtlhiikibbppodaaKmvM
import Derived.Test.YtlhiikibbppodaaFnvR
namespace Go.Proofs.Ytlhiikibbppodaa
open Go.RowKit

/-- How many unlike things. -/
def distK (l : List Int) : Int :=
  if chkK l then (if l.length < 1024 then l.length else if l.getD 1023 0 = 18446744073709551615 then 1023 else 1023 * 18446744073709551616 / (l.getD 1023 0 + 1)) else 0
/-- The division's contract, as far as it is called. -/
def DivK (f : FuncId) : Prop := ∀ (d : Int) (w : World), 1023 < d → d < 18446744073709551616 →
  Calls Try.prog f #[.int .u64 1023, .int .u64 0, .int .u64 d] w fun e w' => (∃ r, e = .returned (.tuple #[.int .u64 (1023 * 18446744073709551616 / d), .int .u64 r, .bool true])) ∧ ∃ q, w' = w.drewN q

theorem refadd_any (a : Option Addr) (n cap : Nat) (l : List Int) (s : ByteArray) (w : World) (hr : Row .u64 w a n l) (hup : Up l) (hn : n ≤ 1024) (hc : n ≤ cap) (hnil : a = none → cap = 0) (hs : s.size ≤ 9223372036854775807) :
    Calls Try.prog 15 #[.slice a n cap, .string s] w fun e w' => BackU w w' e a (hashK 1024 l (fnvOf (numsOf s))) := by
  have C1 := hide (refOf_any s w hs)
  have C2 := hide (refhash_any a n cap l (fnvOf (numsOf s)) w hr hup hn hc hnil (fnvOf_word _))
  clear hr hup hn hc hnil
  go_enter Try.func15, Try.ntmps15
  go_wp2_with fail
  refine C1.out.mono ?_
  rintro e w1 ⟨rfl, rfl⟩
  go_wp2_with fail
  refine C2.out.mono ?_
  rintro e w2 ⟨a2, c2, rfl, h⟩
  have H := hide h
  clear h
  go_wp2
  go_ret
  exact ⟨a2, c2, rfl, H.out⟩

/-- Numbers that rise, from 0 on: each is at least its place. -/
theorem up_place {l : List Int} (hl : Up l) (h0 : ∀ x ∈ l, W64 x) : ∀ i, i < l.length → (i : Int) ≤ l.getD i 0 := by
  intro i
  induction i with
  | zero =>
    intro hi
    exact (words_getD h0 0).1
  | succ j ih =>
    intro hi
    have h1 := ih (by omega)
    have h2 : l.getD j 0 < l.getD (j + 1) 0 := by
      rw [List.getD_eq_getElem?_getD, List.getD_eq_getElem?_getD, List.getElem?_eq_getElem (by omega), List.getElem?_eq_getElem hi]
      exact List.pairwise_iff_getElem.1 hl j (j + 1) (by omega) hi (by omega)
    omega

set_option maxHeartbeats 1000000 in
theorem refdist_any (HD : DivK 28) (a : Option Addr) (n cap : Nat) (l : List Int) (w : World) (hr : Row .u64 w a n l) :
    Calls Try.prog 23 #[.slice a n cap] w fun e w' => e = .returned (.int .u64 (distK l)) ∧ ∃ q, w' = w.drewN q := by
  have HR := hide hr
  have HL := hide hr.1
  have C1 := hide (refchk_any a n cap l w hr)
  have hnb := hr.2.1
  have HWs := hide hr.words
  clear hr
  have HDD := hide HD
  clear HD
  go_enter Try.func23, Try.ntmps23
  go_wp2_with fail
  refine C1.out.mono ?_
  rintro e w1 ⟨rfl, q, rfl⟩
  by_cases hck : chkK l = true
  · rw [hck]
    obtain ⟨hup, hlen⟩ := chk_up hck
    have hn : n ≤ 1024 := by rw [← HL.out]; exact hlen
    by_cases hlt : n < 1024
    · have HE : Hid (distK l = n) := by
        show _ = _
        unfold distK
        rw [if_pos hck, if_pos (by rw [HL.out]; exact hlt), HL.out]
      have d1 : (n : Int) < 1024 := by omega
      have d2 : 0 ≤ (n : Int) := by omega
      clear hck hup hlen C1
      go_wp2
      go_ret
      rw [HE.out]
      exact ⟨by go_num, q, rfl⟩
    · obtain rfl : n = 1024 := by omega
      obtain ⟨b, off, rfl, hcc⟩ := row_at HR.out (j := 1023) (by omega)
      have f1 := hcc 1023 (by omega) (w.drewN q) (bel_drewN (Below.refl _ _) q)
      have hp := up_place hup HWs.out 1023 (by rw [HL.out]; omega)
      have hx := words_getD HWs.out 1023
      have HE := hide (show distK l = _ from by unfold distK; rw [if_pos hck, if_neg (by rw [HL.out]; omega)])
      obtain ⟨x, HX⟩ : ∃ x, Hid (l.getD 1023 0 = x) := ⟨_, rfl⟩
      rw [HX.out] at f1 hp hx HE
      obtain ⟨x0, x1⟩ := hx
      clear hck hup hlen C1 hcc hlt
      by_cases hm : x = 18446744073709551615
      · subst hm
        have HE2 : Hid (distK l = 1023) := by show _ = _; rw [HE.out, if_pos rfl]
        clear HE HX
        go_wp2
        go_ret
        rw [HE2.out]
        exact ⟨rfl, _, rfl⟩
      · have HE2 : Hid (distK l = 1023 * 18446744073709551616 / (x + 1)) := by show _ = _; rw [HE.out, if_neg hm]
        have d1 : (x == 18446744073709551615) = false := by simpa using hm
        have hov : (x + 1) % 18446744073709551616 = x + 1 := Int.emod_eq_of_lt (by omega) (by omega)
        have C2 := hide (HDD.out (x + 1) (w.drewN q) (by omega) (by omega))
        clear HE HX
        go_wp2_with (go_at_call 28; go_must (refine C2.out.mono ?_))
        rintro e w2 ⟨⟨r, rfl⟩, q2, rfl⟩
        go_wp2
        go_ret
        rw [HE2.out]
        exact ⟨rfl, q + q2, rfl⟩
  · have hckf : chkK l = false := by simpa using hck
    have HE : Hid (distK l = 0) := by
      show _ = _
      unfold distK
      rw [if_neg hck]
    rw [hckf]
    clear hck hckf C1
    go_wp2
    go_ret
    rw [HE.out]
    exact ⟨rfl, q, rfl⟩
end Go.Proofs.Ytlhiikibbppodaa
