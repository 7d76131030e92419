/-
  What vint.PutText and vint.size come to: contracts, for every world.
  Conditions: each number fits its kind; the slice shows its bytes; where bytes are put, there is room for them.
-/
import Derived.Test.YtbpmmeagpefglaaVintB
import Derived.Test.YtbpmmeagpefglaaVintL
namespace Go.Proofs.Ytbpmmeagpefglaa
open Go.RowKit

set_option maxHeartbeats 400000 in
theorem puttext_any (s : ByteArray) (a : Option Addr) (n cap : Nat) (zs : List Int) (w : World) (hn : n + s.size ≤ 140737488355318) (hc : n ≤ cap) (hr : Row .u8 w a n zs) :
    Calls Try.prog 11 #[.slice a n cap, .string s] w fun e w' => ∃ a' cap', e = .returned (.slice a' (n + (putT (numsOf s)).length) cap') ∧ Mine w' w.heap.size a' (n + (putT (numsOf s)).length) cap' (zs ++ putT (numsOf s)) ∧ Below w.heap.size w w' := by
  obtain ⟨i0, hi, hz0, hz1, hz2⟩ := info_parts Try.info5
  have A := hide (fun w1 => apart_any a n cap hc w1)
  have hsz : s.size ≤ 140737488355318 := by omega
  have B := hide (number_any (s.size : Int) w.heap.size a n n zs w (w64_len (by omega)) (by omega) (Nat.le_refl _) (Or.inr ⟨rfl, hr⟩))
  have HL : Hid (n + (putS (s.size : Int)).length + s.size = n + (putT (numsOf s)).length ∧ zs ++ (putS (s.size : Int) ++ numsOf s) = zs ++ putT (numsOf s) ∧ (putS (s.size : Int)).length ≤ 10) := by
    refine ⟨?_, ?_, (putS_len _).2⟩
    · unfold putT; rw [numsOf_len, List.length_append, numsOf_len]; omega
    · unfold putT; rw [numsOf_len]
  clear hr
  go_enter Try.func11, Try.ntmps11
  go_wp2_with fail
  refine (A.out _).mono ?_
  rintro e w1 ⟨rfl, rfl⟩
  go_wp2_with fail
  refine B.out.mono ?_
  rintro e w2 ⟨a2, cap2, rfl, h1, h2⟩
  have hle := HL.out.2.2
  have hb : w1.heap.size ≤ w2.heap.size := h2.size
  have H1 := hide h1
  have H2 := hide h2
  clear h1 h2 A B
  go_wp2_with (at_builtin; refine wpList_append_text _ rfl _ _ 25 9 rfl w1.heap.size 5 i0 Try.underlying25 Try.underlying9 hi hz0 hz1 hz2 _ _ _ _ rfl H1.out s rfl (by omega) hb ?_)
  intro a' cap' w' h1 h2
  have HF : Hid (Below w1.heap.size w1 w') := H2.out.trans h2
  rw [HL.out.2.1, HL.out.1] at h1
  have H3 := hide h1
  rw [HL.out.1]
  clear h1 h2 hle
  go_wp2
  go_ret
  exact ⟨a', cap', rfl, H3, HF⟩

/-- What size answers. -/
def sizeE (r : Option (Int × Int)) : Ending :=
  match r with
  | none => .returned (.tuple #[.int .i64 0, .int .i64 0, .bool false])
  | some p => .returned (.tuple #[.int .i64 p.1, .int .i64 p.2, .bool true])

set_option maxHeartbeats 2000000 in
theorem size_any (at' most : Int) (a : Option Addr) (n cap : Nat) (zs : List Int) (w : World) (ha : (Lit.int .i64 at').wf = true) (hm : (Lit.int .i64 most).wf = true) (hc : n ≤ cap) (hr : Row .u8 w a n zs) :
    Calls Try.prog 28 #[.slice a n cap, .int .i64 at', .int .i64 most] w fun e w' => e = sizeE (sizeS zs at' most) ∧ w' = w := by
  have G := hide (get_any at' a n cap zs w ha hc hr)
  have HZ := hide hr.bytes
  have hl := hr.1
  have hn := hr.2.1
  obtain ⟨m0, m1⟩ := i64_of_wf hm
  clear hr hm
  cases hg : getS zs at' with
  | none =>
    rw [hg] at G
    simp only [gotE] at G
    unfold sizeS
    rw [hg]
    simp only [sizeE]
    clear hg hl
    go_enter Try.func28, Try.ntmps28
    go_wp2_with fail
    refine G.out.mono ?_
    rintro e w' ⟨rfl, rfl⟩
    go_wp2
    go_ret3
    exact ⟨rfl, rfl⟩
  | some p =>
    obtain ⟨v, nx⟩ := p
    obtain ⟨hw, k, hk0, hk, hnx, hle, _⟩ := getS_some HZ.out hg
    have hn0 : 0 ≤ nx := by omega
    have hn1 : nx ≤ n := by omega
    rw [hg] at G
    simp only [gotE] at G
    unfold sizeS
    rw [hg]
    simp only
    rw [hl]
    have w0 := hw.1
    have w1 := hw.2
    clear hw hk0 hk hnx hle hg hl
    by_cases h1 : most < 0
    · rw [if_pos (Or.inl h1)]
      simp only [sizeE]
      go_enter Try.func28, Try.ntmps28
      go_wp2_with fail
      refine G.out.mono ?_
      rintro e w' ⟨rfl, rfl⟩
      go_wp2
      go_ret3
      exact ⟨rfl, rfl⟩
    · by_cases h2 : (n : Int) - nx < most
      · by_cases h3 : (n : Int) - nx < v
        · rw [if_pos (by omega)]
          simp only [sizeE]
          go_enter Try.func28, Try.ntmps28
          go_wp2_with fail
          refine G.out.mono ?_
          rintro e w' ⟨rfl, rfl⟩
          go_wp2
          go_ret3
          exact ⟨rfl, rfl⟩
        · rw [if_neg (by omega)]
          simp only [sizeE]
          go_enter Try.func28, Try.ntmps28
          go_wp2_with fail
          refine G.out.mono ?_
          rintro e w' ⟨rfl, rfl⟩
          go_wp2
          go_ret3
          exact ⟨rfl, rfl⟩
      · by_cases h3 : most < v
        · rw [if_pos (by omega)]
          simp only [sizeE]
          go_enter Try.func28, Try.ntmps28
          go_wp2_with fail
          refine G.out.mono ?_
          rintro e w' ⟨rfl, rfl⟩
          go_wp2
          go_ret3
          exact ⟨rfl, rfl⟩
        · rw [if_neg (by omega)]
          simp only [sizeE]
          go_enter Try.func28, Try.ntmps28
          go_wp2_with fail
          refine G.out.mono ?_
          rintro e w' ⟨rfl, rfl⟩
          go_wp2
          go_ret3
          exact ⟨rfl, rfl⟩
end Go.Proofs.Ytbpmmeagpefglaa
