/-
  How many a histogram has seen: sums, Count, Rank: contracts, for every world; they change nothing.
  Conditions: the histogram lies where it is said to lie; numbers are words of 64 bits.
-/
import Derived.Test.YtjngpdhhkkambabHistA
import Derived.Test.YtjngpdhhkkambabHistAa
import Derived.Test.YtjngpdhhkkambabHistS
import Derived.Deep.QuietTactic
import Derived.BigQuiet
namespace Go.Proofs.Ytjngpdhhkkambab
open Go.RowKit

theorem take_ints {l : List Int} {k : Nat} (h : k < l.length) : l.take (k + 1) = l.take k ++ [l.getD k 0] := by
  rw [List.take_succ_eq_append_getElem h, List.getD_eq_getElem?_getD, List.getElem?_eq_getElem h]
  rfl
theorem drop_ints {l : List Int} {k : Nat} (h : k < l.length) : l.drop k = l.getD k 0 :: l.drop (k + 1) := by
  rw [List.drop_eq_getElem_cons h, List.getD_eq_getElem?_getD, List.getElem?_eq_getElem h]
  rfl
theorem wordsH_take {l : List Int} (h : WordsH l) (k : Nat) : WordsH (l.take k) := fun x hx => h x (List.mem_of_mem_take hx)

set_option maxHeartbeats 2000000 in
theorem hsum_any (g : Nat) (H : List Int) (n cap : Nat) (w : World) (hH : HistAt w g H) (hn : n ≤ 7424) :
    Calls Try.prog 43 #[.slice (some ⟨g, 0, none⟩) n cap] w fun e w' => e = .returned (.int .u64 (satAll 0 (H.take n))) ∧ w' = w := by
  have HH := hide hH
  clear hH
  go_enter Try.func43, Try.ntmps43
  go_wp2
  go_loop [3, 8] (fun s i => ∃ (k : Nat) (R : Int), k ≤ n ∧ s = .int .u64 R ∧ i = .int .i64 k ∧ 0 ≤ R ∧ R < 18446744073709551616 ∧ Hid (R = satAll 0 (H.take k))) (fun _ i => n - (intOf i).toNat)
  case atStart => exact ⟨0, 0, by omega, rfl, rfl, by omega, by omega, rfl⟩
  case round =>
    obtain ⟨k, R, hk, rfl, rfl, r0, r1, HT⟩ := hrel
    by_cases hlt : k < n
    · have hc := HH.out.cell (i := k) (by omega)
      have hy := HH.out.getD k
      have HS : Hid (satAll 0 (H.take (k + 1)) = satS R (H.getD k 0)) := by
        show _ = _
        rw [take_ints (by rw [HH.out.len]; omega), satAll_snoc, ← HT.out]
      have i1 : (0 : Int) ≤ (k : Int) := by omega
      have i2 : (k : Int) < (n : Int) := by omega
      generalize H.getD k 0 = y at *
      have A := hide (add_any R y ⟨r0, r1⟩ hy w)
      rw [satS_addS] at A
      have hsw := satS_word ⟨r0, r1⟩ hy
      generalize satS R y = S at *
      clear hy
      go_wp2_with fail
      refine A.out.mono ?_
      rintro e w' ⟨rfl, rfl⟩
      go_wp2
      exact ⟨⟨k + 1, S, by omega, rfl, by go_num, hsw.1, hsw.2, HS.out.symm⟩, by simp [intOf]; omega⟩
    · have : k = n := by omega
      subst this
      have HE : Hid (satAll 0 (H.take k) = R) := HT.out.symm
      go_wp2
      go_ret
      rw [HE.out]
      exact ⟨rfl, rfl⟩

theorem count_spS {w : World} {g : Nat} {H : List Int} (hH : HistAt w g H) : satAll 0 (H.take 7424) = countS (spS H) := by
  unfold countS
  rw [count_same hH.words, List.take_of_length_le (by rw [hH.len]; omega)]
set_option maxHeartbeats 2000000 in
theorem hcount_any (g : Nat) (H : List Int) (w : World) (hH : HistAt w g H) :
    Calls Try.prog 20 #[.pointer (some ⟨g, 0, none⟩)] w fun e w' => e = .returned (.tuple #[.int .u64 (countS (spS H)), .int .i64 (countE (spS H))]) ∧ w' = w := by
  have S := hide (hsum_any g H 7424 7424 w hH (by omega))
  rw [count_spS hH] at S
  have HF : Hid (countE (spS H) = if countS (spS H) = 18446744073709551615 then 11 else 0) := rfl
  clear hH
  generalize countS (spS H) = R at *
  generalize countE (spS H) = E at *
  by_cases hR : R = 18446744073709551615
  · have t : (R == 18446744073709551615) = true := by simpa using hR
    rw [if_pos hR] at HF
    rw [HF.out]
    have HR := hide hR
    clear hR
    go_enter Try.func20, Try.ntmps20
    go_wp2_with fail
    refine S.out.mono ?_
    rintro e w' ⟨rfl, rfl⟩
    go_wp2
    go_ret2
    rw [HR.out]
    exact ⟨rfl, rfl⟩
  · have t : (R == 18446744073709551615) = false := by simpa using hR
    rw [if_neg hR] at HF
    rw [HF.out]
    clear hR
    go_enter Try.func20, Try.ntmps20
    go_wp2_with fail
    refine S.out.mono ?_
    rintro e w' ⟨rfl, rfl⟩
    go_wp2
    go_ret2
    exact ⟨rfl, rfl⟩

theorem slice_seen (g k : Nat) (hk : k < 7424) (w : World) :
    (Instr.sliceAt 69 (.pointer (some ⟨g, 0, none⟩)) none (some (.int .i64 ((k : Int) + 1))) none).run Try.prog w = .ok (.slice (some ⟨g, 0, none⟩) (k + 1) 7424) w := by
  have hl : Try.prog.arrayLen 69 = 7424 := by kernel_rfl
  rw [run_sliceAt_array_h (P := Try.prog) w 69 ⟨g, 0, none⟩ Try.underlying69 .i64 ((k : Int) + 1) (by omega) (by rw [hl]; omega), hl]
  have hs : (sizeOf (Try.prog.elem 69)).run Try.prog w = .ok 1 w := by kernel_rfl
  rw [hs]
  simp only [Result.andThen, slicedAt, show ((k : Int) + 1).toNat = k + 1 by omega]
  simp [Addr.add]
set_option maxHeartbeats 2000000 in
theorem hrank_any (g : Nat) (H : List Int) (v : Int) (w : World) (hH : HistAt w g H) (hv : W64 v) :
    Calls Try.prog 22 #[.pointer (some ⟨g, 0, none⟩), .int .u64 v] w fun e w' => e = .returned (.int .u64 (rankS (spS H) v)) ∧ ∃ q, w' = w.drewN q := by
  have B := hide (fun w => bucket_any v w hv)
  obtain ⟨b0, b1⟩ := bucketS_range hv.1 hv.2
  have HR : rankS (spS H) v = satAll 0 (H.take (bucketS v + 1).toNat) := rank_same hH.words _
  rw [HR]
  clear HR hv
  generalize bucketS v = bk at *
  obtain ⟨k, rfl⟩ := Int.eq_ofNat_of_zero_le b0
  rw [show ((k : Int) + 1).toNat = k + 1 by omega]
  have S := hide (fun j c => hsum_any g H (k + 1) c (w.drewN j) ⟨hH.heap, hH.len, hH.words⟩ (by omega))
  have hk : (k : Int) + 1 ≤ 7424 := by omega
  have hwr : IntKind.i64.wrap ((k : Int) + 1) = (k : Int) + 1 := by rw [IntKind.wrap_i64]; omega
  have hsl := slice_seen g k (by omega)
  clear hH
  generalize satAll 0 (H.take (k + 1)) = R at *
  go_enter Try.func22, Try.ntmps22
  go_wp2
  go_quiet (first | (go_at_call 33; exact Calls.quiet_of_same (B.out _)) | (go_at_call 43; exact Calls.quiet_of_same (S.out _ _)))
  go_wp2
  go_ret
  exact ⟨rfl, _, rfl⟩
end Go.Proofs.Ytjngpdhhkkambab
