/-
  What the document's own answer (the product as a sum of shifts) comes to, at any text behind any number: contracts, for every world.
  Conditions: the number is a word of 64 bits; the text is of at most 2^63 - 1 bytes, as every text.
-/
import Derived.Test.YtadcaonkmncgoaaFnvA
namespace Go.Proofs.Ytadcaonkmncgoaa
open Go.RowKit
set_option maxRecDepth 20000

set_option maxHeartbeats 1000000 in
theorem refMore_any (h : Int) (s : ByteArray) (w : World) (hh : W64 h) (hs : s.size ≤ 9223372036854775807) :
    Calls Try.prog 68 #[.int .u64 h, .string s] w fun e w' => e = .returned (.int .u64 (fnvS h (numsOf s))) ∧ w' = w := by
  have HH := hide hh
  have HB := hide (get_nums s)
  clear hh
  go_enter Try.func68, Try.ntmps68
  go_wp2
  go_loop [0, 5] (fun r i => ∃ (k : Nat) (R : Int), k ≤ s.size ∧ i = .int .i64 k ∧ r = .int .u64 R ∧ 0 ≤ R ∧ R < 18446744073709551616 ∧ Hid (R = fnvS h ((numsOf s).take k))) (fun _ i => s.size - (intOf i).toNat)
  case atStart => exact ⟨0, h, by omega, rfl, rfl, HH.out.1, HH.out.2, rfl⟩
  case round =>
    obtain ⟨k, R, hk, rfl, rfl, r0, r1, HN⟩ := hrel
    by_cases hlt : k < s.size
    · have HS := hide (fnv_step h s k hlt)
      have hz := nums_byte s k
      have hbk := HB.out k hlt
      generalize btN s k = z at *
      have hx := xor_u64 ⟨r0, r1⟩ (byte_word hz)
      have HX := hide (fxor_word ⟨r0, r1⟩ (byte_word hz))
      have HY : Hid (fxor R z * 1099511628211 % 18446744073709551616 = fnv1 R z) := rfl
      generalize fxor R z = X at *
      obtain ⟨x0, x1⟩ := HX.out
      obtain ⟨z0, z1⟩ := hz
      go_wp2
      refine ⟨⟨k + 1, X * 1099511628211 % 18446744073709551616, by omega, by go_num, ?_, by omega, by omega, by show _ = _; rw [HS.out, ← HN.out]; exact HY.out⟩, by simp [intOf]; omega⟩
      exact congrArg (Value.int .u64) (by simp only [IntKind.wrap_u64]; exact fnv1_shifts X)
    · have : k = s.size := by omega
      subst this
      have HE : Hid (R = fnvS h (numsOf s)) := by show _ = _; rw [HN.out, fnv_whole]
      go_wp2
      go_ret
      rw [← HE.out]
      exact ⟨rfl, rfl⟩

theorem refOf_any (s : ByteArray) (w : World) (hs : s.size ≤ 9223372036854775807) :
    Calls Try.prog 52 #[.string s] w fun e w' => e = .returned (.int .u64 (fnvOf (numsOf s))) ∧ w' = w := by
  have M := hide (refMore_any 14695981039346656037 s w ⟨by decide, by decide⟩ hs)
  go_enter Try.func52, Try.ntmps52
  go_wp2_with fail
  refine M.out.mono ?_
  rintro e w' ⟨rfl, rfl⟩
  go_wp2
  go_ret
  exact ⟨rfl, rfl⟩
end Go.Proofs.Ytadcaonkmncgoaa
