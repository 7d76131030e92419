/-
  What fnv.More, fnv.Of and the document's examples come to, at any text behind any number: contracts, for every world.
  Conditions: the number is a word of 64 bits; the text is of at most 2^63 - 1 bytes, as every text.
-/
import Derived.Test.YtadcaonkmncgoaaGreatFnvK
import Derived.Test.YtadcaonkmncgoaaGreatVintA
import Derived.Test.YtadcaonkmncgoaaGreatRows
namespace Go.Proofs.YtadcaonkmncgoaaGreat
open Go.RowKit
set_option maxRecDepth 20000

/-- A text's byte. -/
def btN (s : ByteArray) (n : Nat) : Int := (numsOf s).getD n 0
theorem get_nums (s : ByteArray) : ∀ (n : Nat) (h : n < s.size), ((s[n]'h).toNat : Int) = btN s n := by
  intro n h
  unfold btN
  have h1 : n < s.data.toList.length := by rw [Array.length_toList]; exact h
  unfold numsOf
  rw [List.getD_eq_getElem?_getD, List.getElem?_map, List.getElem?_eq_getElem h1]
  rfl
theorem nums_byte (s : ByteArray) (n : Nat) : 0 ≤ btN s n ∧ btN s n ≤ 255 := getD_all (fun z hz => u8_of_wf (numsOf_wf s z hz)) (by decide) n
theorem byte_word {z : Int} (h : 0 ≤ z ∧ z ≤ 255) : W64 z := ⟨h.1, by omega⟩
theorem xor_u64 {a b : Int} (ha : W64 a) (hb : W64 b) : bits .xor .u64 a b = fxor a b := by
  have hw := fxor_word ha hb
  unfold W64 at ha hb hw
  obtain ⟨a, rfl⟩ := Int.eq_ofNat_of_zero_le ha.1
  obtain ⟨b, rfl⟩ := Int.eq_ofNat_of_zero_le hb.1
  unfold fxor at *
  simp only [Int.toNat_natCast] at *
  show IntKind.u64.wrap ((BitVec.ofInt 64 (a : Int) ^^^ BitVec.ofInt 64 (b : Int)).toNat : Int) = _
  rw [BitVec.toNat_xor, nat_u64 (by omega), nat_u64 (by omega), IntKind.wrap_u64]
  omega
theorem take_getD {zs : List Int} {k : Nat} (h : k < zs.length) : zs.take (k + 1) = zs.take k ++ [zs.getD k 0] := by
  rw [List.take_succ_eq_append_getElem h, List.getD_eq_getElem?_getD, List.getElem?_eq_getElem h]
  rfl
theorem fnv_step (h : Int) (s : ByteArray) (k : Nat) (hk : k < s.size) : fnvS h ((numsOf s).take (k + 1)) = fnv1 (fnvS h ((numsOf s).take k)) (btN s k) := by
  rw [take_getD (by rw [numsOf_len]; exact hk), fnvS_one]
  rfl
theorem fnv_whole (h : Int) (s : ByteArray) : fnvS h ((numsOf s).take s.size) = fnvS h (numsOf s) := by
  rw [List.take_of_length_le (by rw [numsOf_len]; omega)]

set_option maxHeartbeats 1000000 in
theorem fnvMore_any (h : Int) (s : ByteArray) (w : World) (hh : W64 h) (hs : s.size ≤ 9223372036854775807) :
    Calls Tryz.prog 95 #[.int .u64 h, .string s] w fun e w' => e = .returned (.int .u64 (fnvS h (numsOf s))) ∧ w' = w := by
  have HH := hide hh
  have HB := hide (get_nums s)
  clear hh
  go_enter Tryz.func95, Tryz.ntmps95
  go_wp2
  go_loop [0, 8] (fun r i => ∃ (k : Nat) (R : Int), k ≤ s.size ∧ i = .int .i64 k ∧ r = .int .u64 R ∧ 0 ≤ R ∧ R < 18446744073709551616 ∧ Hid (R = fnvS h ((numsOf s).take k))) (fun _ i => s.size - (intOf i).toNat)
  case atStart => exact ⟨0, h, by omega, rfl, rfl, HH.out.1, HH.out.2, rfl⟩
  case round =>
    obtain ⟨k, R, hk, rfl, rfl, r0, r1, HN⟩ := hrel
    by_cases hlt : k < s.size
    · have HS := hide (fnv_step h s k hlt)
      have hz := nums_byte s k
      have hbk := HB.out k hlt
      generalize btN s k = z at *
      have hx := xor_u64 ⟨r0, r1⟩ (byte_word hz)
      have HX := hide (fxor_word ⟨r0, r1⟩ (byte_word hz))
      have HY : Hid (fxor R z * 1099511628211 % 18446744073709551616 = fnv1 R z) := rfl
      generalize fxor R z = X at *
      obtain ⟨x0, x1⟩ := HX.out
      obtain ⟨z0, z1⟩ := hz
      go_wp2
      exact ⟨⟨k + 1, X * 1099511628211 % 18446744073709551616, by omega, by go_num, by go_num, by omega, by omega, by show _ = _; rw [HS.out, ← HN.out]; exact HY.out⟩, by simp [intOf]; omega⟩
    · have : k = s.size := by omega
      subst this
      have HE : Hid (R = fnvS h (numsOf s)) := by show _ = _; rw [HN.out, fnv_whole]
      go_wp2
      go_ret
      rw [← HE.out]
      exact ⟨rfl, rfl⟩

theorem fnvOf_any (s : ByteArray) (w : World) (hs : s.size ≤ 9223372036854775807) :
    Calls Tryz.prog 85 #[.string s] w fun e w' => e = .returned (.int .u64 (fnvOf (numsOf s))) ∧ w' = w := by
  have M := hide (fnvMore_any 14695981039346656037 s w ⟨by decide, by decide⟩ hs)
  go_enter Tryz.func85, Tryz.ntmps85
  go_wp2_with fail
  refine M.out.mono ?_
  rintro e w' ⟨rfl, rfl⟩
  go_wp2
  go_ret
  exact ⟨rfl, rfl⟩

theorem nums_none : fnvOf (numsOf { data := #[] }) = 14695981039346656037 := rfl
theorem nums_a : fnvOf (numsOf { data := #[97] }) = 12638187200555641996 := by decide +kernel

end Go.Proofs.YtadcaonkmncgoaaGreat
