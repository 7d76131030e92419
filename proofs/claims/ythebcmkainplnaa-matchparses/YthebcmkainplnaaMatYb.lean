/-
  The document's deep (how deep a text's brackets are open): a contract, for every world; nothing turns (written by gen/matyb.gen.py).
  Conditions: texts of at most 20,000 bytes.
-/
import Derived.Test.YthebcmkainplnaaMatTz
namespace Go.Proofs.Ythebcmkainplnaa
open Go.RowKit
set_option maxRecDepth 20000

set_option maxHeartbeats 8000000 in
theorem refdeep_any (s : ByteArray) (w : World) (hs : s.size ≤ 20000) :
    Calls Try.prog 38 #[.string s] w fun e w' => e = .returned (.bool (dpS 0 0 s.toList)) ∧ w' = w := by
  obtain ⟨ans, HA⟩ : ∃ ans, Hid (dpS 0 0 s.toList = ans) := ⟨_, rfl⟩
  rw [HA.out]
  go_enter Try.func38, Try.ntmps38
  go_wp2
  go_loopg [3, 4, 5] (s.size + 1) (fun gh o b i wr => ∃ (k n : Nat) (st : Bool), k ≤ s.size + 1 ∧ n ≤ 8 ∧ s.size + 1 - k ≤ gh ∧ o = .int .i64 (n : Int) ∧ b = .bool st ∧ i = .int .i64 (k : Int) ∧ wr = w ∧ Hid (ans = dpS n (if st then 1 else 0) (s.toList.drop k)))
  case atStart => exact ⟨0, 0, false, by omega, by omega, by omega, rfl, rfl, rfl, rfl, HA.out.symm⟩
  case round =>
    obtain ⟨k, n, st, hk, hn, hg, rfl, rfl, rfl, rfl, A⟩ := hrel
    clear HA
    by_cases hlt : k < s.size
    · have i1 : (0 : Int) ≤ (k : Int) := by omega
      have i2 : (k : Int) < (s.size : Int) := by omega
      obtain ⟨z, hz⟩ : ∃ z : Int, Hid (((s[k]'hlt).toNat : Int) = z) := ⟨_, rfl⟩
      have hb := hz.out
      have ST := hide (drop_byte s k hlt)
      cases st with
      | false =>
        simp only [Bool.false_eq_true, if_false] at A
        rw [ST.out] at A
        by_cases e34 : z = 34
        · have t34 : (z == 34) = true := by simp [e34]
          have c34 : s[k]'hlt = 34 := u8_eq hb e34
          clear e34
          have A2 : Hid (ans = dpS (n) 1 (s.toList.drop (k + 1))) := by
            rw [A.out, dpS, if_neg (by decide), if_pos c34]
            exact rfl
          clear A ST hz
          go_wp2
          go_roundg (s.size + 1 - (k + 1))
          case measure => omega
          case rel => exact ⟨k + 1, n, true, by omega, by omega, by omega, rfl, rfl, by go_num, rfl, A2⟩
        · have t34 : (z == 34) = false := by simp [e34]
          have c34 : s[k]'hlt ≠ 34 := u8_ne hb e34
          clear e34
          by_cases e40 : z = 40
          · have t40 : (z == 40) = true := by simp [e40]
            have c40 : s[k]'hlt = 40 := u8_eq hb e40
            clear e40
            by_cases hbig : 8 < n + 1
            · have t8 : (8 : Int) < (n : Int) + 1 := by omega
              have FT : Hid (true = ans) := by
                rw [A.out, dpS, if_neg (by decide), if_neg c34, if_neg (by decide), if_pos c40, if_pos hbig]
                exact rfl
              clear A ST hz hbig
              go_wp2
              go_ret
              exact ⟨by rw [← FT.out]; rfl, rfl⟩
            · have t8 : ¬ (8 : Int) < (n : Int) + 1 := by omega
              have A2 : Hid (ans = dpS (n + 1) 0 (s.toList.drop (k + 1))) := by
                rw [A.out, dpS, if_neg (by decide), if_neg c34, if_neg (by decide), if_pos c40, if_neg hbig]
                exact rfl
              clear A ST hz
              go_wp2
              go_roundg (s.size + 1 - (k + 1))
              case measure => omega
              case rel => exact ⟨k + 1, n + 1, false, by omega, by omega, by omega, by go_num, rfl, by go_num, rfl, A2⟩
          · have t40 : (z == 40) = false := by simp [e40]
            have c40 : s[k]'hlt ≠ 40 := u8_ne hb e40
            clear e40
            by_cases e41 : z = 41
            · have t41 : (z == 41) = true := by simp [e41]
              have c41 : s[k]'hlt = 41 := u8_eq hb e41
              clear e41
              by_cases h0 : 0 < n
              · have t0 : (0 : Int) < (n : Int) := by omega
                obtain ⟨n, rfl⟩ : ∃ n', n = n' + 1 := ⟨n - 1, by omega⟩
                have A2 : Hid (ans = dpS (n) 0 (s.toList.drop (k + 1))) := by
                  rw [A.out, dpS, if_neg (by decide), if_neg c34, if_neg (by decide), if_neg c40, if_pos c41, Nat.add_sub_cancel]
                  exact rfl
                clear A ST hz
                go_wp2
                go_roundg (s.size + 1 - (k + 1))
                case measure => omega
                case rel => exact ⟨k + 1, n, false, by omega, by omega, by omega, rfl, rfl, by go_num, rfl, A2⟩
              · have t0 : ¬ (0 : Int) < (n : Int) := by omega
                have A2 : Hid (ans = dpS (n) 0 (s.toList.drop (k + 1))) := by
                  rw [A.out, dpS, if_neg (by decide), if_neg c34, if_neg (by decide), if_neg c40, if_pos c41, show n - 1 = n by omega]
                  exact rfl
                clear A ST hz
                go_wp2
                go_roundg (s.size + 1 - (k + 1))
                case measure => omega
                case rel => exact ⟨k + 1, n, false, by omega, by omega, by omega, rfl, rfl, by go_num, rfl, A2⟩
            · have t41 : (z == 41) = false := by simp [e41]
              have c41 : s[k]'hlt ≠ 41 := u8_ne hb e41
              clear e41
              have A2 : Hid (ans = dpS (n) 0 (s.toList.drop (k + 1))) := by
                rw [A.out, dpS_plain c34 c40 c41]
                exact rfl
              clear A ST hz
              go_wp2
              go_roundg (s.size + 1 - (k + 1))
              case measure => omega
              case rel => exact ⟨k + 1, n, false, by omega, by omega, by omega, rfl, rfl, by go_num, rfl, A2⟩
      | true =>
        simp only [if_true] at A
        rw [ST.out] at A
        by_cases e34 : z = 34
        · have t34 : (z == 34) = true := by simp [e34]
          have c34 : s[k]'hlt = 34 := u8_eq hb e34
          have t92 : (z == 92) = false := by simp [e34]
          clear e34
          have A2 : Hid (ans = dpS (n) 0 (s.toList.drop (k + 1))) := by
            rw [A.out, dpS, if_neg (by decide), if_pos c34]
            exact rfl
          clear A ST hz
          go_wp2
          go_roundg (s.size + 1 - (k + 1))
          case measure => omega
          case rel => exact ⟨k + 1, n, false, by omega, by omega, by omega, rfl, rfl, by go_num, rfl, A2⟩
        · have t34 : (z == 34) = false := by simp [e34]
          have c34 : s[k]'hlt ≠ 34 := u8_ne hb e34
          clear e34
          by_cases e92 : z = 92
          · have t92 : (z == 92) = true := by simp [e92]
            have c92 : s[k]'hlt = 92 := u8_eq hb e92
            clear e92
            have A2 : Hid (ans = dpS (n) 1 (s.toList.drop (k + 1 + 1))) := by
              rw [A.out, dpS, if_neg (by decide), if_neg c34, if_pos rfl, if_pos c92, dpS_skip, List.drop_drop]
              exact rfl
            clear A ST hz
            go_wp2
            go_roundg (s.size + 1 - (k + 1 + 1))
            case measure => omega
            case rel => exact ⟨k + 1 + 1, n, true, by omega, by omega, by omega, rfl, rfl, by go_num, rfl, A2⟩
          · have t92 : (z == 92) = false := by simp [e92]
            have c92 : s[k]'hlt ≠ 92 := u8_ne hb e92
            clear e92
            have A2 : Hid (ans = dpS (n) 1 (s.toList.drop (k + 1))) := by
              rw [A.out, dpS_in c34 c92]
              exact rfl
            clear A ST hz
            go_wp2
            go_roundg (s.size + 1 - (k + 1))
            case measure => omega
            case rel => exact ⟨k + 1, n, true, by omega, by omega, by omega, rfl, rfl, by go_num, rfl, A2⟩
    · have FF : Hid (false = ans) := by
        have e : s.toList.drop k = [] := List.drop_eq_nil_of_le (by rw [ba_len]; omega)
        rw [A.out, e]
        exact rfl
      clear A
      have i2 : ¬ (k : Int) < (s.size : Int) := by omega
      go_wp2
      go_ret
      exact ⟨by rw [← FF.out]; rfl, rfl⟩
end Go.Proofs.Ythebcmkainplnaa
