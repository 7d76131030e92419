/-
  The document's reader of texts (hex, Name): contracts, for every world (written by gen/labhx.gen.py).
  Conditions: the reader lies in a block of its own; its place is within the text.
-/
import Derived.Test.YthebcmkainplnaaLabRd
namespace Go.Proofs.Ythebcmkainplnaa
open Go.RowKit
set_option maxRecDepth 20000

theorem hex_fwd {c : UInt8} {h : Nat} (e : hexv c = some h) : hxD h = c ∧ h < 16 := by
  have key : ∀ n, n < 256 → ∀ h, h < 16 → hexv (UInt8.ofNat n) = some h → hxD h = UInt8.ofNat n := by decide +kernel
  have h16 : h < 16 := by
    unfold hexv at e
    split at e
    · rename_i hc
      simp only [Option.some.injEq] at e
      have h1 : 48 ≤ c.toNat := hc.1
      have h2 : c.toNat ≤ 57 := hc.2
      omega
    · split at e
      · rename_i hc
        simp only [Option.some.injEq] at e
        have h1 : 97 ≤ c.toNat := hc.1
        have h2 : c.toNat ≤ 102 := hc.2
        omega
      · cases e
  have h1 := key c.toNat c.toNat_lt h h16
  rw [UInt8.ofNat_toNat] at h1
  exact ⟨h1 e, h16⟩
theorem dig_get : ∀ k : Nat, (h : k < 16) → (⟨#[48, 49, 50, 51, 52, 53, 54, 55, 56, 57, 97, 98, 99, 100, 101, 102]⟩ : ByteArray)[k]'h = hxD k := by decide +kernel

/-- What hex tells. -/
def hexT (c : UInt8) : Value := match hexv c with
  | some h => .tuple #[.int .u8 (h : Int), .bool true]
  | none => .tuple #[.int .u8 0, .bool false]
set_option maxHeartbeats 2000000 in
theorem hex_any (c : UInt8) (w : World) :
    Calls Try.prog 93 #[.int .u8 (c.toNat : Int)] w fun e w' => e = .returned (hexT c) ∧ w' = w := by
  have HY : Hid (∀ k, k < 16 → hxD k = c → hexT c = .tuple #[.int .u8 (k : Int), .bool true]) := fun k hk e => by
    unfold hexT
    rw [← e, hex_back k hk]
  have HN : Hid ((∀ j, j < 16 → hxD j ≠ c) → hexT c = .tuple #[.int .u8 0, .bool false]) := fun h => by
    unfold hexT
    cases e : hexv c with
    | none => rfl
    | some k => exact absurd (hex_fwd e).1 (h k (hex_fwd e).2)
  generalize hexT c = ans at *
  go_enter Try.func93, Try.ntmps93
  go_wp2
  go_loopw [4] (fun i wr => ∃ k : Nat, i = .int .i64 k ∧ k ≤ 16 ∧ wr = w ∧ Hid (∀ j, j < k → hxD j ≠ c)) (fun i _ => 16 - (intOf i).toNat)
  case atStart => exact ⟨0, rfl, by decide, rfl, fun j hj => by omega⟩
  case round =>
    obtain ⟨k, rfl, hk, rfl, A⟩ := hrel
    by_cases hlt : k < 16
    · have i1 : (0 : Int) ≤ (k : Int) := by omega
      have i2 : (k : Int) < 16 := by omega
      have hb : ((((⟨#[48, 49, 50, 51, 52, 53, 54, 55, 56, 57, 97, 98, 99, 100, 101, 102]⟩ : ByteArray)[k]'hlt).toNat : Nat) : Int) = ((hxD k).toNat : Int) := by rw [dig_get k hlt]
      by_cases he : hxD k = c
      · have F := hide (HY.out k hlt he)
        rw [he] at hb
        have e2 : (k : Int) % 256 = (k : Int) := by omega
        have e3 : IntKind.u8.wrap (k : Int) = (k : Int) := by rw [IntKind.wrap_u8]; omega
        clear he
        generalize (c.toNat : Int) = z at *
        go_wp2
        go_ret2
        exact ⟨by rw [F.out]; rfl, rfl⟩
      · have A2 : Hid (∀ j, j < k + 1 → hxD j ≠ c) := fun j hj => by
          by_cases e : j = k
          · rw [e]; exact he
          · exact A.out j (by omega)
        obtain ⟨y, hy⟩ : ∃ y : Int, Hid (((hxD k).toNat : Int) = y) := ⟨_, rfl⟩
        have hn : (y == (c.toNat : Int)) = false := by
          rw [beq_eq_false_iff_ne, ← hy.out]
          intro e
          exact he (UInt8.toNat_inj.1 (by omega))
        have hn' : ¬ y = (c.toNat : Int) := by simpa using hn
        rw [hy.out] at hb
        clear he hy A
        generalize (c.toNat : Int) = z at *
        go_wp2
        go_roundw
        case rel => exact ⟨k + 1, by go_num, by omega, by first | rfl | trivial, A2⟩
        case measure => simp [intOf]; omega
    · have i2 : ¬ (k : Int) < 16 := by omega
      have F := hide (HN.out (fun j hj => A.out j (by omega)))
      go_wp2
      go_ret2
      exact ⟨by rw [F.out]; rfl, rfl⟩

/-- Where the name ends that begins at place k. -/
def nmE (s : ByteArray) (k : Nat) : Nat := k + ((s.toList.drop k).takeWhile nmS).length
theorem nmE_on {s : ByteArray} {k : Nat} (h : k < s.size) (hn : nmS (s[k]'h) = true) : nmE s k = nmE s (k + 1) := by
  unfold nmE
  have hl : k < s.toList.length := by rw [ba_len]; exact h
  rw [List.drop_eq_getElem_cons hl, List.takeWhile_cons]
  have e : s.toList[k]'hl = s[k]'h := by
    have := byte_at s k h
    rw [List.getElem?_eq_getElem hl] at this
    simpa using this
  rw [e, if_pos hn, List.length_cons]
  omega
theorem nmE_off {s : ByteArray} {k : Nat} (h : k < s.size) (hn : nmS (s[k]'h) = false) : nmE s k = k := by
  unfold nmE
  have hl : k < s.toList.length := by rw [ba_len]; exact h
  rw [List.drop_eq_getElem_cons hl, List.takeWhile_cons]
  have e : s.toList[k]'hl = s[k]'h := by
    have := byte_at s k h
    rw [List.getElem?_eq_getElem hl] at this
    simpa using this
  rw [e, if_neg (by rw [hn]; decide)]
  rfl
theorem nmE_end {s : ByteArray} {k : Nat} (h : s.size ≤ k) : nmE s k = k := by
  unfold nmE
  rw [List.drop_eq_nil_of_le (by rw [ba_len]; exact h)]
  rfl
theorem nmS_num (c : UInt8) : nmS c = true ↔ (c.toNat = 95 ∨ (97 ≤ c.toNat ∧ c.toNat ≤ 122) ∨ (48 ≤ c.toNat ∧ c.toNat ≤ 57)) := by
  have h := nmC_num 1 c
  unfold nmC at h
  unfold nmS
  simpa using h
end Go.Proofs.Ythebcmkainplnaa
