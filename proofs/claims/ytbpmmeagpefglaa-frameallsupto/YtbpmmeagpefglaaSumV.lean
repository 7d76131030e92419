/-
  Words of 32 bits in the program's own spelling, and what sum.More and sum.Of come to at any bytes behind any sum: contracts, for every world; each leaves one new block, the table.
  Conditions: the sum is a word of 32 bits; the slice shows its bytes.
-/
import Derived.Test.YtbpmmeagpefglaaSumK
import Derived.Test.YtbpmmeagpefglaaVintA
import Derived.Test.YtbpmmeagpefglaaRows
namespace Go.Proofs.Ytbpmmeagpefglaa
open Go.RowKit

/-- Two whole numbers upon each other. -/
def xorI (a b : Int) : Int := ((a.toNat ^^^ b.toNat : Nat) : Int)

theorem xor_u32 {a b : Int} (a0 : 0 ≤ a) (a1 : a < 4294967296) (b0 : 0 ≤ b) (b1 : b < 4294967296) : bits .xor .u32 a b = xorI a b ∧ 0 ≤ xorI a b ∧ xorI a b < 4294967296 := by
  obtain ⟨a, rfl⟩ := Int.eq_ofNat_of_zero_le a0
  obtain ⟨b, rfl⟩ := Int.eq_ofNat_of_zero_le b0
  have hx : a ^^^ b < 2 ^ 32 := Nat.xor_lt_two_pow (by omega) (by omega)
  unfold xorI
  rw [Int.toNat_natCast, Int.toNat_natCast]
  refine ⟨?_, by omega, by omega⟩
  have h1 : (BitVec.ofInt 32 (a : Int)).toNat = a := by
    rw [BitVec.ofInt_natCast, BitVec.toNat_ofNat]; exact Nat.mod_eq_of_lt (by omega)
  have h2 : (BitVec.ofInt 32 (b : Int)).toNat = b := by
    rw [BitVec.ofInt_natCast, BitVec.toNat_ofNat]; exact Nat.mod_eq_of_lt (by omega)
  show IntKind.u32.wrap ((BitVec.ofInt 32 (a : Int) ^^^ BitVec.ofInt 32 (b : Int)).toNat : Int) = _
  rw [BitVec.toNat_xor, h1, h2, IntKind.wrap_u32]
  omega

theorem xor_u8 {a b : Int} (a0 : 0 ≤ a) (a1 : a ≤ 255) (b0 : 0 ≤ b) (b1 : b ≤ 255) : bits .xor .u8 a b = xorI a b ∧ 0 ≤ xorI a b ∧ xorI a b ≤ 255 := by
  obtain ⟨a, rfl⟩ := Int.eq_ofNat_of_zero_le a0
  obtain ⟨b, rfl⟩ := Int.eq_ofNat_of_zero_le b0
  have hx : a ^^^ b < 2 ^ 8 := Nat.xor_lt_two_pow (by omega) (by omega)
  unfold xorI
  rw [Int.toNat_natCast, Int.toNat_natCast]
  refine ⟨?_, by omega, by omega⟩
  have h1 : (BitVec.ofInt 8 (a : Int)).toNat = a := by
    rw [BitVec.ofInt_natCast, BitVec.toNat_ofNat]; exact Nat.mod_eq_of_lt (by omega)
  have h2 : (BitVec.ofInt 8 (b : Int)).toNat = b := by
    rw [BitVec.ofInt_natCast, BitVec.toNat_ofNat]; exact Nat.mod_eq_of_lt (by omega)
  show IntKind.u8.wrap ((BitVec.ofInt 8 (a : Int) ^^^ BitVec.ofInt 8 (b : Int)).toNat : Int) = _
  rw [BitVec.toNat_xor, h1, h2, IntKind.wrap_u8]
  omega

theorem and15_u32 {a : Int} (a0 : 0 ≤ a) (a1 : a < 4294967296) : bits .and .u32 a 15 = a % 16 := by
  obtain ⟨a, rfl⟩ := Int.eq_ofNat_of_zero_le a0
  have h1 : (BitVec.ofInt 32 (a : Int)).toNat = a := by
    rw [BitVec.ofInt_natCast, BitVec.toNat_ofNat]; exact Nat.mod_eq_of_lt (by omega)
  have h2 : (BitVec.ofInt 32 15).toNat = 15 := by decide
  have e : a &&& 15 = a % 16 := Nat.and_two_pow_sub_one_eq_mod a 4
  show IntKind.u32.wrap ((BitVec.ofInt 32 (a : Int) &&& BitVec.ofInt 32 15).toNat : Int) = _
  rw [BitVec.toNat_and, h1, h2, IntKind.wrap_u32, e]
  omega

theorem u32_of_wf {x : Int} (h : (Lit.int .u32 x).wf = true) : 0 ≤ x ∧ x < 4294967296 := by
  simp [Lit.wf, IntKind.min, IntKind.max, IntKind.signed, IntKind.bits] at h
  exact ⟨by omega, by omega⟩
theorem ret_u32 {a b : Int} (h : a = b) : Ending.returned (.int .u32 a) = .returned (.int .u32 b) := by rw [h]

/-- The sum of more bytes behind a sum. -/
def moreS (s : Int) (zs : List Int) : Int := ((4294967295 ^^^ Cr.reg (4294967295 ^^^ s.toNat) (zs.map Int.toNat) : Nat) : Int)

/-- The table, as a block of memory. -/
def tbl : Obj := .cells #[.int .u32 0, .int .u32 274646895, .int .u32 549293790, .int .u32 820201905, .int .u32 1098587580, .int .u32 1361435347,
  .int .u32 1640403810, .int .u32 1905808397, .int .u32 2197175160, .int .u32 2460548119, .int .u32 2722870694, .int .u32 2987750089,
  .int .u32 3280807620, .int .u32 3553878443, .int .u32 3811616794, .int .u32 4084100981] 80

theorem tbl_cell (w : World) (i : Nat) (h : i < 16) : (w.alloc tbl).cell? ⟨w.heap.size, i, none⟩ = some (.int .u32 ((Cr.tab i : Nat) : Int)) := by
  unfold tbl
  match i, h with
  | 0, _ => go_simp; decide
  | 1, _ => go_simp; decide
  | 2, _ => go_simp; decide
  | 3, _ => go_simp; decide
  | 4, _ => go_simp; decide
  | 5, _ => go_simp; decide
  | 6, _ => go_simp; decide
  | 7, _ => go_simp; decide
  | 8, _ => go_simp; decide
  | 9, _ => go_simp; decide
  | 10, _ => go_simp; decide
  | 11, _ => go_simp; decide
  | 12, _ => go_simp; decide
  | 13, _ => go_simp; decide
  | 14, _ => go_simp; decide
  | 15, _ => go_simp; decide
  | n + 16, h => omega

theorem xor_nat {a b : Int} : (xorI a b).toNat = a.toNat ^^^ b.toNat := by unfold xorI; rw [Int.toNat_natCast]

theorem tab_lt {i : Nat} (h : i < 16) : Cr.tab i < 4294967296 := Cr.it_lt 4 (by omega)

/-- Four bits at once, in the program's spelling. -/
theorem four {Y T : Int} (y0 : 0 ≤ Y) (y1 : Y < 4294967296) (t : T = ((Cr.tab (Y % 16).toNat : Nat) : Int)) :
    bits .xor .u32 (Y / 16) T = xorI (Y / 16) T ∧ 0 ≤ xorI (Y / 16) T ∧ xorI (Y / 16) T < 4294967296 ∧ (xorI (Y / 16) T).toNat = Cr.it 4 Y.toNat := by
  have ht := tab_lt (i := (Y % 16).toNat) (by omega)
  obtain ⟨e1, e2, e3⟩ := xor_u32 (a := Y / 16) (b := T) (by omega) (by omega) (by omega) (by omega)
  refine ⟨e1, e2, e3, ?_⟩
  rw [xor_nat, Cr.it_four, t, Int.toNat_natCast]
  congr 1
  · omega
  · congr 1; omega

theorem map_take_succ (zs : List Int) (k : Nat) (h : k < zs.length) : (zs.take (k + 1)).map Int.toNat = (zs.take k).map Int.toNat ++ [(zs.getD k 0).toNat] := by
  rw [List.take_succ_eq_append_getElem h, List.map_append, List.getD_eq_getElem?_getD, List.getElem?_eq_getElem h]
  rfl

set_option maxHeartbeats 1000000 in
theorem more_any (s : Int) (a : Option Addr) (n cap : Nat) (zs : List Int) (w : World) (hs : 0 ≤ s ∧ s < 4294967296) (hr : Row .u8 w a n zs) :
    Calls Try.prog 46 #[.int .u32 s, .slice a n cap] w fun e w' => e = .returned (.int .u32 (moreS s zs)) ∧ w' = w.alloc tbl := by
  obtain ⟨s0, s1⟩ := hs
  have hsg : IntKind.u32.signed = false := rfl
  have hn : n ≤ 281474976710656 := hr.2.1
  obtain ⟨x1, x2, x3⟩ := xor_u32 (a := 4294967295) (b := s) (by omega) (by omega) s0 s1
  have N0 : Hid ((xorI 4294967295 s).toNat = 4294967295 ^^^ s.toNat) := xor_nat
  have HR := hide (hr.alloc tbl)
  have HT := hide (tbl_cell w)
  clear hr
  generalize xorI 4294967295 s = R0 at *
  replace x1 : bits .xor .u32 IntKind.u32.max s = R0 := x1
  go_enter Try.func46, Try.ntmps46
  go_wp2
  clear x1
  have hW : w.alloc tbl = w.alloc (.cells #[.int .u32 0, .int .u32 274646895, .int .u32 549293790, .int .u32 820201905, .int .u32 1098587580, .int .u32 1361435347,
    .int .u32 1640403810, .int .u32 1905808397, .int .u32 2197175160, .int .u32 2460548119, .int .u32 2722870694, .int .u32 2987750089,
    .int .u32 3280807620, .int .u32 3553878443, .int .u32 3811616794, .int .u32 4084100981] 80) := rfl
  rw [← hW]
  clear hW
  generalize hw : w.alloc tbl = W at *
  generalize hz : w.heap.size = B at *
  have HW := hide hw
  clear hw
  have HZ := hide hz
  clear hz
  go_loop [6, 14] (fun r i => ∃ (k : Nat) (R : Int), k ≤ n ∧ i = .int .i64 k ∧ r = .int .u32 R ∧ 0 ≤ R ∧ R < 4294967296 ∧ Hid (R.toNat = Cr.reg (4294967295 ^^^ s.toNat) ((zs.take k).map Int.toNat))) (fun _ i => n - (intOf i).toNat)
  case atStart => exact ⟨0, R0, by omega, rfl, rfl, x2, x3, N0⟩
  case round =>
    obtain ⟨k, R, hk, rfl, rfl, r0, r1, HN⟩ := hrel
    by_cases hlt : k < n
    · have hrow := HR.out
      have hb := hrow.byte k
      obtain ⟨hl, _, _, h0 | ⟨b, off, rfl, hc⟩⟩ := hrow
      · omega
      have hck := hc k hlt
      have HS : Hid ((zs.take (k + 1)).map Int.toNat = (zs.take k).map Int.toNat ++ [(zs.getD k 0).toNat]) := map_take_succ zs k (by omega)
      clear hc hl
      generalize zs.getD k 0 = z at *
      obtain ⟨z0, z1⟩ := hb
      obtain ⟨y1, y2, y3⟩ := xor_u32 (a := R) (b := z) r0 r1 z0 (by omega)
      have NX : Hid ((xorI R z).toNat = R.toNat ^^^ z.toNat) := xor_nat
      generalize xorI R z = X at *
      go_wp2
      clear y1 hck
      go_loop [6, 22] (fun r i => ∃ (j : Nat) (Y : Int), j ≤ 2 ∧ i = .int .i64 j ∧ r = .int .u32 Y ∧ 0 ≤ Y ∧ Y < 4294967296 ∧ Hid (Y.toNat = Cr.it (4 * j) X.toNat)) (fun _ i => 2 - (intOf i).toNat)
      case atStart => exact ⟨0, X, by omega, rfl, rfl, y2, y3, rfl⟩
      case round =>
        obtain ⟨j, Y, hj, rfl, rfl, q0, q1, HY⟩ := hrel
        by_cases hj2 : j < 2
        · have ha := and15_u32 q0 q1
          have hcell := HT.out (Y % 16).toNat (by omega)
          have HTT : Hid (((Cr.tab (Y % 16).toNat : Nat) : Int) = ((Cr.tab (Y % 16).toNat : Nat) : Int)) := rfl
          generalize hT : ((Cr.tab (Y % 16).toNat : Nat) : Int) = T at hcell
          obtain ⟨f1, f2, f3, f4⟩ := four q0 q1 hT.symm
          have F4 := hide f4
          clear f4 hT HTT
          generalize xorI (Y / 16) T = Z at *
          go_wp2
          exact ⟨⟨j + 1, Z, by omega, by go_num, rfl, f2, f3, by rw [F4.out, HY.out, ← Cr.it_add]; rfl⟩, by simp [intOf]; omega⟩
        · have : j = 2 := by omega
          subst this
          go_wp2
          have HE : Hid (Y.toNat = Cr.reg (4294967295 ^^^ s.toNat) ((zs.take (k + 1)).map Int.toNat)) := by
            show _ = _
            rw [HS.out, Cr.reg_append, ← HN.out, HY.out, NX.out]
            rfl
          exact ⟨⟨k + 1, Y, by omega, by go_num, rfl, q0, q1, HE⟩, by simp [intOf]; omega⟩
    · have : k = n := by omega
      subst this
      obtain ⟨e1, e2, e3⟩ := xor_u32 (a := 4294967295) (b := R) (by omega) (by omega) r0 r1
      replace e1 : bits .xor .u32 IntKind.u32.max R = xorI 4294967295 R := e1
      have hl := HR.out.1
      have HE : Hid (xorI 4294967295 R = moreS s zs) := by
        show _ = _
        unfold xorI moreS
        rw [HN.out, List.take_of_length_le (by omega)]
        rfl
      clear hl
      go_wp2
      go_ret
      exact ⟨ret_u32 HE.out, HW.out.symm⟩

theorem of_any (a : Option Addr) (n cap : Nat) (zs : List Int) (w : World) (hr : Row .u8 w a n zs) :
    Calls Try.prog 40 #[.slice a n cap] w fun e w' => e = .returned (.int .u32 (moreS 0 zs)) ∧ w' = w.alloc tbl := by
  have M := hide (fun w hr => more_any 0 a n cap zs w (by decide) hr)
  go_enter Try.func40, Try.ntmps40
  go_wp2_with fail
  refine (M.out _ hr).mono ?_
  rintro e w' ⟨rfl, rfl⟩
  go_wp2
  go_ret
  exact ⟨rfl, rfl⟩
theorem bytes_nat {zs : List Int} (h : ∀ z ∈ zs, 0 ≤ z ∧ z ≤ 255) : ∀ y ∈ zs.map Int.toNat, y < 256 := by
  intro y hy
  obtain ⟨z, hz, rfl⟩ := List.mem_map.1 hy
  have := h z hz
  omega

theorem moreS_word {s : Int} {zs : List Int} (hs : 0 ≤ s ∧ s < 4294967296) (h : ∀ z ∈ zs, 0 ≤ z ∧ z ≤ 255) : 0 ≤ moreS s zs ∧ moreS s zs < 4294967296 := by
  have h1 := Cr.reg_lt (zs.map Int.toNat) (r := 4294967295 ^^^ s.toNat) (Nat.xor_lt_two_pow (n := 32) (by omega) (by omega)) (bytes_nat h)
  have h2 : 4294967295 ^^^ Cr.reg (4294967295 ^^^ s.toNat) (zs.map Int.toNat) < 2 ^ 32 := Nat.xor_lt_two_pow (by omega) h1
  unfold moreS
  exact ⟨by omega, by omega⟩

theorem moreS_more (s : Int) (x y : List Int) : moreS (moreS s x) y = moreS s (x ++ y) := by
  unfold moreS
  rw [Int.toNat_natCast, Cr.xor_cancel, List.map_append, Cr.reg_append]

end Go.Proofs.Ytbpmmeagpefglaa
