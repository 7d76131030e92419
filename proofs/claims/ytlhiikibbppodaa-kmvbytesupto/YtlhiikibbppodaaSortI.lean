/-
  The library's scattering of some words: they are exchanged within the part, whatever the drawn places are.
  Conditions: the row shows its words; the part lies within and has more than 12.
-/
import Derived.Test.YtlhiikibbppodaaSortA
import Derived.Test.YtlhiikibbppodaaShelf
import Derived.Lib.ItoaNum
namespace Go.Proofs.Ytlhiikibbppodaa
open Go.RowKit

/-- The drawn number: a block of its own. -/
def Rnd (w : World) (q : Nat) (x : Int) : Prop := w.heap[q]? = some (.cells #[.int .u64 x] 109 (0, 0))
theorem Rnd.cell {w : World} {q : Nat} {x : Int} (h : Rnd w q x) : w.cell? ⟨q, 0, none⟩ = some (.int .u64 x) := by
  rw [cell_of_row w q 0 _ _ (0, 0) h]; rfl
theorem Rnd.frozen {w : World} {q : Nat} {x : Int} (h : Rnd w q x) : w.frozen? ⟨q, 0, none⟩ = false := frozen_of_row w q 0 _ _ h
theorem Rnd.lt {w : World} {q : Nat} {x : Int} (h : Rnd w q x) : q < w.heap.size := (Array.getElem?_eq_some_iff.1 h).1
theorem Rnd.drewN {w : World} {q : Nat} {x : Int} (h : Rnd w q x) (k : Nat) : Rnd (w.drewN k) q x := h
theorem Rnd.set {w : World} {q : Nat} {x : Int} (h : Rnd w q x) (y : Int) : Rnd (w.setCell ⟨q, 0, none⟩ (.int .u64 y)) q y := by
  unfold Rnd
  rw [heap_setCell_same w q 0 _ _ _ h]
  rfl
theorem Rnd.set' {w : World} {q g : Nat} {x : Int} (h : Rnd w q x) (hn : g ≠ q) (i : Nat) (u : Value) : Rnd (w.setCell ⟨g, i, none⟩ u) q x := by
  unfold Rnd
  rw [Below.heap_setCell _ _ _ _ (fun e => hn e.symm)]
  exact h
theorem Rnd.ne {w : World} {q g c : Nat} {x : Int} {d : Array Int} (h : Rnd w q x) (k : SRow w g c d) : g ≠ q := by
  rintro rfl
  obtain ⟨cur, h1, _⟩ := k.heap
  rw [h] at h1
  simp at h1

theorem bits_word (op : BinOp) (a b : Int) : W64 (bits op .u64 a b) := by
  unfold W64
  unfold bits
  rw [IntKind.wrap_u64]
  omega
theorem and_pow {y : Int} {M k : Nat} (hy : W64 y) (hM : M = 2 ^ k) (hl : M ≤ 9223372036854775808) : bits .and .u64 y ((M : Int) - 1) = ((y.toNat % M : Nat) : Int) := by
  obtain ⟨y, rfl⟩ := Int.eq_ofNat_of_zero_le hy.1
  have h1 := hy.2
  have h0 : 0 < M := by rw [hM]; exact Nat.two_pow_pos k
  have e : (M : Int) - 1 = ((M - 1 : Nat) : Int) := by omega
  have e2 : y &&& (M - 1) = y % M := by rw [hM]; exact Nat.and_two_pow_sub_one_eq_mod y k
  have h2 : y % M < M := Nat.mod_lt _ h0
  rw [e]
  show IntKind.u64.wrap ((BitVec.ofInt 64 (y : Int) &&& BitVec.ofInt 64 ((M - 1 : Nat) : Int)).toNat : Int) = _
  rw [BitVec.toNat_and, nat_u64 (by omega), nat_u64 (by omega), e2, IntKind.wrap_u64, Int.toNat_natCast]
  omega

set_option maxHeartbeats 4000000 in
theorem next_any (q : Nat) (x : Int) (w : World) (h : Rnd w q x) :
    Calls Try.prog 75 #[.pointer (some ⟨q, 0, none⟩)] w fun e w' => ∃ y, e = .returned (.int .u64 y) ∧ W64 y ∧ Rnd w' q y ∧ Ch (fun k => k = q) w w' := by
  have H := hide h
  have c0 := h.cell
  have f0 := h.frozen
  clear h
  go_enter Try.func75, Try.ntmps75
  go_wp2
  go_region
  generalize bits BinOp.xor .u64 x (IntKind.u64.wrap (x * 8192)) = y1
  obtain ⟨W1, HW1⟩ : ∃ W, Hid ((w.setCell ⟨q, 0, none⟩ (.int .u64 y1)).drew = W) := ⟨_, rfl⟩
  have R1 : Hid (Rnd W1 q y1) := HW1.out ▸ H.out.set y1
  have C1 : Hid (Ch (fun k => k = q) w W1) := HW1.out ▸ (ch_set w q 0 _).drew
  rw [HW1.out]
  have c1 := R1.out.cell
  have f1 := R1.out.frozen
  clear c0 f0 HW1
  go_wp2
  go_region
  generalize bits BinOp.xor .u64 y1 (y1 / 128) = y2
  obtain ⟨W2, HW2⟩ : ∃ W, Hid ((W1.setCell ⟨q, 0, none⟩ (.int .u64 y2)).drew = W) := ⟨_, rfl⟩
  have R2 : Hid (Rnd W2 q y2) := HW2.out ▸ R1.out.set y2
  have C2 : Hid (Ch (fun k => k = q) w W2) := HW2.out ▸ (C1.out.trans (ch_set W1 q 0 _)).drew
  rw [HW2.out]
  have c2 := R2.out.cell
  have f2 := R2.out.frozen
  clear c1 f1 HW2 R1 C1
  go_wp2
  go_region
  have HB := hide (bits_word BinOp.xor y2 (IntKind.u64.wrap (y2 * 131072)))
  generalize bits BinOp.xor .u64 y2 (IntKind.u64.wrap (y2 * 131072)) = y3 at HB ⊢
  obtain ⟨W3, HW3⟩ : ∃ W, Hid ((W2.setCell ⟨q, 0, none⟩ (.int .u64 y3)).drew = W) := ⟨_, rfl⟩
  have R3 : Hid (Rnd W3 q y3) := HW3.out ▸ R2.out.set y3
  have C3 : Hid (Ch (fun k => k = q) w W3) := HW3.out ▸ (C2.out.trans (ch_set W2 q 0 _)).drew
  rw [HW3.out]
  have c3 := R3.out.cell
  clear c2 f2 HW3 R2 C2
  go_wp2
  go_ret
  exact ⟨y3, rfl, HB.out, R3.out, C3.out⟩

theorem nextpow_any (l : Nat) (w : World) (h0 : 0 < l) (h1 : l ≤ 281474976710656) :
    Calls Try.prog 74 #[.int .i64 l] w fun e w' => ∃ M k : Nat, e = .returned (.int .u64 M) ∧ M = 2 ^ k ∧ l < M ∧ M ≤ 2 * l ∧ w' = w := by
  have B := hide (Try.bits_Len (l : Int) w (by omega) (by omega))
  rw [Int.toNat_natCast] at B
  have hb := Lib.bitLenAux_bounds 64 l (by omega) (by omega)
  have e0 : Lib.bitLenAux 64 l = Lib.bitLen l := rfl
  rw [e0] at hb
  generalize Lib.bitLen l = k at *
  obtain ⟨M, HM⟩ : ∃ M : Nat, Hid ((2 : Nat) ^ k = M) := ⟨_, rfl⟩
  have e1 : (2 : Nat) ^ k = 2 * 2 ^ (k - 1) := by
    obtain ⟨j, rfl⟩ : ∃ j, k = j + 1 := ⟨k - 1, by omega⟩
    rw [Nat.pow_succ, Nat.add_sub_cancel, Nat.mul_comm]
  have HMb : Hid (l < M ∧ M ≤ 2 * l) := by
    rw [← HM.out]
    exact ⟨hb.2.2, by omega⟩
  have hk : k < 64 := by
    rcases Nat.lt_or_ge k 64 with h | h
    · exact h
    · have : 2 ^ 63 ≤ 2 ^ (k - 1) := Nat.pow_le_pow_right (by decide) (by omega)
      omega
  have eM : IntKind.u64.wrap (2 ^ k) = (M : Int) := by
    have h2 := HMb.out
    have e2 : (2 : Int) ^ k = (M : Int) := by rw [← HM.out, Int.natCast_pow]; rfl
    rw [e2, IntKind.wrap_u64]
    omega
  have k0 : (0 : Int) ≤ (k : Int) := by omega
  have k1 : (k : Int) < 64 := by omega
  clear hb e0 e1 hk
  go_enter Try.func74, Try.ntmps74
  go_wp2_with fail
  refine B.out.mono ?_
  rintro e w' ⟨rfl, rfl⟩
  go_wp2
  go_ret
  exact ⟨M, k, by simp, HM.out.symm, HMb.out.1, HMb.out.2, rfl⟩

set_option maxRecDepth 20000 in
set_option maxHeartbeats 8000000 in
theorem break_any (g c cp : Nat) (d : Array Int) (a b : Nat) (w : World) (h : SRow w g c d) (hab : a + 12 < b) (hb : b ≤ d.size) :
    Calls Try.prog 63 #[.slice (some ⟨g, 0, none⟩) d.size cp, .int .i64 a, .int .i64 b] w fun e w' => e = .returned (.tuple #[]) ∧ Sorts w g c (Go.Sort.PermIn a b d) w' := by
  have H := hide h
  have hr := h.room
  obtain ⟨n, HN⟩ : ∃ n, Hid (d.size = n) := ⟨_, rfl⟩
  rw [HN.out] at hb hr ⊢
  obtain ⟨l, HL⟩ : ∃ l, Hid (b - a = l) := ⟨_, rfl⟩
  obtain ⟨m, HM⟩ : ∃ m, Hid (l / 4 = m) := ⟨_, rfl⟩
  obtain ⟨j, HJ⟩ : ∃ j, Hid (a + m * 2 = j) := ⟨_, rfl⟩
  have hl := HL.out
  have hm := HM.out
  have hj := HJ.out
  have e1 : (b : Int) - (a : Int) = (l : Int) := by omega
  have e2 : Int.tdiv (l : Int) 4 = (m : Int) := by rw [Int.tdiv_eq_ediv_of_nonneg (by omega)]; omega
  have e4 : (a : Int) + (m : Int) * 2 = (j : Int) := by omega
  have b1 : (8 : Int) ≤ (l : Int) := by omega
  have b2 : (l : Int) ≤ (n : Int) := by omega
  have b3 : (m : Int) ≤ (n : Int) := by omega
  have q1 : a + 1 ≤ j := by omega
  have q2 : j + 2 ≤ b := by omega
  have q3 : (j : Int) < (n : Int) := by omega
  have q4 : a + l = b := by omega
  have HNe : Hid (g ≠ w.heap.size) := by
    intro e
    have := H.out.lt
    omega
  have eW : IntKind.u64.wrap (l : Int) = (l : Int) := by rw [IntKind.wrap_u64]; omega
  have P := hide (fun W => nextpow_any l W (by omega) (by omega))
  have NX := hide (fun x W h => next_any w.heap.size x W h)
  obtain ⟨q, HQ⟩ : ∃ q, Hid (w.heap.size = q) := ⟨_, rfl⟩
  have S0 := hide (h.alloc (.cells #[.int .u64 (l : Int)] 109))
  have R0 : Hid (Rnd (w.alloc (.cells #[.int .u64 (l : Int)] 109)) q l) := by rw [← HQ.out]; exact World.alloc_heap_new w _
  have C0 : Hid (Ch (fun k => k = g ∨ k = q) w (w.alloc (.cells #[.int .u64 (l : Int)] 109))) := (Ch.refl _ _).alloc _
  rw [HQ.out] at HNe NX
  clear h hl hm hj
  go_enter Try.func63, Try.ntmps63
  go_wp2_with fail
  rw [HQ.out]
  refine (P.out _).mono ?_
  rintro e w1 ⟨M, k, rfl, hM, hM1, hM2, rfl⟩
  have HMk := hide hM
  have m1 : (0 : Int) < (M : Int) := by omega
  have m2 : (M : Int) ≤ 1125899906842624 := by omega
  clear hM P
  go_wp2
  go_loopw [9] (fun x9 wr => ∃ (x : Nat) (y0 : Int) (d' : Array Int), x9 = .int .i64 x ∧ j ≤ x + 1 ∧ x ≤ j + 2 ∧ Hid (Go.Sort.PermIn a b d d') ∧ Hid (SRow wr g c d') ∧ Hid (Rnd wr q y0) ∧ Hid (Ch (fun k => k = g ∨ k = q) w wr)) (fun x9 _ => j + 2 - (intOf x9).toNat)
  case atStart => exact ⟨j - 1, l, d, by go_num, by omega, by omega, Go.Sort.permIn_refl _ _ _, S0.out, R0.out, C0.out⟩
  case round =>
    obtain ⟨x, y0, d', rfl, hx1, hx2, HPm, HS, HR, HC⟩ := hrel
    by_cases hx : x ≤ j + 1
    · have i1 : (x : Int) ≤ (j : Int) + 1 := by omega
      have N := hide (NX.out y0 wr HR.out)
      go_wp2_with fail
      refine N.out.mono ?_
      rintro e w3 ⟨y, rfl, hy, r3, ch3⟩
      have S3 := hide (HS.out.ch ch3 HNe.out)
      have R3 := hide r3
      have C3 : Hid (Ch (fun k => k = g ∨ k = q) w w3) := HC.out.trans (ch3.more (fun _ _ e => Or.inr e))
      have eA := and_pow hy HMk.out (by omega)
      obtain ⟨o0, HO0⟩ : ∃ o0, Hid (y.toNat % M = o0) := ⟨_, rfl⟩
      rw [HO0.out] at eA
      have ho0 : o0 < M := by rw [← HO0.out]; exact Nat.mod_lt _ (by omega)
      have o1 : (0 : Int) ≤ (o0 : Int) := by omega
      have o2 : (o0 : Int) < (M : Int) := by omega
      clear r3 ch3 N HS HR HC hy
      by_cases ho : l ≤ o0
      · have i2 : (l : Int) ≤ (o0 : Int) := by omega
        obtain ⟨o, HO⟩ : ∃ o, Hid (o0 - l = o) := ⟨_, rfl⟩
        have ho' := HO.out
        have e7 : (o0 : Int) - (l : Int) = (o : Int) := by omega
        have o3 : o < l := by omega
        clear ho'
        obtain ⟨p, HP⟩ : ∃ p, Hid (a + o = p) := ⟨_, rfl⟩
        have hp := HP.out
        have e6 : (a : Int) + (o : Int) = (p : Int) := by omega
        have HX : Hid (Go.Sort.PermIn a b d (Go.Sort.swp d' x p)) := Go.Sort.permIn_trans _ _ _ _ _ HPm.out (Go.Sort.swp_permIn _ _ _ _ _ (by omega) (by omega) (by omega) (by omega) (by rw [HPm.out.1, HN.out]; exact hb))
        have HD : Hid (d'.size = n) := HPm.out.1.trans HN.out
        have HSw := hide (fun q => (S3.out.drewN q).swap (i := x) (j := p) (by rw [HD.out]; omega) (by rw [HD.out]; omega))
        have HCw : Hid (∀ q' u v, Ch (fun k => k = g ∨ k = q) w (((w3.drewN q').setCell ⟨g, x, none⟩ u).setCell ⟨g, p, none⟩ v)) := fun q' u v => (C3.out.drewN q').trans (((ch_set _ g x u).trans (ch_set _ g p v)).more (fun _ _ e => Or.inl e))
        have HRw : Hid (∀ q' u v, Rnd (((w3.drewN q').setCell ⟨g, x, none⟩ u).setCell ⟨g, p, none⟩ v) q y) := fun q' u v => ((R3.out.drewN q').set' HNe.out x u).set' HNe.out p v
        obtain ⟨c1, c2, f1, f2, v, c3⟩ := S3.out.two (i := x) (j := p) (by rw [HD.out]; omega) (by rw [HD.out]; omega)
        generalize d'[x]! = z1 at *
        generalize d'[p]! = z2 at *
        have j1 : (x : Int) < (n : Int) := by omega
        have j2 : (p : Int) < (n : Int) := by omega
        have j3 : (0 : Int) ≤ (x : Int) := by omega
        have j4 : (0 : Int) ≤ (p : Int) := by omega
        clear hp
        go_wp2
        go_region
        go_wp2
        go_roundw
        case rel => exact ⟨x + 1, y, _, by go_num, by omega, by omega, HX.out, HSw.out 1, HRw.out 1 _ _, HCw.out 1 _ _⟩
        case measure => simp [intOf]; omega
      · have i2 : ¬ (l : Int) ≤ (o0 : Int) := by omega
        have o3 : o0 < l := by omega
        obtain ⟨p, HP⟩ : ∃ p, Hid (a + o0 = p) := ⟨_, rfl⟩
        have hp := HP.out
        have e6 : (a : Int) + (o0 : Int) = (p : Int) := by omega
        have HX : Hid (Go.Sort.PermIn a b d (Go.Sort.swp d' x p)) := Go.Sort.permIn_trans _ _ _ _ _ HPm.out (Go.Sort.swp_permIn _ _ _ _ _ (by omega) (by omega) (by omega) (by omega) (by rw [HPm.out.1, HN.out]; exact hb))
        have HD : Hid (d'.size = n) := HPm.out.1.trans HN.out
        have HSw := hide (fun q => (S3.out.drewN q).swap (i := x) (j := p) (by rw [HD.out]; omega) (by rw [HD.out]; omega))
        have HCw : Hid (∀ q' u v, Ch (fun k => k = g ∨ k = q) w (((w3.drewN q').setCell ⟨g, x, none⟩ u).setCell ⟨g, p, none⟩ v)) := fun q' u v => (C3.out.drewN q').trans (((ch_set _ g x u).trans (ch_set _ g p v)).more (fun _ _ e => Or.inl e))
        have HRw : Hid (∀ q' u v, Rnd (((w3.drewN q').setCell ⟨g, x, none⟩ u).setCell ⟨g, p, none⟩ v) q y) := fun q' u v => ((R3.out.drewN q').set' HNe.out x u).set' HNe.out p v
        obtain ⟨c1, c2, f1, f2, v, c3⟩ := S3.out.two (i := x) (j := p) (by rw [HD.out]; omega) (by rw [HD.out]; omega)
        generalize d'[x]! = z1 at *
        generalize d'[p]! = z2 at *
        have j1 : (x : Int) < (n : Int) := by omega
        have j2 : (p : Int) < (n : Int) := by omega
        have j3 : (0 : Int) ≤ (x : Int) := by omega
        have j4 : (0 : Int) ≤ (p : Int) := by omega
        clear hp
        go_wp2
        go_region
        go_wp2
        go_roundw
        case rel => exact ⟨x + 1, y, _, by go_num, by omega, by omega, HX.out, HSw.out 1, HRw.out 1 _ _, HCw.out 1 _ _⟩
        case measure => simp [intOf]; omega
    · have i1 : ¬ (x : Int) ≤ (j : Int) + 1 := by omega
      go_wp2
      go_end0
      exact ⟨rfl, d', HPm.out, HS.out, HC.out.more (fun k hk e => e.elim id (fun e => by have := HQ.out; omega))⟩
end Go.Proofs.Ytlhiikibbppodaa
