/-
  A word's eight bytes, the lowest first, and back; a gauge's bytes, and what is got from a place on: plain arithmetic on lists. The program's own eight bytes of a word, there and back: contracts, for every world. The program's own Put of a gauge: a contract, for every world: the bytes lie in new memory. The program's own Get of a gauge: a contract, for every world; what was there before stays. The document's own bytes of a gauge: contracts, for every world: the bytes lie in new memory. The document's reader of a word's eight bytes: contracts, for every world: the reader alone turns. The document's reader of a gauge: a contract, for every world: the reader alone turns.
  Conditions: where a law speaks of words and bytes, they are such; the word is one; the bytes read lie within the slice; the gauge's numbers are words; there are at most 2^47 bytes ahead; the slice shows its bytes; the place is a number of 64 bits; the gauge's numbers are words; the reader's bytes lie in memory older than itself; the reader's bytes lie in memory older than itself; the place is a number of 64 bits.
-/
import Derived.Test.YtadcaonkmncgoaaGreatGaugeAz
import Derived.Test.YtadcaonkmncgoaaGreatVintL
import Derived.Test.YtadcaonkmncgoaaGreatBytA
import Derived.BigRegion
import Derived.WalkLawsBesides
import Derived.Test.YtadcaonkmncgoaaGreatCatK
import Derived.Deep.RegionHeld3
import Derived.Deep.DeepCutAuto
import Derived.Test.YtadcaonkmncgoaaGreatBytB
import Derived.Laws.AppendOwn
import Derived.Test.YtadcaonkmncgoaaGreatNumB
import Derived.Test.YtadcaonkmncgoaaGreatChK
namespace Go.Proofs.YtadcaonkmncgoaaGreat
open Go.RowKit
set_option maxRecDepth 20000

/-- A word's first bytes, the lowest first. -/
def b8 (v : Int) : Nat → List Int
  | 0 => []
  | k + 1 => b8 v k ++ [v / 2 ^ (8 * k) % 256]
/-- The number of bytes from a place on, the lowest first. -/
def n8 (zs : List Int) (t : Nat) : Nat → Int
  | 0 => 0
  | k + 1 => n8 zs t k + zs.getD (t + k) 0 * 2 ^ (8 * k)
theorem b8_len (v : Int) (k : Nat) : (b8 v k).length = k := by
  induction k with
  | zero => rfl
  | succ k ih => rw [b8, List.length_append, ih]; rfl
theorem b8_byte (v : Int) (k : Nat) : Bytes8 (b8 v k) := by
  induction k with
  | zero => exact fun z hz => by cases hz
  | succ k ih =>
    refine Bytes8.append ih fun z hz => ?_
    rw [List.mem_singleton.1 hz]; omega
theorem p8_succ (k : Nat) : (2 : Int) ^ (8 * (k + 1)) = 256 * 2 ^ (8 * k) := by
  rw [show 8 * (k + 1) = 8 * k + 8 by omega, Int.pow_add, Int.mul_comm]; rfl
theorem p8_pos (k : Nat) : (0 : Int) < 2 ^ (8 * k) := Int.pow_pos (by decide)
theorem p8_le : ∀ k, k < 8 → (2 : Int) ^ (8 * k) ≤ 72057594037927936 := by decide
theorem getD_byte {zs : List Int} (h : Bytes8 zs) (i : Nat) : 0 ≤ zs.getD i 0 ∧ zs.getD i 0 ≤ 255 := by
  rw [List.getD_eq_getElem?_getD]
  cases e : zs[i]? with
  | none => simp
  | some z => exact h z (List.mem_of_getElem? e)
theorem n8_bound {zs : List Int} (h : Bytes8 zs) (t k : Nat) : 0 ≤ n8 zs t k ∧ n8 zs t k < 2 ^ (8 * k) := by
  induction k with
  | zero => exact ⟨Int.le_refl _, by rw [n8]; decide⟩
  | succ k ih =>
    obtain ⟨h0, h1⟩ := getD_byte h (t + k)
    have hp := p8_pos k
    have m0 : 0 ≤ zs.getD (t + k) 0 * 2 ^ (8 * k) := Int.mul_nonneg h0 (by omega)
    have m1 : zs.getD (t + k) 0 * 2 ^ (8 * k) ≤ 255 * 2 ^ (8 * k) := Int.mul_le_mul_of_nonneg_right h1 (by omega)
    rw [p8_succ, n8]
    omega
theorem n8_word {zs : List Int} (h : Bytes8 zs) (t : Nat) : Word (n8 zs t 8) := n8_bound h t 8
theorem n8_b8 {v : Int} (hv : 0 ≤ v) (k : Nat) (xs ys : List Int) : n8 (xs ++ (b8 v k ++ ys)) xs.length k = v % 2 ^ (8 * k) := by
  induction k generalizing ys with
  | zero => rw [n8]; simp
  | succ k ih =>
    have e : (xs ++ (b8 v (k + 1) ++ ys)).getD (xs.length + k) 0 = v / 2 ^ (8 * k) % 256 := by
      have hb := b8_len v k
      rw [List.getD_eq_getElem?_getD, List.getElem?_append_right (by omega), b8, List.append_assoc, List.getElem?_append_right (by omega), hb]
      simp
    rw [n8, e, b8, List.append_assoc, ih]
    obtain ⟨m, rfl⟩ := Int.eq_ofNat_of_zero_le hv
    have h := Nat.mod_mul (x := m) (a := 2 ^ (8 * k)) (b := 256)
    have h2 : ((m % (2 ^ (8 * k) * 256) : Nat) : Int) = ((m % 2 ^ (8 * k) + 2 ^ (8 * k) * (m / 2 ^ (8 * k) % 256) : Nat) : Int) := by rw [h]
    rw [p8_succ]
    rw [Int.natCast_emod, Int.natCast_mul, Int.natCast_add, Int.natCast_mul, Int.natCast_emod, Int.natCast_emod, Int.natCast_ediv, Int.natCast_pow] at h2
    rw [Int.mul_comm 256]
    rw [Int.mul_comm ((m : Int) / _ % _)]
    exact h2.symm
theorem n8_back {v : Int} (hv : Word v) (xs ys : List Int) : n8 (xs ++ (b8 v 8 ++ ys)) xs.length 8 = v := by
  rw [n8_b8 hv.1]
  obtain ⟨_, _⟩ := hv
  have e : (2 : Int) ^ (8 * 8) = 18446744073709551616 := by decide
  rw [e]; omega

/-- A gauge's bytes. -/
def putG (g : Gz) : List Int := putS g.nans ++ (putS g.n ++ (if g.n = 0 then [] else b8 g.lo 8 ++ b8 g.hi 8))
theorem putG_byte {g : Gz} (h : GW g) : Bytes8 (putG g) := by
  refine Bytes8.append (putS_byte h.nans) (Bytes8.append (putS_byte h.n) ?_)
  split
  · exact fun z hz => by cases hz
  · exact Bytes8.append (b8_byte _ _) (b8_byte _ _)
theorem putG_len (g : Gz) : 0 < (putG g).length ∧ (putG g).length ≤ 36 := by
  have h1 := putS_len g.nans
  have h2 := putS_len g.n
  unfold putG
  rw [List.length_append, List.length_append]
  split
  · simp; omega
  · rw [List.length_append, b8_len, b8_len]; omega

/-- What is got from a place on: the gauge, the place behind it. -/
def getG (zs : List Int) (p : Int) : Option (Gz × Int) :=
  match getS zs p with
  | none => none
  | some (m, q) => match getS zs q with
    | none => none
    | some (n, r) => if n = 0 then some (⟨0, m, 0, 0⟩, r) else if (zs.length : Int) - r < 16 then none
      else if chkG ⟨n, m, n8 zs r.toNat 8, n8 zs (r.toNat + 8) 8⟩ = true then some (⟨n, m, n8 zs r.toNat 8, n8 zs (r.toNat + 8) 8⟩, r + 16) else none
theorem getG_no1 {zs : List Int} {p : Int} (h : getS zs p = none) : getG zs p = none := by unfold getG; rw [h]
theorem getG_no2 {zs : List Int} {p m q : Int} (h : getS zs p = some (m, q)) (h2 : getS zs q = none) : getG zs p = none := by unfold getG; rw [h]; simp only; rw [h2]
theorem getG_two {zs : List Int} {p m q n r : Int} (h : getS zs p = some (m, q)) (h2 : getS zs q = some (n, r)) :
    getG zs p = if n = 0 then some (⟨0, m, 0, 0⟩, r) else if (zs.length : Int) - r < 16 then none
      else if chkG ⟨n, m, n8 zs r.toNat 8, n8 zs (r.toNat + 8) 8⟩ = true then some (⟨n, m, n8 zs r.toNat 8, n8 zs (r.toNat + 8) 8⟩, r + 16) else none := by
  unfold getG; rw [h]; simp only; rw [h2]
theorem getG_back {g : Gz} (h : GW g) (c : chkG g = true) (xs : List Int) : getG (xs ++ putG g) xs.length = some (g, ((xs.length + (putG g).length : Nat) : Int)) := by
  have e1 := getS_at h.nans xs (putS g.n ++ (if g.n = 0 then [] else b8 g.lo 8 ++ b8 g.hi 8))
  have e2 := getS_at h.n (xs ++ putS g.nans) (if g.n = 0 then [] else b8 g.lo 8 ++ b8 g.hi 8)
  rw [List.append_assoc, List.length_append] at e2
  have el : (putG g).length = (putS g.nans).length + ((putS g.n).length + if g.n = 0 then 0 else 16) := by
    unfold putG
    rw [List.length_append, List.length_append]
    split
    · rfl
    · rw [List.length_append, b8_len, b8_len]
  have e3 := getG_two (zs := xs ++ putG g) e1 e2
  rw [e3]
  by_cases hn : g.n = 0
  · obtain ⟨h1, h2⟩ := chk_none c hn
    rw [if_pos hn] at el ⊢
    have eg : (⟨0, g.nans, 0, 0⟩ : Gz) = g := Gz.ext' hn.symm rfl h1.symm h2.symm
    rw [eg, el]
    congr 2
    omega
  · rw [if_neg hn] at el ⊢
    have ep : putG g = putS g.nans ++ (putS g.n ++ (b8 g.lo 8 ++ b8 g.hi 8)) := by unfold putG; rw [if_neg hn]
    have f1 := n8_back h.lo (xs ++ (putS g.nans ++ putS g.n)) (b8 g.hi 8)
    have f2 := n8_back h.hi (xs ++ (putS g.nans ++ (putS g.n ++ b8 g.lo 8))) []
    have l1 : (xs ++ (putS g.nans ++ putS g.n)).length = xs.length + (putS g.nans).length + (putS g.n).length := by simp only [List.length_append]; omega
    have l2 : (xs ++ (putS g.nans ++ (putS g.n ++ b8 g.lo 8))).length = xs.length + (putS g.nans).length + (putS g.n).length + 8 := by simp only [List.length_append, b8_len]; omega
    have s1 : xs ++ (putS g.nans ++ putS g.n) ++ (b8 g.lo 8 ++ b8 g.hi 8) = xs ++ putG g := by rw [ep]; simp only [List.append_assoc]
    have s2 : xs ++ (putS g.nans ++ (putS g.n ++ b8 g.lo 8)) ++ (b8 g.hi 8 ++ []) = xs ++ putG g := by rw [ep]; simp only [List.append_assoc, List.append_nil]
    rw [s1, l1] at f1
    rw [s2, l2] at f2
    rw [Int.toNat_natCast, f1, f2, if_neg (by rw [List.length_append, el]; omega), if_pos c, el]
    congr 2
    omega
theorem getG_some {zs : List Int} {p r : Int} {g : Gz} (hz : Bytes8 zs) (h : getG zs p = some (g, r)) : GW g := by
  unfold getG at h
  cases e1 : getS zs p with
  | none => rw [e1] at h; cases h
  | some q =>
    obtain ⟨m, q⟩ := q
    rw [e1] at h; simp only at h
    have hm := (getS_some hz e1).1
    cases e2 : getS zs q with
    | none => rw [e2] at h; cases h
    | some s =>
      obtain ⟨n, s⟩ := s
      rw [e2] at h; simp only at h
      have hn := (getS_some hz e2).1
      split at h
      · cases h; exact ⟨w0, hm, w0, w0⟩
      · split at h
        · cases h
        · split at h
          · cases h; exact ⟨hn, hm, n8_word hz _, n8_word hz _⟩
          · cases h
end Go.Proofs.YtadcaonkmncgoaaGreat

namespace Go.Proofs.YtadcaonkmncgoaaGreat
open Go.RowKit
set_option maxRecDepth 20000

set_option maxHeartbeats 1000000 in
theorem putbits_any (v : Int) (base : Nat) (a : Option Addr) (n cap : Nat) (zs : List Int) (w : World) (hv : Word v) (hn : n ≤ 1000000) (hB : base ≤ w.heap.size) (hs : Mine w base a n cap zs) :
    Calls Tryz.prog 36 #[.slice a n cap, .int .u64 v] w fun e w' => ∃ a' cap', e = .returned (.slice a' (n + 8) cap') ∧ Mine w' base a' (n + 8) cap' (zs ++ b8 v 8) ∧ Below base w w' := by
  obtain ⟨i0, hi, hz0, hz1, hz2⟩ := info_parts Tryz.info5
  have HS := hide hs
  have HB := hide hB
  obtain ⟨v0, v1⟩ := hv
  clear hs hB
  go_enter Tryz.func36, Tryz.ntmps36
  go_wp2
  go_loopw [0, 6] (fun b i wr => ∃ (ar : Option Addr) (capr : Nat) (j : Nat), b = .slice ar (n + j) capr ∧ i = .int .i64 j ∧ j ≤ 8 ∧ Hid (Mine wr base ar (n + j) capr (zs ++ b8 v j)) ∧ Hid (Below base w wr)) (fun _ i _ => 8 - (intOf i).toNat)
  case atStart => exact ⟨a, cap, 0, rfl, rfl, by omega, by rw [b8, List.append_nil]; exact HS, Below.refl _ _⟩
  case round =>
    obtain ⟨ar, capr, j, rfl, rfl, hj, HR, HW⟩ := hrel
    by_cases hu : j < 8
    · have i1 : (j : Int) < 8 := by omega
      obtain ⟨z, hz⟩ : ∃ z : Int, Hid (v / 2 ^ (8 * j) % 256 = z) := ⟨_, rfl⟩
      have zb : 0 ≤ z ∧ z ≤ 255 := by rw [← hz.out]; omega
      have hzz := hz.out
      have HO := hide (one_row (k := .u8) wr z (wf_of_u8 zb.1 zb.2) 5 (0, 0))
      have HSA : Hid (Src 5 .u8 (wr.alloc (.cells #[.int .u8 z] 5)) base ar (n + j) capr (zs ++ b8 v j)) := Or.inl (HR.out.alloc _)
      have HBW : Hid (base ≤ (wr.alloc (.cells #[.int .u8 z] 5)).heap.size) := by
        have := Nat.le_trans HB.out HW.out.size
        show _ ≤ _
        simp; omega
      clear zb
      go_wp2_with (at_builtin; rw [hzz]; refine wpList_append_one _ rfl _ _ 29 rfl base 5 i0 Tryz.underlying29 hi hz0 hz1 hz2 ar (n + j) capr _ rfl HSA.out _ 1 z rfl HO.out (by omega) HBW.out ?_)
      intro a' cap' w' h1 h2
      have HF : Hid (Mine w' base a' (n + (j + 1)) cap' (zs ++ b8 v (j + 1)) ∧ Below base w w') := by
        refine ⟨?_, (HW.out.alloc (Nat.le_trans HB.out HW.out.size) _).trans h2⟩
        rw [b8, hz.out]; exact h1
      clear h1 h2 HR HW HSA HO HBW hzz
      go_wp2
      go_roundw
      case rel => exact ⟨a', cap', j + 1, rfl, by go_num, by omega, HF.out.1, HF.out.2⟩
      case measure => simp [intOf]; omega
    · have hj8 : j = 8 := by omega
      subst hj8
      have i1 : ¬ ((8 : Nat) : Int) < 8 := by omega
      go_wp2
      go_ret
      exact ⟨ar, capr, rfl, HR.out, HW.out⟩

theorem or8 {V z : Int} (j : Nat) (hj : j < 8) (V0 : 0 ≤ V) (V1 : V < 2 ^ (8 * j)) (z0 : 0 ≤ z) (z1 : z ≤ 255) :
    IntKind.u64.wrap (z * 2 ^ (8 * j)) = z * 2 ^ (8 * j) ∧ bits .or .u64 V (z * 2 ^ (8 * j)) = V + z * 2 ^ (8 * j) ∧ 0 ≤ V + z * 2 ^ (8 * j) ∧ V + z * 2 ^ (8 * j) < 18446744073709551616 := by
  have hp := p8_pos j
  have hl := p8_le j hj
  have m0 : 0 ≤ z * 2 ^ (8 * j) := Int.mul_nonneg z0 (by omega)
  have m1 : z * 2 ^ (8 * j) ≤ 255 * 2 ^ (8 * j) := Int.mul_le_mul_of_nonneg_right z1 (by omega)
  exact ⟨by rw [IntKind.wrap_u64]; omega, or_u64 (8 * j) V0 V1 z z0 rfl (by omega), by omega, by omega⟩

set_option maxHeartbeats 1000000 in
theorem bitsat_any (t : Nat) (a : Option Addr) (n cap : Nat) (zs : List Int) (w : World) (ht : t + 8 ≤ n) (hr : Row .u8 w a n zs) :
    Calls Tryz.prog 47 #[.slice a n cap, .int .i64 (t : Int)] w fun e w' => e = .returned (.int .u64 (n8 zs t 8)) ∧ w' = w := by
  have HZ : Hid (Bytes8 zs) := hr.bytes
  have hn := hr.2.1
  obtain ⟨_, _, _, h0 | ⟨b, off, rfl, hcell⟩⟩ := hr
  · omega
  have HC := hide hcell
  clear hcell
  go_enter Tryz.func47, Tryz.ntmps47
  go_wp2
  go_loopw [5, 7] (fun x i wr => ∃ j : Nat, x = .int .u64 (n8 zs t j) ∧ i = .int .i64 j ∧ j ≤ 8 ∧ wr = w) (fun _ i _ => 8 - (intOf i).toNat)
  case atStart => exact ⟨0, rfl, rfl, by omega, rfl⟩
  case round =>
    obtain ⟨j, rfl, rfl, hj, rfl⟩ := hrel
    by_cases hu : j < 8
    · have i1 : (j : Int) < 8 := by omega
      obtain ⟨V0, V1⟩ := n8_bound HZ.out t j
      obtain ⟨z0, z1⟩ := getD_byte HZ.out (t + j)
      have hs : Hid (n8 zs t (j + 1) = n8 zs t j + zs.getD (t + j) 0 * 2 ^ (8 * j)) := rfl
      have c1 := HC.out (t + j) (by omega)
      generalize n8 zs t j = V at V0 V1 hs ⊢
      generalize zs.getD (t + j) 0 = z at c1 z0 z1 hs
      obtain ⟨e1, e2, e3, e4⟩ := or8 j hu V0 V1 z0 z1
      rw [← hs.out] at e2 e3 e4
      obtain ⟨X, hX⟩ : ∃ X, Hid (n8 zs t (j + 1) = X) := ⟨_, rfl⟩
      rw [hX.out] at e2 e3 e4
      have i2 : (0 : Int) ≤ (t : Int) + (j : Int) := by omega
      have i3 : (t : Int) + (j : Int) < (n : Int) := by omega
      have i4 : ((t : Int) + (j : Int)).toNat = t + j := by omega
      clear V1
      go_wp2
      go_roundw
      case rel => exact ⟨j + 1, by rw [hX.out], by go_num, by omega, trivial⟩
      case measure => simp [intOf]; omega
    · have hj8 : j = 8 := by omega
      subst hj8
      have i1 : ¬ ((8 : Nat) : Int) < 8 := by omega
      go_wp2
      go_ret
      exact ⟨rfl, rfl⟩
end Go.Proofs.YtadcaonkmncgoaaGreat

namespace Go.Proofs.YtadcaonkmncgoaaGreat
open Go.RowKit
set_option maxRecDepth 20000

/-- A gauge in memory, and what was there before is as it was. -/
theorem keepG {w0 v v' : World} {k : Nat} {x : Gz} (hb : Below (k + 1) v v') (h : ((World.cell? v ⟨k, 0, none⟩ = some (.int .u64 (Gz.n x))) ∧ (World.cell? v ⟨k, 1, none⟩ = some (.int .u64 (Gz.nans x))) ∧ (World.cell? v ⟨k, 2, none⟩ = some (.int .u64 (Gz.lo x))) ∧ (World.cell? v ⟨k, 3, none⟩ = some (.int .u64 (Gz.hi x)))) ∧ Hid (Below (k + 1) w0 v)) : ((World.cell? v' ⟨k, 0, none⟩ = some (.int .u64 (Gz.n x))) ∧ (World.cell? v' ⟨k, 1, none⟩ = some (.int .u64 (Gz.nans x))) ∧ (World.cell? v' ⟨k, 2, none⟩ = some (.int .u64 (Gz.lo x))) ∧ (World.cell? v' ⟨k, 3, none⟩ = some (.int .u64 (Gz.hi x)))) ∧ Hid (Below (k + 1) w0 v') :=
  ⟨gc_below hb (Nat.lt_succ_self _) h.1, h.2.out.trans hb⟩
theorem keepH {w0 v v' : World} {k : Nat} {x : Gz} (h0 : Hid (k + 1 ≤ w0.heap.size)) (hb : Below v.heap.size v v') (h : ((World.cell? v ⟨k, 0, none⟩ = some (.int .u64 (Gz.n x))) ∧ (World.cell? v ⟨k, 1, none⟩ = some (.int .u64 (Gz.nans x))) ∧ (World.cell? v ⟨k, 2, none⟩ = some (.int .u64 (Gz.lo x))) ∧ (World.cell? v ⟨k, 3, none⟩ = some (.int .u64 (Gz.hi x)))) ∧ Hid (Below (k + 1) w0 v)) : ((World.cell? v' ⟨k, 0, none⟩ = some (.int .u64 (Gz.n x))) ∧ (World.cell? v' ⟨k, 1, none⟩ = some (.int .u64 (Gz.nans x))) ∧ (World.cell? v' ⟨k, 2, none⟩ = some (.int .u64 (Gz.lo x))) ∧ (World.cell? v' ⟨k, 3, none⟩ = some (.int .u64 (Gz.hi x)))) ∧ Hid (Below (k + 1) w0 v') :=
  keepG (hb.mono (Nat.le_trans h0.out h.2.out.size)) h

set_option maxHeartbeats 2000000 in
theorem gput_any (a : Option Addr) (n cap : Nat) (zs : List Int) (g : Gz) (w : World) (hg : GW g) (hn : n ≤ 140737488355328) (hr : Row .u8 w a n zs) :
    Calls Tryz.prog 16 #[.slice a n cap, (Value.agg #[.int .u64 (Gz.n g), .int .u64 (Gz.nans g), .int .u64 (Gz.lo g), .int .u64 (Gz.hi g)])] w fun e w' => ∃ a' cap', e = .returned (.slice a' (n + (putG g).length) cap') ∧ Mine w' w.heap.size a' (n + (putG g).length) cap' (zs ++ putG g) ∧ Below w.heap.size w w' := by
  obtain ⟨w0, hw0⟩ : ∃ w0, Hid (w.alloc (.cells #[.int .u64 g.n, .int .u64 g.nans, .int .u64 g.lo, .int .u64 g.hi] 26) = w0) := ⟨_, rfl⟩
  have G : Hid (GBox w0 w.heap.size g.n g.nans g.lo g.hi) := by rw [← hw0.out]; exact GBox.new w _ _ _ _ _
  have Z0 : Hid (w.heap.size + 1 ≤ w0.heap.size) := G.out.lt
  have S0 : Hid (((World.cell? w0.drew ⟨w.heap.size, 0, none⟩ = some (.int .u64 (Gz.n g))) ∧ (World.cell? w0.drew ⟨w.heap.size, 1, none⟩ = some (.int .u64 (Gz.nans g))) ∧ (World.cell? w0.drew ⟨w.heap.size, 2, none⟩ = some (.int .u64 (Gz.lo g))) ∧ (World.cell? w0.drew ⟨w.heap.size, 3, none⟩ = some (.int .u64 (Gz.hi g)))) ∧ Hid (Below (w.heap.size + 1) w0 w0.drew)) := ⟨G.out.drew.gc, (Below.refl _ _).drew⟩
  have R0 : Hid (Row .u8 w0 a n zs) := by rw [← hw0.out]; exact hr.alloc _
  have B0 : Hid (Below w.heap.size w w0) := by rw [← hw0.out]; exact (Below.refl _ _).alloc (Nat.le_refl _) _
  obtain ⟨PM, hPM⟩ : ∃ PM, Hid (putS g.nans = PM) := ⟨_, rfl⟩
  obtain ⟨PN, hPN⟩ : ∃ PN, Hid (putS g.n = PN) := ⟨_, rfl⟩
  obtain ⟨lm, hlm⟩ : ∃ l, Hid (PM.length = l) := ⟨_, rfl⟩
  obtain ⟨ln, hln⟩ : ∃ l, Hid (PN.length = l) := ⟨_, rfl⟩
  have hm1 : 1 ≤ lm ∧ lm ≤ 10 := by rw [← hlm.out, ← hPM.out]; exact putS_len _
  have hn1 : 1 ≤ ln ∧ ln ≤ 10 := by rw [← hln.out, ← hPN.out]; exact putS_len _
  have BM : Hid (Bytes8 PM) := by rw [← hPM.out]; exact putS_byte hg.nans
  have BN : Hid (Bytes8 PN) := by rw [← hPN.out]; exact putS_byte hg.n
  have P1 : Hid (∀ W : World, Calls Tryz.prog 35 #[.slice none 0 0, .int .u64 g.nans] W fun e w' => ∃ a' cap', e = .returned (.slice a' lm cap') ∧ Mine w' W.heap.size a' lm cap' PM ∧ Below W.heap.size W w') := fun W => by
    have h := put_any g.nans none 0 0 [] W hg.nans (by omega) (Nat.le_refl _) (nil_row _ _ _)
    rw [List.nil_append, hPM.out, hlm.out, Nat.zero_add] at h
    exact h
  have P2 : Hid (∀ (W : World) (a1 : Option Addr) (c1 base : Nat), Mine W base a1 lm c1 PM → Calls Tryz.prog 35 #[.slice a1 lm c1, .int .u64 g.n] W fun e w' => ∃ a' cap', e = .returned (.slice a' (lm + ln) cap') ∧ Mine w' W.heap.size a' (lm + ln) cap' (PM ++ PN) ∧ Below W.heap.size W w') := fun W a1 c1 base o => by
    have h := put_any g.n a1 lm c1 PM W hg.n (by omega) o.capped.1 (o.row (by omega) (fits_wf BM.out))
    rw [hPN.out, hln.out] at h
    exact h
  have HE : Hid (putG g = PM ++ PN ++ (if g.n = 0 then [] else b8 g.lo 8 ++ b8 g.hi 8)) := by
    show _ = _
    unfold putG; rw [hPM.out, hPN.out, List.append_assoc]
  have hl8 := b8_len g.lo 8
  have hh8 := b8_len g.hi 8
  have Q1 : Hid (∀ (W : World) (a1 : Option Addr) (c1 base : Nat), base ≤ W.heap.size → Mine W base a1 (lm + ln) c1 (PM ++ PN) → Calls Tryz.prog 36 #[.slice a1 (lm + ln) c1, .int .u64 g.lo] W fun e w' => ∃ a' cap', e = .returned (.slice a' (lm + ln + 8) cap') ∧ Mine w' base a' (lm + ln + 8) cap' (PM ++ PN ++ b8 g.lo 8) ∧ Below base W w') := fun W a1 c1 base hb o =>
    putbits_any g.lo base a1 (lm + ln) c1 (PM ++ PN) W hg.lo (by omega) hb o
  have Q2 : Hid (∀ (W : World) (a1 : Option Addr) (c1 base : Nat), base ≤ W.heap.size → Mine W base a1 (lm + ln + 8) c1 (PM ++ PN ++ b8 g.lo 8) → Calls Tryz.prog 36 #[.slice a1 (lm + ln + 8) c1, .int .u64 g.hi] W fun e w' => ∃ a' cap', e = .returned (.slice a' (lm + ln + 16) cap') ∧ Mine w' base a' (lm + ln + 16) cap' (PM ++ PN ++ b8 g.lo 8 ++ b8 g.hi 8) ∧ Below base W w') := fun W a1 c1 base hb o =>
    putbits_any g.hi base a1 (lm + ln + 8) c1 (PM ++ PN ++ b8 g.lo 8) W hg.hi (by omega) hb o
  have CT : Hid (∀ (W : World) (a1 : Option Addr) (m c1 base : Nat) (Z : List Int), Below w.heap.size w W → m ≤ 100 → 0 < m → Bytes8 Z → Mine W base a1 m c1 Z → Calls Tryz.prog 19 #[.slice (some ⟨W.heap.size, 0, none⟩) 2 2] (W.alloc (.cells #[.slice a n cap, .slice a1 m c1] 29)) fun e w' => ∃ a' cap', e = .returned (.slice a' (n + m) cap') ∧ Mine w' W.heap.size a' (n + m) cap' (zs ++ Z) ∧ Below W.heap.size W w') := fun W a1 m c1 base Z hW hm1 hm2 hZ o =>
    concat_two a n cap zs a1 m c1 Z W (hr.below hW (Nat.le_refl _)) (o.row (by omega) (fits_wf hZ)) hm2 (by omega)
  have BL := hide (b8_byte g.lo 8)
  have BH := hide (b8_byte g.hi 8)
  have hgn := hg.n.1
  clear hg G hr R0 hPM hPN
  generalize putG g = PG at HE ⊢
  generalize b8 g.lo 8 = BLO at *
  generalize b8 g.hi 8 = BHI at *
  go_enter Tryz.func16, Tryz.ntmps16
  go_upto_region 1 with fail
  rw [hw0.out]
  clear hw0
  obtain ⟨k, hk⟩ : ∃ k, Hid (w.heap.size = k) := ⟨_, rfl⟩
  rw [hk.out] at S0 Z0
  rw [hk.out]
  go_cut [5] (fun x wx => ∃ a1 c1, x = .slice a1 (lm + ln) c1 ∧ Hid (Mine wx (k + 1) a1 (lm + ln) c1 (PM ++ PN)) ∧ Hid (((World.cell? wx ⟨k, 0, none⟩ = some (.int .u64 (Gz.n g))) ∧ (World.cell? wx ⟨k, 1, none⟩ = some (.int .u64 (Gz.nans g))) ∧ (World.cell? wx ⟨k, 2, none⟩ = some (.int .u64 (Gz.lo g))) ∧ (World.cell? wx ⟨k, 3, none⟩ = some (.int .u64 (Gz.hi g)))) ∧ Hid (Below (k + 1) w0 wx)))
  case first =>
    go_region_held3 (fun w' => ((World.cell? w' ⟨k, 0, none⟩ = some (.int .u64 (Gz.n g))) ∧ (World.cell? w' ⟨k, 1, none⟩ = some (.int .u64 (Gz.nans g))) ∧ (World.cell? w' ⟨k, 2, none⟩ = some (.int .u64 (Gz.lo g))) ∧ (World.cell? w' ⟨k, 3, none⟩ = some (.int .u64 (Gz.hi g)))) ∧ Hid (Below (k + 1) w0 w')) (first | exact S0.out | exact keepH Z0 (by assumption) (by assumption)) (first
      | (go_at_call 35; with_reducible refine (P1.out _).mono ?_; rintro e v1 ⟨a1, c1, rfl, o1, b1⟩; have O1 := hide o1)
      | (go_at_call 35; with_reducible refine (P2.out _ _ _ _ O1.out).mono ?_; rintro e v2 ⟨a2, c2, rfl, o2, b2⟩; have O2 := hide o2))
    go_wp2_with fail
    go_meet
    case rel =>
      have hz : k + 1 ≤ v1.heap.size := Nat.le_trans Z0.out b1.size
      exact ⟨a2, c2, rfl, O2.out.mono hz, by assumption⟩
  case rest =>
    obtain ⟨a1, c1, rfl, O1, S1⟩ := hcut
    have f0 := S1.out.1.1
    have HBW : Hid (Below w.heap.size w wc) := by
      rw [hk.out] at B0 ⊢
      exact B0.out.trans (S1.out.2.out.mono (Nat.le_succ _))
    have HB2 : Hid (∀ W' : World, Below wc.heap.size wc W' → Below w.heap.size w W') := fun W' h => bel_to HBW.out (Nat.le_refl _) h
    by_cases h0 : g.n = 0
    · have i0 : ¬ 0 < g.n := by omega
      have hE := HE.out
      rw [if_pos h0, List.append_nil] at hE
      have hL : PG.length = lm + ln := by rw [hE, List.length_append, hlm.out, hln.out]
      have C := hide (CT.out wc a1 (lm + ln) c1 (k + 1) PG HBW.out (by omega) (by omega) (by rw [hE]; exact Bytes8.append BM.out BN.out) (by rw [hE]; exact O1.out))
      clear hE HE h0 P1 P2 Q1 Q2 CT O1
      go_wp2_with fail
      refine C.out.mono ?_
      rintro e w' ⟨a', c', rfl, o, b⟩
      have O := hide o
      have B := hide (HB2.out _ b)
      have hz : w.heap.size ≤ wc.heap.size := HBW.out.size
      clear o b
      go_wp2
      go_ret
      rw [hL]
      exact ⟨a', c', rfl, O.out.mono hz, B.out⟩
    · have i0 : 0 < g.n := by omega
      have S2 : Hid (((World.cell? wc.drew ⟨k, 0, none⟩ = some (.int .u64 (Gz.n g))) ∧ (World.cell? wc.drew ⟨k, 1, none⟩ = some (.int .u64 (Gz.nans g))) ∧ (World.cell? wc.drew ⟨k, 2, none⟩ = some (.int .u64 (Gz.lo g))) ∧ (World.cell? wc.drew ⟨k, 3, none⟩ = some (.int .u64 (Gz.hi g)))) ∧ Hid (Below (k + 1) w0 wc.drew)) := ⟨S1.out.1, S1.out.2.out.drew⟩
      have O1d : Hid (Mine wc.drew (k + 1) a1 (lm + ln) c1 (PM ++ PN)) := O1.out.drew
      have Z1 : Hid (k + 1 ≤ wc.drew.heap.size) := Nat.le_trans Z0.out S1.out.2.out.size
      have hE := HE.out
      rw [if_neg h0] at hE
      have hL : PG.length = lm + ln + 16 := by rw [hE]; simp only [List.length_append]; rw [hlm.out, hln.out, hl8, hh8]
      have hE2 : PM ++ PN ++ BLO ++ BHI = PG := by rw [hE]; simp only [List.append_assoc]
      have HPB : Hid (Bytes8 PG) := by rw [hE]; exact Bytes8.append (Bytes8.append BM.out BN.out) (Bytes8.append BL.out BH.out)
      rw [hE2] at Q2
      clear hE hE2 HE h0 P1 P2 O1
      go_upto_region 3 with fail
      go_cut [5] (fun x wx => ∃ a1 c1, x = .slice a1 (lm + ln + 16) c1 ∧ Hid (Mine wx (k + 1) a1 (lm + ln + 16) c1 PG) ∧ Hid (((World.cell? wx ⟨k, 0, none⟩ = some (.int .u64 (Gz.n g))) ∧ (World.cell? wx ⟨k, 1, none⟩ = some (.int .u64 (Gz.nans g))) ∧ (World.cell? wx ⟨k, 2, none⟩ = some (.int .u64 (Gz.lo g))) ∧ (World.cell? wx ⟨k, 3, none⟩ = some (.int .u64 (Gz.hi g)))) ∧ Hid (Below (k + 1) w0 wx)))
      case first =>
        go_region_held3 (fun w' => ((World.cell? w' ⟨k, 0, none⟩ = some (.int .u64 (Gz.n g))) ∧ (World.cell? w' ⟨k, 1, none⟩ = some (.int .u64 (Gz.nans g))) ∧ (World.cell? w' ⟨k, 2, none⟩ = some (.int .u64 (Gz.lo g))) ∧ (World.cell? w' ⟨k, 3, none⟩ = some (.int .u64 (Gz.hi g)))) ∧ Hid (Below (k + 1) w0 w')) (first | exact S2.out | exact keepG (by assumption) (by assumption)) (first
          | (go_at_call 36; with_reducible refine (Q1.out _ _ _ _ Z1.out O1d.out).mono ?_; rintro e v1 ⟨a2, c2, rfl, o1, b1⟩; have O2 := hide o1)
          | (go_at_call 36; with_reducible refine (Q2.out _ _ _ _ (Nat.le_trans Z1.out b1.size) O2.out).mono ?_; rintro e v2 ⟨a3, c3, rfl, o2, b2⟩; have O3 := hide o2))
        go_wp2_with fail
        go_meet
        case rel => exact ⟨a3, c3, rfl, O3, by assumption⟩
      case rest =>
        obtain ⟨a4, c4, rfl, O4, S4⟩ := hcut
        clear HB2 HBW S2 O1d Z1 f0 S1 Q1 Q2
        have HBW : Hid (Below w.heap.size w wc) := by
          rw [hk.out] at B0 ⊢
          exact B0.out.trans (S4.out.2.out.mono (Nat.le_succ _))
        have HB2 : Hid (∀ W' : World, Below wc.heap.size wc W' → Below w.heap.size w W') := fun W' h => bel_to HBW.out (Nat.le_refl _) h
        have C := hide (CT.out wc a4 (lm + ln + 16) c4 (k + 1) PG HBW.out (by omega) (by omega) HPB.out O4.out)
        clear CT O4 S4
        go_wp2_with fail
        refine C.out.mono ?_
        rintro e w' ⟨a', c', rfl, o, b⟩
        have O := hide o
        have B := hide (HB2.out _ b)
        have hz : w.heap.size ≤ wc.heap.size := HBW.out.size
        clear o b
        go_wp2
        go_ret
        rw [hL]
        exact ⟨a', c', rfl, O.out.mono hz, B.out⟩
end Go.Proofs.YtadcaonkmncgoaaGreat

namespace Go.Proofs.YtadcaonkmncgoaaGreat
open Go.RowKit
set_option maxRecDepth 20000

/-- What Get answers. -/
def gotG (r : Option (Gz × Int)) : Ending :=
  match r with
  | none => .returned (.tuple #[.agg #[.int .u64 0, .int .u64 0, .int .u64 0, .int .u64 0], .int .i64 0, .bool false])
  | some q => .returned (.tuple #[(Value.agg #[.int .u64 (Gz.n q.1), .int .u64 (Gz.nans q.1), .int .u64 (Gz.lo q.1), .int .u64 (Gz.hi q.1)]), .int .i64 q.2, .bool true])

theorem GBox.new1 (w : World) (o : Obj) (t : TypeId) (n m lo hi : Int) : GBox ((w.alloc (.cells #[.int .u64 n, .int .u64 m, .int .u64 lo, .int .u64 hi] t)).alloc o) w.heap.size n m lo hi := (GBox.new w t n m lo hi).alloc o
set_option maxHeartbeats 2000000 in
theorem gget_any (p : Int) (a : Option Addr) (n cap : Nat) (zs : List Int) (w : World) (hp : (Lit.int .i64 p).wf = true) (hc : n ≤ cap) (hr : Row .u8 w a n zs) :
    Calls Tryz.prog 24 #[.slice a n cap, .int .i64 p] w fun e w' => e = gotG (getG zs p) ∧ Below w.heap.size w w' := by
  have hl := hr.1
  have hn := hr.2.1
  have hzb : Bytes8 zs := hr.bytes
  have R := hide hr
  have G1 := hide (fun W (h : Row .u8 W a n zs) => get_any p a n cap zs W hp hc h)
  have R1 := hide (fun o => hr.alloc o)
  clear hr
  cases e1 : getS zs p with
  | none =>
    have F := hide (getG_no1 e1)
    rw [e1] at G1
    simp only [gotE] at G1
    rw [F.out]
    simp only [gotG]
    clear e1
    go_enter Tryz.func24, Tryz.ntmps24
    go_wp2_with fail
    with_reducible refine (G1.out _ (R1.out _)).mono ?_
    rintro e w1 ⟨rfl, rfl⟩
    go_wp2
    refine bodyPost_ret (v := .tuple #[.agg #[.int .u64 0, .int .u64 0, .int .u64 0, .int .u64 0], .int .i64 0, .bool false]) (by simp [results, Tryz.results24, go_sem]) rfl ⟨rfl, ?_⟩
    exact (Below.refl _ _).alloc (Nat.le_refl _) _
  | some q =>
    obtain ⟨m, q⟩ := q
    obtain ⟨hm, k1, hpk, hk1, hq, hkq, _⟩ := getS_some hzb e1
    clear hpk
    obtain ⟨t, ht⟩ : ∃ t, k1 + (putS m).length = t := ⟨_, rfl⟩
    rw [ht] at hq hkq
    have G2 := hide (fun W (h : Row .u8 W a n zs) => get_any (t : Int) a n cap zs W (i64_wf (by omega) (by omega)) hc h)
    rw [← hq] at G2
    rw [e1] at G1
    simp only [gotE] at G1
    cases e2 : getS zs q with
    | none =>
      have F := hide (getG_no2 e1 e2)
      rw [e2] at G2
      simp only [gotE] at G2
      rw [F.out]
      simp only [gotG]
      clear e1 e2 hq
      go_enter Tryz.func24, Tryz.ntmps24
      go_wp2_with fail
      with_reducible refine (G1.out _ (R1.out _)).mono ?_
      rintro e w1 ⟨rfl, rfl⟩
      go_wp2_with fail
      with_reducible refine (G2.out _ (R1.out _)).mono ?_
      rintro e w1 ⟨rfl, rfl⟩
      go_wp2
      refine bodyPost_ret (v := .tuple #[.agg #[.int .u64 0, .int .u64 0, .int .u64 0, .int .u64 0], .int .i64 0, .bool false]) (by simp [results, Tryz.results24, go_sem]) rfl ⟨rfl, ?_⟩
      exact (Below.refl _ _).alloc (Nat.le_refl _) _
    | some r =>
      obtain ⟨x, r⟩ := r
      obtain ⟨hx, k2, hqk, hk2, hr2, hkr, _⟩ := getS_some hzb e2
      clear hqk
      obtain ⟨u, hu⟩ : ∃ u, k2 + (putS x).length = u := ⟨_, rfl⟩
      rw [hu] at hr2 hkr
      have F := hide (getG_two e1 e2)
      rw [e2] at G2
      simp only [gotE] at G2
      subst hr2
      rw [Int.toNat_natCast] at F
      have hun : u ≤ n := by omega
      clear e1 e2 ht hu hk1 hk2 hkr hkq hp hc hq
      by_cases hx0 : x = 0
      · subst hx0
        have C := hide (fun W => gchk_any ⟨0, m, 0, 0⟩ ⟨w0, hm, w0, w0⟩ W)
        rw [chk_of_none rfl rfl rfl] at C
        dsimp only at C
        rw [if_pos rfl] at F
        rw [F.out]
        simp only [gotG]
        clear F
        go_enter Tryz.func24, Tryz.ntmps24
        go_wp2_with fail
        with_reducible refine (G1.out _ (R1.out _)).mono ?_
        rintro e w1 ⟨rfl, rfl⟩
        go_wp2_with fail
        with_reducible refine (G2.out _ (R1.out _)).mono ?_
        rintro e w1 ⟨rfl, rfl⟩
        go_wp2_with fail
        with_reducible refine (C.out _).mono ?_
        rintro e w1 ⟨rfl, hb⟩
        have GA : Hid (GBox w1 w.heap.size 0 0 0 0) := (GBox.new1 w _ _ 0 0 0 0).below hb (by simp [go_sem])
        have GB : Hid (GBox w1 (w.heap.size + 1) 0 m 0 0) := (GBox.new2 w _ _ 0 m 0 0).below hb (by simp [go_sem])
        have B : Hid (Below w.heap.size w w1) := (bel2 w _ _).trans (hb.mono (by rw [size_al, size_al]; omega))
        obtain ⟨_, c0, c1, c2, c3, f0, f1, f2, f3⟩ := GA.out
        obtain ⟨_, d0, d1, d2, d3, _, _, _, _⟩ := GB.out
        clear hb
        go_wp2
        have G2 := GA.out.set 0 m 0 0
        exact bodyPost_ret (v := .tuple #[.agg #[.int .u64 0, .int .u64 m, .int .u64 0, .int .u64 0], .int .i64 u, .bool true]) (by simp [results, Tryz.results24, go_sem, G2.c0, G2.c1, G2.c2, G2.c3]) rfl ⟨rfl, bel_set4 B.out (Nat.le_refl _) _ _ _ _⟩
      · rw [if_neg hx0, hl] at F
        have ix : 0 < x := by have := hx.1; omega
        by_cases h16 : (n : Int) - (u : Int) < 16
        · rw [if_pos h16] at F
          rw [F.out]
          simp only [gotG]
          clear F hx0
          go_enter Tryz.func24, Tryz.ntmps24
          go_wp2_with fail
          with_reducible refine (G1.out _ (R1.out _)).mono ?_
          rintro e w1 ⟨rfl, rfl⟩
          go_wp2_with fail
          with_reducible refine (G2.out _ (R1.out _)).mono ?_
          rintro e w1 ⟨rfl, rfl⟩
          go_wp2
          refine bodyPost_ret (v := .tuple #[.agg #[.int .u64 0, .int .u64 0, .int .u64 0, .int .u64 0], .int .i64 0, .bool false]) (by simp [results, Tryz.results24, go_sem]) rfl ⟨rfl, ?_⟩
          exact bel2 _ _ _
        · rw [if_neg h16] at F
          have hlo := n8_word hzb u
          have hhi := n8_word hzb (u + 8)
          have T1 := hide (fun W (h : Row .u8 W a n zs) => bitsat_any u a n cap zs W (by omega) h)
          have T2 := hide (fun W (h : Row .u8 W a n zs) => bitsat_any (u + 8) a n cap zs W (by omega) h)
          rw [show ((u + 8 : Nat) : Int) = (u : Int) + 8 by omega] at T2
          generalize n8 zs u 8 = lo at *
          generalize n8 zs (u + 8) 8 = hi at *
          have C := hide (fun W => gchk_any ⟨x, m, lo, hi⟩ ⟨hx, hm, hlo, hhi⟩ W)
          dsimp only at C
          have R2 := hide (fun o o' => (R1.out o).alloc o')
          cases ec : chkG ⟨x, m, lo, hi⟩
          · rw [ec] at C F
            rw [if_neg (by decide)] at F
            rw [F.out]
            simp only [gotG]
            clear F hx0 ec
            go_enter Tryz.func24, Tryz.ntmps24
            go_wp2_with fail
            with_reducible refine (G1.out _ (R1.out _)).mono ?_
            rintro e w1 ⟨rfl, rfl⟩
            go_wp2_with fail
            with_reducible refine (G2.out _ (R1.out _)).mono ?_
            rintro e w1 ⟨rfl, rfl⟩
            go_wp2_with fail
            with_reducible refine (T1.out _ (R2.out _ _)).mono ?_
            rintro e w1 ⟨rfl, rfl⟩
            go_wp2_with fail
            with_reducible refine (T2.out _ (R2.out _ _)).mono ?_
            rintro e w1 ⟨rfl, rfl⟩
            go_wp2_with fail
            with_reducible refine (C.out _).mono ?_
            rintro e w1 ⟨rfl, hb⟩
            have GA : Hid (GBox w1 w.heap.size 0 0 0 0) := (GBox.new1 w _ _ 0 0 0 0).below hb (by simp [go_sem])
            have B : Hid (Below w.heap.size w w1) := (bel2 w _ _).trans (hb.mono (by rw [size_al, size_al]; omega))
            obtain ⟨_, c0, c1, c2, c3, f0, f1, f2, f3⟩ := GA.out
            clear hb
            go_wp2
            have G2 := GA.out.set 0 0 0 0
            exact bodyPost_ret (v := .tuple #[.agg #[.int .u64 0, .int .u64 0, .int .u64 0, .int .u64 0], .int .i64 0, .bool false]) (by simp [results, Tryz.results24, go_sem, G2.c0, G2.c1, G2.c2, G2.c3]) rfl ⟨rfl, bel_set4 B.out (Nat.le_refl _) _ _ _ _⟩
          · rw [ec] at C F
            rw [if_pos rfl] at F
            rw [F.out]
            simp only [gotG]
            clear F hx0 ec
            go_enter Tryz.func24, Tryz.ntmps24
            go_wp2_with fail
            with_reducible refine (G1.out _ (R1.out _)).mono ?_
            rintro e w1 ⟨rfl, rfl⟩
            go_wp2_with fail
            with_reducible refine (G2.out _ (R1.out _)).mono ?_
            rintro e w1 ⟨rfl, rfl⟩
            go_wp2_with fail
            with_reducible refine (T1.out _ (R2.out _ _)).mono ?_
            rintro e w1 ⟨rfl, rfl⟩
            go_wp2_with fail
            with_reducible refine (T2.out _ (R2.out _ _)).mono ?_
            rintro e w1 ⟨rfl, rfl⟩
            go_wp2_with fail
            with_reducible refine (C.out _).mono ?_
            rintro e w1 ⟨rfl, hb⟩
            have GA : Hid (GBox w1 w.heap.size 0 0 0 0) := (GBox.new1 w _ _ 0 0 0 0).below hb (by simp [go_sem])
            have GB : Hid (GBox w1 (w.heap.size + 1) x m lo hi) := (GBox.new2 w _ _ x m lo hi).below hb (by simp [go_sem])
            have B : Hid (Below w.heap.size w w1) := (bel2 w _ _).trans (hb.mono (by rw [size_al, size_al]; omega))
            obtain ⟨_, c0, c1, c2, c3, f0, f1, f2, f3⟩ := GA.out
            obtain ⟨_, d0, d1, d2, d3, _, _, _, _⟩ := GB.out
            clear hb
            go_wp2
            have G2 := GA.out.set x m lo hi
            exact bodyPost_ret (v := .tuple #[.agg #[.int .u64 x, .int .u64 m, .int .u64 lo, .int .u64 hi], .int .i64 (u + 16), .bool true]) (by simp [results, Tryz.results24, go_sem, G2.c0, G2.c1, G2.c2, G2.c3]) rfl ⟨rfl, bel_set4 B.out (Nat.le_refl _) _ _ _ _⟩
end Go.Proofs.YtadcaonkmncgoaaGreat

namespace Go.Proofs.YtadcaonkmncgoaaGreat
open Go.RowKit
set_option maxRecDepth 20000

set_option maxHeartbeats 1000000 in
theorem eight_any (v : Int) (w : World) (hv : Word v) :
    Calls Tryz.prog 52 #[.int .u64 v] w fun e w' => ∃ a' cap', e = .returned (.slice a' 8 cap') ∧ Mine w' w.heap.size a' 8 cap' (b8 v 8) ∧ Below w.heap.size w w' := by
  obtain ⟨i0, hi, hz0, hz1, hz2⟩ := info_parts Tryz.info5
  obtain ⟨v0, v1⟩ := hv
  go_enter Tryz.func52, Tryz.ntmps52
  go_wp2
  go_loopw [3, 4] (fun b i wr => ∃ (ar : Option Addr) (capr : Nat) (j : Nat), b = .slice ar j capr ∧ i = .int .i64 j ∧ j ≤ 8 ∧ Hid (Mine wr w.heap.size ar j capr (b8 v j)) ∧ Hid (Below w.heap.size w wr)) (fun _ i _ => 8 - (intOf i).toNat)
  case atStart => exact ⟨none, 0, 0, rfl, rfl, by omega, own_nil _ _ _ _, Below.refl _ _⟩
  case round =>
    obtain ⟨ar, capr, j, rfl, rfl, hj, HR, HW⟩ := hrel
    by_cases hu : j < 8
    · have i1 : (j : Int) < 8 := by omega
      obtain ⟨z, hz⟩ : ∃ z : Int, Hid (v / 2 ^ (8 * j) % 256 = z) := ⟨_, rfl⟩
      have zb : 0 ≤ z ∧ z ≤ 255 := by rw [← hz.out]; omega
      have hzz := hz.out
      have HO := hide (one_row (k := .u8) wr z (wf_of_u8 zb.1 zb.2) 5 (0, 0))
      have HSA : Hid (Src 5 .u8 (wr.alloc (.cells #[.int .u8 z] 5)) w.heap.size ar j capr (b8 v j)) := Or.inl (HR.out.alloc _)
      have HBW : Hid (w.heap.size ≤ (wr.alloc (.cells #[.int .u8 z] 5)).heap.size) := by
        have := HW.out.size
        show _ ≤ _
        simp; omega
      clear zb
      go_wp2_with (at_builtin; rw [hzz]; refine wpList_append_one _ rfl _ _ 29 rfl w.heap.size 5 i0 Tryz.underlying29 hi hz0 hz1 hz2 ar j capr _ rfl HSA.out _ 1 z rfl HO.out (by omega) HBW.out ?_)
      intro a' cap' w' h1 h2
      have HF : Hid (Mine w' w.heap.size a' (j + 1) cap' (b8 v (j + 1)) ∧ Below w.heap.size w w') := by
        refine ⟨?_, (HW.out.alloc HW.out.size _).trans h2⟩
        rw [b8, hz.out]; exact h1
      clear h1 h2 HR HW HSA HO HBW hzz
      go_wp2
      go_roundw
      case rel => exact ⟨a', cap', j + 1, rfl, by go_num, by omega, HF.out.1, HF.out.2⟩
      case measure => simp [intOf]; omega
    · have hj8 : j = 8 := by omega
      subst hj8
      have i1 : ¬ ((8 : Nat) : Int) < 8 := by omega
      go_wp2
      go_ret
      exact ⟨ar, capr, rfl, HR.out, HW.out⟩

theorem wp_append_mine {P : Program} {w : World} {o : Oper} {a : Act} {K : Act → World → Prop} {Q : Exit → Act → World → Prop} (s x : Operand) (t : TypeId)
    (ho : o.op = .call { callee := .builtin .append, args := #[s, x], argTypes := #[t, t] })
    (base : Nat) (e : TypeId) (i : TypeInfo) (ht : P.underlying t = some (.slice e)) (hi : P.info? e = some i) (hz : i.zero = some (.int .u8 0)) (hsize : i.size = 1) (hby : i.bytes = 1)
    (ao : Option Addr) (n cap : Nat) (zs : List Int) (hs : a.eval s = .slice ao n cap) (hown : Own e .u8 w base ao n cap zs)
    (ax : Option Addr) (m c : Nat) (news : List Int) (hx : a.eval x = .slice ax m c) (hm : 0 < m) (hrow : Row .u8 w ax m news)
    (hbytes : n + m ≤ 1000) (hbase : base ≤ w.heap.size)
    (h : ∀ a' cap' w', Own e .u8 w' base a' (n + m) cap' (zs ++ news) → Below base w w' → K (a.put o.dst (.slice a' (n + m) cap')) w') : o.wp P a w K Q := by
  obtain ⟨ad, rfl⟩ : ∃ ad, ax = some ad := by
    cases ax with
    | none => have := hrow.nz rfl; omega
    | some ad => exact ⟨ad, rfl⟩
  refine wp_append_own w s x t ho base e i (.int .u8 0) 1 1 ht hi hz hsize hby rfl (by decide) _ n (zs.map (Value.int .u8)) hs hown ad m c (news.map (Value.int .u8)) hx (by simp [hrow.1]) hrow.cells (one_cell .u8 news) (by unfold maxLen; omega) (by omega) hbase ?_
  intro v' w' h1 h2 _
  rw [← List.map_append] at h1
  obtain ⟨a', cap', rfl, h3⟩ := own_form h1
  exact h a' cap' w' h3 ((Below.refl _ _).grown h2 hbase (own_block hown))

set_option maxHeartbeats 2000000 in
theorem refgput_any (g : Gz) (w : World) (hg : GW g) :
    Calls Tryz.prog 27 #[(Value.agg #[.int .u64 (Gz.n g), .int .u64 (Gz.nans g), .int .u64 (Gz.lo g), .int .u64 (Gz.hi g)])] w fun e w' => ∃ a' cap', e = .returned (.slice a' (putG g).length cap') ∧ Mine w' w.heap.size a' (putG g).length cap' (putG g) ∧ Below w.heap.size w w' := by
  obtain ⟨i0, hi, hz0, hz1, hz2⟩ := info_parts Tryz.info5
  obtain ⟨w0, hw0⟩ : ∃ w0, Hid (w.alloc (.cells #[.int .u64 g.n, .int .u64 g.nans, .int .u64 g.lo, .int .u64 g.hi] 26) = w0) := ⟨_, rfl⟩
  have G : Hid (GBox w0 w.heap.size g.n g.nans g.lo g.hi) := by rw [← hw0.out]; exact GBox.new w _ _ _ _ _
  have Z0 : Hid (w.heap.size + 1 ≤ w0.heap.size) := G.out.lt
  have S0 : Hid (((World.cell? w0.drew ⟨w.heap.size, 0, none⟩ = some (.int .u64 (Gz.n g))) ∧ (World.cell? w0.drew ⟨w.heap.size, 1, none⟩ = some (.int .u64 (Gz.nans g))) ∧ (World.cell? w0.drew ⟨w.heap.size, 2, none⟩ = some (.int .u64 (Gz.lo g))) ∧ (World.cell? w0.drew ⟨w.heap.size, 3, none⟩ = some (.int .u64 (Gz.hi g)))) ∧ Hid (Below (w.heap.size + 1) w0 w0.drew)) := ⟨G.out.drew.gc, (Below.refl _ _).drew⟩
  have B0 : Hid (Below w.heap.size w w0) := by rw [← hw0.out]; exact (Below.refl _ _).alloc (Nat.le_refl _) _
  obtain ⟨PM, hPM⟩ : ∃ PM, Hid (putS g.nans = PM) := ⟨_, rfl⟩
  obtain ⟨PN, hPN⟩ : ∃ PN, Hid (putS g.n = PN) := ⟨_, rfl⟩
  obtain ⟨lm, hlm⟩ : ∃ l, Hid (PM.length = l) := ⟨_, rfl⟩
  obtain ⟨ln, hln⟩ : ∃ l, Hid (PN.length = l) := ⟨_, rfl⟩
  have hm1 : 1 ≤ lm ∧ lm ≤ 10 := by rw [← hlm.out, ← hPM.out]; exact putS_len _
  have hn1 : 1 ≤ ln ∧ ln ≤ 10 := by rw [← hln.out, ← hPN.out]; exact putS_len _
  have BN : Hid (Bytes8 PN) := by rw [← hPN.out]; exact putS_byte hg.n
  have P1 := hide (fun W => refput_any g.nans W hg.nans)
  have P2 := hide (fun W => refput_any g.n W hg.n)
  rw [hPM.out, hlm.out] at P1
  rw [hPN.out, hln.out] at P2
  have Q1 := hide (fun W => eight_any g.lo W hg.lo)
  have Q2 := hide (fun W => eight_any g.hi W hg.hi)
  have HE : Hid (putG g = PM ++ PN ++ (if g.n = 0 then [] else b8 g.lo 8 ++ b8 g.hi 8)) := by
    show _ = _
    unfold putG; rw [hPM.out, hPN.out, List.append_assoc]
  have hl8 := b8_len g.lo 8
  have hh8 := b8_len g.hi 8
  have BL := hide (b8_byte g.lo 8)
  have BH := hide (b8_byte g.hi 8)
  have hgn := hg.n.1
  clear hg G hPM hPN
  generalize putG g = PG at HE ⊢
  generalize b8 g.lo 8 = BLO at *
  generalize b8 g.hi 8 = BHI at *
  go_enter Tryz.func27, Tryz.ntmps27
  go_upto_region 1 with fail
  rw [hw0.out]
  clear hw0
  obtain ⟨k, hk⟩ : ∃ k, Hid (w.heap.size = k) := ⟨_, rfl⟩
  rw [hk.out] at S0 Z0
  rw [hk.out]
  go_cut [3] (fun x wx => ∃ a1 c1, x = .slice a1 (lm + ln) c1 ∧ Hid (Mine wx (k + 1) a1 (lm + ln) c1 (PM ++ PN)) ∧ Hid (((World.cell? wx ⟨k, 0, none⟩ = some (.int .u64 (Gz.n g))) ∧ (World.cell? wx ⟨k, 1, none⟩ = some (.int .u64 (Gz.nans g))) ∧ (World.cell? wx ⟨k, 2, none⟩ = some (.int .u64 (Gz.lo g))) ∧ (World.cell? wx ⟨k, 3, none⟩ = some (.int .u64 (Gz.hi g)))) ∧ Hid (Below (k + 1) w0 wx)))
  case first =>
    go_region_held3 (fun w' => ((World.cell? w' ⟨k, 0, none⟩ = some (.int .u64 (Gz.n g))) ∧ (World.cell? w' ⟨k, 1, none⟩ = some (.int .u64 (Gz.nans g))) ∧ (World.cell? w' ⟨k, 2, none⟩ = some (.int .u64 (Gz.lo g))) ∧ (World.cell? w' ⟨k, 3, none⟩ = some (.int .u64 (Gz.hi g)))) ∧ Hid (Below (k + 1) w0 w')) (first | exact S0.out | exact keepH Z0 (by assumption) (by assumption) | exact keepG (by assumption) (by assumption)) (first
      | (go_at_call 51; with_reducible refine (P1.out _).mono ?_; rintro e v1 ⟨a1, c1, rfl, o1, b1⟩; have O1 := hide o1; have z1 := hide (Nat.le_trans Z0.out b1.size))
      | (go_at_call 51; with_reducible refine (P2.out _).mono ?_; rintro e v2 ⟨a2, c2, rfl, o2, b2⟩; have O2 := hide (o2.row (by omega) (fits_wf BN.out)); have O1' := hide ((O1.out.mono Z0.out).below b2 (Nat.le_refl _)); have z2 := hide (Nat.le_trans z1.out b2.size))
      | (refine wp_append_mine _ _ 29 rfl (k + 1) 5 i0 Tryz.underlying29 hi hz0 hz1 hz2 a1 lm c1 PM rfl O1'.out a2 ln c2 PN rfl (by omega) O2.out (by omega) z2.out ?_; intro a3 c3 v3 o3 b3; have O3 := hide o3))
    go_wp2_with fail
    go_meet
    case rel => exact ⟨a3, c3, rfl, O3, by assumption⟩
  case rest =>
    obtain ⟨a1, c1, rfl, O1, S1⟩ := hcut
    have f0 := S1.out.1.1
    have HBW : Hid (Below w.heap.size w wc) := by
      rw [hk.out] at B0 ⊢
      exact B0.out.trans (S1.out.2.out.mono (Nat.le_succ _))
    by_cases h0 : g.n = 0
    · have i0 : ¬ 0 < g.n := by omega
      have hE := HE.out
      rw [if_pos h0, List.append_nil] at hE
      have hL : PG.length = lm + ln := by rw [hE, List.length_append, hlm.out, hln.out]
      have hO : Hid (Mine wc w.heap.size a1 (lm + ln) c1 PG) := by rw [hE]; exact O1.out.mono (by rw [hk.out]; omega)
      clear hE HE h0 P1 P2 Q1 Q2 O1
      go_wp2
      go_ret
      try rw [hL]
      exact ⟨a1, c1, rfl, hO.out, HBW.out⟩
    · have i0' : 0 < g.n := by omega
      have S2 : Hid (((World.cell? wc.drew ⟨k, 0, none⟩ = some (.int .u64 (Gz.n g))) ∧ (World.cell? wc.drew ⟨k, 1, none⟩ = some (.int .u64 (Gz.nans g))) ∧ (World.cell? wc.drew ⟨k, 2, none⟩ = some (.int .u64 (Gz.lo g))) ∧ (World.cell? wc.drew ⟨k, 3, none⟩ = some (.int .u64 (Gz.hi g)))) ∧ Hid (Below (k + 1) w0 wc.drew)) := ⟨S1.out.1, S1.out.2.out.drew⟩
      have O1d : Hid (Mine wc.drew (k + 1) a1 (lm + ln) c1 (PM ++ PN)) := O1.out.drew
      have Z1 : Hid (k + 1 ≤ wc.drew.heap.size) := Nat.le_trans Z0.out S1.out.2.out.size
      have hE := HE.out
      rw [if_neg h0] at hE
      have hL : PG.length = lm + ln + 16 := by rw [hE]; simp only [List.length_append]; rw [hlm.out, hln.out, hl8, hh8]
      have hE2 : PM ++ PN ++ BLO ++ BHI = PG := by rw [hE]; simp only [List.append_assoc]
      clear hE HE h0 P1 P2 O1
      go_upto_region 3 with fail
      go_cut [3] (fun x wx => ∃ a1 c1, x = .slice a1 (lm + ln + 16) c1 ∧ Hid (Mine wx (k + 1) a1 (lm + ln + 16) c1 PG) ∧ Hid (((World.cell? wx ⟨k, 0, none⟩ = some (.int .u64 (Gz.n g))) ∧ (World.cell? wx ⟨k, 1, none⟩ = some (.int .u64 (Gz.nans g))) ∧ (World.cell? wx ⟨k, 2, none⟩ = some (.int .u64 (Gz.lo g))) ∧ (World.cell? wx ⟨k, 3, none⟩ = some (.int .u64 (Gz.hi g)))) ∧ Hid (Below (k + 1) w0 wx)))
      case first =>
        go_region_held3 (fun w' => ((World.cell? w' ⟨k, 0, none⟩ = some (.int .u64 (Gz.n g))) ∧ (World.cell? w' ⟨k, 1, none⟩ = some (.int .u64 (Gz.nans g))) ∧ (World.cell? w' ⟨k, 2, none⟩ = some (.int .u64 (Gz.lo g))) ∧ (World.cell? w' ⟨k, 3, none⟩ = some (.int .u64 (Gz.hi g)))) ∧ Hid (Below (k + 1) w0 w')) (first | exact S2.out | exact keepH Z0 (by assumption) (by assumption) | exact keepG (by assumption) (by assumption)) (first
          | (go_at_call 52; with_reducible refine (Q1.out _).mono ?_; rintro e v1 ⟨a2, c2, rfl, o1, b1⟩; have O2 := hide (o1.row (by omega) (fits_wf BL.out)); have O1' := hide (O1d.out.below b1 (Nat.le_refl _)); have z1 := hide (Nat.le_trans Z1.out b1.size))
          | (refine wp_append_mine _ _ 29 rfl (k + 1) 5 i0 Tryz.underlying29 hi hz0 hz1 hz2 a1 (lm + ln) c1 (PM ++ PN) rfl O1'.out a2 8 c2 BLO rfl (by omega) O2.out (by omega) z1.out ?_; intro a3 c3 v3 o3 b3; have O3 := hide o3; have z3 := hide (Nat.le_trans z1.out b3.size))
          | (go_at_call 52; with_reducible refine (Q2.out _).mono ?_; rintro e v4 ⟨a4, c4, rfl, o4, b4⟩; have O4 := hide (o4.row (by omega) (fits_wf BH.out)); have O3' := hide (O3.out.below b4 (Nat.le_refl _)); have z4 := hide (Nat.le_trans z3.out b4.size))
          | (refine wp_append_mine _ _ 29 rfl (k + 1) 5 i0 Tryz.underlying29 hi hz0 hz1 hz2 a3 (lm + ln + 8) c3 (PM ++ PN ++ BLO) rfl O3'.out a4 8 c4 BHI rfl (by omega) O4.out (by omega) z4.out ?_; intro a5 c5 v5 o5 b5; rw [hE2] at o5; have O5 := hide o5))
        go_wp2_with fail
        go_meet
        case rel => exact ⟨a5, c5, rfl, O5, by assumption⟩
      case rest =>
        obtain ⟨a4, c4, rfl, O4, S4⟩ := hcut
        clear HBW S2 O1d Z1 f0 S1 Q1 Q2
        have HBW : Hid (Below w.heap.size w wc) := by
          rw [hk.out] at B0 ⊢
          exact B0.out.trans (S4.out.2.out.mono (Nat.le_succ _))
        have hO : Hid (Mine wc w.heap.size a4 (lm + ln + 16) c4 PG) := O4.out.mono (by rw [hk.out]; omega)
        clear O4 S4
        go_wp2
        go_ret
        try rw [hL]
        exact ⟨a4, c4, rfl, hO.out, HBW.out⟩
end Go.Proofs.YtadcaonkmncgoaaGreat

namespace Go.Proofs.YtadcaonkmncgoaaGreat
open Go.RowKit
set_option maxRecDepth 20000

set_option maxHeartbeats 2000000 in
theorem fixbad_any (g : Nat) (a : Option Addr) (n cap : Nat) (p : Int) (w : World) (hrb : RB w g a n cap p true) :
    Calls Tryz.prog 55 #[.pointer (some ⟨g, 0, none⟩)] w fun e w' => e = .returned (.int .u64 0) ∧ Only g w w' ∧ RB w' g a n cap p true := by
  obtain ⟨c0, c1, c2, cf⟩ := hrb.cell
  have cf2 := cf 2
  have RS := hide (fun j => (hrb.drewN j).spoil)
  have OS := hide (fun j => ((Only.refl g w).drewN j).setCell 2 (.bool true))
  clear cf hrb
  go_enter Tryz.func55, Tryz.ntmps55
  go_wp2_with fail
  go_quiet (fail)
  go_wp2
  go_ret
  exact ⟨rfl, OS.out _, RS.out _⟩

set_option maxHeartbeats 2000000 in
theorem fixno_any (g : Nat) (a : Option Addr) (n cap t : Nat) (w : World) (_hn : n ≤ 281474976710656) (ht : t ≤ n) (h8 : (n : Int) - (t : Int) < 8) (hrb : RB w g a n cap (t : Int) false) :
    Calls Tryz.prog 55 #[.pointer (some ⟨g, 0, none⟩)] w fun e w' => e = .returned (.int .u64 0) ∧ Only g w w' ∧ RB w' g a n cap (t : Int) true := by
  obtain ⟨c0, c1, c2, cf⟩ := hrb.cell
  have cf2 := cf 2
  have RS := hide (fun j => (hrb.drewN j).spoil)
  have OS := hide (fun j => ((Only.refl g w).drewN j).setCell 2 (.bool true))
  clear cf hrb
  go_enter Tryz.func55, Tryz.ntmps55
  go_wp2_with fail
  go_quiet (fail)
  go_wp2
  go_ret
  exact ⟨rfl, OS.out _, RS.out _⟩

set_option maxHeartbeats 2000000 in
theorem fixok_any (g : Nat) (a : Option Addr) (n cap t : Nat) (zs : List Int) (w0 w : World) (hr : Row .u8 w0 a n zs) (hg : w0.heap.size ≤ g) (hb : Below w0.heap.size w0 w) (h8 : t + 8 ≤ n) (hrb : RB w g a n cap (t : Int) false) :
    Calls Tryz.prog 55 #[.pointer (some ⟨g, 0, none⟩)] w fun e w' => e = .returned (.int .u64 (n8 zs t 8)) ∧ Only g w w' ∧ RB w' g a n cap (t + 8 : Int) false := by
  have HZ : Hid (Bytes8 zs) := hr.bytes
  have hn := hr.2.1
  have i8 : ¬ (n : Int) - (t : Int) < 8 := by omega
  obtain ⟨_, _, _, h0 | ⟨b, off, rfl, hcell⟩⟩ := hr.below hb (Nat.le_refl _)
  · omega
  have HC : Hid (∀ W, Only g w W → ∀ i, i < n → W.cell? ⟨b, off + i, none⟩ = some (.int .u8 (zs.getD i 0))) := by
    intro W hW i hi
    obtain ⟨_, _, _, h0 | ⟨b', off', he, hcell'⟩⟩ := hr.below (hb.trans (hW.below hg)) (Nat.le_refl _)
    · omega
    · simp only [Option.some.injEq, Addr.mk.injEq, and_true] at he
      obtain ⟨rfl, rfl⟩ := he
      exact hcell' i hi
  have HRB := hide hrb
  obtain ⟨c0, c1, c2, _⟩ := hrb.cell
  clear hrb hcell hr
  go_enter Tryz.func55, Tryz.ntmps55
  go_wp2_with fail
  go_quiet (fail)
  have HD := hide ((Only.refl g w).drewN nq)
  have HR := hide (HRB.out.drewN nq)
  generalize w.drewN nq = wa at HD HR ⊢
  clear c0 c1 c2 HRB
  go_wp2_with fail
  go_loopw [3, 4] (fun x i wr => ∃ j : Nat, x = .int .u64 (n8 zs t j) ∧ i = .int .i64 j ∧ j ≤ 8 ∧ Hid (Only g w wr) ∧ Hid (RB wr g (some ⟨b, off, none⟩) n cap (t : Int) false)) (fun _ i _ => 8 - (intOf i).toNat)
  case atStart => exact ⟨0, rfl, rfl, by omega, HD, HR⟩
  case round =>
    obtain ⟨j, rfl, rfl, hj, HO, HR⟩ := hrel
    by_cases hu : j < 8
    · have i1 : (j : Int) < 8 := by omega
      obtain ⟨V0, V1⟩ := n8_bound HZ.out t j
      obtain ⟨z0, z1⟩ := getD_byte HZ.out (t + j)
      have hs : Hid (n8 zs t (j + 1) = n8 zs t j + zs.getD (t + j) 0 * 2 ^ (8 * j)) := rfl
      have b1 := HC.out wr HO.out (t + j) (by omega)
      generalize n8 zs t j = V at V0 V1 hs ⊢
      generalize zs.getD (t + j) 0 = z at b1 z0 z1 hs
      obtain ⟨e1, _, e3, e4⟩ := or8 j hu V0 V1 z0 z1
      rw [← hs.out] at e3 e4
      obtain ⟨X, hX⟩ : ∃ X, Hid (n8 zs t (j + 1) = X) := ⟨_, rfl⟩
      rw [hX.out] at e3 e4 hs
      have em : 0 ≤ z * 2 ^ (8 * j) := Int.mul_nonneg z0 (Int.le_of_lt (p8_pos j))
      obtain ⟨D, hD⟩ : ∃ D, z * 2 ^ (8 * j) = D := ⟨_, rfl⟩
      rw [hD] at hs em
      rw [hD] at e1
      have hadd : V + D = X := hs.out.symm
      have i2 : (0 : Int) ≤ (t : Int) + (j : Int) := by omega
      have i3 : (t : Int) + (j : Int) < (n : Int) := by omega
      have i4 : ((t : Int) + (j : Int)).toNat = t + j := by omega
      obtain ⟨c0, c1, c2, _⟩ := HR.out.cell
      clear V1
      go_upto_region 8 with fail
      go_quiet (fail)
      have HO2 := hide (HO.out.drewN nq)
      have HR2 := hide (HR.out.drewN nq)
      generalize wr.drewN nq = wb at HO2 HR2 ⊢
      clear c0 c1 c2 b1
      go_wp2
      go_roundw
      case rel => exact ⟨j + 1, by rw [hX.out], by go_num, by omega, HO2, HR2⟩
      case measure => simp [intOf]; omega
    · have hj8 : j = 8 := by omega
      subst hj8
      have i1 : ¬ ((8 : Nat) : Int) < 8 := by omega
      obtain ⟨c0, c1, c2, cf⟩ := HR.out.cell
      have cf1 := cf 1
      have OS := hide (HO.out.setCell 1 (.int .i64 ((t : Int) + 8)))
      have RS := hide (HR.out.place ((t : Int) + 8))
      clear cf
      go_wp2
      go_ret
      exact ⟨rfl, OS.out, RS.out⟩
end Go.Proofs.YtadcaonkmncgoaaGreat

namespace Go.Proofs.YtadcaonkmncgoaaGreat
open Go.RowKit
set_option maxRecDepth 20000

theorem GBox.block {w w' : World} {k : Nat} {n m lo hi : Int} (h : GBox w k n m lo hi) (hs : w.heap.size ≤ w'.heap.size) (hk : w'.heap[k]? = w.heap[k]?) : GBox w' k n m lo hi := by
  have c : ∀ i, w'.cell? ⟨k, i, none⟩ = w.cell? ⟨k, i, none⟩ := fun i => World.cell?_of_block (w := w) hk
  have f : ∀ i, w'.frozen? ⟨k, i, none⟩ = w.frozen? ⟨k, i, none⟩ := fun i => World.frozen?_of_block (w := w) hk
  exact ⟨Nat.lt_of_lt_of_le h.lt hs, (c 0).trans h.c0, (c 1).trans h.c1, (c 2).trans h.c2, (c 3).trans h.c3, (f 0).trans h.f0, (f 1).trans h.f1, (f 2).trans h.f2, (f 3).trans h.f3⟩
section
variable {w : World} {k : Nat} {n m lo hi : Int}
theorem GBox.set0 (h : GBox w k n m lo hi) (v : Int) : GBox (w.setCell ⟨k, 0, none⟩ (.int .u64 v)) k v m lo hi := by
  obtain ⟨l, c0, c1, c2, c3, f0, f1, f2, f3⟩ := h
  exact ⟨by simp [go_sem, l], by simp [go_sem, c0], by simp [go_sem, c1], by simp [go_sem, c2], by simp [go_sem, c3], by simp [go_sem, f0], by simp [go_sem, f1], by simp [go_sem, f2], by simp [go_sem, f3]⟩
theorem GBox.set1 (h : GBox w k n m lo hi) (v : Int) : GBox (w.setCell ⟨k, 1, none⟩ (.int .u64 v)) k n v lo hi := by
  obtain ⟨l, c0, c1, c2, c3, f0, f1, f2, f3⟩ := h
  exact ⟨by simp [go_sem, l], by simp [go_sem, c0], by simp [go_sem, c1], by simp [go_sem, c2], by simp [go_sem, c3], by simp [go_sem, f0], by simp [go_sem, f1], by simp [go_sem, f2], by simp [go_sem, f3]⟩
theorem GBox.set2 (h : GBox w k n m lo hi) (v : Int) : GBox (w.setCell ⟨k, 2, none⟩ (.int .u64 v)) k n m v hi := by
  obtain ⟨l, c0, c1, c2, c3, f0, f1, f2, f3⟩ := h
  exact ⟨by simp [go_sem, l], by simp [go_sem, c0], by simp [go_sem, c1], by simp [go_sem, c2], by simp [go_sem, c3], by simp [go_sem, f0], by simp [go_sem, f1], by simp [go_sem, f2], by simp [go_sem, f3]⟩
theorem GBox.set3 (h : GBox w k n m lo hi) (v : Int) : GBox (w.setCell ⟨k, 3, none⟩ (.int .u64 v)) k n m lo v := by
  obtain ⟨l, c0, c1, c2, c3, f0, f1, f2, f3⟩ := h
  exact ⟨by simp [go_sem, l], by simp [go_sem, c0], by simp [go_sem, c1], by simp [go_sem, c2], by simp [go_sem, c3], by simp [go_sem, f0], by simp [go_sem, f1], by simp [go_sem, f2], by simp [go_sem, f3]⟩
end
theorem RB.block {w w' : World} {g : Nat} {a : Option Addr} {n cap : Nat} {p : Int} {bad : Bool} (h : RB w g a n cap p bad) (hk : w'.heap[g]? = w.heap[g]?) : RB w' g a n cap p bad := hk.trans h

theorem Only.chg {g : Nat} {w w' : World} (h : Only g w w') : Ch (fun k => k = g) w w' := ⟨h.os, h.tape, h.output, by rw [h.size]; exact Nat.le_refl _, fun k _ hn => h.block k hn⟩
/-- A write to what is newer. -/
theorem ch_new {S : Nat → Prop} {w W : World} (c : Ch S w W) {V : Nat} (hV : w.heap.size ≤ V) (i : Nat) (v : Value) : Ch S w (W.setCell ⟨V, i, none⟩ v) :=
  ⟨c.os, c.tape, c.output, by simpa [World.setCell] using c.size, fun k hk hn => (Below.heap_setCell W _ v k (by show k ≠ V; omega)).trans (c.block k hk hn)⟩
theorem ch_low {g B : Nat} {w W : World} (c : Ch (fun k => k = g) w W) (hB : B ≤ g) (hw : B ≤ w.heap.size) : Below B w W := c.below hw (fun k hk e => by omega)
/-- The reader, the answer's block, the gauge's block; all else is as it was. -/
structure Rd (w W : World) (g A V : Nat) (a : Option Addr) (n cap : Nat) (p : Int) (bad : Bool) (x : Gz) : Prop where
  rb : RB W g a n cap p bad
  ba : GBox W A 0 0 0 0
  bv : GBox W V x.n x.nans x.lo x.hi
  low : Ch (fun k => k = g) w W
  ga : g < A
  gv : g < V
  ne : A ≠ V
  la : w.heap.size ≤ A
  lv : w.heap.size ≤ V
section
variable {w W W' : World} {g A V : Nat} {a : Option Addr} {n cap : Nat} {p p' : Int} {bad bad' : Bool} {x : Gz}
theorem Rd.only (h : Rd w W g A V a n cap p bad x) (o : Only g W W') (hrb : RB W' g a n cap p' bad') : Rd w W' g A V a n cap p' bad' x :=
  have hs : W.heap.size ≤ W'.heap.size := Nat.le_of_eq o.size.symm
  ⟨hrb, h.ba.block hs (o.block _ (by have := h.ga; omega)), h.bv.block hs (o.block _ (by have := h.gv; omega)), h.low.trans o.chg, h.ga, h.gv, h.ne, h.la, h.lv⟩
theorem Rd.below (h : Rd w W g A V a n cap p bad x) (b : Below W.heap.size W W') : Rd w W' g A V a n cap p bad x :=
  ⟨h.rb.block (b.block _ h.rb.lt'), h.ba.below b h.ba.lt, h.bv.below b h.bv.lt, h.low.trans ((Ch.of_below b).more (fun _ _ e => e.elim)), h.ga, h.gv, h.ne, h.la, h.lv⟩
theorem Rd.spoil (h : Rd w W g A V a n cap p bad x) : Rd w (W.setCell ⟨g, 2, none⟩ (.bool true)) g A V a n cap p true x :=
  ⟨h.rb.spoil, h.ba.far (p := ⟨g, 2, none⟩) (by have := h.ga; show g ≠ A; omega) _, h.bv.far (p := ⟨g, 2, none⟩) (by have := h.gv; show g ≠ V; omega) _, h.low.trans (ch_set W g 2 _), h.ga, h.gv, h.ne, h.la, h.lv⟩
theorem Rd.put (h : Rd w W g A V a n cap p bad x) (i : Nat) (v : Int) {y : Gz} (hy : GBox (W.setCell ⟨V, i, none⟩ (.int .u64 v)) V y.n y.nans y.lo y.hi) : Rd w (W.setCell ⟨V, i, none⟩ (.int .u64 v)) g A V a n cap p bad y :=
  ⟨h.rb.block (Below.heap_setCell W _ _ g (by have := h.gv; show g ≠ V; omega)), h.ba.far (p := ⟨V, i, none⟩) (fun e => h.ne e.symm) _, hy, ch_new h.low h.lv i _, h.ga, h.gv, h.ne, h.la, h.lv⟩
theorem Rd.num (h : Rd w W g A V a n cap p bad x) (v : Int) : Rd w (W.setCell ⟨V, 0, none⟩ (.int .u64 v)) g A V a n cap p bad ⟨v, x.nans, x.lo, x.hi⟩ := h.put 0 v (h.bv.set0 v)
theorem Rd.nans (h : Rd w W g A V a n cap p bad x) (v : Int) : Rd w (W.setCell ⟨V, 1, none⟩ (.int .u64 v)) g A V a n cap p bad ⟨x.n, v, x.lo, x.hi⟩ := h.put 1 v (h.bv.set1 v)
theorem Rd.lo (h : Rd w W g A V a n cap p bad x) (v : Int) : Rd w (W.setCell ⟨V, 2, none⟩ (.int .u64 v)) g A V a n cap p bad ⟨x.n, x.nans, v, x.hi⟩ := h.put 2 v (h.bv.set2 v)
theorem Rd.hi (h : Rd w W g A V a n cap p bad x) (v : Int) : Rd w (W.setCell ⟨V, 3, none⟩ (.int .u64 v)) g A V a n cap p bad ⟨x.n, x.nans, x.lo, v⟩ := h.put 3 v (h.bv.set3 v)
/-- The answer is written. -/
theorem Rd.ans (h : Rd w W g A V a n cap p bad x) (y : Gz) :
    let W' := (((W.setCell ⟨A, 0, none⟩ (.int .u64 y.n)).setCell ⟨A, 1, none⟩ (.int .u64 y.nans)).setCell ⟨A, 2, none⟩ (.int .u64 y.lo)).setCell ⟨A, 3, none⟩ (.int .u64 y.hi)
    GBox W' A y.n y.nans y.lo y.hi ∧ RB W' g a n cap p bad ∧ Ch (fun k => k = g) w W' := by
  have hg : g ≠ A := by have := h.ga; omega
  refine ⟨h.ba.set y.n y.nans y.lo y.hi, h.rb.block ?_, ch_new (ch_new (ch_new (ch_new h.low h.la 0 _) h.la 1 _) h.la 2 _) h.la 3 _⟩
  rw [Below.heap_setCell _ _ _ g hg, Below.heap_setCell _ _ _ g hg, Below.heap_setCell _ _ _ g hg, Below.heap_setCell _ _ _ g hg]
end

theorem gw_none {m : Int} (h : Word m) : GW ⟨0, m, 0, 0⟩ := ⟨w0, h, w0, w0⟩
/-- What the reader's Get of a gauge leaves. -/
def GotP (g : Nat) (a : Option Addr) (n cap : Nat) (r : Option (Gz × Int)) (w w' : World) (e : Ending) : Prop :=
  Ch (fun k => k = g) w w' ∧ match r with
  | none => e = .returned (.agg #[.int .u64 0, .int .u64 0, .int .u64 0, .int .u64 0]) ∧ ∃ p', RB w' g a n cap p' true
  | some q => e = .returned (Value.agg #[.int .u64 (Gz.n q.1), .int .u64 (Gz.nans q.1), .int .u64 (Gz.lo q.1), .int .u64 (Gz.hi q.1)]) ∧ RB w' g a n cap q.2 false

theorem rd_new (w : World) (t : TypeId) {g : Nat} {a : Option Addr} {n cap : Nat} {p : Int} (h : RB w g a n cap p false) :
    Rd w ((w.alloc (.cells #[.int .u64 0, .int .u64 0, .int .u64 0, .int .u64 0] t)).alloc (.cells #[.int .u64 0, .int .u64 0, .int .u64 0, .int .u64 0] t)) g w.heap.size (w.heap.size + 1) a n cap p false g0 := by
  have hl := h.lt'
  have b := bel2 w (.cells #[.int .u64 0, .int .u64 0, .int .u64 0, .int .u64 0] t) (.cells #[.int .u64 0, .int .u64 0, .int .u64 0, .int .u64 0] t)
  exact ⟨h.block (b.block _ hl), (GBox.new w t 0 0 0 0).alloc _, GBox.new2 w _ t 0 0 0 0, (Ch.of_below b).more (fun _ _ e => e.elim), hl, by omega, by omega, Nat.le_refl _, by omega⟩

set_option maxHeartbeats 4000000 in
theorem refgget_any (p : Int) (g : Nat) (a : Option Addr) (n cap : Nat) (zs : List Int) (w0 w : World) (hp : (Lit.int .i64 p).wf = true) (hr : Row .u8 w0 a n zs) (hg : w0.heap.size ≤ g) (hb : Below w0.heap.size w0 w) (hrb : RB w g a n cap p false) :
    Calls Tryz.prog 30 #[.pointer (some ⟨g, 0, none⟩)] w fun e w' => GotP g a n cap (getG zs p) w w' e := by
  have hl := hr.1
  have hn := hr.2.1
  have hzb : Bytes8 zs := hr.bytes
  obtain ⟨A, hA⟩ : ∃ A, Hid (w.heap.size = A) := ⟨_, rfl⟩
  obtain ⟨V, hV⟩ : ∃ V, Hid (A + 1 = V) := ⟨_, rfl⟩
  have H0 := hide (rd_new w 26 hrb)
  rw [hA.out] at H0
  rw [hV.out] at H0
  dsimp only [g0] at H0
  have BL : Hid (∀ W, Ch (fun k => k = g) w W → Below w0.heap.size w0 W) := fun W h => hb.trans (ch_low h hg hb.size)
  have NOK : Hid (∀ (p : Int) (x : Gz) (m q : Int), (Lit.int .i64 p).wf = true → getS zs p = some (m, q) → ∀ W, Rd w W g A V a n cap p false x → Calls Tryz.prog 53 #[.pointer (some ⟨g, 0, none⟩)] W fun e W' => e = .returned (.int .u64 m) ∧ Rd w W' g A V a n cap q false x) := by
    intro p x m q hp e W h
    refine (num_any p g a n cap zs w0 W hp hr hg (BL.out _ h.low) h.rb).mono ?_
    intro en W' hN
    rw [e] at hN
    exact ⟨hN.2.1, h.only hN.1 hN.2.2⟩
  have NNO : Hid (∀ (p : Int) (x : Gz), (Lit.int .i64 p).wf = true → getS zs p = none → ∀ W, Rd w W g A V a n cap p false x → Calls Tryz.prog 53 #[.pointer (some ⟨g, 0, none⟩)] W fun e W' => e = .returned (.int .u64 0) ∧ ∃ p', Rd w W' g A V a n cap p' true x) := by
    intro p x hp e W h
    refine (num_any p g a n cap zs w0 W hp hr hg (BL.out _ h.low) h.rb).mono ?_
    intro en W' hN
    rw [e] at hN
    obtain ⟨h1, h2, p', h3⟩ := hN
    exact ⟨h2, p', h.only h1 h3⟩
  have NBD : Hid (∀ (p : Int) (x : Gz) W, Rd w W g A V a n cap p true x → Calls Tryz.prog 53 #[.pointer (some ⟨g, 0, none⟩)] W fun e W' => e = .returned (.int .u64 0) ∧ Rd w W' g A V a n cap p true x) := by
    intro p x W h
    refine (numbad_any g a n cap p W h.rb).mono ?_
    rintro en W' ⟨h1, h2, h3⟩
    exact ⟨h1, h.only h2 h3⟩
  have FBD : Hid (∀ (p : Int) (x : Gz) W, Rd w W g A V a n cap p true x → Calls Tryz.prog 55 #[.pointer (some ⟨g, 0, none⟩)] W fun e W' => e = .returned (.int .u64 0) ∧ Rd w W' g A V a n cap p true x) := by
    intro p x W h
    refine (fixbad_any g a n cap p W h.rb).mono ?_
    rintro en W' ⟨h1, h2, h3⟩
    exact ⟨h1, h.only h2 h3⟩
  have FNO : Hid (∀ (t : Nat) (x : Gz), t ≤ n → (n : Int) - (t : Int) < 8 → ∀ W, Rd w W g A V a n cap (t : Int) false x → Calls Tryz.prog 55 #[.pointer (some ⟨g, 0, none⟩)] W fun e W' => e = .returned (.int .u64 0) ∧ Rd w W' g A V a n cap (t : Int) true x) := by
    intro t x ht h8 W h
    refine (fixno_any g a n cap t W hn ht h8 h.rb).mono ?_
    rintro en W' ⟨h1, h2, h3⟩
    exact ⟨h1, h.only h2 h3⟩
  have FOK : Hid (∀ (t : Nat) (x : Gz), t + 8 ≤ n → ∀ W, Rd w W g A V a n cap (t : Int) false x → Calls Tryz.prog 55 #[.pointer (some ⟨g, 0, none⟩)] W fun e W' => e = .returned (.int .u64 (n8 zs t 8)) ∧ Rd w W' g A V a n cap ((t + 8 : Nat) : Int) false x) := by
    intro t x h8 W h
    refine (fixok_any g a n cap t zs w0 W hr hg (BL.out _ h.low) h8 h.rb).mono ?_
    rintro en W' ⟨h1, h2, h3⟩
    exact ⟨h1, h.only h2 h3⟩
  have CHK : Hid (∀ (q : Int) (x : Gz), GW x → ∀ W, Rd w W g A V a n cap q false x → Calls Tryz.prog 15 #[(Value.agg #[.int .u64 (Gz.n x), .int .u64 (Gz.nans x), .int .u64 (Gz.lo x), .int .u64 (Gz.hi x)])] W fun e W' => e = .returned (.bool (chkG x)) ∧ Rd w W' g A V a n cap q false x) := by
    intro q x hx W h
    refine (refgchk_any x hx W).mono ?_
    rintro en W' ⟨h1, h2⟩
    exact ⟨h1, h.below h2⟩
  clear hr hb hrb BL
  cases e1 : getS zs p with
  | none =>
    have F := hide (getG_no1 e1)
    rw [F.out]
    unfold GotP
    have N1 := hide (fun W h => NNO.out p ⟨0, 0, 0, 0⟩ hp e1 W h)
    clear e1 hp
    go_enter Tryz.func30, Tryz.ntmps30
    go_wp2_with fail
    rw [hA.out]
    rw [hV.out]
    with_reducible refine (N1.out _ H0.out).mono ?_
    rintro e W1 ⟨rfl, p', h⟩
    have K1 := hide h
    have H1 := hide (h.nans 0)
    dsimp only at H1
    clear h
    obtain ⟨_, v0, v1, v2, v3, y0, y1, y2, y3⟩ := K1.out.bv
    obtain ⟨_, a0, a1, a2, a3, x0, x1, x2, x3⟩ := K1.out.ba
    obtain ⟨r0, r1, r2, rf⟩ := K1.out.rb.cell
    have rf2 := rf 2
    clear rf
    go_wp2_with fail
    clear v0 v1 v2 v3 y0 y1 y2 y3 a0 a1 a2 a3 x0 x1 x2 x3 r0 r1 r2 rf2
    with_reducible refine (NBD.out _ _ _ H1.out).mono ?_
    rintro e W2 ⟨rfl, h⟩
    have K2 := hide h
    have H2 := hide (h.num 0)
    dsimp only at H2
    clear h
    obtain ⟨_, v0, v1, v2, v3, y0, y1, y2, y3⟩ := K2.out.bv
    obtain ⟨_, a0, a1, a2, a3, x0, x1, x2, x3⟩ := K2.out.ba
    obtain ⟨r0, r1, r2, rf⟩ := K2.out.rb.cell
    have rf2 := rf 2
    clear rf
    go_upto_region 4 with fail
    generalize W2.setCell ⟨V, 0, none⟩ (.int .u64 0) = U2 at H2 ⊢
    clear v0 v1 v2 v3 y0 y1 y2 y3 a0 a1 a2 a3 x0 x1 x2 x3 r0 r1 r2 rf2
    obtain ⟨_, v0, v1, v2, v3, y0, y1, y2, y3⟩ := H2.out.bv
    obtain ⟨_, a0, a1, a2, a3, x0, x1, x2, x3⟩ := H2.out.ba
    obtain ⟨r0, r1, r2, rf⟩ := H2.out.rb.cell
    have rf2 := rf 2
    clear rf
    have HP := hide H2.out.spoil
    go_upto_region 9 with fail
    generalize U2.setCell ⟨g, 2, none⟩ (.bool true) = Y at HP ⊢
    clear v0 v1 v2 v3 y0 y1 y2 y3 a0 a1 a2 a3 x0 x1 x2 x3 r0 r1 r2 rf2
    obtain ⟨_, a0, a1, a2, a3, x0, x1, x2, x3⟩ := HP.out.ba
    have HS := hide (HP.out.ans g0)
    dsimp only [g0] at HS
    go_wp2
    exact bodyPost_ret (v := .agg #[.int .u64 0, .int .u64 0, .int .u64 0, .int .u64 0]) (by simp [results, Tryz.results30, go_sem, HS.out.1.c0, HS.out.1.c1, HS.out.1.c2, HS.out.1.c3]) rfl ⟨HS.out.2.2, rfl, _, HS.out.2.1⟩
  | some q =>
    obtain ⟨m, q⟩ := q
    obtain ⟨hm, k1, hpk, hk1, hq, hkq, _⟩ := getS_some hzb e1
    obtain ⟨t, ht⟩ : ∃ t, k1 + (putS m).length = t := ⟨_, rfl⟩
    rw [ht] at hq hkq
    have hqw : (Lit.int .i64 q).wf = true := by rw [hq]; exact i64_wf (by omega) (by omega)
    have N1 := hide (fun W h => NOK.out p ⟨0, 0, 0, 0⟩ m q hp e1 W h)
    clear hpk hk1 hq hkq ht
    cases e2 : getS zs q with
    | none =>
      have F := hide (getG_no2 e1 e2)
      rw [F.out]
      unfold GotP
      have N2 := hide (fun W h => NNO.out q ⟨0, m, 0, 0⟩ hqw e2 W h)
      clear e1 e2 hp hqw
      go_enter Tryz.func30, Tryz.ntmps30
      go_wp2_with fail
      rw [hA.out]
      rw [hV.out]
      with_reducible refine (N1.out _ H0.out).mono ?_
      rintro e W1 ⟨rfl, h⟩
      have K1 := hide h
      have H1 := hide (h.nans m)
      dsimp only at H1
      clear h
      obtain ⟨_, v0, v1, v2, v3, y0, y1, y2, y3⟩ := K1.out.bv
      obtain ⟨_, a0, a1, a2, a3, x0, x1, x2, x3⟩ := K1.out.ba
      obtain ⟨r0, r1, r2, rf⟩ := K1.out.rb.cell
      have rf2 := rf 2
      clear rf
      go_wp2_with fail
      clear v0 v1 v2 v3 y0 y1 y2 y3 a0 a1 a2 a3 x0 x1 x2 x3 r0 r1 r2 rf2
      with_reducible refine (N2.out _ H1.out).mono ?_
      rintro e W2 ⟨rfl, p', h⟩
      have K2 := hide h
      have H2 := hide (h.num 0)
      dsimp only at H2
      clear h
      obtain ⟨_, v0, v1, v2, v3, y0, y1, y2, y3⟩ := K2.out.bv
      obtain ⟨_, a0, a1, a2, a3, x0, x1, x2, x3⟩ := K2.out.ba
      obtain ⟨r0, r1, r2, rf⟩ := K2.out.rb.cell
      have rf2 := rf 2
      clear rf
      go_upto_region 4 with fail
      generalize W2.setCell ⟨V, 0, none⟩ (.int .u64 0) = U2 at H2 ⊢
      clear v0 v1 v2 v3 y0 y1 y2 y3 a0 a1 a2 a3 x0 x1 x2 x3 r0 r1 r2 rf2
      obtain ⟨_, v0, v1, v2, v3, y0, y1, y2, y3⟩ := H2.out.bv
      obtain ⟨_, a0, a1, a2, a3, x0, x1, x2, x3⟩ := H2.out.ba
      obtain ⟨r0, r1, r2, rf⟩ := H2.out.rb.cell
      have rf2 := rf 2
      clear rf
      have HP := hide H2.out.spoil
      go_upto_region 9 with fail
      generalize U2.setCell ⟨g, 2, none⟩ (.bool true) = Y at HP ⊢
      clear v0 v1 v2 v3 y0 y1 y2 y3 a0 a1 a2 a3 x0 x1 x2 x3 r0 r1 r2 rf2
      obtain ⟨_, a0, a1, a2, a3, x0, x1, x2, x3⟩ := HP.out.ba
      have HS := hide (HP.out.ans g0)
      dsimp only [g0] at HS
      go_wp2
      exact bodyPost_ret (v := .agg #[.int .u64 0, .int .u64 0, .int .u64 0, .int .u64 0]) (by simp [results, Tryz.results30, go_sem, HS.out.1.c0, HS.out.1.c1, HS.out.1.c2, HS.out.1.c3]) rfl ⟨HS.out.2.2, rfl, _, HS.out.2.1⟩
    | some r =>
      obtain ⟨x, r⟩ := r
      obtain ⟨hx, k2, hqk, hk2, hr2, hkr, _⟩ := getS_some hzb e2
      obtain ⟨u, hu⟩ : ∃ u, k2 + (putS x).length = u := ⟨_, rfl⟩
      rw [hu] at hr2 hkr
      have F := hide (getG_two e1 e2)
      have N2 := hide (fun W h => NOK.out q ⟨0, m, 0, 0⟩ x r hqw e2 W h)
      subst hr2
      rw [Int.toNat_natCast] at F
      have hun : u ≤ n := by omega
      clear e1 e2 hp hqw hqk hk2 hkr hu
      by_cases hx0 : x = 0
      · subst hx0
        have C := hide (fun W h => CHK.out (u : Int) ⟨0, m, 0, 0⟩ (gw_none hm) W h)
        rw [chk_of_none rfl rfl rfl] at C
        rw [if_pos rfl] at F
        rw [F.out]
        unfold GotP
        clear F
        go_enter Tryz.func30, Tryz.ntmps30
        go_wp2_with fail
        rw [hA.out]
        rw [hV.out]
        with_reducible refine (N1.out _ H0.out).mono ?_
        rintro e W1 ⟨rfl, h⟩
        have K1 := hide h
        have H1 := hide (h.nans m)
        dsimp only at H1
        clear h
        obtain ⟨_, v0, v1, v2, v3, y0, y1, y2, y3⟩ := K1.out.bv
        obtain ⟨_, a0, a1, a2, a3, x0, x1, x2, x3⟩ := K1.out.ba
        obtain ⟨r0, r1, r2, rf⟩ := K1.out.rb.cell
        have rf2 := rf 2
        clear rf
        go_wp2_with fail
        clear v0 v1 v2 v3 y0 y1 y2 y3 a0 a1 a2 a3 x0 x1 x2 x3 r0 r1 r2 rf2
        with_reducible refine (N2.out _ H1.out).mono ?_
        rintro e W2 ⟨rfl, h⟩
        have K2 := hide h
        have H2 := hide (h.num 0)
        dsimp only at H2
        clear h
        obtain ⟨_, v0, v1, v2, v3, y0, y1, y2, y3⟩ := K2.out.bv
        obtain ⟨_, a0, a1, a2, a3, x0, x1, x2, x3⟩ := K2.out.ba
        obtain ⟨r0, r1, r2, rf⟩ := K2.out.rb.cell
        have rf2 := rf 2
        clear rf
        go_upto_region 4 with fail
        generalize W2.setCell ⟨V, 0, none⟩ (.int .u64 0) = U2 at H2 ⊢
        clear v0 v1 v2 v3 y0 y1 y2 y3 a0 a1 a2 a3 x0 x1 x2 x3 r0 r1 r2 rf2
        obtain ⟨_, v0, v1, v2, v3, y0, y1, y2, y3⟩ := H2.out.bv
        obtain ⟨_, a0, a1, a2, a3, x0, x1, x2, x3⟩ := H2.out.ba
        obtain ⟨r0, r1, r2, rf⟩ := H2.out.rb.cell
        have rf2 := rf 2
        clear rf
        go_wp2_with fail
        clear v0 v1 v2 v3 y0 y1 y2 y3 a0 a1 a2 a3 x0 x1 x2 x3 r0 r1 r2 rf2
        with_reducible refine (C.out _ H2.out).mono ?_
        rintro e W3 ⟨rfl, h⟩
        have H3 := hide h
        clear h
        obtain ⟨_, v0, v1, v2, v3, y0, y1, y2, y3⟩ := H3.out.bv
        obtain ⟨_, a0, a1, a2, a3, x0, x1, x2, x3⟩ := H3.out.ba
        obtain ⟨r0, r1, r2, rf⟩ := H3.out.rb.cell
        have rf2 := rf 2
        clear rf
        have HS := hide (H3.out.ans ⟨0, m, 0, 0⟩)
        dsimp only at HS
        go_wp2
        exact bodyPost_ret (v := .agg #[.int .u64 0, .int .u64 m, .int .u64 0, .int .u64 0]) (by simp [results, Tryz.results30, go_sem, HS.out.1.c0, HS.out.1.c1, HS.out.1.c2, HS.out.1.c3]) rfl ⟨HS.out.2.2, rfl, HS.out.2.1⟩
      · rw [if_neg hx0, hl] at F
        have ix : 0 < x := by have := hx.1; omega
        by_cases h8 : (n : Int) - (u : Int) < 8
        · rw [if_pos (by omega)] at F
          rw [F.out]
          unfold GotP
          have T1 := hide (fun W h => FNO.out u ⟨x, m, 0, 0⟩ hun h8 W h)
          clear F hx0 h8
          go_enter Tryz.func30, Tryz.ntmps30
          go_wp2_with fail
          rw [hA.out]
          rw [hV.out]
          with_reducible refine (N1.out _ H0.out).mono ?_
          rintro e W1 ⟨rfl, h⟩
          have K1 := hide h
          have H1 := hide (h.nans m)
          dsimp only at H1
          clear h
          obtain ⟨_, v0, v1, v2, v3, y0, y1, y2, y3⟩ := K1.out.bv
          obtain ⟨_, a0, a1, a2, a3, x0, x1, x2, x3⟩ := K1.out.ba
          obtain ⟨r0, r1, r2, rf⟩ := K1.out.rb.cell
          have rf2 := rf 2
          clear rf
          go_wp2_with fail
          clear v0 v1 v2 v3 y0 y1 y2 y3 a0 a1 a2 a3 x0 x1 x2 x3 r0 r1 r2 rf2
          with_reducible refine (N2.out _ H1.out).mono ?_
          rintro e W2 ⟨rfl, h⟩
          have K2 := hide h
          have H2 := hide (h.num x)
          dsimp only at H2
          clear h
          obtain ⟨_, v0, v1, v2, v3, y0, y1, y2, y3⟩ := K2.out.bv
          obtain ⟨_, a0, a1, a2, a3, x0, x1, x2, x3⟩ := K2.out.ba
          obtain ⟨r0, r1, r2, rf⟩ := K2.out.rb.cell
          have rf2 := rf 2
          clear rf
          go_upto_region 4 with fail
          generalize W2.setCell ⟨V, 0, none⟩ (.int .u64 x) = U2 at H2 ⊢
          clear v0 v1 v2 v3 y0 y1 y2 y3 a0 a1 a2 a3 x0 x1 x2 x3 r0 r1 r2 rf2
          obtain ⟨_, v0, v1, v2, v3, y0, y1, y2, y3⟩ := H2.out.bv
          obtain ⟨_, a0, a1, a2, a3, x0, x1, x2, x3⟩ := H2.out.ba
          obtain ⟨r0, r1, r2, rf⟩ := H2.out.rb.cell
          have rf2 := rf 2
          clear rf
          go_wp2_with fail
          clear v0 v1 v2 v3 y0 y1 y2 y3 a0 a1 a2 a3 x0 x1 x2 x3 r0 r1 r2 rf2
          with_reducible refine (T1.out _ H2.out).mono ?_
          rintro e W3 ⟨rfl, h⟩
          have K3 := hide h
          have H3 := hide (h.lo 0)
          dsimp only at H3
          clear h
          obtain ⟨_, v0, v1, v2, v3, y0, y1, y2, y3⟩ := K3.out.bv
          obtain ⟨_, a0, a1, a2, a3, x0, x1, x2, x3⟩ := K3.out.ba
          obtain ⟨r0, r1, r2, rf⟩ := K3.out.rb.cell
          have rf2 := rf 2
          clear rf
          go_wp2_with fail
          clear v0 v1 v2 v3 y0 y1 y2 y3 a0 a1 a2 a3 x0 x1 x2 x3 r0 r1 r2 rf2
          with_reducible refine (FBD.out _ _ _ H3.out).mono ?_
          rintro e W4 ⟨rfl, h⟩
          have K4 := hide h
          have H4 := hide (h.hi 0)
          dsimp only at H4
          clear h
          obtain ⟨_, v0, v1, v2, v3, y0, y1, y2, y3⟩ := K4.out.bv
          obtain ⟨_, a0, a1, a2, a3, x0, x1, x2, x3⟩ := K4.out.ba
          obtain ⟨r0, r1, r2, rf⟩ := K4.out.rb.cell
          have rf2 := rf 2
          clear rf
          go_upto_region 7 with fail
          generalize W4.setCell ⟨V, 3, none⟩ (.int .u64 0) = U4 at H4 ⊢
          clear v0 v1 v2 v3 y0 y1 y2 y3 a0 a1 a2 a3 x0 x1 x2 x3 r0 r1 r2 rf2
          obtain ⟨_, v0, v1, v2, v3, y0, y1, y2, y3⟩ := H4.out.bv
          obtain ⟨_, a0, a1, a2, a3, x0, x1, x2, x3⟩ := H4.out.ba
          obtain ⟨r0, r1, r2, rf⟩ := H4.out.rb.cell
          have rf2 := rf 2
          clear rf
          have HP := hide H4.out.spoil
          go_upto_region 9 with fail
          generalize U4.setCell ⟨g, 2, none⟩ (.bool true) = Y at HP ⊢
          clear v0 v1 v2 v3 y0 y1 y2 y3 a0 a1 a2 a3 x0 x1 x2 x3 r0 r1 r2 rf2
          obtain ⟨_, a0, a1, a2, a3, x0, x1, x2, x3⟩ := HP.out.ba
          have HS := hide (HP.out.ans g0)
          dsimp only [g0] at HS
          go_wp2
          exact bodyPost_ret (v := .agg #[.int .u64 0, .int .u64 0, .int .u64 0, .int .u64 0]) (by simp [results, Tryz.results30, go_sem, HS.out.1.c0, HS.out.1.c1, HS.out.1.c2, HS.out.1.c3]) rfl ⟨HS.out.2.2, rfl, _, HS.out.2.1⟩
        · have T1 := hide (fun W h => FOK.out u ⟨x, m, 0, 0⟩ (by omega) W h)
          by_cases h16 : (n : Int) - (u : Int) < 16
          · rw [if_pos h16] at F
            rw [F.out]
            unfold GotP
            have T2 := hide (fun W h => FNO.out (u + 8) ⟨x, m, n8 zs u 8, 0⟩ (by omega) (by omega) W h)
            generalize n8 zs u 8 = lo at *
            clear F hx0 h8 h16
            go_enter Tryz.func30, Tryz.ntmps30
            go_wp2_with fail
            rw [hA.out]
            rw [hV.out]
            with_reducible refine (N1.out _ H0.out).mono ?_
            rintro e W1 ⟨rfl, h⟩
            have K1 := hide h
            have H1 := hide (h.nans m)
            dsimp only at H1
            clear h
            obtain ⟨_, v0, v1, v2, v3, y0, y1, y2, y3⟩ := K1.out.bv
            obtain ⟨_, a0, a1, a2, a3, x0, x1, x2, x3⟩ := K1.out.ba
            obtain ⟨r0, r1, r2, rf⟩ := K1.out.rb.cell
            have rf2 := rf 2
            clear rf
            go_wp2_with fail
            clear v0 v1 v2 v3 y0 y1 y2 y3 a0 a1 a2 a3 x0 x1 x2 x3 r0 r1 r2 rf2
            with_reducible refine (N2.out _ H1.out).mono ?_
            rintro e W2 ⟨rfl, h⟩
            have K2 := hide h
            have H2 := hide (h.num x)
            dsimp only at H2
            clear h
            obtain ⟨_, v0, v1, v2, v3, y0, y1, y2, y3⟩ := K2.out.bv
            obtain ⟨_, a0, a1, a2, a3, x0, x1, x2, x3⟩ := K2.out.ba
            obtain ⟨r0, r1, r2, rf⟩ := K2.out.rb.cell
            have rf2 := rf 2
            clear rf
            go_upto_region 4 with fail
            generalize W2.setCell ⟨V, 0, none⟩ (.int .u64 x) = U2 at H2 ⊢
            clear v0 v1 v2 v3 y0 y1 y2 y3 a0 a1 a2 a3 x0 x1 x2 x3 r0 r1 r2 rf2
            obtain ⟨_, v0, v1, v2, v3, y0, y1, y2, y3⟩ := H2.out.bv
            obtain ⟨_, a0, a1, a2, a3, x0, x1, x2, x3⟩ := H2.out.ba
            obtain ⟨r0, r1, r2, rf⟩ := H2.out.rb.cell
            have rf2 := rf 2
            clear rf
            go_wp2_with fail
            clear v0 v1 v2 v3 y0 y1 y2 y3 a0 a1 a2 a3 x0 x1 x2 x3 r0 r1 r2 rf2
            with_reducible refine (T1.out _ H2.out).mono ?_
            rintro e W3 ⟨rfl, h⟩
            have K3 := hide h
            have H3 := hide (h.lo lo)
            dsimp only at H3
            clear h
            obtain ⟨_, v0, v1, v2, v3, y0, y1, y2, y3⟩ := K3.out.bv
            obtain ⟨_, a0, a1, a2, a3, x0, x1, x2, x3⟩ := K3.out.ba
            obtain ⟨r0, r1, r2, rf⟩ := K3.out.rb.cell
            have rf2 := rf 2
            clear rf
            go_wp2_with fail
            clear v0 v1 v2 v3 y0 y1 y2 y3 a0 a1 a2 a3 x0 x1 x2 x3 r0 r1 r2 rf2
            with_reducible refine (T2.out _ H3.out).mono ?_
            rintro e W4 ⟨rfl, h⟩
            have K4 := hide h
            have H4 := hide (h.hi 0)
            dsimp only at H4
            clear h
            obtain ⟨_, v0, v1, v2, v3, y0, y1, y2, y3⟩ := K4.out.bv
            obtain ⟨_, a0, a1, a2, a3, x0, x1, x2, x3⟩ := K4.out.ba
            obtain ⟨r0, r1, r2, rf⟩ := K4.out.rb.cell
            have rf2 := rf 2
            clear rf
            go_upto_region 7 with fail
            generalize W4.setCell ⟨V, 3, none⟩ (.int .u64 0) = U4 at H4 ⊢
            clear v0 v1 v2 v3 y0 y1 y2 y3 a0 a1 a2 a3 x0 x1 x2 x3 r0 r1 r2 rf2
            obtain ⟨_, v0, v1, v2, v3, y0, y1, y2, y3⟩ := H4.out.bv
            obtain ⟨_, a0, a1, a2, a3, x0, x1, x2, x3⟩ := H4.out.ba
            obtain ⟨r0, r1, r2, rf⟩ := H4.out.rb.cell
            have rf2 := rf 2
            clear rf
            have HP := hide H4.out.spoil
            go_upto_region 9 with fail
            generalize U4.setCell ⟨g, 2, none⟩ (.bool true) = Y at HP ⊢
            clear v0 v1 v2 v3 y0 y1 y2 y3 a0 a1 a2 a3 x0 x1 x2 x3 r0 r1 r2 rf2
            obtain ⟨_, a0, a1, a2, a3, x0, x1, x2, x3⟩ := HP.out.ba
            have HS := hide (HP.out.ans g0)
            dsimp only [g0] at HS
            go_wp2
            exact bodyPost_ret (v := .agg #[.int .u64 0, .int .u64 0, .int .u64 0, .int .u64 0]) (by simp [results, Tryz.results30, go_sem, HS.out.1.c0, HS.out.1.c1, HS.out.1.c2, HS.out.1.c3]) rfl ⟨HS.out.2.2, rfl, _, HS.out.2.1⟩
          · rw [if_neg h16] at F
            have T2 := hide (fun W h => FOK.out (u + 8) ⟨x, m, n8 zs u 8, 0⟩ (by omega) W h)
            have C := hide (fun W h => CHK.out ((u + 8 + 8 : Nat) : Int) ⟨x, m, n8 zs u 8, n8 zs (u + 8) 8⟩ ⟨hx, hm, n8_word hzb u, n8_word hzb (u + 8)⟩ W h)
            generalize n8 zs u 8 = lo at *
            generalize n8 zs (u + 8) 8 = hi at *
            clear hx0 h8 h16
            cases ec : chkG ⟨x, m, lo, hi⟩
            · rw [ec] at C F
              rw [if_neg (by decide)] at F
              rw [F.out]
              unfold GotP
              clear F ec
              go_enter Tryz.func30, Tryz.ntmps30
              go_wp2_with fail
              rw [hA.out]
              rw [hV.out]
              with_reducible refine (N1.out _ H0.out).mono ?_
              rintro e W1 ⟨rfl, h⟩
              have K1 := hide h
              have H1 := hide (h.nans m)
              dsimp only at H1
              clear h
              obtain ⟨_, v0, v1, v2, v3, y0, y1, y2, y3⟩ := K1.out.bv
              obtain ⟨_, a0, a1, a2, a3, x0, x1, x2, x3⟩ := K1.out.ba
              obtain ⟨r0, r1, r2, rf⟩ := K1.out.rb.cell
              have rf2 := rf 2
              clear rf
              go_wp2_with fail
              clear v0 v1 v2 v3 y0 y1 y2 y3 a0 a1 a2 a3 x0 x1 x2 x3 r0 r1 r2 rf2
              with_reducible refine (N2.out _ H1.out).mono ?_
              rintro e W2 ⟨rfl, h⟩
              have K2 := hide h
              have H2 := hide (h.num x)
              dsimp only at H2
              clear h
              obtain ⟨_, v0, v1, v2, v3, y0, y1, y2, y3⟩ := K2.out.bv
              obtain ⟨_, a0, a1, a2, a3, x0, x1, x2, x3⟩ := K2.out.ba
              obtain ⟨r0, r1, r2, rf⟩ := K2.out.rb.cell
              have rf2 := rf 2
              clear rf
              go_upto_region 4 with fail
              generalize W2.setCell ⟨V, 0, none⟩ (.int .u64 x) = U2 at H2 ⊢
              clear v0 v1 v2 v3 y0 y1 y2 y3 a0 a1 a2 a3 x0 x1 x2 x3 r0 r1 r2 rf2
              obtain ⟨_, v0, v1, v2, v3, y0, y1, y2, y3⟩ := H2.out.bv
              obtain ⟨_, a0, a1, a2, a3, x0, x1, x2, x3⟩ := H2.out.ba
              obtain ⟨r0, r1, r2, rf⟩ := H2.out.rb.cell
              have rf2 := rf 2
              clear rf
              go_wp2_with fail
              clear v0 v1 v2 v3 y0 y1 y2 y3 a0 a1 a2 a3 x0 x1 x2 x3 r0 r1 r2 rf2
              with_reducible refine (T1.out _ H2.out).mono ?_
              rintro e W3 ⟨rfl, h⟩
              have K3 := hide h
              have H3 := hide (h.lo lo)
              dsimp only at H3
              clear h
              obtain ⟨_, v0, v1, v2, v3, y0, y1, y2, y3⟩ := K3.out.bv
              obtain ⟨_, a0, a1, a2, a3, x0, x1, x2, x3⟩ := K3.out.ba
              obtain ⟨r0, r1, r2, rf⟩ := K3.out.rb.cell
              have rf2 := rf 2
              clear rf
              go_wp2_with fail
              clear v0 v1 v2 v3 y0 y1 y2 y3 a0 a1 a2 a3 x0 x1 x2 x3 r0 r1 r2 rf2
              with_reducible refine (T2.out _ H3.out).mono ?_
              rintro e W4 ⟨rfl, h⟩
              have K4 := hide h
              have H4 := hide (h.hi hi)
              dsimp only at H4
              clear h
              obtain ⟨_, v0, v1, v2, v3, y0, y1, y2, y3⟩ := K4.out.bv
              obtain ⟨_, a0, a1, a2, a3, x0, x1, x2, x3⟩ := K4.out.ba
              obtain ⟨r0, r1, r2, rf⟩ := K4.out.rb.cell
              have rf2 := rf 2
              clear rf
              go_upto_region 7 with fail
              generalize W4.setCell ⟨V, 3, none⟩ (.int .u64 hi) = U4 at H4 ⊢
              clear v0 v1 v2 v3 y0 y1 y2 y3 a0 a1 a2 a3 x0 x1 x2 x3 r0 r1 r2 rf2
              obtain ⟨_, v0, v1, v2, v3, y0, y1, y2, y3⟩ := H4.out.bv
              obtain ⟨_, a0, a1, a2, a3, x0, x1, x2, x3⟩ := H4.out.ba
              obtain ⟨r0, r1, r2, rf⟩ := H4.out.rb.cell
              have rf2 := rf 2
              clear rf
              go_wp2_with fail
              clear v0 v1 v2 v3 y0 y1 y2 y3 a0 a1 a2 a3 x0 x1 x2 x3 r0 r1 r2 rf2
              with_reducible refine (C.out _ H4.out).mono ?_
              rintro e W5 ⟨rfl, h⟩
              have H5 := hide h
              clear h
              obtain ⟨_, v0, v1, v2, v3, y0, y1, y2, y3⟩ := H5.out.bv
              obtain ⟨_, a0, a1, a2, a3, x0, x1, x2, x3⟩ := H5.out.ba
              obtain ⟨r0, r1, r2, rf⟩ := H5.out.rb.cell
              have rf2 := rf 2
              clear rf
              have HP := hide H5.out.spoil
              go_upto_region 9 with fail
              generalize W5.setCell ⟨g, 2, none⟩ (.bool true) = Y at HP ⊢
              clear v0 v1 v2 v3 y0 y1 y2 y3 a0 a1 a2 a3 x0 x1 x2 x3 r0 r1 r2 rf2
              obtain ⟨_, a0, a1, a2, a3, x0, x1, x2, x3⟩ := HP.out.ba
              have HS := hide (HP.out.ans g0)
              dsimp only [g0] at HS
              go_wp2
              exact bodyPost_ret (v := .agg #[.int .u64 0, .int .u64 0, .int .u64 0, .int .u64 0]) (by simp [results, Tryz.results30, go_sem, HS.out.1.c0, HS.out.1.c1, HS.out.1.c2, HS.out.1.c3]) rfl ⟨HS.out.2.2, rfl, _, HS.out.2.1⟩
            · rw [ec] at C F
              rw [if_pos rfl] at F
              rw [F.out]
              unfold GotP
              clear F ec
              go_enter Tryz.func30, Tryz.ntmps30
              go_wp2_with fail
              rw [hA.out]
              rw [hV.out]
              with_reducible refine (N1.out _ H0.out).mono ?_
              rintro e W1 ⟨rfl, h⟩
              have K1 := hide h
              have H1 := hide (h.nans m)
              dsimp only at H1
              clear h
              obtain ⟨_, v0, v1, v2, v3, y0, y1, y2, y3⟩ := K1.out.bv
              obtain ⟨_, a0, a1, a2, a3, x0, x1, x2, x3⟩ := K1.out.ba
              obtain ⟨r0, r1, r2, rf⟩ := K1.out.rb.cell
              have rf2 := rf 2
              clear rf
              go_wp2_with fail
              clear v0 v1 v2 v3 y0 y1 y2 y3 a0 a1 a2 a3 x0 x1 x2 x3 r0 r1 r2 rf2
              with_reducible refine (N2.out _ H1.out).mono ?_
              rintro e W2 ⟨rfl, h⟩
              have K2 := hide h
              have H2 := hide (h.num x)
              dsimp only at H2
              clear h
              obtain ⟨_, v0, v1, v2, v3, y0, y1, y2, y3⟩ := K2.out.bv
              obtain ⟨_, a0, a1, a2, a3, x0, x1, x2, x3⟩ := K2.out.ba
              obtain ⟨r0, r1, r2, rf⟩ := K2.out.rb.cell
              have rf2 := rf 2
              clear rf
              go_upto_region 4 with fail
              generalize W2.setCell ⟨V, 0, none⟩ (.int .u64 x) = U2 at H2 ⊢
              clear v0 v1 v2 v3 y0 y1 y2 y3 a0 a1 a2 a3 x0 x1 x2 x3 r0 r1 r2 rf2
              obtain ⟨_, v0, v1, v2, v3, y0, y1, y2, y3⟩ := H2.out.bv
              obtain ⟨_, a0, a1, a2, a3, x0, x1, x2, x3⟩ := H2.out.ba
              obtain ⟨r0, r1, r2, rf⟩ := H2.out.rb.cell
              have rf2 := rf 2
              clear rf
              go_wp2_with fail
              clear v0 v1 v2 v3 y0 y1 y2 y3 a0 a1 a2 a3 x0 x1 x2 x3 r0 r1 r2 rf2
              with_reducible refine (T1.out _ H2.out).mono ?_
              rintro e W3 ⟨rfl, h⟩
              have K3 := hide h
              have H3 := hide (h.lo lo)
              dsimp only at H3
              clear h
              obtain ⟨_, v0, v1, v2, v3, y0, y1, y2, y3⟩ := K3.out.bv
              obtain ⟨_, a0, a1, a2, a3, x0, x1, x2, x3⟩ := K3.out.ba
              obtain ⟨r0, r1, r2, rf⟩ := K3.out.rb.cell
              have rf2 := rf 2
              clear rf
              go_wp2_with fail
              clear v0 v1 v2 v3 y0 y1 y2 y3 a0 a1 a2 a3 x0 x1 x2 x3 r0 r1 r2 rf2
              with_reducible refine (T2.out _ H3.out).mono ?_
              rintro e W4 ⟨rfl, h⟩
              have K4 := hide h
              have H4 := hide (h.hi hi)
              dsimp only at H4
              clear h
              obtain ⟨_, v0, v1, v2, v3, y0, y1, y2, y3⟩ := K4.out.bv
              obtain ⟨_, a0, a1, a2, a3, x0, x1, x2, x3⟩ := K4.out.ba
              obtain ⟨r0, r1, r2, rf⟩ := K4.out.rb.cell
              have rf2 := rf 2
              clear rf
              go_upto_region 7 with fail
              generalize W4.setCell ⟨V, 3, none⟩ (.int .u64 hi) = U4 at H4 ⊢
              clear v0 v1 v2 v3 y0 y1 y2 y3 a0 a1 a2 a3 x0 x1 x2 x3 r0 r1 r2 rf2
              obtain ⟨_, v0, v1, v2, v3, y0, y1, y2, y3⟩ := H4.out.bv
              obtain ⟨_, a0, a1, a2, a3, x0, x1, x2, x3⟩ := H4.out.ba
              obtain ⟨r0, r1, r2, rf⟩ := H4.out.rb.cell
              have rf2 := rf 2
              clear rf
              go_wp2_with fail
              clear v0 v1 v2 v3 y0 y1 y2 y3 a0 a1 a2 a3 x0 x1 x2 x3 r0 r1 r2 rf2
              with_reducible refine (C.out _ H4.out).mono ?_
              rintro e W5 ⟨rfl, h⟩
              have H5 := hide h
              clear h
              obtain ⟨_, v0, v1, v2, v3, y0, y1, y2, y3⟩ := H5.out.bv
              obtain ⟨_, a0, a1, a2, a3, x0, x1, x2, x3⟩ := H5.out.ba
              obtain ⟨r0, r1, r2, rf⟩ := H5.out.rb.cell
              have rf2 := rf 2
              clear rf
              have HS := hide (H5.out.ans ⟨x, m, lo, hi⟩)
              dsimp only at HS
              go_wp2
              exact bodyPost_ret (v := .agg #[.int .u64 x, .int .u64 m, .int .u64 lo, .int .u64 hi]) (by simp [results, Tryz.results30, go_sem, HS.out.1.c0, HS.out.1.c1, HS.out.1.c2, HS.out.1.c3]) rfl ⟨HS.out.2.2, rfl, HS.out.2.1⟩
end Go.Proofs.YtadcaonkmncgoaaGreat
