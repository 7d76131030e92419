/-
  A word's eight bytes, the lowest first, and back; a gauge's bytes, and what is got from a place on: plain arithmetic on lists. The program's own eight bytes of a word, there and back: contracts, for every world. The program's own Put of a gauge: a contract, for every world: the bytes lie in new memory. The program's own Get of a gauge: a contract, for every world; what was there before stays. The document's own bytes of a gauge: contracts, for every world: the bytes lie in new memory. The document's reader of a word's eight bytes: contracts, for every world: the reader alone turns. The document's reader of a gauge: a contract, for every world: the reader alone turns. A sketch's bytes in plain words, there and back; what the landed code's Put and Get come to: contracts, for every world. Records of a log in plain words: their bytes, and back; names of files. No function is named. The laws' own Tiny: whether a matcher is small: a contract, for every world: the count alone turns. The laws' own copy of a matcher: a contract, for every world: all of it lies in new memory. Records in memory: a record's eighteen cells and what lies behind them; a box of cells; a record in plain words as its cells show it. No function is named. Structs of many cells, stored and loaded as a whole; a box of them; a result that lies in a box. No function is named. A log in plain words: which records lie in files one behind the other, what its calls do to the files. No function is named. Rows of records i
  Conditions: as each theorem says.
-/
import Derived.Test.YtknghoecjobkiaaGreatDoorZug
import Derived.Test.YtknghoecjobkiaaGreatDoorZua
import Derived.Test.YtknghoecjobkiaaGreatDoorZub
import Derived.BigRegion
import Derived.WalkLawsBesides
import Derived.Deep.RegionHeld3
import Derived.Deep.DeepCutAuto
import Derived.Laws.AppendOwn
import Derived.Deep.QuietTactic
import Derived.BigQuiet
import Derived.Test.YtknghoecjobkiaaGreatDoorZuh
import Derived.Test.YtknghoecjobkiaaGreatDoorZuc
import Derived.Deep.MidRow
import Derived.Laws.ResultCell
namespace Go.Proofs.YtknghoecjobkiaaGreatDoor
open Go.RowKit
set_option maxRecDepth 20000
/-- A word's first bytes, the lowest first. -/
def b8 (v : Int) : Nat → List Int
  | 0 => []
  | k + 1 => b8 v k ++ [v / 2 ^ (8 * k) % 256]
/-- The number of bytes from a place on, the lowest first. -/
def n8 (zs : List Int) (t : Nat) : Nat → Int
  | 0 => 0
  | k + 1 => n8 zs t k + zs.getD (t + k) 0 * 2 ^ (8 * k)
theorem b8_len (v : Int) (k : Nat) : (b8 v k).length = k := by
  induction k with
  | zero => rfl
  | succ k ih => rw [b8, List.length_append, ih]; rfl
theorem b8_byte (v : Int) (k : Nat) : Bytes8 (b8 v k) := by
  induction k with
  | zero => exact fun z hz => by cases hz
  | succ k ih =>
    refine Bytes8.append ih fun z hz => ?_
    rw [List.mem_singleton.1 hz]; omega
theorem p8_succ (k : Nat) : (2 : Int) ^ (8 * (k + 1)) = 256 * 2 ^ (8 * k) := by
  rw [show 8 * (k + 1) = 8 * k + 8 by omega, Int.pow_add, Int.mul_comm]; rfl
theorem p8_pos (k : Nat) : (0 : Int) < 2 ^ (8 * k) := Int.pow_pos (by decide)
theorem p8_le : ∀ k, k < 8 → (2 : Int) ^ (8 * k) ≤ 72057594037927936 := by decide
theorem getD_byte {zs : List Int} (h : Bytes8 zs) (i : Nat) : 0 ≤ zs.getD i 0 ∧ zs.getD i 0 ≤ 255 := by
  rw [List.getD_eq_getElem?_getD]
  cases e : zs[i]? with
  | none => simp
  | some z => exact h z (List.mem_of_getElem? e)
theorem n8_bound {zs : List Int} (h : Bytes8 zs) (t k : Nat) : 0 ≤ n8 zs t k ∧ n8 zs t k < 2 ^ (8 * k) := by
  induction k with
  | zero => exact ⟨Int.le_refl _, by rw [n8]; decide⟩
  | succ k ih =>
    obtain ⟨h0, h1⟩ := getD_byte h (t + k)
    have hp := p8_pos k
    have m0 : 0 ≤ zs.getD (t + k) 0 * 2 ^ (8 * k) := Int.mul_nonneg h0 (by omega)
    have m1 : zs.getD (t + k) 0 * 2 ^ (8 * k) ≤ 255 * 2 ^ (8 * k) := Int.mul_le_mul_of_nonneg_right h1 (by omega)
    rw [p8_succ, n8]
    omega
theorem n8_word {zs : List Int} (h : Bytes8 zs) (t : Nat) : Word (n8 zs t 8) := n8_bound h t 8
theorem n8_b8 {v : Int} (hv : 0 ≤ v) (k : Nat) (xs ys : List Int) : n8 (xs ++ (b8 v k ++ ys)) xs.length k = v % 2 ^ (8 * k) := by
  induction k generalizing ys with
  | zero => rw [n8]; simp
  | succ k ih =>
    have e : (xs ++ (b8 v (k + 1) ++ ys)).getD (xs.length + k) 0 = v / 2 ^ (8 * k) % 256 := by
      have hb := b8_len v k
      rw [List.getD_eq_getElem?_getD, List.getElem?_append_right (by omega), b8, List.append_assoc, List.getElem?_append_right (by omega), hb]
      simp
    rw [n8, e, b8, List.append_assoc, ih]
    obtain ⟨m, rfl⟩ := Int.eq_ofNat_of_zero_le hv
    have h := Nat.mod_mul (x := m) (a := 2 ^ (8 * k)) (b := 256)
    have h2 : ((m % (2 ^ (8 * k) * 256) : Nat) : Int) = ((m % 2 ^ (8 * k) + 2 ^ (8 * k) * (m / 2 ^ (8 * k) % 256) : Nat) : Int) := by rw [h]
    rw [p8_succ]
    rw [Int.natCast_emod, Int.natCast_mul, Int.natCast_add, Int.natCast_mul, Int.natCast_emod, Int.natCast_emod, Int.natCast_ediv, Int.natCast_pow] at h2
    rw [Int.mul_comm 256]
    rw [Int.mul_comm ((m : Int) / _ % _)]
    exact h2.symm
theorem n8_back {v : Int} (hv : Word v) (xs ys : List Int) : n8 (xs ++ (b8 v 8 ++ ys)) xs.length 8 = v := by
  rw [n8_b8 hv.1]
  obtain ⟨_, _⟩ := hv
  have e : (2 : Int) ^ (8 * 8) = 18446744073709551616 := by decide
  rw [e]; omega

/-- A gauge's bytes. -/
def putG (g : Gz) : List Int := putS g.nans ++ (putS g.n ++ (if g.n = 0 then [] else b8 g.lo 8 ++ b8 g.hi 8))
theorem putG_byte {g : Gz} (h : GW g) : Bytes8 (putG g) := by
  refine Bytes8.append (putS_byte h.nans) (Bytes8.append (putS_byte h.n) ?_)
  split
  · exact fun z hz => by cases hz
  · exact Bytes8.append (b8_byte _ _) (b8_byte _ _)
theorem putG_len (g : Gz) : 0 < (putG g).length ∧ (putG g).length ≤ 36 := by
  have h1 := putS_len g.nans
  have h2 := putS_len g.n
  unfold putG
  rw [List.length_append, List.length_append]
  split
  · simp; omega
  · rw [List.length_append, b8_len, b8_len]; omega

/-- What is got from a place on: the gauge, the place behind it. -/
def getG (zs : List Int) (p : Int) : Option (Gz × Int) :=
  match getS zs p with
  | none => none
  | some (m, q) => match getS zs q with
    | none => none
    | some (n, r) => if n = 0 then some (⟨0, m, 0, 0⟩, r) else if (zs.length : Int) - r < 16 then none
      else if chkG ⟨n, m, n8 zs r.toNat 8, n8 zs (r.toNat + 8) 8⟩ = true then some (⟨n, m, n8 zs r.toNat 8, n8 zs (r.toNat + 8) 8⟩, r + 16) else none
theorem getG_no1 {zs : List Int} {p : Int} (h : getS zs p = none) : getG zs p = none := by unfold getG; rw [h]
theorem getG_no2 {zs : List Int} {p m q : Int} (h : getS zs p = some (m, q)) (h2 : getS zs q = none) : getG zs p = none := by unfold getG; rw [h]; simp only; rw [h2]
theorem getG_two {zs : List Int} {p m q n r : Int} (h : getS zs p = some (m, q)) (h2 : getS zs q = some (n, r)) :
    getG zs p = if n = 0 then some (⟨0, m, 0, 0⟩, r) else if (zs.length : Int) - r < 16 then none
      else if chkG ⟨n, m, n8 zs r.toNat 8, n8 zs (r.toNat + 8) 8⟩ = true then some (⟨n, m, n8 zs r.toNat 8, n8 zs (r.toNat + 8) 8⟩, r + 16) else none := by
  unfold getG; rw [h]; simp only; rw [h2]
theorem getG_back {g : Gz} (h : GW g) (c : chkG g = true) (xs : List Int) : getG (xs ++ putG g) xs.length = some (g, ((xs.length + (putG g).length : Nat) : Int)) := by
  have e1 := getS_at h.nans xs (putS g.n ++ (if g.n = 0 then [] else b8 g.lo 8 ++ b8 g.hi 8))
  have e2 := getS_at h.n (xs ++ putS g.nans) (if g.n = 0 then [] else b8 g.lo 8 ++ b8 g.hi 8)
  rw [List.append_assoc, List.length_append] at e2
  have el : (putG g).length = (putS g.nans).length + ((putS g.n).length + if g.n = 0 then 0 else 16) := by
    unfold putG
    rw [List.length_append, List.length_append]
    split
    · rfl
    · rw [List.length_append, b8_len, b8_len]
  have e3 := getG_two (zs := xs ++ putG g) e1 e2
  rw [e3]
  by_cases hn : g.n = 0
  · obtain ⟨h1, h2⟩ := chk_none c hn
    rw [if_pos hn] at el ⊢
    have eg : (⟨0, g.nans, 0, 0⟩ : Gz) = g := Gz.ext' hn.symm rfl h1.symm h2.symm
    rw [eg, el]
    congr 2
    omega
  · rw [if_neg hn] at el ⊢
    have ep : putG g = putS g.nans ++ (putS g.n ++ (b8 g.lo 8 ++ b8 g.hi 8)) := by unfold putG; rw [if_neg hn]
    have f1 := n8_back h.lo (xs ++ (putS g.nans ++ putS g.n)) (b8 g.hi 8)
    have f2 := n8_back h.hi (xs ++ (putS g.nans ++ (putS g.n ++ b8 g.lo 8))) []
    have l1 : (xs ++ (putS g.nans ++ putS g.n)).length = xs.length + (putS g.nans).length + (putS g.n).length := by simp only [List.length_append]; omega
    have l2 : (xs ++ (putS g.nans ++ (putS g.n ++ b8 g.lo 8))).length = xs.length + (putS g.nans).length + (putS g.n).length + 8 := by simp only [List.length_append, b8_len]; omega
    have s1 : xs ++ (putS g.nans ++ putS g.n) ++ (b8 g.lo 8 ++ b8 g.hi 8) = xs ++ putG g := by rw [ep]; simp only [List.append_assoc]
    have s2 : xs ++ (putS g.nans ++ (putS g.n ++ b8 g.lo 8)) ++ (b8 g.hi 8 ++ []) = xs ++ putG g := by rw [ep]; simp only [List.append_assoc, List.append_nil]
    rw [s1, l1] at f1
    rw [s2, l2] at f2
    rw [Int.toNat_natCast, f1, f2, if_neg (by rw [List.length_append, el]; omega), if_pos c, el]
    congr 2
    omega
theorem getG_some {zs : List Int} {p r : Int} {g : Gz} (hz : Bytes8 zs) (h : getG zs p = some (g, r)) : GW g := by
  unfold getG at h
  cases e1 : getS zs p with
  | none => rw [e1] at h; cases h
  | some q =>
    obtain ⟨m, q⟩ := q
    rw [e1] at h; simp only at h
    have hm := (getS_some hz e1).1
    cases e2 : getS zs q with
    | none => rw [e2] at h; cases h
    | some s =>
      obtain ⟨n, s⟩ := s
      rw [e2] at h; simp only at h
      have hn := (getS_some hz e2).1
      split at h
      · cases h; exact ⟨w0, hm, w0, w0⟩
      · split at h
        · cases h
        · split at h
          · cases h; exact ⟨hn, hm, n8_word hz _, n8_word hz _⟩
          · cases h
set_option maxHeartbeats 1000000 in
theorem putbits_any (v : Int) (base : Nat) (a : Option Addr) (n cap : Nat) (zs : List Int) (w : World) (hv : Word v) (hn : n ≤ 1000000) (hB : base ≤ w.heap.size) (hs : Mine w base a n cap zs) :
    Calls Tryz.prog 239 #[.slice a n cap, .int .u64 v] w fun e w' => ∃ a' cap', e = .returned (.slice a' (n + 8) cap') ∧ Mine w' base a' (n + 8) cap' (zs ++ b8 v 8) ∧ Below base w w' := by
  obtain ⟨i0, hi, hz0, hz1, hz2⟩ := info_parts Tryz.info5
  have HS := hide hs
  have HB := hide hB
  obtain ⟨v0, v1⟩ := hv
  clear hs hB
  go_enter Tryz.func239, Tryz.ntmps239
  go_wp2
  go_loopw [0, 6] (fun b i wr => ∃ (ar : Option Addr) (capr : Nat) (j : Nat), b = .slice ar (n + j) capr ∧ i = .int .i64 j ∧ j ≤ 8 ∧ Hid (Mine wr base ar (n + j) capr (zs ++ b8 v j)) ∧ Hid (Below base w wr)) (fun _ i _ => 8 - (intOf i).toNat)
  case atStart => exact ⟨a, cap, 0, rfl, rfl, by omega, by rw [b8, List.append_nil]; exact HS, Below.refl _ _⟩
  case round =>
    obtain ⟨ar, capr, j, rfl, rfl, hj, HR, HW⟩ := hrel
    by_cases hu : j < 8
    · have i1 : (j : Int) < 8 := by omega
      obtain ⟨z, hz⟩ : ∃ z : Int, Hid (v / 2 ^ (8 * j) % 256 = z) := ⟨_, rfl⟩
      have zb : 0 ≤ z ∧ z ≤ 255 := by rw [← hz.out]; omega
      have hzz := hz.out
      have HO := hide (one_row (k := .u8) wr z (wf_of_u8 zb.1 zb.2) 5 (0, 0))
      have HSA : Hid (Src 5 .u8 (wr.alloc (.cells #[.int .u8 z] 5)) base ar (n + j) capr (zs ++ b8 v j)) := Or.inl (HR.out.alloc _)
      have HBW : Hid (base ≤ (wr.alloc (.cells #[.int .u8 z] 5)).heap.size) := by
        have := Nat.le_trans HB.out HW.out.size
        show _ ≤ _
        simp; omega
      clear zb
      go_wp2_with (at_builtin; rw [hzz]; refine wpList_append_one _ rfl _ _ 40 rfl base 5 i0 Tryz.underlying40 hi hz0 hz1 hz2 ar (n + j) capr _ rfl HSA.out _ 1 z rfl HO.out (by omega) HBW.out ?_)
      intro a' cap' w' h1 h2
      have HF : Hid (Mine w' base a' (n + (j + 1)) cap' (zs ++ b8 v (j + 1)) ∧ Below base w w') := by
        refine ⟨?_, (HW.out.alloc (Nat.le_trans HB.out HW.out.size) _).trans h2⟩
        rw [b8, hz.out]; exact h1
      clear h1 h2 HR HW HSA HO HBW hzz
      go_wp2
      go_roundw
      case rel => exact ⟨a', cap', j + 1, rfl, by go_num, by omega, HF.out.1, HF.out.2⟩
      case measure => simp [intOf]; omega
    · have hj8 : j = 8 := by omega
      subst hj8
      have i1 : ¬ ((8 : Nat) : Int) < 8 := by omega
      go_wp2
      go_ret
      exact ⟨ar, capr, rfl, HR.out, HW.out⟩

theorem or8 {V z : Int} (j : Nat) (hj : j < 8) (V0 : 0 ≤ V) (V1 : V < 2 ^ (8 * j)) (z0 : 0 ≤ z) (z1 : z ≤ 255) :
    IntKind.u64.wrap (z * 2 ^ (8 * j)) = z * 2 ^ (8 * j) ∧ bits .or .u64 V (z * 2 ^ (8 * j)) = V + z * 2 ^ (8 * j) ∧ 0 ≤ V + z * 2 ^ (8 * j) ∧ V + z * 2 ^ (8 * j) < 18446744073709551616 := by
  have hp := p8_pos j
  have hl := p8_le j hj
  have m0 : 0 ≤ z * 2 ^ (8 * j) := Int.mul_nonneg z0 (by omega)
  have m1 : z * 2 ^ (8 * j) ≤ 255 * 2 ^ (8 * j) := Int.mul_le_mul_of_nonneg_right z1 (by omega)
  exact ⟨by rw [IntKind.wrap_u64]; omega, or_u64 (8 * j) V0 V1 z z0 rfl (by omega), by omega, by omega⟩

set_option maxHeartbeats 1000000 in
theorem bitsat_any (t : Nat) (a : Option Addr) (n cap : Nat) (zs : List Int) (w : World) (ht : t + 8 ≤ n) (hr : Row .u8 w a n zs) :
    Calls Tryz.prog 251 #[.slice a n cap, .int .i64 (t : Int)] w fun e w' => e = .returned (.int .u64 (n8 zs t 8)) ∧ w' = w := by
  have HZ : Hid (Bytes8 zs) := hr.bytes
  have hn := hr.2.1
  obtain ⟨_, _, _, h0 | ⟨b, off, rfl, hcell⟩⟩ := hr
  · omega
  have HC := hide hcell
  clear hcell
  go_enter Tryz.func251, Tryz.ntmps251
  go_wp2
  go_loopw [5, 7] (fun x i wr => ∃ j : Nat, x = .int .u64 (n8 zs t j) ∧ i = .int .i64 j ∧ j ≤ 8 ∧ wr = w) (fun _ i _ => 8 - (intOf i).toNat)
  case atStart => exact ⟨0, rfl, rfl, by omega, rfl⟩
  case round =>
    obtain ⟨j, rfl, rfl, hj, rfl⟩ := hrel
    by_cases hu : j < 8
    · have i1 : (j : Int) < 8 := by omega
      obtain ⟨V0, V1⟩ := n8_bound HZ.out t j
      obtain ⟨z0, z1⟩ := getD_byte HZ.out (t + j)
      have hs : Hid (n8 zs t (j + 1) = n8 zs t j + zs.getD (t + j) 0 * 2 ^ (8 * j)) := rfl
      have c1 := HC.out (t + j) (by omega)
      generalize n8 zs t j = V at V0 V1 hs ⊢
      generalize zs.getD (t + j) 0 = z at c1 z0 z1 hs
      obtain ⟨e1, e2, e3, e4⟩ := or8 j hu V0 V1 z0 z1
      rw [← hs.out] at e2 e3 e4
      obtain ⟨X, hX⟩ : ∃ X, Hid (n8 zs t (j + 1) = X) := ⟨_, rfl⟩
      rw [hX.out] at e2 e3 e4
      have i2 : (0 : Int) ≤ (t : Int) + (j : Int) := by omega
      have i3 : (t : Int) + (j : Int) < (n : Int) := by omega
      have i4 : ((t : Int) + (j : Int)).toNat = t + j := by omega
      clear V1
      go_wp2
      go_roundw
      case rel => exact ⟨j + 1, by rw [hX.out], by go_num, by omega, trivial⟩
      case measure => simp [intOf]; omega
    · have hj8 : j = 8 := by omega
      subst hj8
      have i1 : ¬ ((8 : Nat) : Int) < 8 := by omega
      go_wp2
      go_ret
      exact ⟨rfl, rfl⟩
/-- A gauge in memory, and what was there before is as it was. -/
theorem keepG {w0 v v' : World} {k : Nat} {x : Gz} (hb : Below (k + 1) v v') (h : ((World.cell? v ⟨k, 0, none⟩ = some (.int .u64 (Gz.n x))) ∧ (World.cell? v ⟨k, 1, none⟩ = some (.int .u64 (Gz.nans x))) ∧ (World.cell? v ⟨k, 2, none⟩ = some (.int .u64 (Gz.lo x))) ∧ (World.cell? v ⟨k, 3, none⟩ = some (.int .u64 (Gz.hi x)))) ∧ Hid (Below (k + 1) w0 v)) : ((World.cell? v' ⟨k, 0, none⟩ = some (.int .u64 (Gz.n x))) ∧ (World.cell? v' ⟨k, 1, none⟩ = some (.int .u64 (Gz.nans x))) ∧ (World.cell? v' ⟨k, 2, none⟩ = some (.int .u64 (Gz.lo x))) ∧ (World.cell? v' ⟨k, 3, none⟩ = some (.int .u64 (Gz.hi x)))) ∧ Hid (Below (k + 1) w0 v') :=
  ⟨gc_below hb (Nat.lt_succ_self _) h.1, h.2.out.trans hb⟩
theorem keepH {w0 v v' : World} {k : Nat} {x : Gz} (h0 : Hid (k + 1 ≤ w0.heap.size)) (hb : Below v.heap.size v v') (h : ((World.cell? v ⟨k, 0, none⟩ = some (.int .u64 (Gz.n x))) ∧ (World.cell? v ⟨k, 1, none⟩ = some (.int .u64 (Gz.nans x))) ∧ (World.cell? v ⟨k, 2, none⟩ = some (.int .u64 (Gz.lo x))) ∧ (World.cell? v ⟨k, 3, none⟩ = some (.int .u64 (Gz.hi x)))) ∧ Hid (Below (k + 1) w0 v)) : ((World.cell? v' ⟨k, 0, none⟩ = some (.int .u64 (Gz.n x))) ∧ (World.cell? v' ⟨k, 1, none⟩ = some (.int .u64 (Gz.nans x))) ∧ (World.cell? v' ⟨k, 2, none⟩ = some (.int .u64 (Gz.lo x))) ∧ (World.cell? v' ⟨k, 3, none⟩ = some (.int .u64 (Gz.hi x)))) ∧ Hid (Below (k + 1) w0 v') :=
  keepG (hb.mono (Nat.le_trans h0.out h.2.out.size)) h

set_option maxHeartbeats 2000000 in
theorem gput_any (a : Option Addr) (n cap : Nat) (zs : List Int) (g : Gz) (w : World) (hg : GW g) (hn : n ≤ 140737488355328) (hr : Row .u8 w a n zs) :
    Calls Tryz.prog 187 #[.slice a n cap, (Value.agg #[.int .u64 (Gz.n g), .int .u64 (Gz.nans g), .int .u64 (Gz.lo g), .int .u64 (Gz.hi g)])] w fun e w' => ∃ a' cap', e = .returned (.slice a' (n + (putG g).length) cap') ∧ Mine w' w.heap.size a' (n + (putG g).length) cap' (zs ++ putG g) ∧ Below w.heap.size w w' := by
  obtain ⟨w0, hw0⟩ : ∃ w0, Hid (w.alloc (.cells #[.int .u64 g.n, .int .u64 g.nans, .int .u64 g.lo, .int .u64 g.hi] 27) = w0) := ⟨_, rfl⟩
  have G : Hid (GBox w0 w.heap.size g.n g.nans g.lo g.hi) := by rw [← hw0.out]; exact GBox.new w _ _ _ _ _
  have Z0 : Hid (w.heap.size + 1 ≤ w0.heap.size) := G.out.lt
  have S0 : Hid (((World.cell? w0.drew ⟨w.heap.size, 0, none⟩ = some (.int .u64 (Gz.n g))) ∧ (World.cell? w0.drew ⟨w.heap.size, 1, none⟩ = some (.int .u64 (Gz.nans g))) ∧ (World.cell? w0.drew ⟨w.heap.size, 2, none⟩ = some (.int .u64 (Gz.lo g))) ∧ (World.cell? w0.drew ⟨w.heap.size, 3, none⟩ = some (.int .u64 (Gz.hi g)))) ∧ Hid (Below (w.heap.size + 1) w0 w0.drew)) := ⟨G.out.drew.gc, (Below.refl _ _).drew⟩
  have R0 : Hid (Row .u8 w0 a n zs) := by rw [← hw0.out]; exact hr.alloc _
  have B0 : Hid (Below w.heap.size w w0) := by rw [← hw0.out]; exact (Below.refl _ _).alloc (Nat.le_refl _) _
  obtain ⟨PM, hPM⟩ : ∃ PM, Hid (putS g.nans = PM) := ⟨_, rfl⟩
  obtain ⟨PN, hPN⟩ : ∃ PN, Hid (putS g.n = PN) := ⟨_, rfl⟩
  obtain ⟨lm, hlm⟩ : ∃ l, Hid (PM.length = l) := ⟨_, rfl⟩
  obtain ⟨ln, hln⟩ : ∃ l, Hid (PN.length = l) := ⟨_, rfl⟩
  have hm1 : 1 ≤ lm ∧ lm ≤ 10 := by rw [← hlm.out, ← hPM.out]; exact putS_len _
  have hn1 : 1 ≤ ln ∧ ln ≤ 10 := by rw [← hln.out, ← hPN.out]; exact putS_len _
  have BM : Hid (Bytes8 PM) := by rw [← hPM.out]; exact putS_byte hg.nans
  have BN : Hid (Bytes8 PN) := by rw [← hPN.out]; exact putS_byte hg.n
  have P1 : Hid (∀ W : World, Calls Tryz.prog 46 #[.slice none 0 0, .int .u64 g.nans] W fun e w' => ∃ a' cap', e = .returned (.slice a' lm cap') ∧ Mine w' W.heap.size a' lm cap' PM ∧ Below W.heap.size W w') := fun W => by
    have h := put_any g.nans none 0 0 [] W hg.nans (by omega) (Nat.le_refl _) (nil_row _ _ _)
    rw [List.nil_append, hPM.out, hlm.out, Nat.zero_add] at h
    exact h
  have P2 : Hid (∀ (W : World) (a1 : Option Addr) (c1 base : Nat), Mine W base a1 lm c1 PM → Calls Tryz.prog 46 #[.slice a1 lm c1, .int .u64 g.n] W fun e w' => ∃ a' cap', e = .returned (.slice a' (lm + ln) cap') ∧ Mine w' W.heap.size a' (lm + ln) cap' (PM ++ PN) ∧ Below W.heap.size W w') := fun W a1 c1 base o => by
    have h := put_any g.n a1 lm c1 PM W hg.n (by omega) o.capped.1 (o.row (by omega) (fits_wf BM.out))
    rw [hPN.out, hln.out] at h
    exact h
  have HE : Hid (putG g = PM ++ PN ++ (if g.n = 0 then [] else b8 g.lo 8 ++ b8 g.hi 8)) := by
    show _ = _
    unfold putG; rw [hPM.out, hPN.out, List.append_assoc]
  have hl8 := b8_len g.lo 8
  have hh8 := b8_len g.hi 8
  have Q1 : Hid (∀ (W : World) (a1 : Option Addr) (c1 base : Nat), base ≤ W.heap.size → Mine W base a1 (lm + ln) c1 (PM ++ PN) → Calls Tryz.prog 239 #[.slice a1 (lm + ln) c1, .int .u64 g.lo] W fun e w' => ∃ a' cap', e = .returned (.slice a' (lm + ln + 8) cap') ∧ Mine w' base a' (lm + ln + 8) cap' (PM ++ PN ++ b8 g.lo 8) ∧ Below base W w') := fun W a1 c1 base hb o =>
    putbits_any g.lo base a1 (lm + ln) c1 (PM ++ PN) W hg.lo (by omega) hb o
  have Q2 : Hid (∀ (W : World) (a1 : Option Addr) (c1 base : Nat), base ≤ W.heap.size → Mine W base a1 (lm + ln + 8) c1 (PM ++ PN ++ b8 g.lo 8) → Calls Tryz.prog 239 #[.slice a1 (lm + ln + 8) c1, .int .u64 g.hi] W fun e w' => ∃ a' cap', e = .returned (.slice a' (lm + ln + 16) cap') ∧ Mine w' base a' (lm + ln + 16) cap' (PM ++ PN ++ b8 g.lo 8 ++ b8 g.hi 8) ∧ Below base W w') := fun W a1 c1 base hb o =>
    putbits_any g.hi base a1 (lm + ln + 8) c1 (PM ++ PN ++ b8 g.lo 8) W hg.hi (by omega) hb o
  have CT : Hid (∀ (W : World) (a1 : Option Addr) (m c1 base : Nat) (Z : List Int), Below w.heap.size w W → m ≤ 100 → 0 < m → Bytes8 Z → Mine W base a1 m c1 Z → Calls Tryz.prog 50 #[.slice (some ⟨W.heap.size, 0, none⟩) 2 2] (W.alloc (.cells #[.slice a n cap, .slice a1 m c1] 40)) fun e w' => ∃ a' cap', e = .returned (.slice a' (n + m) cap') ∧ Mine w' W.heap.size a' (n + m) cap' (zs ++ Z) ∧ Below W.heap.size W w') := fun W a1 m c1 base Z hW hm1 hm2 hZ o =>
    concat_two a n cap zs a1 m c1 Z W (hr.below hW (Nat.le_refl _)) (o.row (by omega) (fits_wf hZ)) hm2 (by omega)
  have BL := hide (b8_byte g.lo 8)
  have BH := hide (b8_byte g.hi 8)
  have hgn := hg.n.1
  clear hg G hr R0 hPM hPN
  generalize putG g = PG at HE ⊢
  generalize b8 g.lo 8 = BLO at *
  generalize b8 g.hi 8 = BHI at *
  go_enter Tryz.func187, Tryz.ntmps187
  go_upto_region 1 with fail
  rw [hw0.out]
  clear hw0
  obtain ⟨k, hk⟩ : ∃ k, Hid (w.heap.size = k) := ⟨_, rfl⟩
  rw [hk.out] at S0 Z0
  rw [hk.out]
  go_cut [5] (fun x wx => ∃ a1 c1, x = .slice a1 (lm + ln) c1 ∧ Hid (Mine wx (k + 1) a1 (lm + ln) c1 (PM ++ PN)) ∧ Hid (((World.cell? wx ⟨k, 0, none⟩ = some (.int .u64 (Gz.n g))) ∧ (World.cell? wx ⟨k, 1, none⟩ = some (.int .u64 (Gz.nans g))) ∧ (World.cell? wx ⟨k, 2, none⟩ = some (.int .u64 (Gz.lo g))) ∧ (World.cell? wx ⟨k, 3, none⟩ = some (.int .u64 (Gz.hi g)))) ∧ Hid (Below (k + 1) w0 wx)))
  case first =>
    go_region_held3 (fun w' => ((World.cell? w' ⟨k, 0, none⟩ = some (.int .u64 (Gz.n g))) ∧ (World.cell? w' ⟨k, 1, none⟩ = some (.int .u64 (Gz.nans g))) ∧ (World.cell? w' ⟨k, 2, none⟩ = some (.int .u64 (Gz.lo g))) ∧ (World.cell? w' ⟨k, 3, none⟩ = some (.int .u64 (Gz.hi g)))) ∧ Hid (Below (k + 1) w0 w')) (first | exact S0.out | exact keepH Z0 (by assumption) (by assumption)) (first
      | (go_at_call 46; with_reducible refine (P1.out _).mono ?_; rintro e v1 ⟨a1, c1, rfl, o1, b1⟩; have O1 := hide o1)
      | (go_at_call 46; with_reducible refine (P2.out _ _ _ _ O1.out).mono ?_; rintro e v2 ⟨a2, c2, rfl, o2, b2⟩; have O2 := hide o2))
    go_wp2_with fail
    go_meet
    case rel =>
      have hz : k + 1 ≤ v1.heap.size := Nat.le_trans Z0.out b1.size
      exact ⟨a2, c2, rfl, O2.out.mono hz, by assumption⟩
  case rest =>
    obtain ⟨a1, c1, rfl, O1, S1⟩ := hcut
    have f0 := S1.out.1.1
    have HBW : Hid (Below w.heap.size w wc) := by
      rw [hk.out] at B0 ⊢
      exact B0.out.trans (S1.out.2.out.mono (Nat.le_succ _))
    have HB2 : Hid (∀ W' : World, Below wc.heap.size wc W' → Below w.heap.size w W') := fun W' h => bel_to HBW.out (Nat.le_refl _) h
    by_cases h0 : g.n = 0
    · have i0 : ¬ 0 < g.n := by omega
      have hE := HE.out
      rw [if_pos h0, List.append_nil] at hE
      have hL : PG.length = lm + ln := by rw [hE, List.length_append, hlm.out, hln.out]
      have C := hide (CT.out wc a1 (lm + ln) c1 (k + 1) PG HBW.out (by omega) (by omega) (by rw [hE]; exact Bytes8.append BM.out BN.out) (by rw [hE]; exact O1.out))
      clear hE HE h0 P1 P2 Q1 Q2 CT O1
      go_wp2_with fail
      refine C.out.mono ?_
      rintro e w' ⟨a', c', rfl, o, b⟩
      have O := hide o
      have B := hide (HB2.out _ b)
      have hz : w.heap.size ≤ wc.heap.size := HBW.out.size
      clear o b
      go_wp2
      go_ret
      rw [hL]
      exact ⟨a', c', rfl, O.out.mono hz, B.out⟩
    · have i0 : 0 < g.n := by omega
      have S2 : Hid (((World.cell? wc.drew ⟨k, 0, none⟩ = some (.int .u64 (Gz.n g))) ∧ (World.cell? wc.drew ⟨k, 1, none⟩ = some (.int .u64 (Gz.nans g))) ∧ (World.cell? wc.drew ⟨k, 2, none⟩ = some (.int .u64 (Gz.lo g))) ∧ (World.cell? wc.drew ⟨k, 3, none⟩ = some (.int .u64 (Gz.hi g)))) ∧ Hid (Below (k + 1) w0 wc.drew)) := ⟨S1.out.1, S1.out.2.out.drew⟩
      have O1d : Hid (Mine wc.drew (k + 1) a1 (lm + ln) c1 (PM ++ PN)) := O1.out.drew
      have Z1 : Hid (k + 1 ≤ wc.drew.heap.size) := Nat.le_trans Z0.out S1.out.2.out.size
      have hE := HE.out
      rw [if_neg h0] at hE
      have hL : PG.length = lm + ln + 16 := by rw [hE]; simp only [List.length_append]; rw [hlm.out, hln.out, hl8, hh8]
      have hE2 : PM ++ PN ++ BLO ++ BHI = PG := by rw [hE]; simp only [List.append_assoc]
      have HPB : Hid (Bytes8 PG) := by rw [hE]; exact Bytes8.append (Bytes8.append BM.out BN.out) (Bytes8.append BL.out BH.out)
      rw [hE2] at Q2
      clear hE hE2 HE h0 P1 P2 O1
      go_upto_region 3 with fail
      go_cut [5] (fun x wx => ∃ a1 c1, x = .slice a1 (lm + ln + 16) c1 ∧ Hid (Mine wx (k + 1) a1 (lm + ln + 16) c1 PG) ∧ Hid (((World.cell? wx ⟨k, 0, none⟩ = some (.int .u64 (Gz.n g))) ∧ (World.cell? wx ⟨k, 1, none⟩ = some (.int .u64 (Gz.nans g))) ∧ (World.cell? wx ⟨k, 2, none⟩ = some (.int .u64 (Gz.lo g))) ∧ (World.cell? wx ⟨k, 3, none⟩ = some (.int .u64 (Gz.hi g)))) ∧ Hid (Below (k + 1) w0 wx)))
      case first =>
        go_region_held3 (fun w' => ((World.cell? w' ⟨k, 0, none⟩ = some (.int .u64 (Gz.n g))) ∧ (World.cell? w' ⟨k, 1, none⟩ = some (.int .u64 (Gz.nans g))) ∧ (World.cell? w' ⟨k, 2, none⟩ = some (.int .u64 (Gz.lo g))) ∧ (World.cell? w' ⟨k, 3, none⟩ = some (.int .u64 (Gz.hi g)))) ∧ Hid (Below (k + 1) w0 w')) (first | exact S2.out | exact keepG (by assumption) (by assumption)) (first
          | (go_at_call 239; with_reducible refine (Q1.out _ _ _ _ Z1.out O1d.out).mono ?_; rintro e v1 ⟨a2, c2, rfl, o1, b1⟩; have O2 := hide o1)
          | (go_at_call 239; with_reducible refine (Q2.out _ _ _ _ (Nat.le_trans Z1.out b1.size) O2.out).mono ?_; rintro e v2 ⟨a3, c3, rfl, o2, b2⟩; have O3 := hide o2))
        go_wp2_with fail
        go_meet
        case rel => exact ⟨a3, c3, rfl, O3, by assumption⟩
      case rest =>
        obtain ⟨a4, c4, rfl, O4, S4⟩ := hcut
        clear HB2 HBW S2 O1d Z1 f0 S1 Q1 Q2
        have HBW : Hid (Below w.heap.size w wc) := by
          rw [hk.out] at B0 ⊢
          exact B0.out.trans (S4.out.2.out.mono (Nat.le_succ _))
        have HB2 : Hid (∀ W' : World, Below wc.heap.size wc W' → Below w.heap.size w W') := fun W' h => bel_to HBW.out (Nat.le_refl _) h
        have C := hide (CT.out wc a4 (lm + ln + 16) c4 (k + 1) PG HBW.out (by omega) (by omega) HPB.out O4.out)
        clear CT O4 S4
        go_wp2_with fail
        refine C.out.mono ?_
        rintro e w' ⟨a', c', rfl, o, b⟩
        have O := hide o
        have B := hide (HB2.out _ b)
        have hz : w.heap.size ≤ wc.heap.size := HBW.out.size
        clear o b
        go_wp2
        go_ret
        rw [hL]
        exact ⟨a', c', rfl, O.out.mono hz, B.out⟩
/-- What Get answers. -/
def gotG (r : Option (Gz × Int)) : Ending :=
  match r with
  | none => .returned (.tuple #[.agg #[.int .u64 0, .int .u64 0, .int .u64 0, .int .u64 0], .int .i64 0, .bool false])
  | some q => .returned (.tuple #[(Value.agg #[.int .u64 (Gz.n q.1), .int .u64 (Gz.nans q.1), .int .u64 (Gz.lo q.1), .int .u64 (Gz.hi q.1)]), .int .i64 q.2, .bool true])

theorem GBox.new1 (w : World) (o : Obj) (t : TypeId) (n m lo hi : Int) : GBox ((w.alloc (.cells #[.int .u64 n, .int .u64 m, .int .u64 lo, .int .u64 hi] t)).alloc o) w.heap.size n m lo hi := (GBox.new w t n m lo hi).alloc o
set_option maxHeartbeats 2000000 in
theorem gget_any (p : Int) (a : Option Addr) (n cap : Nat) (zs : List Int) (w : World) (hp : (Lit.int .i64 p).wf = true) (hc : n ≤ cap) (hr : Row .u8 w a n zs) :
    Calls Tryz.prog 200 #[.slice a n cap, .int .i64 p] w fun e w' => e = gotG (getG zs p) ∧ Below w.heap.size w w' := by
  have hl := hr.1
  have hn := hr.2.1
  have hzb : Bytes8 zs := hr.bytes
  have R := hide hr
  have G1 := hide (fun W (h : Row .u8 W a n zs) => get_any p a n cap zs W hp hc h)
  have R1 := hide (fun o => hr.alloc o)
  clear hr
  cases e1 : getS zs p with
  | none =>
    have F := hide (getG_no1 e1)
    rw [e1] at G1
    simp only [gotE] at G1
    rw [F.out]
    simp only [gotG]
    clear e1
    go_enter Tryz.func200, Tryz.ntmps200
    go_wp2_with fail
    with_reducible refine (G1.out _ (R1.out _)).mono ?_
    rintro e w1 ⟨rfl, rfl⟩
    go_wp2
    refine bodyPost_ret (v := .tuple #[.agg #[.int .u64 0, .int .u64 0, .int .u64 0, .int .u64 0], .int .i64 0, .bool false]) (by simp [results, Tryz.results200, go_sem]) rfl ⟨rfl, ?_⟩
    exact (Below.refl _ _).alloc (Nat.le_refl _) _
  | some q =>
    obtain ⟨m, q⟩ := q
    obtain ⟨hm, k1, hpk, hk1, hq, hkq, _⟩ := getS_some hzb e1
    clear hpk
    obtain ⟨t, ht⟩ : ∃ t, k1 + (putS m).length = t := ⟨_, rfl⟩
    rw [ht] at hq hkq
    have G2 := hide (fun W (h : Row .u8 W a n zs) => get_any (t : Int) a n cap zs W (i64_wf (by omega) (by omega)) hc h)
    rw [← hq] at G2
    rw [e1] at G1
    simp only [gotE] at G1
    cases e2 : getS zs q with
    | none =>
      have F := hide (getG_no2 e1 e2)
      rw [e2] at G2
      simp only [gotE] at G2
      rw [F.out]
      simp only [gotG]
      clear e1 e2 hq
      go_enter Tryz.func200, Tryz.ntmps200
      go_wp2_with fail
      with_reducible refine (G1.out _ (R1.out _)).mono ?_
      rintro e w1 ⟨rfl, rfl⟩
      go_wp2_with fail
      with_reducible refine (G2.out _ (R1.out _)).mono ?_
      rintro e w1 ⟨rfl, rfl⟩
      go_wp2
      refine bodyPost_ret (v := .tuple #[.agg #[.int .u64 0, .int .u64 0, .int .u64 0, .int .u64 0], .int .i64 0, .bool false]) (by simp [results, Tryz.results200, go_sem]) rfl ⟨rfl, ?_⟩
      exact (Below.refl _ _).alloc (Nat.le_refl _) _
    | some r =>
      obtain ⟨x, r⟩ := r
      obtain ⟨hx, k2, hqk, hk2, hr2, hkr, _⟩ := getS_some hzb e2
      clear hqk
      obtain ⟨u, hu⟩ : ∃ u, k2 + (putS x).length = u := ⟨_, rfl⟩
      rw [hu] at hr2 hkr
      have F := hide (getG_two e1 e2)
      rw [e2] at G2
      simp only [gotE] at G2
      subst hr2
      rw [Int.toNat_natCast] at F
      have hun : u ≤ n := by omega
      clear e1 e2 ht hu hk1 hk2 hkr hkq hp hc hq
      by_cases hx0 : x = 0
      · subst hx0
        have C := hide (fun W => gchk_any ⟨0, m, 0, 0⟩ ⟨w0, hm, w0, w0⟩ W)
        rw [chk_of_none rfl rfl rfl] at C
        dsimp only at C
        rw [if_pos rfl] at F
        rw [F.out]
        simp only [gotG]
        clear F
        go_enter Tryz.func200, Tryz.ntmps200
        go_wp2_with fail
        with_reducible refine (G1.out _ (R1.out _)).mono ?_
        rintro e w1 ⟨rfl, rfl⟩
        go_wp2_with fail
        with_reducible refine (G2.out _ (R1.out _)).mono ?_
        rintro e w1 ⟨rfl, rfl⟩
        go_wp2_with fail
        with_reducible refine (C.out _).mono ?_
        rintro e w1 ⟨rfl, hb⟩
        have GA : Hid (GBox w1 w.heap.size 0 0 0 0) := (GBox.new1 w _ _ 0 0 0 0).below hb (by simp [go_sem])
        have GB : Hid (GBox w1 (w.heap.size + 1) 0 m 0 0) := (GBox.new2 w _ _ 0 m 0 0).below hb (by simp [go_sem])
        have B : Hid (Below w.heap.size w w1) := (bel2 w _ _).trans (hb.mono (by rw [size_al, size_al]; omega))
        obtain ⟨_, c0, c1, c2, c3, f0, f1, f2, f3⟩ := GA.out
        obtain ⟨_, d0, d1, d2, d3, _, _, _, _⟩ := GB.out
        clear hb
        go_wp2
        have G2 := GA.out.set 0 m 0 0
        exact bodyPost_ret (v := .tuple #[.agg #[.int .u64 0, .int .u64 m, .int .u64 0, .int .u64 0], .int .i64 u, .bool true]) (by simp [results, Tryz.results200, go_sem, G2.c0, G2.c1, G2.c2, G2.c3]) rfl ⟨rfl, bel_set4 B.out (Nat.le_refl _) _ _ _ _⟩
      · rw [if_neg hx0, hl] at F
        have ix : 0 < x := by have := hx.1; omega
        by_cases h16 : (n : Int) - (u : Int) < 16
        · rw [if_pos h16] at F
          rw [F.out]
          simp only [gotG]
          clear F hx0
          go_enter Tryz.func200, Tryz.ntmps200
          go_wp2_with fail
          with_reducible refine (G1.out _ (R1.out _)).mono ?_
          rintro e w1 ⟨rfl, rfl⟩
          go_wp2_with fail
          with_reducible refine (G2.out _ (R1.out _)).mono ?_
          rintro e w1 ⟨rfl, rfl⟩
          go_wp2
          refine bodyPost_ret (v := .tuple #[.agg #[.int .u64 0, .int .u64 0, .int .u64 0, .int .u64 0], .int .i64 0, .bool false]) (by simp [results, Tryz.results200, go_sem]) rfl ⟨rfl, ?_⟩
          exact bel2 _ _ _
        · rw [if_neg h16] at F
          have hlo := n8_word hzb u
          have hhi := n8_word hzb (u + 8)
          have T1 := hide (fun W (h : Row .u8 W a n zs) => bitsat_any u a n cap zs W (by omega) h)
          have T2 := hide (fun W (h : Row .u8 W a n zs) => bitsat_any (u + 8) a n cap zs W (by omega) h)
          rw [show ((u + 8 : Nat) : Int) = (u : Int) + 8 by omega] at T2
          generalize n8 zs u 8 = lo at *
          generalize n8 zs (u + 8) 8 = hi at *
          have C := hide (fun W => gchk_any ⟨x, m, lo, hi⟩ ⟨hx, hm, hlo, hhi⟩ W)
          dsimp only at C
          have R2 := hide (fun o o' => (R1.out o).alloc o')
          cases ec : chkG ⟨x, m, lo, hi⟩
          · rw [ec] at C F
            rw [if_neg (by decide)] at F
            rw [F.out]
            simp only [gotG]
            clear F hx0 ec
            go_enter Tryz.func200, Tryz.ntmps200
            go_wp2_with fail
            with_reducible refine (G1.out _ (R1.out _)).mono ?_
            rintro e w1 ⟨rfl, rfl⟩
            go_wp2_with fail
            with_reducible refine (G2.out _ (R1.out _)).mono ?_
            rintro e w1 ⟨rfl, rfl⟩
            go_wp2_with fail
            with_reducible refine (T1.out _ (R2.out _ _)).mono ?_
            rintro e w1 ⟨rfl, rfl⟩
            go_wp2_with fail
            with_reducible refine (T2.out _ (R2.out _ _)).mono ?_
            rintro e w1 ⟨rfl, rfl⟩
            go_wp2_with fail
            with_reducible refine (C.out _).mono ?_
            rintro e w1 ⟨rfl, hb⟩
            have GA : Hid (GBox w1 w.heap.size 0 0 0 0) := (GBox.new1 w _ _ 0 0 0 0).below hb (by simp [go_sem])
            have B : Hid (Below w.heap.size w w1) := (bel2 w _ _).trans (hb.mono (by rw [size_al, size_al]; omega))
            obtain ⟨_, c0, c1, c2, c3, f0, f1, f2, f3⟩ := GA.out
            clear hb
            go_wp2
            have G2 := GA.out.set 0 0 0 0
            exact bodyPost_ret (v := .tuple #[.agg #[.int .u64 0, .int .u64 0, .int .u64 0, .int .u64 0], .int .i64 0, .bool false]) (by simp [results, Tryz.results200, go_sem, G2.c0, G2.c1, G2.c2, G2.c3]) rfl ⟨rfl, bel_set4 B.out (Nat.le_refl _) _ _ _ _⟩
          · rw [ec] at C F
            rw [if_pos rfl] at F
            rw [F.out]
            simp only [gotG]
            clear F hx0 ec
            go_enter Tryz.func200, Tryz.ntmps200
            go_wp2_with fail
            with_reducible refine (G1.out _ (R1.out _)).mono ?_
            rintro e w1 ⟨rfl, rfl⟩
            go_wp2_with fail
            with_reducible refine (G2.out _ (R1.out _)).mono ?_
            rintro e w1 ⟨rfl, rfl⟩
            go_wp2_with fail
            with_reducible refine (T1.out _ (R2.out _ _)).mono ?_
            rintro e w1 ⟨rfl, rfl⟩
            go_wp2_with fail
            with_reducible refine (T2.out _ (R2.out _ _)).mono ?_
            rintro e w1 ⟨rfl, rfl⟩
            go_wp2_with fail
            with_reducible refine (C.out _).mono ?_
            rintro e w1 ⟨rfl, hb⟩
            have GA : Hid (GBox w1 w.heap.size 0 0 0 0) := (GBox.new1 w _ _ 0 0 0 0).below hb (by simp [go_sem])
            have GB : Hid (GBox w1 (w.heap.size + 1) x m lo hi) := (GBox.new2 w _ _ x m lo hi).below hb (by simp [go_sem])
            have B : Hid (Below w.heap.size w w1) := (bel2 w _ _).trans (hb.mono (by rw [size_al, size_al]; omega))
            obtain ⟨_, c0, c1, c2, c3, f0, f1, f2, f3⟩ := GA.out
            obtain ⟨_, d0, d1, d2, d3, _, _, _, _⟩ := GB.out
            clear hb
            go_wp2
            have G2 := GA.out.set x m lo hi
            exact bodyPost_ret (v := .tuple #[.agg #[.int .u64 x, .int .u64 m, .int .u64 lo, .int .u64 hi], .int .i64 (u + 16), .bool true]) (by simp [results, Tryz.results200, go_sem, G2.c0, G2.c1, G2.c2, G2.c3]) rfl ⟨rfl, bel_set4 B.out (Nat.le_refl _) _ _ _ _⟩
set_option maxHeartbeats 1000000 in
theorem eight_any (v : Int) (w : World) (hv : Word v) :
    Calls Tryz.prog 205 #[.int .u64 v] w fun e w' => ∃ a' cap', e = .returned (.slice a' 8 cap') ∧ Mine w' w.heap.size a' 8 cap' (b8 v 8) ∧ Below w.heap.size w w' := by
  obtain ⟨i0, hi, hz0, hz1, hz2⟩ := info_parts Tryz.info5
  obtain ⟨v0, v1⟩ := hv
  go_enter Tryz.func205, Tryz.ntmps205
  go_wp2
  go_loopw [3, 4] (fun b i wr => ∃ (ar : Option Addr) (capr : Nat) (j : Nat), b = .slice ar j capr ∧ i = .int .i64 j ∧ j ≤ 8 ∧ Hid (Mine wr w.heap.size ar j capr (b8 v j)) ∧ Hid (Below w.heap.size w wr)) (fun _ i _ => 8 - (intOf i).toNat)
  case atStart => exact ⟨none, 0, 0, rfl, rfl, by omega, own_nil _ _ _ _, Below.refl _ _⟩
  case round =>
    obtain ⟨ar, capr, j, rfl, rfl, hj, HR, HW⟩ := hrel
    by_cases hu : j < 8
    · have i1 : (j : Int) < 8 := by omega
      obtain ⟨z, hz⟩ : ∃ z : Int, Hid (v / 2 ^ (8 * j) % 256 = z) := ⟨_, rfl⟩
      have zb : 0 ≤ z ∧ z ≤ 255 := by rw [← hz.out]; omega
      have hzz := hz.out
      have HO := hide (one_row (k := .u8) wr z (wf_of_u8 zb.1 zb.2) 5 (0, 0))
      have HSA : Hid (Src 5 .u8 (wr.alloc (.cells #[.int .u8 z] 5)) w.heap.size ar j capr (b8 v j)) := Or.inl (HR.out.alloc _)
      have HBW : Hid (w.heap.size ≤ (wr.alloc (.cells #[.int .u8 z] 5)).heap.size) := by
        have := HW.out.size
        show _ ≤ _
        simp; omega
      clear zb
      go_wp2_with (at_builtin; rw [hzz]; refine wpList_append_one _ rfl _ _ 40 rfl w.heap.size 5 i0 Tryz.underlying40 hi hz0 hz1 hz2 ar j capr _ rfl HSA.out _ 1 z rfl HO.out (by omega) HBW.out ?_)
      intro a' cap' w' h1 h2
      have HF : Hid (Mine w' w.heap.size a' (j + 1) cap' (b8 v (j + 1)) ∧ Below w.heap.size w w') := by
        refine ⟨?_, (HW.out.alloc HW.out.size _).trans h2⟩
        rw [b8, hz.out]; exact h1
      clear h1 h2 HR HW HSA HO HBW hzz
      go_wp2
      go_roundw
      case rel => exact ⟨a', cap', j + 1, rfl, by go_num, by omega, HF.out.1, HF.out.2⟩
      case measure => simp [intOf]; omega
    · have hj8 : j = 8 := by omega
      subst hj8
      have i1 : ¬ ((8 : Nat) : Int) < 8 := by omega
      go_wp2
      go_ret
      exact ⟨ar, capr, rfl, HR.out, HW.out⟩

theorem wp_append_mine {P : Program} {w : World} {o : Oper} {a : Act} {K : Act → World → Prop} {Q : Exit → Act → World → Prop} (s x : Operand) (t : TypeId)
    (ho : o.op = .call { callee := .builtin .append, args := #[s, x], argTypes := #[t, t] })
    (base : Nat) (e : TypeId) (i : TypeInfo) (ht : P.underlying t = some (.slice e)) (hi : P.info? e = some i) (hz : i.zero = some (.int .u8 0)) (hsize : i.size = 1) (hby : i.bytes = 1)
    (ao : Option Addr) (n cap : Nat) (zs : List Int) (hs : a.eval s = .slice ao n cap) (hown : Own e .u8 w base ao n cap zs)
    (ax : Option Addr) (m c : Nat) (news : List Int) (hx : a.eval x = .slice ax m c) (hm : 0 < m) (hrow : Row .u8 w ax m news)
    (hbytes : n + m ≤ 1000) (hbase : base ≤ w.heap.size)
    (h : ∀ a' cap' w', Own e .u8 w' base a' (n + m) cap' (zs ++ news) → Below base w w' → K (a.put o.dst (.slice a' (n + m) cap')) w') : o.wp P a w K Q := by
  obtain ⟨ad, rfl⟩ : ∃ ad, ax = some ad := by
    cases ax with
    | none => have := hrow.nz rfl; omega
    | some ad => exact ⟨ad, rfl⟩
  refine wp_append_own w s x t ho base e i (.int .u8 0) 1 1 ht hi hz hsize hby rfl (by decide) _ n (zs.map (Value.int .u8)) hs hown ad m c (news.map (Value.int .u8)) hx (by simp [hrow.1]) hrow.cells (one_cell .u8 news) (by unfold maxLen; omega) (by omega) hbase ?_
  intro v' w' h1 h2 _
  rw [← List.map_append] at h1
  obtain ⟨a', cap', rfl, h3⟩ := own_form h1
  exact h a' cap' w' h3 ((Below.refl _ _).grown h2 hbase (own_block hown))

set_option maxHeartbeats 2000000 in
theorem refgput_any (g : Gz) (w : World) (hg : GW g) :
    Calls Tryz.prog 132 #[(Value.agg #[.int .u64 (Gz.n g), .int .u64 (Gz.nans g), .int .u64 (Gz.lo g), .int .u64 (Gz.hi g)])] w fun e w' => ∃ a' cap', e = .returned (.slice a' (putG g).length cap') ∧ Mine w' w.heap.size a' (putG g).length cap' (putG g) ∧ Below w.heap.size w w' := by
  obtain ⟨i0, hi, hz0, hz1, hz2⟩ := info_parts Tryz.info5
  obtain ⟨w0, hw0⟩ : ∃ w0, Hid (w.alloc (.cells #[.int .u64 g.n, .int .u64 g.nans, .int .u64 g.lo, .int .u64 g.hi] 27) = w0) := ⟨_, rfl⟩
  have G : Hid (GBox w0 w.heap.size g.n g.nans g.lo g.hi) := by rw [← hw0.out]; exact GBox.new w _ _ _ _ _
  have Z0 : Hid (w.heap.size + 1 ≤ w0.heap.size) := G.out.lt
  have S0 : Hid (((World.cell? w0.drew ⟨w.heap.size, 0, none⟩ = some (.int .u64 (Gz.n g))) ∧ (World.cell? w0.drew ⟨w.heap.size, 1, none⟩ = some (.int .u64 (Gz.nans g))) ∧ (World.cell? w0.drew ⟨w.heap.size, 2, none⟩ = some (.int .u64 (Gz.lo g))) ∧ (World.cell? w0.drew ⟨w.heap.size, 3, none⟩ = some (.int .u64 (Gz.hi g)))) ∧ Hid (Below (w.heap.size + 1) w0 w0.drew)) := ⟨G.out.drew.gc, (Below.refl _ _).drew⟩
  have B0 : Hid (Below w.heap.size w w0) := by rw [← hw0.out]; exact (Below.refl _ _).alloc (Nat.le_refl _) _
  obtain ⟨PM, hPM⟩ : ∃ PM, Hid (putS g.nans = PM) := ⟨_, rfl⟩
  obtain ⟨PN, hPN⟩ : ∃ PN, Hid (putS g.n = PN) := ⟨_, rfl⟩
  obtain ⟨lm, hlm⟩ : ∃ l, Hid (PM.length = l) := ⟨_, rfl⟩
  obtain ⟨ln, hln⟩ : ∃ l, Hid (PN.length = l) := ⟨_, rfl⟩
  have hm1 : 1 ≤ lm ∧ lm ≤ 10 := by rw [← hlm.out, ← hPM.out]; exact putS_len _
  have hn1 : 1 ≤ ln ∧ ln ≤ 10 := by rw [← hln.out, ← hPN.out]; exact putS_len _
  have BN : Hid (Bytes8 PN) := by rw [← hPN.out]; exact putS_byte hg.n
  have P1 := hide (fun W => refput_any g.nans W hg.nans)
  have P2 := hide (fun W => refput_any g.n W hg.n)
  rw [hPM.out, hlm.out] at P1
  rw [hPN.out, hln.out] at P2
  have Q1 := hide (fun W => eight_any g.lo W hg.lo)
  have Q2 := hide (fun W => eight_any g.hi W hg.hi)
  have HE : Hid (putG g = PM ++ PN ++ (if g.n = 0 then [] else b8 g.lo 8 ++ b8 g.hi 8)) := by
    show _ = _
    unfold putG; rw [hPM.out, hPN.out, List.append_assoc]
  have hl8 := b8_len g.lo 8
  have hh8 := b8_len g.hi 8
  have BL := hide (b8_byte g.lo 8)
  have BH := hide (b8_byte g.hi 8)
  have hgn := hg.n.1
  clear hg G hPM hPN
  generalize putG g = PG at HE ⊢
  generalize b8 g.lo 8 = BLO at *
  generalize b8 g.hi 8 = BHI at *
  go_enter Tryz.func132, Tryz.ntmps132
  go_upto_region 1 with fail
  rw [hw0.out]
  clear hw0
  obtain ⟨k, hk⟩ : ∃ k, Hid (w.heap.size = k) := ⟨_, rfl⟩
  rw [hk.out] at S0 Z0
  rw [hk.out]
  go_cut [3] (fun x wx => ∃ a1 c1, x = .slice a1 (lm + ln) c1 ∧ Hid (Mine wx (k + 1) a1 (lm + ln) c1 (PM ++ PN)) ∧ Hid (((World.cell? wx ⟨k, 0, none⟩ = some (.int .u64 (Gz.n g))) ∧ (World.cell? wx ⟨k, 1, none⟩ = some (.int .u64 (Gz.nans g))) ∧ (World.cell? wx ⟨k, 2, none⟩ = some (.int .u64 (Gz.lo g))) ∧ (World.cell? wx ⟨k, 3, none⟩ = some (.int .u64 (Gz.hi g)))) ∧ Hid (Below (k + 1) w0 wx)))
  case first =>
    go_region_held3 (fun w' => ((World.cell? w' ⟨k, 0, none⟩ = some (.int .u64 (Gz.n g))) ∧ (World.cell? w' ⟨k, 1, none⟩ = some (.int .u64 (Gz.nans g))) ∧ (World.cell? w' ⟨k, 2, none⟩ = some (.int .u64 (Gz.lo g))) ∧ (World.cell? w' ⟨k, 3, none⟩ = some (.int .u64 (Gz.hi g)))) ∧ Hid (Below (k + 1) w0 w')) (first | exact S0.out | exact keepH Z0 (by assumption) (by assumption) | exact keepG (by assumption) (by assumption)) (first
      | (go_at_call 58; with_reducible refine (P1.out _).mono ?_; rintro e v1 ⟨a1, c1, rfl, o1, b1⟩; have O1 := hide o1; have z1 := hide (Nat.le_trans Z0.out b1.size))
      | (go_at_call 58; with_reducible refine (P2.out _).mono ?_; rintro e v2 ⟨a2, c2, rfl, o2, b2⟩; have O2 := hide (o2.row (by omega) (fits_wf BN.out)); have O1' := hide ((O1.out.mono Z0.out).below b2 (Nat.le_refl _)); have z2 := hide (Nat.le_trans z1.out b2.size))
      | (refine wp_append_mine _ _ 40 rfl (k + 1) 5 i0 Tryz.underlying40 hi hz0 hz1 hz2 a1 lm c1 PM rfl O1'.out a2 ln c2 PN rfl (by omega) O2.out (by omega) z2.out ?_; intro a3 c3 v3 o3 b3; have O3 := hide o3))
    go_wp2_with fail
    go_meet
    case rel => exact ⟨a3, c3, rfl, O3, by assumption⟩
  case rest =>
    obtain ⟨a1, c1, rfl, O1, S1⟩ := hcut
    have f0 := S1.out.1.1
    have HBW : Hid (Below w.heap.size w wc) := by
      rw [hk.out] at B0 ⊢
      exact B0.out.trans (S1.out.2.out.mono (Nat.le_succ _))
    by_cases h0 : g.n = 0
    · have i0 : ¬ 0 < g.n := by omega
      have hE := HE.out
      rw [if_pos h0, List.append_nil] at hE
      have hL : PG.length = lm + ln := by rw [hE, List.length_append, hlm.out, hln.out]
      have hO : Hid (Mine wc w.heap.size a1 (lm + ln) c1 PG) := by rw [hE]; exact O1.out.mono (by rw [hk.out]; omega)
      clear hE HE h0 P1 P2 Q1 Q2 O1
      go_wp2
      go_ret
      try rw [hL]
      exact ⟨a1, c1, rfl, hO.out, HBW.out⟩
    · have i0' : 0 < g.n := by omega
      have S2 : Hid (((World.cell? wc.drew ⟨k, 0, none⟩ = some (.int .u64 (Gz.n g))) ∧ (World.cell? wc.drew ⟨k, 1, none⟩ = some (.int .u64 (Gz.nans g))) ∧ (World.cell? wc.drew ⟨k, 2, none⟩ = some (.int .u64 (Gz.lo g))) ∧ (World.cell? wc.drew ⟨k, 3, none⟩ = some (.int .u64 (Gz.hi g)))) ∧ Hid (Below (k + 1) w0 wc.drew)) := ⟨S1.out.1, S1.out.2.out.drew⟩
      have O1d : Hid (Mine wc.drew (k + 1) a1 (lm + ln) c1 (PM ++ PN)) := O1.out.drew
      have Z1 : Hid (k + 1 ≤ wc.drew.heap.size) := Nat.le_trans Z0.out S1.out.2.out.size
      have hE := HE.out
      rw [if_neg h0] at hE
      have hL : PG.length = lm + ln + 16 := by rw [hE]; simp only [List.length_append]; rw [hlm.out, hln.out, hl8, hh8]
      have hE2 : PM ++ PN ++ BLO ++ BHI = PG := by rw [hE]; simp only [List.append_assoc]
      clear hE HE h0 P1 P2 O1
      go_upto_region 3 with fail
      go_cut [3] (fun x wx => ∃ a1 c1, x = .slice a1 (lm + ln + 16) c1 ∧ Hid (Mine wx (k + 1) a1 (lm + ln + 16) c1 PG) ∧ Hid (((World.cell? wx ⟨k, 0, none⟩ = some (.int .u64 (Gz.n g))) ∧ (World.cell? wx ⟨k, 1, none⟩ = some (.int .u64 (Gz.nans g))) ∧ (World.cell? wx ⟨k, 2, none⟩ = some (.int .u64 (Gz.lo g))) ∧ (World.cell? wx ⟨k, 3, none⟩ = some (.int .u64 (Gz.hi g)))) ∧ Hid (Below (k + 1) w0 wx)))
      case first =>
        go_region_held3 (fun w' => ((World.cell? w' ⟨k, 0, none⟩ = some (.int .u64 (Gz.n g))) ∧ (World.cell? w' ⟨k, 1, none⟩ = some (.int .u64 (Gz.nans g))) ∧ (World.cell? w' ⟨k, 2, none⟩ = some (.int .u64 (Gz.lo g))) ∧ (World.cell? w' ⟨k, 3, none⟩ = some (.int .u64 (Gz.hi g)))) ∧ Hid (Below (k + 1) w0 w')) (first | exact S2.out | exact keepH Z0 (by assumption) (by assumption) | exact keepG (by assumption) (by assumption)) (first
          | (go_at_call 205; with_reducible refine (Q1.out _).mono ?_; rintro e v1 ⟨a2, c2, rfl, o1, b1⟩; have O2 := hide (o1.row (by omega) (fits_wf BL.out)); have O1' := hide (O1d.out.below b1 (Nat.le_refl _)); have z1 := hide (Nat.le_trans Z1.out b1.size))
          | (refine wp_append_mine _ _ 40 rfl (k + 1) 5 i0 Tryz.underlying40 hi hz0 hz1 hz2 a1 (lm + ln) c1 (PM ++ PN) rfl O1'.out a2 8 c2 BLO rfl (by omega) O2.out (by omega) z1.out ?_; intro a3 c3 v3 o3 b3; have O3 := hide o3; have z3 := hide (Nat.le_trans z1.out b3.size))
          | (go_at_call 205; with_reducible refine (Q2.out _).mono ?_; rintro e v4 ⟨a4, c4, rfl, o4, b4⟩; have O4 := hide (o4.row (by omega) (fits_wf BH.out)); have O3' := hide (O3.out.below b4 (Nat.le_refl _)); have z4 := hide (Nat.le_trans z3.out b4.size))
          | (refine wp_append_mine _ _ 40 rfl (k + 1) 5 i0 Tryz.underlying40 hi hz0 hz1 hz2 a3 (lm + ln + 8) c3 (PM ++ PN ++ BLO) rfl O3'.out a4 8 c4 BHI rfl (by omega) O4.out (by omega) z4.out ?_; intro a5 c5 v5 o5 b5; rw [hE2] at o5; have O5 := hide o5))
        go_wp2_with fail
        go_meet
        case rel => exact ⟨a5, c5, rfl, O5, by assumption⟩
      case rest =>
        obtain ⟨a4, c4, rfl, O4, S4⟩ := hcut
        clear HBW S2 O1d Z1 f0 S1 Q1 Q2
        have HBW : Hid (Below w.heap.size w wc) := by
          rw [hk.out] at B0 ⊢
          exact B0.out.trans (S4.out.2.out.mono (Nat.le_succ _))
        have hO : Hid (Mine wc w.heap.size a4 (lm + ln + 16) c4 PG) := O4.out.mono (by rw [hk.out]; omega)
        clear O4 S4
        go_wp2
        go_ret
        try rw [hL]
        exact ⟨a4, c4, rfl, hO.out, HBW.out⟩
section
variable {w : World} {k : Nat} {n m lo hi : Int}
end
section
variable {w W W' : World} {g A V : Nat} {a : Option Addr} {n cap : Nat} {p p' : Int} {bad bad' : Bool} {x : Gz}
end

def putP (s : Sp) : List Int := putH s.hist ++ (putR s.keys ++ putG s.g)
def getP (zs : List Int) (p : Int) : Option (Sp × Int) :=
  match dGet zs p with
  | none => none
  | some (l, q) => match riseS zs q 1024 with
    | none => none
    | some (ks, r) => match getG zs r with
      | none => none
      | some (g, t) => some (⟨l, ks, g⟩, t)
theorem putRk_len (l : List Int) : (putR l).length ≤ 10 * l.length + 10 := by
  have h1 := (putS_len (l.length : Int)).2
  have h2 := (riseB_len 18446744073709551615 l).2
  unfold putR
  rw [List.length_append]; omega
theorem putP_len {s : Sp} (a : Ok s) : 1 ≤ (putP s).length ∧ (putP s).length ≤ 100000 := by
  have h1 := putH_len a.h
  have h2 := good_size a.h
  have h3 := putRk_len s.keys
  have h4 := (chk_up a.k).2
  have h5 := putG_len s.g
  unfold putP
  rw [List.length_append, List.length_append]
  omega
theorem putP_byte {s : Sp} (a : Ok s) : Bytes8 (putP s) :=
  Bytes8.append (putH_byte a.h) (Bytes8.append (putR_byte (by have := (chk_up a.k).2; omega)) (putG_byte a.g))
/-- A sketch that may be, behind any bytes, is got back. -/
theorem getP_back {s : Sp} (a : Ok s) (xs : List Int) : getP (xs ++ putP s) xs.length = some (s, ((xs.length + (putP s).length : Nat) : Int)) := by
  have hk := chk_up a.k
  have e1 := dGet_at a.h xs (putR s.keys ++ putG s.g)
  have e2 := riseS_most (most := 1024) (by omega) (by omega) (up_rises hk.1 (fun x hx => by have := (a.w x hx).1; omega)) a.w (xs ++ putH s.hist) (putG s.g)
  have e3 := getG_back a.g a.c (xs ++ (putH s.hist ++ putR s.keys))
  have q1 : xs ++ putP s = xs ++ (putH s.hist ++ (putR s.keys ++ putG s.g)) := rfl
  have q2 : xs ++ putP s = xs ++ putH s.hist ++ (putR s.keys ++ putG s.g) := by unfold putP; rw [List.append_assoc]
  have q3 : xs ++ putP s = xs ++ (putH s.hist ++ putR s.keys) ++ putG s.g := by unfold putP; simp only [List.append_assoc]
  rw [← q1] at e1
  rw [← q2, List.length_append] at e2
  rw [← q3, List.length_append, List.length_append] at e3
  unfold getP
  rw [e1]
  simp only
  rw [e2]
  simp only
  rw [show ((xs.length + (putH s.hist).length + (putR s.keys).length : Nat) : Int) = ((xs.length + ((putH s.hist).length + (putR s.keys).length) : Nat) : Int) by omega, e3]
  simp only [Option.some.injEq, Prod.mk.injEq]
  refine ⟨trivial, ?_⟩
  unfold putP
  simp only [List.length_append]
  omega
/-- What is got lies within the bytes. -/
theorem dGet_in {zs : List Int} (hz : Bytes8 zs) {p e : Int} {l : Bks} (h : dGet zs p = some (l, e)) : Good l ∧ 0 ≤ e ∧ e ≤ zs.length := by
  have L := dGet_lies hz h
  refine ⟨L.1, ?_⟩
  obtain ⟨xs, ys, rfl, rfl, rfl⟩ := L.parts
  simp only [List.length_append]
  omega
theorem rise_in {zs : List Int} (hz : Bytes8 zs) {p e : Int} {l : List Int} (h : riseS zs p 1024 = some (l, e)) : (∀ x ∈ l, W64 x) ∧ l.length ≤ 1024 ∧ 0 ≤ e ∧ e ≤ zs.length := by
  obtain ⟨_, h2, h3, _, k, _, h5, h6, _⟩ := riseS_back hz h
  exact ⟨h2, by omega, by omega, h6⟩

theorem hput0_any (a : Option Addr) (n cap : Nat) (l : Bks) (w : World) (hr : RowB w a n l) (hc : n ≤ cap) (hg : Good l) :
    Calls Tryz.prog 189 #[.slice none 0 0, .slice a n cap] w fun e w' => ∃ a' c', e = .returned (.slice a' (putH l).length c') ∧ Mine w' w.heap.size a' (putH l).length c' (putH l) ∧ Below w.heap.size w w' := by
  refine (hput_any none 0 0 [] a n cap l w (nil_row _ _ _) hr hc (by have := good_size hg; rw [hr.1] at this; omega) (by omega)).mono ?_
  rintro e w' ⟨a', m, c', Z, rfl, h1, h2, _, h4, _, h6⟩
  have hZ := h6 hg.check
  subst hZ
  subst h4
  rw [Nat.zero_add, List.nil_append] at h1
  exact ⟨a', c', by rw [Nat.zero_add], h1, h2⟩

theorem keepS {w0 v v' : World} {k B : Nat} {h : Hd} {g : Gz} (hb : Below v.heap.size v v') (q : ((World.cell? v ⟨k, 0, none⟩ = some (.slice (Hd.a h) (Hd.n h) (Hd.c h))) ∧ (World.cell? v ⟨k, 1, none⟩ = some (.slice (Hd.k h) (Hd.m h) (Hd.d h))) ∧ (World.cell? v ⟨k, 2, none⟩ = some (.int .u64 (Gz.n g))) ∧ (World.cell? v ⟨k, 3, none⟩ = some (.int .u64 (Gz.nans g))) ∧ (World.cell? v ⟨k, 4, none⟩ = some (.int .u64 (Gz.lo g))) ∧ (World.cell? v ⟨k, 5, none⟩ = some (.int .u64 (Gz.hi g)))) ∧ Hid (k < B ∧ B ≤ v.heap.size ∧ Below B w0 v)) : ((World.cell? v' ⟨k, 0, none⟩ = some (.slice (Hd.a h) (Hd.n h) (Hd.c h))) ∧ (World.cell? v' ⟨k, 1, none⟩ = some (.slice (Hd.k h) (Hd.m h) (Hd.d h))) ∧ (World.cell? v' ⟨k, 2, none⟩ = some (.int .u64 (Gz.n g))) ∧ (World.cell? v' ⟨k, 3, none⟩ = some (.int .u64 (Gz.nans g))) ∧ (World.cell? v' ⟨k, 4, none⟩ = some (.int .u64 (Gz.lo g))) ∧ (World.cell? v' ⟨k, 5, none⟩ = some (.int .u64 (Gz.hi g)))) ∧ Hid (k < B ∧ B ≤ v'.heap.size ∧ Below B w0 v') := by
  obtain ⟨⟨c0, c1, c2, c3, c4, c5⟩, l1, l2, l3⟩ := q
  have hl : k < v.heap.size := by omega
  exact ⟨⟨(hb.cell hl).trans c0, (hb.cell hl).trans c1, (hb.cell hl).trans c2, (hb.cell hl).trans c3, (hb.cell hl).trans c4, (hb.cell hl).trans c5⟩, l1, Nat.le_trans l2 hb.size, l3.trans (hb.mono l2)⟩

set_option maxHeartbeats 4000000 in
theorem pput_any (a : Option Addr) (n cap : Nat) (zs : List Int) (h : Hd) (s : Sp) (w : World) (hr : Row .u8 w a n zs) (hn : n ≤ 140737488355328) (q : SeeP w h s) (ok : Ok s) :
    Calls Tryz.prog 119 #[.slice a n cap, (Value.agg #[.slice (Hd.a h) (Hd.n h) (Hd.c h), .slice (Hd.k h) (Hd.m h) (Hd.d h), .int .u64 (Gz.n s.g), .int .u64 (Gz.nans s.g), .int .u64 (Gz.lo s.g), .int .u64 (Gz.hi s.g)])] w fun e w' => ∃ a' c', e = .returned (.slice a' (n + (putP s).length) c') ∧ Mine w' w.heap.size a' (n + (putP s).length) c' (zs ++ putP s) ∧ Below w.heap.size w w' := by
  have hP := putP_len ok
  have hh := putH_len ok.h
  have hs1 := good_size ok.h
  have hk1 := (chk_up ok.k).2
  have hR := putRk_len s.keys
  have hG := putG_len s.g
  have BY := hide (putP_byte ok)
  have BH := hide (putH_byte ok.h)
  have BR := hide (putR_byte (l := s.keys) (by omega))
  have HLm := hide (q.rk.1)
  obtain ⟨w0, hw0⟩ : ∃ w0, Hid (w.alloc (.cells #[.slice h.a h.n h.c, .slice h.k h.m h.d, .int .u64 s.g.n, .int .u64 s.g.nans, .int .u64 s.g.lo, .int .u64 s.g.hi] 29) = w0) := ⟨_, rfl⟩
  have B : Hid (SBox w0 w.heap.size h s.g) := by rw [← hw0.out]; exact SBox.new w _ _ _
  have L : Hid (Below w.heap.size w w0) := by rw [← hw0.out]; exact (Below.refl _ _).alloc (Nat.le_refl _) _
  have Q := hide (q.below L.out (Nat.le_refl _))
  have R0 := hide (hr.below L.out (Nat.le_refl _))
  have C1 := hide (fun W (x : SeeP W h s) => hput0_any h.a h.n h.c s.hist W x.rh x.hc ok.h)
  have C2 := hide (fun W a1 c1 (x : SeeP W h s) (y : Mine W w0.heap.size a1 (putH s.hist).length c1 (putH s.hist)) => kput_any a1 (putH s.hist).length c1 (putH s.hist) h.k h.m h.d s.keys W (by rw [x.rk.1] at hk1; omega) y.capped.1 (y.row (by omega) (fits_wf BH.out)) x.rk)
  have C3 := hide (fun W a2 c2 (y : Mine W w0.heap.size a2 ((putH s.hist).length + (putR s.keys).length) c2 (putH s.hist ++ putR s.keys)) => gput_any a2 ((putH s.hist).length + (putR s.keys).length) c2 (putH s.hist ++ putR s.keys) s.g W ok.g (by omega) (y.row (by omega) (fits_wf (Bytes8.append BH.out BR.out))))
  have EP : Hid ((putH s.hist ++ putR s.keys) ++ putG s.g = putP s) := by show _ = _; unfold putP; rw [List.append_assoc]
  have EL : Hid ((putH s.hist).length + (putR s.keys).length + (putG s.g).length = (putP s).length) := by show _ = _; unfold putP; simp only [List.length_append]; omega
  rw [EP.out, EL.out] at C3
  have CC := hide (fun W a3 c3 (x : Row .u8 W a n zs) (y : Row .u8 W a3 (putP s).length (putP s)) => concat_two a n cap zs a3 (putP s).length c3 (putP s) W x y (by omega) (by omega))
  obtain ⟨k, hk⟩ : ∃ k, Hid (w.heap.size = k) := ⟨_, rfl⟩
  rw [hk.out] at B
  have S0 : Hid (((World.cell? w0.drew ⟨k, 0, none⟩ = some (.slice (Hd.a h) (Hd.n h) (Hd.c h))) ∧ (World.cell? w0.drew ⟨k, 1, none⟩ = some (.slice (Hd.k h) (Hd.m h) (Hd.d h))) ∧ (World.cell? w0.drew ⟨k, 2, none⟩ = some (.int .u64 (Gz.n s.g))) ∧ (World.cell? w0.drew ⟨k, 3, none⟩ = some (.int .u64 (Gz.nans s.g))) ∧ (World.cell? w0.drew ⟨k, 4, none⟩ = some (.int .u64 (Gz.lo s.g))) ∧ (World.cell? w0.drew ⟨k, 5, none⟩ = some (.int .u64 (Gz.hi s.g)))) ∧ Hid (k < w0.heap.size ∧ w0.heap.size ≤ w0.drew.heap.size ∧ Below w0.heap.size w0 w0.drew)) := ⟨B.out.cells, B.out.lt, Nat.le_refl _, (Below.refl _ _).drew⟩
  have QD := hide Q.out.drew
  have RD := hide R0.out.drew
  have ZZ : Hid (w0.heap.size ≤ w0.drew.heap.size) := Nat.le_refl _
  obtain ⟨LH, hLH⟩ : ∃ x, Hid ((putH s.hist).length = x) := ⟨_, rfl⟩
  obtain ⟨LK, hLK⟩ : ∃ x, Hid ((putR s.keys).length = x) := ⟨_, rfl⟩
  obtain ⟨LP, hLP⟩ : ∃ x, Hid ((putP s).length = x) := ⟨_, rfl⟩
  rw [hLH.out] at C1 C2 C3
  rw [hLK.out] at C2 C3
  rw [hLP.out] at C3 CC hP
  rw [hLP.out]
  clear q hr ok EP EL hR hG hh hs1 hk1 B Q R0 HLm
  go_enter Tryz.func119, Tryz.ntmps119
  go_upto_region 1 with fail
  rw [hw0.out, hk.out]
  clear hw0
  go_region_held3 (fun w' => ((World.cell? w' ⟨k, 0, none⟩ = some (.slice (Hd.a h) (Hd.n h) (Hd.c h))) ∧ (World.cell? w' ⟨k, 1, none⟩ = some (.slice (Hd.k h) (Hd.m h) (Hd.d h))) ∧ (World.cell? w' ⟨k, 2, none⟩ = some (.int .u64 (Gz.n s.g))) ∧ (World.cell? w' ⟨k, 3, none⟩ = some (.int .u64 (Gz.nans s.g))) ∧ (World.cell? w' ⟨k, 4, none⟩ = some (.int .u64 (Gz.lo s.g))) ∧ (World.cell? w' ⟨k, 5, none⟩ = some (.int .u64 (Gz.hi s.g)))) ∧ Hid (k < w0.heap.size ∧ w0.heap.size ≤ w'.heap.size ∧ Below w0.heap.size w0 w')) (first | with_reducible exact S0.out | with_reducible exact keepS (by assumption) (by assumption)) (first
    | (go_at_call 189; with_reducible refine (C1.out _ QD.out).mono ?_; rintro e v1 ⟨a1, c1, rfl, o1, b1⟩; have O1 := hide (o1.mono ZZ.out); have Q1 := hide (QD.out.below b1 (Nat.le_refl _)); have R1 := hide (RD.out.below b1 (Nat.le_refl _)))
    | (go_at_call 188; with_reducible refine (C2.out _ _ _ Q1.out O1.out).mono ?_; rintro e v2 ⟨a2, c2, rfl, o2, b2⟩; have O2 := hide (o2.mono (Nat.le_trans ZZ.out b1.size)); have R2 := hide (R1.out.below b2 (Nat.le_refl _)))
    | (go_at_call 187; with_reducible refine (C3.out _ _ _ O2.out).mono ?_; rintro e v3 ⟨a3, c3, rfl, o3, b3⟩; have O3 := hide o3; have R3 := hide (R2.out.below b3 (Nat.le_refl _))))
  have L3 : Hid (Below w.heap.size w v3) := bel_to (bel_to (bel_to L.out.drew (Nat.le_refl _) b1) (Nat.le_refl _) b2) (Nat.le_refl _) b3
  have P3 := hide (O3.out.row (by omega) (fits_wf BY.out))
  clear b1 b2 b3 o1 o2 o3 O1 O2 O3 Q1 R1 R2 C1 C2 C3 S0 QD RD
  go_wp2_with fail
  with_reducible refine (CC.out _ _ _ R3.out P3.out).mono ?_
  rintro e v4 ⟨a4, c4, rfl, o4, b4⟩
  have O4 := hide (o4.mono L3.out.size)
  have L4 : Hid (Below w.heap.size w v4) := bel_to L3.out (Nat.le_refl _) b4
  clear o4 b4
  go_wp2
  go_ret
  exact ⟨a4, c4, rfl, O4.out, L4.out⟩

/-- What Get tells. -/
def GotS (r : Option (Sp × Int)) (w' : World) (e : Ending) : Prop :=
  match r with
  | none => e = .returned (.tuple #[.agg #[.slice none 0 0, .slice none 0 0, .int .u64 0, .int .u64 0, .int .u64 0, .int .u64 0], .int .i64 0, .bool false])
  | some q => ∃ h, e = .returned (.tuple #[(Value.agg #[.slice (Hd.a h) (Hd.n h) (Hd.c h), .slice (Hd.k h) (Hd.m h) (Hd.d h), .int .u64 (Gz.n q.1.g), .int .u64 (Gz.nans q.1.g), .int .u64 (Gz.lo q.1.g), .int .u64 (Gz.hi q.1.g)]), .int .i64 q.2, .bool true]) ∧ SeeP w' h q.1

/-- .. in memory of the call's own. -/
def GotSm (base : Nat) (r : Option (Sp × Int)) (w' : World) (e : Ending) : Prop :=
  match r with
  | none => e = .returned (.tuple #[.agg #[.slice none 0 0, .slice none 0 0, .int .u64 0, .int .u64 0, .int .u64 0, .int .u64 0], .int .i64 0, .bool false])
  | some q => ∃ h, e = .returned (.tuple #[(Value.agg #[.slice (Hd.a h) (Hd.n h) (Hd.c h), .slice (Hd.k h) (Hd.m h) (Hd.d h), .int .u64 (Gz.n q.1.g), .int .u64 (Gz.nans q.1.g), .int .u64 (Gz.lo q.1.g), .int .u64 (Gz.hi q.1.g)]), .int .i64 q.2, .bool true]) ∧ MadeP w' base h q.1

set_option maxHeartbeats 4000000 in
theorem pget_made (p : Int) (a : Option Addr) (n cap : Nat) (zs : List Int) (w : World) (hp : (Lit.int .i64 p).wf = true) (hc : n ≤ cap) (hr : Row .u8 w a n zs) :
    Calls Tryz.prog 127 #[.slice a n cap, .int .i64 p] w fun e w' => GotSm w.heap.size (getP zs p) w' e ∧ Below w.heap.size w w' := by
  have HZ : Hid (Bytes8 zs) := hr.bytes
  have hl := hr.1
  have hn := hr.2.1
  obtain ⟨w0, hw0⟩ : ∃ w0, Hid (w.alloc (.cells #[.slice none 0 0, .slice none 0 0, .int .u64 0, .int .u64 0, .int .u64 0, .int .u64 0] 29) = w0) := ⟨_, rfl⟩
  obtain ⟨x, hx⟩ : ∃ x, Hid (w.heap.size = x) := ⟨_, rfl⟩
  have A0 : Hid (SBox w0 x hd0 g0) := by rw [← hw0.out, ← hx.out]; exact SBox.new _ _ hd0 g0
  have L0 : Hid (Below w.heap.size w w0) := by rw [← hw0.out]; exact (Below.refl _ _).alloc (Nat.le_refl _) _
  have HX : Hid (w.heap.size ≤ x) := by rw [hx.out]; exact Nat.le_refl _
  have RR := hide (fun W (b : Below w.heap.size w W) => hr.below b (Nat.le_refl _))
  have C1 := hide (hget_any p a n cap zs w0 hp hc (RR.out _ L0.out))
  have C2 := hide (fun q (hq : (Lit.int .i64 q).wf = true) W (b : Below w.heap.size w W) => kget_any q a n cap zs W hq hc (RR.out _ b))
  have C3 := hide (fun q (hq : (Lit.int .i64 q).wf = true) W (b : Below w.heap.size w W) => gget_any q a n cap zs W hq hc (RR.out _ b))
  have ZR : Hid (∀ W, SBox W x hd0 g0 → Below w.heap.size w W → SBox (put6 W x hd0 g0) x hd0 g0 ∧ Below w.heap.size w (put6 W x hd0 g0)) := fun W q b => ⟨q.put hd0 g0, below_put b HX.out hd0 g0⟩
  dsimp only [hd0, g0] at ZR
  unfold put6 at ZR
  dsimp only at ZR
  clear hr hp
  cases h1 : dGet zs p with
  | none =>
    have EP : getP zs p = none := by unfold getP; rw [h1]
    rw [EP]
    rw [h1] at C1
    simp only [GotL] at C1
    simp only [GotSm]
    clear EP h1 C2 C3
    go_enter Tryz.func127, Tryz.ntmps127
    go_upto_region 1 with fail
    rw [hw0.out, hx.out]
    clear hw0 hx
    go_wp2_with fail
    with_reducible refine C1.out.mono ?_
    rintro e v1 ⟨rfl, b1⟩
    have L1 : Hid (Below w.heap.size w v1) := bel_to L0.out (Nat.le_refl _) b1
    have A1 := hide (A0.out.below b1 A0.out.lt)
    have F := hide (ZR.out _ A1.out L1.out)
    obtain ⟨_, ⟨d0, d1, d2, d3, d4, d5⟩, df⟩ := A1.out
    have f0 := df 0
    have f1 := df 1
    have f2 := df 2
    have f3 := df 3
    have f4 := df 4
    have f5 := df 5
    clear df b1
    dsimp only [hd0, g0] at d0 d1 d2 d3 d4 d5
    go_wp2
    obtain ⟨_, ⟨e0, e1, e2, e3, e4, e5⟩, _⟩ := F.out.1
    dsimp only at e0 e1 e2 e3 e4 e5
    exact bodyPost_ret (v := .tuple #[.agg #[.slice none 0 0, .slice none 0 0, .int .u64 0, .int .u64 0, .int .u64 0, .int .u64 0], .int .i64 0, .bool false]) (by simp [results, Tryz.results127, go_sem, e0, e1, e2, e3, e4, e5]) rfl ⟨rfl, F.out.2⟩
  | some q1 =>
    obtain ⟨l, nx⟩ := q1
    obtain ⟨hg, n0, n1⟩ := dGet_in HZ.out h1
    have GF := hide (good_fit hg)
    have GS := hide (good_size hg)
    rw [h1] at C1
    simp only [GotL] at C1
    have D2 := hide (C2.out nx (i64_wf (by omega) (by omega)))
    obtain ⟨LH, hLH⟩ : ∃ x, Hid (l.length = x) := ⟨_, rfl⟩
    rw [hLH.out] at C1 GS
    clear C2 n0 n1 hg
    cases h2 : riseS zs nx 1024 with
    | none =>
      have EP : getP zs p = none := by unfold getP; rw [h1]; simp only; rw [h2]
      rw [EP]
      rw [h2] at D2
      simp only [RiseP] at D2
      simp only [GotSm]
      clear EP h1 h2 C3
      go_enter Tryz.func127, Tryz.ntmps127
      go_upto_region 1 with fail
      rw [hw0.out, hx.out]
      clear hw0 hx
      go_wp2_with fail
      with_reducible refine C1.out.mono ?_
      rintro e v1 ⟨⟨a1, c1, rfl, _, _, _⟩, b1⟩
      have L1 : Hid (Below w.heap.size w v1) := bel_to L0.out (Nat.le_refl _) b1
      have A1 := hide (A0.out.below b1 A0.out.lt)
      clear b1 C1
      go_wp2_with fail
      with_reducible refine (D2.out _ L1.out).mono ?_
      rintro e v2 ⟨rfl, b2⟩
      have L2 : Hid (Below w.heap.size w v2) := bel_to L1.out (Nat.le_refl _) b2
      have A2 := hide (A1.out.below b2 A1.out.lt)
      have F := hide (ZR.out _ A2.out L2.out)
      obtain ⟨_, ⟨d0, d1, d2, d3, d4, d5⟩, df⟩ := A2.out
      have f0 := df 0
      have f1 := df 1
      have f2 := df 2
      have f3 := df 3
      have f4 := df 4
      have f5 := df 5
      clear df b2
      dsimp only [hd0, g0] at d0 d1 d2 d3 d4 d5
      go_wp2
      obtain ⟨_, ⟨e0, e1, e2, e3, e4, e5⟩, _⟩ := F.out.1
      dsimp only at e0 e1 e2 e3 e4 e5
      exact bodyPost_ret (v := .tuple #[.agg #[.slice none 0 0, .slice none 0 0, .int .u64 0, .int .u64 0, .int .u64 0, .int .u64 0], .int .i64 0, .bool false]) (by simp [results, Tryz.results127, go_sem, e0, e1, e2, e3, e4, e5]) rfl ⟨rfl, F.out.2⟩
    | some q2 =>
      obtain ⟨ks, ny⟩ := q2
      obtain ⟨kw, kl, n0, n1⟩ := rise_in HZ.out h2
      have KW := hide kw
      rw [h2] at D2
      simp only [RiseP] at D2
      have D3 := hide (C3.out ny (i64_wf (by omega) (by omega)))
      obtain ⟨LK, hLK⟩ : ∃ x, Hid (ks.length = x) := ⟨_, rfl⟩
      rw [hLK.out] at D2 kl
      clear C3 n0 n1 kw
      cases h3 : getG zs ny with
      | none =>
        have EP : getP zs p = none := by unfold getP; rw [h1]; simp only; rw [h2]; simp only; rw [h3]
        rw [EP]
        rw [h3] at D3
        simp only [gotG] at D3
        simp only [GotSm]
        clear EP h1 h2 h3
        go_enter Tryz.func127, Tryz.ntmps127
        go_upto_region 1 with fail
        rw [hw0.out, hx.out]
        clear hw0 hx
        go_wp2_with fail
        with_reducible refine C1.out.mono ?_
        rintro e v1 ⟨⟨a1, c1, rfl, _, _, _⟩, b1⟩
        have L1 : Hid (Below w.heap.size w v1) := bel_to L0.out (Nat.le_refl _) b1
        have A1 := hide (A0.out.below b1 A0.out.lt)
        clear b1 C1
        go_wp2_with fail
        with_reducible refine (D2.out _ L1.out).mono ?_
        rintro e v2 ⟨⟨a2, c2, rfl, _⟩, b2⟩
        have L2 : Hid (Below w.heap.size w v2) := bel_to L1.out (Nat.le_refl _) b2
        have A2 := hide (A1.out.below b2 A1.out.lt)
        clear b2 D2
        go_wp2_with fail
        with_reducible refine (D3.out _ L2.out).mono ?_
        rintro e v3 ⟨rfl, b3⟩
        have L3 : Hid (Below w.heap.size w v3) := bel_to L2.out (Nat.le_refl _) b3
        have A3 := hide (A2.out.below b3 A2.out.lt)
        clear b3 D3
        go_upto_region 8 with fail
        have L4 := hide (L3.out.alloc L3.out.size (.cells #[.int .u64 0, .int .u64 0, .int .u64 0, .int .u64 0] 27))
        have A4 := hide (A3.out.alloc (.cells #[.int .u64 0, .int .u64 0, .int .u64 0, .int .u64 0] 27))
        generalize v3.alloc (.cells #[.int .u64 0, .int .u64 0, .int .u64 0, .int .u64 0] 27) = v4 at L4 A4 ⊢
        have F := hide (ZR.out _ A4.out L4.out)
        obtain ⟨_, ⟨d0, d1, d2, d3, d4, d5⟩, df⟩ := A4.out
        have f0 := df 0
        have f1 := df 1
        have f2 := df 2
        have f3 := df 3
        have f4 := df 4
        have f5 := df 5
        clear df
        dsimp only [hd0, g0] at d0 d1 d2 d3 d4 d5
        go_wp2
        obtain ⟨_, ⟨e0, e1, e2, e3, e4, e5⟩, _⟩ := F.out.1
        dsimp only at e0 e1 e2 e3 e4 e5
        exact bodyPost_ret (v := .tuple #[.agg #[.slice none 0 0, .slice none 0 0, .int .u64 0, .int .u64 0, .int .u64 0, .int .u64 0], .int .i64 0, .bool false]) (by simp [results, Tryz.results127, go_sem, e0, e1, e2, e3, e4, e5]) rfl ⟨rfl, F.out.2⟩
      | some q3 =>
        obtain ⟨g, nz⟩ := q3
        have GG := hide (getG_some HZ.out h3)
        have EP : getP zs p = some (⟨l, ks, g⟩, nz) := by unfold getP; rw [h1]; simp only; rw [h2]; simp only; rw [h3]
        rw [EP]
        rw [h3] at D3
        simp only [gotG] at D3
        simp only [GotSm]
        clear EP h1 h2 h3
        go_enter Tryz.func127, Tryz.ntmps127
        go_upto_region 1 with fail
        rw [hw0.out, hx.out]
        clear hw0 hx
        go_wp2_with fail
        with_reducible refine C1.out.mono ?_
        rintro e v1 ⟨⟨a1, c1, rfl, o1, _, _⟩, b1⟩
        have L1 : Hid (Below w.heap.size w v1) := bel_to L0.out (Nat.le_refl _) b1
        have A1 := hide (A0.out.below b1 A0.out.lt)
        have O1 := hide o1
        have Z1 := hide b1.size
        clear b1 o1 C1
        go_wp2_with fail
        with_reducible refine (D2.out _ L1.out).mono ?_
        rintro e v2 ⟨⟨a2, c2, rfl, o2⟩, b2⟩
        have L2 : Hid (Below w.heap.size w v2) := bel_to L1.out (Nat.le_refl _) b2
        have A2 := hide (A1.out.below b2 A1.out.lt)
        have O2 := hide (O1.out.below b2 (Nat.le_refl _))
        have U2 := hide o2
        clear b2 o2 D2 O1
        go_wp2_with fail
        with_reducible refine (D3.out _ L2.out).mono ?_
        rintro e v3 ⟨rfl, b3⟩
        have L3 : Hid (Below w.heap.size w v3) := bel_to L2.out (Nat.le_refl _) b3
        have A3 := hide (A2.out.below b3 A2.out.lt)
        have O3 := hide (O2.out.below b3 (Nat.le_refl _))
        have U3 := hide (Own.below U2.out b3 (Nat.le_refl _))
        clear b3 D3 O2 U2
        go_upto_region 8 with fail
        obtain ⟨y, hy⟩ : ∃ y, Hid (v3.heap.size = y) := ⟨_, rfl⟩
        have BG := hide (GBox.new v3 27 g.n g.nans g.lo g.hi)
        have L4 := hide (L3.out.alloc L3.out.size (.cells #[.int .u64 g.n, .int .u64 g.nans, .int .u64 g.lo, .int .u64 g.hi] 27))
        have A4 := hide (A3.out.alloc (.cells #[.int .u64 g.n, .int .u64 g.nans, .int .u64 g.lo, .int .u64 g.hi] 27))
        have O4 := hide (O3.out.alloc (.cells #[.int .u64 g.n, .int .u64 g.nans, .int .u64 g.lo, .int .u64 g.hi] 27))
        have U4 := hide (Own.alloc U3.out (.cells #[.int .u64 g.n, .int .u64 g.nans, .int .u64 g.lo, .int .u64 g.hi] 27))
        generalize v3.alloc (.cells #[.int .u64 g.n, .int .u64 g.nans, .int .u64 g.lo, .int .u64 g.hi] 27) = v4 at BG L4 A4 O4 U4 ⊢
        rw [hy.out] at BG
        rw [hy.out]
        clear hy L3 A3 O3 U3
        obtain ⟨_, g0', g1', g2', g3', _, _, _, _⟩ := BG.out
        have F := hide (A4.out.put ⟨a1, LH, c1, a2, LK, c2⟩ g)
        have XW := hide A0.out.lt
        have M := hide (made_of (w := put6 v4 x ⟨a1, LH, c1, a2, LK, c2⟩ g) (base := w0.heap.size) (h := ⟨a1, LH, c1, a2, LK, c2⟩) (s := ⟨l, ks, g⟩) (ownb_put O4.out XW.out _ _) (Own.mono (ownu_put U4.out (Nat.lt_of_lt_of_le XW.out Z1.out) _ _) Z1.out) GF.out KW.out GG.out (by have := GS.out; show LH * 16 ≤ _; omega) (by show LK * 8 ≤ _; omega))
        have LF := hide (below_put L4.out HX.out ⟨a1, LH, c1, a2, LK, c2⟩ g)
        obtain ⟨_, ⟨d0, d1, d2, d3, d4, d5⟩, df⟩ := A4.out
        have f0 := df 0
        have f1 := df 1
        have f2 := df 2
        have f3 := df 3
        have f4 := df 4
        have f5 := df 5
        clear df
        dsimp only [hd0, g0] at d0 d1 d2 d3 d4 d5
        go_wp2
        obtain ⟨_, ⟨e0, e1, e2, e3, e4, e5⟩, _⟩ := F.out
        unfold put6 at e0 e1 e2 e3 e4 e5
        dsimp only at e0 e1 e2 e3 e4 e5
        exact bodyPost_ret (v := .tuple #[.agg #[.slice a1 LH c1, .slice a2 LK c2, .int .u64 g.n, .int .u64 g.nans, .int .u64 g.lo, .int .u64 g.hi], .int .i64 nz, .bool true]) (by simp [results, Tryz.results127, go_sem, e0, e1, e2, e3, e4, e5]) rfl ⟨⟨⟨a1, LH, c1, a2, LK, c2⟩, rfl, ⟨M.out.oh.mono L0.out.size, Own.mono M.out.ok L0.out.size, M.out.see⟩⟩, LF.out⟩
set_option linter.unusedVariables false
/-- What a record says: a write of a sketch, or a deletion. -/
inductive Bd where
  | write (l : List Lb) (at' : Int) (s : Sp)
  | del (m : Mt) (frm till : Int)
/-- A record. -/
structure Rc where
  seq : Int
  bd : Bd
def putBd : Bd → List Int
  | .write l a s => putS 1 ++ (putL l ++ (putS (zig a) ++ putP s))
  | .del m f t => putS 2 ++ (putB m ++ (putS (zig f) ++ putS (zig t)))
def putRc (r : Rc) : List Int := putS (zig r.seq) ++ putBd r.bd
/-- A number with a sign. -/
def getIS (zs : List Int) (p : Int) : Option (Int × Int) := (getS zs p).map fun x => (zag x.1, x.2)
/-- What stands from p on, to the end (D: by the document's reader of matchers). -/
def getWr (zs : List Int) (s p : Int) : Option Rc := match getL zs p with
  | none => none
  | some (l, p) => match getIS zs p with
    | none => none
    | some (a, p) => match getP zs p with
      | none => none
      | some (sk, p) => if p = zs.length then some ⟨s, .write l a sk⟩ else none
def getDe (D : Bool) (zs : List Int) (s p : Int) : Option Rc := match getZ zs D p with
  | none => none
  | some (m, p) => match getIS zs p with
    | none => none
    | some (f, p) => match getIS zs p with
      | none => none
      | some (t, p) => if p = zs.length then some ⟨s, .del m f t⟩ else none
def getRc (D : Bool) (zs : List Int) : Option Rc := match getIS zs 0 with
  | none => none
  | some (s, p) => match getS zs p with
    | none => none
    | some (k, p) => if k = 1 then getWr zs s p else if k = 2 then getDe D zs s p else none
/-- As a record may be. -/
def OkBd : Bd → Prop
  | .write l a s => (chkL l = true ∧ l.length ≤ 8 ∧ ∀ x ∈ l, x.1.size ≤ 32 ∧ x.2.size ≤ 64) ∧ (-9223372036854775808 ≤ a ∧ a ≤ 9223372036854775807) ∧ Ok s
  | .del m f t => chkM m = true ∧ (-9223372036854775808 ≤ f ∧ f ≤ 9223372036854775807) ∧ -9223372036854775808 ≤ t ∧ t ≤ 9223372036854775807
def OkRc (r : Rc) : Prop := (-9223372036854775808 ≤ r.seq ∧ r.seq ≤ 9223372036854775807) ∧ OkBd r.bd

theorem getIS_at {v : Int} (h : -9223372036854775808 ≤ v ∧ v ≤ 9223372036854775807) (xs ys : List Int) : getIS (xs ++ (putS (zig v) ++ ys)) xs.length = some (v, ((xs.length + (putS (zig v)).length : Nat) : Int)) := by
  unfold getIS
  rw [getS_at (zig_word h.1 h.2)]
  simp only [Option.map_some, zag_zig]
theorem rdL_mid (ys : List Int) : ∀ (l : List Lb) (xs : List Int), (∀ x ∈ l, x.1.size ≤ 32 ∧ x.2.size ≤ 64) → rdL (xs ++ (bodyL l ++ ys)) l.length xs.length = some (l, ((xs.length + (bodyL l).length : Nat) : Int))
  | [], xs, _ => by simp [rdL, bodyL]
  | x :: l, xs, h => by
    have hx := h x (by simp)
    have e0 : xs ++ (bodyL (x :: l) ++ ys) = xs ++ (putT (numsOf x.1) ++ (putT (numsOf x.2) ++ (bodyL l ++ ys))) := by
      rw [bodyL_cons]
      simp only [List.append_assoc]
    have e1 : textS (xs ++ (bodyL (x :: l) ++ ys)) xs.length 32 = some (numsOf x.1, ((xs.length + (putT (numsOf x.1)).length : Nat) : Int)) := by
      rw [e0]
      exact textS_more (textS_at (by rw [numsOf_len]; omega) xs _) (by rw [numsOf_len]; omega)
    have e2 : textS (xs ++ (bodyL (x :: l) ++ ys)) ((xs.length + (putT (numsOf x.1)).length : Nat) : Int) 64 = some (numsOf x.2, ((xs.length + (putT (numsOf x.1)).length + (putT (numsOf x.2)).length : Nat) : Int)) := by
      rw [e0, ← List.append_assoc, ← List.length_append]
      exact textS_more (textS_at (by rw [numsOf_len]; omega) _ _) (by rw [numsOf_len]; omega)
    have ih := rdL_mid ys l (xs ++ putT (numsOf x.1) ++ putT (numsOf x.2)) (fun y hy => h y (by simp [hy]))
    rw [List.length_cons, rdL_step e1 e2, e0]
    rw [show xs ++ (putT (numsOf x.1) ++ (putT (numsOf x.2) ++ (bodyL l ++ ys))) = xs ++ putT (numsOf x.1) ++ putT (numsOf x.2) ++ (bodyL l ++ ys) from by simp only [List.append_assoc]]
    rw [show ((xs.length + (putT (numsOf x.1)).length + (putT (numsOf x.2)).length : Nat) : Int) = (((xs ++ putT (numsOf x.1) ++ putT (numsOf x.2)).length : Nat) : Int) from by simp only [List.length_append], ih]
    simp only [Option.map_some, strOf_nums]
    congr 2
    rw [bodyL_cons]
    simp only [List.length_append]
    omega
theorem getL_mid {l : List Lb} (h : chkL l = true) (hl : l.length ≤ 8) (hx : ∀ x ∈ l, x.1.size ≤ 32 ∧ x.2.size ≤ 64) (xs ys : List Int) : getL (xs ++ (putL l ++ ys)) xs.length = some (l, ((xs.length + (putL l).length : Nat) : Int)) := by
  unfold getL putL
  rw [List.append_assoc, getS_at (w64_len (by omega)) xs (bodyL l ++ ys)]
  simp only
  rw [if_neg (by omega), Int.toNat_natCast, ← List.append_assoc, ← List.length_append, rdL_mid ys l _ hx, finL]
  simp only
  rw [if_pos h]
  congr 2
  simp only [List.length_append]
  omega
/-- What was put is got. -/
theorem getRc_back {r : Rc} (h : OkRc r) : getRc false (putRc r) = some r := by
  obtain ⟨s, b⟩ := r
  obtain ⟨h0, hb⟩ := h
  dsimp only at h0 hb
  unfold getRc putRc
  have e0 := getIS_at h0 [] (putBd b)
  rw [List.nil_append, List.length_nil, Nat.zero_add] at e0
  rw [show (0 : Int) = ((0 : Nat) : Int) from rfl, e0]
  dsimp only
  cases b with
  | write l a sk =>
    obtain ⟨⟨h1, h2, h3⟩, h4, h5⟩ := hb
    have e1 := getS_at (v := 1) ⟨by omega, by omega⟩ (putS (zig s)) (putL l ++ (putS (zig a) ++ putP sk))
    unfold putBd
    rw [e1]
    dsimp only
    rw [if_pos rfl]
    unfold getWr
    have e2 := getL_mid h1 h2 h3 (putS (zig s) ++ putS 1) (putS (zig a) ++ putP sk)
    have e3 := getIS_at h4 (putS (zig s) ++ (putS 1 ++ putL l)) (putP sk)
    have e4 := getP_back h5 (putS (zig s) ++ (putS 1 ++ (putL l ++ putS (zig a))))
    simp only [List.append_assoc, List.length_append] at e2 e3 e4
    rw [e2]
    dsimp only
    rw [Nat.add_assoc, e3]
    dsimp only
    rw [show (putS (zig s)).length + ((putS 1).length + (putL l).length) + (putS (zig a)).length = (putS (zig s)).length + ((putS 1).length + ((putL l).length + (putS (zig a)).length)) by omega, e4]
    dsimp only
    rw [if_pos (by simp only [List.length_append]; omega)]
  | del m f t =>
    obtain ⟨h1, h2, h3⟩ := hb
    have e1 := getS_at (v := 2) ⟨by omega, by omega⟩ (putS (zig s)) (putB m ++ (putS (zig f) ++ putS (zig t)))
    unfold putBd
    rw [e1]
    dsimp only
    rw [if_neg (by omega), if_pos rfl]
    unfold getDe
    have e2 := getZ_back h1 (putS (zig s) ++ putS 2) (putS (zig f) ++ putS (zig t))
    have e3 := getIS_at h2 (putS (zig s) ++ (putS 2 ++ putB m)) (putS (zig t))
    have e4 := getIS_at h3 (putS (zig s) ++ (putS 2 ++ (putB m ++ putS (zig f)))) []
    simp only [List.append_assoc, List.length_append, List.append_nil] at e2 e3 e4
    rw [e2]
    dsimp only
    rw [Nat.add_assoc, e3]
    dsimp only
    rw [show (putS (zig s)).length + ((putS 2).length + (putB m).length) + (putS (zig f)).length = (putS (zig s)).length + ((putS 2).length + ((putB m).length + (putS (zig f)).length)) by omega, e4]
    dsimp only
    rw [if_pos (by simp only [List.length_append]; omega)]

/-- A number in memory. -/
def BX (w : World) (g : Nat) (n : Int) : Prop := w.heap[g]? = some (.cells #[.int .i64 n] 3 (0, 0))
/-- A matcher's box. -/
def BoxM (w : World) (g : Nat) (h : Hm) : Prop := w.heap[g]? = some (.cells #[.int .i64 h.op, .string h.nm, .string h.vl, .slice h.va h.vn h.vc, .slice h.ka h.kn h.kc] 35 (0, 0))
section
variable {w w' : World} {g : Nat} {h : Hm}
end
def hm0 : Hm := ⟨0, ⟨#[]⟩, ⟨#[]⟩, none, 0, 0, none, 0, 0⟩

/-- What a record's cells show. -/
structure RecX where
  seq : Int
  kind : Int
  l : List Lb
  at9 : Int
  sk : Sp
  tseq : Int
  m : Mt
  frm : Int
  till : Int
/-- How its lists lie. -/
structure RecH where
  la : Option Addr
  ln : Nat
  lc : Nat
  sk : Hd
  m : Hm
def mt0 : Mt := .mk 0 ⟨#[]⟩ ⟨#[]⟩ [] []
def rx0 : RecX := ⟨0, 0, [], 0, zeroP, 0, mt0, 0, 0⟩
def rh0 : RecH := ⟨none, 0, 0, hd0, hm0⟩
/-- A list that lies in one of these blocks. -/
def inBl (S : Nat → Prop) (n : Nat) (a : Option Addr) : Prop := n = 0 ∨ ∀ p, a = some p → S p.block
/-- A row of a store that lies in memory: labels and a sketch. -/
structure SeeW (S : Nat → Prop) (w : World) (x : RecX) (h : RecH) : Prop where
  rl : RowL w h.la h.ln x.l
  lc : h.ln ≤ h.lc
  lz : h.la = none → h.lc = 0
  il : inBl S h.ln h.la
  wat : (Lit.int .i64 x.at9).wf = true
  sk : SeeP w h.sk x.sk
  ih : inBl S h.sk.n h.sk.a
  ik : inBl S h.sk.m h.sk.k
/-- A deletion that lies in memory. -/
structure SeeD (S : Nat → Prop) (w : World) (x : RecX) (h : RecH) : Prop where
  wts : (Lit.int .i64 x.tseq).wf = true
  m : SeeM S w x.m h.m
  wfr : (Lit.int .i64 x.frm).wf = true
  wti : (Lit.int .i64 x.till).wf = true
/-- A record that lies in memory. -/
structure SeeR (S : Nat → Prop) (w : World) (x : RecX) (h : RecH) : Prop where
  wsq : (Lit.int .i64 x.seq).wf = true
  wkd : (Lit.int .i64 x.kind).wf = true
  row : SeeW S w x h
  del : SeeD S w x h
section
variable {S S' : Nat → Prop} {w w' : World} {B : Nat} {x : RecX} {h : RecH} {C : Nat → Prop}
theorem inBl.mono {n : Nat} {a : Option Addr} (q : inBl S n a) (hs : ∀ k, S k → S' k) : inBl S' n a := by
  rcases q with q | q
  · exact Or.inl q
  · exact Or.inr fun p e => hs _ (q p e)
theorem wcell_ch {b : Nat} {o : Nat} {v : Value} (c : Ch C w w') (hn : ¬ C b) (q : w.cell? ⟨b, o, none⟩ = some v) : w'.cell? ⟨b, o, none⟩ = some v := by
  have hlt : b < w.heap.size := World.block_lt_of_cell? w _ q
  simp only [World.cell?] at q ⊢
  rw [c.block b hlt hn]
  exact q
theorem RowL.ch' {a : Option Addr} {n : Nat} {l : List Lb} (q : RowL w a n l) (c : Ch C w w') (i : inBl S n a) (hn : ∀ k, S k → ¬ C k) : RowL w' a n l := by
  obtain ⟨h1, h2, h3, h4⟩ := q
  refine ⟨h1, h2, h3, ?_⟩
  rcases i with h0 | hi
  · exact Or.inl h0
  rcases h4 with h4 | ⟨b, off, rfl, hc⟩
  · exact Or.inl h4
  · exact Or.inr ⟨b, off, rfl, fun i y hy => ⟨wcell_ch c (hn b (hi _ rfl)) (hc i y hy).1, wcell_ch c (hn b (hi _ rfl)) (hc i y hy).2⟩⟩
theorem RowB.ch' {a : Option Addr} {n : Nat} {l : Bks} (q : RowB w a n l) (c : Ch C w w') (i : inBl S n a) (hn : ∀ k, S k → ¬ C k) : RowB w' a n l := by
  obtain ⟨h1, h2, h3, h4⟩ := q
  refine ⟨h1, h2, h3, ?_⟩
  rcases i with h0 | hi
  · exact Or.inl h0
  rcases h4 with h4 | ⟨b, off, rfl, hc⟩
  · exact Or.inl h4
  · exact Or.inr ⟨b, off, rfl, fun i hy => ⟨wcell_ch c (hn b (hi _ rfl)) (hc i hy).1, wcell_ch c (hn b (hi _ rfl)) (hc i hy).2⟩⟩
theorem Row.ch' {k : IntKind} {a : Option Addr} {n : Nat} {zs : List Int} (q : Row k w a n zs) (c : Ch C w w') (i : inBl S n a) (hn : ∀ k, S k → ¬ C k) : Row k w' a n zs := by
  obtain ⟨h1, h2, h3, h4⟩ := q
  refine ⟨h1, h2, h3, ?_⟩
  rcases i with h0 | hi
  · exact Or.inl h0
  rcases h4 with h4 | ⟨b, off, rfl, hc⟩
  · exact Or.inl h4
  · exact Or.inr ⟨b, off, rfl, fun i hy => wcell_ch c (hn b (hi _ rfl)) (hc i hy)⟩
theorem SeeP.ch' {h : Hd} {s : Sp} (q : SeeP w h s) (c : Ch C w w') (i : inBl S h.n h.a) (j : inBl S h.m h.k) (hn : ∀ k, S k → ¬ C k) : SeeP w' h s :=
  ⟨q.rh.ch' c i hn, q.rk.ch' c j hn, q.g, q.hc, q.kc, q.nh, q.nk, q.sh, q.sk⟩
theorem SeeW.ch (q : SeeW S w x h) (c : Ch C w w') (hn : ∀ k, S k → ¬ C k) : SeeW S w' x h :=
  ⟨q.rl.ch' c q.il hn, q.lc, q.lz, q.il, q.wat, q.sk.ch' c q.ih q.ik hn, q.ih, q.ik⟩
theorem SeeD.ch (q : SeeD S w x h) (c : Ch C w w') (hn : ∀ k, S k → ¬ C k) : SeeD S w' x h := ⟨q.wts, q.m.ch c hn, q.wfr, q.wti⟩
theorem SeeR.ch (q : SeeR S w x h) (c : Ch C w w') (hn : ∀ k, S k → ¬ C k) : SeeR S w' x h := ⟨q.wsq, q.wkd, q.row.ch c hn, q.del.ch c hn⟩
theorem SeeW.below (q : SeeW S w x h) (hb : Below B w w') (hB : w.heap.size ≤ B) : SeeW S w' x h :=
  ⟨q.rl.below hb hB, q.lc, q.lz, q.il, q.wat, q.sk.below hb hB, q.ih, q.ik⟩
theorem SeeD.below (q : SeeD S w x h) (hb : Below B w w') (hB : w.heap.size ≤ B) : SeeD S w' x h := ⟨q.wts, q.m.below (hb.mono hB), q.wfr, q.wti⟩
theorem SeeR.below (q : SeeR S w x h) (hb : Below B w w') (hB : w.heap.size ≤ B) : SeeR S w' x h := ⟨q.wsq, q.wkd, q.row.below hb hB, q.del.below hb hB⟩
theorem SeeW.mono (q : SeeW S w x h) (hs : ∀ k, S k → S' k) : SeeW S' w x h := ⟨q.rl, q.lc, q.lz, q.il.mono hs, q.wat, q.sk, q.ih.mono hs, q.ik.mono hs⟩
theorem SeeD.mono (q : SeeD S w x h) (hs : ∀ k, S k → S' k) : SeeD S' w x h := ⟨q.wts, q.m.mono (fun k _ => hs k), q.wfr, q.wti⟩
theorem SeeR.mono (q : SeeR S w x h) (hs : ∀ k, S k → S' k) : SeeR S' w x h := ⟨q.wsq, q.wkd, q.row.mono hs, q.del.mono hs⟩
theorem wseeM_zero (S : Nat → Prop) (w : World) : SeeM S w mt0 hm0 := by
  rw [seeM_iff]
  exact ⟨rfl, rfl, rfl, ⟨by decide, by decide, by decide, by decide, fun _ => rfl, by decide, by decide, fun _ => rfl⟩, ⟨rfl, by decide, (fun s hs => by cases hs), Or.inl rfl⟩, rfl, Or.inl rfl⟩
theorem wf_zero : (Lit.int .i64 0).wf = true := by decide
theorem seeD_zero (S : Nat → Prop) (w : World) (x : RecX) (h : RecH) (h1 : x.tseq = 0) (h2 : x.m = mt0) (h3 : x.frm = 0) (h4 : x.till = 0) (h5 : h.m = hm0) : SeeD S w x h := by
  obtain ⟨a, b, l, at9, sk, c, m, d, e⟩ := x
  obtain ⟨la, ln, lc, hs, hm⟩ := h
  dsimp only at *
  subst h1 h2 h3 h4 h5
  exact ⟨wf_zero, wseeM_zero S w, wf_zero, wf_zero⟩
end

/-- A box of cells that is the call's own. -/
def BoxV (w : World) (g : Nat) (t : TypeId) (cs : List Value) : Prop := w.heap[g]? = some (.cells cs.toArray t (0, 0))
/-- Cells written, one by one. -/
def setL (w : World) (g i : Nat) : List Value → World
  | [] => w
  | v :: vs => setL (w.setCell ⟨g, i, none⟩ v) g (i + 1) vs
section
variable {w w' : World} {g : Nat} {t : TypeId} {cs : List Value} {B : Nat}
theorem BoxV.lt (q : BoxV w g t cs) : g < w.heap.size := by
  unfold BoxV at q
  exact (Array.getElem?_eq_some_iff.1 q).1
theorem BoxV.cell (q : BoxV w g t cs) {i : Nat} {v : Value} (h : cs[i]? = some v) : w.cell? ⟨g, i, none⟩ = some v := by
  unfold BoxV at q
  simp [World.cell?, q, h]
theorem BoxV.free (q : BoxV w g t cs) (i : Nat) : w.frozen? ⟨g, i, none⟩ = false := by
  unfold BoxV at q
  simp [World.frozen?, q]
theorem BoxV.below (q : BoxV w g t cs) (hb : Below B w w') (hB : g < B) : BoxV w' g t cs := by
  unfold BoxV at *
  rw [hb.block g hB]
  exact q
theorem BoxV.ch {C : Nat → Prop} (q : BoxV w g t cs) (c : Ch C w w') (hn : ¬ C g) : BoxV w' g t cs := by
  have hl := q.lt
  unfold BoxV at *
  rw [c.block g hl hn]
  exact q
theorem BoxV.new (w : World) (t : TypeId) (cs : List Value) : BoxV (w.alloc (.cells cs.toArray t)) w.heap.size t cs := heap_alloc_new w _
theorem BoxV.set (q : BoxV w g t cs) (i : Nat) (v : Value) : BoxV (w.setCell ⟨g, i, none⟩ v) g t (cs.set i v) := by
  unfold BoxV at *
  simp [World.setCell, Array.getElem?_modify, q]
theorem BoxV.setL : ∀ (vs : List Value) (w : World) (i : Nat) (cs : List Value), BoxV w g t cs → i + vs.length ≤ cs.length → BoxV (setL w g i vs) g t (cs.take i ++ (vs ++ cs.drop (i + vs.length)))
  | [], w, i, cs, q, h => by simpa [Go.Proofs.YtknghoecjobkiaaGreatDoor.setL] using q
  | v :: vs, w, i, cs, q, h => by
    have ih := BoxV.setL vs _ (i + 1) _ (q.set i v) (by simp only [List.length_cons, List.length_set] at *; omega)
    have e : (cs.set i v).take (i + 1) ++ (vs ++ (cs.set i v).drop (i + 1 + vs.length)) = cs.take i ++ (v :: vs ++ cs.drop (i + (v :: vs).length)) := by
      have hi : i < cs.length := by simp only [List.length_cons] at h; omega
      rw [List.drop_set_of_lt (by omega), List.take_set, List.take_succ_eq_append_getElem hi, List.set_append_right _ _ (by rw [List.length_take]; omega), List.length_take, Nat.min_eq_left (by omega), Nat.sub_self]
      simp only [List.set_cons_zero, List.append_assoc, List.cons_append, List.nil_append, List.length_cons]
      rw [show i + 1 + vs.length = i + (vs.length + 1) by omega]
    rw [e] at ih
    exact ih
theorem below_setL {w0 : World} (hB : B ≤ g) : ∀ (vs : List Value) (w : World) (i : Nat), Below B w0 w → Below B w0 (setL w g i vs)
  | [], w, i, q => q
  | v :: vs, w, i, q => below_setL hB vs _ (i + 1) (q.setCell (p := ⟨g, i, none⟩) hB v)
theorem ch_setL : ∀ (vs : List Value) (w : World) (i : Nat), Ch (fun k => k = g) w (setL w g i vs)
  | [], w, i => Ch.refl _ _
  | v :: vs, w, i => (ch_set w g i v).trans (ch_setL vs _ (i + 1))
end

/-- A record that was read. -/
def ofRc : Rc → RecX
  | ⟨s, .write l a k⟩ => ⟨s, 1, l, a, k, 0, mt0, 0, 0⟩
  | ⟨s, .del m f t⟩ => ⟨s, 2, [], 0, zeroP, s, m, f, t⟩
/-- A record that is put. -/
def rcX (x : RecX) : Rc := if x.kind = 1 then ⟨x.seq, .write x.l x.at9 x.sk⟩ else ⟨x.seq, .del x.m x.frm x.till⟩
section
variable {w w' : World} {g : Nat} {t : TypeId} {cs vs : List Value} {B : Nat} {S : Nat → Prop}
theorem BoxV.range (q : BoxV w g t cs) : w.rangeAt g 0 cs := fun j v h => by rw [Nat.zero_add]; exact q.cell h
theorem BoxV.there (q : BoxV w g t cs) (o n : Nat) (h : o + n ≤ cs.length) : w.there g o n := fun j hj => ⟨by
  rw [q.cell (List.getElem?_eq_getElem (show o + j < cs.length by omega))]; rfl, q.free _⟩
theorem setL_cells (g : Nat) : ∀ (vs : List Value) (w : World) (i : Nat), setL w g i vs = w.setCells g i vs
  | [], _, _ => rfl
  | v :: vs, w, i => setL_cells g vs _ (i + 1)
theorem BoxV.cells (q : BoxV w g t cs) (i : Nat) (h : i + vs.length ≤ cs.length) : BoxV (w.setCells g i vs) g t (cs.take i ++ (vs ++ cs.drop (i + vs.length))) := by
  rw [← setL_cells]
  exact BoxV.setL vs w i cs q h
theorem below_sc {w0 : World} (hB : B ≤ g) (q : Below B w0 w) (i : Nat) (vs : List Value) : Below B w0 (w.setCells g i vs) := by
  rw [← setL_cells]
  exact below_setL hB vs w i q
theorem ch_sc (w : World) (g i : Nat) (vs : List Value) : Ch (fun k => k = g) w (w.setCells g i vs) := by
  rw [← setL_cells]
  exact ch_setL vs w i
/-- A block that was made just now, all written over. -/
theorem BoxV.fresh (w : World) (t : TypeId) (zs vs : List Value) (h : vs.length = zs.length) : BoxV ((w.alloc (.cells zs.toArray t)).setCells w.heap.size 0 vs) w.heap.size t vs := by
  have q := (BoxV.new w t zs).cells (vs := vs) 0 (by omega)
  rw [Nat.zero_add, h, List.drop_length, List.append_nil, List.take_zero, List.nil_append] at q
  exact q
theorem below_fresh (w : World) (t : TypeId) (zs : List Value) (i : Nat) (vs : List Value) : Below w.heap.size w ((w.alloc (.cells zs.toArray t)).setCells w.heap.size i vs) :=
  below_sc (Nat.le_refl _) ((Below.refl _ _).alloc (Nat.le_refl _) _) i vs
theorem there_fresh (w : World) (t : TypeId) (zs : List Value) : (w.alloc (.cells zs.toArray t)).there w.heap.size 0 zs.length := (BoxV.new w t zs).there 0 _ (by omega)
end
/-- A struct is stored. -/
theorem wpStore {P : Program} {ops : Array Oper} {rest : List Oper} {op : Oper} {a : Act} {w : World} {Q : Exit → Act → World → Prop} (hgd : op.guard = none) (ty : TypeId) (x y : Operand) (ho : op.op = .store ty x y)
    (b o : Nat) (cs : List Value) (hx : a.eval x = .pointer (some ⟨b, o, none⟩)) (hy : a.eval y = .agg cs.toArray) (ht : w.there b o cs.length) (hi : (P.info? ty).map (·.size) = some cs.length) (h1 : cs.all (·.oneCell') = true)
    (h : wpList P ops Q rest (a.put op.dst undef) (w.setCells b o cs)) : wpList P ops Q (op :: rest) a w :=
  wpList_store_mid hgd ty x y ho b o cs.toArray hx hy (by simpa using ht) (by simpa using hi) (all_oneCell_toArray fun v hv => List.all_eq_true.1 h1 v hv) (by simpa using h)
/-- A struct is loaded. -/
theorem wpLoad {P : Program} {ops : Array Oper} {rest : List Oper} {op : Oper} {a : Act} {w : World} {Q : Exit → Act → World → Prop} (hgd : op.guard = none) (ty : TypeId) (x : Operand) (ho : op.op = .load ty x)
    (b o : Nat) (hx : a.eval x = .pointer (some ⟨b, o, none⟩)) (cs : List Value) (d : TypeDesc) (hc : w.rangeAt b o cs) (hu : P.underlying ty = some d) (hd : d.isRow = true) (hi : (P.info? ty).map (·.size) = some cs.length)
    (h : wpList P ops Q rest (a.put op.dst (.agg cs.toArray)) w) : wpList P ops Q (op :: rest) a w :=
  wpList_load_mid hgd ty x ho b o hx cs d hc hu hd hi h
/-- A result in a box, another beside it. -/
theorem ret_box {P : Program} {fn : Func} {p u : Tmp} {ty : TypeId} {a : Act} {w : World} {R : Ending → World → Prop} {b : Nat} {cs : List Value} {v : Value} {d : TypeDesc} (h : fn.results = #[.cell p ty, .tmp u]) (hp : a.tmps.getD p undef = .pointer (some ⟨b, 0, none⟩)) (hv : a.tmps.getD u undef = v)
    (hc : w.rangeAt b 0 cs) (hu : P.underlying ty = some d) (hd : d.isRow = true) (hi : (P.info? ty).map (·.size) = some cs.length) (hD : a.defers = []) (hR : R (.returned (.tuple #[.agg cs.toArray, v])) w) : bodyPost P fn R .ret a w := by
  refine bodyPost_ret (v := .tuple #[.agg cs.toArray, v]) ?_ hD hR
  rw [results_cell_tmp h, hp, hv]
  simp only [asAddr, Sem.run_pure, Result.andThen_ok, run_loadVar_mid w b 0 ty cs d hc hu hd hi]
theorem info_rec : (Tryz.prog.info? 39).map (·.size) = some 18 := by kernel_rfl
theorem info_row : (Tryz.prog.info? 31).map (·.size) = some 8 := by kernel_rfl
/-- The records of a file's frames from k on, and where the frames end; none, if a frame is no record. -/
def recsF (D : Bool) (zs : List Int) : Nat → Nat → Option (List Rc × Nat)
  | 0, k => some ([], k)
  | f + 1, k => match findS zs k with
    | none => some ([], k)
    | some p => match getRc D ((zs.drop p.1).take p.2) with
      | none => none
      | some r => (recsF D zs f (p.1 + p.2)).map fun x => (r :: x.1, x.2)
def recsW (D : Bool) (zs : List Int) : Option (List Rc × Nat) := recsF D zs (zs.length + 1) 0
/-- What an opening has found. -/
structure Ow where
  recs : List Rc
  cut : Int
  last : Int
  there : Bool
/-- One file more. -/
def stepW (D : Bool) (s : Ow) (n : Int) (zs : List Int) : Option Ow := match recsW D zs with
  | none => none
  | some x => if s.cut = -1 then some ⟨s.recs ++ x.1, if x.2 < zs.length then (x.2 : Int) else -1, n, true⟩ else none
def goW (D : Bool) (F : Fs) : Nat → Int → Ow → Option Ow
  | 0, _, s => some s
  | f + 1, n, s => match readF F (nmW n) with
    | none => some s
    | some zs => match stepW D s n zs with
      | none => none
      | some s' => goW D F f (n + 1) s'
def ow0 (frm : Int) : Ow := ⟨[], -1, frm, false⟩
/-- An opening from a number that has a name. -/
def openW (D : Bool) (F : Fs) (frm : Int) : Option Ow := goW D F (100000000 - frm).toNat frm (ow0 frm)
/-- To make ready: the file there, cut, and certain. -/
def mendW (F : Fs) (nm : ByteArray) (there : Bool) (cut : Int) : Fs × Int :=
  if there = false then createF F nm else if cut = -1 then (F, 0) else cutF F nm cut
/-- To go on with another file: what is answered, and the number. -/
def turnW (F : Fs) (n : Int) : Fs × Int × Int :=
  if nmW (n + 1) = ByteArray.empty then (F, 2, n)
  else if (createF F (nmW (n + 1))).2 = 0 then
    (if (syncdirF (createF F (nmW (n + 1))).1).2 = 0 then ((syncdirF (createF F (nmW (n + 1))).1).1, 0, n + 1) else ((syncdirF (createF F (nmW (n + 1))).1).1, (syncdirF (createF F (nmW (n + 1))).1).2, n))
  else ((createF F (nmW (n + 1))).1, (createF F (nmW (n + 1))).2, n)
def roomW (F : Fs) (n : Int) : Fs × Int × Int := if ((readF F (nmW n)).getD []).length < 4096 then (F, 0, n) else turnW F n
/-- To append a body: what is answered, and the number of the file. -/
def appendW (F : Fs) (n : Int) (body : List Int) : Fs × Int × Int :=
  if (roomW F n).2.1 = 0 then
    (if 1048576 < body.length then ((roomW F n).1, 1, (roomW F n).2.2)
     else if (appendF (roomW F n).1 (nmW (roomW F n).2.2) (frameS body)).2 = 0 then
       ((syncF (appendF (roomW F n).1 (nmW (roomW F n).2.2) (frameS body)).1 (nmW (roomW F n).2.2)).1, (syncF (appendF (roomW F n).1 (nmW (roomW F n).2.2) (frameS body)).1 (nmW (roomW F n).2.2)).2, (roomW F n).2.2)
     else ((appendF (roomW F n).1 (nmW (roomW F n).2.2) (frameS body)).1, (appendF (roomW F n).1 (nmW (roomW F n).2.2) (frameS body)).2, (roomW F n).2.2))
  else roomW F n

theorem nameW_may (n : Nat) : mayN (nameW n) = true := rfl
theorem nmW_may {z : Int} (h0 : 0 ≤ z) (h1 : z ≤ 99999999) : mayN (nmW z) = true := by
  rw [nmW_of h0 h1]
  exact nameW_may _
/-- A name that may not be is no file's. -/
theorem read_no {F : Fs} (h : GoodN F) : readF F ByteArray.empty = none := by
  unfold readF fileF fileD
  rw [findD_none]
  · rfl
  · intro d hd e
    have := h.dir.may d hd
    rw [e] at this
    exact absurd this (by decide)
theorem bytes8_mid {zs : List Int} (h : Bytes8 zs) (a b : Nat) : Bytes8 ((zs.drop a).take b) := fun z hz => h z (List.mem_of_mem_drop (List.mem_of_mem_take hz))
/-- More fuel than there are bytes changes nothing. -/
theorem recsF_fuel {D : Bool} {zs : List Int} (hz : Bytes8 zs) : ∀ f g k, zs.length < f + k → zs.length < g + k → recsF D zs f k = recsF D zs g k
  | 0, 0, k, _, _ => rfl
  | 0, g + 1, k, hf, _ => by
    unfold recsF
    rw [findS_out (Or.inr (by omega))]
  | f + 1, 0, k, _, hg => by
    unfold recsF
    rw [findS_out (Or.inr (by omega))]
  | f + 1, g + 1, k, hf, hg => by
    unfold recsF
    cases h : findS zs k with
    | none => rfl
    | some p =>
      obtain ⟨st, v⟩ := p
      have hs := findS_some hz h
      dsimp only
      cases getRc D ((zs.drop st).take v) with
      | none => rfl
      | some r =>
        dsimp only
        rw [recsF_fuel hz f g (st + v) (by omega) (by omega)]
/-- Rows of structs, appended: where the longer row lies. -/
theorem wpList_appAt {P : Program} {α : Type} {e : TypeId} {sz : Nat} {fl : α → List Value} (hf : ∀ x, (fl x).length = sz) (hsz : 0 < sz) (hone : ∀ x, ∀ u ∈ fl x, u.oneCell' = true) (w : World) {ops : Array Oper} {rest : List Oper} {o : Oper} {a : Act} {Q : Exit → Act → World → Prop} (hgd : o.guard = none) (s x : Operand) (t : TypeId)
    (ho : o.op = .call { callee := .builtin .append, args := #[s, x], argTypes := #[t, t] })
    (base : Nat) (i : TypeInfo) (z : Value) (bytes : Nat) (ht : P.underlying t = some (.slice e)) (hi : P.info? e = some i) (hz : i.zero = some z) (hsize : i.size = sz) (hby : i.bytes = bytes) (hzc : z.cells.size = sz)
    (ao : Option Addr) (n cap : Nat) (l : List α) (hs : a.eval s = .slice ao n cap) (hown : OwnG e sz fl w base ao n cap l)
    (bo : Option Addr) (m c : Nat) (news : List α) (hx : a.eval x = .slice bo m c) (hm : news.length = m) (hrow : ∀ ad, bo = some ad → ∀ j u, (news.flatMap fl)[j]? = some u → w.cell? (ad.add j) = some u) (hbo : bo = none → m = 0 ∧ c = 0) (hm0 : bo = none ∨ 0 < m)
    (h63 : n + m ≤ 1099511627776) (hbytes : (n + m) * bytes ≤ 140737488355328) (hbase : base ≤ w.heap.size)
    (h : ∀ a' cap' w', OwnG e sz fl w' base a' (n + m) cap' (l ++ news) → w.grownBy w' (Value.slice ao n cap).ownBlock → (∀ j, (Value.slice a' (n + m) cap').ownBlock = some j → (Value.slice ao n cap).ownBlock = some j ∨ w.heap.size ≤ j) → (m = 0 → a' = ao) → wpList P ops Q rest (a.put o.dst (.slice a' (n + m) cap')) w') : wpList P ops Q (o :: rest) a w := by
  cases bo with
  | none =>
    obtain ⟨rfl, rfl⟩ := hbo rfl
    have hz : news = [] := List.length_eq_zero_iff.1 hm
    subst hz
    refine wpList_append_own_none hgd s x t ho base e i sz ht hi _ n (l.flatMap fl) hs hown hx ?_
    exact h ao cap w (by rw [List.append_nil]; exact hown) ⟨rfl, rfl, rfl, Nat.le_refl _, fun _ _ _ => rfl⟩ (fun j hj => Or.inl hj) (fun _ => rfl)
  | some ad =>
    have hmp : 0 < m := by
      rcases hm0 with e | e
      · cases e
      · exact e
    have hl : (news.flatMap fl).length = m * sz := by rw [flatG_len hf, hm]
    have h1' : ∀ u ∈ news.flatMap fl, u.oneCell' = true := fun u hu => by obtain ⟨y, -, hy⟩ := List.mem_flatMap.1 hu; exact hone y u hy
    have hlen : (l.flatMap fl).length = n * sz := hown.1
    have h64 : n + m ≤ maxLen := by unfold maxLen; omega
    have grow : cap < n + m → (ao = none → n = 0 ∧ cap = 0) → (∀ b, ao = some b → ∀ j u', (l.flatMap fl)[j]? = some u' → w.cell? (b.add j) = some u') → wpList P ops Q (o :: rest) a w := by
      intro hfull hnone hcells
      refine wpList_append_grows w hgd s x t ho e i z sz bytes ht hi hz hsize hby hzc hsz ao n cap (l.flatMap fl) hs hnone hlen hcells ad m c (news.flatMap fl) hx hl (hrow ad rfl) h1' hfull h64 hbytes ?_
      intro v' w' h2 h3
      rw [← List.flatMap_append] at h2
      rcases id h2.2 with ⟨_, h5⟩ | ⟨g', cap', cur, rfl, hg, h7⟩
      · omega
      · exact h (some ⟨g', 0, none⟩) cap' w' ⟨h2.1, .inr ⟨g', cap', cur, rfl, by omega, h7⟩⟩ ⟨h3.os, h3.tape, h3.output, h3.size, fun k hk _ => h3.block k hk (by simp)⟩ (fun j hj => Or.inr (Option.some.inj (show some g' = some j from hj) ▸ hg)) (fun e => by omega)
    rcases id hown.2 with ⟨h2, h3⟩ | ⟨g, c', cur, h2, h3, h4, h5, _⟩
    · simp only [Value.slice.injEq] at h2
      obtain ⟨rfl, rfl, rfl⟩ := h2
      exact grow (by omega) (fun _ => ⟨rfl, rfl⟩) (fun b hb => by simp at hb)
    · simp only [Value.slice.injEq, true_and] at h2
      obtain ⟨rfl, rfl⟩ := h2
      by_cases hroom : n + m ≤ cap
      · refine wpList_append_fits w hgd s x t ho base e i sz ht hi hsize g n cap (l.flatMap fl) hs hown ad m c (news.flatMap fl) hx hl (hrow ad rfl) h1' hroom ?_
        intro w' h6 h7
        rw [← List.flatMap_append] at h6
        exact h (some ⟨g, 0, none⟩) cap w' h6 h7 (fun j hj => Or.inl hj) (fun _ => rfl)
      · exact grow (by omega) (fun hb => by simp at hb) (fun b hb => by simp at hb; subst hb; exact hown.cells (g := g) rfl)

def recV (p : RecX × RecH) : List Value := [.int .i64 (RecX.seq p.1), .int .i64 (RecX.kind p.1), .slice (RecH.la p.2) (RecH.ln p.2) (RecH.lc p.2), .int .i64 (RecX.at9 p.1), .slice (Hd.a (RecH.sk p.2)) (Hd.n (RecH.sk p.2)) (Hd.c (RecH.sk p.2)), .slice (Hd.k (RecH.sk p.2)) (Hd.m (RecH.sk p.2)) (Hd.d (RecH.sk p.2)), .int .u64 (Gz.n (Sp.g (RecX.sk p.1))), .int .u64 (Gz.nans (Sp.g (RecX.sk p.1))), .int .u64 (Gz.lo (Sp.g (RecX.sk p.1))), .int .u64 (Gz.hi (Sp.g (RecX.sk p.1))), .int .i64 (RecX.tseq p.1), .int .i64 (Hm.op (RecH.m p.2)), .string (Hm.nm (RecH.m p.2)), .string (Hm.vl (RecH.m p.2)), .slice (Hm.va (RecH.m p.2)) (Hm.vn (RecH.m p.2)) (Hm.vc (RecH.m p.2)), .slice (Hm.ka (RecH.m p.2)) (Hm.kn (RecH.m p.2)) (Hm.kc (RecH.m p.2)), .int .i64 (RecX.frm p.1), .int .i64 (RecX.till p.1)]
theorem recV_len (p : RecX × RecH) : (recV p).length = 18 := rfl
theorem recV_one (p : RecX × RecH) : ∀ u ∈ recV p, u.oneCell' = true := fun u hu => List.all_eq_true.1 (show (recV p).all (·.oneCell') = true from rfl) u hu
abbrev OwnRc (w : World) (base : Nat) (a : Option Addr) (n c : Nat) (l : List (RecX × RecH)) : Prop := OwnG 39 18 recV w base a n c l
/-- Blocks from base on, apart from a row's own. -/
def offB (base : Nat) (a : Option Addr) (n c : Nat) : Nat → Prop := fun k => base ≤ k ∧ (Value.slice a n c).ownBlock ≠ some k
/-- These records lie in a row of the call's own. -/
def RecsAt (w : World) (base : Nat) (a : Option Addr) (n c : Nat) (rs : List Rc) : Prop :=
  ∃ l, OwnRc w base a n c l ∧ (∀ p ∈ l, SeeR (offB base a n c) w p.1 p.2) ∧ l.map (·.1) = rs.map ofRc ∧ (n = 0 → a = none)
theorem Tryz.infoRc : (Tryz.prog.info? 39).map (fun i => (i.zero, i.size, i.bytes)) = some (some (.agg ([.int .i64 (RecX.seq rx0), .int .i64 (RecX.kind rx0), .slice (RecH.la rh0) (RecH.ln rh0) (RecH.lc rh0), .int .i64 (RecX.at9 rx0), .slice (Hd.a (RecH.sk rh0)) (Hd.n (RecH.sk rh0)) (Hd.c (RecH.sk rh0)), .slice (Hd.k (RecH.sk rh0)) (Hd.m (RecH.sk rh0)) (Hd.d (RecH.sk rh0)), .int .u64 (Gz.n (Sp.g (RecX.sk rx0))), .int .u64 (Gz.nans (Sp.g (RecX.sk rx0))), .int .u64 (Gz.lo (Sp.g (RecX.sk rx0))), .int .u64 (Gz.hi (Sp.g (RecX.sk rx0))), .int .i64 (RecX.tseq rx0), .int .i64 (Hm.op (RecH.m rh0)), .string (Hm.nm (RecH.m rh0)), .string (Hm.vl (RecH.m rh0)), .slice (Hm.va (RecH.m rh0)) (Hm.vn (RecH.m rh0)) (Hm.vc (RecH.m rh0)), .slice (Hm.ka (RecH.m rh0)) (Hm.kn (RecH.m rh0)) (Hm.kc (RecH.m rh0)), .int .i64 (RecX.frm rx0), .int .i64 (RecX.till rx0)]).toArray), 18, 240) := by kernel_rfl
section
variable {S S' C : Nat → Prop} {w w' : World} {base B : Nat} {a : Option Addr} {n c : Nat} {rs : List Rc} {x : RecX} {h : RecH}
theorem inBl.low {m : Nat} {b : Option Addr} (q : inBl S m b) (hl : m = 0 ∨ ∀ p, b = some p → p.block < w.heap.size) : inBl (fun k => S k ∧ k < w.heap.size) m b := by
  rcases q with q | q
  · exact Or.inl q
  · rcases hl with e | e
    · exact Or.inl e
    · exact Or.inr fun p hp => ⟨q p hp, e p hp⟩
theorem RowL.low {m : Nat} {b : Option Addr} {l : List Lb} (q : RowL w b m l) : m = 0 ∨ ∀ p, b = some p → p.block < w.heap.size := by
  obtain ⟨h1, _, _, h4 | ⟨b, off, rfl, hc⟩⟩ := q
  · exact Or.inl h4
  · by_cases h0 : m = 0
    · exact Or.inl h0
    · refine Or.inr fun p hp => ?_
      obtain rfl := Option.some.inj hp
      exact World.block_lt_of_cell? w _ (hc 0 _ (List.getElem?_eq_getElem (show 0 < l.length by omega))).1
theorem RowB.low {m : Nat} {b : Option Addr} {l : Bks} (q : RowB w b m l) : m = 0 ∨ ∀ p, b = some p → p.block < w.heap.size := by
  obtain ⟨h1, _, _, h4 | ⟨b, off, rfl, hc⟩⟩ := q
  · exact Or.inl h4
  · by_cases h0 : m = 0
    · exact Or.inl h0
    · refine Or.inr fun p hp => ?_
      obtain rfl := Option.some.inj hp
      exact World.block_lt_of_cell? w _ (hc 0 (by omega)).1
theorem Row.low {k : IntKind} {m : Nat} {b : Option Addr} {l : List Int} (q : Row k w b m l) : m = 0 ∨ ∀ p, b = some p → p.block < w.heap.size := by
  obtain ⟨h1, _, _, h4 | ⟨b, off, rfl, hc⟩⟩ := q
  · exact Or.inl h4
  · by_cases h0 : m = 0
    · exact Or.inl h0
    · refine Or.inr fun p hp => ?_
      obtain rfl := Option.some.inj hp
      exact World.block_lt_of_cell? w _ (hc 0 (by omega))
/-- What lies in memory lies in blocks that there are. -/
theorem SeeR.low (q : SeeR S w x h) : SeeR (fun k => S k ∧ k < w.heap.size) w x h :=
  ⟨q.wsq, q.wkd, ⟨q.row.rl, q.row.lc, q.row.lz, q.row.il.low q.row.rl.low, q.row.wat, q.row.sk, q.row.ih.low q.row.sk.rh.low, q.row.ik.low q.row.sk.rk.low⟩, q.del.wts, q.del.m.mono (fun k hk hs => ⟨hs, hk⟩), q.del.wfr, q.del.wti⟩
theorem recs_nil (w : World) (base : Nat) : RecsAt w base none 0 0 [] := ⟨[], ownG_nil _ _, (fun p hp => by cases hp), rfl, fun _ => rfl⟩
theorem RecsAt.below (q : RecsAt w base a n c rs) (b : Below w.heap.size w w') : RecsAt w' base a n c rs := by
  obtain ⟨l, h1, h2, h3⟩ := q
  exact ⟨l, OwnG.below h1 b (Nat.le_refl _), fun p hp => (h2 p hp).below b (Nat.le_refl _), h3⟩
theorem RecsAt.mono {base' : Nat} (q : RecsAt w base a n c rs) (hb : base' ≤ base) : RecsAt w base' a n c rs := by
  obtain ⟨l, h1, h2, h3⟩ := q
  exact ⟨l, OwnG.mono h1 hb, fun p hp => (h2 p hp).mono (fun k hk => ⟨Nat.le_trans hb hk.1, hk.2⟩), h3⟩
/-- Behind an append: the row grew, its block alone turned or lies anew. -/
theorem RecsAt.grow {u : World} {l m : List (RecX × RecH)} {a2 : Option Addr} {k c2 : Nat} (h1 : OwnRc w base a n c l) (h2 : ∀ p ∈ l ++ m, SeeR (offB base a n c) w p.1 p.2) (ho : OwnRc u base a2 (n + k) c2 (l ++ m)) (hg : w.grownBy u (Value.slice a n c).ownBlock)
    (hn : ∀ j, (Value.slice a2 (n + k) c2).ownBlock = some j → (Value.slice a n c).ownBlock = some j ∨ w.heap.size ≤ j) (rs : List Rc) (hr : (l ++ m).map (·.1) = rs.map ofRc) (h0 : n + k = 0 → a2 = none) : RecsAt u base a2 (n + k) c2 rs := by
  refine ⟨l ++ m, ho, fun p hp => ?_, hr, h0⟩
  refine (((h2 p hp).low).ch (Ch.grown hg) (fun j hj e => hj.1.2 e)).mono (fun j hj => ⟨hj.1.1, fun e => ?_⟩)
  rcases hn j e with e | e
  · exact hj.1.2 e
  · have := hj.2
    omega
end
/-- How many records there are at most, and where they end. -/
theorem recsF_fit {D : Bool} {zs : List Int} (hz : Bytes8 zs) : ∀ (f k : Nat) (rs : List Rc) (e : Nat), k ≤ zs.length → recsF D zs f k = some (rs, e) → rs.length + k ≤ e ∧ e ≤ zs.length
  | 0, k, rs, e, hk, h => by
    unfold recsF at h
    simp only [Option.some.injEq, Prod.mk.injEq] at h
    obtain ⟨rfl, rfl⟩ := h
    exact ⟨by simp, hk⟩
  | f + 1, k, rs, e, hk, h => by
    unfold recsF at h
    cases hf : findS zs k with
    | none =>
      rw [hf] at h
      simp only [Option.some.injEq, Prod.mk.injEq] at h
      obtain ⟨rfl, rfl⟩ := h
      exact ⟨by simp, hk⟩
    | some p =>
      obtain ⟨st, v⟩ := p
      rw [hf] at h
      dsimp only at h
      obtain ⟨h1, h2, h3, k', e1, e2, _⟩ := findS_some hz hf
      cases hr : getRc D ((zs.drop st).take v) with
      | none => rw [hr] at h; cases h
      | some r =>
        rw [hr] at h
        dsimp only at h
        cases hq : recsF D zs f (st + v) with
        | none => rw [hq] at h; cases h
        | some y =>
          obtain ⟨rs2, e2'⟩ := y
          rw [hq] at h
          simp only [Option.map_some, Option.some.injEq, Prod.mk.injEq] at h
          obtain ⟨rfl, rfl⟩ := h
          have ih := recsF_fit hz f (st + v) rs2 e2' (by omega) hq
          have hk' : k' = k := by omega
          simp only [List.length_cons]
          omega
set_option maxHeartbeats 400000 in
theorem reftext_mine (s : ByteArray) (w : World) (hs : s.size ≤ 140737488355318) :
    Calls Tryz.prog 129 #[.string s] w fun e w' => ∃ a' cap', e = .returned (.slice a' (putT (numsOf s)).length cap') ∧
      Mine w' w.heap.size a' (putT (numsOf s)).length cap' (putT (numsOf s)) ∧ Below w.heap.size w w' := by
  obtain ⟨i0, hi, hz0, hz1, hz2⟩ := info_parts Tryz.info5
  have B := hide (refput_any (s.size : Int) w (w64_len (by omega)))
  have HL : Hid ((putS (s.size : Int)).length + s.size = (putT (numsOf s)).length ∧ putS (s.size : Int) ++ numsOf s = putT (numsOf s) ∧ (putS (s.size : Int)).length ≤ 10) := by
    refine ⟨?_, ?_, (putS_len _).2⟩
    · unfold putT; rw [numsOf_len, List.length_append, numsOf_len]
    · unfold putT; rw [numsOf_len]
  go_enter Tryz.func129, Tryz.ntmps129
  go_wp2_with fail
  refine B.out.mono ?_
  rintro e w2 ⟨a2, cap2, rfl, h1, h2⟩
  have hle := HL.out.2.2
  have hb : w.heap.size ≤ w2.heap.size := h2.size
  have H1 := hide h1
  have H2 := hide h2
  clear h1 h2 B
  go_wp2_with (at_builtin; refine wpList_append_text _ rfl _ _ 40 9 rfl w.heap.size 5 i0 Tryz.underlying40 Tryz.underlying9 hi hz0 hz1 hz2 _ _ _ _ rfl H1.out s rfl (by omega) hb ?_)
  intro a' cap' w' h1 h2
  have HF : Hid (Below w.heap.size w w') := H2.out.trans h2
  rw [HL.out.2.1, HL.out.1] at h1
  have H3 := hide h1
  rw [HL.out.1]
  clear h1 h2 hle
  go_wp2
  go_ret
  exact ⟨a', cap', rfl, H3, HF⟩
end Go.Proofs.YtknghoecjobkiaaGreatDoor
