/-
  A word's eight bytes, the lowest first, and back; a gauge's bytes, and what is got from a place on: plain arithmetic on lists.
  Conditions: where a law speaks of words and bytes, they are such.
-/
import Derived.Test.YtnhjjdgdffjdcaaGaugeK
import Derived.Test.YtnhjjdgdffjdcaaVintL
namespace Go.Proofs.Ytnhjjdgdffjdcaa
open Go.RowKit

/-- A word's first bytes, the lowest first. -/
def b8 (v : Int) : Nat → List Int
  | 0 => []
  | k + 1 => b8 v k ++ [v / 2 ^ (8 * k) % 256]
/-- The number of bytes from a place on, the lowest first. -/
def n8 (zs : List Int) (t : Nat) : Nat → Int
  | 0 => 0
  | k + 1 => n8 zs t k + zs.getD (t + k) 0 * 2 ^ (8 * k)
theorem b8_len (v : Int) (k : Nat) : (b8 v k).length = k := by
  induction k with
  | zero => rfl
  | succ k ih => rw [b8, List.length_append, ih]; rfl
theorem b8_byte (v : Int) (k : Nat) : Bytes8 (b8 v k) := by
  induction k with
  | zero => exact fun z hz => by cases hz
  | succ k ih =>
    refine Bytes8.append ih fun z hz => ?_
    rw [List.mem_singleton.1 hz]; omega
theorem p8_succ (k : Nat) : (2 : Int) ^ (8 * (k + 1)) = 256 * 2 ^ (8 * k) := by
  rw [show 8 * (k + 1) = 8 * k + 8 by omega, Int.pow_add, Int.mul_comm]; rfl
theorem p8_pos (k : Nat) : (0 : Int) < 2 ^ (8 * k) := Int.pow_pos (by decide)
theorem p8_le : ∀ k, k < 8 → (2 : Int) ^ (8 * k) ≤ 72057594037927936 := by decide
theorem getD_byte {zs : List Int} (h : Bytes8 zs) (i : Nat) : 0 ≤ zs.getD i 0 ∧ zs.getD i 0 ≤ 255 := by
  rw [List.getD_eq_getElem?_getD]
  cases e : zs[i]? with
  | none => simp
  | some z => exact h z (List.mem_of_getElem? e)
theorem n8_bound {zs : List Int} (h : Bytes8 zs) (t k : Nat) : 0 ≤ n8 zs t k ∧ n8 zs t k < 2 ^ (8 * k) := by
  induction k with
  | zero => exact ⟨Int.le_refl _, by rw [n8]; decide⟩
  | succ k ih =>
    obtain ⟨h0, h1⟩ := getD_byte h (t + k)
    have hp := p8_pos k
    have m0 : 0 ≤ zs.getD (t + k) 0 * 2 ^ (8 * k) := Int.mul_nonneg h0 (by omega)
    have m1 : zs.getD (t + k) 0 * 2 ^ (8 * k) ≤ 255 * 2 ^ (8 * k) := Int.mul_le_mul_of_nonneg_right h1 (by omega)
    rw [p8_succ, n8]
    omega
theorem n8_word {zs : List Int} (h : Bytes8 zs) (t : Nat) : Word (n8 zs t 8) := n8_bound h t 8
theorem n8_b8 {v : Int} (hv : 0 ≤ v) (k : Nat) (xs ys : List Int) : n8 (xs ++ (b8 v k ++ ys)) xs.length k = v % 2 ^ (8 * k) := by
  induction k generalizing ys with
  | zero => rw [n8]; simp
  | succ k ih =>
    have e : (xs ++ (b8 v (k + 1) ++ ys)).getD (xs.length + k) 0 = v / 2 ^ (8 * k) % 256 := by
      have hb := b8_len v k
      rw [List.getD_eq_getElem?_getD, List.getElem?_append_right (by omega), b8, List.append_assoc, List.getElem?_append_right (by omega), hb]
      simp
    rw [n8, e, b8, List.append_assoc, ih]
    obtain ⟨m, rfl⟩ := Int.eq_ofNat_of_zero_le hv
    have h := Nat.mod_mul (x := m) (a := 2 ^ (8 * k)) (b := 256)
    have h2 : ((m % (2 ^ (8 * k) * 256) : Nat) : Int) = ((m % 2 ^ (8 * k) + 2 ^ (8 * k) * (m / 2 ^ (8 * k) % 256) : Nat) : Int) := by rw [h]
    rw [p8_succ]
    rw [Int.natCast_emod, Int.natCast_mul, Int.natCast_add, Int.natCast_mul, Int.natCast_emod, Int.natCast_emod, Int.natCast_ediv, Int.natCast_pow] at h2
    rw [Int.mul_comm 256]
    rw [Int.mul_comm ((m : Int) / _ % _)]
    exact h2.symm
theorem n8_back {v : Int} (hv : Word v) (xs ys : List Int) : n8 (xs ++ (b8 v 8 ++ ys)) xs.length 8 = v := by
  rw [n8_b8 hv.1]
  obtain ⟨_, _⟩ := hv
  have e : (2 : Int) ^ (8 * 8) = 18446744073709551616 := by decide
  rw [e]; omega

/-- A gauge's bytes. -/
def putG (g : Gz) : List Int := putS g.nans ++ (putS g.n ++ (if g.n = 0 then [] else b8 g.lo 8 ++ b8 g.hi 8))
theorem putG_byte {g : Gz} (h : GW g) : Bytes8 (putG g) := by
  refine Bytes8.append (putS_byte h.nans) (Bytes8.append (putS_byte h.n) ?_)
  split
  · exact fun z hz => by cases hz
  · exact Bytes8.append (b8_byte _ _) (b8_byte _ _)
theorem putG_len (g : Gz) : 0 < (putG g).length ∧ (putG g).length ≤ 36 := by
  have h1 := putS_len g.nans
  have h2 := putS_len g.n
  unfold putG
  rw [List.length_append, List.length_append]
  split
  · simp; omega
  · rw [List.length_append, b8_len, b8_len]; omega

/-- What is got from a place on: the gauge, the place behind it. -/
def getG (zs : List Int) (p : Int) : Option (Gz × Int) :=
  match getS zs p with
  | none => none
  | some (m, q) => match getS zs q with
    | none => none
    | some (n, r) => if n = 0 then some (⟨0, m, 0, 0⟩, r) else if (zs.length : Int) - r < 16 then none
      else if chkG ⟨n, m, n8 zs r.toNat 8, n8 zs (r.toNat + 8) 8⟩ = true then some (⟨n, m, n8 zs r.toNat 8, n8 zs (r.toNat + 8) 8⟩, r + 16) else none
theorem getG_no1 {zs : List Int} {p : Int} (h : getS zs p = none) : getG zs p = none := by unfold getG; rw [h]
theorem getG_no2 {zs : List Int} {p m q : Int} (h : getS zs p = some (m, q)) (h2 : getS zs q = none) : getG zs p = none := by unfold getG; rw [h]; simp only; rw [h2]
theorem getG_two {zs : List Int} {p m q n r : Int} (h : getS zs p = some (m, q)) (h2 : getS zs q = some (n, r)) :
    getG zs p = if n = 0 then some (⟨0, m, 0, 0⟩, r) else if (zs.length : Int) - r < 16 then none
      else if chkG ⟨n, m, n8 zs r.toNat 8, n8 zs (r.toNat + 8) 8⟩ = true then some (⟨n, m, n8 zs r.toNat 8, n8 zs (r.toNat + 8) 8⟩, r + 16) else none := by
  unfold getG; rw [h]; simp only; rw [h2]
theorem getG_back {g : Gz} (h : GW g) (c : chkG g = true) (xs : List Int) : getG (xs ++ putG g) xs.length = some (g, ((xs.length + (putG g).length : Nat) : Int)) := by
  have e1 := getS_at h.nans xs (putS g.n ++ (if g.n = 0 then [] else b8 g.lo 8 ++ b8 g.hi 8))
  have e2 := getS_at h.n (xs ++ putS g.nans) (if g.n = 0 then [] else b8 g.lo 8 ++ b8 g.hi 8)
  rw [List.append_assoc, List.length_append] at e2
  have el : (putG g).length = (putS g.nans).length + ((putS g.n).length + if g.n = 0 then 0 else 16) := by
    unfold putG
    rw [List.length_append, List.length_append]
    split
    · rfl
    · rw [List.length_append, b8_len, b8_len]
  have e3 := getG_two (zs := xs ++ putG g) e1 e2
  rw [e3]
  by_cases hn : g.n = 0
  · obtain ⟨h1, h2⟩ := chk_none c hn
    rw [if_pos hn] at el ⊢
    have eg : (⟨0, g.nans, 0, 0⟩ : Gz) = g := Gz.ext' hn.symm rfl h1.symm h2.symm
    rw [eg, el]
    congr 2
    omega
  · rw [if_neg hn] at el ⊢
    have ep : putG g = putS g.nans ++ (putS g.n ++ (b8 g.lo 8 ++ b8 g.hi 8)) := by unfold putG; rw [if_neg hn]
    have f1 := n8_back h.lo (xs ++ (putS g.nans ++ putS g.n)) (b8 g.hi 8)
    have f2 := n8_back h.hi (xs ++ (putS g.nans ++ (putS g.n ++ b8 g.lo 8))) []
    have l1 : (xs ++ (putS g.nans ++ putS g.n)).length = xs.length + (putS g.nans).length + (putS g.n).length := by simp only [List.length_append]; omega
    have l2 : (xs ++ (putS g.nans ++ (putS g.n ++ b8 g.lo 8))).length = xs.length + (putS g.nans).length + (putS g.n).length + 8 := by simp only [List.length_append, b8_len]; omega
    have s1 : xs ++ (putS g.nans ++ putS g.n) ++ (b8 g.lo 8 ++ b8 g.hi 8) = xs ++ putG g := by rw [ep]; simp only [List.append_assoc]
    have s2 : xs ++ (putS g.nans ++ (putS g.n ++ b8 g.lo 8)) ++ (b8 g.hi 8 ++ []) = xs ++ putG g := by rw [ep]; simp only [List.append_assoc, List.append_nil]
    rw [s1, l1] at f1
    rw [s2, l2] at f2
    rw [Int.toNat_natCast, f1, f2, if_neg (by rw [List.length_append, el]; omega), if_pos c, el]
    congr 2
    omega
theorem getG_some {zs : List Int} {p r : Int} {g : Gz} (hz : Bytes8 zs) (h : getG zs p = some (g, r)) : GW g := by
  unfold getG at h
  cases e1 : getS zs p with
  | none => rw [e1] at h; cases h
  | some q =>
    obtain ⟨m, q⟩ := q
    rw [e1] at h; simp only at h
    have hm := (getS_some hz e1).1
    cases e2 : getS zs q with
    | none => rw [e2] at h; cases h
    | some s =>
      obtain ⟨n, s⟩ := s
      rw [e2] at h; simp only at h
      have hn := (getS_some hz e2).1
      split at h
      · cases h; exact ⟨w0, hm, w0, w0⟩
      · split at h
        · cases h
        · split at h
          · cases h; exact ⟨hn, hm, n8_word hz _, n8_word hz _⟩
          · cases h
end Go.Proofs.Ytnhjjdgdffjdcaa
