/-
  Labels in plain words: names, sets that may be, a name's value, which of two sets comes first, labels put in order of their names: and that these order, and that the order in which labels come plays no part. Numbers as bytes, seven bits a byte: what is put, what is got, in plain lists of whole numbers; what is put is got, what is got was put, and a stretch without its last byte is none. Numbers, texts and lists that rise, got from any place of any bytes: what is put is got, what is got was put, without its last byte it is none; in plain lists of whole numbers. A fact that the walk is not to look at. Bytes and words in the program's own spelling (and, or, turned), what the walks are told of a slice of numbers (one that came in: Row; one in memory of the call's own: Own), and an append behind either. A set's bytes, plainly: what is put, what is read, and that what was put is read. No function is named. Plain arithmetic: what a word of 64 bits stands for as a float, how two of them stand to each other, the float nearest to a whole number, and that a float is the nearest to itself. Plain arithmetic: the float nearest to a whole number, that a float is the nearest to itself, sums of floats, and whole units of a float. Plain arithmetic: words and their bits: the sign's bit, all bits the other way, the fraction, the exponent. What the library's small functions on floats come to (is it no number, is it infinite, its sign, without its sign): contracts, for every world; they change not
  Conditions: as each theorem says.
-/
import Derived.Laws.Strings
import Derived.Laws.Strings2
import Derived.Laws.Concat
import Derived.OpenShut
import Derived.Below
import Derived.Deep.Draws
import Derived.WalkSpells
import Derived.ArgAppend
import Derived.Lib.AppendStr
import Derived.Laws.BytesArg
import Derived.OwnWalk
import Derived.Laws.OwnMore
import Derived.WalkKit
import Derived.Laws.FloatArith
import Derived.Lib.BitFns
import Derived.Lib.ItoaNum
import Derived.Laws.Bits64b
import Derived.Test.YtknghoecjobkiaaGreatDoorRows
import Derived.WalkLawsBesides
import Derived.RowKit3
import Derived.Laws.Externs
import Derived.RangeFuncBox
import Derived.SliceStrings
namespace Go.Proofs.YtknghoecjobkiaaGreatDoor
/-- A label: its name, its value. -/
abbrev Lb := ByteArray × ByteArray
theorem ba_ext {a b : ByteArray} (h : a.toList = b.toList) : a = b := by
  rw [ByteArray.toList_eq, ByteArray.toList_eq] at h
  cases a with | mk x => cases b with | mk y => congr 1; exact Array.ext' h
theorem ba_len (a : ByteArray) : a.toList.length = a.size := by rw [ByteArray.toList_eq, Array.length_toList]; rfl

theorem less_trans : ∀ {x y z : List UInt8}, Op.bytesLess x y = true → Op.bytesLess y z = true → Op.bytesLess x z = true
  | _, [], _, h, _ => by cases ‹List UInt8› <;> simp [Op.bytesLess] at h
  | _, _ :: _, [], _, h => by simp [Op.bytesLess] at h
  | [], _ :: _, _ :: _, _, _ => rfl
  | a :: x, b :: y, c :: z, h1, h2 => by
    simp only [Op.bytesLess, Bool.or_eq_true, Bool.and_eq_true, decide_eq_true_eq, beq_iff_eq] at h1 h2 ⊢
    rcases h1 with h1 | ⟨rfl, h1⟩
    · rcases h2 with h2 | ⟨rfl, h2⟩
      · exact Or.inl (UInt8.lt_trans h1 h2)
      · exact Or.inl h1
    · rcases h2 with h2 | ⟨rfl, h2⟩
      · exact Or.inl h2
      · exact Or.inr ⟨rfl, less_trans h1 h2⟩
theorem less_tri : ∀ (x y : List UInt8), Op.bytesLess x y = true ∨ x = y ∨ Op.bytesLess y x = true
  | [], [] => Or.inr (Or.inl rfl)
  | [], _ :: _ => Or.inl rfl
  | _ :: _, [] => Or.inr (Or.inr rfl)
  | a :: x, b :: y => by
    simp only [Op.bytesLess, Bool.or_eq_true, Bool.and_eq_true, decide_eq_true_eq, beq_iff_eq, List.cons.injEq]
    have tri : a < b ∨ a = b ∨ b < a := by
      rcases Nat.lt_trichotomy a.toNat b.toNat with h | h | h
      · exact Or.inl (UInt8.lt_iff_toNat_lt.2 h)
      · exact Or.inr (Or.inl (UInt8.toNat_inj.1 h))
      · exact Or.inr (Or.inr (UInt8.lt_iff_toNat_lt.2 h))
    rcases tri with h | rfl | h
    · exact Or.inl (Or.inl h)
    · rcases less_tri x y with h | h | h
      · exact Or.inl (Or.inr ⟨rfl, h⟩)
      · exact Or.inr (Or.inl ⟨rfl, h⟩)
      · exact Or.inr (Or.inr (Or.inr ⟨rfl, h⟩))
    · exact Or.inr (Or.inr (Or.inl h))
/-- May this byte stand in a name, at place i? -/
def nmC (i : Nat) (c : UInt8) : Bool := c == 95 || (decide (97 ≤ c) && decide (c ≤ 122)) || (decide (48 ≤ c) && decide (c ≤ 57) && decide (i ≠ 0))
def nmF : Nat → List UInt8 → Bool
  | _, [] => true
  | i, c :: t => nmC i c && nmF (i + 1) t
def nameB (s : ByteArray) : Bool := nmF 0 s.toList && (decide (1 ≤ s.size) && decide (s.size ≤ 32))
/-- One label that may be. -/
def lbB (x : Lb) : Bool := nameB x.1 && (decide (1 ≤ x.2.size) && decide (x.2.size ≤ 64))
/-- Labels that may be, each behind the one ahead. -/
def chkF : Option ByteArray → List Lb → Bool
  | _, [] => true
  | p, x :: t => (lbB x && (match p with | none => true | some q => Op.bytesLess q.toList x.1.toList)) && chkF (some x.1) t
def chkL (l : List Lb) : Bool := chkF none l && (decide (1 ≤ l.length) && decide (l.length ≤ 8))
def less (x y : Lb) : Prop := Op.bytesLess x.1.toList y.1.toList = true
/-- A number's bytes, at most f + 1 of them. -/
def putF : Nat → Int → List Int
  | 0, v => [v]
  | f + 1, v => if v < 128 then [v] else (v % 128 + 128) :: putF f (v / 128)
/-- A number's bytes. -/
def putS (v : Int) : List Int := putF 9 v

/-- What is got of bytes, the first of which is a number's i-th: the number upon v, and how many bytes there are. -/
def getA : Nat → Int → List Int → Option (Int × Nat)
  | _, _, [] => none
  | i, v, c :: t => if i = 9 ∧ 1 < c then none else if 128 ≤ c then getA (i + 1) (v + c % 128 * 128 ^ i) t else if c = 0 ∧ 0 < i then none else some (v + c % 128 * 128 ^ i, i + 1)

theorem pw_pos (f : Nat) : (0 : Int) < 128 ^ f := Int.pow_pos (by decide)
theorem pw_succ (f : Nat) : (128 : Int) ^ (f + 1) = 128 * 128 ^ f := by rw [Int.pow_succ, Int.mul_comm]

theorem putF_one {f : Nat} {v : Int} (h : v < 128) : putF f v = [v] := by
  cases f with
  | zero => rfl
  | succ f => simp [putF, h]
theorem putF_more {f : Nat} {v : Int} (h : 128 ≤ v) : putF (f + 1) v = (v % 128 + 128) :: putF f (v / 128) := by
  simp [putF, show ¬ v < 128 by omega]

theorem putF_len (f : Nat) (v : Int) : 1 ≤ (putF f v).length ∧ (putF f v).length ≤ f + 1 := by
  induction f generalizing v with
  | zero => simp [putF]
  | succ f ih =>
    by_cases h : v < 128
    · rw [putF_one h]; simp
    · rw [putF_more (by omega)]
      have := ih (v / 128)
      simp only [List.length_cons]; omega

theorem putF_byte (f : Nat) (v : Int) (h0 : 0 ≤ v) (h : v < 2 * 128 ^ f) : ∀ z ∈ putF f v, 0 ≤ z ∧ z ≤ 255 := by
  induction f generalizing v with
  | zero =>
    intro z hz
    simp [putF] at hz h
    omega
  | succ f ih =>
    by_cases hv : v < 128
    · rw [putF_one hv]; intro z hz; simp at hz; omega
    · rw [putF_more (by omega)]
      intro z hz
      rw [pw_succ] at h
      rcases List.mem_cons.1 hz with rfl | hz
      · omega
      · exact ih (v / 128) (by omega) (by omega) z hz

theorem get_put (f i : Nat) (hi : i + f = 9) (u v : Int) (t : List Int) (h0 : 0 ≤ u) (h1 : u < 2 * 128 ^ f) (h2 : 0 < i → 0 < u) :
    getA i v (putF f u ++ t) = some (v + u * 128 ^ i, i + (putF f u).length) := by
  induction f generalizing i u v with
  | zero =>
    have : i = 9 := by omega
    subst this
    simp only [Int.pow_zero, Int.mul_one] at h1
    have := h2 (by omega)
    have e : u % 128 = u := by omega
    simp [putF, getA, e, show ¬ 1 < u by omega, show ¬ 128 ≤ u by omega, show ¬ u = 0 by omega]
  | succ f ih =>
    by_cases hu : u < 128
    · rw [putF_one hu]
      have e : u % 128 = u := by omega
      simp only [List.singleton_append, getA, List.length_singleton]
      rw [if_neg (by omega), if_neg (by omega), if_neg (by omega), e]
    · rw [putF_more (by omega), List.cons_append]
      simp only [getA, List.length_cons]
      rw [if_neg (by omega), if_pos (by omega)]
      rw [pw_succ] at h1
      rw [ih (i + 1) (by omega) (u / 128) _ (by omega) (by omega) (by omega)]
      congr 2
      · have e : (u % 128 + 128) % 128 = u % 128 := by omega
        rw [e, pw_succ, Int.add_assoc, Int.mul_left_comm, ← Int.mul_assoc, ← Int.add_mul, Int.emod_add_mul_ediv]
      · omega

theorem put_get (zs : List Int) (i : Nat) (v r : Int) (n : Nat) (hz : ∀ z ∈ zs, 0 ≤ z ∧ z ≤ 255) (hi : i ≤ 9) (h : getA i v zs = some (r, n)) :
    ∃ u t, 0 ≤ u ∧ u < 2 * 128 ^ (9 - i) ∧ (0 < i → 0 < u) ∧ r = v + u * 128 ^ i ∧ zs = putF (9 - i) u ++ t ∧ n = i + (putF (9 - i) u).length := by
  induction zs generalizing i v with
  | nil => simp [getA] at h
  | cons c t ih =>
    have hc := hz c (by simp)
    simp only [getA] at h
    split at h
    · simp at h
    · rename_i h9
      split at h
      · rename_i h8
        have hi9 : i < 9 := by omega
        obtain ⟨u, t', u0, u1, u2, hr, ht, hn⟩ := ih (i + 1) _ (fun z hz' => hz z (by simp [hz'])) (by omega) h
        have hu := u2 (by omega)
        obtain ⟨f, hf⟩ : ∃ f, 9 - i = f + 1 := ⟨8 - i, by omega⟩
        have hf' : 9 - (i + 1) = f := by omega
        rw [hf'] at u1 ht hn
        rw [hf]
        refine ⟨u * 128 + c % 128, t', by omega, by rw [pw_succ]; omega, fun _ => by omega, ?_, ?_, ?_⟩
        · rw [hr, pw_succ, Int.add_mul, Int.mul_assoc, Int.add_assoc, Int.add_comm (c % 128 * 128 ^ i)]
        · rw [putF_more (by omega), show (u * 128 + c % 128) % 128 + 128 = c by omega, show (u * 128 + c % 128) / 128 = u by omega, ht, List.cons_append]
        · rw [putF_more (by omega), show (u * 128 + c % 128) / 128 = u by omega, List.length_cons, hn]; omega
      · rename_i h8
        split at h
        · simp at h
        · rename_i h0
          simp only [Option.some.injEq, Prod.mk.injEq] at h
          obtain ⟨rfl, rfl⟩ := h
          have e : c % 128 = c := by omega
          refine ⟨c, t, by omega, ?_, by omega, by rw [e], by rw [putF_one (by omega)]; rfl, by rw [putF_one (by omega)]; rfl⟩
          by_cases h9' : i = 9
          · subst h9'; simp; omega
          · obtain ⟨f, hf⟩ : ∃ f, 9 - i = f + 1 := ⟨8 - i, by omega⟩
            rw [hf, pw_succ]
            have := pw_pos f
            omega

/-- A number of 64 bits. -/
def W64 (v : Int) : Prop := 0 ≤ v ∧ v < 18446744073709551616

theorem w64_two {v : Int} : (0 ≤ v ∧ v < 2 * 128 ^ 9) ↔ W64 v := by unfold W64; simp

theorem putS_len (v : Int) : 1 ≤ (putS v).length ∧ (putS v).length ≤ 10 := putF_len 9 v
theorem putS_byte {v : Int} (h : W64 v) : ∀ z ∈ putS v, 0 ≤ z ∧ z ≤ 255 := putF_byte 9 v h.1 (w64_two.2 h).2
theorem getS_put {v : Int} (h : W64 v) (t : List Int) : getA 0 0 (putS v ++ t) = some (v, (putS v).length) := by
  have := get_put 9 0 rfl v 0 t h.1 (w64_two.2 h).2 (by omega)
  simpa [putS] using this
theorem putS_get {zs : List Int} {v : Int} {n : Nat} (hz : ∀ z ∈ zs, 0 ≤ z ∧ z ≤ 255) (h : getA 0 0 zs = some (v, n)) : W64 v ∧ n = (putS v).length ∧ ∃ t, zs = putS v ++ t := by
  obtain ⟨u, t, u0, u1, _, hr, ht, hn⟩ := put_get zs 0 0 v n hz (by omega) h
  simp at hr hn
  subst hr
  exact ⟨w64_two.1 ⟨u0, u1⟩, hn, t, ht⟩
/-- What is got from a place on: the number, the place behind it. -/
def getS (zs : List Int) (at' : Int) : Option (Int × Int) :=
  if 0 ≤ at' ∧ at' < zs.length then (getA 0 0 (zs.drop at'.toNat)).map fun p => (p.1, at' + p.2) else none
/-- All are bytes. -/
def Bytes8 (zs : List Int) : Prop := ∀ z ∈ zs, 0 ≤ z ∧ z ≤ 255
theorem Bytes8.drop {zs : List Int} (h : Bytes8 zs) (k : Nat) : Bytes8 (zs.drop k) := fun z hz => h z (List.mem_of_mem_drop hz)
theorem Bytes8.append {xs ys : List Int} (h : Bytes8 xs) (k : Bytes8 ys) : Bytes8 (xs ++ ys) := fun z hz => (List.mem_append.1 hz).elim (h z) (k z)

theorem getS_some {zs : List Int} {p v nx : Int} (hz : Bytes8 zs) (h : getS zs p = some (v, nx)) :
    W64 v ∧ ∃ k : Nat, p = k ∧ k < zs.length ∧ nx = ((k + (putS v).length : Nat) : Int) ∧ k + (putS v).length ≤ zs.length ∧ ∃ t, zs.drop k = putS v ++ t := by
  unfold getS at h
  split at h
  · rename_i hp
    obtain ⟨k, rfl⟩ := Int.eq_ofNat_of_zero_le hp.1
    rw [Int.toNat_natCast] at h
    cases hg : getA 0 0 (zs.drop k) with
    | none => rw [hg] at h; simp at h
    | some r =>
      rw [hg] at h
      obtain ⟨v', n⟩ := r
      simp only [Option.map_some, Option.some.injEq, Prod.mk.injEq] at h
      obtain ⟨h1, h2⟩ := h
      subst h1
      obtain ⟨hw, hn, t, ht⟩ := putS_get (hz.drop k) hg
      have hl := congrArg List.length ht
      rw [List.length_drop, List.length_append] at hl
      subst hn
      exact ⟨hw, k, rfl, by omega, by rw [← h2]; rfl, by omega, t, ht⟩
  · simp at h

theorem getS_at {v : Int} (hv : W64 v) (xs ys : List Int) : getS (xs ++ (putS v ++ ys)) xs.length = some (v, ((xs.length + (putS v).length : Nat) : Int)) := by
  have h1 := (putS_len v).1
  unfold getS
  rw [if_pos (by simp only [List.length_append]; omega), Int.toNat_natCast, List.drop_left, getS_put hv]
  rfl

theorem getS_end (xs : List Int) : getS xs xs.length = none := by
  unfold getS
  rw [if_neg (by omega)]

/-- How many things follow at a place: at most so many, and no more than bytes are left. -/
def sizeS (zs : List Int) (p most : Int) : Option (Int × Int) :=
  match getS zs p with
  | none => none
  | some (v, fr) => if most < 0 ∨ most < v ∨ zs.length - fr < v then none else some (v, fr)

theorem sizeS_some {zs : List Int} {p most v fr : Int} (hz : Bytes8 zs) (h : sizeS zs p most = some (v, fr)) :
    getS zs p = some (v, fr) ∧ 0 ≤ v ∧ v ≤ most ∧ 0 ≤ fr ∧ fr + v ≤ zs.length := by
  unfold sizeS at h
  split at h
  · simp at h
  · rename_i v' fr' hg
    split at h
    · simp at h
    · rename_i hc
      simp only [Option.some.injEq, Prod.mk.injEq] at h
      obtain ⟨rfl, rfl⟩ := h
      obtain ⟨hw, k, rfl, hk, hfr, hle, _⟩ := getS_some hz hg
      have hw0 := hw.1
      exact ⟨hg, by omega, by omega, by omega, by omega⟩

/-- The text at a place, of at most so many bytes, and the place behind it. -/
def textS (zs : List Int) (p most : Int) : Option (List Int × Int) :=
  match sizeS zs p most with
  | none => none
  | some (v, fr) => some ((zs.drop fr.toNat).take v.toNat, fr + v)

/-- A text's bytes. -/
def putT (s : List Int) : List Int := putS s.length ++ s

theorem w64_len {n : Nat} (h : n ≤ 9223372036854775807) : W64 (n : Int) := ⟨by omega, by omega⟩

theorem textS_back {zs : List Int} {p most e : Int} {s : List Int} (hz : Bytes8 zs) (h : textS zs p most = some (s, e)) :
    ∃ k : Nat, p = k ∧ (k : Int) < e ∧ e ≤ zs.length ∧ ∃ t, zs.drop k = putT s ++ t ∧ e = ((k + (putT s).length : Nat) : Int) := by
  unfold textS at h
  split at h
  · simp at h
  · rename_i v fr hs
    simp only [Option.some.injEq, Prod.mk.injEq] at h
    obtain ⟨h1, h2⟩ := h
    obtain ⟨hg, v0, _, _, hle⟩ := sizeS_some hz hs
    obtain ⟨hw, k, rfl, hk, hfr, _, t, ht⟩ := getS_some hz hg
    obtain ⟨m, rfl⟩ := Int.eq_ofNat_of_zero_le v0
    have hl1 := (putS_len (m : Int)).1
    have hd : zs.drop fr.toNat = t := by
      rw [hfr, Int.toNat_natCast, ← List.drop_drop, ht, List.drop_left]
    rw [hd, Int.toNat_natCast] at h1
    have hlt : m ≤ t.length := by
      have := congrArg List.length hd
      rw [List.length_drop] at this
      omega
    have hlen : s.length = m := by rw [← h1, List.length_take]; omega
    refine ⟨k, rfl, by omega, by omega, t.drop m, ?_, ?_⟩
    · unfold putT
      rw [hlen, List.append_assoc, ← h1, List.take_append_drop]
      exact ht
    · unfold putT
      rw [hlen, List.length_append, hlen]
      omega

theorem textS_at {s : List Int} (hs : s.length ≤ 9223372036854775807) (xs ys : List Int) : textS (xs ++ (putT s ++ ys)) xs.length s.length = some (s, ((xs.length + (putT s).length : Nat) : Int)) := by
  have hg := getS_at (w64_len hs) xs (s ++ ys)
  have hl1 := (putS_len (s.length : Int)).1
  unfold textS sizeS putT
  rw [List.append_assoc, hg]
  simp only [List.length_append]
  rw [if_neg (by omega)]
  simp only [Int.toNat_natCast]
  rw [← List.drop_drop, List.drop_left, List.drop_left, List.take_left]
  simp only [Option.some.injEq, Prod.mk.injEq, true_and]
  omega

/-- The bytes of a list, from one behind p on. -/
def riseB : Int → List Int → List Int
  | _, [] => []
  | p, x :: t => putS ((x - p - 1) % 18446744073709551616) ++ riseB x t
/-- The bytes of a list. -/
def putR (l : List Int) : List Int := putS l.length ++ riseB 18446744073709551615 l

/-- A list of so many numbers that rises from p on, got from a place on. -/
def riseG (zs : List Int) : Nat → Int → Int → Option (List Int × Int)
  | 0, _, q => some ([], q)
  | c + 1, p, q =>
    match getS zs q with
    | none => none
    | some (d, nx) => if 18446744073709551615 - p ≤ d then none else (riseG zs c (p + d + 1) nx).map fun r => ((p + d + 1) :: r.1, r.2)

/-- The list at a place, of at most so many, and the place behind it. -/
def riseS (zs : List Int) (p most : Int) : Option (List Int × Int) :=
  match sizeS zs p most with
  | none => none
  | some (v, fr) => riseG zs v.toNat (-1) fr

/-- It rises, from above p on. -/
def Rises : Int → List Int → Prop
  | _, [] => True
  | p, x :: t => p < x ∧ Rises x t

theorem w64_mod (x : Int) : W64 (x % 18446744073709551616) := ⟨by omega, by omega⟩

theorem riseB_top (l : List Int) : riseB (-1) l = riseB 18446744073709551615 l := by
  cases l with
  | nil => rfl
  | cons x t =>
    simp only [riseB]
    congr 2
    omega

theorem riseB_byte (p : Int) (l : List Int) : Bytes8 (riseB p l) := by
  induction l generalizing p with
  | nil => intro z hz; simp [riseB] at hz
  | cons x t ih => exact Bytes8.append (putS_byte (w64_mod _)) (ih x)
theorem riseB_len (p : Int) (l : List Int) : l.length ≤ (riseB p l).length ∧ (riseB p l).length ≤ 10 * l.length := by
  induction l generalizing p with
  | nil => simp [riseB]
  | cons x t ih =>
    have h1 := putS_len ((x - p - 1) % 18446744073709551616)
    have h2 := ih x
    simp only [riseB, List.length_append, List.length_cons]
    omega
theorem putR_byte {l : List Int} (h : l.length ≤ 9223372036854775807) : Bytes8 (putR l) := Bytes8.append (putS_byte (w64_len h)) (riseB_byte _ _)

theorem riseG_back {zs : List Int} (hz : Bytes8 zs) (c : Nat) (p q e : Int) (l : List Int) (hp : -1 ≤ p) (h : riseG zs c p q = some (l, e)) (k : Nat) (hk : q = k) (hkl : k ≤ zs.length) :
    l.length = c ∧ Rises p l ∧ (∀ x ∈ l, W64 x) ∧ e = ((k + (riseB p l).length : Nat) : Int) ∧ k + (riseB p l).length ≤ zs.length ∧ ∃ t, zs.drop k = riseB p l ++ t := by
  induction c generalizing p q l k with
  | zero =>
    simp only [riseG, Option.some.injEq, Prod.mk.injEq] at h
    obtain ⟨rfl, rfl⟩ := h
    exact ⟨rfl, trivial, by simp, by simp [riseB, hk], by simpa [riseB] using hkl, zs.drop k, by simp [riseB]⟩
  | succ c ih =>
    simp only [riseG] at h
    split at h
    · simp at h
    · rename_i d nx hg
      split at h
      · simp at h
      · rename_i hd
        cases hr : riseG zs c (p + d + 1) nx with
        | none => rw [hr] at h; simp at h
        | some r =>
          rw [hr] at h
          simp only [Option.map_some, Option.some.injEq, Prod.mk.injEq] at h
          obtain ⟨h1, h2⟩ := h
          obtain ⟨l', e'⟩ := r
          simp only at h1 h2
          subst h2
          subst h1
          obtain ⟨hw, k', hk', _, hnx, hle, t, ht⟩ := getS_some hz hg
          have : k' = k := by omega
          subst this
          have hd0 := hw.1
          have hd1 := hw.2
          have e1 : (p + d + 1 - p - 1) % 18446744073709551616 = d := by omega
          obtain ⟨i1, i2, i3, i4, i5, t', i6⟩ := ih (p + d + 1) nx l' (by omega) hr (k' + (putS d).length) hnx hle
          rw [← List.drop_drop, ht, List.drop_left] at i6
          refine ⟨by simp [i1], ⟨by omega, i2⟩, ?_, ?_, ?_, t', ?_⟩
          · intro x hx
            rcases List.mem_cons.1 hx with rfl | hx
            · exact ⟨by omega, by omega⟩
            · exact i3 x hx
          · simp only [riseB, e1, List.length_append]; rw [i4]; omega
          · simp only [riseB, e1, List.length_append]; omega
          · simp only [riseB, e1]; rw [ht, i6, List.append_assoc]

theorem riseG_at (l : List Int) (p : Int) (hp : -1 ≤ p) (hr : Rises p l) (hw : ∀ x ∈ l, W64 x) (xs ys : List Int) :
    riseG (xs ++ (riseB p l ++ ys)) l.length p xs.length = some (l, ((xs.length + (riseB p l).length : Nat) : Int)) := by
  induction l generalizing p xs with
  | nil => simp [riseG, riseB]
  | cons x t ih =>
    have hx := hw x (by simp)
    have hx0 := hx.1
    have hx1 := hx.2
    have hpx := hr.1
    have e1 : (x - p - 1) % 18446744073709551616 = x - p - 1 := by omega
    simp only [riseB, List.length_cons, riseG, e1]
    have hg := getS_at (v := x - p - 1) ⟨by omega, by omega⟩ xs (riseB x t ++ ys)
    rw [List.append_assoc, hg]
    simp only
    rw [if_neg (by omega), show p + (x - p - 1) + 1 = x from by omega]
    have hi := ih x (by omega) hr.2 (fun y hy => hw y (by simp [hy])) (xs ++ putS (x - p - 1))
    rw [List.append_assoc, List.length_append] at hi
    rw [hi]
    simp only [Option.map_some, Option.some.injEq, Prod.mk.injEq, true_and, List.length_append]
    omega

theorem riseS_back {zs : List Int} {p most e : Int} {l : List Int} (hz : Bytes8 zs) (h : riseS zs p most = some (l, e)) :
    Rises (-1) l ∧ (∀ x ∈ l, W64 x) ∧ (l.length : Int) ≤ most ∧ l.length ≤ zs.length ∧ ∃ k : Nat, p = k ∧ (k : Int) < e ∧ e ≤ zs.length ∧ ∃ t, zs.drop k = putR l ++ t ∧ e = ((k + (putR l).length : Nat) : Int) := by
  unfold riseS at h
  split at h
  · simp at h
  · rename_i v fr hs
    obtain ⟨hg, v0, vm, _, hle⟩ := sizeS_some hz hs
    obtain ⟨hw, k, rfl, hk, hfr, hle2, t, ht⟩ := getS_some hz hg
    obtain ⟨m, rfl⟩ := Int.eq_ofNat_of_zero_le v0
    rw [Int.toNat_natCast] at h
    have hl1 := (putS_len (m : Int)).1
    obtain ⟨i1, i2, i3, i4, i5, t', i6⟩ := riseG_back hz m (-1) fr e l (by omega) h (k + (putS (m : Int)).length) hfr hle2
    rw [← List.drop_drop, ht, List.drop_left] at i6
    rw [riseB_top] at i4 i5 i6
    refine ⟨i2, i3, by omega, by omega, k, rfl, by omega, by omega, t', ?_, ?_⟩
    · unfold putR; rw [ht, i6, i1, List.append_assoc]
    · unfold putR; rw [i4, i1, List.length_append]; omega

end Go.Proofs.YtknghoecjobkiaaGreatDoor

namespace Go.Proofs.YtknghoecjobkiaaGreatDoor
open Go.RowKit
set_option maxRecDepth 20000
theorem hide {p : Prop} (h : p) : Hid p := h
/-- A word. -/
def Word (x : Int) : Prop := 0 ≤ x ∧ x < 18446744073709551616
theorem ret_u64 {k : IntKind} {a b : Int} (h : a = b) : Ending.returned (.int k a) = .returned (.int k b) := by rw [h]
theorem u8_of_wf {x : Int} (h : (Lit.int .u8 x).wf = true) : 0 ≤ x ∧ x ≤ 255 := by
  simp [Lit.wf, IntKind.min, IntKind.max, IntKind.signed, IntKind.bits] at h
  exact ⟨by omega, by omega⟩
theorem wf_of_u8 {x : Int} (h0 : 0 ≤ x) (h1 : x ≤ 255) : (Lit.int .u8 x).wf = true := by
  simp [Lit.wf, IntKind.min, IntKind.max, IntKind.signed, IntKind.bits]
  omega
theorem u64_of_wf {x : Int} (h : (Lit.int .u64 x).wf = true) : W64 x := by
  simp [Lit.wf, IntKind.min, IntKind.max, IntKind.signed, IntKind.bits] at h
  exact ⟨by omega, by omega⟩
theorem wf_of_u64 {x : Int} (h : W64 x) : (Lit.int .u64 x).wf = true := by
  unfold W64 at h
  simp [Lit.wf, IntKind.min, IntKind.max, IntKind.signed, IntKind.bits]
  omega
theorem i64_of_wf {x : Int} (h : (Lit.int .i64 x).wf = true) : -9223372036854775808 ≤ x ∧ x ≤ 9223372036854775807 := by
  simp [Lit.wf, IntKind.min, IntKind.max, IntKind.signed, IntKind.bits] at h
  exact ⟨by omega, by omega⟩

theorem or128_u8 {a : Int} (a0 : 0 ≤ a) (a1 : a ≤ 255) : bits .or .u8 a 128 = a % 128 + 128 := by
  obtain ⟨a, rfl⟩ := Int.eq_ofNat_of_zero_le a0
  have h1 : (BitVec.ofInt 8 (a : Int)).toNat = a := by
    rw [BitVec.ofInt_natCast, BitVec.toNat_ofNat]; exact Nat.mod_eq_of_lt (by omega)
  have h2 : (BitVec.ofInt 8 128).toNat = 128 := by decide
  have e : a ||| 128 = a % 128 + 128 := by
    have h3 : ∀ x, x < 256 → x ||| 128 = x % 128 + 128 := by decide +kernel
    exact h3 a (by omega)
  show IntKind.u8.wrap ((BitVec.ofInt 8 (a : Int) ||| BitVec.ofInt 8 128).toNat : Int) = _
  rw [BitVec.toNat_or, h1, h2, IntKind.wrap_u8, e]
  omega
theorem and127_u8 {a : Int} (a0 : 0 ≤ a) (a1 : a ≤ 255) : bits .and .u8 a 127 = a % 128 := by
  obtain ⟨a, rfl⟩ := Int.eq_ofNat_of_zero_le a0
  have h1 : (BitVec.ofInt 8 (a : Int)).toNat = a := by
    rw [BitVec.ofInt_natCast, BitVec.toNat_ofNat]; exact Nat.mod_eq_of_lt (by omega)
  have h2 : (BitVec.ofInt 8 127).toNat = 127 := by decide
  have e : a &&& 127 = a % 128 := Nat.and_two_pow_sub_one_eq_mod a 7
  show IntKind.u8.wrap ((BitVec.ofInt 8 (a : Int) &&& BitVec.ofInt 8 127).toNat : Int) = _
  rw [BitVec.toNat_and, h1, h2, IntKind.wrap_u8, e]
  omega
theorem nat_u64 {a : Nat} (h : a < 18446744073709551616) : (BitVec.ofInt 64 (a : Int)).toNat = a := by
  rw [BitVec.ofInt_natCast, BitVec.toNat_ofNat]; exact Nat.mod_eq_of_lt (by omega)
/-- Two words that share no bit: the one below 2^j, the other a multiple of it. -/
theorem or_u64 {a b : Int} (j : Nat) (a0 : 0 ≤ a) (a1 : a < 2 ^ j) (c : Int) (c0 : 0 ≤ c) (hb : b = c * 2 ^ j) (h : a + b < 18446744073709551616) : bits .or .u64 a b = a + b := by
  obtain ⟨a, rfl⟩ := Int.eq_ofNat_of_zero_le a0
  obtain ⟨c, rfl⟩ := Int.eq_ofNat_of_zero_le c0
  have hb' : b = ((2 ^ j * c : Nat) : Int) := by rw [hb, Int.natCast_mul, Int.natCast_pow, Int.mul_comm]; rfl
  have ha : a < 2 ^ j := by
    have e : ((2 ^ j : Nat) : Int) = (2 : Int) ^ j := by rw [Int.natCast_pow]; rfl
    rw [← e] at a1
    exact Int.ofNat_lt.1 a1
  subst hb'
  have e : a ||| 2 ^ j * c = a + 2 ^ j * c := by
    rw [Nat.or_comm, ← Nat.two_pow_add_eq_or_of_lt ha, Nat.add_comm]
  show IntKind.u64.wrap ((BitVec.ofInt 64 (a : Int) ||| BitVec.ofInt 64 ((2 ^ j * c : Nat) : Int)).toNat : Int) = _
  rw [BitVec.toNat_or, nat_u64 (by omega), nat_u64 (by omega), IntKind.wrap_u64, e]
  omega
theorem pw_two (j : Nat) : (128 : Int) ^ j = 2 ^ (7 * j) := by
  induction j with
  | zero => rfl
  | succ j ih => rw [pw_succ, ih, Nat.mul_succ, Int.pow_add, Int.mul_comm]; rfl
theorem pw_le : ∀ j, j < 10 → (2 : Int) ^ (7 * j) ≤ 9223372036854775808 := by decide
/-- A byte's seven bits upon what has been got. -/
theorem or_step {V c : Int} (j : Nat) (hj : j ≤ 9) (V0 : 0 ≤ V) (V1 : V < 2 ^ (7 * j)) (c0 : 0 ≤ c) (c1 : c ≤ 127) (h9 : j = 9 → c ≤ 1) :
    ∃ X, bits .or .u64 V (IntKind.u64.wrap (c * 2 ^ (7 * j))) = X ∧ 0 ≤ X ∧ X ≤ 18446744073709551615 ∧ X < 2 ^ (7 * (j + 1)) ∧ X = V + c * 128 ^ j := by
  have e1 : (2 : Int) ^ (7 * (j + 1)) = 128 * 2 ^ (7 * j) := by rw [← pw_two, ← pw_two, pw_succ]
  have hp := pw_le j (by omega)
  have h8 : j < 9 → (2 : Int) ^ (7 * (j + 1)) ≤ 9223372036854775808 := fun h => pw_le (j + 1) (by omega)
  rw [pw_two, e1]
  rw [e1] at h8
  have hp0 : (0 : Int) < 2 ^ (7 * j) := Int.pow_pos (by decide)
  have m0 : 0 ≤ c * 2 ^ (7 * j) := Int.mul_nonneg c0 (by omega)
  have m1 : c * 2 ^ (7 * j) ≤ 127 * 2 ^ (7 * j) := Int.mul_le_mul_of_nonneg_right c1 (by omega)
  have m2 : j = 9 → c * 2 ^ (7 * j) ≤ 1 * 2 ^ (7 * j) := fun h => Int.mul_le_mul_of_nonneg_right (h9 h) (by omega)
  have hX : V + c * 2 ^ (7 * j) < 18446744073709551616 := by
    by_cases h : j = 9
    · have := m2 h; omega
    · have := h8 (by omega); omega
  have hw : IntKind.u64.wrap (c * 2 ^ (7 * j)) = c * 2 ^ (7 * j) := by rw [IntKind.wrap_u64]; omega
  exact ⟨_, by rw [hw]; exact or_u64 (7 * j) V0 V1 c c0 rfl hX, by omega, by omega, by omega, rfl⟩
/-- A word turned left by one, a 1 put in. -/
theorem or1_u64 {y : Int} (y0 : 0 ≤ y) (y1 : y < 9223372036854775808) : bits .or .u64 (y * 2) 1 = y * 2 + 1 := by
  obtain ⟨y, rfl⟩ := Int.eq_ofNat_of_zero_le y0
  rw [Int.mul_comm]
  have e : (2 * y) ||| 1 = 2 * y + 1 := by
    have := Nat.two_pow_add_eq_or_of_lt (i := 1) (b := 1) (by decide) y
    rw [Nat.pow_one] at this
    exact this.symm
  have h2 : (BitVec.ofInt 64 1).toNat = 1 := by decide
  show IntKind.u64.wrap ((BitVec.ofInt 64 ((2 * y : Nat) : Int) ||| BitVec.ofInt 64 1).toNat : Int) = _
  rw [BitVec.toNat_or, nat_u64 (by omega), h2, IntKind.wrap_u64, e]
  omega
theorem not_i64 {v : Int} (h0 : -9223372036854775808 ≤ v) (h1 : v ≤ 9223372036854775807) : bits .xor .i64 (-1) v = -v - 1 := by
  have e : BitVec.ofInt 64 (-1) = BitVec.allOnes 64 := by decide
  show IntKind.i64.wrap ((BitVec.ofInt 64 (-1) ^^^ BitVec.ofInt 64 v).toNat : Int) = _
  rw [e, BitVec.allOnes_xor, BitVec.toNat_not, BitVec.toNat_ofInt, IntKind.wrap_i64]
  have h : (((v % ((2 ^ 64 : Nat) : Int)).toNat : Nat) : Int) = v % 18446744073709551616 := by omega
  omega
theorem and1_u64 {a : Int} (h : W64 a) : bits .and .u64 a 1 = a % 2 := by
  unfold W64 at h
  obtain ⟨a, rfl⟩ := Int.eq_ofNat_of_zero_le h.1
  have h2 : (BitVec.ofInt 64 1).toNat = 1 := by decide
  have e : a &&& 1 = a % 2 := Nat.and_two_pow_sub_one_eq_mod a 1
  show IntKind.u64.wrap ((BitVec.ofInt 64 (a : Int) &&& BitVec.ofInt 64 1).toNat : Int) = _
  rw [BitVec.toNat_and, nat_u64 (by omega), h2, IntKind.wrap_u64, e]
  omega

/-- How many bytes a number of a kind takes (of the two kinds that are met here). -/
def kb : IntKind → Nat
  | .u64 => 8
  | _ => 1
/-- A slice of n numbers that shows zs. -/
def Row (k : IntKind) (w : World) (a : Option Addr) (n : Nat) (zs : List Int) : Prop :=
  zs.length = n ∧ n ≤ 281474976710656 ∧ (∀ z ∈ zs, (Lit.int k z).wf = true) ∧
  (n = 0 ∨ ∃ b off, a = some ⟨b, off, none⟩ ∧ ∀ i, i < n → w.cell? ⟨b, off + i, none⟩ = some (.int k (zs.getD i 0)))

theorem getD_all {p : Int → Prop} {zs : List Int} (h : ∀ z ∈ zs, p z) (h0 : p 0) (i : Nat) : p (zs.getD i 0) := by
  by_cases hi : i < zs.length
  · rw [List.getD_eq_getElem?_getD, List.getElem?_eq_getElem hi]
    exact h _ (List.getElem_mem hi)
  · rw [List.getD_eq_getElem?_getD, List.getElem?_eq_none (by omega)]
    exact h0
theorem Row.byte {w : World} {a : Option Addr} {n : Nat} {zs : List Int} (h : Row .u8 w a n zs) (i : Nat) : 0 ≤ zs.getD i 0 ∧ zs.getD i 0 ≤ 255 :=
  getD_all (fun z hz => u8_of_wf (h.2.2.1 z hz)) (by decide) i
theorem Row.bytes {w : World} {a : Option Addr} {n : Nat} {zs : List Int} (h : Row .u8 w a n zs) : ∀ z ∈ zs, 0 ≤ z ∧ z ≤ 255 := fun z hz => u8_of_wf (h.2.2.1 z hz)
theorem Row.word {w : World} {a : Option Addr} {n : Nat} {zs : List Int} (h : Row .u64 w a n zs) (i : Nat) : W64 (zs.getD i 0) :=
  getD_all (fun z hz => u64_of_wf (h.2.2.1 z hz)) ⟨by decide, by decide⟩ i
theorem Row.words {w : World} {a : Option Addr} {n : Nat} {zs : List Int} (h : Row .u64 w a n zs) : ∀ z ∈ zs, W64 z := fun z hz => u64_of_wf (h.2.2.1 z hz)
theorem Row.below {k : IntKind} {B : Nat} {w w' : World} {a : Option Addr} {n : Nat} {zs : List Int} (h : Row k w a n zs) (hb : Below B w w') (hB : w.heap.size ≤ B) : Row k w' a n zs := by
  obtain ⟨h1, h2, h3, h4⟩ := h
  refine ⟨h1, h2, h3, ?_⟩
  rcases h4 with h4 | ⟨b, off, rfl, hc⟩
  · exact Or.inl h4
  · right
    refine ⟨b, off, rfl, fun i hi => ?_⟩
    have hlt : b < w.heap.size := World.block_lt_of_cell? w _ (hc i hi)
    rw [hb.cell (p := ⟨b, off + i, none⟩) (Nat.lt_of_lt_of_le hlt hB)]
    exact hc i hi
theorem Row.alloc {k : IntKind} {w : World} {a : Option Addr} {n : Nat} {zs : List Int} (h : Row k w a n zs) (o : Obj) : Row k (w.alloc o) a n zs :=
  h.below ((Below.refl _ _).alloc (Nat.le_refl _) _) (Nat.le_refl _)
theorem Row.drew {k : IntKind} {w : World} {a : Option Addr} {n : Nat} {zs : List Int} (h : Row k w a n zs) : Row k w.drew a n zs :=
  h.below ((Below.refl w.heap.size _).drew) (Nat.le_refl _)
theorem Row.to {k : IntKind} {w : World} {a : Option Addr} {n : Nat} {zs : List Int} (h : Row k w a n zs) (m : Nat) (hk : m ≤ n) : Row k w a m (zs.take m) := by
  obtain ⟨h1, h2, h3, h4⟩ := h
  refine ⟨by rw [List.length_take]; omega, by omega, fun z hz => h3 z (List.mem_of_mem_take hz), ?_⟩
  rcases h4 with h4 | ⟨b, off, rfl, hc⟩
  · exact Or.inl (by omega)
  · refine Or.inr ⟨b, off, rfl, fun i hi => ?_⟩
    rw [hc i (by omega)]
    simp [hi]
theorem Row.from {k : IntKind} {w : World} {a : Option Addr} {n cap : Nat} {zs : List Int} (h : Row k w a n zs) (m : Nat) (hk : m ≤ n) (hc : n ≤ cap) : Row k w (if cap = m then a else a.map (·.add m)) (n - m) (zs.drop m) := by
  obtain ⟨h1, h2, h3, h4⟩ := h
  refine ⟨by rw [List.length_drop]; omega, by omega, fun z hz => h3 z (List.mem_of_mem_drop hz), ?_⟩
  by_cases e : m = n
  · exact Or.inl (by omega)
  rcases h4 with h4 | ⟨b, off, rfl, hcell⟩
  · exact Or.inl (by omega)
  · refine Or.inr ⟨b, off + m, ?_, fun i hi => ?_⟩
    · rw [if_neg (by omega)]
      simp [Addr.add_lit]
    · rw [Nat.add_assoc, hcell (m + i) (by omega)]
      simp
theorem nil_row (k : IntKind) (w : World) (a : Option Addr) : Row k w a 0 [] := ⟨rfl, by omega, by simp, Or.inl rfl⟩
theorem Row.nz {k : IntKind} {w : World} {a : Option Addr} {n : Nat} {zs : List Int} (h : Row k w a n zs) : a = none → n = 0 := by
  rintro rfl
  obtain ⟨_, _, _, h4 | ⟨_, _, h, _⟩⟩ := h
  · exact h4
  · simp at h

theorem bel_al {B : Nat} {w x : World} (h : Below B w x) (hB : B ≤ w.heap.size) (o : Obj) : Below B w (x.alloc o) := h.alloc (Nat.le_trans hB h.size) o
theorem bel_to {B : Nat} {w x y : World} (h : Below B w x) (hB : B ≤ w.heap.size) (k : Below x.heap.size x y) : Below B w y := h.trans (k.mono (Nat.le_trans hB h.size))
theorem bel_drewN {B : Nat} {w x : World} (h : Below B w x) (q : Nat) : Below B w (x.drewN q) := ⟨h.os, h.tape, h.output, h.size, h.block⟩
/-- A slice of numbers that lies in memory of the call's own (from block 'base' on). -/
def Own (e : TypeId) (k : IntKind) (w : World) (base : Nat) (a : Option Addr) (n cap : Nat) (zs : List Int) : Prop :=
  w.ownsRow base e 1 (.slice a n cap) n (zs.map (Value.int k))

theorem own_form {e : TypeId} {k : IntKind} {w : World} {base n : Nat} {v : Value} {zs : List Int} (h : w.ownsRow base e 1 v n (zs.map (Value.int k))) : ∃ a cap, v = .slice a n cap ∧ Own e k w base a n cap zs := by
  have h0 := h
  rcases h.2 with ⟨rfl, rfl⟩ | ⟨g, cap, cur, rfl, _⟩
  · exact ⟨none, 0, rfl, h0⟩
  · exact ⟨_, _, rfl, h0⟩
theorem own_nil (e : TypeId) (k : IntKind) (w : World) (base : Nat) : Own e k w base none 0 0 [] := World.ownsRow_nil _ _ _ _

theorem Own.len {e : TypeId} {k : IntKind} {w : World} {base n cap : Nat} {a : Option Addr} {zs : List Int} (h : Own e k w base a n cap zs) : zs.length = n := by
  unfold Own at h
  simpa using h.1
theorem Own.capped {e : TypeId} {k : IntKind} {w : World} {base n cap : Nat} {a : Option Addr} {zs : List Int} (h : Own e k w base a n cap zs) : n ≤ cap ∧ (a = none → cap = 0) := by
  unfold Own at h
  rcases h.2 with ⟨h1, h2⟩ | ⟨g, c, cur, h1, _, _, h4, _⟩
  · simp only [Value.slice.injEq] at h1
    exact ⟨by omega, fun _ => by omega⟩
  · simp only [Value.slice.injEq, true_and] at h1
    obtain ⟨rfl, rfl⟩ := h1
    exact ⟨h4, fun h => by simp at h⟩
theorem Own.row {e : TypeId} {k : IntKind} {w : World} {base n cap : Nat} {a : Option Addr} {zs : List Int} (h : Own e k w base a n cap zs) (hn : n ≤ 281474976710656) (hz : ∀ z ∈ zs, (Lit.int k z).wf = true) : Row k w a n zs := by
  have hl := h.len
  unfold Own at h
  refine ⟨hl, hn, hz, ?_⟩
  rcases h.2 with ⟨h1, h2⟩ | ⟨g, c, cur, h1, _⟩
  · exact Or.inl h2
  · right
    simp only [Value.slice.injEq, true_and] at h1
    obtain ⟨rfl, rfl⟩ := h1
    refine ⟨g, 0, rfl, fun i hi => ?_⟩
    rw [Nat.zero_add, h.cellAt i (by omega), List.getElem?_map, List.getElem?_eq_getElem (by omega), List.getD_eq_getElem?_getD, List.getElem?_eq_getElem (by omega)]
    rfl
theorem Own.mono {e : TypeId} {k : IntKind} {w : World} {base base' n cap : Nat} {a : Option Addr} {zs : List Int} (h : Own e k w base a n cap zs) (hb : base' ≤ base) : Own e k w base' a n cap zs := by
  unfold Own at *
  refine ⟨h.1, ?_⟩
  rcases h.2 with h1 | ⟨g, c, cur, h1, h2, h3⟩
  · exact Or.inl h1
  · exact Or.inr ⟨g, c, cur, h1, Nat.le_trans hb h2, h3⟩
theorem Own.below {e : TypeId} {k : IntKind} {B : Nat} {w w' : World} {base n cap : Nat} {a : Option Addr} {zs : List Int} (h : Own e k w base a n cap zs) (hb : Below B w w') (hB : w.heap.size ≤ B) : Own e k w' base a n cap zs := by
  unfold Own at *
  refine ⟨h.1, ?_⟩
  rcases h.2 with h1 | ⟨g, c, cur, h1, h2, h3, h4⟩
  · exact Or.inl h1
  · have hlt : g < w.heap.size := by
      by_cases hg : g < w.heap.size
      · exact hg
      · rw [Array.getElem?_eq_none (by omega)] at h3; simp at h3
    exact Or.inr ⟨g, c, cur, h1, h2, by rw [hb.block g (by omega)]; exact h3, h4⟩
theorem Own.alloc {e : TypeId} {k : IntKind} {w : World} {base n cap : Nat} {a : Option Addr} {zs : List Int} (h : Own e k w base a n cap zs) (o : Obj) : Own e k (w.alloc o) base a n cap zs :=
  h.below ((Below.refl _ _).alloc (Nat.le_refl _) _) (Nat.le_refl _)
theorem Own.drew {e : TypeId} {k : IntKind} {w : World} {base n cap : Nat} {a : Option Addr} {zs : List Int} (h : Own e k w base a n cap zs) : Own e k w.drew base a n cap zs :=
  h.below ((Below.refl w.heap.size _).drew) (Nat.le_refl _)

/-- A slice behind which something is put in memory of the call's own: it lies there itself, or it has no spare room. -/
def Src (e : TypeId) (k : IntKind) (w : World) (base : Nat) (a : Option Addr) (n cap : Nat) (zs : List Int) : Prop :=
  Own e k w base a n cap zs ∨ (cap = n ∧ Row k w a n zs)

theorem Src.len {e : TypeId} {k : IntKind} {w : World} {base n cap : Nat} {a : Option Addr} {zs : List Int} (h : Src e k w base a n cap zs) : zs.length = n := by
  rcases h with h | ⟨_, h⟩
  · exact h.len
  · exact h.1
theorem Src.alloc {e : TypeId} {k : IntKind} {w : World} {base n cap : Nat} {a : Option Addr} {zs : List Int} (h : Src e k w base a n cap zs) (o : Obj) : Src e k (w.alloc o) base a n cap zs := by
  rcases h with h | ⟨h1, h⟩
  · exact Or.inl (h.alloc o)
  · exact Or.inr ⟨h1, h.alloc o⟩

theorem one_cell (k : IntKind) (zs : List Int) : ∀ u ∈ zs.map (Value.int k), u.oneCell' = true := by
  intro u hu
  obtain ⟨z, _, rfl⟩ := List.mem_map.1 hu
  rfl
theorem getD_map (k : IntKind) (zs : List Int) (j : Nat) (u : Value) (h : (zs.map (Value.int k))[j]? = some u) : j < zs.length ∧ u = .int k (zs.getD j 0) := by
  rw [List.getElem?_map] at h
  by_cases hj : j < zs.length
  · rw [List.getElem?_eq_getElem hj] at h
    refine ⟨hj, ?_⟩
    rw [List.getD_eq_getElem?_getD, List.getElem?_eq_getElem hj]
    simpa using h.symm
  · rw [List.getElem?_eq_none (by omega)] at h
    simp at h
theorem Row.cells {k : IntKind} {w : World} {ad : Addr} {n : Nat} {zs : List Int} (h : Row k w (some ad) n zs) (j : Nat) (u : Value) (hj : (zs.map (Value.int k))[j]? = some u) : w.cell? (ad.add j) = some u := by
  obtain ⟨h1, rfl⟩ := getD_map k zs j u hj
  obtain ⟨hl, _, _, h0 | ⟨b, off, he, hcell⟩⟩ := h
  · omega
  · simp only [Option.some.injEq] at he
    subst he
    rw [Addr.add_lit]
    exact hcell j (by omega)

theorem own_block {e : TypeId} {k : IntKind} {w : World} {base n cap : Nat} {a : Option Addr} {zs : List Int} (h : Own e k w base a n cap zs) : ∀ g, (Value.slice a n cap).ownBlock = some g → base ≤ g := by
  intro g hg
  unfold Own at h
  rcases h.2 with ⟨h1, h2⟩ | ⟨g', c, cur, h1, h2, _⟩
  · rw [h1] at hg; simp [Value.ownBlock] at hg
  · rw [h1] at hg; simp only [Value.ownBlock, Option.some.injEq] at hg; omega

/-- The append of the bytes or numbers of a row, behind either. -/
theorem wpList_append_src {P : Program} {ek : IntKind} (w : World) {ops : Array Oper} {rest : List Oper} {o : Oper} {a : Act} {Q : Exit → Act → World → Prop} (hgd : o.guard = none) (s x : Operand) (t : TypeId)
    (ho : o.op = .call { callee := .builtin .append, args := #[s, x], argTypes := #[t, t] })
    (base : Nat) (e : TypeId) (i : TypeInfo) (bytes : Nat) (ht : P.underlying t = some (.slice e)) (hi : P.info? e = some i) (hz : i.zero = some (.int ek 0)) (hsize : i.size = 1) (hby : i.bytes = bytes)
    (ao : Option Addr) (n cap : Nat) (zs : List Int) (hs : a.eval s = .slice ao n cap) (hsrc : Src e ek w base ao n cap zs)
    (ad : Addr) (m c : Nat) (news : List Int) (hx : a.eval x = .slice (some ad) m c) (hm : 0 < m) (hrow : Row ek w (some ad) m news)
    (hbytes : (n + m) * bytes ≤ 140737488355328) (hb0 : 0 < bytes) (hbase : base ≤ w.heap.size)
    (h : ∀ a' cap' w', Own e ek w' base a' (n + m) cap' (zs ++ news) → Below base w w' → wpList P ops Q rest (a.put o.dst (.slice a' (n + m) cap')) w') : wpList P ops Q (o :: rest) a w := by
  have hnm : n + m ≤ maxLen := by
    have := Nat.le_mul_of_pos_right (n + m) hb0
    unfold maxLen; omega
  rcases hsrc with hown | ⟨rfl, hr⟩
  · refine wpList_append_own w hgd s x t ho base e i (.int ek 0) 1 bytes ht hi hz hsize hby rfl (by decide) _ n (zs.map (Value.int ek)) hs hown ad m c (news.map (Value.int ek)) hx (by simp [hrow.1]) hrow.cells (one_cell ek news) hnm hbytes hbase ?_
    intro v' w' h1 h2 _
    rw [← List.map_append] at h1
    obtain ⟨a', cap', rfl, h3⟩ := own_form h1
    exact h a' cap' w' h3 ((Below.refl _ _).grown h2 hbase (own_block hown))
  · refine wpList_append_grows w hgd s x t ho e i (.int ek 0) 1 bytes ht hi hz hsize hby rfl (by decide) ao cap cap (zs.map (Value.int ek)) hs (fun h => ⟨hr.nz h, hr.nz h⟩) (by simp [hr.1]) (by rintro b rfl; exact hr.cells) ad m c (news.map (Value.int ek)) hx (by simp [hrow.1]) hrow.cells (one_cell ek news) (by omega) hnm hbytes ?_
    intro v' w' h1 h2
    rw [← List.map_append] at h1
    obtain ⟨a', cap', rfl, h3⟩ := own_form h1
    exact h a' cap' w' (h3.mono hbase) (((Below.refl w.heap.size _).grown h2 (Nat.le_refl _) (fun k hk => by simp at hk)).mono hbase)

theorem cap_fits {n : Nat} (h : n ≤ 211106232532990) : Builtin.nextslicecap (n + 1) n * 1 ≤ 281474976710656 := by
  unfold Builtin.nextslicecap
  split
  · omega
  · split
    · omega
    · rw [growBy_four]
      repeat' split
      all_goals omega

/-- One byte behind either: up to one half more than 2^47 bytes, for one byte alone never asks for much more room than there is. -/
theorem wpList_append_one {P : Program} (w : World) {ops : Array Oper} {rest : List Oper} {o : Oper} {a : Act} {Q : Exit → Act → World → Prop} (hgd : o.guard = none) (s x : Operand) (t : TypeId)
    (ho : o.op = .call { callee := .builtin .append, args := #[s, x], argTypes := #[t, t] })
    (base : Nat) (e : TypeId) (i : TypeInfo) (ht : P.underlying t = some (.slice e)) (hi : P.info? e = some i) (hz : i.zero = some (.int .u8 0)) (hsize : i.size = 1) (hby : i.bytes = 1)
    (ao : Option Addr) (n cap : Nat) (zs : List Int) (hs : a.eval s = .slice ao n cap) (hsrc : Src e .u8 w base ao n cap zs)
    (ad : Addr) (c : Nat) (z : Int) (hx : a.eval x = .slice (some ad) 1 c) (hrow : Row .u8 w (some ad) 1 [z])
    (hbytes : n ≤ 211106232532990) (hbase : base ≤ w.heap.size)
    (h : ∀ a' cap' w', Own e .u8 w' base a' (n + 1) cap' (zs ++ [z]) → Below base w w' → wpList P ops Q rest (a.put o.dst (.slice a' (n + 1) cap')) w') : wpList P ops Q (o :: rest) a w := by
  by_cases hn : n + 1 ≤ 140737488355328
  · exact wpList_append_src w hgd s x t ho base e i 1 ht hi hz hsize hby ao n cap zs hs hsrc ad 1 c [z] hx (by decide) hrow (by omega) (by decide) hbase h
  -- the arm that grows, a slice without spare room
  have grow : ∀ b, ao = some b → cap = n → (∀ j u, (zs.map (Value.int .u8))[j]? = some u → w.cell? (b.add j) = some u) → wpList P ops Q (o :: rest) a w := by
    rintro b rfl rfl holds
    have hl := hsrc.len
    have hlen : (zs.map (Value.int .u8)).length = cap * i.size := by rw [List.length_map, hl, hsize, Nat.mul_one]
    have hr := run_append_grow (P := P) w t o.type e i (.int .u8 0) ht hi hz b cap cap (zs.map (Value.int .u8)) hlen holds ad 1 c ([z].map (Value.int .u8)) (by rw [hsize]; rfl) hrow.cells (by omega) (by omega) (by rw [hby]; exact cap_fits hbytes)
    have hge := grownCap_ge w (cap + 1) cap e
    have hcm : grownCap w (cap + 1) cap e ≤ maxLen := grownCap_le_maxLen w (cap + 1) cap e (by unfold maxLen; omega)
    refine wpList_plain hgd fun K hK => ?_
    unfold Oper.wp execOp
    simp only [ho, resolve, invoke, builtin, Sem.run_bind, Sem.run_pure, Result.andThen_ok, List.map_toArray, List.map_cons, List.map_nil, hs, hx]
    rw [hr]
    refine hK _ _ (h _ _ _ ?_ ?_)
    · refine Own.mono (base := w.heap.size) ?_ hbase
      refine ⟨by simp [hl], .inr ⟨w.heap.size, _, _, rfl, Nat.le_refl _, heap_alloc_new w.drew _, hge, hcm, ?_, ?_⟩⟩
      · simp only [Array.size_append, List.size_toArray, size_zeroCells, List.length_map, hl, Value.cells]
        simp
        omega
      · rw [Array.toList_append, Array.toList_append, Nat.mul_one, List.map_append]
        have : (zs.map (Value.int .u8) ++ [z].map (Value.int .u8)).length = cap + 1 := by simp [hl]
        rw [← this]
        exact List.take_left
    · exact ((Below.refl w.heap.size w).drew.alloc (Nat.le_refl _) _).mono hbase
  rcases id hsrc with hown | ⟨rfl, hr⟩
  · have hcap := hown.capped
    have hown0 := hown
    unfold Own at hown
    rcases hown.2 with ⟨_, h2⟩ | ⟨g, cp, cur, h1, _⟩
    · omega
    · simp only [Value.slice.injEq, true_and] at h1
      obtain ⟨rfl, rfl⟩ := h1
      by_cases hroom : n + 1 ≤ cap
      · refine wpList_append_fits w hgd s x t ho base e i 1 ht hi hsize g n cap (zs.map (Value.int .u8)) hs hown ad 1 c ([z].map (Value.int .u8)) hx rfl hrow.cells (one_cell .u8 [z]) hroom ?_
        intro w' h1 h2
        rw [← List.map_append] at h1
        exact h _ _ _ h1 ((Below.refl _ _).grown h2 hbase (own_block hown0))
      · exact grow _ rfl (by omega) (hown.cells (g := g) rfl)
  · cases ao with
    | none => have := hr.nz rfl; omega
    | some b => exact grow b rfl rfl hr.cells

/-- One number in a block of its own: what an append of one number lays. -/
theorem one_row {k : IntKind} (w : World) (z : Int) (hz : (Lit.int k z).wf = true) (e : TypeId) (m : Nat × Nat) : Row k (w.alloc (.cells #[.int k z] e m)) (some ⟨w.heap.size, 0, none⟩) 1 [z] := by
  refine ⟨rfl, by omega, by simpa using hz, Or.inr ⟨_, _, rfl, fun i hi => ?_⟩⟩
  have : i = 0 := by omega
  subst this
  rw [World.cell?_alloc_mark]
  rfl

/-- A string's bytes as numbers. -/
def numsOf (s : ByteArray) : List Int := s.data.toList.map fun b => (b.toNat : Int)
theorem numsOf_len (s : ByteArray) : (numsOf s).length = s.size := by unfold numsOf; rw [List.length_map, Array.length_toList]; rfl
theorem numsOf_wf (s : ByteArray) : ∀ z ∈ numsOf s, (Lit.int .u8 z).wf = true := by
  intro z hz
  obtain ⟨b, _, rfl⟩ := List.mem_map.1 hz
  exact wf_of_u8 (by omega) (by have := b.toNat_lt; omega)
theorem strCells_nums (s : ByteArray) : Lib.strCells s = (numsOf s).map (Value.int .u8) := by
  unfold Lib.strCells numsOf
  rw [List.map_map]; rfl
theorem strOf_nums (s : ByteArray) : strOfNums (numsOf s) = s := by
  unfold strOfNums numsOf
  rw [List.map_map]
  have : (fun n : Int => UInt8.ofNat n.toNat) ∘ (fun b : UInt8 => (b.toNat : Int)) = id := by funext b; simp
  rw [this, List.map_id]
/-- The append of a text behind bytes of the call's own. -/
theorem wpList_append_text {P : Program} (w : World) {ops : Array Oper} {rest : List Oper} {o : Oper} {a : Act} {Q : Exit → Act → World → Prop} (hgd : o.guard = none) (sl x : Operand) (t u : TypeId)
    (ho : o.op = .call { callee := .builtin .append, args := #[sl, x], argTypes := #[t, u] })
    (base : Nat) (e : TypeId) (i : TypeInfo) (ht : P.underlying t = some (.slice e)) (hu : P.underlying u = some .string) (hi : P.info? e = some i) (hz : i.zero = some (.int .u8 0)) (hsize : i.size = 1) (hby : i.bytes = 1)
    (ao : Option Addr) (n cap : Nat) (zs : List Int) (hs : a.eval sl = .slice ao n cap) (hown : Own e .u8 w base ao n cap zs) (s : ByteArray) (hx : a.eval x = .string s)
    (hbytes : n + s.size ≤ 140737488355328) (hbase : base ≤ w.heap.size)
    (h : ∀ a' cap' w', Own e .u8 w' base a' (n + s.size) cap' (zs ++ numsOf s) → Below base w w' → wpList P ops Q rest (a.put o.dst (.slice a' (n + s.size) cap')) w') : wpList P ops Q (o :: rest) a w := by
  refine Lib.wpList_append_own_string w hgd sl x t u ho base e i ht hu hi hz hsize hby _ n (zs.map (Value.int .u8)) hs hown s hx (by unfold maxLen; omega) hbytes hbase ?_
  intro v' w' h1 h2 _
  rw [strCells_nums, ← List.map_append] at h1
  obtain ⟨a', cap', rfl, h3⟩ := own_form h1
  exact h a' cap' w' h3 ((Below.refl _ _).grown h2 hbase (own_block hown))
def bodyL (l : List Lb) : List Int := l.flatMap fun x => putT (numsOf x.1) ++ putT (numsOf x.2)
def putL (l : List Lb) : List Int := putS l.length ++ bodyL l
theorem bodyL_nil : bodyL [] = [] := rfl
theorem bodyL_cons (x : Lb) (l : List Lb) : bodyL (x :: l) = putT (numsOf x.1) ++ (putT (numsOf x.2) ++ bodyL l) := by simp [bodyL]
theorem bodyL_append (l m : List Lb) : bodyL (l ++ m) = bodyL l ++ bodyL m := by simp [bodyL]

def rdL (zs : List Int) : Nat → Int → Option (List Lb × Int)
  | 0, p => some ([], p)
  | k + 1, p => match textS zs p 32 with
    | none => none
    | some r => match textS zs r.2 64 with
      | none => none
      | some q => (rdL zs k q.2).map fun x => ((strOfNums r.1, strOfNums q.1) :: x.1, x.2)
/-- What is read counts if it may be. -/
def finL (r : Option (List Lb × Int)) : Option (List Lb × Int) :=
  match r with
  | none => none
  | some q => if chkL q.1 = true then some q else none
def getL (zs : List Int) (p : Int) : Option (List Lb × Int) :=
  match getS zs p with
  | none => none
  | some r => if 8 < r.1 then none else finL (rdL zs r.1.toNat r.2)

theorem textS_more {zs : List Int} {p m m' : Int} {r : List Int × Int} (h : textS zs p m = some r) (hm : m ≤ m') : textS zs p m' = some r := by
  unfold textS sizeS at *
  cases hg : getS zs p with
  | none => rw [hg] at h; cases h
  | some q =>
    rw [hg] at h
    simp only at h ⊢
    by_cases c : m < 0 ∨ m < q.1 ∨ (zs.length : Int) - q.2 < q.1
    · rw [if_pos c] at h; cases h
    · rw [if_neg c] at h
      rw [if_neg (by omega)]
      exact h

theorem rdL_step {zs : List Int} {k : Nat} {p q e : Int} {s t : List Int} (h1 : textS zs p 32 = some (s, q)) (h2 : textS zs q 64 = some (t, e)) :
    rdL zs (k + 1) p = (rdL zs k e).map fun x => ((strOfNums s, strOfNums t) :: x.1, x.2) := by
  rw [rdL, h1]
  simp only [h2]
theorem rdL_no1 {zs : List Int} {k : Nat} {p : Int} (h1 : textS zs p 32 = none) : rdL zs (k + 1) p = none := by
  rw [rdL, h1]
theorem rdL_no2 {zs : List Int} {k : Nat} {p q : Int} {s : List Int} (h1 : textS zs p 32 = some (s, q)) (h2 : textS zs q 64 = none) : rdL zs (k + 1) p = none := by
  rw [rdL, h1]
  simp only [h2]

theorem rdL_size {zs : List Int} (hz : Bytes8 zs) : ∀ (k : Nat) (p e : Int) (l : List Lb), rdL zs k p = some (l, e) → l.length = k ∧ (k = 0 ∨ 0 ≤ p ∧ p + k ≤ e ∧ e ≤ zs.length) ∧ (k = 0 → e = p)
  | 0, p, e, l, h => by
    rw [rdL] at h
    cases h
    exact ⟨rfl, Or.inl rfl, fun _ => rfl⟩
  | k + 1, p, e, l, h => by
    cases h1 : textS zs p 32 with
    | none => rw [rdL_no1 h1] at h; cases h
    | some r =>
      obtain ⟨s, q⟩ := r
      cases h2 : textS zs q 64 with
      | none => rw [rdL_no2 h1 h2] at h; cases h
      | some r =>
        obtain ⟨t, f⟩ := r
        rw [rdL_step h1 h2] at h
        cases h3 : rdL zs k f with
        | none => rw [h3] at h; cases h
        | some r =>
          obtain ⟨m, f'⟩ := r
          rw [h3] at h
          simp only [Option.map_some, Option.some.injEq, Prod.mk.injEq] at h
          obtain ⟨rfl, rfl⟩ := h
          obtain ⟨i1, i2, i3⟩ := rdL_size hz k f f' m h3
          obtain ⟨a, rfl, a1, a2, _⟩ := textS_back hz h1
          obtain ⟨b, rfl, b1, b2, _⟩ := textS_back hz h2
          refine ⟨by rw [List.length_cons, i1], Or.inr ⟨by omega, ?_, ?_⟩, fun c => by omega⟩
          · rcases i2 with rfl | i2
            · rw [i3 rfl]; omega
            · omega
          · rcases i2 with rfl | i2
            · rw [i3 rfl]; omega
            · omega

end Go.Proofs.YtknghoecjobkiaaGreatDoor

namespace Go.Proofs.YtknghoecjobkiaaGreatDoor.Fl
open Ieee

theorem sw : double.signWeight = 9223372036854775808 := by decide
theorem bi : double.binade = 4503599627370496 := by decide
theorem ir : double.infRung = 9218868437227405312 := by decide
theorem lp : double.leastPlace = -1074 := by decide

/-- The rung of a word. -/
def rg (b : Nat) : Nat := b % 9223372036854775808
/-- Whether the sign is there. -/
def ng (b : Nat) : Bool := decide (9223372036854775808 ≤ b)
/-- Whether it is no number. -/
def nanB (b : Nat) : Bool := decide (9218868437227405312 < rg b)
/-- A number that rises as the floats do; the same for both noughts. -/
def val (b : Nat) : Int := if 9223372036854775808 ≤ b then -(rg b : Int) else rg b

def mg (r : Nat) : Nat := if r < 4503599627370496 then r else 4503599627370496 + r % 4503599627370496
def pl (r : Nat) : Nat := r / 4503599627370496 - 1
def M (r : Nat) : Nat := mg r * 2 ^ pl r

theorem neg_eq {b : Nat} (h : b < 18446744073709551616) : (b / 9223372036854775808 % 2 == 1) = ng b := by
  unfold ng
  by_cases k : 9223372036854775808 ≤ b
  · rw [decide_eq_true k]; exact beq_iff_eq.2 (by omega)
  · rw [decide_eq_false k]; exact beq_eq_false_iff_ne.2 (by omega)

theorem read_fin {b : Nat} (h : b < 18446744073709551616) (hr : rg b < 9218868437227405312) :
    double.read b = .number (ng b) (mg (rg b)) (-1074 + (pl (rg b) : Nat)) := by
  unfold rg at hr
  unfold Format.read
  simp only [sw, bi, ir, lp, neg_eq h]
  unfold mg pl rg
  by_cases k : b % 9223372036854775808 < 4503599627370496
  · rw [if_pos k, if_pos k]
    have : b % 9223372036854775808 / 4503599627370496 - 1 = 0 := by omega
    rw [this]; simp
  · rw [if_neg k, if_pos hr, if_neg k]

theorem read_inf {b : Nat} (h : b < 18446744073709551616) (hr : rg b = 9218868437227405312) :
    double.read b = .infinity (ng b) := by
  unfold rg at hr
  unfold Format.read
  simp only [sw, bi, ir, lp, neg_eq h]
  rw [if_neg (by omega), if_neg (by omega), if_pos hr]

theorem read_nan {b : Nat} (h : b < 18446744073709551616) (hr : 9218868437227405312 < rg b) :
    double.read b = .nan (ng b) (rg b - 9218868437227405312) := by
  unfold rg at hr
  unfold Format.read
  simp only [sw, bi, ir, lp, neg_eq h]
  rw [if_neg (by omega), if_neg (by omega), if_neg (by omega)]
  rfl

theorem fmg_lt (r : Nat) : mg r < 9007199254740992 := by unfold mg; split <;> omega
theorem M_lt_top (r : Nat) : M r < 4503599627370496 * 2 ^ (r / 4503599627370496) := by
  unfold M mg pl
  by_cases k : r < 4503599627370496
  · rw [if_pos k]
    have e : r / 4503599627370496 = 0 := by omega
    rw [e]; simpa using k
  · rw [if_neg k]
    obtain ⟨e, he⟩ : ∃ e, r / 4503599627370496 = e + 1 := ⟨r / 4503599627370496 - 1, by omega⟩
    rw [he, Nat.add_sub_cancel, Nat.pow_succ]
    have : 4503599627370496 * (2 ^ e * 2) = 9007199254740992 * 2 ^ e := by omega
    rw [this]
    exact Nat.mul_lt_mul_of_pos_right (by omega) (Nat.two_pow_pos e)
theorem M_ge_bot {r : Nat} (k : 4503599627370496 ≤ r) : 4503599627370496 * 2 ^ (r / 4503599627370496 - 1) ≤ M r := by
  unfold M mg pl
  rw [if_neg (by omega)]
  exact Nat.mul_le_mul_right _ (by omega)

theorem M_mono {a b : Nat} (h : a < b) : M a < M b := by
  by_cases e : a / 4503599627370496 = b / 4503599627370496
  · unfold M
    have hp : pl a = pl b := by unfold pl; rw [e]
    rw [hp]
    refine Nat.mul_lt_mul_of_pos_right ?_ (Nat.two_pow_pos _)
    unfold mg
    split <;> split <;> omega
  · have hb : 4503599627370496 ≤ b := by omega
    refine Nat.lt_of_lt_of_le (M_lt_top a) (Nat.le_trans ?_ (M_ge_bot hb))
    exact Nat.mul_le_mul_left _ (Nat.pow_le_pow_right (by omega) (by omega))
theorem M_lt_iff (a b : Nat) : M a < M b ↔ a < b := by
  refine ⟨fun h => ?_, M_mono⟩
  rcases Nat.lt_trichotomy a b with k | k | k
  · exact k
  · subst k; omega
  · have := M_mono k; omega
theorem M_eq_iff (a b : Nat) : M a = M b ↔ a = b := by
  refine ⟨fun h => ?_, fun h => by rw [h]⟩
  rcases Nat.lt_trichotomy a b with k | k | k
  · have := M_mono k; omega
  · exact k
  · have := M_mono k; omega
theorem M_zero : M 0 = 0 := by decide

/-- A float's magnitude, over the place that it shares with another. -/
theorem fscaled (a : Nat) (k : Nat) (h : k ≤ pl a) : (mg a * 2 ^ (pl a - k)) * 2 ^ k = M a := by
  unfold M
  rw [Nat.mul_assoc, ← Nat.pow_add]
  congr 2; omega

theorem int_cmp {a b c d : Int} (h1 : a < b ↔ c < d) (h2 : a = b ↔ c = d) : compare a b = compare c d := by
  show compareOfLessAndEq a b = compareOfLessAndEq c d
  unfold compareOfLessAndEq
  simp only [h1, h2]

def sg (s : Bool) (n : Nat) : Int := if s then -(n : Int) else n

theorem signed_eq (s : Bool) (m u : Nat) : signed s m u = sg s (m * 2 ^ u) := by
  unfold signed sg; rw [Nat.shiftLeft_eq]

theorem sg_scale (s : Bool) (n k : Nat) : sg s n * (2 ^ k : Nat) = sg s (n * 2 ^ k) := by
  unfold sg
  cases s
  · simp
  · simp [Int.neg_mul]

theorem sg_cmp (s t : Bool) (a b : Nat) : (sg s (M a) < sg t (M b) ↔ sg s a < sg t b) ∧ (sg s (M a) = sg t (M b) ↔ sg s a = sg t b) := by
  have h1 := M_lt_iff a b
  have h2 := M_lt_iff b a
  have h3 := M_eq_iff a b
  have h4 := M_eq_iff a 0
  have h5 := M_eq_iff b 0
  rw [M_zero] at h4 h5
  unfold sg
  cases s <;> cases t <;> simp only [Bool.false_eq_true, if_false, if_true] <;> constructor <;> omega

theorem val_eq (b : Nat) : val b = sg (ng b) (rg b) := by
  unfold val sg ng
  by_cases k : 9223372036854775808 ≤ b
  · rw [if_pos k, decide_eq_true k, if_pos rfl]
  · rw [if_neg k, decide_eq_false k]; rfl

theorem order_fin {x y : Nat} (hx : x < 18446744073709551616) (hy : y < 18446744073709551616) (fx : rg x < 9218868437227405312) (fy : rg y < 9218868437227405312) :
    double.order x y = some (compare (val x) (val y)) := by
  unfold Format.order
  rw [read_fin hx fx, read_fin hy fy]
  simp only [Datum.order, signed_eq]
  congr 1
  rw [val_eq, val_eq]
  generalize rg x = a
  generalize rg y = b
  have hk : ∃ k : Nat, k = min (pl a) (pl b) := ⟨_, rfl⟩
  obtain ⟨k, hk⟩ := hk
  have e1 : (-1074 + ((pl a : Nat) : Int) - min (-1074 + ((pl a : Nat) : Int)) (-1074 + ((pl b : Nat) : Int))).toNat = pl a - k := by omega
  have e2 : (-1074 + ((pl b : Nat) : Int) - min (-1074 + ((pl a : Nat) : Int)) (-1074 + ((pl b : Nat) : Int))).toNat = pl b - k := by omega
  rw [e1, e2]
  obtain ⟨c1, c2⟩ := sg_cmp (ng x) (ng y) a b
  have hp : (0 : Int) < ((2 ^ k : Nat) : Int) := by exact_mod_cast Nat.two_pow_pos k
  rw [← fscaled a k (by omega), ← fscaled b k (by omega), ← sg_scale (ng x) (mg a * 2 ^ (pl a - k)) k, ← sg_scale (ng y) (mg b * 2 ^ (pl b - k)) k] at c1 c2
  refine int_cmp ?_ ?_
  · rw [← c1]
    exact ⟨fun h => Int.mul_lt_mul_of_pos_right h hp, fun h => Int.lt_of_mul_lt_mul_right h (Int.le_of_lt hp)⟩
  · rw [← c2]
    exact ⟨fun h => by rw [h], fun h => Int.eq_of_mul_eq_mul_right (Int.ne_of_gt hp) h⟩

theorem order_nan {x y : Nat} (hx : x < 18446744073709551616) (hy : y < 18446744073709551616) (h : 9218868437227405312 < rg x ∨ 9218868437227405312 < rg y) :
    double.order x y = none := by
  unfold Format.order
  rcases h with h | h
  · rw [read_nan hx h]; rfl
  · rw [read_nan hy h]
    cases double.read x <;> rfl

theorem fcmp_lt {a b : Int} (h : a < b) : compare a b = .lt := by
  show compareOfLessAndEq a b = _
  unfold compareOfLessAndEq; rw [if_pos h]
theorem fcmp_gt {a b : Int} (h : b < a) : compare a b = .gt := by
  show compareOfLessAndEq a b = _
  unfold compareOfLessAndEq; rw [if_neg (by omega), if_neg (by omega)]
theorem fcmp_eq {a b : Int} (h : a = b) : compare a b = .eq := by
  show compareOfLessAndEq a b = _
  unfold compareOfLessAndEq; rw [if_neg (by omega), if_pos h]

theorem order_num {x y : Nat} (hx : x < 18446744073709551616) (hy : y < 18446744073709551616) (fx : rg x ≤ 9218868437227405312) (fy : rg y ≤ 9218868437227405312) :
    double.order x y = some (compare (val x) (val y)) := by
  by_cases ix : rg x = 9218868437227405312
  · by_cases iy : rg y = 9218868437227405312
    · unfold Format.order
      rw [read_inf hx ix, read_inf hy iy, val_eq, val_eq, ix, iy]
      unfold sg
      cases ng x <;> cases ng y <;> decide
    · unfold Format.order
      rw [read_inf hx ix, read_fin hy (by omega), val_eq, val_eq, ix]
      simp only [Datum.order]
      unfold sg
      cases ng x
      · rw [fcmp_gt]; · rfl
        cases ng y <;> simp only [Bool.false_eq_true, if_false, if_true] <;> omega
      · rw [fcmp_lt]; · rfl
        cases ng y <;> simp only [Bool.false_eq_true, if_false, if_true] <;> omega
  · by_cases iy : rg y = 9218868437227405312
    · unfold Format.order
      rw [read_inf hy iy, read_fin hx (by omega), val_eq, val_eq, iy]
      simp only [Datum.order]
      unfold sg
      cases ng y
      · rw [fcmp_lt]; · rfl
        cases ng x <;> simp only [Bool.false_eq_true, if_false, if_true] <;> omega
      · rw [fcmp_gt]; · rfl
        cases ng x <;> simp only [Bool.false_eq_true, if_false, if_true] <;> omega
    · exact order_fin hx hy (by omega) (by omega)

/-- How two words stand to each other, in the three questions that are asked. -/
theorem order_lt {x y : Nat} (hx : x < 18446744073709551616) (hy : y < 18446744073709551616) :
    (FloatKind.f64.format.order x y == some .lt) = (!nanB x && !nanB y && decide (val x < val y)) := by
  show (double.order x y == some .lt) = _
  unfold nanB
  by_cases nx : 9218868437227405312 < rg x
  · rw [order_nan hx hy (Or.inl nx), decide_eq_true nx]; rfl
  · by_cases ny : 9218868437227405312 < rg y
    · rw [order_nan hx hy (Or.inr ny), decide_eq_true ny]; simp
    · rw [order_num hx hy (by omega) (by omega), decide_eq_false nx, decide_eq_false ny]
      by_cases k : val x < val y
      · rw [fcmp_lt k, decide_eq_true k]; rfl
      · rw [decide_eq_false k]
        by_cases k2 : val x = val y
        · rw [fcmp_eq k2]; rfl
        · rw [fcmp_gt (by omega)]; rfl
theorem order_eq {x y : Nat} (hx : x < 18446744073709551616) (hy : y < 18446744073709551616) :
    (FloatKind.f64.format.order x y == some .eq) = (!nanB x && !nanB y && decide (val x = val y)) := by
  show (double.order x y == some .eq) = _
  unfold nanB
  by_cases nx : 9218868437227405312 < rg x
  · rw [order_nan hx hy (Or.inl nx), decide_eq_true nx]; rfl
  · by_cases ny : 9218868437227405312 < rg y
    · rw [order_nan hx hy (Or.inr ny), decide_eq_true ny]; simp
    · rw [order_num hx hy (by omega) (by omega), decide_eq_false nx, decide_eq_false ny]
      by_cases k : val x = val y
      · rw [fcmp_eq k, decide_eq_true k]; rfl
      · rw [decide_eq_false k]
        by_cases k2 : val x < val y
        · rw [fcmp_lt k2]; rfl
        · rw [fcmp_gt (by omega)]; rfl
end Go.Proofs.YtknghoecjobkiaaGreatDoor.Fl

namespace Go.Proofs.YtknghoecjobkiaaGreatDoor.Fl
open Ieee

/-- n / 2^k to the nearest, of two as near the even one. -/
def rnd (n k : Nat) : Nat := n / 2 ^ k + (if 2 ^ k < 2 * (n % 2 ^ k) ∨ (2 ^ k = 2 * (n % 2 ^ k) ∧ n / 2 ^ k % 2 = 1) then 1 else 0)

theorem cut_even (neg : Bool) (n drop : Nat) (h : drop ≤ n.log2 + 2) : Toward.even.cut neg n drop = rnd n drop := by
  unfold Toward.cut rnd
  simp only [Nat.min_eq_left h, Nat.shiftLeft_eq, Nat.one_mul]
  congr 1
  by_cases k : 2 ^ drop < 2 * (n % 2 ^ drop) ∨ (2 ^ drop = 2 * (n % 2 ^ drop) ∧ n / 2 ^ drop % 2 = 1)
  · rw [if_pos k]
    have : (decide (2 ^ drop < 2 * (n % 2 ^ drop)) || 2 ^ drop == 2 * (n % 2 ^ drop) && n / 2 ^ drop % 2 == 1) = true := by simpa using k
    rw [this]; rfl
  · rw [if_neg k]
    have : (decide (2 ^ drop < 2 * (n % 2 ^ drop)) || 2 ^ drop == 2 * (n % 2 ^ drop) && n / 2 ^ drop % 2 == 1) = false := by
      rw [Bool.eq_false_iff]; intro c; exact k (by simpa using c)
    rw [this]; rfl

theorem rnd_zero (n : Nat) : rnd n 0 = n := by
  unfold rnd; rw [if_neg (by simp [Nat.mod_one])]; simp
theorem rnd_mul (m k : Nat) : rnd (m * 2 ^ k) k = m := by
  have hp : 0 < 2 ^ k := Nat.two_pow_pos k
  unfold rnd
  rw [Nat.mul_mod_left, Nat.mul_div_cancel _ hp, if_neg (by omega)]; rfl
/-- The digits that are kept of a whole number. -/
def kept (v : Nat) : Nat := if v.log2 ≤ 52 then v * 2 ^ (52 - v.log2) else rnd v (v.log2 - 52)
/-- The float nearest to a whole number. -/
def fr (v : Nat) : Nat := if v = 0 then 0 else (v.log2 + 1022) * 4503599627370496 + kept v

theorem word_eq {b : Nat} (h : b < 18446744073709551616) : double.word (ng b) (rg b) = b := by
  unfold Format.word ng rg
  rw [sw]
  by_cases k : 9223372036854775808 ≤ b
  · rw [decide_eq_true k, if_pos rfl]; omega
  · rw [decide_eq_false k]; simp only [Bool.false_eq_true, if_false]; omega

theorem log_of {n k : Nat} (h0 : 2 ^ k ≤ n) (h1 : n < 2 ^ (k + 1)) : n.log2 = k := by
  have hp : 0 < 2 ^ k := Nat.two_pow_pos k
  exact (Nat.log2_eq_iff (by omega)).2 ⟨h0, h1⟩

/-- A float is the nearest to itself. -/
theorem nearest_self {s : Bool} {r : Nat} (h : r < 9218868437227405312) : double.nearest s (M r) (-1074) = double.word s r := by
  by_cases h0 : r = 0
  · subst h0; rw [M_zero]; rfl
  · have hm : M r ≠ 0 := fun c => h0 ((M_eq_iff r 0).1 (c.trans M_zero.symm))
    unfold Format.nearest
    rw [if_neg hm]
    simp only [lp, bi, ir]
    have e0 : ((double.fractionBits : Nat) : Int) = 52 := rfl
    rw [e0]
    by_cases k : r < 4503599627370496
    · have em : M r = r := by
        unfold M mg pl; rw [if_pos k, show r / 4503599627370496 - 1 = 0 by omega]; simp
      rw [em]
      have hl : r.log2 < 52 := by rw [Nat.log2_lt h0]; exact k
      have e1 : max (-1074 + (r.log2 : Int) - 52) (-1074) = -1074 := by omega
      rw [e1]
      simp only [Int.sub_self, Int.toNat_zero, Nat.shiftLeft_zero]
      rw [cut_even _ _ _ (by omega), rnd_zero, Nat.zero_mul, Nat.zero_add, Nat.min_eq_left (by omega)]
    · have em : M r = mg r * 2 ^ pl r := rfl
      have hg : 4503599627370496 ≤ mg r := by unfold mg; rw [if_neg k]; omega
      have hl : (M r).log2 = 52 + pl r := by
        refine log_of ?_ ?_
        · rw [em, Nat.pow_add]; exact Nat.mul_le_mul_right _ hg
        · rw [em, show 52 + pl r + 1 = 53 + pl r by omega, Nat.pow_add]
          exact Nat.mul_lt_mul_of_pos_right (fmg_lt r) (Nat.two_pow_pos _)
      rw [hl]
      have e1 : max (-1074 + ((52 + pl r : Nat) : Int) - 52) (-1074) = -1074 + (pl r : Int) := by omega
      rw [e1]
      have e2 : (-1074 - (-1074 + (pl r : Int))).toNat = 0 := by omega
      have e3 : (-1074 + (pl r : Int) - -1074).toNat = pl r := by omega
      rw [e2, e3, Nat.shiftLeft_zero, cut_even _ _ _ (by omega), em, rnd_mul]
      have e4 : pl r * 4503599627370496 + mg r = r := by
        unfold pl mg; rw [if_neg k]; omega
      rw [e4, Nat.min_eq_left (by omega)]

theorem add_nought {b : Nat} (h : b < 18446744073709551616) (hr : rg b < 9218868437227405312) : double.add b 9223372036854775808 = some b := by
  unfold Format.add
  have e0 : double.read 9223372036854775808 = .number true 0 (-1074) := by
    rw [read_fin (by omega) (by decide)]; rfl
  rw [read_fin h hr, e0]
  simp only [Datum.sum, Option.map, signed_eq]
  have e1 : min (-1074 + ((pl (rg b) : Nat) : Int)) (-1074) = -1074 := by omega
  rw [e1]
  have e2 : (-1074 + ((pl (rg b) : Nat) : Int) - -1074).toNat = pl (rg b) := by omega
  rw [e2]
  have e3 : sg (ng b) (mg (rg b) * 2 ^ pl (rg b)) + sg true (0 * 2 ^ (-1074 - -1074 : Int).toNat) = sg (ng b) (M (rg b)) := by
    unfold sg M; simp
  rw [e3]
  have e4 : (sg (ng b) (M (rg b))).natAbs = M (rg b) := by unfold sg; split <;> simp
  have e5 : (if sg (ng b) (M (rg b)) = 0 then ng b && true else decide (sg (ng b) (M (rg b)) < 0)) = ng b := by
    by_cases z : sg (ng b) (M (rg b)) = 0
    · rw [if_pos z, Bool.and_true]
    · rw [if_neg z]
      unfold sg at *
      cases ng b
      · simp
      · simp only [if_true] at *
        exact decide_eq_true (by omega)
  rw [e4, e5]
  show some (double.nearest (ng b) (M (rg b)) (-1074)) = some b
  rw [nearest_self hr, word_eq h]

end Go.Proofs.YtknghoecjobkiaaGreatDoor.Fl

namespace Go.Proofs.YtknghoecjobkiaaGreatDoor.Fl

theorem nat_and_sign (n : Nat) (h : n < 18446744073709551616) : n &&& 9223372036854775808 = if 9223372036854775808 ≤ n then 9223372036854775808 else 0 := by
  have e : (9223372036854775808 : Nat) = 2 ^ 63 := rfl
  apply Nat.eq_of_testBit_eq
  intro i
  rw [Nat.testBit_and, e, Nat.testBit_two_pow]
  by_cases k : i = 63
  · subst k
    rw [Nat.testBit_eq_decide_div_mod_eq, decide_eq_true rfl, Bool.and_true]
    by_cases k : 2 ^ 63 ≤ n
    · rw [if_pos k, Nat.testBit_two_pow, decide_eq_true rfl]; exact decide_eq_true (by omega)
    · rw [if_neg k, Nat.zero_testBit]; exact decide_eq_false (by omega)
  · rw [decide_eq_false (fun c => k c.symm), Bool.and_false]
    split
    · rw [Nat.testBit_two_pow]; exact (decide_eq_false (fun c => k c.symm)).symm
    · rw [Nat.zero_testBit]

theorem and_sign {x : Int} (h0 : 0 ≤ x) (h1 : x < 18446744073709551616) : bits .and .u64 x 9223372036854775808 = if 9223372036854775808 ≤ x then 9223372036854775808 else 0 := by
  obtain ⟨n, rfl⟩ := Int.eq_ofNat_of_zero_le h0
  have h := bits_and_u64_nat n 9223372036854775808 (by omega) (by omega)
  rw [nat_and_sign n (by omega)] at h
  refine h.trans ?_
  split <;> split <;> omega
theorem or_sign {x : Int} (h0 : 0 ≤ x) (h1 : x < 9223372036854775808) : bits .or .u64 x 9223372036854775808 = x + 9223372036854775808 := by
  obtain ⟨n, rfl⟩ := Int.eq_ofNat_of_zero_le h0
  have h := bits_or_u64_nat n 9223372036854775808 (by omega) (by omega)
  have e := Nat.two_pow_add_eq_or_of_lt (i := 63) (b := n) (by omega) 1
  rw [Nat.mul_one, Nat.or_comm, show (2 : Nat) ^ 63 = 9223372036854775808 from rfl] at e
  rw [← e] at h
  exact h.trans (by omega)
theorem not_all {x : Int} (h0 : 0 ≤ x) (h1 : x < 18446744073709551616) : bits .xor .u64 18446744073709551615 x = 18446744073709551615 - x := by
  obtain ⟨n, rfl⟩ := Int.eq_ofNat_of_zero_le h0
  show IntKind.u64.wrap ((BitVec.ofInt 64 18446744073709551615 ^^^ BitVec.ofInt 64 (n : Int)).toNat : Int) = _
  have e1 : BitVec.ofInt 64 18446744073709551615 = BitVec.allOnes 64 := by decide
  rw [e1, BitVec.allOnes_xor, BitVec.toNat_not, BitVec.ofInt_natCast, BitVec.toNat_ofNat, IntKind.wrap_u64]
  omega
theorem xor_all {x : Int} (h0 : 0 ≤ x) (h1 : x < 18446744073709551616) : bits .xor .u64 x 18446744073709551615 = 18446744073709551615 - x := by
  obtain ⟨n, rfl⟩ := Int.eq_ofNat_of_zero_le h0
  show IntKind.u64.wrap ((BitVec.ofInt 64 (n : Int) ^^^ BitVec.ofInt 64 18446744073709551615).toNat : Int) = _
  have e1 : BitVec.ofInt 64 18446744073709551615 = BitVec.allOnes 64 := by decide
  rw [e1, BitVec.xor_allOnes, BitVec.toNat_not, BitVec.ofInt_natCast, BitVec.toNat_ofNat, IntKind.wrap_u64]
  omega
theorem and_frac {x : Int} (h0 : 0 ≤ x) (h1 : x < 18446744073709551616) : bits .and .u64 x 4503599627370495 = x % 4503599627370496 := by
  obtain ⟨n, rfl⟩ := Int.eq_ofNat_of_zero_le h0
  have h := bits_and_u64_nat n 4503599627370495 (by omega) (by omega)
  have e : n &&& 4503599627370495 = n % 4503599627370496 := Nat.and_two_pow_sub_one_eq_mod n 52
  rw [e] at h
  exact h.trans (by omega)
theorem and_exp {x : Int} (h0 : 0 ≤ x) (h1 : x < 18446744073709551616) : bits .and .u64 x 2047 = x % 2048 := by
  obtain ⟨n, rfl⟩ := Int.eq_ofNat_of_zero_le h0
  have h := bits_and_u64_nat n 2047 (by omega) (by omega)
  have e : n &&& 2047 = n % 2048 := Nat.and_two_pow_sub_one_eq_mod n 11
  rw [e] at h
  exact h.trans (by omega)
end Go.Proofs.YtknghoecjobkiaaGreatDoor.Fl

namespace Go.Proofs.YtknghoecjobkiaaGreatDoor
open Go.RowKit
set_option maxRecDepth 20000
theorem ret_bool {a b : Bool} (h : a = b) : Ending.returned (.bool a) = .returned (.bool b) := by rw [h]
theorem run_bits (b : Nat) (w : World) : (callFunc 325 #[.float .f64 b]).run Tryz.prog w = .ok (.value (.int .u64 b)) w := by
  rw [run_callFunc_extern Tryz.func325 (by kernel_rfl) (by kernel_rfl) (by kernel_rfl) (e := Extern.MathFloatBits.float64bits) (by kernel_rfl)]
  rfl
theorem run_frombits (x : Int) (w : World) : (callFunc 316 #[.int .u64 x]).run Tryz.prog w = .ok (.value (.float .f64 x.toNat)) w := by
  rw [run_callFunc_extern Tryz.func316 (by kernel_rfl) (by kernel_rfl) (by kernel_rfl) (e := Extern.MathFloatBits.float64frombits) (by kernel_rfl)]
  rfl
attribute [local go_sem] run_bits run_frombits

theorem isnan_any (b : Nat) (h : b < 18446744073709551616) (w : World) :
    Calls Tryz.prog 315 #[.float .f64 b] w fun e w' => e = .returned (.bool (Fl.nanB b)) ∧ w' = w := by
  have H : Hid ((FloatKind.f64.format.order b b == some .eq) = !Fl.nanB b) := by
    show _ = _
    rw [Fl.order_eq h h]; simp
  go_enter Tryz.func315, Tryz.ntmps315
  go_wp2
  go_ret
  exact ⟨ret_bool (by rw [bne, H.out, Bool.not_not]), rfl⟩

theorem signbit_any (b : Nat) (h : b < 18446744073709551616) (w : World) :
    Calls Tryz.prog 317 #[.float .f64 b] w fun e w' => e = .returned (.bool (Fl.ng b)) ∧ w' = w := by
  have H : Hid (decide (wrap64 (b : Int) < 0) = Fl.ng b) := by
    show _ = _
    unfold wrap64 Fl.ng
    by_cases k : 9223372036854775808 ≤ b
    · rw [decide_eq_true k]; exact decide_eq_true (by omega)
    · rw [decide_eq_false k]; exact decide_eq_false (by omega)
  go_enter Tryz.func317, Tryz.ntmps317
  go_wp2
  go_ret
  exact ⟨ret_bool H.out, rfl⟩

end Go.Proofs.YtknghoecjobkiaaGreatDoor

namespace Go.Proofs.YtknghoecjobkiaaGreatDoor
open Go.RowKit
set_option maxRecDepth 20000
attribute [local go_sem] run_bits run_frombits

def nanI (x : Int) : Bool := decide (9218868437227405312 < x % 9223372036854775808)
def kindS (x : Int) : Int := if 9218868437227405312 < x % 9223372036854775808 then 4 else if x % 9223372036854775808 = 9218868437227405312 then 3 else if x % 9223372036854775808 = 0 then 0 else if x % 9223372036854775808 < 4503599627370496 then 2 else 1
def keyS (x : Int) : Int := if 9223372036854775808 ≤ x then 18446744073709551615 - x else x + 9223372036854775808
def ofS (x : Int) : Int := if 9223372036854775808 ≤ x then x - 9223372036854775808 else 18446744073709551615 - x
def lessB (x y : Int) : Bool := !nanI x && !nanI y && decide (keyS x < keyS y)

theorem of_key {x : Int} (h : Word x) : ofS (keyS x) = x := by obtain ⟨_, _⟩ := h; unfold keyS ofS; split <;> split <;> omega
theorem nan_nat {x : Int} (h : Word x) : Fl.nanB x.toNat = nanI x := by
  obtain ⟨h0, h1⟩ := h
  obtain ⟨n, rfl⟩ := Int.eq_ofNat_of_zero_le h0
  unfold Fl.nanB nanI Fl.rg
  rw [Int.toNat_natCast]
  congr 1
  apply propext
  constructor <;> intro <;> omega

theorem val_key {x y : Int} (hx : Word x) (hy : Word y) (hxn : nanI x = false) (hyn : nanI y = false) (hz : ¬ (Fl.val x.toNat = 0 ∧ Fl.val y.toNat = 0)) :
    decide (Fl.val x.toNat < Fl.val y.toNat) = decide (keyS x < keyS y) := by
  obtain ⟨x0, x1⟩ := hx; obtain ⟨y0, y1⟩ := hy
  obtain ⟨m, rfl⟩ := Int.eq_ofNat_of_zero_le x0
  obtain ⟨n, rfl⟩ := Int.eq_ofNat_of_zero_le y0
  rw [Int.toNat_natCast, Int.toNat_natCast] at *
  congr 1
  apply propext
  unfold Fl.val Fl.rg at *
  unfold keyS
  split at hz <;> split at hz <;> split <;> split <;> constructor <;> intro <;> omega

theorem val_zero {x : Int} (hx : Word x) : Fl.val x.toNat = 0 ↔ x = 0 ∨ x = 9223372036854775808 := by
  obtain ⟨x0, x1⟩ := hx
  obtain ⟨m, rfl⟩ := Int.eq_ofNat_of_zero_le x0
  rw [Int.toNat_natCast]
  unfold Fl.val Fl.rg
  split <;> omega

/-- Whether a word is a nought. -/
def zeroB (x : Int) : Bool := decide (x = 0 ∨ x = 9223372036854775808)
theorem order_zero {x : Int} (h : Word x) : (FloatKind.f64.format.order x.toNat 0 == some .eq) = zeroB x := by
  have hl : x.toNat < 18446744073709551616 := by obtain ⟨_, _⟩ := h; omega
  rw [Fl.order_eq hl (by omega), nan_nat h]
  have e := val_zero h
  have z : Fl.val 0 = 0 := by decide
  rw [z]
  unfold zeroB
  by_cases k : x = 0 ∨ x = 9223372036854775808
  · rw [decide_eq_true k, decide_eq_true (e.2 k)]
    rcases k with rfl | rfl <;> decide
  · rw [decide_eq_false k, decide_eq_false (fun c => k (e.1 c)), Bool.and_false]

set_option maxHeartbeats 400000 in
theorem less_any (x y : Int) (hx : Word x) (hy : Word y) (w : World) :
    Calls Tryz.prog 292 #[.int .u64 x, .int .u64 y] w fun e w' => e = .returned (.bool (lessB x y)) ∧ w' = w := by
  have zx := order_zero hx
  have zy := order_zero hy
  have lx : x.toNat < 18446744073709551616 := by obtain ⟨_, _⟩ := hx; omega
  have ly : y.toNat < 18446744073709551616 := by obtain ⟨_, _⟩ := hy; omega
  have SX := hide (fun w => signbit_any x.toNat lx w)
  have SY := hide (fun w => signbit_any y.toNat ly w)
  have O : Hid ((FloatKind.f64.format.order x.toNat y.toNat == some .lt) = (!nanI x && !nanI y && decide (Fl.val x.toNat < Fl.val y.toNat))) := by
    show _ = _
    rw [Fl.order_lt lx ly, nan_nat hx, nan_nat hy]
  have V : Hid (¬ (zeroB x = true ∧ zeroB y = true) → (FloatKind.f64.format.order x.toNat y.toNat == some .lt) = lessB x y) := by
    show _ → _
    intro c
    rw [O.out]
    unfold lessB
    cases nx : nanI x
    · cases ny : nanI y
      · rw [val_key hx hy nx ny]
        rw [val_zero hx, val_zero hy]
        unfold zeroB at c
        simpa using c
      · rfl
    · rfl
  clear O
  by_cases k : zeroB x = true
  · rw [k] at zx
    by_cases k2 : zeroB y = true
    · rw [k2] at zy
      unfold zeroB at k k2
      have k' := of_decide_eq_true k
      have k2' := of_decide_eq_true k2
      clear V k k2
      rcases k' with rfl | rfl
      · have F : Hid (lessB 0 y = false) := by show _ = _; rcases k2' with rfl | rfl <;> decide
        have E : Fl.ng (0 : Int).toNat = false := by decide
        rw [E] at SX
        clear k2'
        go_enter Tryz.func292, Tryz.ntmps292
        go_wp2_with (go_at_call 317; refine (SX.out _).mono ?_; rintro e w' ⟨rfl, rfl⟩)
        go_ret
        exact ⟨ret_bool F.out.symm, rfl⟩
      · have E : Fl.ng (9223372036854775808 : Int).toNat = true := by decide
        rw [E] at SX
        have F : Hid (lessB 9223372036854775808 y = !Fl.ng y.toNat) := by show _ = _; rcases k2' with rfl | rfl <;> decide
        clear k2'
        go_enter Tryz.func292, Tryz.ntmps292
        go_wp2_with (first
          | (go_at_call 317; refine (SX.out _).mono ?_; rintro e w' ⟨rfl, rfl⟩)
          | (go_at_call 317; refine (SY.out _).mono ?_; rintro e w' ⟨rfl, rfl⟩))
        go_ret
        exact ⟨ret_bool F.out.symm, rfl⟩
    · have F : Hid ((FloatKind.f64.format.order x.toNat y.toNat == some .lt) = lessB x y) := V.out (fun c => k2 c.2)
      have k2' : zeroB y = false := by simpa using k2
      rw [k2'] at zy
      clear V k k2 k2' SX SY
      go_enter Tryz.func292, Tryz.ntmps292
      go_wp2
      go_ret
      exact ⟨ret_bool F.out, rfl⟩
  · have F : Hid ((FloatKind.f64.format.order x.toNat y.toNat == some .lt) = lessB x y) := V.out (fun c => k c.1)
    have k' : zeroB x = false := by simpa using k
    rw [k'] at zx
    clear V k k' SX SY zy
    go_enter Tryz.func292, Tryz.ntmps292
    go_wp2
    go_ret
    exact ⟨ret_bool F.out, rfl⟩
end Go.Proofs.YtknghoecjobkiaaGreatDoor

namespace Go.Proofs.YtknghoecjobkiaaGreatDoor
open Go.RowKit
set_option maxRecDepth 20000
theorem refexp_any (x : Int) (h : Word x) (w : World) :
    Calls Tryz.prog 236 #[.int .u64 x] w fun e w' => e = .returned (.int .i64 (x / 4503599627370496 % 2048)) ∧ w' = w := by
  obtain ⟨h0, h1⟩ := h
  have A := Fl.and_exp (x := x / 4503599627370496) (by omega) (by omega)
  go_enter Tryz.func236, Tryz.ntmps236
  go_wp2
  go_ret
  exact ⟨rfl, rfl⟩
theorem reffrac_any (x : Int) (h : Word x) (w : World) :
    Calls Tryz.prog 237 #[.int .u64 x] w fun e w' => e = .returned (.int .u64 (x % 4503599627370496)) ∧ w' = w := by
  obtain ⟨h0, h1⟩ := h
  have A := Fl.and_frac h0 h1
  go_enter Tryz.func237, Tryz.ntmps237
  go_wp2
  go_ret
  exact ⟨rfl, rfl⟩

set_option maxHeartbeats 400000 in
theorem refkind_any (x : Int) (h : Word x) (w : World) :
    Calls Tryz.prog 182 #[.int .u64 x] w fun e w' => e = .returned (.int .i64 (kindS x)) ∧ w' = w := by
  have E := hide (fun w => refexp_any x h w)
  have G := hide (fun w => reffrac_any x h w)
  obtain ⟨h0, h1⟩ := h
  have H : Hid (kindS x = if x / 4503599627370496 % 2048 = 2047 ∧ 0 < x % 4503599627370496 then 4 else if x / 4503599627370496 % 2048 = 2047 then 3 else if 0 < x / 4503599627370496 % 2048 then 1 else if 0 < x % 4503599627370496 then 2 else 0) := by
    show _ = _
    unfold kindS
    repeat' split
    all_goals omega
  have b1 : 0 ≤ x / 4503599627370496 % 2048 := by omega
  have b2 : 0 ≤ x % 4503599627370496 := by omega
  clear h0 h1
  generalize x / 4503599627370496 % 2048 = p at *
  generalize x % 4503599627370496 = q at *
  by_cases k : p = 2047
  · have k' : (p == 2047) = true := beq_iff_eq.2 k
    by_cases k2 : 0 < q
    · have F : Hid (kindS x = 4) := by show _ = _; rw [H.out, if_pos ⟨k, k2⟩]
      clear H k
      go_enter Tryz.func182, Tryz.ntmps182
      go_wp2_with (first
        | (go_at_call 236; refine (E.out _).mono ?_; rintro e w' ⟨rfl, rfl⟩)
        | (go_at_call 237; refine (G.out _).mono ?_; rintro e w' ⟨rfl, rfl⟩))
      go_ret
      exact ⟨ret_u64 F.out.symm, rfl⟩
    · have F : Hid (kindS x = 3) := by show _ = _; rw [H.out, if_neg (fun c => k2 c.2), if_pos k]
      clear H k
      go_enter Tryz.func182, Tryz.ntmps182
      go_wp2_with (first
        | (go_at_call 236; refine (E.out _).mono ?_; rintro e w' ⟨rfl, rfl⟩)
        | (go_at_call 237; refine (G.out _).mono ?_; rintro e w' ⟨rfl, rfl⟩))
      go_ret
      exact ⟨ret_u64 F.out.symm, rfl⟩
  · have k' : (p == 2047) = false := beq_eq_false_iff_ne.2 k
    by_cases k1 : 0 < p
    · have F : Hid (kindS x = 1) := by show _ = _; rw [H.out, if_neg (fun c => k c.1), if_neg k, if_pos k1]
      clear H k
      go_enter Tryz.func182, Tryz.ntmps182
      go_wp2_with (first
        | (go_at_call 236; refine (E.out _).mono ?_; rintro e w' ⟨rfl, rfl⟩)
        | (go_at_call 237; refine (G.out _).mono ?_; rintro e w' ⟨rfl, rfl⟩))
      go_ret
      exact ⟨ret_u64 F.out.symm, rfl⟩
    · by_cases k2 : 0 < q
      · have F : Hid (kindS x = 2) := by show _ = _; rw [H.out, if_neg (fun c => k c.1), if_neg k, if_neg k1, if_pos k2]
        clear H k
        go_enter Tryz.func182, Tryz.ntmps182
        go_wp2_with (first
          | (go_at_call 236; refine (E.out _).mono ?_; rintro e w' ⟨rfl, rfl⟩)
          | (go_at_call 237; refine (G.out _).mono ?_; rintro e w' ⟨rfl, rfl⟩))
        go_ret
        exact ⟨ret_u64 F.out.symm, rfl⟩
      · have F : Hid (kindS x = 0) := by show _ = _; rw [H.out, if_neg (fun c => k c.1), if_neg k, if_neg k1, if_neg k2]
        clear H k
        go_enter Tryz.func182, Tryz.ntmps182
        go_wp2_with (first
          | (go_at_call 236; refine (E.out _).mono ?_; rintro e w' ⟨rfl, rfl⟩)
          | (go_at_call 237; refine (G.out _).mono ?_; rintro e w' ⟨rfl, rfl⟩))
        go_ret
        exact ⟨ret_u64 F.out.symm, rfl⟩

theorem refkey_any (x : Int) (h : Word x) (w : World) :
    Calls Tryz.prog 238 #[.int .u64 x] w fun e w' => e = .returned (.int .u64 (keyS x)) ∧ w' = w := by
  obtain ⟨h0, h1⟩ := h
  have A := Fl.and_sign h0 h1
  by_cases k : 9223372036854775808 ≤ x
  · rw [if_pos k] at A
    have H : Hid (bits .xor .u64 x 18446744073709551615 = keyS x) := by
      show _ = _
      rw [Fl.xor_all h0 h1]; unfold keyS; rw [if_pos k]
    go_enter Tryz.func238, Tryz.ntmps238
    go_wp2
    go_ret
    exact ⟨ret_u64 H.out, rfl⟩
  · rw [if_neg k] at A
    have H : Hid (bits .or .u64 x 9223372036854775808 = keyS x) := by
      show _ = _
      rw [Fl.or_sign h0 (by omega)]; unfold keyS; rw [if_neg k]
    go_enter Tryz.func238, Tryz.ntmps238
    go_wp2
    go_ret
    exact ⟨ret_u64 H.out, rfl⟩

theorem kind_nan (x : Int) : (kindS x == 4) = nanI x := by
  unfold kindS nanI
  by_cases k : 9218868437227405312 < x % 9223372036854775808
  · rw [if_pos k, decide_eq_true k]; rfl
  · rw [if_neg k, decide_eq_false k]
    refine beq_eq_false_iff_ne.2 ?_
    repeat' split
    all_goals omega
theorem kind_ne (x : Int) : (kindS x != 4) = !nanI x := by rw [bne, kind_nan]
set_option maxHeartbeats 400000 in
theorem refless_any (x y : Int) (hx : Word x) (hy : Word y) (w : World) :
    Calls Tryz.prog 183 #[.int .u64 x, .int .u64 y] w fun e w' => e = .returned (.bool (lessB x y)) ∧ w' = w := by
  have A := hide (fun w => refkind_any x hx w)
  have B := hide (fun w => refkind_any y hy w)
  have C := hide (fun w => refkey_any x hx w)
  have D := hide (fun w => refkey_any y hy w)
  have kx := kind_ne x
  have ky := kind_ne y
  cases nx : nanI x
  · replace kx : (kindS x != 4) = true := by rw [kx, nx]; rfl
    cases ny : nanI y
    · replace ky : (kindS y != 4) = true := by rw [ky, ny]; rfl
      have F : Hid (lessB x y = decide (keyS x < keyS y)) := by show _ = _; unfold lessB; rw [nx, ny]; simp
      clear nx ny hx hy
      go_enter Tryz.func183, Tryz.ntmps183
      go_wp2_with fail
      refine (A.out _).mono ?_
      rintro e w1 ⟨rfl, rfl⟩
      go_wp2_with fail
      refine (B.out _).mono ?_
      rintro e w1 ⟨rfl, rfl⟩
      go_wp2_with fail
      refine (C.out _).mono ?_
      rintro e w1 ⟨rfl, rfl⟩
      go_wp2_with fail
      refine (D.out _).mono ?_
      rintro e w1 ⟨rfl, rfl⟩
      go_wp2
      go_ret
      exact ⟨ret_bool F.out.symm, rfl⟩
    · replace ky : (kindS y != 4) = false := by rw [ky, ny]; rfl
      have F : Hid (lessB x y = false) := by show _ = _; unfold lessB; rw [nx, ny]; simp
      clear nx ny hx hy
      go_enter Tryz.func183, Tryz.ntmps183
      go_wp2_with fail
      refine (A.out _).mono ?_
      rintro e w1 ⟨rfl, rfl⟩
      go_wp2_with fail
      refine (B.out _).mono ?_
      rintro e w1 ⟨rfl, rfl⟩
      go_wp2
      go_ret
      exact ⟨ret_bool F.out.symm, rfl⟩
  · replace kx : (kindS x != 4) = false := by rw [kx, nx]; rfl
    have F : Hid (lessB x y = false) := by show _ = _; unfold lessB; rw [nx]; simp
    clear nx hx hy ky
    go_enter Tryz.func183, Tryz.ntmps183
    go_wp2_with fail
    refine (A.out _).mono ?_
    rintro e w1 ⟨rfl, rfl⟩
    go_wp2
    go_ret
    exact ⟨ret_bool F.out.symm, rfl⟩

end Go.Proofs.YtknghoecjobkiaaGreatDoor

namespace Go.Proofs.YtknghoecjobkiaaGreatDoor
open Go.RowKit Go.ChangeShapes
set_option maxRecDepth 20000
/-- These blocks alone may have turned. -/
structure Ch (S : Nat → Prop) (w w' : World) : Prop where
  os : w'.os = w.os
  tape : w'.tape = w.tape
  output : w'.output = w.output
  size : w.heap.size ≤ w'.heap.size
  block : ∀ k, k < w.heap.size → ¬ S k → w'.heap[k]? = w.heap[k]?

theorem Ch.refl (S : Nat → Prop) (w : World) : Ch S w w := ⟨rfl, rfl, rfl, Nat.le_refl _, fun _ _ _ => rfl⟩
theorem Ch.trans {S : Nat → Prop} {a b c : World} (h : Ch S a b) (k : Ch S b c) : Ch S a c :=
  ⟨k.os.trans h.os, k.tape.trans h.tape, k.output.trans h.output, Nat.le_trans h.size k.size, fun i hi hs => (k.block i (Nat.lt_of_lt_of_le hi h.size) hs).trans (h.block i hi hs)⟩
theorem Ch.more {S S' : Nat → Prop} {a b : World} (h : Ch S a b) (hs : ∀ k, k < a.heap.size → S k → S' k) : Ch S' a b :=
  ⟨h.os, h.tape, h.output, h.size, fun k hk hn => h.block k hk (fun h' => hn (hs k hk h'))⟩
theorem Ch.grown {w w' : World} {row : Option Nat} (h : w.grownBy w' row) : Ch (fun k => row = some k) w w' :=
  ⟨h.os, h.tape, h.output, h.size, fun k hk hn => h.block k hk (fun e => hn e.symm)⟩
theorem Ch.alloc {S : Nat → Prop} {a w : World} (h : Ch S a w) (o : Obj) : Ch S a (w.alloc o) :=
  ⟨h.os, h.tape, h.output, by simp; exact Nat.le_trans h.size (by omega), fun k hk hn => (Below.heap_alloc w o k (Nat.lt_of_lt_of_le hk h.size)).trans (h.block k hk hn)⟩
theorem ch_set (w : World) (g i : Nat) (v : Value) : Ch (fun k => k = g) w (w.setCell ⟨g, i, none⟩ v) :=
  ⟨rfl, rfl, rfl, by simp [World.setCell], fun k _ hn => Below.heap_setCell w _ v k hn⟩
theorem Ch.of_below {w w' : World} (h : Below w.heap.size w w') : Ch (fun _ => False) w w' := ⟨h.os, h.tape, h.output, h.size, fun k hk _ => h.block k hk⟩
theorem Ch.below {S : Nat → Prop} {w w' : World} {B : Nat} (h : Ch S w w') (hB : B ≤ w.heap.size) (hs : ∀ k, k < B → ¬ S k) : Below B w w' :=
  ⟨h.os, h.tape, h.output, h.size, fun k hk => h.block k (by omega) (hs k hk)⟩

/-- A block of cells of a type. -/
def CellsT (w : World) (g : Nat) (t : TypeId) : Prop := ∃ cur mk, w.heap[g]? = some (.cells cur t mk)
theorem CellsT.lt {w : World} {g : Nat} {t : TypeId} (h : CellsT w g t) : g < w.heap.size := by
  obtain ⟨_, _, h⟩ := h
  exact (Array.getElem?_eq_some_iff.1 h).1
theorem CellsT.ne {w : World} {g g' : Nat} {t t' : TypeId} (h : CellsT w g t) (k : CellsT w g' t') (hn : t ≠ t') : g ≠ g' := by
  rintro rfl
  obtain ⟨_, _, h⟩ := h
  obtain ⟨_, _, k⟩ := k
  rw [h] at k
  simp at k
  exact hn k.2.1
theorem row_cells {w : World} {base : Nat} {e : TypeId} {size : Nat} {v : Value} {n : Nat} {xs : List Value} (h : w.ownsRow base e size v n xs) {g : Nat} (hg : v.ownBlock = some g) : CellsT w g e ∧ base ≤ g := by
  rcases h.2 with ⟨rfl, _⟩ | ⟨g', cap, cur, rfl, hb, hgb, _⟩
  · simp [Value.ownBlock] at hg
  · obtain rfl : g' = g := by simpa [Value.ownBlock] using hg
    exact ⟨⟨_, _, hgb⟩, hb⟩
theorem row_ch {S : Nat → Prop} {w w' : World} {base : Nat} {e : TypeId} {size : Nat} {v : Value} {n : Nat} {xs : List Value} (h : w.ownsRow base e size v n xs) (c : Ch S w w') (hn : ∀ g, v.ownBlock = some g → ¬ S g) : w'.ownsRow base e size v n xs := by
  refine ⟨h.1, ?_⟩
  rcases h.2 with h1 | ⟨g, cap, cur, rfl, hb, hgb, hr⟩
  · exact .inl h1
  · exact .inr ⟨g, cap, cur, rfl, hb, (c.block g (Array.getElem?_eq_some_iff.1 hgb).1 (hn g rfl)).trans hgb, hr⟩

theorem row_form {w : World} {base : Nat} {e : TypeId} {v : Value} {n : Nat} {xs : List Value} (h : w.ownsRow base e 1 v n xs) : ∃ a cap, v = .slice a n cap := by
  rcases h.2 with ⟨rfl, rfl⟩ | ⟨g, cap, cur, rfl, _⟩
  · exact ⟨none, 0, rfl⟩
  · exact ⟨_, _, rfl⟩

/-- One element behind a row of the call's own: where the longer row lies. -/
theorem wpList_push {P : Program} (w : World) {ops : Array Oper} {rest : List Oper} {o : Oper} {a : Act} {Q : Exit → Act → World → Prop} (hgd : o.guard = none) (s x : Operand) (t : TypeId)
    (ho : o.op = .call { callee := .builtin .append, args := #[s, x], argTypes := #[t, t] })
    (base : Nat) (e : TypeId) (i : TypeInfo) (z : Value) (bytes : Nat) (ht : P.underlying t = some (.slice e)) (hi : P.info? e = some i) (hz : i.zero = some z) (hsize : i.size = 1) (hby : i.bytes = bytes) (hzs : z.cells.size = 1)
    (ao : Option Addr) (n cap : Nat) (xs : List Value) (hs : a.eval s = .slice ao n cap) (hown : w.ownsRow base e 1 (.slice ao n cap) n xs)
    (ad : Addr) (c : Nat) (u : Value) (hx : a.eval x = .slice (some ad) 1 c) (hc : ∀ j u', [u][j]? = some u' → w.cell? (ad.add j) = some u') (h1 : u.oneCell' = true)
    (h63 : n + 1 ≤ maxLen) (hbytes : (n + 1) * bytes ≤ 140737488355328) (hbase : base ≤ w.heap.size)
    (h : ∀ g' cap' w', w'.ownsRow base e 1 (.slice (some ⟨g', 0, none⟩) (n + 1) cap') (n + 1) (xs ++ [u]) → w.grownBy w' (Value.slice ao n cap).ownBlock → ((Value.slice ao n cap).ownBlock = some g' ∨ w.heap.size ≤ g') → wpList P ops Q rest (a.put o.dst (.slice (some ⟨g', 0, none⟩) (n + 1) cap')) w') : wpList P ops Q (o :: rest) a w := by
  have hlen : xs.length = n := by simpa using hown.1
  have h1' : ∀ u' ∈ [u], u'.oneCell' = true := by intro u' hu'; simp at hu'; rw [hu']; exact h1
  have grow : cap < n + 1 → (ao = none → n = 0 ∧ cap = 0) → (∀ b, ao = some b → ∀ j u', xs[j]? = some u' → w.cell? (b.add j) = some u') → wpList P ops Q (o :: rest) a w := by
    intro hf hnone hcells
    refine wpList_append_grows w hgd s x t ho e i z 1 bytes ht hi hz hsize hby hzs (by decide) ao n cap xs hs hnone (by omega) hcells ad 1 c [u] hx rfl hc h1' hf h63 hbytes ?_
    intro v' w' h2 h3
    obtain ⟨g', cap', rfl⟩ := ownsRow_succ h2
    have hg := (row_cells h2 (g := g') rfl).2
    have h4 : w'.ownsRow base e 1 (.slice (some ⟨g', 0, none⟩) (n + 1) cap') (n + 1) (xs ++ [u]) := by
      refine ⟨h2.1, ?_⟩
      rcases h2.2 with h5 | ⟨g, c', cur, h5, h6, h7⟩
      · exact .inl h5
      · exact .inr ⟨g, c', cur, h5, by omega, h7⟩
    exact h g' cap' w' h4 ⟨h3.os, h3.tape, h3.output, h3.size, fun k hk _ => h3.block k hk (by simp)⟩ (Or.inr hg)
  rcases id hown.2 with ⟨h2, h3⟩ | ⟨g, c', cur, h2, h3, h4, h5, _⟩
  · simp only [Value.slice.injEq] at h2
    obtain ⟨rfl, rfl, rfl⟩ := h2
    exact grow (by omega) (fun _ => ⟨rfl, rfl⟩) (fun b hb => by simp at hb)
  · simp only [Value.slice.injEq, true_and] at h2
    obtain ⟨rfl, rfl⟩ := h2
    by_cases hroom : n + 1 ≤ cap
    · refine wpList_append_fits w hgd s x t ho base e i 1 ht hi hsize g n cap xs hs hown ad 1 c [u] hx rfl hc h1' hroom ?_
      intro w' h6 h7
      exact h g cap w' h6 h7 (Or.inl rfl)
    · exact grow (by omega) (fun hb => by simp at hb) (fun b hb => by simp at hb; subst hb; exact hown.cells (g := g) rfl)

theorem one_intcell (w : World) (k : Int) (e : TypeId) (j : Nat) (u : Value) (h : [Value.int .i64 k][j]? = some u) : (w.alloc (.cells #[.int .i64 k] e)).cell? ((⟨w.heap.size, 0, none⟩ : Addr).add j) = some u := by
  match j, h with
  | 0, h => simp at h; subst h; rw [Addr.add_lit, World.cell?_alloc_mark]; rfl

/-- A slice of n texts. -/
def RowX (w : World) (a : Option Addr) (n : Nat) (ss : List ByteArray) : Prop :=
  ss.length = n ∧ n ≤ 140737488355328 ∧ (n = 0 ∨ ∃ b off, a = some ⟨b, off, none⟩ ∧ ∀ i, i < n → w.cell? ⟨b, off + i, none⟩ = some (.string (ss.getD i ByteArray.empty)))
theorem getD_text {p : ByteArray → Prop} {ss : List ByteArray} (h : ∀ s ∈ ss, p s) {i : Nat} (hi : i < ss.length) : p (ss.getD i ByteArray.empty) := by
  rw [List.getD_eq_getElem?_getD, List.getElem?_eq_getElem hi]
  exact h _ (List.getElem_mem hi)
theorem take_text {ss : List ByteArray} {k : Nat} (h : k < ss.length) : ss.take (k + 1) = ss.take k ++ [ss.getD k ByteArray.empty] := by
  rw [List.take_succ_eq_append_getElem h, List.getD_eq_getElem?_getD, List.getElem?_eq_getElem h]
  rfl
end Go.Proofs.YtknghoecjobkiaaGreatDoor

namespace Go.Proofs.YtknghoecjobkiaaGreatDoor
/-- A number's bucket, by halving at most f times. -/
def bkt : Nat → Int → Int
  | 0, v => v
  | f + 1, v => if v < 256 then v else 128 + bkt f (v / 2)
/-- A number's bucket. -/
def bucketS (v : Int) : Int := bkt 56 v
theorem two_pos (e : Nat) : (0 : Int) < 2 ^ e := Int.pow_pos (by decide)
theorem two_succ (e : Nat) : (2 : Int) ^ (e + 1) = 2 * 2 ^ e := by rw [Int.pow_succ, Int.mul_comm]
theorem div_two (v : Int) (e : Nat) : v / 2 ^ (e + 1) = v / 2 / 2 ^ e := by
  rw [two_succ, Int.ediv_ediv_of_nonneg (by decide)]

theorem bkt_spec (f : Nat) (v : Int) (h0 : 0 ≤ v) (h1 : v < 256 * 2 ^ f) : ∃ e : Nat, e ≤ f ∧ (e = 0 ∨ 128 * 2 ^ e ≤ v) ∧ v < 256 * 2 ^ e ∧ bkt f v = 128 * e + v / 2 ^ e := by
  induction f generalizing v with
  | zero => exact ⟨0, Nat.le_refl _, Or.inl rfl, h1, by simp [bkt]⟩
  | succ f ih =>
    by_cases hv : v < 256
    · exact ⟨0, by omega, Or.inl rfl, by simpa using hv, by simp [bkt, hv]⟩
    · rw [two_succ] at h1
      obtain ⟨e, e1, e2, e3, e4⟩ := ih (v / 2) (by omega) (by omega)
      refine ⟨e + 1, by omega, Or.inr ?_, ?_, ?_⟩
      · rw [two_succ]
        rcases e2 with rfl | e2
        · simp at *; omega
        · omega
      · rw [two_succ]; omega
      · rw [bkt, if_neg hv, e4, div_two]; omega

/-- A number that leaves e bits out lies in the bucket that its first eight bits say. -/
theorem bucketS_spec {v : Int} (h0 : 0 ≤ v) (h1 : v < 18446744073709551616) : ∃ (e : Nat) (m : Int), e ≤ 56 ∧ 0 ≤ m ∧ m ≤ 255 ∧ (e = 0 ∨ 128 ≤ m) ∧ m * 2 ^ e ≤ v ∧ v < m * 2 ^ e + 2 ^ e ∧ bucketS v = 128 * e + m := by
  obtain ⟨e, e1, e2, e3, e4⟩ := bkt_spec 56 v h0 (by omega)
  have hp := two_pos e
  have hd := Int.mul_ediv_add_emod v (2 ^ e)
  have hm := Int.emod_nonneg v (show (2 : Int) ^ e ≠ 0 by omega)
  have hl := Int.emod_lt_of_pos v hp
  rw [Int.mul_comm] at hd
  refine ⟨e, v / 2 ^ e, e1, Int.ediv_nonneg h0 (by omega), ?_, ?_, by omega, by omega, e4⟩
  · have : v / 2 ^ e < 256 := Int.ediv_lt_of_lt_mul hp e3
    omega
  · rcases e2 with h | h
    · exact Or.inl h
    · exact Or.inr (Int.le_ediv_of_mul_le hp h)

theorem bucketS_range {v : Int} (h0 : 0 ≤ v) (h1 : v < 18446744073709551616) : 0 ≤ bucketS v ∧ bucketS v ≤ 7423 := by
  obtain ⟨e, m, e1, m0, m1, _, _, _, hb⟩ := bucketS_spec h0 h1
  rw [hb]
  exact ⟨by omega, by omega⟩
abbrev Bks := List (Int × Int)
/-- Buckets that rise from behind 'last', each with a count above 0. -/
def checkF : Int → Bks → Bool
  | _, [] => true
  | last, (k, c) :: t => decide (last < k ∧ k ≤ 7423 ∧ 0 < c) && checkF k t
/-- Buckets that may be. -/
def checkS (l : Bks) : Bool := checkF (-1) l
/-- How often a bucket was seen. -/
def getN : Bks → Int → Int
  | [], _ => 0
  | (j, c) :: t, k => if j = k then c else getN t k
/-- A sum that is held. -/
def satS (a b : Int) : Int := if a + b < 18446744073709551616 then a + b else 18446744073709551615
/-- Counts that are words. -/
def WordsB (l : Bks) : Prop := ∀ x ∈ l, 0 ≤ x.2 ∧ x.2 < 18446744073709551616

theorem checkF_cons {last k c : Int} {t : Bks} : checkF last ((k, c) :: t) = true ↔ last < k ∧ k ≤ 7423 ∧ 0 < c ∧ checkF k t = true := by
  simp [checkF, and_assoc]
theorem checkF_last {last k c : Int} {t : Bks} (h : checkF last ((k, c) :: t) = true) {last' : Int} (hl : last' < k) : checkF last' ((k, c) :: t) = true := by
  rw [checkF_cons] at h ⊢
  exact ⟨hl, h.2⟩
/-- The last bucket of a list, or what it rises from. -/
def lastD (last : Int) : Bks → Int
  | [] => last
  | (k, _) :: t => lastD k t
theorem checkF_append (last : Int) (l m : Bks) : checkF last (l ++ m) = (checkF last l && checkF (lastD last l) m) := by
  induction l generalizing last with
  | nil => simp [checkF, lastD]
  | cons x t ih =>
    obtain ⟨k, c⟩ := x
    rw [List.cons_append, checkF, ih, checkF, lastD, Bool.and_assoc]
theorem checkF_snoc (last : Int) (l : Bks) (k c : Int) : checkF last (l ++ [(k, c)]) = (checkF last l && decide (lastD last l < k ∧ k ≤ 7423 ∧ 0 < c)) := by
  rw [checkF_append]
  simp [checkF]
theorem lastD_snoc (last : Int) (l : Bks) (k c : Int) : lastD last (l ++ [(k, c)]) = k := by
  induction l generalizing last with
  | nil => rfl
  | cons x t ih => obtain ⟨j, d⟩ := x; rw [List.cons_append, lastD, ih]
theorem checkF_lastD {last : Int} {l : Bks} (h : checkF last l = true) : last ≤ lastD last l ∧ (l = [] ∨ lastD last l ≤ 7423) := by
  induction l generalizing last with
  | nil => exact ⟨Int.le_refl _, Or.inl rfl⟩
  | cons x t ih =>
    obtain ⟨k, c⟩ := x
    rw [checkF_cons] at h
    obtain ⟨h1, h2⟩ := ih h.2.2.2
    rw [lastD]
    refine ⟨by omega, Or.inr ?_⟩
    rcases h2 with rfl | h2
    · exact h.2.1
    · exact h2
theorem checkF_prefix {last : Int} {l : Bks} (k : Nat) (h : checkF last (l.take k) = false) : checkF last l = false := by
  rw [← List.take_append_drop k l, checkF_append, h, Bool.false_and]
theorem checkF_len {last : Int} {l : Bks} (h : checkF last l = true) : last + l.length ≤ 7423 ∨ l = [] := by
  induction l generalizing last with
  | nil => exact Or.inr rfl
  | cons x t ih =>
    obtain ⟨k, c⟩ := x
    rw [checkF_cons] at h
    left
    simp only [List.length_cons]
    rcases ih h.2.2.2 with h1 | rfl
    · omega
    · simp; omega
/-- None at or below what they rise from. -/
theorem getN_low {last : Int} {l : Bks} (h : checkF last l = true) {k : Int} (hk : k ≤ last) : getN l k = 0 := by
  induction l generalizing last with
  | nil => rfl
  | cons x t ih =>
    obtain ⟨j, c⟩ := x
    rw [checkF_cons] at h
    rw [getN, if_neg (by omega)]
    exact ih h.2.2.2 (by omega)
theorem getN_head {k c : Int} {t : Bks} : getN ((k, c) :: t) k = c := by simp [getN]
theorem getN_word {l : Bks} (h : WordsB l) (k : Int) : 0 ≤ getN l k ∧ getN l k < 18446744073709551616 := by
  induction l with
  | nil => exact ⟨by simp [getN], by simp [getN]⟩
  | cons x t ih =>
    obtain ⟨j, c⟩ := x
    rw [getN]
    split
    · exact h _ (List.mem_cons_self ..)
    · exact ih (fun y hy => h y (List.mem_cons_of_mem _ hy))
/-- Two lists that may be and say the same of each bucket are one. -/
theorem bks_ext {l m : Bks} {p q : Int} (hl : checkF p l = true) (hm : checkF q m = true) (h : ∀ k, getN l k = getN m k) : l = m := by
  induction l generalizing m p q with
  | nil =>
    cases m with
    | nil => rfl
    | cons y t =>
      obtain ⟨j, d⟩ := y
      rw [checkF_cons] at hm
      have := h j
      rw [getN_head, getN] at this
      omega
  | cons x s ih =>
    obtain ⟨i, c⟩ := x
    cases m with
    | nil =>
      rw [checkF_cons] at hl
      have := h i
      rw [getN_head, getN] at this
      omega
    | cons y t =>
      obtain ⟨j, d⟩ := y
      rw [checkF_cons] at hl hm
      have hi := h i
      have hj := h j
      rw [getN_head, getN] at hi
      rw [getN_head, getN] at hj
      have hij : i = j := by
        by_cases h1 : i < j
        · rw [if_neg (by omega), getN_low hm.2.2.2 (by omega)] at hi; omega
        · by_cases h2 : j < i
          · rw [if_neg (by omega), getN_low hl.2.2.2 (by omega)] at hj; omega
          · omega
      subst hij
      rw [if_pos rfl] at hi
      subst hi
      congr 1
      refine ih hl.2.2.2 hm.2.2.2 (fun k => ?_)
      by_cases hk : k = i
      · subst hk; rw [getN_low hl.2.2.2 (Int.le_refl _), getN_low hm.2.2.2 (Int.le_refl _)]
      · have := h k
        rw [getN, getN, if_neg (by omega), if_neg (by omega)] at this
        exact this

theorem checkF_range {last : Int} (hl : -1 ≤ last) {l : Bks} (h : checkF last l = true) {k : Nat} (hk : k < l.length) : 0 ≤ (l.getD k (0, 0)).1 ∧ (l.getD k (0, 0)).1 ≤ 7423 := by
  induction l generalizing last k with
  | nil => simp at hk
  | cons x t ih =>
    obtain ⟨j, c⟩ := x
    rw [checkF_cons] at h
    cases k with
    | zero => simp; omega
    | succ k =>
      rw [List.getD_cons_succ]
      simp only [List.length_cons] at hk
      exact ih (by omega) h.2.2.2 (by omega)

theorem satS_word {a b : Int} (ha : 0 ≤ a ∧ a < 18446744073709551616) (hb : 0 ≤ b ∧ b < 18446744073709551616) : 0 ≤ satS a b ∧ satS a b < 18446744073709551616 := by
  unfold satS; split <;> omega
theorem satS_zero {a : Int} (h : a < 18446744073709551616) : satS a 0 = a := by unfold satS; rw [if_pos (by omega)]; omega
theorem zero_satS {a : Int} (h : a < 18446744073709551616) : satS 0 a = a := by unfold satS; rw [if_pos (by omega)]; omega
/-- One bucket has more. -/
def insS (k c : Int) : Bks → Bks
  | [] => [(k, c)]
  | (j, d) :: t => if j = k then (j, satS d c) :: t else if k < j then (k, c) :: (j, d) :: t else (j, d) :: insS k c t
theorem insS_check {k c : Int} (hk : k ≤ 7423) (hc : 0 < c) {last : Int} (hl : last < k) {l : Bks} (h : checkF last l = true) : checkF last (insS k c l) = true := by
  induction l generalizing last with
  | nil => rw [insS, checkF_cons]; exact ⟨hl, hk, hc, rfl⟩
  | cons x t ih =>
    obtain ⟨j, d⟩ := x
    rw [checkF_cons] at h
    rw [insS]
    split
    · rw [checkF_cons]
      refine ⟨h.1, h.2.1, ?_, h.2.2.2⟩
      unfold satS; split <;> omega
    · split
      · rw [checkF_cons, checkF_cons]; exact ⟨hl, hk, hc, by omega, h.2⟩
      · rw [checkF_cons]; exact ⟨h.1, h.2.1, h.2.2.1, ih (by omega) h.2.2.2⟩
theorem insS_get {k c : Int} (hc : c < 18446744073709551616) {last : Int} {l : Bks} (h : checkF last l = true) (i : Int) : getN (insS k c l) i = if i = k then satS (getN l k) c else getN l i := by
  induction l generalizing last with
  | nil =>
    simp only [insS, getN]
    by_cases hi : i = k
    · rw [if_pos hi.symm, if_pos hi, zero_satS hc]
    · rw [if_neg (fun e => hi e.symm), if_neg hi]
  | cons x t ih =>
    obtain ⟨j, d⟩ := x
    rw [checkF_cons] at h
    rw [insS]
    split
    · rename_i hj
      subst hj
      simp only [getN]
      by_cases hi : i = j
      · rw [if_pos hi.symm, if_pos hi]; simp
      · rw [if_neg (fun e => hi e.symm), if_neg hi, if_neg (fun e => hi e.symm)]
    · rename_i hj
      split
      · rename_i hkj
        rw [getN]
        by_cases hi : i = k
        · subst hi
          have h0 : getN ((j, d) :: t) i = 0 := getN_low (last := i) (checkF_last (last := last) (checkF_cons.2 h) hkj) (Int.le_refl _)
          rw [if_pos rfl, if_pos rfl, h0, zero_satS hc]
        · rw [if_neg (fun e => hi e.symm), if_neg hi]
      · rw [getN, getN, getN, if_neg hj]
        rw [ih h.2.2.2]
        by_cases hi : i = k
        · subst hi; rw [if_neg hj, if_pos rfl, if_pos rfl]
        · rw [if_neg hi, if_neg hi]
/-- .. by n, of which 0 is nothing. -/
def addN (l : Bks) (k c : Int) : Bks := if c = 0 then l else insS k c l
theorem addN_check {k c : Int} (h0 : 0 ≤ k) (hk : k ≤ 7423) (hc : 0 ≤ c) {l : Bks} (h : checkS l = true) : checkS (addN l k c) = true := by
  unfold addN checkS at *
  split
  · exact h
  · exact insS_check hk (by omega) (by omega) h
/-- Two lists as one. -/
def mrg : Bks → Bks → Bks
  | [], b => b
  | a, [] => a
  | (i, c) :: a, (k, d) :: b => if i < k then (i, c) :: mrg a ((k, d) :: b) else if k < i then (k, d) :: mrg ((i, c) :: a) b else (i, satS c d) :: mrg a b
termination_by a b => a.length + b.length
theorem mrg_nil (a : Bks) : mrg a [] = a := by cases a <;> simp [mrg]
theorem nil_mrg (b : Bks) : mrg [] b = b := by simp [mrg]
theorem mrg_cons (i c : Int) (a : Bks) (k d : Int) (b : Bks) : mrg ((i, c) :: a) ((k, d) :: b) = if i < k then (i, c) :: mrg a ((k, d) :: b) else if k < i then (k, d) :: mrg ((i, c) :: a) b else (i, satS c d) :: mrg a b := by
  rw [mrg]
theorem mrg_check {last : Int} {a b : Bks} (ha : checkF last a = true) (hb : checkF last b = true) : checkF last (mrg a b) = true := by
  obtain ⟨n, hn⟩ : ∃ n, a.length + b.length ≤ n := ⟨_, Nat.le_refl _⟩
  induction n generalizing a b last with
  | zero =>
    have : a = [] := List.length_eq_zero_iff.1 (by omega)
    subst this
    rw [nil_mrg]; exact hb
  | succ n ih =>
    cases a with
    | nil => rw [nil_mrg]; exact hb
    | cons x a =>
      cases b with
      | nil => rw [mrg_nil]; exact ha
      | cons y b =>
        obtain ⟨i, c⟩ := x
        obtain ⟨k, d⟩ := y
        simp only [List.length_cons] at hn
        have ha' := checkF_cons.1 ha
        have hb' := checkF_cons.1 hb
        rw [mrg_cons]
        split
        · rw [checkF_cons]
          exact ⟨ha'.1, ha'.2.1, ha'.2.2.1, ih ha'.2.2.2 (checkF_last hb (by omega)) (by simp only [List.length_cons]; omega)⟩
        · split
          · rw [checkF_cons]
            exact ⟨hb'.1, hb'.2.1, hb'.2.2.1, ih (checkF_last ha (by omega)) hb'.2.2.2 (by simp only [List.length_cons]; omega)⟩
          · have e : i = k := by omega
            subst e
            rw [checkF_cons]
            refine ⟨ha'.1, ha'.2.1, ?_, ih ha'.2.2.2 hb'.2.2.2 (by omega)⟩
            unfold satS; split <;> omega
theorem mrg_get {last : Int} {a b : Bks} (wa : WordsB a) (wb : WordsB b) (ha : checkF last a = true) (hb : checkF last b = true) (j : Int) : getN (mrg a b) j = satS (getN a j) (getN b j) := by
  obtain ⟨n, hn⟩ : ∃ n, a.length + b.length ≤ n := ⟨_, Nat.le_refl _⟩
  induction n generalizing a b last with
  | zero =>
    have : a = [] := List.length_eq_zero_iff.1 (by omega)
    subst this
    rw [nil_mrg, getN, zero_satS (getN_word wb j).2]
  | succ n ih =>
    cases a with
    | nil => rw [nil_mrg, getN, zero_satS (getN_word wb j).2]
    | cons x a =>
      cases b with
      | nil => rw [mrg_nil, getN.eq_1, satS_zero (getN_word wa j).2]
      | cons y b =>
        obtain ⟨i, c⟩ := x
        obtain ⟨k, d⟩ := y
        simp only [List.length_cons] at hn
        have ha' := checkF_cons.1 ha
        have hb' := checkF_cons.1 hb
        have wa' : WordsB a := fun z hz => wa z (List.mem_cons_of_mem _ hz)
        have wb' : WordsB b := fun z hz => wb z (List.mem_cons_of_mem _ hz)
        have wc := wa _ (List.mem_cons_self ..)
        have wd := wb _ (List.mem_cons_self ..)
        rw [mrg_cons]
        split
        · rename_i hik
          rw [getN, ih wa' wb ha'.2.2.2 (checkF_last hb (by omega)) (by simp only [List.length_cons]; omega)]
          by_cases hj : i = j
          · subst hj
            rw [if_pos rfl, getN_head, getN_low (checkF_last hb hik) (Int.le_refl _), satS_zero wc.2]
          · rw [if_neg hj]
            congr 1
            rw [getN, if_neg hj]
        · split
          · rename_i hki
            rw [getN, ih wa wb' (checkF_last ha (by omega)) hb'.2.2.2 (by simp only [List.length_cons]; omega)]
            by_cases hj : k = j
            · subst hj
              rw [if_pos rfl, getN_head, getN_low (checkF_last ha hki) (Int.le_refl _), zero_satS wd.2]
            · rw [if_neg hj]
              congr 1
              rw [getN, if_neg hj]
          · have e : i = k := by omega
            subst e
            rw [getN, getN, getN, ih wa' wb' ha'.2.2.2 hb'.2.2.2 (by omega)]
            split <;> rfl
theorem mrg_words {a b : Bks} (ha : WordsB a) (hb : WordsB b) : WordsB (mrg a b) := by
  obtain ⟨n, hn⟩ : ∃ n, a.length + b.length ≤ n := ⟨_, Nat.le_refl _⟩
  induction n generalizing a b with
  | zero =>
    have : a = [] := List.length_eq_zero_iff.1 (by omega)
    subst this
    rw [nil_mrg]; exact hb
  | succ n ih =>
    cases a with
    | nil => rw [nil_mrg]; exact hb
    | cons x a =>
      cases b with
      | nil => rw [mrg_nil]; exact ha
      | cons y b =>
        obtain ⟨i, c⟩ := x
        obtain ⟨k, d⟩ := y
        simp only [List.length_cons] at hn
        have ha' : WordsB a := fun z hz => ha z (List.mem_cons_of_mem _ hz)
        have hb' : WordsB b := fun z hz => hb z (List.mem_cons_of_mem _ hz)
        have hc := ha _ (List.mem_cons_self ..)
        have hd := hb _ (List.mem_cons_self ..)
        rw [mrg_cons]
        intro z hz
        split at hz
        · rcases List.mem_cons.1 hz with rfl | hz
          · exact hc
          · exact ih ha' hb (by simp only [List.length_cons]; omega) z hz
        · split at hz
          · rcases List.mem_cons.1 hz with rfl | hz
            · exact hd
            · exact ih ha hb' (by simp only [List.length_cons]; omega) z hz
          · rcases List.mem_cons.1 hz with rfl | hz
            · exact satS_word hc hd
            · exact ih ha' hb' (by omega) z hz
theorem insS_words {k c : Int} (hc : 0 ≤ c ∧ c < 18446744073709551616) {l : Bks} (h : WordsB l) : WordsB (insS k c l) := by
  induction l with
  | nil => intro z hz; simp [insS] at hz; subst hz; exact hc
  | cons x t ih =>
    obtain ⟨j, d⟩ := x
    have ht : WordsB t := fun z hz => h z (List.mem_cons_of_mem _ hz)
    have hd := h _ (List.mem_cons_self ..)
    rw [insS]
    intro z hz
    split at hz
    · rcases List.mem_cons.1 hz with rfl | hz
      · exact satS_word hd hc
      · exact ht z hz
    · split at hz
      · rcases List.mem_cons.1 hz with rfl | hz
        · exact hc
        · exact h z hz
      · rcases List.mem_cons.1 hz with rfl | hz
        · exact hd
        · exact ih ht z hz
theorem addN_words {k c : Int} (hc : 0 ≤ c ∧ c < 18446744073709551616) {l : Bks} (h : WordsB l) : WordsB (addN l k c) := by
  unfold addN
  split
  · exact h
  · exact insS_words hc h

/-- A list of buckets that may be, with counts that are words. -/
structure Good (l : Bks) : Prop where
  check : checkS l = true
  words : WordsB l
theorem Good.ext {l m : Bks} (hl : Good l) (hm : Good m) (h : ∀ k, getN l k = getN m k) : l = m := bks_ext hl.check hm.check h
theorem Good.mrg {a b : Bks} (ha : Good a) (hb : Good b) : Good (mrg a b) := ⟨mrg_check ha.check hb.check, mrg_words ha.words hb.words⟩
theorem Good.get {a b : Bks} (ha : Good a) (hb : Good b) (j : Int) : getN (Go.Proofs.YtknghoecjobkiaaGreatDoor.mrg a b) j = satS (getN a j) (getN b j) := mrg_get ha.words hb.words ha.check hb.check j
theorem Good.word {l : Bks} (h : Good l) (j : Int) : 0 ≤ getN l j ∧ getN l j < 18446744073709551616 := getN_word h.words j
theorem Good.nil : Good [] := ⟨rfl, fun x hx => by cases hx⟩
theorem Good.add {l : Bks} (h : Good l) {k c : Int} (h0 : 0 ≤ k) (h1 : k ≤ 7423) (hc : 0 ≤ c ∧ c < 18446744073709551616) : Good (addN l k c) := ⟨addN_check h0 h1 hc.1 h.check, addN_words hc h.words⟩
/-- Numbers seen one by one. -/
def seen (l : List Int) : Bks := l.foldl (fun L v => addN L (bucketS v) 1) []
end Go.Proofs.YtknghoecjobkiaaGreatDoor
