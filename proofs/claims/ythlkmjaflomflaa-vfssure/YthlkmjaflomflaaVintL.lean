/-
  Numbers, texts and lists that rise, got from any place of any bytes: what is put is got, what is got was put, without its last byte it is none; in plain lists of whole numbers.
  Conditions: each number is from 0 on and below 2^64; each byte is from 0 to 255.
-/
import Derived.Test.YthlkmjaflomflaaVintK
namespace Go.Proofs.Ythlkmjaflomflaa

/-- All are bytes. -/
def Bytes8 (zs : List Int) : Prop := ∀ z ∈ zs, 0 ≤ z ∧ z ≤ 255
theorem Bytes8.drop {zs : List Int} (h : Bytes8 zs) (k : Nat) : Bytes8 (zs.drop k) := fun z hz => h z (List.mem_of_mem_drop hz)
theorem Bytes8.append {xs ys : List Int} (h : Bytes8 xs) (k : Bytes8 ys) : Bytes8 (xs ++ ys) := fun z hz => (List.mem_append.1 hz).elim (h z) (k z)

theorem getS_some {zs : List Int} {p v nx : Int} (hz : Bytes8 zs) (h : getS zs p = some (v, nx)) :
    W64 v ∧ ∃ k : Nat, p = k ∧ k < zs.length ∧ nx = ((k + (putS v).length : Nat) : Int) ∧ k + (putS v).length ≤ zs.length ∧ ∃ t, zs.drop k = putS v ++ t := by
  unfold getS at h
  split at h
  · rename_i hp
    obtain ⟨k, rfl⟩ := Int.eq_ofNat_of_zero_le hp.1
    rw [Int.toNat_natCast] at h
    cases hg : getA 0 0 (zs.drop k) with
    | none => rw [hg] at h; simp at h
    | some r =>
      rw [hg] at h
      obtain ⟨v', n⟩ := r
      simp only [Option.map_some, Option.some.injEq, Prod.mk.injEq] at h
      obtain ⟨h1, h2⟩ := h
      subst h1
      obtain ⟨hw, hn, t, ht⟩ := putS_get (hz.drop k) hg
      have hl := congrArg List.length ht
      rw [List.length_drop, List.length_append] at hl
      subst hn
      exact ⟨hw, k, rfl, by omega, by rw [← h2]; rfl, by omega, t, ht⟩
  · simp at h

theorem getS_at {v : Int} (hv : W64 v) (xs ys : List Int) : getS (xs ++ (putS v ++ ys)) xs.length = some (v, ((xs.length + (putS v).length : Nat) : Int)) := by
  have h1 := (putS_len v).1
  unfold getS
  rw [if_pos (by simp only [List.length_append]; omega), Int.toNat_natCast, List.drop_left, getS_put hv]
  rfl

theorem getS_short_at (v : Int) (xs : List Int) : getS (xs ++ (putS v).dropLast) xs.length = none := by
  unfold getS
  split
  · rw [Int.toNat_natCast, List.drop_left, getS_short]; rfl
  · rfl
theorem getS_end (xs : List Int) : getS xs xs.length = none := by
  unfold getS
  rw [if_neg (by omega)]

/-- How many things follow at a place: at most so many, and no more than bytes are left. -/
def sizeS (zs : List Int) (p most : Int) : Option (Int × Int) :=
  match getS zs p with
  | none => none
  | some (v, fr) => if most < 0 ∨ most < v ∨ zs.length - fr < v then none else some (v, fr)

theorem sizeS_some {zs : List Int} {p most v fr : Int} (hz : Bytes8 zs) (h : sizeS zs p most = some (v, fr)) :
    getS zs p = some (v, fr) ∧ 0 ≤ v ∧ v ≤ most ∧ 0 ≤ fr ∧ fr + v ≤ zs.length := by
  unfold sizeS at h
  split at h
  · simp at h
  · rename_i v' fr' hg
    split at h
    · simp at h
    · rename_i hc
      simp only [Option.some.injEq, Prod.mk.injEq] at h
      obtain ⟨rfl, rfl⟩ := h
      obtain ⟨hw, k, rfl, hk, hfr, hle, _⟩ := getS_some hz hg
      have hw0 := hw.1
      exact ⟨hg, by omega, by omega, by omega, by omega⟩

/-- The text at a place, of at most so many bytes, and the place behind it. -/
def textS (zs : List Int) (p most : Int) : Option (List Int × Int) :=
  match sizeS zs p most with
  | none => none
  | some (v, fr) => some ((zs.drop fr.toNat).take v.toNat, fr + v)

/-- A text's bytes. -/
def putT (s : List Int) : List Int := putS s.length ++ s

theorem w64_len {n : Nat} (h : n ≤ 9223372036854775807) : W64 (n : Int) := ⟨by omega, by omega⟩

theorem textS_back {zs : List Int} {p most e : Int} {s : List Int} (hz : Bytes8 zs) (h : textS zs p most = some (s, e)) :
    ∃ k : Nat, p = k ∧ (k : Int) < e ∧ e ≤ zs.length ∧ ∃ t, zs.drop k = putT s ++ t ∧ e = ((k + (putT s).length : Nat) : Int) := by
  unfold textS at h
  split at h
  · simp at h
  · rename_i v fr hs
    simp only [Option.some.injEq, Prod.mk.injEq] at h
    obtain ⟨h1, h2⟩ := h
    obtain ⟨hg, v0, _, _, hle⟩ := sizeS_some hz hs
    obtain ⟨hw, k, rfl, hk, hfr, _, t, ht⟩ := getS_some hz hg
    obtain ⟨m, rfl⟩ := Int.eq_ofNat_of_zero_le v0
    have hl1 := (putS_len (m : Int)).1
    have hd : zs.drop fr.toNat = t := by
      rw [hfr, Int.toNat_natCast, ← List.drop_drop, ht, List.drop_left]
    rw [hd, Int.toNat_natCast] at h1
    have hlt : m ≤ t.length := by
      have := congrArg List.length hd
      rw [List.length_drop] at this
      omega
    have hlen : s.length = m := by rw [← h1, List.length_take]; omega
    refine ⟨k, rfl, by omega, by omega, t.drop m, ?_, ?_⟩
    · unfold putT
      rw [hlen, List.append_assoc, ← h1, List.take_append_drop]
      exact ht
    · unfold putT
      rw [hlen, List.length_append, hlen]
      omega

theorem textS_at {s : List Int} (hs : s.length ≤ 9223372036854775807) (xs ys : List Int) : textS (xs ++ (putT s ++ ys)) xs.length s.length = some (s, ((xs.length + (putT s).length : Nat) : Int)) := by
  have hg := getS_at (w64_len hs) xs (s ++ ys)
  have hl1 := (putS_len (s.length : Int)).1
  unfold textS sizeS putT
  rw [List.append_assoc, hg]
  simp only [List.length_append]
  rw [if_neg (by omega)]
  simp only [Int.toNat_natCast]
  rw [← List.drop_drop, List.drop_left, List.drop_left, List.take_left]
  simp only [Option.some.injEq, Prod.mk.injEq, true_and]
  omega

theorem textS_short {s : List Int} (hs : s.length ≤ 9223372036854775807) : textS (putT s).dropLast 0 s.length = none := by
  cases s with
  | nil =>
    unfold textS sizeS
    rw [show getS (putT []).dropLast 0 = none from by unfold putT; rw [List.append_nil]; exact getS_short_at 0 []]
  | cons x t =>
    have e : (putT (x :: t)).dropLast = [] ++ (putS ((x :: t).length : Int) ++ (x :: t).dropLast) := by
      unfold putT
      rw [List.dropLast_append_of_ne_nil (by simp), List.nil_append]
    have hg := getS_at (w64_len hs) [] (x :: t).dropLast
    rw [← e] at hg
    unfold textS sizeS
    rw [show (0 : Int) = (([] : List Int).length : Int) from rfl, hg]
    simp only
    rw [if_pos]
    right; right
    rw [e]
    simp only [List.nil_append, List.length_append, List.length_dropLast, List.length_cons, List.length_nil]
    omega

/-- The bytes of a list, from one behind p on. -/
def riseB : Int → List Int → List Int
  | _, [] => []
  | p, x :: t => putS ((x - p - 1) % 18446744073709551616) ++ riseB x t
/-- The bytes of a list. -/
def putR (l : List Int) : List Int := putS l.length ++ riseB 18446744073709551615 l

/-- A list of so many numbers that rises from p on, got from a place on. -/
def riseG (zs : List Int) : Nat → Int → Int → Option (List Int × Int)
  | 0, _, q => some ([], q)
  | c + 1, p, q =>
    match getS zs q with
    | none => none
    | some (d, nx) => if 18446744073709551615 - p ≤ d then none else (riseG zs c (p + d + 1) nx).map fun r => ((p + d + 1) :: r.1, r.2)

/-- The list at a place, of at most so many, and the place behind it. -/
def riseS (zs : List Int) (p most : Int) : Option (List Int × Int) :=
  match sizeS zs p most with
  | none => none
  | some (v, fr) => riseG zs v.toNat (-1) fr

/-- It rises, from above p on. -/
def Rises : Int → List Int → Prop
  | _, [] => True
  | p, x :: t => p < x ∧ Rises x t

theorem w64_mod (x : Int) : W64 (x % 18446744073709551616) := ⟨by omega, by omega⟩

theorem riseB_top (l : List Int) : riseB (-1) l = riseB 18446744073709551615 l := by
  cases l with
  | nil => rfl
  | cons x t =>
    simp only [riseB]
    congr 2
    omega

theorem riseB_byte (p : Int) (l : List Int) : Bytes8 (riseB p l) := by
  induction l generalizing p with
  | nil => intro z hz; simp [riseB] at hz
  | cons x t ih => exact Bytes8.append (putS_byte (w64_mod _)) (ih x)
theorem riseB_len (p : Int) (l : List Int) : l.length ≤ (riseB p l).length ∧ (riseB p l).length ≤ 10 * l.length := by
  induction l generalizing p with
  | nil => simp [riseB]
  | cons x t ih =>
    have h1 := putS_len ((x - p - 1) % 18446744073709551616)
    have h2 := ih x
    simp only [riseB, List.length_append, List.length_cons]
    omega
theorem putR_byte {l : List Int} (h : l.length ≤ 9223372036854775807) : Bytes8 (putR l) := Bytes8.append (putS_byte (w64_len h)) (riseB_byte _ _)

theorem riseG_back {zs : List Int} (hz : Bytes8 zs) (c : Nat) (p q e : Int) (l : List Int) (hp : -1 ≤ p) (h : riseG zs c p q = some (l, e)) (k : Nat) (hk : q = k) (hkl : k ≤ zs.length) :
    l.length = c ∧ Rises p l ∧ (∀ x ∈ l, W64 x) ∧ e = ((k + (riseB p l).length : Nat) : Int) ∧ k + (riseB p l).length ≤ zs.length ∧ ∃ t, zs.drop k = riseB p l ++ t := by
  induction c generalizing p q l k with
  | zero =>
    simp only [riseG, Option.some.injEq, Prod.mk.injEq] at h
    obtain ⟨rfl, rfl⟩ := h
    exact ⟨rfl, trivial, by simp, by simp [riseB, hk], by simpa [riseB] using hkl, zs.drop k, by simp [riseB]⟩
  | succ c ih =>
    simp only [riseG] at h
    split at h
    · simp at h
    · rename_i d nx hg
      split at h
      · simp at h
      · rename_i hd
        cases hr : riseG zs c (p + d + 1) nx with
        | none => rw [hr] at h; simp at h
        | some r =>
          rw [hr] at h
          simp only [Option.map_some, Option.some.injEq, Prod.mk.injEq] at h
          obtain ⟨h1, h2⟩ := h
          obtain ⟨l', e'⟩ := r
          simp only at h1 h2
          subst h2
          subst h1
          obtain ⟨hw, k', hk', _, hnx, hle, t, ht⟩ := getS_some hz hg
          have : k' = k := by omega
          subst this
          have hd0 := hw.1
          have hd1 := hw.2
          have e1 : (p + d + 1 - p - 1) % 18446744073709551616 = d := by omega
          obtain ⟨i1, i2, i3, i4, i5, t', i6⟩ := ih (p + d + 1) nx l' (by omega) hr (k' + (putS d).length) hnx hle
          rw [← List.drop_drop, ht, List.drop_left] at i6
          refine ⟨by simp [i1], ⟨by omega, i2⟩, ?_, ?_, ?_, t', ?_⟩
          · intro x hx
            rcases List.mem_cons.1 hx with rfl | hx
            · exact ⟨by omega, by omega⟩
            · exact i3 x hx
          · simp only [riseB, e1, List.length_append]; rw [i4]; omega
          · simp only [riseB, e1, List.length_append]; omega
          · simp only [riseB, e1]; rw [ht, i6, List.append_assoc]

theorem riseG_at (l : List Int) (p : Int) (hp : -1 ≤ p) (hr : Rises p l) (hw : ∀ x ∈ l, W64 x) (xs ys : List Int) :
    riseG (xs ++ (riseB p l ++ ys)) l.length p xs.length = some (l, ((xs.length + (riseB p l).length : Nat) : Int)) := by
  induction l generalizing p xs with
  | nil => simp [riseG, riseB]
  | cons x t ih =>
    have hx := hw x (by simp)
    have hx0 := hx.1
    have hx1 := hx.2
    have hpx := hr.1
    have e1 : (x - p - 1) % 18446744073709551616 = x - p - 1 := by omega
    simp only [riseB, List.length_cons, riseG, e1]
    have hg := getS_at (v := x - p - 1) ⟨by omega, by omega⟩ xs (riseB x t ++ ys)
    rw [List.append_assoc, hg]
    simp only
    rw [if_neg (by omega), show p + (x - p - 1) + 1 = x from by omega]
    have hi := ih x (by omega) hr.2 (fun y hy => hw y (by simp [hy])) (xs ++ putS (x - p - 1))
    rw [List.append_assoc, List.length_append] at hi
    rw [hi]
    simp only [Option.map_some, Option.some.injEq, Prod.mk.injEq, true_and, List.length_append]
    omega

theorem riseG_short (l : List Int) (hl : l ≠ []) (p q : Int) (xs : List Int) : riseG (xs ++ (riseB q l).dropLast) l.length p xs.length = none := by
  induction l generalizing p q xs with
  | nil => exact absurd rfl hl
  | cons x t ih =>
    cases t with
    | nil =>
      simp only [riseB, List.append_nil, List.length_cons, List.length_nil, riseG]
      rw [getS_short_at]
    | cons y t =>
      have hne : riseB x (y :: t) ≠ [] := by
        intro h
        have := (riseB_len x (y :: t)).1
        rw [h] at this
        simp at this
      have e : (riseB q (x :: y :: t)).dropLast = putS ((x - q - 1) % 18446744073709551616) ++ (riseB x (y :: t)).dropLast := by
        rw [riseB, List.dropLast_append_of_ne_nil hne]
      rw [e, List.length_cons, riseG, getS_at (w64_mod _)]
      simp only
      split
      · rfl
      · have hi := ih (by simp) (p + (x - q - 1) % 18446744073709551616 + 1) x (xs ++ putS ((x - q - 1) % 18446744073709551616))
        rw [List.append_assoc, List.length_append] at hi
        rw [hi]
        rfl

theorem riseS_back {zs : List Int} {p most e : Int} {l : List Int} (hz : Bytes8 zs) (h : riseS zs p most = some (l, e)) :
    Rises (-1) l ∧ (∀ x ∈ l, W64 x) ∧ (l.length : Int) ≤ most ∧ l.length ≤ zs.length ∧ ∃ k : Nat, p = k ∧ (k : Int) < e ∧ e ≤ zs.length ∧ ∃ t, zs.drop k = putR l ++ t ∧ e = ((k + (putR l).length : Nat) : Int) := by
  unfold riseS at h
  split at h
  · simp at h
  · rename_i v fr hs
    obtain ⟨hg, v0, vm, _, hle⟩ := sizeS_some hz hs
    obtain ⟨hw, k, rfl, hk, hfr, hle2, t, ht⟩ := getS_some hz hg
    obtain ⟨m, rfl⟩ := Int.eq_ofNat_of_zero_le v0
    rw [Int.toNat_natCast] at h
    have hl1 := (putS_len (m : Int)).1
    obtain ⟨i1, i2, i3, i4, i5, t', i6⟩ := riseG_back hz m (-1) fr e l (by omega) h (k + (putS (m : Int)).length) hfr hle2
    rw [← List.drop_drop, ht, List.drop_left] at i6
    rw [riseB_top] at i4 i5 i6
    refine ⟨i2, i3, by omega, by omega, k, rfl, by omega, by omega, t', ?_, ?_⟩
    · unfold putR; rw [ht, i6, i1, List.append_assoc]
    · unfold putR; rw [i4, i1, List.length_append]; omega

theorem riseS_at {l : List Int} (hl : l.length ≤ 9223372036854775807) (hr : Rises (-1) l) (hw : ∀ x ∈ l, W64 x) (xs ys : List Int) :
    riseS (xs ++ (putR l ++ ys)) xs.length l.length = some (l, ((xs.length + (putR l).length : Nat) : Int)) := by
  have hg := getS_at (w64_len hl) xs (riseB 18446744073709551615 l ++ ys)
  have hb := (riseB_len 18446744073709551615 l).1
  unfold riseS sizeS putR
  rw [List.append_assoc, hg]
  simp only [List.length_append]
  rw [if_neg (by omega)]
  simp only [Int.toNat_natCast]
  have hi := riseG_at l (-1) (by omega) hr hw (xs ++ putS (l.length : Int)) ys
  rw [riseB_top, List.append_assoc, List.length_append] at hi
  rw [hi]
  simp only [Option.some.injEq, Prod.mk.injEq, true_and]
  omega

theorem riseS_short {l : List Int} (hl : l.length ≤ 9223372036854775807) : riseS (putR l).dropLast 0 l.length = none := by
  cases l with
  | nil =>
    unfold riseS sizeS
    rw [show getS (putR []).dropLast 0 = none from by unfold putR riseB; rw [List.append_nil]; exact getS_short_at 0 []]
  | cons x t =>
    have hne : riseB 18446744073709551615 (x :: t) ≠ [] := by
      intro h
      have := (riseB_len 18446744073709551615 (x :: t)).1
      rw [h] at this
      simp at this
    have e : (putR (x :: t)).dropLast = [] ++ (putS ((x :: t).length : Int) ++ (riseB 18446744073709551615 (x :: t)).dropLast) := by
      unfold putR
      rw [List.dropLast_append_of_ne_nil hne, List.nil_append]
    have hg := getS_at (w64_len hl) [] (riseB 18446744073709551615 (x :: t)).dropLast
    rw [← e] at hg
    unfold riseS sizeS
    rw [show (0 : Int) = (([] : List Int).length : Int) from rfl, hg]
    simp only
    split
    · rfl
    · rename_i hs
      split at hs
      · simp at hs
      · simp only [Option.some.injEq, Prod.mk.injEq] at hs
        obtain ⟨rfl, rfl⟩ := hs
        rw [e, List.nil_append, Int.toNat_natCast, List.length_nil, Nat.zero_add]
        exact riseG_short (x :: t) (by simp) (-1) _ _
end Go.Proofs.Ythlkmjaflomflaa
