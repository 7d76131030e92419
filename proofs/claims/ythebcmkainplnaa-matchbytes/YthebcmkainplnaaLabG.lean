/-
  A set's bytes, plainly: what is put, what is read, and that what was put is read. No function is named.
  Conditions: as each theorem says.
-/
import Derived.Test.YthebcmkainplnaaLabK
import Derived.Test.YthebcmkainplnaaVintL
import Derived.Test.YthebcmkainplnaaVintA
namespace Go.Proofs.Ythebcmkainplnaa
open Go.RowKit
set_option maxRecDepth 20000

def bodyL (l : List Lb) : List Int := l.flatMap fun x => putT (numsOf x.1) ++ putT (numsOf x.2)
def putL (l : List Lb) : List Int := putS l.length ++ bodyL l
theorem bodyL_nil : bodyL [] = [] := rfl
theorem bodyL_cons (x : Lb) (l : List Lb) : bodyL (x :: l) = putT (numsOf x.1) ++ (putT (numsOf x.2) ++ bodyL l) := by simp [bodyL]
theorem bodyL_append (l m : List Lb) : bodyL (l ++ m) = bodyL l ++ bodyL m := by simp [bodyL]

def rdL (zs : List Int) : Nat → Int → Option (List Lb × Int)
  | 0, p => some ([], p)
  | k + 1, p => match textS zs p 32 with
    | none => none
    | some r => match textS zs r.2 64 with
      | none => none
      | some q => (rdL zs k q.2).map fun x => ((strOfNums r.1, strOfNums q.1) :: x.1, x.2)
/-- What is read counts if it may be. -/
def finL (r : Option (List Lb × Int)) : Option (List Lb × Int) :=
  match r with
  | none => none
  | some q => if chkL q.1 = true then some q else none
def getL (zs : List Int) (p : Int) : Option (List Lb × Int) :=
  match getS zs p with
  | none => none
  | some r => if 8 < r.1 then none else finL (rdL zs r.1.toNat r.2)

theorem textS_more {zs : List Int} {p m m' : Int} {r : List Int × Int} (h : textS zs p m = some r) (hm : m ≤ m') : textS zs p m' = some r := by
  unfold textS sizeS at *
  cases hg : getS zs p with
  | none => rw [hg] at h; cases h
  | some q =>
    rw [hg] at h
    simp only at h ⊢
    by_cases c : m < 0 ∨ m < q.1 ∨ (zs.length : Int) - q.2 < q.1
    · rw [if_pos c] at h; cases h
    · rw [if_neg c] at h
      rw [if_neg (by omega)]
      exact h

theorem rdL_step {zs : List Int} {k : Nat} {p q e : Int} {s t : List Int} (h1 : textS zs p 32 = some (s, q)) (h2 : textS zs q 64 = some (t, e)) :
    rdL zs (k + 1) p = (rdL zs k e).map fun x => ((strOfNums s, strOfNums t) :: x.1, x.2) := by
  rw [rdL, h1]
  simp only [h2]
theorem rdL_no1 {zs : List Int} {k : Nat} {p : Int} (h1 : textS zs p 32 = none) : rdL zs (k + 1) p = none := by
  rw [rdL, h1]
theorem rdL_no2 {zs : List Int} {k : Nat} {p q : Int} {s : List Int} (h1 : textS zs p 32 = some (s, q)) (h2 : textS zs q 64 = none) : rdL zs (k + 1) p = none := by
  rw [rdL, h1]
  simp only [h2]

theorem rdL_size {zs : List Int} (hz : Bytes8 zs) : ∀ (k : Nat) (p e : Int) (l : List Lb), rdL zs k p = some (l, e) → l.length = k ∧ (k = 0 ∨ 0 ≤ p ∧ p + k ≤ e ∧ e ≤ zs.length) ∧ (k = 0 → e = p)
  | 0, p, e, l, h => by
    rw [rdL] at h
    cases h
    exact ⟨rfl, Or.inl rfl, fun _ => rfl⟩
  | k + 1, p, e, l, h => by
    cases h1 : textS zs p 32 with
    | none => rw [rdL_no1 h1] at h; cases h
    | some r =>
      obtain ⟨s, q⟩ := r
      cases h2 : textS zs q 64 with
      | none => rw [rdL_no2 h1 h2] at h; cases h
      | some r =>
        obtain ⟨t, f⟩ := r
        rw [rdL_step h1 h2] at h
        cases h3 : rdL zs k f with
        | none => rw [h3] at h; cases h
        | some r =>
          obtain ⟨m, f'⟩ := r
          rw [h3] at h
          simp only [Option.map_some, Option.some.injEq, Prod.mk.injEq] at h
          obtain ⟨rfl, rfl⟩ := h
          obtain ⟨i1, i2, i3⟩ := rdL_size hz k f f' m h3
          obtain ⟨a, rfl, a1, a2, _⟩ := textS_back hz h1
          obtain ⟨b, rfl, b1, b2, _⟩ := textS_back hz h2
          refine ⟨by rw [List.length_cons, i1], Or.inr ⟨by omega, ?_, ?_⟩, fun c => by omega⟩
          · rcases i2 with rfl | i2
            · rw [i3 rfl]; omega
            · omega
          · rcases i2 with rfl | i2
            · rw [i3 rfl]; omega
            · omega

theorem rdL_back : ∀ (l : List Lb) (xs : List Int), (∀ x ∈ l, x.1.size ≤ 32 ∧ x.2.size ≤ 64) → rdL (xs ++ bodyL l) l.length xs.length = some (l, ((xs.length + (bodyL l).length : Nat) : Int))
  | [], xs, _ => by simp [rdL, bodyL]
  | x :: l, xs, h => by
    have hx := h x (by simp)
    have e1 : textS (xs ++ bodyL (x :: l)) xs.length 32 = some (numsOf x.1, ((xs.length + (putT (numsOf x.1)).length : Nat) : Int)) := by
      rw [bodyL_cons]
      exact textS_more (textS_at (by rw [numsOf_len]; omega) xs _) (by rw [numsOf_len]; omega)
    have e2 : textS (xs ++ bodyL (x :: l)) ((xs.length + (putT (numsOf x.1)).length : Nat) : Int) 64 = some (numsOf x.2, ((xs.length + (putT (numsOf x.1)).length + (putT (numsOf x.2)).length : Nat) : Int)) := by
      rw [bodyL_cons, ← List.append_assoc, ← List.length_append]
      exact textS_more (textS_at (by rw [numsOf_len]; omega) _ _) (by rw [numsOf_len]; omega)
    have ih := rdL_back l (xs ++ putT (numsOf x.1) ++ putT (numsOf x.2)) (fun y hy => h y (by simp [hy]))
    rw [List.length_cons, rdL_step e1 e2, bodyL_cons, ← List.append_assoc, ← List.append_assoc]
    rw [show ((xs.length + (putT (numsOf x.1)).length + (putT (numsOf x.2)).length : Nat) : Int) = (((xs ++ putT (numsOf x.1) ++ putT (numsOf x.2)).length : Nat) : Int) from by simp only [List.length_append], ih]
    simp only [Option.map_some, strOf_nums]
    congr 2
    simp only [List.length_append]
    omega

theorem getL_back {l : List Lb} (h : chkL l = true) (hl : l.length ≤ 8) (hx : ∀ x ∈ l, x.1.size ≤ 32 ∧ x.2.size ≤ 64) (xs : List Int) : getL (xs ++ putL l) xs.length = some (l, ((xs.length + (putL l).length : Nat) : Int)) := by
  unfold getL putL
  rw [getS_at (w64_len (by omega)) xs (bodyL l)]
  simp only
  rw [if_neg (by omega), Int.toNat_natCast, ← List.append_assoc, ← List.length_append, rdL_back l _ hx, finL]
  simp only
  rw [if_pos h]
  congr 2
  simp only [List.length_append]
  omega

/-- By the reader's Count. -/
theorem getL_count {zs : List Int} {p : Int} (hz : Bytes8 zs) : getL zs p = match sizeS zs p 8 with
    | none => none
    | some r => finL (rdL zs r.1.toNat r.2) := by
  unfold getL sizeS
  cases hg : getS zs p with
  | none => rfl
  | some r =>
    obtain ⟨v, f⟩ := r
    simp only
    obtain ⟨hw, k, _, _, hf, hle, _⟩ := getS_some hz hg
    by_cases c : 8 < v
    · rw [if_pos c, if_pos (Or.inr (Or.inl (by omega)))]
    · rw [if_neg c]
      by_cases d : (zs.length : Int) - f < v
      · rw [if_pos (Or.inr (Or.inr d))]
        cases h : rdL zs v.toNat f with
        | none => rfl
        | some q =>
          obtain ⟨l, e⟩ := q
          exfalso
          obtain ⟨_, i2, _⟩ := rdL_size hz _ _ _ _ h
          have := hw.1
          omega
      · rw [if_neg (by omega)]
end Go.Proofs.Ythebcmkainplnaa
