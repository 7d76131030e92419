/-
  Bytes read as a list of buckets: a plain reader; it reads back what was put, whatever stands ahead and behind.
  Conditions: bytes are bytes.
-/
import Derived.Test.YtjngpdhhkkambabHistY
namespace Go.Proofs.Ytjngpdhhkkambab

/-- c buckets of the sparse form, behind bucket 'last', from place p on. -/
def parSp (zs : List Int) : Nat → Int → Int → Option (Bks × Int)
  | 0, _, p => some ([], p)
  | c + 1, last, p => match getS zs p with
    | none => none
    | some (d, p1) => match getS zs p1 with
      | none => none
      | some (y, p2) => if 7424 ≤ d then none else (parSp zs c (last + 1 + d) p2).map fun r => ((last + 1 + d, y) :: r.1, r.2)
/-- c counts of the dense form, the first of bucket k, from place p on. -/
def parDn (zs : List Int) : Nat → Int → Int → Option (Bks × Int)
  | 0, _, p => some ([], p)
  | c + 1, k, p => match getS zs p with
    | none => none
    | some (y, p1) => (parDn zs c (k + 1) p1).map fun r => (if 0 < y then (k, y) :: r.1 else r.1, r.2)
/-- What the bytes say, before it is held against what would have been put. -/
def parH (zs : List Int) (p : Int) : Option (Bks × Int) :=
  match getS zs p with
  | none => none
  | some (t, p1) =>
    if t = 0 then match sizeS zs p1 7424 with
      | none => none
      | some (c, p2) => parSp zs c.toNat (-1) p2
    else if t = 1 then match getS zs p1 with
      | none => none
      | some (f, p2) => match sizeS zs p2 7424 with
        | none => none
        | some (c, p3) => if 7424 ≤ f then none else parDn zs c.toNat f p3
    else none
/-- Bytes read as a list of buckets. -/
def getH (zs : List Int) (p : Int) : Option (Bks × Int) :=
  match parH zs p with
  | none => none
  | some (l, e) => if checkS l = true ∧ putH l = (zs.drop p.toNat).take (e - p).toNat then some (l, e) else none

theorem putS_unit : putS 1 = [1] := by decide
theorem parSp_at {last : Int} (h0 : -1 ≤ last) {l : Bks} (hl : checkF last l = true) (hw : WordsB l) (xs ys : List Int) :
    parSp (xs ++ (sparB last l ++ ys)) l.length last xs.length = some (l, ((xs.length + (sparB last l).length : Nat) : Int)) := by
  induction l generalizing last xs with
  | nil => simp [parSp, sparB]
  | cons x t ih =>
    obtain ⟨k, c⟩ := x
    have h := checkF_cons.1 hl
    have hc := hw _ (List.mem_cons_self ..)
    have e1 := getS_at (v := k - last - 1) (w64_small (by omega) (by omega)) xs (putS c ++ sparB k t ++ ys)
    have e2 := getS_at (v := c) hc (xs ++ putS (k - last - 1)) (sparB k t ++ ys)
    have e3 := ih (last := k) (by omega) h.2.2.2 (fun z hz => hw z (List.mem_cons_of_mem _ hz)) (xs ++ putS (k - last - 1) ++ putS c)
    have s1 : xs ++ (sparB last ((k, c) :: t) ++ ys) = xs ++ (putS (k - last - 1) ++ (putS c ++ sparB k t ++ ys)) := by rw [sparB]; simp
    have s2 : xs ++ (sparB last ((k, c) :: t) ++ ys) = xs ++ putS (k - last - 1) ++ (putS c ++ (sparB k t ++ ys)) := by rw [sparB]; simp
    have s3 : xs ++ (sparB last ((k, c) :: t) ++ ys) = xs ++ putS (k - last - 1) ++ putS c ++ (sparB k t ++ ys) := by rw [sparB]; simp
    rw [← s1] at e1
    rw [← s2] at e2
    rw [← s3] at e3
    rw [List.length_append] at e2
    rw [List.length_append, List.length_append] at e3
    rw [List.length_cons, parSp, e1]
    simp only
    rw [e2]
    simp only
    rw [if_neg (by omega), show last + 1 + (k - last - 1) = k by omega, e3]
    simp only [Option.map_some, Option.some.injEq, Prod.mk.injEq, true_and]
    rw [sparB, List.length_append, List.length_append]
    omega
theorem parDn_at {n : Nat} {k : Int} {l : Bks} (hl : checkF (k - 1) l = true) (hw : WordsB l) (hb : lastD (k - 1) l < k + n) (xs ys : List Int) :
    parDn (xs ++ (densB k n l ++ ys)) n k xs.length = some (l, ((xs.length + (densB k n l).length : Nat) : Int)) := by
  induction n generalizing k l xs with
  | zero =>
    have e : l = [] := by
      cases l with
      | nil => rfl
      | cons x t =>
        obtain ⟨j, c⟩ := x
        have h1 := checkF_cons.1 hl
        have h2 := (checkF_lastD h1.2.2.2).1
        rw [lastD] at hb
        omega
    subst e
    simp [parDn, densB]
  | succ n ih =>
    have w := nextB_words (k := k) hw
    have e0 : k + 1 - 1 = k := by omega
    have e1 := getS_at (v := (nextB k l).1) w.1 xs (densB (k + 1) n (nextB k l).2 ++ ys)
    have e2 := ih (k := k + 1) (l := (nextB k l).2) (by rw [e0]; exact nextB_check hl) w.2 (by rw [e0]; have := nextB_bound (k := k) (e := k + 1 + n) (l := l) (by omega) (by omega); exact this) (xs ++ putS (nextB k l).1)
    have s1 : xs ++ (densB k (n + 1) l ++ ys) = xs ++ (putS (nextB k l).1 ++ (densB (k + 1) n (nextB k l).2 ++ ys)) := by rw [densB_next]; simp
    have s2 : xs ++ (densB k (n + 1) l ++ ys) = xs ++ putS (nextB k l).1 ++ (densB (k + 1) n (nextB k l).2 ++ ys) := by rw [densB_next]; simp
    rw [← s1] at e1
    rw [← s2] at e2
    rw [List.length_append] at e2
    rw [parDn, e1]
    simp only
    rw [e2]
    simp only [Option.map_some, Option.some.injEq, Prod.mk.injEq]
    refine ⟨?_, by rw [densB_next, List.length_append]; omega⟩
    cases l with
    | nil => rfl
    | cons x t =>
      obtain ⟨j, c⟩ := x
      have h := checkF_cons.1 hl
      rw [nextB]
      split
      · rename_i e; subst e; simp only; rw [if_pos h.2.2.1]
      · simp
theorem sizeS_at {v : Nat} {most : Int} (hv : (v : Int) ≤ most) (hm : most ≤ 9223372036854775807) (xs ys : List Int) (hl : v ≤ ys.length) :
    sizeS (xs ++ (putS (v : Int) ++ ys)) xs.length most = some ((v : Int), ((xs.length + (putS (v : Int)).length : Nat) : Int)) := by
  unfold sizeS
  rw [getS_at (v := (v : Int)) ⟨by omega, by omega⟩]
  simp only
  rw [if_neg]
  simp only [List.length_append]
  omega
theorem sparB_long {last : Int} {l : Bks} : 2 * l.length ≤ (sparB last l).length := by
  induction l generalizing last with
  | nil => simp
  | cons x t ih =>
    obtain ⟨k, c⟩ := x
    rw [sparB, List.length_append, List.length_append, List.length_cons]
    have h1 := (putS_len (k - last - 1)).1
    have h2 := (putS_len c).1
    have h3 := ih (last := k)
    omega
theorem densB_long {k : Int} {n : Nat} {l : Bks} : n ≤ (densB k n l).length := by
  induction n generalizing k l with
  | zero => omega
  | succ n ih =>
    rw [densB_next, List.length_append]
    have h1 := (putS_len (nextB k l).1).1
    have h2 := ih (k := k + 1) (l := (nextB k l).2)
    omega
theorem parH_at {l : Bks} (hl : Good l) (xs ys : List Int) : parH (xs ++ (putH l ++ ys)) xs.length = some (l, ((xs.length + (putH l).length : Nat) : Int)) := by
  have hn := good_len hl
  unfold putH
  split
  · rename_i c
    obtain ⟨a1, a2, a3, a4, a5, a6, a7⟩ := span_facts hl c.1
    have e0 := getS_at (v := 1) (w64_small (by omega) (by omega)) xs (putS (fromS l) ++ (putS (spanS l : Int) ++ densB (fromS l) (spanS l) l) ++ ys)
    have e1 := getS_at (v := fromS l) (w64_small (by omega) (by omega)) (xs ++ putS 1) (putS (spanS l : Int) ++ densB (fromS l) (spanS l) l ++ ys)
    have e2 := sizeS_at (v := spanS l) (most := 7424) (by omega) (by omega) (xs ++ putS 1 ++ putS (fromS l)) (densB (fromS l) (spanS l) l ++ ys) (by rw [List.length_append]; have := densB_long (k := fromS l) (n := spanS l) (l := l); omega)
    have e3 := parDn_at (n := spanS l) (k := fromS l) a6 hl.words (by omega) (xs ++ putS 1 ++ putS (fromS l) ++ putS (spanS l : Int)) ys
    have s0 : xs ++ (denseS l ++ ys) = xs ++ (putS 1 ++ (putS (fromS l) ++ (putS (spanS l : Int) ++ densB (fromS l) (spanS l) l) ++ ys)) := by rw [denseS, putS_unit]; simp
    have s1 : xs ++ (denseS l ++ ys) = xs ++ putS 1 ++ (putS (fromS l) ++ (putS (spanS l : Int) ++ densB (fromS l) (spanS l) l ++ ys)) := by rw [denseS, putS_unit]; simp
    have s2 : xs ++ (denseS l ++ ys) = xs ++ putS 1 ++ putS (fromS l) ++ (putS (spanS l : Int) ++ (densB (fromS l) (spanS l) l ++ ys)) := by rw [denseS, putS_unit]; simp
    have s3 : xs ++ (denseS l ++ ys) = xs ++ putS 1 ++ putS (fromS l) ++ putS (spanS l : Int) ++ (densB (fromS l) (spanS l) l ++ ys) := by rw [denseS, putS_unit]; simp
    rw [← s0] at e0
    rw [← s1] at e1
    rw [← s2] at e2
    rw [← s3] at e3
    simp only [List.length_append] at e1 e2 e3
    unfold parH
    rw [e0]
    simp only
    rw [if_neg (by decide), if_pos trivial, e1]
    simp only
    rw [e2]
    simp only
    rw [if_neg (by omega), Int.toNat_natCast, e3]
    simp only [Option.some.injEq, Prod.mk.injEq, true_and]
    rw [denseS, List.length_cons, List.length_append, List.length_append, putS_unit]
    simp only [List.length_cons, List.length_nil]
    omega
  · have e0 := getS_at (v := 0) (w64_small (by omega) (by omega)) xs (putS (l.length : Int) ++ sparB (-1) l ++ ys)
    have e1 := sizeS_at (v := l.length) (most := 7424) (by omega) (by omega) (xs ++ putS 0) (sparB (-1) l ++ ys) (by rw [List.length_append]; have := sparB_long (last := -1) (l := l); omega)
    have e2 := parSp_at (Int.le_refl _) hl.check hl.words (xs ++ putS 0 ++ putS (l.length : Int)) ys
    have s0 : xs ++ (sparseS l ++ ys) = xs ++ (putS 0 ++ (putS (l.length : Int) ++ sparB (-1) l ++ ys)) := by rw [sparseS, putS_zero]; simp
    have s1 : xs ++ (sparseS l ++ ys) = xs ++ putS 0 ++ (putS (l.length : Int) ++ (sparB (-1) l ++ ys)) := by rw [sparseS, putS_zero]; simp
    have s2 : xs ++ (sparseS l ++ ys) = xs ++ putS 0 ++ putS (l.length : Int) ++ (sparB (-1) l ++ ys) := by rw [sparseS, putS_zero]; simp
    rw [← s0] at e0
    rw [← s1] at e1
    rw [← s2] at e2
    simp only [List.length_append] at e1 e2
    unfold parH
    rw [e0]
    simp only
    rw [if_pos trivial, e1]
    simp only
    rw [Int.toNat_natCast, e2]
    simp only [Option.some.injEq, Prod.mk.injEq, true_and]
    rw [sparseS, List.length_cons, List.length_append, putS_zero]
    simp only [List.length_cons, List.length_nil]
    omega
/-- What was put is got, whatever stands ahead and behind. -/
theorem getH_at {l : Bks} (hl : Good l) (xs ys : List Int) : getH (xs ++ (putH l ++ ys)) xs.length = some (l, ((xs.length + (putH l).length : Nat) : Int)) := by
  unfold getH
  rw [parH_at hl]
  simp only
  rw [if_pos]
  refine ⟨hl.check, ?_⟩
  have e : ((((xs.length + (putH l).length : Nat) : Int)) - (xs.length : Int)).toNat = (putH l).length := by omega
  rw [e, Int.toNat_natCast, List.drop_left, List.take_left]
end Go.Proofs.Ytjngpdhhkkambab
