/-
  Lists of buckets as bytes, in the two forms: plain lists of whole numbers; no two lists have the same bytes, whatever follows; how many bytes there are at most. Bytes read as a list of buckets: a plain reader; it reads back what was put, whatever stands ahead and behind. The two forms' sizes, which of them is put, by their sizes alone; a reader that takes a list by its form: it reads just what was put, so it is the document's reader. Plain lists of whole numbers. The program's own sizes of numbers, numbers behind bytes, spans of buckets, and which form is put: contracts, for every world. Buckets as bytes, by the program: both forms, and Put: contracts, for every world. Bytes read as buckets, by the program: both forms, and Get: contracts, for every world. A sketch's bytes, there and back: Put, Get: contracts, for every world; what a list that may be is got as.
  Conditions: as each theorem says.
-/
import Derived.Test.YtknghoecjobkiaaGreatDoorZua
import Derived.Test.YtknghoecjobkiaaGreatDoorZug
import Derived.Test.YtknghoecjobkiaaGreatDoorZub
import Derived.Deep.QuietTactic
import Derived.BigQuiet
import Derived.Deep.Cut
namespace Go.Proofs.YtknghoecjobkiaaGreatDoor
/-- The buckets' own bytes in the sparse form. -/
def sparB : Int → Bks → List Int
  | _, [] => []
  | last, (k, c) :: t => putS (k - last - 1) ++ (putS c ++ sparB k t)
def sparseS (l : Bks) : List Int := 0 :: (putS l.length ++ sparB (-1) l)
/-- The counts' bytes in the dense form, n of them, from bucket k on. -/
def densB : Int → Nat → Bks → List Int
  | _, 0, _ => []
  | k, n + 1, [] => 0 :: densB (k + 1) n []
  | k, n + 1, (j, c) :: t => if j = k then putS c ++ densB (k + 1) n t else 0 :: densB (k + 1) n ((j, c) :: t)
def fromS : Bks → Int
  | [] => 0
  | (k, _) :: _ => k
/-- How many buckets there are from the first to the last one. -/
def spanS (l : Bks) : Nat := (lastD (-1) l - fromS l + 1).toNat
def denseS (l : Bks) : List Int := 1 :: (putS (fromS l) ++ (putS (spanS l) ++ densB (fromS l) (spanS l) l))
/-- The bytes that are put. -/
def putH (l : Bks) : List Int := if l ≠ [] ∧ (denseS l).length < (sparseS l).length then denseS l else sparseS l

theorem putS_zero : putS 0 = [0] := by decide
theorem putS_inj {u v : Int} (hu : W64 u) (hv : W64 v) {xs ys : List Int} (h : putS u ++ xs = putS v ++ ys) : u = v ∧ xs = ys := by
  have h1 := getS_at hu [] xs
  have h2 := getS_at hv [] ys
  rw [List.nil_append] at h1 h2
  rw [h, h2] at h1
  simp only [Option.some.injEq, Prod.mk.injEq] at h1
  obtain ⟨e, _⟩ := h1
  subst e
  exact ⟨rfl, List.append_cancel_left h⟩
theorem w64_small {x : Int} (h0 : 0 ≤ x) (h1 : x ≤ 7424) : W64 x := ⟨h0, by omega⟩

theorem sparB_inj {last : Int} (h0 : -1 ≤ last) {l m : Bks} (hl : checkF last l = true) (hm : checkF last m = true) (wl : WordsB l) (wm : WordsB m) (hn : l.length = m.length) {xs ys : List Int} (h : sparB last l ++ xs = sparB last m ++ ys) : l = m ∧ xs = ys := by
  induction l generalizing m last with
  | nil =>
    cases m with
    | nil => exact ⟨rfl, h⟩
    | cons _ _ => simp at hn
  | cons x s ih =>
    cases m with
    | nil => simp at hn
    | cons y t =>
      obtain ⟨i, c⟩ := x
      obtain ⟨k, d⟩ := y
      have hl' := checkF_cons.1 hl
      have hm' := checkF_cons.1 hm
      have hc := wl _ (List.mem_cons_self ..)
      have hd := wm _ (List.mem_cons_self ..)
      simp only at hc hd
      rw [sparB, sparB, List.append_assoc, List.append_assoc, List.append_assoc, List.append_assoc] at h
      obtain ⟨e1, g1⟩ := putS_inj (w64_small (by omega) (by omega)) (w64_small (by omega) (by omega)) h
      obtain ⟨e2, g2⟩ := putS_inj hc hd g1
      have e3 : i = k := by omega
      clear h g1
      subst e3
      subst e2
      obtain ⟨e4, e5⟩ := ih (by omega) hl'.2.2.2 hm'.2.2.2 (fun z hz => wl z (List.mem_cons_of_mem _ hz)) (fun z hz => wm z (List.mem_cons_of_mem _ hz)) (by simpa using hn) g2
      exact ⟨by rw [e4], e5⟩
theorem sparse_inj {l m : Bks} (hl : Good l) (hm : Good m) {xs ys : List Int} (h : sparseS l ++ xs = sparseS m ++ ys) : l = m ∧ xs = ys := by
  have n1 := checkF_len hl.check
  have n2 := checkF_len hm.check
  have b1 : l.length ≤ 7424 := by
    rcases n1 with h | h
    · omega
    · rw [h]; simp
  have b2 : m.length ≤ 7424 := by
    rcases n2 with h | h
    · omega
    · rw [h]; simp
  unfold sparseS at h
  rw [List.cons_append, List.cons_append, List.append_assoc, List.append_assoc] at h
  obtain ⟨e1, h⟩ := putS_inj (w64_small (by omega) (by omega)) (w64_small (by omega) (by omega)) (List.cons.inj h).2
  exact sparB_inj (Int.le_refl _) hl.check hm.check hl.words hm.words (by omega) h

theorem densB_skip {k : Int} {n : Nat} {j c : Int} {t : Bks} (h : k < j) : densB k (n + 1) ((j, c) :: t) = 0 :: densB (k + 1) n ((j, c) :: t) := by rw [densB, if_neg (by omega)]
theorem densB_here {k : Int} {n : Nat} {c : Int} {t : Bks} : densB k (n + 1) ((k, c) :: t) = putS c ++ densB (k + 1) n t := by rw [densB, if_pos rfl]
/-- One more bucket: what its count is, and what is left. -/
def nextB (k : Int) : Bks → Int × Bks
  | [] => (0, [])
  | (j, c) :: t => if j = k then (c, t) else (0, (j, c) :: t)
theorem densB_next (k : Int) (n : Nat) (l : Bks) : densB k (n + 1) l = putS (nextB k l).1 ++ densB (k + 1) n (nextB k l).2 := by
  cases l with
  | nil => rw [densB, nextB, putS_zero]; rfl
  | cons x t =>
    obtain ⟨j, c⟩ := x
    rw [densB, nextB]
    split
    · rfl
    · rw [putS_zero]; rfl
theorem nextB_check {k : Int} {l : Bks} (hl : checkF (k - 1) l = true) : checkF k (nextB k l).2 = true := by
  cases l with
  | nil => rfl
  | cons x t =>
    obtain ⟨j, c⟩ := x
    have h := checkF_cons.1 hl
    rw [nextB]
    split
    · rename_i e; subst e; exact h.2.2.2
    · exact checkF_last hl (by omega)
theorem nextB_words {k : Int} {l : Bks} (hl : WordsB l) : (0 ≤ (nextB k l).1 ∧ (nextB k l).1 < 18446744073709551616) ∧ WordsB (nextB k l).2 := by
  cases l with
  | nil => exact ⟨⟨Int.le_refl 0, by show (0 : Int) < _; decide⟩, fun x hx => by cases hx⟩
  | cons x t =>
    obtain ⟨j, c⟩ := x
    rw [nextB]
    split
    · exact ⟨hl _ (List.mem_cons_self ..), fun z hz => hl z (List.mem_cons_of_mem _ hz)⟩
    · exact ⟨⟨Int.le_refl 0, by show (0 : Int) < _; decide⟩, hl⟩
/-- Buckets below one. -/
theorem nextB_bound {k e : Int} {l : Bks} (h : lastD (k - 1) l < e) (hk : k < e) : lastD k (nextB k l).2 < e := by
  cases l with
  | nil => exact hk
  | cons x t =>
    obtain ⟨j, c⟩ := x
    rw [nextB]
    split
    · rename_i e1; subst e1; exact h
    · exact h
theorem span_facts {l : Bks} (hl : Good l) (h : l ≠ []) : 0 ≤ fromS l ∧ fromS l ≤ 7423 ∧ 1 ≤ spanS l ∧ fromS l + spanS l ≤ 7424 ∧ lastD (-1) l + 1 = fromS l + spanS l ∧ checkF (fromS l - 1) l = true ∧ lastD (fromS l - 1) l = lastD (-1) l := by
  cases l with
  | nil => exact absurd rfl h
  | cons x t =>
    obtain ⟨k, c⟩ := x
    have hc := hl.check
    unfold checkS at hc
    have h1 := checkF_cons.1 hc
    have h2 := (checkF_lastD h1.2.2.2).1
    have h3 := (checkF_lastD hc).2
    have h3 : lastD (-1) ((k, c) :: t) ≤ 7423 := h3.resolve_left (by simp)
    rw [lastD] at h3
    unfold spanS
    rw [lastD, fromS]
    exact ⟨by omega, by omega, by omega, by omega, by omega, checkF_last hc (by omega), rfl⟩
theorem putF_small {f : Nat} {v : Int} (h : v < 16384) (hf : 1 ≤ f) : (putF f v).length ≤ 2 := by
  obtain ⟨g, rfl⟩ : ∃ g, f = g + 1 := ⟨f - 1, by omega⟩
  by_cases h1 : v < 128
  · rw [putF_one h1]; simp
  · rw [putF_more (by omega), List.length_cons, putF_one (by omega)]; simp
theorem putS_two {v : Int} (h : v < 16384) : (putS v).length ≤ 2 := putF_small h (by omega)
theorem sparB_len {last : Int} (h0 : -1 ≤ last) {l : Bks} (hl : checkF last l = true) : (sparB last l).length ≤ 12 * l.length := by
  induction l generalizing last with
  | nil => simp [sparB]
  | cons x t ih =>
    obtain ⟨k, c⟩ := x
    have h := checkF_cons.1 hl
    rw [sparB, List.length_append, List.length_append, List.length_cons]
    have h1 := putS_two (v := k - last - 1) (by omega)
    have h2 := (putS_len c).2
    have h3 := ih (by omega) h.2.2.2
    omega
theorem good_len {l : Bks} (hl : Good l) : l.length ≤ 7424 := by
  rcases checkF_len hl.check with h | h
  · omega
  · rw [h]; simp
/-- Of the two forms the shorter one: so many bytes at most. -/
theorem putH_len {l : Bks} (hl : Good l) : (putH l).length ≤ 3 + 12 * l.length ∧ 1 ≤ (putH l).length := by
  have h1 := sparB_len (Int.le_refl _) hl.check
  have h2 := putS_two (v := (l.length : Int)) (by have := good_len hl; omega)
  have h3 : (sparseS l).length ≤ 3 + 12 * l.length := by
    unfold sparseS
    rw [List.length_cons, List.length_append]; omega
  unfold putH
  split
  · rename_i c
    exact ⟨by omega, by simp [denseS]⟩
  · exact ⟨h3, by simp [sparseS]⟩
theorem sparB_byte {last : Int} (h0 : -1 ≤ last) {l : Bks} (hl : checkF last l = true) (hw : WordsB l) : Bytes8 (sparB last l) := by
  induction l generalizing last with
  | nil => intro z hz; cases hz
  | cons x t ih =>
    obtain ⟨k, c⟩ := x
    have h := checkF_cons.1 hl
    rw [sparB]
    exact Bytes8.append (putS_byte (w64_small (by omega) (by omega))) (Bytes8.append (putS_byte (hw _ (List.mem_cons_self ..))) (ih (by omega) h.2.2.2 (fun z hz => hw z (List.mem_cons_of_mem _ hz))))
theorem densB_byte {k : Int} {n : Nat} {l : Bks} (hw : WordsB l) : Bytes8 (densB k n l) := by
  induction n generalizing k l with
  | zero => intro z hz; cases hz
  | succ n ih =>
    rw [densB_next]
    have w := nextB_words (k := k) hw
    exact Bytes8.append (putS_byte w.1) (ih w.2)
theorem byte_cons {z : Int} {l : List Int} (h0 : 0 ≤ z ∧ z ≤ 255) (h : Bytes8 l) : Bytes8 (z :: l) := by
  intro x hx
  rcases List.mem_cons.1 hx with rfl | hx
  · exact h0
  · exact h x hx
theorem putH_byte {l : Bks} (hl : Good l) : Bytes8 (putH l) := by
  have hn := good_len hl
  unfold putH
  split
  · rename_i c
    obtain ⟨a1, a2, a3, a4, _, _, _⟩ := span_facts hl c.1
    exact byte_cons (by decide) (Bytes8.append (putS_byte (w64_small (by omega) (by omega))) (Bytes8.append (putS_byte (w64_small (by omega) (by omega))) (densB_byte hl.words)))
  · exact byte_cons (by decide) (Bytes8.append (putS_byte (w64_small (by omega) (by omega))) (sparB_byte (Int.le_refl _) hl.check hl.words))
/-- c buckets of the sparse form, behind bucket 'last', from place p on. -/
def parSp (zs : List Int) : Nat → Int → Int → Option (Bks × Int)
  | 0, _, p => some ([], p)
  | c + 1, last, p => match getS zs p with
    | none => none
    | some (d, p1) => match getS zs p1 with
      | none => none
      | some (y, p2) => if 7424 ≤ d then none else (parSp zs c (last + 1 + d) p2).map fun r => ((last + 1 + d, y) :: r.1, r.2)
/-- c counts of the dense form, the first of bucket k, from place p on. -/
def parDn (zs : List Int) : Nat → Int → Int → Option (Bks × Int)
  | 0, _, p => some ([], p)
  | c + 1, k, p => match getS zs p with
    | none => none
    | some (y, p1) => (parDn zs c (k + 1) p1).map fun r => (if 0 < y then (k, y) :: r.1 else r.1, r.2)
/-- What the bytes say, before it is held against what would have been put. -/
def parH (zs : List Int) (p : Int) : Option (Bks × Int) :=
  match getS zs p with
  | none => none
  | some (t, p1) =>
    if t = 0 then match sizeS zs p1 7424 with
      | none => none
      | some (c, p2) => parSp zs c.toNat (-1) p2
    else if t = 1 then match getS zs p1 with
      | none => none
      | some (f, p2) => match sizeS zs p2 7424 with
        | none => none
        | some (c, p3) => if 7424 ≤ f then none else parDn zs c.toNat f p3
    else none
/-- Bytes read as a list of buckets. -/
def getH (zs : List Int) (p : Int) : Option (Bks × Int) :=
  match parH zs p with
  | none => none
  | some (l, e) => if checkS l = true ∧ putH l = (zs.drop p.toNat).take (e - p).toNat then some (l, e) else none

theorem putS_unit : putS 1 = [1] := by decide
theorem parSp_at {last : Int} (h0 : -1 ≤ last) {l : Bks} (hl : checkF last l = true) (hw : WordsB l) (xs ys : List Int) :
    parSp (xs ++ (sparB last l ++ ys)) l.length last xs.length = some (l, ((xs.length + (sparB last l).length : Nat) : Int)) := by
  induction l generalizing last xs with
  | nil => simp [parSp, sparB]
  | cons x t ih =>
    obtain ⟨k, c⟩ := x
    have h := checkF_cons.1 hl
    have hc := hw _ (List.mem_cons_self ..)
    have e1 := getS_at (v := k - last - 1) (w64_small (by omega) (by omega)) xs (putS c ++ sparB k t ++ ys)
    have e2 := getS_at (v := c) hc (xs ++ putS (k - last - 1)) (sparB k t ++ ys)
    have e3 := ih (last := k) (by omega) h.2.2.2 (fun z hz => hw z (List.mem_cons_of_mem _ hz)) (xs ++ putS (k - last - 1) ++ putS c)
    have s1 : xs ++ (sparB last ((k, c) :: t) ++ ys) = xs ++ (putS (k - last - 1) ++ (putS c ++ sparB k t ++ ys)) := by rw [sparB]; simp
    have s2 : xs ++ (sparB last ((k, c) :: t) ++ ys) = xs ++ putS (k - last - 1) ++ (putS c ++ (sparB k t ++ ys)) := by rw [sparB]; simp
    have s3 : xs ++ (sparB last ((k, c) :: t) ++ ys) = xs ++ putS (k - last - 1) ++ putS c ++ (sparB k t ++ ys) := by rw [sparB]; simp
    rw [← s1] at e1
    rw [← s2] at e2
    rw [← s3] at e3
    rw [List.length_append] at e2
    rw [List.length_append, List.length_append] at e3
    rw [List.length_cons, parSp, e1]
    simp only
    rw [e2]
    simp only
    rw [if_neg (by omega), show last + 1 + (k - last - 1) = k by omega, e3]
    simp only [Option.map_some, Option.some.injEq, Prod.mk.injEq, true_and]
    rw [sparB, List.length_append, List.length_append]
    omega
theorem parDn_at {n : Nat} {k : Int} {l : Bks} (hl : checkF (k - 1) l = true) (hw : WordsB l) (hb : lastD (k - 1) l < k + n) (xs ys : List Int) :
    parDn (xs ++ (densB k n l ++ ys)) n k xs.length = some (l, ((xs.length + (densB k n l).length : Nat) : Int)) := by
  induction n generalizing k l xs with
  | zero =>
    have e : l = [] := by
      cases l with
      | nil => rfl
      | cons x t =>
        obtain ⟨j, c⟩ := x
        have h1 := checkF_cons.1 hl
        have h2 := (checkF_lastD h1.2.2.2).1
        rw [lastD] at hb
        omega
    subst e
    simp [parDn, densB]
  | succ n ih =>
    have w := nextB_words (k := k) hw
    have e0 : k + 1 - 1 = k := by omega
    have e1 := getS_at (v := (nextB k l).1) w.1 xs (densB (k + 1) n (nextB k l).2 ++ ys)
    have e2 := ih (k := k + 1) (l := (nextB k l).2) (by rw [e0]; exact nextB_check hl) w.2 (by rw [e0]; have := nextB_bound (k := k) (e := k + 1 + n) (l := l) (by omega) (by omega); exact this) (xs ++ putS (nextB k l).1)
    have s1 : xs ++ (densB k (n + 1) l ++ ys) = xs ++ (putS (nextB k l).1 ++ (densB (k + 1) n (nextB k l).2 ++ ys)) := by rw [densB_next]; simp
    have s2 : xs ++ (densB k (n + 1) l ++ ys) = xs ++ putS (nextB k l).1 ++ (densB (k + 1) n (nextB k l).2 ++ ys) := by rw [densB_next]; simp
    rw [← s1] at e1
    rw [← s2] at e2
    rw [List.length_append] at e2
    rw [parDn, e1]
    simp only
    rw [e2]
    simp only [Option.map_some, Option.some.injEq, Prod.mk.injEq]
    refine ⟨?_, by rw [densB_next, List.length_append]; omega⟩
    cases l with
    | nil => rfl
    | cons x t =>
      obtain ⟨j, c⟩ := x
      have h := checkF_cons.1 hl
      rw [nextB]
      split
      · rename_i e; subst e; simp only; rw [if_pos h.2.2.1]
      · simp
theorem sizeS_at {v : Nat} {most : Int} (hv : (v : Int) ≤ most) (hm : most ≤ 9223372036854775807) (xs ys : List Int) (hl : v ≤ ys.length) :
    sizeS (xs ++ (putS (v : Int) ++ ys)) xs.length most = some ((v : Int), ((xs.length + (putS (v : Int)).length : Nat) : Int)) := by
  unfold sizeS
  rw [getS_at (v := (v : Int)) ⟨by omega, by omega⟩]
  simp only
  rw [if_neg]
  simp only [List.length_append]
  omega
theorem sparB_long {last : Int} {l : Bks} : 2 * l.length ≤ (sparB last l).length := by
  induction l generalizing last with
  | nil => simp
  | cons x t ih =>
    obtain ⟨k, c⟩ := x
    rw [sparB, List.length_append, List.length_append, List.length_cons]
    have h1 := (putS_len (k - last - 1)).1
    have h2 := (putS_len c).1
    have h3 := ih (last := k)
    omega
theorem densB_long {k : Int} {n : Nat} {l : Bks} : n ≤ (densB k n l).length := by
  induction n generalizing k l with
  | zero => omega
  | succ n ih =>
    rw [densB_next, List.length_append]
    have h1 := (putS_len (nextB k l).1).1
    have h2 := ih (k := k + 1) (l := (nextB k l).2)
    omega
theorem parH_at {l : Bks} (hl : Good l) (xs ys : List Int) : parH (xs ++ (putH l ++ ys)) xs.length = some (l, ((xs.length + (putH l).length : Nat) : Int)) := by
  have hn := good_len hl
  unfold putH
  split
  · rename_i c
    obtain ⟨a1, a2, a3, a4, a5, a6, a7⟩ := span_facts hl c.1
    have e0 := getS_at (v := 1) (w64_small (by omega) (by omega)) xs (putS (fromS l) ++ (putS (spanS l : Int) ++ densB (fromS l) (spanS l) l) ++ ys)
    have e1 := getS_at (v := fromS l) (w64_small (by omega) (by omega)) (xs ++ putS 1) (putS (spanS l : Int) ++ densB (fromS l) (spanS l) l ++ ys)
    have e2 := sizeS_at (v := spanS l) (most := 7424) (by omega) (by omega) (xs ++ putS 1 ++ putS (fromS l)) (densB (fromS l) (spanS l) l ++ ys) (by rw [List.length_append]; have := densB_long (k := fromS l) (n := spanS l) (l := l); omega)
    have e3 := parDn_at (n := spanS l) (k := fromS l) a6 hl.words (by omega) (xs ++ putS 1 ++ putS (fromS l) ++ putS (spanS l : Int)) ys
    have s0 : xs ++ (denseS l ++ ys) = xs ++ (putS 1 ++ (putS (fromS l) ++ (putS (spanS l : Int) ++ densB (fromS l) (spanS l) l) ++ ys)) := by rw [denseS, putS_unit]; simp
    have s1 : xs ++ (denseS l ++ ys) = xs ++ putS 1 ++ (putS (fromS l) ++ (putS (spanS l : Int) ++ densB (fromS l) (spanS l) l ++ ys)) := by rw [denseS, putS_unit]; simp
    have s2 : xs ++ (denseS l ++ ys) = xs ++ putS 1 ++ putS (fromS l) ++ (putS (spanS l : Int) ++ (densB (fromS l) (spanS l) l ++ ys)) := by rw [denseS, putS_unit]; simp
    have s3 : xs ++ (denseS l ++ ys) = xs ++ putS 1 ++ putS (fromS l) ++ putS (spanS l : Int) ++ (densB (fromS l) (spanS l) l ++ ys) := by rw [denseS, putS_unit]; simp
    rw [← s0] at e0
    rw [← s1] at e1
    rw [← s2] at e2
    rw [← s3] at e3
    simp only [List.length_append] at e1 e2 e3
    unfold parH
    rw [e0]
    simp only
    rw [if_neg (by decide), if_pos trivial, e1]
    simp only
    rw [e2]
    simp only
    rw [if_neg (by omega), Int.toNat_natCast, e3]
    simp only [Option.some.injEq, Prod.mk.injEq, true_and]
    rw [denseS, List.length_cons, List.length_append, List.length_append, putS_unit]
    simp only [List.length_cons, List.length_nil]
    omega
  · have e0 := getS_at (v := 0) (w64_small (by omega) (by omega)) xs (putS (l.length : Int) ++ sparB (-1) l ++ ys)
    have e1 := sizeS_at (v := l.length) (most := 7424) (by omega) (by omega) (xs ++ putS 0) (sparB (-1) l ++ ys) (by rw [List.length_append]; have := sparB_long (last := -1) (l := l); omega)
    have e2 := parSp_at (Int.le_refl _) hl.check hl.words (xs ++ putS 0 ++ putS (l.length : Int)) ys
    have s0 : xs ++ (sparseS l ++ ys) = xs ++ (putS 0 ++ (putS (l.length : Int) ++ sparB (-1) l ++ ys)) := by rw [sparseS, putS_zero]; simp
    have s1 : xs ++ (sparseS l ++ ys) = xs ++ putS 0 ++ (putS (l.length : Int) ++ (sparB (-1) l ++ ys)) := by rw [sparseS, putS_zero]; simp
    have s2 : xs ++ (sparseS l ++ ys) = xs ++ putS 0 ++ putS (l.length : Int) ++ (sparB (-1) l ++ ys) := by rw [sparseS, putS_zero]; simp
    rw [← s0] at e0
    rw [← s1] at e1
    rw [← s2] at e2
    simp only [List.length_append] at e1 e2
    unfold parH
    rw [e0]
    simp only
    rw [if_pos trivial, e1]
    simp only
    rw [Int.toNat_natCast, e2]
    simp only [Option.some.injEq, Prod.mk.injEq, true_and]
    rw [sparseS, List.length_cons, List.length_append, putS_zero]
    simp only [List.length_cons, List.length_nil]
    omega
/-- How many bytes the places take in the sparse form. -/
def gapsS : Int → Bks → Nat
  | _, [] => 0
  | last, (k, _) :: t => (putS (k - last - 1)).length + gapsS k t
/-- How many bytes the counts take. -/
def cntsS : Bks → Nat
  | [] => 0
  | (_, c) :: t => (putS c).length + cntsS t
theorem sparB_size (last : Int) (l : Bks) : (sparB last l).length = gapsS last l + cntsS l := by
  induction l generalizing last with
  | nil => rfl
  | cons x t ih =>
    obtain ⟨k, c⟩ := x
    rw [sparB, List.length_append, List.length_append, ih, gapsS, cntsS]
    omega
theorem densB_size {n : Nat} {k : Int} {l : Bks} (hl : checkF (k - 1) l = true) (hb : lastD (k - 1) l < k + n) : (densB k n l).length + l.length = n + cntsS l := by
  induction n generalizing k l with
  | zero =>
    cases l with
    | nil => rfl
    | cons x t =>
      obtain ⟨j, c⟩ := x
      have h1 := checkF_cons.1 hl
      have h2 := (checkF_lastD h1.2.2.2).1
      rw [lastD] at hb
      omega
  | succ n ih =>
    cases l with
    | nil =>
      have := ih (k := k + 1) (l := []) rfl (by simp only [lastD]; omega)
      simp only [densB, List.length_cons, List.length_nil, cntsS] at *
      omega
    | cons x t =>
      obtain ⟨j, c⟩ := x
      have h1 := checkF_cons.1 hl
      rw [lastD] at hb
      by_cases e : j = k
      · subst e
        have := ih (k := j + 1) (l := t) (by rw [show j + 1 - 1 = j by omega]; exact h1.2.2.2) (by rw [show j + 1 - 1 = j by omega]; omega)
        rw [densB_here, List.length_append, List.length_cons, cntsS]
        omega
      · have := ih (k := k + 1) (l := (j, c) :: t) (by rw [show k + 1 - 1 = k by omega]; exact checkF_last hl (by omega)) (by rw [lastD]; omega)
        rw [densB_skip (by omega), List.length_cons]
        omega

/-- Which form is put: 1, if the dense one is shorter. -/
def formS (l : Bks) : Int :=
  if l = [] ∨ checkS l = false then 0
  else if ((putS (spanS l)).length : Int) + spanS l - l.length < (putS (l.length : Int)).length + gapsS (fromS l) l.tail then 1 else 0
theorem form_less {l : Bks} (hl : Good l) (h : l ≠ []) :
    (denseS l).length < (sparseS l).length ↔ ((putS (spanS l)).length : Int) + spanS l - l.length < (putS (l.length : Int)).length + gapsS (fromS l) l.tail := by
  obtain ⟨a1, a2, a3, a4, a5, a6, a7⟩ := span_facts hl h
  have h1 := densB_size (n := spanS l) (k := fromS l) a6 (by omega)
  have h2 := sparB_size (-1) l
  have h3 : gapsS (-1) l = (putS (fromS l)).length + gapsS (fromS l) l.tail := by
    cases l with
    | nil => exact absurd rfl h
    | cons x t =>
      obtain ⟨k, c⟩ := x
      rw [gapsS, show k - -1 - 1 = k by omega]
      rfl
  simp only [denseS, sparseS, List.length_cons, List.length_append]
  omega
theorem form_put {l : Bks} (hl : Good l) : (formS l = 1 ∧ l ≠ [] ∧ putH l = denseS l) ∨ (formS l = 0 ∧ putH l = sparseS l) := by
  by_cases h : l = []
  · subst h
    exact Or.inr ⟨rfl, rfl⟩
  · unfold formS
    rw [if_neg (by rw [hl.check]; simp [h])]
    by_cases hc : (denseS l).length < (sparseS l).length
    · left
      rw [if_pos ((form_less hl h).1 hc)]
      refine ⟨rfl, h, ?_⟩
      unfold putH
      rw [if_pos ⟨h, hc⟩]
    · right
      rw [if_neg (fun x => hc ((form_less hl h).2 x))]
      refine ⟨rfl, ?_⟩
      unfold putH
      rw [if_neg (fun x => hc x.2)]

/-- A number that is no more than there are buckets. -/
def szS (zs : List Int) (p : Int) : Option (Int × Int) :=
  match getS zs p with
  | none => none
  | some (v, q) => if v ≤ 7424 then some (v, q) else none
/-- c buckets of the sparse form, behind bucket 'last', from place p on. -/
def dSp (zs : List Int) : Nat → Int → Int → Option (Bks × Int)
  | 0, _, p => some ([], p)
  | c + 1, last, p => match szS zs p with
    | none => none
    | some (d, p1) => match getS zs p1 with
      | none => none
      | some (y, p2) => (dSp zs c (last + d + 1) p2).map fun r => ((last + d + 1, y) :: r.1, r.2)
def dSparse (zs : List Int) (p : Int) : Option (Bks × Int) :=
  match szS zs p with
  | none => none
  | some (c, p1) => dSp zs c.toNat (-1) p1
def spanI (l : Bks) : Int := lastD (-1) l - fromS l + 1
def dDense (zs : List Int) (p : Int) : Option (Bks × Int) :=
  match szS zs p with
  | none => none
  | some (f, p1) => match szS zs p1 with
    | none => none
    | some (c, p2) => match parDn zs c.toNat f p2 with
      | none => none
      | some (l, e) => if l ≠ [] ∧ fromS l = f ∧ spanI l = c then some (l, e) else none
/-- A list by its form. -/
def dGet (zs : List Int) (p : Int) : Option (Bks × Int) :=
  match getS zs p with
  | none => none
  | some (t, p1) =>
    match (if t = 0 then dSparse zs p1 else if t = 1 then dDense zs p1 else none) with
    | none => none
    | some (l, e) => if checkS l = true ∧ formS l = t then some (l, e) else none

theorem szS_some {zs : List Int} {p v q : Int} (h : szS zs p = some (v, q)) : getS zs p = some (v, q) ∧ v ≤ 7424 := by
  unfold szS at h
  cases hg : getS zs p with
  | none => rw [hg] at h; simp at h
  | some r =>
    rw [hg] at h
    obtain ⟨v', q'⟩ := r
    simp only at h
    split at h
    · simp only [Option.some.injEq, Prod.mk.injEq] at h
      obtain ⟨rfl, rfl⟩ := h
      exact ⟨rfl, by assumption⟩
    · simp at h
theorem szS_at {v : Int} (h0 : 0 ≤ v) (h1 : v ≤ 7424) (xs ys : List Int) : szS (xs ++ (putS v ++ ys)) xs.length = some (v, ((xs.length + (putS v).length : Nat) : Int)) := by
  unfold szS
  rw [getS_at (w64_small h0 h1)]
  simp only
  rw [if_pos h1]

theorem drop_parts {zs a t : List Int} {k : Nat} (h : zs.drop k = a ++ t) : zs.drop (k + a.length) = t := by
  rw [← List.drop_drop, h, List.drop_left]

theorem dSp_some {zs : List Int} (hz : Bytes8 zs) {c : Nat} {last : Int} {k : Nat} (hk : k ≤ zs.length) {l : Bks} {e : Int} (h : dSp zs c last k = some (l, e)) :
    l.length = c ∧ WordsB l ∧ e = ((k + (sparB last l).length : Nat) : Int) ∧ k + (sparB last l).length ≤ zs.length ∧ ∃ t, zs.drop k = sparB last l ++ t := by
  induction c generalizing last k l e with
  | zero =>
    simp only [dSp, Option.some.injEq, Prod.mk.injEq] at h
    obtain ⟨rfl, rfl⟩ := h
    exact ⟨rfl, (fun x hx => by cases hx), by simp [sparB], by simpa [sparB] using hk, _, rfl⟩
  | succ c ih =>
    rw [dSp] at h
    cases hs : szS zs k with
    | none => rw [hs] at h; simp at h
    | some r =>
      rw [hs] at h
      obtain ⟨d, p1⟩ := r
      simp only at h
      obtain ⟨w1, k1, e1, l1, rfl, n1, t1, q1⟩ := getS_some hz (szS_some hs).1
      obtain rfl : k1 = k := by omega
      cases hg : getS zs ((k1 + (putS d).length : Nat) : Int) with
      | none => rw [hg] at h; simp at h
      | some r =>
        rw [hg] at h
        obtain ⟨y, p2⟩ := r
        simp only at h
        obtain ⟨w2, k2, e2, l2, rfl, n2, t2, q2⟩ := getS_some hz hg
        obtain rfl : k2 = k1 + (putS d).length := by omega
        cases hr : dSp zs c (last + d + 1) ((k1 + (putS d).length + (putS y).length : Nat) : Int) with
        | none => rw [hr] at h; simp at h
        | some r =>
          rw [hr] at h
          obtain ⟨m, e'⟩ := r
          simp only [Option.map_some, Option.some.injEq, Prod.mk.injEq] at h
          obtain ⟨rfl, rfl⟩ := h
          obtain ⟨a1, a2, a3, a4, t3, q3⟩ := ih (k := k1 + (putS d).length + (putS y).length) n2 hr
          have d1 := drop_parts q1
          rw [q2] at d1
          have d2 := drop_parts q2
          rw [q3] at d2
          have e3 : sparB last ((last + d + 1, y) :: m) = putS d ++ (putS y ++ sparB (last + d + 1) m) := by rw [sparB, show last + d + 1 - last - 1 = d by omega]
          rw [e3]
          refine ⟨by simp only [List.length_cons]; omega, ?_, ?_, ?_, t3, ?_⟩
          · intro x hx
            rcases List.mem_cons.1 hx with rfl | hx
            · exact w2
            · exact a2 x hx
          · rw [a3]; simp only [List.length_append]; omega
          · simp only [List.length_append]; omega
          · rw [q1, ← d1, ← d2]; simp
theorem parDn_some {zs : List Int} (hz : Bytes8 zs) {c : Nat} {f : Int} {k : Nat} (hk : k ≤ zs.length) {l : Bks} {e : Int} (h : parDn zs c f k = some (l, e)) :
    WordsB l ∧ (∀ x ∈ l, f ≤ x.1 ∧ x.1 < f + c) ∧ e = ((k + (densB f c l).length : Nat) : Int) ∧ k + (densB f c l).length ≤ zs.length ∧ ∃ t, zs.drop k = densB f c l ++ t := by
  induction c generalizing f k l e with
  | zero =>
    simp only [parDn, Option.some.injEq, Prod.mk.injEq] at h
    obtain ⟨rfl, rfl⟩ := h
    exact ⟨(fun x hx => by cases hx), (fun x hx => by cases hx), by simp [densB], by simpa [densB] using hk, _, rfl⟩
  | succ c ih =>
    rw [parDn] at h
    cases hg : getS zs k with
    | none => rw [hg] at h; simp at h
    | some r =>
      rw [hg] at h
      obtain ⟨y, p1⟩ := r
      simp only at h
      obtain ⟨w1, k1, e1, l1, rfl, n1, t1, q1⟩ := getS_some hz hg
      obtain rfl : k1 = k := by omega
      cases hr : parDn zs c (f + 1) ((k1 + (putS y).length : Nat) : Int) with
      | none => rw [hr] at h; simp at h
      | some r =>
        rw [hr] at h
        obtain ⟨m, e'⟩ := r
        simp only [Option.map_some, Option.some.injEq, Prod.mk.injEq] at h
        obtain ⟨h, rfl⟩ := h
        obtain ⟨a1, a2, a3, a4, t3, q3⟩ := ih (k := k1 + (putS y).length) n1 hr
        have d1 := drop_parts q1
        rw [q3] at d1
        have e3 : densB f (c + 1) l = putS y ++ densB (f + 1) c m := by
          rw [← h]
          by_cases hy : 0 < y
          · rw [if_pos hy, densB_here]
          · obtain rfl : y = 0 := by have := w1.1; omega
            rw [if_neg hy, putS_zero]
            cases m with
            | nil => rfl
            | cons x t =>
              obtain ⟨j, c'⟩ := x
              have := a2 _ (List.mem_cons_self ..)
              simp only at this
              rw [densB_skip (by omega)]
              rfl
        rw [e3]
        refine ⟨?_, ?_, by rw [a3]; simp only [List.length_append]; omega, by simp only [List.length_append]; omega, t3, by rw [q1, ← d1]; simp⟩
        · rw [← h]
          split
          · intro x hx
            rcases List.mem_cons.1 hx with rfl | hx
            · exact w1
            · exact a1 x hx
          · exact a1
        · rw [← h]
          intro x hx
          have : x = (f, y) ∨ x ∈ m := by
            split at hx
            · exact List.mem_cons.1 hx
            · exact Or.inr hx
          rcases this with rfl | hx
          · simp only; omega
          · have := a2 x hx; omega

/-- What the reader takes lies there as it is put. -/
def Lies (zs : List Int) (p : Int) (l : Bks) (e : Int) : Prop := Good l ∧ ∃ k : Nat, p = k ∧ k ≤ zs.length ∧ e = ((k + (putH l).length : Nat) : Int) ∧ ∃ t, zs.drop k = putH l ++ t
theorem Lies.parts {zs : List Int} {p e : Int} {l : Bks} (h : Lies zs p l e) : ∃ xs ys : List Int, zs = xs ++ (putH l ++ ys) ∧ p = xs.length ∧ e = ((xs.length + (putH l).length : Nat) : Int) := by
  obtain ⟨-, k, rfl, hk, rfl, t, ht⟩ := h
  refine ⟨zs.take k, t, ?_, ?_, ?_⟩
  · rw [← ht, List.take_append_drop]
  · rw [List.length_take]; omega
  · rw [List.length_take, Nat.min_eq_left hk]
theorem dGet_lies {zs : List Int} (hz : Bytes8 zs) {p e : Int} {l : Bks} (h : dGet zs p = some (l, e)) : Lies zs p l e := by
  unfold dGet at h
  cases hg : getS zs p with
  | none => rw [hg] at h; simp at h
  | some r =>
    rw [hg] at h
    obtain ⟨t, p1⟩ := r
    simp only at h
    obtain ⟨w1, k, rfl, l1, rfl, n1, t1, q1⟩ := getS_some hz hg
    have d1 := drop_parts q1
    by_cases c0 : t = 0
    · subst c0
      rw [if_pos rfl] at h
      cases hs : dSparse zs ((k + (putS 0).length : Nat) : Int) with
      | none => rw [hs] at h; simp at h
      | some r =>
        rw [hs] at h
        obtain ⟨l', e'⟩ := r
        simp only at h
        split at h
        · rename_i hc
          simp only [Option.some.injEq, Prod.mk.injEq] at h
          obtain ⟨rfl, rfl⟩ := h
          unfold dSparse at hs
          cases hq : szS zs ((k + (putS 0).length : Nat) : Int) with
          | none => rw [hq] at hs; simp at hs
          | some r =>
            rw [hq] at hs
            obtain ⟨c, p2⟩ := r
            simp only at hs
            obtain ⟨w2, k2, e2, l2, rfl, n2, t2, q2⟩ := getS_some hz (szS_some hq).1
            obtain rfl : k2 = k + (putS 0).length := by omega
            obtain ⟨a1, a2, a3, a4, t3, q3⟩ := dSp_some hz n2 hs
            have d2 := drop_parts q2
            rw [q2] at d1
            rw [q3] at d2
            have G : Good l' := ⟨hc.1, a2⟩
            have e4 : (l'.length : Int) = c := by rw [a1]; have := w2.1; omega
            have e5 : putH l' = putS 0 ++ (putS c ++ sparB (-1) l') := by
              rcases form_put G with ⟨f1, _, _⟩ | ⟨_, f2⟩
              · omega
              · rw [f2, sparseS, e4, putS_zero]; rfl
            refine ⟨G, k, rfl, by omega, ?_, t3, ?_⟩
            · rw [a3, e5]; simp only [List.length_append]; omega
            · rw [q1, ← d1, ← d2, e5]; simp
        · simp at h
    · rw [if_neg c0] at h
      by_cases c1 : t = 1
      · subst c1
        rw [if_pos rfl] at h
        cases hs : dDense zs ((k + (putS 1).length : Nat) : Int) with
        | none => rw [hs] at h; simp at h
        | some r =>
          rw [hs] at h
          obtain ⟨l', e'⟩ := r
          simp only at h
          split at h
          · rename_i hc
            simp only [Option.some.injEq, Prod.mk.injEq] at h
            obtain ⟨rfl, rfl⟩ := h
            unfold dDense at hs
            cases hq : szS zs ((k + (putS 1).length : Nat) : Int) with
            | none => rw [hq] at hs; simp at hs
            | some r =>
              rw [hq] at hs
              obtain ⟨f, p2⟩ := r
              simp only at hs
              obtain ⟨w2, k2, e2, l2, rfl, n2, t2, q2⟩ := getS_some hz (szS_some hq).1
              obtain rfl : k2 = k + (putS 1).length := by omega
              cases hq3 : szS zs ((k + (putS 1).length + (putS f).length : Nat) : Int) with
              | none => rw [hq3] at hs; simp at hs
              | some r =>
                rw [hq3] at hs
                obtain ⟨c, p3⟩ := r
                simp only at hs
                obtain ⟨w3, k3, e3, l3, rfl, n3, t3, q3⟩ := getS_some hz (szS_some hq3).1
                obtain rfl : k3 = k + (putS 1).length + (putS f).length := by omega
                cases hp : parDn zs c.toNat f ((k + (putS 1).length + (putS f).length + (putS c).length : Nat) : Int) with
                | none => rw [hp] at hs; simp at hs
                | some r =>
                  rw [hp] at hs
                  obtain ⟨m, e'⟩ := r
                  simp only at hs
                  split at hs
                  · rename_i hd
                    simp only [Option.some.injEq, Prod.mk.injEq] at hs
                    obtain ⟨rfl, rfl⟩ := hs
                    obtain ⟨a2, a0, a3, a4, t4, q4⟩ := parDn_some hz n3 hp
                    have d2 := drop_parts q2
                    have d3 := drop_parts q3
                    rw [q2] at d1
                    rw [q3] at d2
                    rw [q4] at d3
                    have G : Good m := ⟨hc.1, a2⟩
                    have e4 : spanS m = c.toNat := by
                      have := hd.2.2
                      unfold spanS
                      rw [← this, spanI]
                    have e6 : (spanS m : Int) = c := by rw [e4]; have := w3.1; omega
                    have e5 : putH m = putS 1 ++ (putS f ++ (putS c ++ densB f c.toNat m)) := by
                      rcases form_put G with ⟨_, _, f2⟩ | ⟨f1, _⟩
                      · rw [f2, denseS, e6, e4, hd.2.1, putS_unit]; rfl
                      · omega
                    refine ⟨G, k, rfl, by omega, ?_, t4, ?_⟩
                    · rw [a3, e5]; simp only [List.length_append]; omega
                    · rw [q1, ← d1, ← d2, ← d3, e5]; simp
                  · simp at hs
          · simp at h
      · rw [if_neg c1] at h
        simp at h

theorem dSp_at {last : Int} (h0 : -1 ≤ last) {l : Bks} (hl : checkF last l = true) (hw : WordsB l) (xs ys : List Int) :
    dSp (xs ++ (sparB last l ++ ys)) l.length last xs.length = some (l, ((xs.length + (sparB last l).length : Nat) : Int)) := by
  induction l generalizing last xs with
  | nil => simp [dSp, sparB]
  | cons x t ih =>
    obtain ⟨k, c⟩ := x
    have h := checkF_cons.1 hl
    have hc := hw _ (List.mem_cons_self ..)
    have e1 := szS_at (v := k - last - 1) (by omega) (by omega) xs (putS c ++ sparB k t ++ ys)
    have e2 := getS_at (v := c) hc (xs ++ putS (k - last - 1)) (sparB k t ++ ys)
    have e3 := ih (last := k) (by omega) h.2.2.2 (fun z hz => hw z (List.mem_cons_of_mem _ hz)) (xs ++ putS (k - last - 1) ++ putS c)
    have s1 : xs ++ (sparB last ((k, c) :: t) ++ ys) = xs ++ (putS (k - last - 1) ++ (putS c ++ sparB k t ++ ys)) := by rw [sparB]; simp
    have s2 : xs ++ (sparB last ((k, c) :: t) ++ ys) = xs ++ putS (k - last - 1) ++ (putS c ++ (sparB k t ++ ys)) := by rw [sparB]; simp
    have s3 : xs ++ (sparB last ((k, c) :: t) ++ ys) = xs ++ putS (k - last - 1) ++ putS c ++ (sparB k t ++ ys) := by rw [sparB]; simp
    rw [← s1] at e1
    rw [← s2] at e2
    rw [← s3] at e3
    rw [List.length_append] at e2
    rw [List.length_append, List.length_append] at e3
    rw [List.length_cons, dSp, e1]
    simp only
    rw [e2]
    simp only
    rw [show last + (k - last - 1) + 1 = k by omega, e3]
    simp only [Option.map_some, Option.some.injEq, Prod.mk.injEq, true_and]
    rw [sparB, List.length_append, List.length_append]
    omega
theorem dGet_at {l : Bks} (hl : Good l) (xs ys : List Int) : dGet (xs ++ (putH l ++ ys)) xs.length = some (l, ((xs.length + (putH l).length : Nat) : Int)) := by
  have hn := good_len hl
  rcases form_put hl with ⟨f1, hne, f2⟩ | ⟨f1, f2⟩
  · rw [f2]
    obtain ⟨a1, a2, a3, a4, a5, a6, a7⟩ := span_facts hl hne
    have e0 := getS_at (v := 1) (w64_small (by omega) (by omega)) xs (putS (fromS l) ++ (putS (spanS l : Int) ++ densB (fromS l) (spanS l) l) ++ ys)
    have e1 := szS_at (v := fromS l) (by omega) (by omega) (xs ++ putS 1) (putS (spanS l : Int) ++ densB (fromS l) (spanS l) l ++ ys)
    have e2 := szS_at (v := (spanS l : Int)) (by omega) (by omega) (xs ++ putS 1 ++ putS (fromS l)) (densB (fromS l) (spanS l) l ++ ys)
    have e3 := parDn_at (n := spanS l) (k := fromS l) a6 hl.words (by omega) (xs ++ putS 1 ++ putS (fromS l) ++ putS (spanS l : Int)) ys
    have s0 : xs ++ (denseS l ++ ys) = xs ++ (putS 1 ++ (putS (fromS l) ++ (putS (spanS l : Int) ++ densB (fromS l) (spanS l) l) ++ ys)) := by rw [denseS, putS_unit]; simp
    have s1 : xs ++ (denseS l ++ ys) = xs ++ putS 1 ++ (putS (fromS l) ++ (putS (spanS l : Int) ++ densB (fromS l) (spanS l) l ++ ys)) := by rw [denseS, putS_unit]; simp
    have s2 : xs ++ (denseS l ++ ys) = xs ++ putS 1 ++ putS (fromS l) ++ (putS (spanS l : Int) ++ (densB (fromS l) (spanS l) l ++ ys)) := by rw [denseS, putS_unit]; simp
    have s3 : xs ++ (denseS l ++ ys) = xs ++ putS 1 ++ putS (fromS l) ++ putS (spanS l : Int) ++ (densB (fromS l) (spanS l) l ++ ys) := by rw [denseS, putS_unit]; simp
    rw [← s0] at e0
    rw [← s1] at e1
    rw [← s2] at e2
    rw [← s3] at e3
    simp only [List.length_append] at e1 e2 e3
    unfold dGet
    rw [e0]
    simp only
    rw [if_neg (by decide), if_pos trivial]
    unfold dDense
    rw [e1]
    simp only
    rw [e2]
    simp only
    rw [Int.toNat_natCast, e3]
    simp only
    rw [if_pos ⟨hne, trivial, by unfold spanI; omega⟩]
    simp only
    rw [if_pos ⟨hl.check, f1⟩]
    simp only [Option.some.injEq, Prod.mk.injEq, true_and]
    rw [denseS, List.length_cons, List.length_append, List.length_append, putS_unit]
    simp only [List.length_cons, List.length_nil]
    omega
  · rw [f2]
    have e0 := getS_at (v := 0) (w64_small (by omega) (by omega)) xs (putS (l.length : Int) ++ sparB (-1) l ++ ys)
    have e1 := szS_at (v := (l.length : Int)) (by omega) (by omega) (xs ++ putS 0) (sparB (-1) l ++ ys)
    have e2 := dSp_at (Int.le_refl _) hl.check hl.words (xs ++ putS 0 ++ putS (l.length : Int)) ys
    have s0 : xs ++ (sparseS l ++ ys) = xs ++ (putS 0 ++ (putS (l.length : Int) ++ sparB (-1) l ++ ys)) := by rw [sparseS, putS_zero]; simp
    have s1 : xs ++ (sparseS l ++ ys) = xs ++ putS 0 ++ (putS (l.length : Int) ++ (sparB (-1) l ++ ys)) := by rw [sparseS, putS_zero]; simp
    have s2 : xs ++ (sparseS l ++ ys) = xs ++ putS 0 ++ putS (l.length : Int) ++ (sparB (-1) l ++ ys) := by rw [sparseS, putS_zero]; simp
    rw [← s0] at e0
    rw [← s1] at e1
    rw [← s2] at e2
    simp only [List.length_append] at e1 e2
    unfold dGet
    rw [e0]
    simp only
    rw [if_pos trivial]
    unfold dSparse
    rw [e1]
    simp only
    rw [Int.toNat_natCast, e2]
    simp only
    rw [if_pos ⟨hl.check, f1⟩]
    simp only [Option.some.injEq, Prod.mk.injEq, true_and]
    rw [sparseS, List.length_cons, List.length_append, putS_zero]
    simp only [List.length_cons, List.length_nil]
    omega

end Go.Proofs.YtknghoecjobkiaaGreatDoor

namespace Go.Proofs.YtknghoecjobkiaaGreatDoor
open Go.RowKit
set_option maxRecDepth 20000
theorem mine_at {w : World} {base n cap : Nat} {a : Option Addr} {zs : List Int} (h : Mine w base a n cap zs) (hn : 1 ≤ n) : ∃ g, a = some ⟨g, 0, none⟩ := by
  unfold Mine Own at h
  rcases h.2 with ⟨_, h2⟩ | ⟨g, c, cur, h1, _⟩
  · omega
  · simp only [Value.slice.injEq, true_and] at h1
    exact ⟨g, h1.1⟩
/-- One byte in a row of its own. -/
theorem lit_own (w : World) (z : Int) : Mine (w.alloc (.cells #[.int .u8 z] 5)) w.heap.size (some ⟨w.heap.size, 0, none⟩) 1 1 [z] :=
  World.ownsRow_lit (base := w.heap.size) w #[.int .u8 z] 1 (Nat.le_refl _) (by decide) rfl

theorem hsize_any (n : Int) (w : World) (h0 : 0 ≤ n) (h1 : n ≤ 9223372036854775807) :
    Calls Tryz.prog 285 #[.int .i64 n] w fun e w' => e = .returned (.int .i64 (putS n).length) ∧ Below w.heap.size w w' := by
  have P := hide (put_any n none 0 0 [] w ⟨h0, by omega⟩ (by omega) (Nat.le_refl _) (nil_row _ _ _))
  rw [Nat.zero_add] at P
  have hl := (putS_len n).2
  generalize (putS n).length = m at *
  go_enter Tryz.func285, Tryz.ntmps285
  go_wp2_with fail
  refine P.out.mono ?_
  rintro e w1 ⟨a1, c1, rfl, -, b1⟩
  have B1 := hide b1
  clear b1 P
  go_wp2
  go_ret
  exact ⟨rfl, B1.out⟩

/-- Rows of bytes alone may have turned. -/
abbrev Ch8 (w w' : World) : Prop := Ch (fun k => CellsT w k 5) w w'
theorem Ch8.kept {w w' : World} (h : Ch8 w w') {p : Nat} {cur : Array Value} {t : TypeId} {mk : Nat × Nat} (hp : w.heap[p]? = some (.cells cur t mk)) (ht : t ≠ 5) : w'.heap[p]? = some (.cells cur t mk) :=
  (h.block p (Array.getElem?_eq_some_iff.1 hp).1 (fun hc => CellsT.ne (g := p) (g' := p) ⟨cur, mk, hp⟩ hc ht rfl)).trans hp

set_option maxHeartbeats 1000000 in
theorem hnumber_any (v : Int) (base : Nat) (a : Option Addr) (n cap : Nat) (zs : List Int) (w : World) (hv : W64 v) (hn : n + 10 ≤ 140737488355328) (hB : base ≤ w.heap.size) (hs : Mine w base a n cap zs) :
    Calls Tryz.prog 286 #[.slice a n cap, .int .u64 v] w fun e w' => ∃ a' c', e = .returned (.slice a' (n + (putS v).length) c') ∧ Mine w' base a' (n + (putS v).length) c' (zs ++ putS v) ∧ Below base w w' ∧ Ch8 w w' := by
  obtain ⟨i0, hi0⟩ := info_parts Tryz.info5
  have HI := hide hi0
  have P := hide (put_any v none 0 0 [] w hv (by omega) (Nat.le_refl _) (nil_row _ _ _))
  rw [Nat.zero_add, List.nil_append] at P
  have HBy : Hid (Bytes8 (putS v)) := putS_byte hv
  have HS := hide hs
  obtain ⟨l0, l1⟩ := putS_len v
  have HZ : Hid ((putS v).length = (putS v).length) := rfl
  clear hi0 hs hv
  generalize hZ : putS v = Z at *
  clear hZ
  generalize hm : Z.length = m at *
  have HM := hide hm
  clear hm HZ
  go_enter Tryz.func286, Tryz.ntmps286
  go_wp2_with fail
  refine P.out.mono ?_
  rintro e w1 ⟨a1, c1, rfl, o1, b1⟩
  obtain ⟨g1, rfl⟩ := mine_at o1 l0
  have R1 := hide (o1.row8 (by omega) HBy.out)
  have S1 : Hid (Mine w1 base a n cap zs) := HS.out.below b1 (Nat.le_refl _)
  have B1 : Hid (Below base w w1) := b1.mono hB
  have HB1 : Hid (base ≤ w1.heap.size) := Nat.le_trans hB b1.size
  have C1 : Hid (Ch8 w w1) := (Ch.of_below b1).more (fun _ _ h => h.elim)
  clear P o1 b1
  go_wp2_with (at_builtin; refine wpList_append_own _ rfl _ _ 40 rfl base 5 i0 (.int .u8 0) 1 1 Tryz.underlying40 HI.out.1 HI.out.2.1 HI.out.2.2.1 HI.out.2.2.2 rfl (by decide) (.slice a n cap) n (zs.map (Value.int .u8)) rfl S1.out ⟨g1, 0, none⟩ m c1 (Z.map (Value.int .u8)) rfl (by simp [HM.out]) R1.out.cells (one_cell .u8 Z) (by unfold maxLen; omega) (by omega) HB1.out ?_)
  intro v2 w2 h1 h2 _
  rw [← List.map_append] at h1
  obtain ⟨a2, c2, rfl, o2⟩ := own_form h1
  have O2 := hide o2
  have B2 : Hid (Below base w w2) := B1.out.trans ((Below.refl _ _).grown h2 HB1.out (own_block S1.out))
  have C2 : Hid (Ch8 w w2) := C1.out.trans ((Ch.grown h2).more (fun k _ hk => (row_cells HS.out hk).1))
  clear o2 h1 h2 S1 R1 B1 C1 HS
  go_wp2
  go_ret
  exact ⟨a2, c2, rfl, O2, B2, C2⟩

theorem last_getD {last : Int} {l : Bks} {n : Nat} (hl : l.length = n) (h : 1 ≤ n) : (l.getD (n - 1) (0, 0)).1 = lastD last l := by
  induction l generalizing last n with
  | nil => simp at hl; omega
  | cons x t ih =>
    obtain ⟨k, c⟩ := x
    rw [lastD]
    cases t with
    | nil => simp at hl; subst hl; rfl
    | cons y t =>
      simp only [List.length_cons] at hl
      obtain ⟨m, rfl⟩ : ∃ m, n = m + 1 := ⟨n - 1, by omega⟩
      have := ih (last := k) (n := m) (by simp only [List.length_cons]; omega) (by omega)
      rw [← this]
      obtain ⟨p, rfl⟩ : ∃ p, m = p + 1 := ⟨m - 1, by omega⟩
      simp only [Nat.add_sub_cancel, List.getD_cons_succ]
theorem from_getD {l : Bks} {n : Nat} (hl : l.length = n) (h : 1 ≤ n) : (l.getD 0 (0, 0)).1 = fromS l := by
  cases l with
  | nil => simp at hl; omega
  | cons x t => rfl

set_option maxHeartbeats 2000000 in
theorem hspan_any (a : Option Addr) (n cap : Nat) (l : Bks) (w : World) (hr : RowB w a n l) (hn : 1 ≤ n) (h0 : ∀ x ∈ l, 0 ≤ x.1 ∧ x.1 ≤ 100000) :
    Calls Tryz.prog 284 #[.slice a n cap] w fun e w' => e = .returned (.int .i64 (spanI l)) ∧ ∃ q, w' = w.drewN q := by
  obtain ⟨bb, off, rfl, h1⟩ := hr.at' (j := n - 1) (by omega)
  obtain ⟨bb', off', h1', h2⟩ := hr.at' (j := 0) (by omega)
  simp only [Option.some.injEq, Addr.mk.injEq, and_true] at h1'
  obtain ⟨rfl, rfl⟩ := h1'
  have f1 := (h1 w (Below.refl _ _)).1
  have f0 := (h2 w (Below.refl _ _)).1
  rw [Nat.zero_mul, Nat.add_zero] at f0
  have e1 : spanI l = (l.getD (n - 1) (0, 0)).1 - (l.getD 0 (0, 0)).1 + 1 := by unfold spanI; rw [last_getD hr.1 hn, from_getD hr.1 hn]
  have hb : ∀ k, k < n → 0 ≤ (l.getD k (0, 0)).1 ∧ (l.getD k (0, 0)).1 ≤ 100000 := by
    intro k hk
    rw [List.getD_eq_getElem?_getD, List.getElem?_eq_getElem (by rw [hr.1]; exact hk)]
    exact h0 _ (List.getElem_mem _)
  obtain ⟨x0, x1⟩ := hb (n - 1) (by omega)
  obtain ⟨y0, y1⟩ := hb 0 (by omega)
  have hnb := hr.2.1
  rw [e1]
  clear e1 hb h1 h2 h0 hr
  generalize (l.getD (n - 1) (0, 0)).1 = X at *
  generalize (l.getD 0 (0, 0)).1 = Y at *
  have i1 : (0 : Int) ≤ (n : Int) - 1 := by omega
  have i2 : ((n : Int) - 1).toNat = n - 1 := by omega
  have i3 : (0 : Int) < (n : Int) := by omega
  have i4 : (n : Int) - 1 < (n : Int) := by omega
  have q1 : IntKind.i64.wrap ((n : Int) - 1) = (n : Int) - 1 := by rw [IntKind.wrap_i64]; omega
  have q2 : IntKind.i64.wrap (X - Y) = X - Y := by rw [IntKind.wrap_i64]; omega
  have q3 : IntKind.i64.wrap (X - Y + 1) = X - Y + 1 := by rw [IntKind.wrap_i64]; omega
  go_enter Tryz.func284, Tryz.ntmps284
  go_wp2
  go_quiet (fail)
  go_wp2
  go_ret
  exact ⟨rfl, _, rfl⟩

theorem gaps_snoc (last : Int) (l : Bks) (k c : Int) : gapsS last (l ++ [(k, c)]) = gapsS last l + (putS (k - lastD last l - 1)).length := by
  induction l generalizing last with
  | nil => simp [gapsS, lastD]
  | cons x t ih =>
    obtain ⟨j, d⟩ := x
    rw [List.cons_append, gapsS, gapsS, ih, lastD]
    omega
theorem tail_cut (n cap : Nat) (a : Option Addr) (hn : 1 ≤ n) : ∃ D c, ∀ w : World, (Instr.slice 23 (.slice a n cap) (some (.int .i64 1)) none none).run Tryz.prog w = .ok (.slice D (n - 1) c) w := by
  refine ⟨if cap = 1 then a else a.map (·.add 2), cap - 1, fun w => ?_⟩
  rw [run_slice_l (P := Tryz.prog) w 23 a n cap Tryz.underlying23 .i64 1 (by omega) (by omega)]
  have hs : (sizeOf (Tryz.prog.elem 23)).run Tryz.prog w = .ok 2 w := by kernel_rfl
  rw [hs]
  rfl
theorem rises_at {l : Bks} {n : Nat} (hl : l.length = n) {last : Int} (h : checkF last l = true) : ∀ j, j + 1 < n → (l.getD j (0, 0)).1 < (l.getD (j + 1) (0, 0)).1 := by
  induction l generalizing last n with
  | nil => intro j hj; simp at hl; omega
  | cons x t ih =>
    obtain ⟨k, c⟩ := x
    intro j hj
    have h1 := checkF_cons.1 h
    simp only [List.length_cons] at hl
    rw [List.getD_cons_succ]
    cases j with
    | zero =>
      cases t with
      | nil => simp at hl; omega
      | cons y t =>
        obtain ⟨k2, c2⟩ := y
        exact (checkF_cons.1 h1.2.2.2).1
    | succ j =>
      rw [List.getD_cons_succ]
      exact ih (n := n - 1) (by omega) h1.2.2.2 j (by omega)
theorem good_range {l : Bks} (h : Good l) : ∀ x ∈ l, 0 ≤ x.1 ∧ x.1 ≤ 100000 := by
  intro x hx
  obtain ⟨k, hk, rfl⟩ := List.getElem_of_mem hx
  have h1 := checkF_range (Int.le_refl _) h.check hk
  rw [List.getD_eq_getElem?_getD, List.getElem?_eq_getElem hk] at h1
  simp only [Option.getD_some] at h1
  omega
theorem gaps_le (last : Int) (l : Bks) : gapsS last l ≤ 10 * l.length := by
  induction l generalizing last with
  | nil => simp [gapsS]
  | cons x t ih =>
    obtain ⟨k, c⟩ := x
    have h1 := (putS_len (k - last - 1)).2
    have h2 := ih k
    rw [gapsS, List.length_cons]
    omega

set_option maxRecDepth 20000 in
set_option maxHeartbeats 4000000 in
theorem hform_any (a : Option Addr) (n cap : Nat) (l : Bks) (w : World) (hr : RowB w a n l) (hc : n ≤ cap) :
    Calls Tryz.prog 241 #[.slice a n cap] w fun e w' => e = .returned (.int .u64 (formS l)) ∧ Below w.heap.size w w' := by
  have HR := hide hr
  have HL := hide hr.1
  have hnb := hr.2.1
  have C := hide (check_any a n cap l w hr)
  have hfit := fit_words hr.2.2.1
  have HFit := hide hfit
  clear hr hfit
  by_cases hn0 : n = 0
  · have hl : l = [] := List.length_eq_zero_iff.1 (by rw [HL.out]; exact hn0)
    have HE : Hid (formS l = 0) := by show _ = _; unfold formS; rw [if_pos (Or.inl hl)]
    rw [HE.out]
    subst hn0
    clear hl C HR HL HFit
    go_enter Tryz.func241, Tryz.ntmps241
    go_wp2
    go_ret
    exact ⟨rfl, Below.refl _ _⟩
  have d0 : ((n : Int) == 0) = false := by simp; omega
  have hn1 : 1 ≤ n := by omega
  by_cases hck : checkS l = false
  · have HE : Hid (formS l = 0) := by show _ = _; unfold formS; rw [if_pos (Or.inr hck)]
    rw [HE.out]
    rw [hck] at C
    clear hck HR HL HFit
    go_enter Tryz.func241, Tryz.ntmps241
    go_wp2_with fail
    refine C.out.mono ?_
    rintro e w1 ⟨rfl, b1⟩
    have B1 := hide b1
    clear b1 C
    go_wp2
    go_ret
    exact ⟨rfl, B1.out⟩
  have hck : checkS l = true := by simpa using hck
  have G := hide (show Good l from ⟨hck, HFit.out⟩)
  have hne : l ≠ [] := by intro h; have := HL.out; rw [h] at this; simp at this; omega
  obtain ⟨a1, a2, a3, a4, a5, a6, a7⟩ := span_facts G.out hne
  have hsp : spanI l = (spanS l : Int) := by unfold spanI; omega
  have hn7 : n ≤ 7424 := by rw [← HL.out]; exact good_len G.out
  have HF : Hid (formS l = if ((putS (spanS l)).length : Int) + spanS l - n < (putS (n : Int)).length + gapsS (fromS l) l.tail then 1 else 0) := by
    show _ = _
    unfold formS
    rw [if_neg (by rw [hck]; simp [hne]), HL.out]
  have SP := hide (fun W (b : Below w.heap.size w W) => hspan_any a n cap l W (HR.out.below b (Nat.le_refl _)) hn1 (good_range G.out))
  rw [hsp] at SP
  have Z1 := hide (fun w => hsize_any (spanS l : Int) w (by omega) (by omega))
  have Z2 := hide (fun w => hsize_any (n : Int) w (by omega) (by omega))
  have z1 := (putS_len (spanS l : Int)).2
  have z2 := (putS_len (n : Int)).2
  rw [hck] at C
  obtain ⟨D, dc, hD⟩ := tail_cut n cap a hn1
  have HGaps : Hid (∀ j : Nat, j + 1 < n → gapsS (fromS l) (l.tail.take (j + 1)) = gapsS (fromS l) (l.tail.take j) + (putS ((l.getD (j + 1) (0, 0)).1 - (l.getD j (0, 0)).1 - 1)).length) := by
    intro j hj
    cases l with
    | nil => exact absurd rfl hne
    | cons x t =>
      obtain ⟨k0, c0⟩ := x
      have hlen : t.length + 1 = n := by simpa using HL.out
      simp only [List.tail_cons, fromS]
      rw [take_bks (l := t) (k := j) (by omega)]
      obtain ⟨v1, v2⟩ : ∃ v1 v2, t.getD j (0, 0) = (v1, v2) := ⟨_, _, rfl⟩
      obtain ⟨v2, hv⟩ := v2
      rw [hv, gaps_snoc, List.getD_cons_succ, hv]
      congr 3
      have : (((k0, c0) :: t).getD j (0, 0)).1 = lastD k0 (t.take j) := by
        cases j with
        | zero => rfl
        | succ j =>
          rw [List.getD_cons_succ]
          have hl2 : (t.take (j + 1)).length = j + 1 := by rw [List.length_take]; omega
          have := last_getD (last := k0) hl2 (by omega)
          rw [← this, Nat.add_sub_cancel, List.getD_eq_getElem?_getD, List.getD_eq_getElem?_getD, List.getElem?_take, if_pos (by omega)]
      rw [this]
  have HGL : Hid (∀ j : Nat, gapsS (fromS l) (l.tail.take j) ≤ 10 * 7424) := by
    intro j
    have h1 := gaps_le (fromS l) (l.tail.take j)
    have h2 : (l.tail.take j).length ≤ 7424 := by
      rw [List.length_take, List.length_tail, HL.out]
      omega
    omega
  have HRG : Hid (∀ j, j < n → 0 ≤ (l.getD j (0, 0)).1 ∧ (l.getD j (0, 0)).1 ≤ 7423) := fun j hj => checkF_range (Int.le_refl _) G.out.check (by rw [HL.out]; exact hj)
  have HRise : Hid (∀ j, j + 1 < n → (l.getD j (0, 0)).1 < (l.getD (j + 1) (0, 0)).1) := rises_at HL.out G.out.check
  have HFin : Hid (l.tail.take (n - 1) = l.tail) := List.take_of_length_le (by rw [List.length_tail, HL.out]; omega)
  have hsp2 : spanS l ≤ 7424 := by omega
  clear hck hne a1 a2 a4 a5 a6 a7 hsp
  generalize (putS (spanS l : Int)).length = p1 at *
  generalize (putS (n : Int)).length = p2 at *
  generalize spanS l = sp at *
  go_enter Tryz.func241, Tryz.ntmps241
  go_wp2_with fail
  refine C.out.mono ?_
  rintro e w1 ⟨rfl, b1⟩
  have S1 := hide (SP.out w1 b1)
  have B1 := hide b1
  clear b1 C SP
  go_wp2_with fail
  refine S1.out.mono ?_
  rintro e w2 ⟨rfl, q, rfl⟩
  have B2 := hide (bel_drewN B1.out q)
  clear S1 B1
  generalize w1.drewN q = w2 at *
  go_wp2_with fail
  refine (Z1.out _).mono ?_
  rintro e w3 ⟨rfl, b3⟩
  have B3 : Hid (Below w.heap.size w w3) := B2.out.trans (b3.mono B2.out.size)
  clear b3 B2 Z1
  go_wp2_with fail
  refine (Z2.out _).mono ?_
  rintro e w4 ⟨rfl, b4⟩
  have B4 : Hid (Below w.heap.size w w4) := B3.out.trans (b4.mono B3.out.size)
  clear b4 B3 Z2
  go_wp2
  go_loopw [5, 30] (fun s i wr => ∃ (j S : Nat), j ≤ n - 1 ∧ i = .int .i64 j ∧ s = .int .i64 S ∧ S ≤ 100000 ∧ Hid (S = p2 + gapsS (fromS l) (l.tail.take j)) ∧ Hid (Below w.heap.size w wr)) (fun _ i _ => n - 1 - (intOf i).toNat)
  case atStart => exact ⟨0, p2, by omega, rfl, rfl, by omega, by show _ = _; simp [gapsS], B4⟩
  case round =>
    obtain ⟨j, S, hj, rfl, rfl, hS, HT, HW⟩ := hrel
    by_cases hlt : j < n - 1
    · obtain ⟨bb, off, rfl, hc1⟩ := HR.out.at' (j := j + 1) (by omega)
      obtain ⟨bb', off', hbo, hc0⟩ := HR.out.at' (j := j) (by omega)
      simp only [Option.some.injEq, Addr.mk.injEq, and_true] at hbo
      obtain ⟨rfl, rfl⟩ := hbo
      have f1 := (hc1 wr HW.out).1
      have f0 := (hc0 wr HW.out).1
      obtain ⟨x0, x1⟩ := HRG.out (j + 1) (by omega)
      obtain ⟨y0, y1⟩ := HRG.out j (by omega)
      have hxy := HRise.out j (by omega)
      have HGJ := hide (HGaps.out j (by omega))
      have HGL1 := HGL.out (j + 1)
      clear hc1 hc0
      generalize (l.getD (j + 1) (0, 0)).1 = X at *
      generalize (l.getD j (0, 0)).1 = Y at *
      have Z := hide (fun w => hsize_any (X - Y - 1) w (by omega) (by omega))
      rw [HGJ.out] at HGL1
      have hp := (putS_len (X - Y - 1)).2
      generalize (putS (X - Y - 1)).length = pz at *
      have i1 : (0 : Int) ≤ (j : Int) := by omega
      have i2 : (j : Int) < (n : Int) := by omega
      have i3 : (0 : Int) ≤ (j : Int) + 1 := by omega
      have i4 : (j : Int) + 1 < (n : Int) := by omega
      have i5 : ((j : Int) + 1).toNat = j + 1 := by omega
      have q1 : IntKind.i64.wrap ((j : Int) + 1) = (j : Int) + 1 := by rw [IntKind.wrap_i64]; omega
      have q2 : IntKind.i64.wrap (X - Y) = X - Y := by rw [IntKind.wrap_i64]; omega
      have q3 : IntKind.i64.wrap (X - Y - 1) = X - Y - 1 := by rw [IntKind.wrap_i64]; omega
      have q4 : IntKind.i64.wrap ((S : Int) + (pz : Int)) = (S : Int) + (pz : Int) := by rw [IntKind.wrap_i64]; omega
      have hS2 : S + pz ≤ 100000 := by have := HT.out; omega
      have HT2 : Hid (S + pz = p2 + gapsS (fromS l) (l.tail.take (j + 1))) := by have := HT.out; show _ = _; rw [HGJ.out]; omega
      clear HT HGJ HGL1
      go_upto_region 9 with fail
      refine wp_region_held_drew (S := fun W => W.cell? ⟨bb, off + (j + 1) * 2, none⟩ = some (.int .i64 X) ∧ W.cell? ⟨bb, off + j * 2, none⟩ = some (.int .i64 Y)) (by kernel_rfl) ⟨f1, f0⟩ (fun hHeld => ?_)
      refine held_tk 0 (some 33) rfl rfl ?_
      refine held_tk 1 (some 34) rfl rfl ?_
      refine held_tk 2 (some 35) rfl rfl ?_
      refine held_tk 3 (some 36) rfl rfl ?_
      refine held_tk 4 (some 37) rfl rfl ?_
      refine held_tk 5 (some 38) rfl rfl ?_
      refine held_tk 6 (some 39) rfl rfl ?_
      refine held_tk 7 (some 40) rfl rfl ?_
      refine held_tk 8 (some 41) rfl rfl ?_
      refine held_tk 9 (some 42) rfl rfl ?_
      refine held_tk 10 (some 43) rfl rfl ?_
      refine held_tk 11 (some 44) rfl rfl ?_
      refine held_tk 12 (some 45) rfl rfl ?_
      refine held_tk 13 (some 46) rfl rfl ?_
      refine held_next (i := 14) (by kernel_rfl) rfl (by rfl) (fun K hK => ?_)
      go_simp
      refine (Z.out _).mono ?_
      rintro e W4 ⟨rfl, b5⟩
      have hs4 : W4.cell? ⟨bb, off + (j + 1) * 2, none⟩ = some (.int .i64 X) ∧ W4.cell? ⟨bb, off + j * 2, none⟩ = some (.int .i64 Y) := by
        have hlt : bb < wr.heap.size := World.block_lt_of_cell? wr _ f1
        rw [b5.cell (p := ⟨bb, off + (j + 1) * 2, none⟩) hlt, b5.cell (p := ⟨bb, off + j * 2, none⟩) hlt]
        exact ⟨f1, f0⟩
      have B5 : Hid (Below w.heap.size w W4) := HW.out.drew.trans (b5.mono HW.out.size)
      go_wp2_with fail
      refine hK.out _ _ hs4 ?_
      clear hK
      refine held_tk 15 (some 48) rfl rfl ?_
      refine held_tk 16 (some 5) rfl rfl ?_
      refine wpAnyH_done (by kernel_rfl) ?_ _
      clear hHeld hs4 b5 f1 f0 HW
      go_wp2
      go_roundw
      case rel => exact ⟨j + 1, S + pz, by omega, by go_num, by simp, hS2, HT2, B5⟩
      case measure => simp [intOf]; omega
    · have : j = n - 1 := by omega
      subst this
      have hS2 : S = p2 + gapsS (fromS l) l.tail := by
        have := HT.out
        rw [HFin.out] at this
        exact this
      have hS3 : ((p2 : Int) + (gapsS (fromS l) l.tail : Int)) = (S : Int) := by omega
      have HFF := HF
      rw [hS3] at HFF
      clear hS2 hS3 HT HFin HF
      by_cases hd : (p1 : Int) + sp - n < S
      · have dd : decide ((p1 : Int) + sp - n < S) = true := decide_eq_true hd
        rw [if_pos hd] at HFF
        clear hd
        go_wp2
        go_ret
        rw [HFF.out]
        exact ⟨rfl, HW.out⟩
      · have dd : decide ((p1 : Int) + sp - n < S) = false := decide_eq_false hd
        rw [if_neg hd] at HFF
        go_wp2
        go_ret
        rw [HFF.out]
        exact ⟨rfl, HW.out⟩
theorem sparB_snoc (last : Int) (l : Bks) (k c : Int) : sparB last (l ++ [(k, c)]) = sparB last l ++ (putS (k - lastD last l - 1) ++ putS c) := by
  induction l generalizing last with
  | nil => simp [sparB, lastD]
  | cons x t ih =>
    obtain ⟨j, d⟩ := x
    rw [List.cons_append, sparB, sparB, ih, lastD]
    simp
theorem wrap_word (x : Int) : W64 (IntKind.u64.wrap x) := by
  rw [IntKind.wrap_u64]
  exact ⟨by omega, by omega⟩

theorem gap_wrap {x L : Int} (h0 : -1 ≤ L) (h1 : L < x) (h2 : x ≤ 7423) : IntKind.u64.wrap (wrap64 (wrap64 (x - L) - 1)) = x - L - 1 := by
  rw [IntWalk.wrap64_in (x - L) ⟨by omega, by omega⟩, IntWalk.wrap64_in (x - L - 1) ⟨by omega, by omega⟩, IntKind.wrap_u64]
  omega

set_option maxHeartbeats 4000000 in
theorem hsparse_any (a : Option Addr) (n cap : Nat) (l : Bks) (w : World) (hr : RowB w a n l) (hn : n ≤ 1100000) :
    Calls Tryz.prog 243 #[.slice a n cap] w fun e w' => ∃ a' m c' Z, e = .returned (.slice a' m c') ∧ Mine w' w.heap.size a' m c' Z ∧ Below w.heap.size w w' ∧ 1 ≤ m ∧ m ≤ 11 + 20 * n ∧ Bytes8 Z ∧ (checkS l = true → Z = sparseS l) := by
  have HR := hide hr
  have HL := hide hr.1
  have NU := hide (fun v hv base a n cap zs w h1 h2 h3 => hnumber_any v base a n cap zs w hv h1 h2 h3)
  have LI := hide (lit_own w 0)
  clear hr
  obtain ⟨l0, l1⟩ := putS_len (n : Int)
  have hW : W64 (n : Int) := w64_len (by omega)
  have N1 := hide (hnumber_any (n : Int) w.heap.size (some ⟨w.heap.size, 0, none⟩) 1 1 [0] _ hW (by omega) (by simp) LI.out)
  have BA : Hid (Below w.heap.size w (w.alloc (.cells #[.int .u8 0] 5))) := bel_al (Below.refl _ _) (Nat.le_refl _) _
  have HPB : Hid (Bytes8 ([0] ++ putS (n : Int))) := Bytes8.append (xs := [0]) (fun z hz => by simp at hz; subst hz; decide) (putS_byte hW)
  have HP0 : Hid (checkF (-1) (l.take 0) = true → [0] ++ putS (n : Int) = 0 :: (putS (n : Int) ++ sparB (-1) (l.take 0))) := fun _ => by simp [sparB]
  generalize hPN : putS (n : Int) = PN at *
  have HPN := hide hPN
  clear hPN
  go_enter Tryz.func243, Tryz.ntmps243
  go_wp2_with fail
  refine N1.out.mono ?_
  rintro e w1 ⟨a1, c1, rfl, o1, b1, -⟩
  have O1 := hide o1
  have B1 : Hid (Below w.heap.size w w1) := BA.out.trans b1
  clear o1 b1 N1 LI BA
  go_wp2
  go_loopw [3, 4, 14] (fun o p i wr => ∃ (ao : Option Addr) (no co j : Nat) (Z : List Int), j ≤ n ∧ o = .slice ao no co ∧ p = .int .i64 (lastD (-1) (l.take j)) ∧ i = .int .i64 j ∧ 1 ≤ no ∧ no ≤ 11 + 20 * j ∧ Hid (Mine wr w.heap.size ao no co Z) ∧ Hid (Below w.heap.size w wr) ∧ Hid (Bytes8 Z ∧ (checkF (-1) (l.take j) = true → Z = 0 :: (PN ++ sparB (-1) (l.take j))))) (fun _ _ i _ => n - (intOf i).toNat)
  case atStart => exact ⟨a1, 1 + PN.length, c1, 0, [0] ++ PN, by omega, rfl, rfl, rfl, by omega, by omega, O1, B1, HPB.out, HP0.out⟩
  case round =>
    obtain ⟨ao, no, co, j, Z, hj, rfl, rfl, rfl, m0, m1, HO, HW, HZ⟩ := hrel
    by_cases hlt : j < n
    · obtain ⟨b, off, rfl, hcc⟩ := HR.out.at' hlt
      obtain ⟨f0, f1⟩ := hcc wr HW.out
      have HFit := hide (getD_fit HR.out.2.2.1 j)
      have HTK := hide (take_bks (l := l) (k := j) (by rw [HL.out]; exact hlt))
      have i1 : (0 : Int) ≤ (j : Int) := by omega
      have i2 : (j : Int) < (n : Int) := by omega
      clear hcc
      generalize l.getD j (0, 0) = x at *
      obtain ⟨x, y⟩ := x
      simp only at f0 f1 HFit
      have HY := hide (u64_of_wf HFit.out.2)
      have HX := hide (i64_of_wf HFit.out.1)
      have HT1 : Hid (checkF (-1) (l.take (j + 1)) = true → checkF (-1) (l.take j) = true ∧ -1 ≤ lastD (-1) (l.take j) ∧ lastD (-1) (l.take j) < x ∧ x ≤ 7423) := by
        intro h
        rw [HTK.out, checkF_snoc, Bool.and_eq_true, decide_eq_true_eq] at h
        exact ⟨h.1, (checkF_lastD h.1).1, h.2.1, h.2.2.1⟩
      have HSN : Hid (sparB (-1) (l.take (j + 1)) = sparB (-1) (l.take j) ++ (putS (x - lastD (-1) (l.take j) - 1) ++ putS y)) := by
        show _ = _
        rw [HTK.out, sparB_snoc]
      have HLA : Hid (lastD (-1) (l.take (j + 1)) = x) := by show _ = _; rw [HTK.out, lastD_snoc]
      clear HFit HTK
      generalize lastD (-1) (l.take j) = L at *
      obtain ⟨U, HU⟩ : ∃ U, Hid (IntKind.u64.wrap (wrap64 (wrap64 (x - L) - 1)) = U) := ⟨_, rfl⟩
      have HUW : Hid (W64 U) := by rw [← HU.out]; exact wrap_word _
      obtain ⟨u0, u1⟩ := putS_len U
      obtain ⟨y0, y1⟩ := putS_len y
      have N1 := hide (NU.out U HUW.out w.heap.size ao no co Z (wr.alloc (.cells #[.int .i64 x, .int .u64 y] 269)) (by omega) (by have := HW.out.size; simp; omega) (HO.out.alloc _))
      have HUB : Hid (Bytes8 (putS U)) := putS_byte HUW.out
      have HYB : Hid (Bytes8 (putS y)) := putS_byte HY.out
      have HUE : Hid (-1 ≤ L ∧ L < x ∧ x ≤ 7423 → putS U = putS (x - L - 1)) := by
        intro h
        rw [← HU.out, gap_wrap h.1 h.2.1 h.2.2]
      generalize hPU : putS U = PU at *
      generalize hPY : putS y = PY at *
      have HPY := hide hPY
      clear hPU hPY
      go_wp2_with fail
      rw [HU.out]
      refine N1.out.mono ?_
      rintro e w2 ⟨a2, c2, rfl, o2, b2, k2⟩
      have O2 := hide o2
      have B2 : Hid (Below w.heap.size w w2) := (bel_al HW.out (Nat.le_refl _) _).trans b2
      have hbx : w2.heap[wr.heap.size]? = some (.cells #[.int .i64 x, .int .u64 y] 269 (0, 0)) := Ch8.kept k2 (World.alloc_heap_new wr _) (by decide)
      have HBX := hide hbx
      have g0 : w2.cell? ⟨wr.heap.size, 0, none⟩ = some (.int .i64 x) := by rw [cell_of_row w2 _ 0 _ _ _ hbx]; rfl
      have g1 : w2.cell? ⟨wr.heap.size, 1, none⟩ = some (.int .u64 y) := by rw [cell_of_row w2 _ 1 _ _ _ hbx]; rfl
      clear o2 b2 k2 N1 HO f0 f1 hbx
      have N2 := hide (NU.out y HY.out w.heap.size a2 (no + PU.length) c2 (Z ++ PU) w2 (by omega) B2.out.size O2.out)
      rw [HPY.out] at N2
      obtain ⟨pb, HPE⟩ : ∃ p, Hid (wr.heap.size = p) := ⟨_, rfl⟩
      rw [HPE.out] at g0 g1 HBX ⊢
      go_wp2_with fail
      refine N2.out.mono ?_
      rintro e w3 ⟨a3, c3, rfl, o3, b3, k3⟩
      have O3 := hide o3
      have B3 : Hid (Below w.heap.size w w3) := B2.out.trans b3
      have hbx : w3.heap[pb]? = some (.cells #[.int .i64 x, .int .u64 y] 269 (0, 0)) := Ch8.kept k3 HBX.out (by decide)
      have g2 : w3.cell? ⟨pb, 0, none⟩ = some (.int .i64 x) := by rw [cell_of_row w3 _ 0 _ _ _ hbx]; rfl
      have HN : Hid (Bytes8 (Z ++ PU ++ PY) ∧ (checkF (-1) (l.take (j + 1)) = true → Z ++ PU ++ PY = 0 :: (PN ++ sparB (-1) (l.take (j + 1))))) := by
        refine ⟨(HZ.out.1.append HUB.out).append HYB.out, fun h => ?_⟩
        obtain ⟨t1, t2⟩ := HT1.out h
        rw [HSN.out, HUE.out t2, HZ.out.2 t1]
        simp
      clear o3 b3 k3 N2 O2 B2 hbx HBX g0 g1 HZ HUE HT1 HSN HPE HU HW
      go_wp2
      go_roundw
      case rel => exact ⟨a3, no + PU.length + PY.length, c3, j + 1, _, by omega, rfl, by rw [HLA.out], by go_num, by omega, by omega, O3, B3, HN⟩
      case measure => simp [intOf]; omega
    · have : j = n := by omega
      subst this
      have hfin : l.take j = l := List.take_of_length_le (by rw [HL.out]; omega)
      rw [hfin] at HZ
      have HF : Hid (checkS l = true → Z = 0 :: (PN ++ sparB (-1) l)) := HZ.out.2
      have HZB := hide HZ.out.1
      clear hfin HZ
      go_wp2
      go_ret
      refine ⟨ao, no, co, Z, rfl, HO, HW, m0, by omega, HZB.out, fun h => ?_⟩
      rw [HF.out h]
      unfold sparseS
      rw [HL.out, ← HPN.out]

set_option maxRecDepth 20000 in
set_option maxHeartbeats 8000000 in
theorem hdense_any (a : Option Addr) (n cap : Nat) (l : Bks) (w : World) (hr : RowB w a n l) (hg : Good l) (hn : 1 ≤ n) :
    Calls Tryz.prog 242 #[.slice a n cap] w fun e w' => ∃ a' m c', e = .returned (.slice a' m c') ∧ Mine w' w.heap.size a' m c' (denseS l) ∧ Below w.heap.size w w' ∧ 1 ≤ m := by
  have HR := hide hr
  have HL := hide hr.1
  have hnb := hr.2.1
  have hne : l ≠ [] := by intro h; have := hr.1; rw [h] at this; simp at this; omega
  have hn7 : n ≤ 7424 := by rw [← hr.1]; exact good_len hg
  obtain ⟨s1, s2, s3, s4, s5, s6, s7⟩ := span_facts hg hne
  have hsp : spanI l = (spanS l : Int) := by unfold spanI; omega
  have NU := hide (fun v hv base a n cap zs w h1 h2 h3 => hnumber_any v base a n cap zs w hv h1 h2 h3)
  have SP := hide (fun W (b : Below w.heap.size w W) => hspan_any a n cap l W (HR.out.below b (Nat.le_refl _)) hn (good_range hg))
  rw [hsp] at SP
  have LI := hide (lit_own w 1)
  have BA : Hid (Below w.heap.size w (w.alloc (.cells #[.int .u8 1] 5))) := bel_al (Below.refl _ _) (Nat.le_refl _) _
  have wf := w64_small (x := fromS l) (by omega) (by omega)
  have ws := w64_small (x := (spanS l : Int)) (by omega) (by omega)
  have hfs : fromS l + spanS l ≤ 7424 := by omega
  have hsn : spanS l ≤ 7424 := by omega
  obtain ⟨bb, off, rfl, hcc⟩ := hr.at' (j := 0) (by omega)
  rw [from_getD hr.1 hn] at hcc
  rw [Nat.zero_mul, Nat.add_zero] at hcc
  have HC0 : Hid (∀ W, Below w.heap.size w W → W.cell? ⟨bb, off, none⟩ = some (.int .i64 (fromS l))) := fun W hW => (hcc W hW).1
  have HWB := hide hg.words
  have HINV : Hid (checkF (fromS l - 1) (l.drop 0) = true ∧ lastD (fromS l - 1) (l.drop 0) = fromS l + spanS l - 1) := ⟨s6, by rw [List.drop_zero, s7]; omega⟩
  have HM0 : Hid ([1] ++ putS (fromS l) ++ putS (spanS l : Int) ++ densB (fromS l) (spanS l) (l.drop 0) = denseS l) := by show _ = _; simp [denseS]
  have N1 := hide (hnumber_any (fromS l) w.heap.size (some ⟨w.heap.size, 0, none⟩) 1 1 [1] (w.alloc (.cells #[.int .u8 1] 5)) wf (by omega) (by simp) LI.out)
  have cW : IntKind.u64.wrap (fromS l) = fromS l := by rw [IntKind.wrap_u64]; omega
  have f0 := HC0.out _ BA.out
  clear hr hg hne hsp s2 s4 s5 s6 s7 hcc
  obtain ⟨q0, q1⟩ := putS_len (fromS l)
  obtain ⟨r0, r1⟩ := putS_len (spanS l : Int)
  generalize denseS l = M at *
  generalize hPF : putS (fromS l) = PF at *
  generalize hPS : putS (spanS l : Int) = PS at *
  have HPS := hide hPS
  clear hPF hPS
  generalize spanS l = sp at *
  generalize fromS l = F at *
  have i3 : (0 : Int) < (n : Int) := by omega
  go_enter Tryz.func242, Tryz.ntmps242
  go_wp2_with fail
  refine N1.out.mono ?_
  rintro e w1 ⟨a1, c1, rfl, o1, b1, -⟩
  have O1 := hide o1
  have B1 : Hid (Below w.heap.size w w1) := BA.out.trans b1
  have S1 := hide (SP.out w1 B1.out)
  clear o1 b1 N1 LI BA f0 SP
  go_wp2_with fail
  refine S1.out.mono ?_
  rintro e w2 ⟨rfl, q, rfl⟩
  have B2 := hide (bel_drewN B1.out q)
  have O2 : Hid (Mine (w1.drewN q) w.heap.size a1 (1 + PF.length) c1 ([1] ++ PF)) := O1.out
  clear S1 B1 O1
  generalize w1.drewN q = w2 at *
  have N2 := hide (NU.out (sp : Int) ws w.heap.size a1 (1 + PF.length) c1 ([1] ++ PF) w2 (by omega) B2.out.size O2.out)
  rw [HPS.out] at N2
  go_wp2_with fail
  refine N2.out.mono ?_
  rintro e w3 ⟨a3, c3, rfl, o3, b3, -⟩
  have O3 := hide o3
  have B3 : Hid (Below w.heap.size w w3) := B2.out.trans b3
  have f0 := HC0.out _ B3.out
  clear o3 b3 N2 O2 B2
  go_wp2
  clear f0
  go_loopw [3, 4, 25] (fun o t i wr => ∃ (ao : Option Addr) (no co j m : Nat) (at' : Int) (Z : List Int), j ≤ n ∧ o = .slice ao no co ∧ t = .int .i64 at' ∧ i = .int .i64 j ∧ 1 ≤ no ∧ no + 10 * m ≤ 21 + 10 * sp ∧ F ≤ at' ∧ at' + m = F + sp ∧ Hid (checkF (at' - 1) (l.drop j) = true ∧ lastD (at' - 1) (l.drop j) = F + sp - 1) ∧ Hid (Z ++ densB at' m (l.drop j) = M) ∧ Hid (Mine wr w.heap.size ao no co Z) ∧ Hid (Below w.heap.size w wr)) (fun _ _ i _ => n - (intOf i).toNat)
  case atStart => exact ⟨a3, 1 + PF.length + PS.length, c3, 0, sp, F, _, by omega, rfl, rfl, rfl, by omega, by omega, by omega, by omega, HINV, HM0, O3, B3⟩
  case round =>
    obtain ⟨ao, no, co, j, m, at', Z, hj, rfl, rfl, rfl, m0, m1, t0, t1, HI, HZ, HO, HW⟩ := hrel
    by_cases hlt : j < n
    · obtain ⟨b', off', hbo, hc1⟩ := HR.out.at' hlt
      simp only [Option.some.injEq, Addr.mk.injEq, and_true] at hbo
      obtain ⟨rfl, rfl⟩ := hbo
      obtain ⟨f0, f1⟩ := hc1 wr HW.out
      have HDR := hide (drop_bks (l := l) (k := j) (by rw [HL.out]; exact hlt))
      have hfit := getD_fit HR.out.2.2.1 j
      have i1 : (0 : Int) ≤ (j : Int) := by omega
      have i2 : (j : Int) < (n : Int) := by omega
      clear hc1
      generalize l.getD j (0, 0) = x at *
      obtain ⟨x, y⟩ := x
      simp only at f0 f1
      have HY := hide (u64_of_wf hfit.2)
      rw [HDR.out] at HI HZ
      obtain ⟨hi1, hi2⟩ := HI.out
      have h1 := checkF_cons.1 hi1
      rw [lastD] at hi2
      have h2 := (checkF_lastD h1.2.2.2).1
      have hx0 : at' ≤ x := by omega
      have hx1 : x < F + sp := by omega
      have HI2 : Hid (checkF (x + 1 - 1) (l.drop (j + 1)) = true ∧ lastD (x + 1 - 1) (l.drop (j + 1)) = F + sp - 1) := by rw [show x + 1 - 1 = x by omega]; exact ⟨h1.2.2.2, hi2⟩
      clear hi1 hi2 h1 h2 HI HDR hfit
      obtain ⟨pb, HPE⟩ : ∃ p, Hid (wr.heap.size = p) := ⟨_, rfl⟩
      have HBX : Hid ((wr.alloc (.cells #[.int .i64 x, .int .u64 y] 269)).heap[pb]? = some (.cells #[.int .i64 x, .int .u64 y] 269 (0, 0))) := by rw [← HPE.out]; exact World.alloc_heap_new wr _
      have BX : Hid (Below w.heap.size w (wr.alloc (.cells #[.int .i64 x, .int .u64 y] 269))) := bel_al HW.out (Nat.le_refl _) _
      have OX := hide (HO.out.alloc (.cells #[.int .i64 x, .int .u64 y] 269))
      obtain ⟨t, HTE⟩ : ∃ t, Hid (l.drop (j + 1) = t) := ⟨_, rfl⟩
      rw [HTE.out] at HI2 HZ
      go_wp2
      rw [HPE.out]
      generalize wr.alloc (.cells #[.int .i64 x, .int .u64 y] 269) = wb at *
      clear f0 f1 HO HW HPE
      go_loopw [3, 4] (fun o t' wi => ∃ (ai : Option Addr) (ni ci mi : Nat) (ti : Int) (Zi : List Int), o = .slice ai ni ci ∧ t' = .int .i64 ti ∧ 1 ≤ ni ∧ ni + 10 * mi ≤ 21 + 10 * sp ∧ F ≤ ti ∧ ti ≤ x ∧ ti + mi = F + sp ∧ Hid (Zi ++ densB ti mi ((x, y) :: t) = M) ∧ Hid (Mine wi w.heap.size ai ni ci Zi) ∧ Hid (Below w.heap.size w wi) ∧ Hid (wi.heap[pb]? = some (.cells #[.int .i64 x, .int .u64 y] 269 (0, 0)))) (fun _ t' _ => (x - intOf t').toNat)
      case atStart => exact ⟨ao, no, co, m, at', Z, rfl, rfl, m0, m1, t0, hx0, t1, HZ, OX, BX, HBX⟩
      case round =>
        obtain ⟨ai, ni, ci, mi, ti, Zi, rfl, rfl, n0, n1, u0, u1, u2, HZi, HOi, HWi, HXi⟩ := hrel
        have g0 : wr.cell? ⟨pb, 0, none⟩ = some (.int .i64 x) := by rw [cell_of_row wr _ 0 _ _ _ HXi.out]; rfl
        have g1 : wr.cell? ⟨pb, 1, none⟩ = some (.int .u64 y) := by rw [cell_of_row wr _ 1 _ _ _ HXi.out]; rfl
        obtain ⟨mm, rfl⟩ : ∃ mm, mi = mm + 1 := ⟨mi - 1, by omega⟩
        by_cases hti : ti < x
        · have NN := hide (NU.out 0 ⟨by decide, by decide⟩ w.heap.size ai ni ci Zi wr (by omega) HWi.out.size HOi.out)
          rw [putS_zero] at NN
          have HZn : Hid (Zi ++ [0] ++ densB (ti + 1) mm ((x, y) :: t) = M) := by
            have := HZi.out
            rw [densB_skip hti] at this
            show _ = _
            rw [← this]
            simp
          clear HZi
          go_wp2_with fail
          refine NN.out.mono ?_
          rintro e w5 ⟨a5, c5, rfl, o5, b5, k5⟩
          have O5 := hide o5
          have B5 : Hid (Below w.heap.size w w5) := HWi.out.trans b5
          have X5 := hide (Ch8.kept k5 HXi.out (by decide))
          clear o5 b5 k5 NN HOi HWi HXi g0 g1
          go_wp2
          go_roundw
          case rel => exact ⟨a5, ni + 1, c5, mm, ti + 1, _, rfl, by go_num, by omega, by omega, by omega, by omega, by omega, HZn, O5, B5, X5⟩
          case measure => simp [intOf]; omega
        · have hxe : ti = x := by omega
          have NN := hide (NU.out y HY.out w.heap.size ai ni ci Zi wr (by omega) HWi.out.size HOi.out)
          obtain ⟨v0, v1⟩ := putS_len y
          have HZn : Hid (Zi ++ putS y ++ densB (x + 1) mm t = M) := by
            have := HZi.out
            rw [hxe, densB_here] at this
            show _ = _
            rw [← this]
            simp
          clear HZi
          generalize putS y = PY at *
          go_wp2_with fail
          refine NN.out.mono ?_
          rintro e w5 ⟨a5, c5, rfl, o5, b5, k5⟩
          have O5 := hide o5
          have B5 : Hid (Below w.heap.size w w5) := HWi.out.trans b5
          clear o5 b5 k5 NN HOi HWi HXi g0 g1
          subst hxe
          go_wp2
          exact ⟨⟨a5, ni + PY.length, c5, j + 1, mm, ti + 1, _, by omega, rfl, by go_num, by go_num, by omega, by omega, by omega, by omega, by rw [HTE.out]; exact HI2, by rw [HTE.out]; exact HZn, O5, B5⟩, by simp [intOf]; omega⟩
    · have : j = n := by omega
      subst this
      have hnil : l.drop j = [] := List.drop_of_length_le (by rw [HL.out]; omega)
      rw [hnil] at HI HZ
      have hm0 : m = 0 := by have := HI.out.2; rw [lastD] at this; omega
      subst hm0
      have HF : Hid (Z = M) := by have := HZ.out; rw [densB, List.append_nil] at this; exact this
      rw [HF.out] at HO
      clear hnil HI HZ
      go_wp2
      go_ret
      exact ⟨ao, no, co, rfl, HO, HW, m0⟩

set_option maxHeartbeats 2000000 in
theorem hput_any (ab : Option Addr) (nb cb : Nat) (zb : List Int) (a : Option Addr) (n cap : Nat) (l : Bks) (w : World) (hb : Row .u8 w ab nb zb) (hr : RowB w a n l) (hc : n ≤ cap) (hn : n ≤ 1100000) (hnb : nb ≤ 140737488355328) :
    Calls Tryz.prog 189 #[.slice ab nb cb, .slice a n cap] w fun e w' => ∃ a' m c' Z, e = .returned (.slice a' (nb + m) c') ∧ Mine w' w.heap.size a' (nb + m) c' (zb ++ Z) ∧ Below w.heap.size w w' ∧ 1 ≤ m ∧ Z.length = m ∧ Bytes8 Z ∧ (checkS l = true → Z = putH l) := by
  have F := hide (hform_any a n cap l w hr hc)
  have HB := hide hb
  have HR := hide hr
  have HL := hide hr.1
  have HFit := hide (fit_words hr.2.2.1)
  clear hb hr
  by_cases hf : formS l = 1
  · have hck : checkS l = true := by
      unfold formS at hf
      split at hf
      · simp at hf
      · rename_i h
        simp only [not_or] at h
        simpa using h.2
    have hne : l ≠ [] := by
      intro h
      unfold formS at hf
      rw [if_pos (Or.inl h)] at hf
      simp at hf
    have hn1 : 1 ≤ n := by
      have := HL.out
      cases l with
      | nil => exact absurd rfl hne
      | cons _ _ => simp at this; omega
    have G := hide (show Good l from ⟨hck, HFit.out⟩)
    have HP : Hid (putH l = denseS l) := by
      rcases form_put G.out with ⟨_, _, h⟩ | ⟨h, _⟩
      · exact h
      · omega
    have HBy : Hid (Bytes8 (denseS l)) := by rw [← HP.out]; exact putH_byte G.out
    have HLen : Hid ((denseS l).length ≤ 100000) := by
      have := (putH_len G.out).1
      have h7 := good_len G.out
      rw [HP.out] at this
      show _ ≤ _
      omega
    rw [hf] at F
    clear hf hck hne
    go_enter Tryz.func189, Tryz.ntmps189
    go_wp2_with fail
    refine F.out.mono ?_
    rintro e w1 ⟨rfl, b1⟩
    have B1 := hide b1
    have D := hide (hdense_any a n cap l w1 (HR.out.below b1 (Nat.le_refl _)) G.out hn1)
    clear b1 F
    go_wp2_with fail
    refine D.out.mono ?_
    rintro e w2 ⟨a2, m, c2, rfl, o2, b2, m1⟩
    have B2 : Hid (Below w.heap.size w w2) := B1.out.trans (b2.mono B1.out.size)
    have hml : (denseS l).length = m := o2.len
    have hm2 : m ≤ 100000 := by rw [← hml]; exact HLen.out
    have R2 := hide (o2.row8 (by omega) HBy.out)
    have C := hide (concat_two ab nb cb zb a2 m c2 (denseS l) w2 (HB.out.below B2.out (Nat.le_refl _)) R2.out (by omega) (by omega))
    have HML := hide hml
    clear o2 b2 D B1 hml
    generalize denseS l = DS at *
    go_wp2_with fail
    refine C.out.mono ?_
    rintro e w3 ⟨a3, c3, rfl, o3, b3⟩
    have O3 := hide (o3.mono B2.out.size)
    have B3 : Hid (Below w.heap.size w w3) := B2.out.trans (b3.mono B2.out.size)
    clear o3 b3 C R2 B2
    go_wp2
    go_ret
    exact ⟨a3, m, c3, DS, rfl, O3, B3, m1, HML.out, HBy.out, fun _ => HP.out.symm⟩
  · have hf0 : formS l = 0 := by
      unfold formS at hf ⊢
      split
      · rfl
      · rename_i h
        rw [if_neg h] at hf
        split
        · rename_i h2
          rw [if_pos h2] at hf
          exact absurd rfl hf
        · rfl
    have HP : Hid (checkS l = true → putH l = sparseS l) := by
      intro hck
      rcases form_put (show Good l from ⟨hck, HFit.out⟩) with ⟨h, _⟩ | ⟨_, h⟩
      · omega
      · exact h
    rw [hf0] at F
    clear hf hf0
    go_enter Tryz.func189, Tryz.ntmps189
    go_wp2_with fail
    refine F.out.mono ?_
    rintro e w1 ⟨rfl, b1⟩
    have B1 := hide b1
    have D := hide (hsparse_any a n cap l w1 (HR.out.below b1 (Nat.le_refl _)) hn)
    clear b1 F
    go_wp2_with fail
    refine D.out.mono ?_
    rintro e w2 ⟨a2, m, c2, Z, rfl, o2, b2, m1, m2, hzb, hzs⟩
    have B2 : Hid (Below w.heap.size w w2) := B1.out.trans (b2.mono B1.out.size)
    have HZB := hide hzb
    have HZS := hide hzs
    have HML := hide o2.len
    have R2 := hide (o2.row8 (by omega) HZB.out)
    have C := hide (concat_two ab nb cb zb a2 m c2 Z w2 (HB.out.below B2.out (Nat.le_refl _)) R2.out (by omega) (by omega))
    clear o2 b2 D B1 hzb hzs
    go_wp2_with fail
    refine C.out.mono ?_
    rintro e w3 ⟨a3, c3, rfl, o3, b3⟩
    have O3 := hide (o3.mono B2.out.size)
    have B3 : Hid (Below w.heap.size w w3) := B2.out.trans (b3.mono B2.out.size)
    clear o3 b3 C R2 B2
    go_wp2
    go_ret
    exact ⟨a3, m, c3, Z, rfl, O3, B3, m1, HML.out, HZB.out, fun h => by rw [HP.out h]; exact HZS.out h⟩
def szE (r : Option (Int × Int)) : Ending :=
  match r with
  | none => .returned (.tuple #[.int .i64 0, .int .i64 0, .bool false])
  | some p => .returned (.tuple #[.int .i64 p.1, .int .i64 p.2, .bool true])
/-- A list that was got, in memory of the call's own; or none. -/
def GotL (base : Nat) (r : Option (Bks × Int)) (e : Ending) (w' : World) : Prop :=
  match r with
  | none => e = .returned (.tuple #[.slice none 0 0, .int .i64 0, .bool false])
  | some p => ∃ a' c', e = .returned (.tuple #[.slice a' p.1.length c', .int .i64 p.2, .bool true]) ∧ OwnB w' base a' p.1.length c' p.1 ∧ (∀ x ∈ p.1, fitB x) ∧ p.1.length ≤ 7424

theorem got_range {zs : List Int} {n : Nat} (hz : Bytes8 zs) (hl : zs.length = n) (hn : n ≤ 281474976710656) {q v nx : Int} (h : getS zs q = some (v, nx)) : W64 v ∧ 0 ≤ nx ∧ nx ≤ 281474976710656 := by
  obtain ⟨h1, k, -, -, rfl, h4, -⟩ := getS_some hz h
  exact ⟨h1, by omega, by omega⟩

set_option maxHeartbeats 1000000 in
theorem getsize_any (p : Int) (a : Option Addr) (n cap : Nat) (zs : List Int) (w : World) (hp : (Lit.int .i64 p).wf = true) (hc : n ≤ cap) (hr : Row .u8 w a n zs) :
    Calls Tryz.prog 289 #[.slice a n cap, .int .i64 p] w fun e w' => e = szE (szS zs p) ∧ w' = w := by
  have C := hide (get_any p a n cap zs w hp hc hr)
  have hz : Bytes8 zs := hr.bytes
  have hl := hr.1
  have hn := hr.2.1
  unfold szS
  cases hg : getS zs p with
  | none =>
    rw [hg] at C
    have C' : Hid (Calls Tryz.prog 54 #[.slice a n cap, .int .i64 p] w fun e w' => e = .returned (.tuple #[.int .u64 0, .int .i64 0, .bool false]) ∧ w' = w) := C.out
    clear C hr hg
    go_enter Tryz.func289, Tryz.ntmps289
    go_wp2_with fail
    refine C'.out.mono ?_
    rintro e w1 ⟨rfl, rfl⟩
    go_wp2
    go_ret3
    exact ⟨rfl, rfl⟩
  | some r =>
    obtain ⟨v, q⟩ := r
    rw [hg] at C
    have C' : Hid (Calls Tryz.prog 54 #[.slice a n cap, .int .i64 p] w fun e w' => e = .returned (.tuple #[.int .u64 v, .int .i64 q, .bool true]) ∧ w' = w) := C.out
    obtain ⟨v0, q0, q1⟩ := got_range hz hl hn hg
    obtain ⟨v0, v1⟩ := v0
    clear C hr hg hz hl
    simp only
    by_cases hv : v ≤ 7424
    · rw [if_pos hv]
      have d1 : decide (7424 < v) = false := decide_eq_false (by omega)
      go_enter Tryz.func289, Tryz.ntmps289
      go_wp2_with fail
      refine C'.out.mono ?_
      rintro e w1 ⟨rfl, rfl⟩
      go_wp2
      go_ret3
      exact ⟨rfl, rfl⟩
    · rw [if_neg hv]
      have d1 : decide (7424 < v) = true := decide_eq_true (by omega)
      go_enter Tryz.func289, Tryz.ntmps289
      go_wp2_with fail
      refine C'.out.mono ?_
      rintro e w1 ⟨rfl, rfl⟩
      go_wp2
      go_ret3
      exact ⟨rfl, rfl⟩

theorem i64_fit {x : Int} (h0 : -9223372036854775808 ≤ x) (h1 : x ≤ 9223372036854775807) : (Lit.int .i64 x).wf = true := by
  simp [Lit.wf, IntKind.min, IntKind.max, IntKind.signed, IntKind.bits]
  omega

set_option maxRecDepth 20000 in
set_option maxHeartbeats 8000000 in
theorem getsparse_any (p : Int) (a : Option Addr) (n cap : Nat) (zs : List Int) (w : World) (hp : (Lit.int .i64 p).wf = true) (hc : n ≤ cap) (hr : Row .u8 w a n zs) :
    Calls Tryz.prog 247 #[.slice a n cap, .int .i64 p] w fun e w' => GotL w.heap.size (dSparse zs p) e w' ∧ Below w.heap.size w w' := by
  obtain ⟨i0, hi, hz0, hz1, hz2⟩ := info_parts Tryz.infoB
  have G0 := hide (getsize_any p a n cap zs w hp hc hr)
  have GS := hide (fun p W (hp : (Lit.int .i64 p).wf = true) (hb : Below w.heap.size w W) => getsize_any p a n cap zs W hp hc (hr.below hb (Nat.le_refl _)))
  have GN := hide (fun p W (hp : (Lit.int .i64 p).wf = true) (hb : Below w.heap.size w W) => get_any p a n cap zs W hp hc (hr.below hb (Nat.le_refl _)))
  have HZ : Hid (Bytes8 zs) := hr.bytes
  have HL := hide hr.1
  have hn := hr.2.1
  clear hr hp
  obtain ⟨D, hD⟩ : ∃ D, dSparse zs p = D := ⟨_, rfl⟩
  have HD := hide hD
  rw [hD]
  clear hD
  cases hs : szS zs p with
  | none =>
    have HE : Hid (D = none) := by show _ = _; rw [← HD.out, dSparse, hs]
    rw [hs] at G0
    have G1 : Hid (Calls Tryz.prog 289 #[.slice a n cap, .int .i64 p] w fun e w' => e = .returned (.tuple #[.int .i64 0, .int .i64 0, .bool false]) ∧ w' = w) := G0.out
    rw [HE.out]
    clear G0 hs
    go_enter Tryz.func247, Tryz.ntmps247
    go_wp2_with fail
    refine G1.out.mono ?_
    rintro e w1 ⟨rfl, rfl⟩
    go_wp2
    go_ret3
    exact ⟨rfl, Below.refl _ _⟩
  | some r =>
    obtain ⟨c, p1⟩ := r
    have HE : Hid (dSp zs c.toNat (-1) p1 = D) := by show _ = _; rw [← HD.out, dSparse, hs]
    rw [hs] at G0
    have G1 : Hid (Calls Tryz.prog 289 #[.slice a n cap, .int .i64 p] w fun e w' => e = .returned (.tuple #[.int .i64 c, .int .i64 p1, .bool true]) ∧ w' = w) := G0.out
    obtain ⟨hg, hc7⟩ := szS_some hs
    obtain ⟨⟨c0, -⟩, q0, q1⟩ := got_range HZ.out HL.out hn hg
    obtain ⟨c, rfl⟩ := Int.eq_ofNat_of_zero_le c0
    rw [Int.toNat_natCast] at HE
    have hc8 : c ≤ 7424 := by omega
    clear G0 hs hg HD
    go_enter Tryz.func247, Tryz.ntmps247
    go_wp2_with fail
    refine G1.out.mono ?_
    rintro e w1 ⟨rfl, rfl⟩
    clear G1
    go_wp2
    go_loopw [8, 10, 11, 27] (fun nx l t i wr => ∃ (am : Option Addr) (nm cm j : Nat) (pj last : Int) (pre : Bks), nx = .int .i64 pj ∧ l = .slice am nm cm ∧ t = .int .i64 last ∧ i = .int .i64 j ∧ j ≤ c ∧ nm = j ∧ 0 ≤ pj ∧ pj ≤ 281474976710656 ∧ -1 ≤ last ∧ last ≤ 7425 * j ∧ Hid (pre.length = nm ∧ (∀ x ∈ pre, fitB x) ∧ D = (dSp zs (c - j) last pj).map fun r => (pre ++ r.1, r.2)) ∧ Hid (OwnB wr w1.heap.size am nm cm pre) ∧ Hid (Below w1.heap.size w1 wr)) (fun _ _ _ i _ => c - (intOf i).toNat)
    case atStart =>
      refine ⟨none, 0, 0, 0, p1, -1, [], rfl, rfl, rfl, rfl, by omega, rfl, q0, q1, by omega, by omega, ⟨rfl, by simp, ?_⟩, ownB_nil _ _, Below.refl _ _⟩
      rw [← HE.out, Nat.sub_zero]
      cases dSp zs c (-1) p1 <;> simp
    case round =>
      obtain ⟨am, nm, cm, j, pj, last, pre, rfl, rfl, rfl, rfl, hj, rfl, t0, t1, t2, t3, HP, HO, HB⟩ := hrel
      have HBW : Hid (w1.heap.size ≤ wr.heap.size) := HB.out.size
      by_cases hlt : nm < c
      · obtain ⟨d, hd⟩ : ∃ d, c - nm = d + 1 := ⟨c - nm - 1, by omega⟩
        have hd2 : c - (nm + 1) = d := by omega
        have HDD := hide HP.out.2.2
        rw [hd, dSp] at HDD
        have S1 := hide (GS.out pj wr (i64_fit (by omega) (by omega)) HB.out)
        have i1 : (nm : Int) < (c : Int) := by omega
        cases hs : szS zs pj with
        | none =>
          rw [hs] at S1 HDD
          have S2 : Hid (Calls Tryz.prog 289 #[.slice a n cap, .int .i64 pj] wr fun e w' => e = .returned (.tuple #[.int .i64 0, .int .i64 0, .bool false]) ∧ w' = wr) := S1.out
          have HN : Hid (D = none) := HDD.out
          clear hs S1 HDD
          go_wp2_with fail
          refine S2.out.mono ?_
          rintro e w2 ⟨rfl, rfl⟩
          go_wp2
          go_ret3
          rw [HN.out]
          exact ⟨rfl, HB.out⟩
        | some r =>
          obtain ⟨dd, k1⟩ := r
          rw [hs] at S1 HDD
          have S2 : Hid (Calls Tryz.prog 289 #[.slice a n cap, .int .i64 pj] wr fun e w' => e = .returned (.tuple #[.int .i64 dd, .int .i64 k1, .bool true]) ∧ w' = wr) := S1.out
          obtain ⟨hg, hdd⟩ := szS_some hs
          obtain ⟨⟨dd0, -⟩, k10, k11⟩ := got_range HZ.out HL.out hn hg
          simp only at HDD
          have S3 := hide (GN.out k1 wr (i64_fit (by omega) (by omega)) HB.out)
          clear hs S1 hg
          have hat : last + (dd + 1) = last + dd + 1 := by omega
          cases hg : getS zs k1 with
          | none =>
            rw [hg] at S3 HDD
            have S4 : Hid (Calls Tryz.prog 54 #[.slice a n cap, .int .i64 k1] wr fun e w' => e = .returned (.tuple #[.int .u64 0, .int .i64 0, .bool false]) ∧ w' = wr) := S3.out
            have HN : Hid (D = none) := HDD.out
            clear hg S3 HDD
            go_wp2_with fail
            refine S2.out.mono ?_
            rintro e w2 ⟨rfl, rfl⟩
            go_wp2_with fail
            refine S4.out.mono ?_
            rintro e w3 ⟨rfl, rfl⟩
            go_wp2
            go_ret3
            rw [HN.out]
            exact ⟨rfl, HB.out⟩
          | some r =>
            obtain ⟨y, k2⟩ := r
            rw [hg] at S3 HDD
            have S4 : Hid (Calls Tryz.prog 54 #[.slice a n cap, .int .i64 k1] wr fun e w' => e = .returned (.tuple #[.int .u64 y, .int .i64 k2, .bool true]) ∧ w' = wr) := S3.out
            obtain ⟨hy, k20, k21⟩ := got_range HZ.out HL.out hn hg
            have HN : Hid ((pre ++ [(last + dd + 1, y)]).length = nm + 1 ∧ (∀ x ∈ pre ++ [(last + dd + 1, y)], fitB x) ∧ D = (dSp zs (c - (nm + 1)) (last + dd + 1) k2).map fun r => ((pre ++ [(last + dd + 1, y)]) ++ r.1, r.2)) := by
              refine ⟨by rw [List.length_append, HP.out.1]; rfl, ?_, ?_⟩
              · intro x hx
                rcases List.mem_append.1 hx with hx | hx
                · exact HP.out.2.1 x hx
                · simp only [List.mem_singleton] at hx
                  subst hx
                  exact ⟨i64_fit (by omega) (by omega), wf_of_u64 hy⟩
              · have := HDD.out
                rw [hd2, this]
                simp only
                cases dSp zs d (last + dd + 1) k2 <;> simp
            clear hg S3 HDD hy
            generalize hX : last + dd + 1 = X at *
            have HX := hide hX
            clear hX
            have x0 : -1 ≤ X := by rw [← HX.out]; omega
            have x1 : X ≤ 7425 * ((nm + 1 : Nat) : Int) := by rw [← HX.out]; omega
            go_wp2_with fail
            refine S2.out.mono ?_
            rintro e w2 ⟨rfl, rfl⟩
            go_wp2_with fail
            refine S4.out.mono ?_
            rintro e w3 ⟨rfl, rfl⟩
            clear S2 S4 HP
            go_wp2_with (at_builtin; refine wpList_append_bks _ rfl _ _ 23 rfl w1.heap.size i0 Tryz.underlying23 hi hz0 hz1 hz2 am nm cm pre rfl (HO.out.alloc _) ⟨w3.heap.size, 0, none⟩ 1 1 [(X, y)] rfl rfl (two_cells w3 (X, y) _) (by omega) (by have := HBW.out; simp; omega) ?_)
            intro a2 c2 w2 o2 b2
            have O2 := hide o2
            have K2 : Hid (Below w1.heap.size w1 w2) := (bel_al HB.out (Nat.le_refl _) _).trans b2
            clear o2 b2 HO HB
            go_wp2
            go_roundw
            case rel => exact ⟨a2, nm + 1, c2, nm + 1, k2, X, _, rfl, rfl, rfl, by go_num, by omega, rfl, k20, k21, x0, x1, HN, O2, K2⟩
            case measure => simp [intOf]; omega
      · have : nm = c := by omega
        subst this
        have HN : Hid (D = some (pre, pj)) := by
          have := HP.out.2.2
          rw [Nat.sub_self, dSp] at this
          show _ = _
          simpa using this
        have HF := hide HP.out.2.1
        have hpl := HP.out.1
        have HPL := hide hpl
        clear hpl HP
        go_wp2
        go_ret3
        rw [HN.out]
        refine ⟨⟨am, cm, ?_, ?_, HF.out, by have := HPL.out; simp only; omega⟩, HB.out⟩
        · show _ = Ending.returned (.tuple #[.slice am pre.length cm, .int .i64 pj, .bool true])
          rw [HPL.out]
          rfl
        · show OwnB wr w1.heap.size am pre.length cm pre
          rw [HPL.out]
          exact HO.out

set_option maxRecDepth 20000 in
set_option maxHeartbeats 8000000 in
theorem getdense_any (p : Int) (a : Option Addr) (n cap : Nat) (zs : List Int) (w : World) (hp : (Lit.int .i64 p).wf = true) (hc : n ≤ cap) (hr : Row .u8 w a n zs) :
    Calls Tryz.prog 248 #[.slice a n cap, .int .i64 p] w fun e w' => GotL w.heap.size (dDense zs p) e w' ∧ Below w.heap.size w w' := by
  obtain ⟨i0, hi, hz0, hz1, hz2⟩ := info_parts Tryz.infoB
  have G0 := hide (getsize_any p a n cap zs w hp hc hr)
  have GS := hide (fun p W (hp : (Lit.int .i64 p).wf = true) (hb : Below w.heap.size w W) => getsize_any p a n cap zs W hp hc (hr.below hb (Nat.le_refl _)))
  have GN := hide (fun p W (hp : (Lit.int .i64 p).wf = true) (hb : Below w.heap.size w W) => get_any p a n cap zs W hp hc (hr.below hb (Nat.le_refl _)))
  have HZ : Hid (Bytes8 zs) := hr.bytes
  have HL := hide hr.1
  have hn := hr.2.1
  clear hr hp
  obtain ⟨D, hD⟩ : ∃ D, dDense zs p = D := ⟨_, rfl⟩
  have HD := hide hD
  rw [hD]
  clear hD
  cases hs : szS zs p with
  | none =>
    have HE : Hid (D = none) := by show _ = _; rw [← HD.out, dDense, hs]
    rw [hs] at G0
    have G1 : Hid (Calls Tryz.prog 289 #[.slice a n cap, .int .i64 p] w fun e w' => e = .returned (.tuple #[.int .i64 0, .int .i64 0, .bool false]) ∧ w' = w) := G0.out
    rw [HE.out]
    clear G0 hs
    go_enter Tryz.func248, Tryz.ntmps248
    go_wp2_with fail
    refine G1.out.mono ?_
    rintro e w1 ⟨rfl, rfl⟩
    go_wp2
    go_ret3
    exact ⟨rfl, Below.refl _ _⟩
  | some r =>
    obtain ⟨f, p1⟩ := r
    rw [hs] at G0
    have G1 : Hid (Calls Tryz.prog 289 #[.slice a n cap, .int .i64 p] w fun e w' => e = .returned (.tuple #[.int .i64 f, .int .i64 p1, .bool true]) ∧ w' = w) := G0.out
    obtain ⟨hg, hf7⟩ := szS_some hs
    obtain ⟨⟨f0, -⟩, q0, q1⟩ := got_range HZ.out HL.out hn hg
    have S1 := hide (GS.out p1 w (i64_fit (by omega) (by omega)) (Below.refl _ _))
    have HD1 := HD
    rw [dDense, hs] at HD1
    simp only at HD1
    clear G0 hs hg HD
    cases hs : szS zs p1 with
    | none =>
      rw [hs] at S1 HD1
      have S2 : Hid (Calls Tryz.prog 289 #[.slice a n cap, .int .i64 p1] w fun e w' => e = .returned (.tuple #[.int .i64 0, .int .i64 0, .bool false]) ∧ w' = w) := S1.out
      have HE : Hid (D = none) := HD1.out.symm
      rw [HE.out]
      clear S1 hs HD1
      go_enter Tryz.func248, Tryz.ntmps248
      go_wp2_with fail
      refine G1.out.mono ?_
      rintro e w1 ⟨rfl, rfl⟩
      go_wp2_with fail
      refine S2.out.mono ?_
      rintro e w2 ⟨rfl, rfl⟩
      go_wp2
      go_ret3
      exact ⟨rfl, Below.refl _ _⟩
    | some r =>
      obtain ⟨c, p2⟩ := r
      rw [hs] at S1 HD1
      simp only at HD1
      have S2 : Hid (Calls Tryz.prog 289 #[.slice a n cap, .int .i64 p1] w fun e w' => e = .returned (.tuple #[.int .i64 c, .int .i64 p2, .bool true]) ∧ w' = w) := S1.out
      obtain ⟨hg, hc7⟩ := szS_some hs
      obtain ⟨⟨c0, -⟩, r0, r1⟩ := got_range HZ.out HL.out hn hg
      obtain ⟨c, rfl⟩ := Int.eq_ofNat_of_zero_le c0
      rw [Int.toNat_natCast] at HD1
      have hc8 : c ≤ 7424 := by omega
      have HNone : Hid (parDn zs c f p2 = none → D = none) := by
        intro h
        have := HD1.out
        rw [h] at this
        exact this.symm
      have HSome : Hid (∀ l e, parDn zs c f p2 = some (l, e) → D = if l ≠ [] ∧ fromS l = f ∧ spanI l = c then some (l, e) else none) := by
        intro l e h
        have := HD1.out
        rw [h] at this
        exact this.symm
      clear S1 hs hg HD1
      go_enter Tryz.func248, Tryz.ntmps248
      go_wp2_with fail
      refine G1.out.mono ?_
      rintro e w1 ⟨rfl, rfl⟩
      go_wp2_with fail
      refine S2.out.mono ?_
      rintro e w2 ⟨rfl, rfl⟩
      clear G1 S2
      go_wp2
      go_loopw [11, 12, 36] (fun nx l i wr => ∃ (am : Option Addr) (nm cm j : Nat) (pj : Int) (pre : Bks), nx = .int .i64 pj ∧ l = .slice am nm cm ∧ i = .int .i64 j ∧ j ≤ c ∧ nm ≤ j ∧ 0 ≤ pj ∧ pj ≤ 281474976710656 ∧ Hid (pre.length = nm ∧ (∀ x ∈ pre, fitB x ∧ 0 ≤ x.1 ∧ x.1 ≤ 100000) ∧ parDn zs c f p2 = (parDn zs (c - j) (f + j) pj).map fun r => (pre ++ r.1, r.2)) ∧ Hid (OwnB wr w2.heap.size am nm cm pre) ∧ Hid (Below w2.heap.size w2 wr)) (fun _ _ i _ => c - (intOf i).toNat)
      case atStart =>
        refine ⟨none, 0, 0, 0, p2, [], rfl, rfl, rfl, by omega, by omega, r0, r1, ⟨rfl, by simp, ?_⟩, ownB_nil _ _, Below.refl _ _⟩
        rw [Nat.sub_zero, Int.natCast_zero, Int.add_zero]
        cases parDn zs c f p2 <;> simp
      case round =>
        obtain ⟨am, nm, cm, j, pj, pre, rfl, rfl, rfl, hj, hnm, t0, t1, HP, HO, HB⟩ := hrel
        have HBW : Hid (w2.heap.size ≤ wr.heap.size) := HB.out.size
        by_cases hlt : j < c
        · obtain ⟨d, hd⟩ : ∃ d, c - j = d + 1 := ⟨c - j - 1, by omega⟩
          have hd2 : c - (j + 1) = d := by omega
          have HDD := hide HP.out.2.2
          rw [hd, parDn] at HDD
          have S3 := hide (GN.out pj wr (i64_fit (by omega) (by omega)) HB.out)
          have i1 : (j : Int) < (c : Int) := by omega
          cases hg : getS zs pj with
          | none =>
            rw [hg] at S3 HDD
            have S4 : Hid (Calls Tryz.prog 54 #[.slice a n cap, .int .i64 pj] wr fun e w' => e = .returned (.tuple #[.int .u64 0, .int .i64 0, .bool false]) ∧ w' = wr) := S3.out
            have HN : Hid (D = none) := HNone.out HDD.out
            clear hg S3 HDD
            go_wp2_with fail
            refine S4.out.mono ?_
            rintro e w3 ⟨rfl, rfl⟩
            go_wp2
            go_ret3
            rw [HN.out]
            exact ⟨rfl, HB.out⟩
          | some r =>
            obtain ⟨y, k2⟩ := r
            rw [hg] at S3 HDD
            have S4 : Hid (Calls Tryz.prog 54 #[.slice a n cap, .int .i64 pj] wr fun e w' => e = .returned (.tuple #[.int .u64 y, .int .i64 k2, .bool true]) ∧ w' = wr) := S3.out
            obtain ⟨hy, k20, k21⟩ := got_range HZ.out HL.out hn hg
            obtain ⟨y0, y1⟩ := hy
            simp only at HDD
            have hfj : f + (j : Int) + 1 = f + ((j + 1 : Nat) : Int) := by omega
            by_cases hy0 : 0 < y
            · have HN : Hid ((pre ++ [(f + (j : Int), y)]).length = nm + 1 ∧ (∀ x ∈ pre ++ [(f + (j : Int), y)], fitB x ∧ 0 ≤ x.1 ∧ x.1 ≤ 100000) ∧ parDn zs c f p2 = (parDn zs (c - (j + 1)) (f + ((j + 1 : Nat) : Int)) k2).map fun r => ((pre ++ [(f + (j : Int), y)]) ++ r.1, r.2)) := by
                refine ⟨by rw [List.length_append, HP.out.1]; rfl, ?_, ?_⟩
                · intro x hx
                  rcases List.mem_append.1 hx with hx | hx
                  · exact HP.out.2.1 x hx
                  · simp only [List.mem_singleton] at hx
                    subst hx
                    exact ⟨⟨i64_fit (by simp only; omega) (by simp only; omega), wf_of_u64 ⟨y0, y1⟩⟩, by simp only; omega, by simp only; omega⟩
                · have := HDD.out
                  rw [hd2, this, hfj]
                  cases parDn zs d (f + ((j + 1 : Nat) : Int)) k2 with
                  | none => rfl
                  | some r => simp only [Option.map_some]; rw [if_pos hy0]; simp
              clear hg S3 HDD HP hfj
              go_wp2_with fail
              refine S4.out.mono ?_
              rintro e w3 ⟨rfl, rfl⟩
              clear S4
              go_wp2_with (at_builtin; refine wpList_append_bks _ rfl _ _ 23 rfl w2.heap.size i0 Tryz.underlying23 hi hz0 hz1 hz2 am nm cm pre rfl (HO.out.alloc _) ⟨w3.heap.size, 0, none⟩ 1 1 [(f + (j : Int), y)] rfl rfl (two_cells w3 (f + (j : Int), y) _) (by omega) (by have := HBW.out; simp; omega) ?_)
              intro a2 c2 w4 o2 b2
              have O2 := hide o2
              have K2 : Hid (Below w2.heap.size w2 w4) := (bel_al HB.out (Nat.le_refl _) _).trans b2
              clear o2 b2 HO HB
              go_wp2
              go_roundw
              case rel => exact ⟨a2, nm + 1, c2, j + 1, k2, _, rfl, rfl, by go_num, by omega, by omega, k20, k21, HN, O2, K2⟩
              case measure => simp [intOf]; omega
            · have HN : Hid (pre.length = nm ∧ (∀ x ∈ pre, fitB x ∧ 0 ≤ x.1 ∧ x.1 ≤ 100000) ∧ parDn zs c f p2 = (parDn zs (c - (j + 1)) (f + ((j + 1 : Nat) : Int)) k2).map fun r => (pre ++ r.1, r.2)) := by
                refine ⟨HP.out.1, HP.out.2.1, ?_⟩
                have := HDD.out
                rw [hd2, this, hfj]
                cases parDn zs d (f + ((j + 1 : Nat) : Int)) k2 with
                | none => rfl
                | some r => simp only [Option.map_some]; rw [if_neg hy0]
              clear hg S3 HDD HP hfj
              go_wp2_with fail
              refine S4.out.mono ?_
              rintro e w3 ⟨rfl, rfl⟩
              clear S4
              go_wp2
              go_roundw
              case rel => exact ⟨am, nm, cm, j + 1, k2, pre, rfl, rfl, by go_num, by omega, by omega, k20, k21, HN, HO, HB⟩
              case measure => simp [intOf]; omega
        · have : j = c := by omega
          subst this
          have HPD : Hid (parDn zs j f p2 = some (pre, pj)) := by
            have := HP.out.2.2
            rw [Nat.sub_self, parDn] at this
            show _ = _
            rw [this]
            simp
          have HN := hide (HSome.out pre pj HPD.out)
          have HF := hide HP.out.2.1
          have HPL := hide HP.out.1
          clear HP HPD HSome HNone
          by_cases hn0 : nm = 0
          · have hpre : pre = [] := List.length_eq_zero_iff.1 (by rw [HPL.out]; exact hn0)
            have HE : Hid (D = none) := by show _ = _; rw [HN.out, if_neg (by rw [hpre]; simp)]
            subst hn0
            clear hpre HN
            go_wp2
            go_ret3
            rw [HE.out]
            exact ⟨rfl, HB.out⟩
          have hn1 : 1 ≤ nm := by omega
          have hne : pre ≠ [] := by intro h; have := HPL.out; rw [h] at this; simp at this; omega
          have R := hide (HO.out.row (by omega) (fun x hx => (HF.out x hx).1))
          obtain ⟨bb, off, rfl, hcc⟩ := R.out.at' (j := 0) (by omega)
          rw [from_getD R.out.1 hn1, Nat.zero_mul, Nat.add_zero] at hcc
          have f1 := (hcc wr (Below.refl _ _)).1
          have z1 : ((nm : Int) == 0) = false := by simp; omega
          have i3 : (0 : Int) < (nm : Int) := by omega
          have SP := hide (hspan_any _ nm cm pre wr R.out hn1 (fun x hx => (HF.out x hx).2))
          clear hcc R
          by_cases hff : fromS pre = f
          · have d1 : (fromS pre != f) = false := by simpa using hff
            by_cases hsc : spanI pre = j
            · have d2 : (spanI pre != (j : Int)) = false := by simpa using hsc
              have HE : Hid (D = some (pre, pj)) := by show _ = _; rw [HN.out, if_pos ⟨hne, hff, hsc⟩]
              clear hff hsc hne HN
              generalize spanI pre = sx at *
              generalize fromS pre = fx at *
              go_wp2_with fail
              refine SP.out.mono ?_
              rintro e w4 ⟨rfl, q, rfl⟩
              have B4 := hide (bel_drewN HB.out q)
              have O4 : Hid (OwnB (wr.drewN q) w2.heap.size (some ⟨bb, off, none⟩) nm cm pre) := HO.out
              clear SP f1 HB HO
              generalize wr.drewN q = w4 at *
              go_wp2
              go_ret3
              rw [HE.out]
              refine ⟨⟨some ⟨bb, off, none⟩, cm, ?_, ?_, fun x hx => (HF.out x hx).1, by have := HPL.out; simp only; omega⟩, B4.out⟩
              · show _ = Ending.returned (.tuple #[.slice (some ⟨bb, off, none⟩) pre.length cm, .int .i64 pj, .bool true])
                rw [HPL.out]
                rfl
              · show OwnB w4 w2.heap.size (some ⟨bb, off, none⟩) pre.length cm pre
                rw [HPL.out]
                exact O4.out
            · have d2 : (spanI pre != (j : Int)) = true := by simpa using hsc
              have HE : Hid (D = none) := by show _ = _; rw [HN.out, if_neg (fun h => hsc h.2.2)]
              clear hff hsc hne HN
              generalize spanI pre = sx at *
              generalize fromS pre = fx at *
              go_wp2_with fail
              refine SP.out.mono ?_
              rintro e w4 ⟨rfl, q, rfl⟩
              have B4 := hide (bel_drewN HB.out q)
              clear SP f1 HB HO
              generalize wr.drewN q = w4 at *
              go_wp2
              go_ret3
              rw [HE.out]
              exact ⟨rfl, B4.out⟩
          · have d1 : (fromS pre != f) = true := by simpa using hff
            have HE : Hid (D = none) := by show _ = _; rw [HN.out, if_neg (fun h => hff h.2.1)]
            clear hff hne HN SP
            generalize fromS pre = fx at *
            go_wp2
            go_ret3
            rw [HE.out]
            exact ⟨rfl, HB.out⟩

set_option maxRecDepth 20000 in
set_option maxHeartbeats 8000000 in
theorem hget_any (p : Int) (a : Option Addr) (n cap : Nat) (zs : List Int) (w : World) (hp : (Lit.int .i64 p).wf = true) (hc : n ≤ cap) (hr : Row .u8 w a n zs) :
    Calls Tryz.prog 198 #[.slice a n cap, .int .i64 p] w fun e w' => GotL w.heap.size (dGet zs p) e w' ∧ Below w.heap.size w w' := by
  have G0 := hide (get_any p a n cap zs w hp hc hr)
  have SPA := hide (fun q (hq : (Lit.int .i64 q).wf = true) => getsparse_any q a n cap zs w hq hc hr)
  have DNA := hide (fun q (hq : (Lit.int .i64 q).wf = true) => getdense_any q a n cap zs w hq hc hr)
  have HZ : Hid (Bytes8 zs) := hr.bytes
  have HL := hide hr.1
  have hn := hr.2.1
  clear hr hp
  obtain ⟨D, hD⟩ : ∃ D, dGet zs p = D := ⟨_, rfl⟩
  have HD := hide hD
  rw [hD]
  clear hD
  cases hg : getS zs p with
  | none =>
    have HE : Hid (D = none) := by show _ = _; rw [← HD.out, dGet, hg]
    rw [hg] at G0
    have G1 : Hid (Calls Tryz.prog 54 #[.slice a n cap, .int .i64 p] w fun e w' => e = .returned (.tuple #[.int .u64 0, .int .i64 0, .bool false]) ∧ w' = w) := G0.out
    rw [HE.out]
    clear G0 hg
    go_enter Tryz.func198, Tryz.ntmps198
    go_wp2_with fail
    refine G1.out.mono ?_
    rintro e w1 ⟨rfl, rfl⟩
    go_wp2
    go_ret3
    exact ⟨rfl, Below.refl _ _⟩
  | some r =>
    obtain ⟨t, p1⟩ := r
    rw [hg] at G0
    have G1 : Hid (Calls Tryz.prog 54 #[.slice a n cap, .int .i64 p] w fun e w' => e = .returned (.tuple #[.int .u64 t, .int .i64 p1, .bool true]) ∧ w' = w) := G0.out
    obtain ⟨⟨t0, t1⟩, q0, q1⟩ := got_range HZ.out HL.out hn hg
    have HD1 := HD
    rw [dGet, hg] at HD1
    simp only at HD1
    clear G0 hg HD
    by_cases c0 : t = 0
    · subst c0
      rw [if_pos rfl] at HD1
      have S1 := hide (SPA.out p1 (i64_fit (by omega) (by omega)))
      clear SPA DNA
      cases hs : dSparse zs p1 with
      | none =>
        rw [hs] at S1 HD1
        have HE : Hid (D = none) := HD1.out.symm
        rw [HE.out]
        clear hs HD1
        go_enter Tryz.func198, Tryz.ntmps198
        go_wp2_with fail
        refine G1.out.mono ?_
        rintro e w1 ⟨rfl, rfl⟩
        go_wp2_with fail
        refine S1.out.mono ?_
        rintro e w2 ⟨he, b2⟩
        have he : e = .returned (.tuple #[.slice none 0 0, .int .i64 0, .bool false]) := he
        subst he
        have B2 := hide b2
        clear b2 S1
        go_wp2
        go_ret3
        exact ⟨rfl, B2.out⟩
      | some r =>
        obtain ⟨l, ed⟩ := r
        rw [hs] at S1 HD1
        simp only at HD1
        clear hs
        go_enter Tryz.func198, Tryz.ntmps198
        go_wp2_with fail
        refine G1.out.mono ?_
        rintro e w1 ⟨rfl, rfl⟩
        go_wp2_with fail
        refine S1.out.mono ?_
        rintro e w2 ⟨he, b2⟩
        obtain ⟨a2, c2, he, o2, hfit, hlen⟩ := he
        simp only at he o2 hfit hlen
        subst he
        have B2 := hide b2
        have O2 := hide o2
        have R2 := hide (o2.row (by omega) hfit)
        have HF := hide hfit
        have hcap2 := o2.capped.1
        have CK := hide (check_any a2 l.length c2 l w2 R2.out)
        have FO := hide (fun W (b : Below w2.heap.size w2 W) => hform_any a2 l.length c2 l W (R2.out.below b (Nat.le_refl _)) hcap2)
        have HOB := hide (fun W (b : Below w2.heap.size w2 W) => o2.below b (Nat.le_refl _))
        clear b2 o2 S1 hfit
        obtain ⟨nl, HNL⟩ : ∃ nl, Hid (l.length = nl) := ⟨_, rfl⟩
        rw [HNL.out] at CK FO HOB ⊢
        by_cases hck : checkS l = true
        · rw [hck] at CK
          by_cases hf : formS l = 0
          · rw [hf] at FO
            have HE : Hid (D = some (l, ed)) := by show _ = _; rw [← HD1.out, if_pos ⟨hck, hf⟩]
            clear hck hf HD1
            go_wp2_with fail
            refine CK.out.mono ?_
            rintro e w3 ⟨rfl, b3⟩
            have F3 := hide (FO.out w3 b3)
            have B3 := hide b3
            clear b3 CK FO
            go_wp2_with fail
            refine F3.out.mono ?_
            rintro e w4 ⟨rfl, b4⟩
            have B4 : Hid (Below w2.heap.size w2 w4) := B3.out.trans (b4.mono B3.out.size)
            clear b4 F3 B3
            go_wp2
            go_ret3
            rw [HE.out]
            refine ⟨⟨a2, c2, ?_, ?_, HF.out, hlen⟩, B2.out.trans (B4.out.mono B2.out.size)⟩
            · show _ = Ending.returned (.tuple #[.slice a2 l.length c2, .int .i64 ed, .bool true])
              rw [HNL.out]
              rfl
            · show OwnB w4 w1.heap.size a2 l.length c2 l
              rw [HNL.out]
              exact HOB.out w4 B4.out
          · have HE : Hid (D = none) := by show _ = _; rw [← HD1.out, if_neg (fun h => hf h.2)]
            have dd : (formS l != 0) = true := by simpa using hf
            clear hck hf HD1
            generalize formS l = fo at *
            go_wp2_with fail
            refine CK.out.mono ?_
            rintro e w3 ⟨rfl, b3⟩
            have F3 := hide (FO.out w3 b3)
            have B3 := hide b3
            clear b3 CK FO
            go_wp2_with fail
            refine F3.out.mono ?_
            rintro e w4 ⟨rfl, b4⟩
            have B4 : Hid (Below w2.heap.size w2 w4) := B3.out.trans (b4.mono B3.out.size)
            clear b4 F3 B3
            go_wp2
            go_ret3
            rw [HE.out]
            exact ⟨rfl, B2.out.trans (B4.out.mono B2.out.size)⟩
        · have hckf : checkS l = false := by simpa using hck
          rw [hckf] at CK
          have HE : Hid (D = none) := by show _ = _; rw [← HD1.out, if_neg (fun h => hck h.1)]
          clear hck hckf HD1 FO
          go_wp2_with fail
          refine CK.out.mono ?_
          rintro e w3 ⟨rfl, b3⟩
          have B3 := hide b3
          clear b3 CK
          go_wp2
          go_ret3
          rw [HE.out]
          exact ⟨rfl, B2.out.trans (B3.out.mono B2.out.size)⟩
    · rw [if_neg c0] at HD1
      have z0 : (t == 0) = false := by simpa using c0
      clear c0
      by_cases c1 : t = 1
      · subst c1
        rw [if_pos rfl] at HD1
        have S1 := hide (DNA.out p1 (i64_fit (by omega) (by omega)))
        clear SPA DNA
        cases hs : dDense zs p1 with
        | none =>
          rw [hs] at S1 HD1
          have HE : Hid (D = none) := HD1.out.symm
          rw [HE.out]
          clear hs HD1
          go_enter Tryz.func198, Tryz.ntmps198
          go_wp2_with fail
          refine G1.out.mono ?_
          rintro e w1 ⟨rfl, rfl⟩
          go_wp2_with fail
          refine S1.out.mono ?_
          rintro e w2 ⟨he, b2⟩
          have he : e = .returned (.tuple #[.slice none 0 0, .int .i64 0, .bool false]) := he
          subst he
          have B2 := hide b2
          clear b2 S1
          go_wp2
          go_ret3
          exact ⟨rfl, B2.out⟩
        | some r =>
          obtain ⟨l, ed⟩ := r
          rw [hs] at S1 HD1
          simp only at HD1
          clear hs
          go_enter Tryz.func198, Tryz.ntmps198
          go_wp2_with fail
          refine G1.out.mono ?_
          rintro e w1 ⟨rfl, rfl⟩
          go_wp2_with fail
          refine S1.out.mono ?_
          rintro e w2 ⟨he, b2⟩
          obtain ⟨a2, c2, he, o2, hfit, hlen⟩ := he
          simp only at he o2 hfit hlen
          subst he
          have B2 := hide b2
          have O2 := hide o2
          have R2 := hide (o2.row (by omega) hfit)
          have HF := hide hfit
          have hcap2 := o2.capped.1
          have CK := hide (check_any a2 l.length c2 l w2 R2.out)
          have FO := hide (fun W (b : Below w2.heap.size w2 W) => hform_any a2 l.length c2 l W (R2.out.below b (Nat.le_refl _)) hcap2)
          have HOB := hide (fun W (b : Below w2.heap.size w2 W) => o2.below b (Nat.le_refl _))
          clear b2 o2 S1 hfit
          obtain ⟨nl, HNL⟩ : ∃ nl, Hid (l.length = nl) := ⟨_, rfl⟩
          rw [HNL.out] at CK FO HOB ⊢
          by_cases hck : checkS l = true
          · rw [hck] at CK
            by_cases hf : formS l = 1
            · rw [hf] at FO
              have HE : Hid (D = some (l, ed)) := by show _ = _; rw [← HD1.out, if_pos ⟨hck, hf⟩]
              clear hck hf HD1
              go_wp2_with fail
              refine CK.out.mono ?_
              rintro e w3 ⟨rfl, b3⟩
              have F3 := hide (FO.out w3 b3)
              have B3 := hide b3
              clear b3 CK FO
              go_wp2_with fail
              refine F3.out.mono ?_
              rintro e w4 ⟨rfl, b4⟩
              have B4 : Hid (Below w2.heap.size w2 w4) := B3.out.trans (b4.mono B3.out.size)
              clear b4 F3 B3
              go_wp2
              go_ret3
              rw [HE.out]
              refine ⟨⟨a2, c2, ?_, ?_, HF.out, hlen⟩, B2.out.trans (B4.out.mono B2.out.size)⟩
              · show _ = Ending.returned (.tuple #[.slice a2 l.length c2, .int .i64 ed, .bool true])
                rw [HNL.out]
                rfl
              · show OwnB w4 w1.heap.size a2 l.length c2 l
                rw [HNL.out]
                exact HOB.out w4 B4.out
            · have HE : Hid (D = none) := by show _ = _; rw [← HD1.out, if_neg (fun h => hf h.2)]
              have dd : (formS l != 1) = true := by simpa using hf
              clear hck hf HD1
              generalize formS l = fo at *
              go_wp2_with fail
              refine CK.out.mono ?_
              rintro e w3 ⟨rfl, b3⟩
              have F3 := hide (FO.out w3 b3)
              have B3 := hide b3
              clear b3 CK FO
              go_wp2_with fail
              refine F3.out.mono ?_
              rintro e w4 ⟨rfl, b4⟩
              have B4 : Hid (Below w2.heap.size w2 w4) := B3.out.trans (b4.mono B3.out.size)
              clear b4 F3 B3
              go_wp2
              go_ret3
              rw [HE.out]
              exact ⟨rfl, B2.out.trans (B4.out.mono B2.out.size)⟩
          · have hckf : checkS l = false := by simpa using hck
            rw [hckf] at CK
            have HE : Hid (D = none) := by show _ = _; rw [← HD1.out, if_neg (fun h => hck h.1)]
            clear hck hckf HD1 FO
            go_wp2_with fail
            refine CK.out.mono ?_
            rintro e w3 ⟨rfl, b3⟩
            have B3 := hide b3
            clear b3 CK
            go_wp2
            go_ret3
            rw [HE.out]
            exact ⟨rfl, B2.out.trans (B3.out.mono B2.out.size)⟩
      · rw [if_neg c1] at HD1
        have z1 : (t == 1) = false := by simpa using c1
        have HE : Hid (D = none) := HD1.out.symm
        rw [HE.out]
        clear c1 HD1 SPA DNA
        go_enter Tryz.func198, Tryz.ntmps198
        go_wp2_with fail
        refine G1.out.mono ?_
        rintro e w1 ⟨rfl, rfl⟩
        go_wp2
        go_ret3
        exact ⟨rfl, Below.refl _ _⟩
section
variable {P : Program} {ops : Array Oper} {Q : Exit → Act → World → Prop} {md : Region.Mode} {S : World → Prop}
end

theorem up_rises {p : Int} {l : List Int} (h : Up l) (hp : ∀ x ∈ l, p < x) : Rises p l := by
  induction l generalizing p with
  | nil => trivial
  | cons x t ih =>
    have h1 := List.pairwise_cons.1 h
    exact ⟨hp x (List.mem_cons_self ..), ih h1.2 h1.1⟩
theorem riseS_most {l : List Int} {most : Int} (hl : l.length ≤ 9223372036854775807) (hm : (l.length : Int) ≤ most) (hr : Rises (-1) l) (hw : ∀ x ∈ l, W64 x) (xs ys : List Int) :
    riseS (xs ++ (putR l ++ ys)) xs.length most = some (l, ((xs.length + (putR l).length : Nat) : Int)) := by
  have hg := getS_at (w64_len hl) xs (riseB 18446744073709551615 l ++ ys)
  have hb := (riseB_len 18446744073709551615 l).1
  unfold riseS sizeS putR
  rw [List.append_assoc, hg]
  simp only [List.length_append]
  rw [if_neg (by omega)]
  simp only [Int.toNat_natCast]
  have hi := riseG_at l (-1) (by omega) hr hw (xs ++ putS (l.length : Int)) ys
  rw [riseB_top, List.append_assoc, List.length_append] at hi
  rw [hi]
  simp only [Option.some.injEq, Prod.mk.injEq, true_and]
  omega
theorem kput_any (a : Option Addr) (n cap : Nat) (zs : List Int) (b : Option Addr) (m capb : Nat) (ls : List Int) (w : World) (hn : n + 10 * m ≤ 211106232532960) (hc : n ≤ cap) (hr : Row .u8 w a n zs) (hl : Row .u64 w b m ls) :
    Calls Tryz.prog 188 #[.slice a n cap, .slice b m capb] w fun e w' => ∃ a' cap', e = .returned (.slice a' (n + (putR ls).length) cap') ∧ Mine w' w.heap.size a' (n + (putR ls).length) cap' (zs ++ putR ls) ∧ Below w.heap.size w w' := by
  have C := hide (putrise_any a n cap zs b m capb ls w hn hc hr hl)
  generalize (putR ls).length = L at *
  clear hr hl
  go_enter Tryz.func188, Tryz.ntmps188
  go_wp2_with fail
  refine C.out.mono ?_
  rintro e w1 ⟨a1, c1, rfl, o1, b1⟩
  have O1 := hide o1
  have B1 := hide b1
  clear o1 b1 C
  go_wp2
  go_ret
  exact ⟨a1, c1, rfl, O1.out, B1.out⟩
theorem kget_any (at' : Int) (a : Option Addr) (n cap : Nat) (zs : List Int) (w : World) (ha : (Lit.int .i64 at').wf = true) (hc : n ≤ cap) (hr : Row .u8 w a n zs) :
    Calls Tryz.prog 199 #[.slice a n cap, .int .i64 at'] w fun e w' => RiseP (riseS zs at' 1024) w.heap.size w' e ∧ Below w.heap.size w w' := by
  have C := hide (getrise_any at' 1024 a n cap zs w ha (by decide) hc hr (Or.inl (by decide)))
  clear hr ha
  cases hg : riseS zs at' 1024 with
  | none =>
    rw [hg] at C
    simp only [RiseP] at C ⊢
    clear hg
    go_enter Tryz.func199, Tryz.ntmps199
    go_wp2_with fail
    refine C.out.mono ?_
    rintro e w1 ⟨rfl, b1⟩
    have B1 := hide b1
    clear b1 C
    go_wp2
    refine bodyPost_ret (results_tmp3 rfl _ _ _) rfl ?_
    exact ⟨rfl, B1.out⟩
  | some q =>
    obtain ⟨l, nx⟩ := q
    rw [hg] at C
    simp only [RiseP] at C ⊢
    clear hg
    generalize l.length = ll at *
    go_enter Tryz.func199, Tryz.ntmps199
    go_wp2_with fail
    refine C.out.mono ?_
    rintro e w1 ⟨⟨a1, c1, rfl, o1⟩, b1⟩
    have B1 := hide b1
    have O1 := hide o1
    clear b1 o1 C
    go_wp2
    refine bodyPost_ret (results_tmp3 rfl _ _ _) rfl ?_
    exact ⟨⟨a1, c1, rfl, O1.out⟩, B1.out⟩
end Go.Proofs.YtknghoecjobkiaaGreatDoor
