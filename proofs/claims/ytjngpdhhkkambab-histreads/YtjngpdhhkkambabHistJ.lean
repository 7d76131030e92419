/-
  The two forms' sizes, which of them is put, by their sizes alone; a reader that takes a list by its form: it reads just what was put, so it is the document's reader. Plain lists of whole numbers.
  Conditions: bytes are bytes.
-/
import Derived.Test.YtjngpdhhkkambabHistG
namespace Go.Proofs.Ytjngpdhhkkambab

/-- How many bytes the places take in the sparse form. -/
def gapsS : Int → Bks → Nat
  | _, [] => 0
  | last, (k, _) :: t => (putS (k - last - 1)).length + gapsS k t
/-- How many bytes the counts take. -/
def cntsS : Bks → Nat
  | [] => 0
  | (_, c) :: t => (putS c).length + cntsS t
theorem sparB_size (last : Int) (l : Bks) : (sparB last l).length = gapsS last l + cntsS l := by
  induction l generalizing last with
  | nil => rfl
  | cons x t ih =>
    obtain ⟨k, c⟩ := x
    rw [sparB, List.length_append, List.length_append, ih, gapsS, cntsS]
    omega
theorem densB_size {n : Nat} {k : Int} {l : Bks} (hl : checkF (k - 1) l = true) (hb : lastD (k - 1) l < k + n) : (densB k n l).length + l.length = n + cntsS l := by
  induction n generalizing k l with
  | zero =>
    cases l with
    | nil => rfl
    | cons x t =>
      obtain ⟨j, c⟩ := x
      have h1 := checkF_cons.1 hl
      have h2 := (checkF_lastD h1.2.2.2).1
      rw [lastD] at hb
      omega
  | succ n ih =>
    cases l with
    | nil =>
      have := ih (k := k + 1) (l := []) rfl (by simp only [lastD]; omega)
      simp only [densB, List.length_cons, List.length_nil, cntsS] at *
      omega
    | cons x t =>
      obtain ⟨j, c⟩ := x
      have h1 := checkF_cons.1 hl
      rw [lastD] at hb
      by_cases e : j = k
      · subst e
        have := ih (k := j + 1) (l := t) (by rw [show j + 1 - 1 = j by omega]; exact h1.2.2.2) (by rw [show j + 1 - 1 = j by omega]; omega)
        rw [densB_here, List.length_append, List.length_cons, cntsS]
        omega
      · have := ih (k := k + 1) (l := (j, c) :: t) (by rw [show k + 1 - 1 = k by omega]; exact checkF_last hl (by omega)) (by rw [lastD]; omega)
        rw [densB_skip (by omega), List.length_cons]
        omega

/-- Which form is put: 1, if the dense one is shorter. -/
def formS (l : Bks) : Int :=
  if l = [] ∨ checkS l = false then 0
  else if ((putS (spanS l)).length : Int) + spanS l - l.length < (putS (l.length : Int)).length + gapsS (fromS l) l.tail then 1 else 0
theorem form_less {l : Bks} (hl : Good l) (h : l ≠ []) :
    (denseS l).length < (sparseS l).length ↔ ((putS (spanS l)).length : Int) + spanS l - l.length < (putS (l.length : Int)).length + gapsS (fromS l) l.tail := by
  obtain ⟨a1, a2, a3, a4, a5, a6, a7⟩ := span_facts hl h
  have h1 := densB_size (n := spanS l) (k := fromS l) a6 (by omega)
  have h2 := sparB_size (-1) l
  have h3 : gapsS (-1) l = (putS (fromS l)).length + gapsS (fromS l) l.tail := by
    cases l with
    | nil => exact absurd rfl h
    | cons x t =>
      obtain ⟨k, c⟩ := x
      rw [gapsS, show k - -1 - 1 = k by omega]
      rfl
  simp only [denseS, sparseS, List.length_cons, List.length_append]
  omega
theorem form_put {l : Bks} (hl : Good l) : (formS l = 1 ∧ l ≠ [] ∧ putH l = denseS l) ∨ (formS l = 0 ∧ putH l = sparseS l) := by
  by_cases h : l = []
  · subst h
    exact Or.inr ⟨rfl, rfl⟩
  · unfold formS
    rw [if_neg (by rw [hl.check]; simp [h])]
    by_cases hc : (denseS l).length < (sparseS l).length
    · left
      rw [if_pos ((form_less hl h).1 hc)]
      refine ⟨rfl, h, ?_⟩
      unfold putH
      rw [if_pos ⟨h, hc⟩]
    · right
      rw [if_neg (fun x => hc ((form_less hl h).2 x))]
      refine ⟨rfl, ?_⟩
      unfold putH
      rw [if_neg (fun x => hc x.2)]

/-- A number that is no more than there are buckets. -/
def szS (zs : List Int) (p : Int) : Option (Int × Int) :=
  match getS zs p with
  | none => none
  | some (v, q) => if v ≤ 7424 then some (v, q) else none
/-- c buckets of the sparse form, behind bucket 'last', from place p on. -/
def dSp (zs : List Int) : Nat → Int → Int → Option (Bks × Int)
  | 0, _, p => some ([], p)
  | c + 1, last, p => match szS zs p with
    | none => none
    | some (d, p1) => match getS zs p1 with
      | none => none
      | some (y, p2) => (dSp zs c (last + d + 1) p2).map fun r => ((last + d + 1, y) :: r.1, r.2)
def dSparse (zs : List Int) (p : Int) : Option (Bks × Int) :=
  match szS zs p with
  | none => none
  | some (c, p1) => dSp zs c.toNat (-1) p1
def spanI (l : Bks) : Int := lastD (-1) l - fromS l + 1
def dDense (zs : List Int) (p : Int) : Option (Bks × Int) :=
  match szS zs p with
  | none => none
  | some (f, p1) => match szS zs p1 with
    | none => none
    | some (c, p2) => match parDn zs c.toNat f p2 with
      | none => none
      | some (l, e) => if l ≠ [] ∧ fromS l = f ∧ spanI l = c then some (l, e) else none
/-- A list by its form. -/
def dGet (zs : List Int) (p : Int) : Option (Bks × Int) :=
  match getS zs p with
  | none => none
  | some (t, p1) =>
    match (if t = 0 then dSparse zs p1 else if t = 1 then dDense zs p1 else none) with
    | none => none
    | some (l, e) => if checkS l = true ∧ formS l = t then some (l, e) else none

theorem szS_some {zs : List Int} {p v q : Int} (h : szS zs p = some (v, q)) : getS zs p = some (v, q) ∧ v ≤ 7424 := by
  unfold szS at h
  cases hg : getS zs p with
  | none => rw [hg] at h; simp at h
  | some r =>
    rw [hg] at h
    obtain ⟨v', q'⟩ := r
    simp only at h
    split at h
    · simp only [Option.some.injEq, Prod.mk.injEq] at h
      obtain ⟨rfl, rfl⟩ := h
      exact ⟨rfl, by assumption⟩
    · simp at h
theorem szS_at {v : Int} (h0 : 0 ≤ v) (h1 : v ≤ 7424) (xs ys : List Int) : szS (xs ++ (putS v ++ ys)) xs.length = some (v, ((xs.length + (putS v).length : Nat) : Int)) := by
  unfold szS
  rw [getS_at (w64_small h0 h1)]
  simp only
  rw [if_pos h1]

theorem drop_parts {zs a t : List Int} {k : Nat} (h : zs.drop k = a ++ t) : zs.drop (k + a.length) = t := by
  rw [← List.drop_drop, h, List.drop_left]

theorem dSp_some {zs : List Int} (hz : Bytes8 zs) {c : Nat} {last : Int} {k : Nat} (hk : k ≤ zs.length) {l : Bks} {e : Int} (h : dSp zs c last k = some (l, e)) :
    l.length = c ∧ WordsB l ∧ e = ((k + (sparB last l).length : Nat) : Int) ∧ k + (sparB last l).length ≤ zs.length ∧ ∃ t, zs.drop k = sparB last l ++ t := by
  induction c generalizing last k l e with
  | zero =>
    simp only [dSp, Option.some.injEq, Prod.mk.injEq] at h
    obtain ⟨rfl, rfl⟩ := h
    exact ⟨rfl, (fun x hx => by cases hx), by simp [sparB], by simpa [sparB] using hk, _, rfl⟩
  | succ c ih =>
    rw [dSp] at h
    cases hs : szS zs k with
    | none => rw [hs] at h; simp at h
    | some r =>
      rw [hs] at h
      obtain ⟨d, p1⟩ := r
      simp only at h
      obtain ⟨w1, k1, e1, l1, rfl, n1, t1, q1⟩ := getS_some hz (szS_some hs).1
      obtain rfl : k1 = k := by omega
      cases hg : getS zs ((k1 + (putS d).length : Nat) : Int) with
      | none => rw [hg] at h; simp at h
      | some r =>
        rw [hg] at h
        obtain ⟨y, p2⟩ := r
        simp only at h
        obtain ⟨w2, k2, e2, l2, rfl, n2, t2, q2⟩ := getS_some hz hg
        obtain rfl : k2 = k1 + (putS d).length := by omega
        cases hr : dSp zs c (last + d + 1) ((k1 + (putS d).length + (putS y).length : Nat) : Int) with
        | none => rw [hr] at h; simp at h
        | some r =>
          rw [hr] at h
          obtain ⟨m, e'⟩ := r
          simp only [Option.map_some, Option.some.injEq, Prod.mk.injEq] at h
          obtain ⟨rfl, rfl⟩ := h
          obtain ⟨a1, a2, a3, a4, t3, q3⟩ := ih (k := k1 + (putS d).length + (putS y).length) n2 hr
          have d1 := drop_parts q1
          rw [q2] at d1
          have d2 := drop_parts q2
          rw [q3] at d2
          have e3 : sparB last ((last + d + 1, y) :: m) = putS d ++ (putS y ++ sparB (last + d + 1) m) := by rw [sparB, show last + d + 1 - last - 1 = d by omega]
          rw [e3]
          refine ⟨by simp only [List.length_cons]; omega, ?_, ?_, ?_, t3, ?_⟩
          · intro x hx
            rcases List.mem_cons.1 hx with rfl | hx
            · exact w2
            · exact a2 x hx
          · rw [a3]; simp only [List.length_append]; omega
          · simp only [List.length_append]; omega
          · rw [q1, ← d1, ← d2]; simp
theorem parDn_some {zs : List Int} (hz : Bytes8 zs) {c : Nat} {f : Int} {k : Nat} (hk : k ≤ zs.length) {l : Bks} {e : Int} (h : parDn zs c f k = some (l, e)) :
    WordsB l ∧ (∀ x ∈ l, f ≤ x.1 ∧ x.1 < f + c) ∧ e = ((k + (densB f c l).length : Nat) : Int) ∧ k + (densB f c l).length ≤ zs.length ∧ ∃ t, zs.drop k = densB f c l ++ t := by
  induction c generalizing f k l e with
  | zero =>
    simp only [parDn, Option.some.injEq, Prod.mk.injEq] at h
    obtain ⟨rfl, rfl⟩ := h
    exact ⟨(fun x hx => by cases hx), (fun x hx => by cases hx), by simp [densB], by simpa [densB] using hk, _, rfl⟩
  | succ c ih =>
    rw [parDn] at h
    cases hg : getS zs k with
    | none => rw [hg] at h; simp at h
    | some r =>
      rw [hg] at h
      obtain ⟨y, p1⟩ := r
      simp only at h
      obtain ⟨w1, k1, e1, l1, rfl, n1, t1, q1⟩ := getS_some hz hg
      obtain rfl : k1 = k := by omega
      cases hr : parDn zs c (f + 1) ((k1 + (putS y).length : Nat) : Int) with
      | none => rw [hr] at h; simp at h
      | some r =>
        rw [hr] at h
        obtain ⟨m, e'⟩ := r
        simp only [Option.map_some, Option.some.injEq, Prod.mk.injEq] at h
        obtain ⟨h, rfl⟩ := h
        obtain ⟨a1, a2, a3, a4, t3, q3⟩ := ih (k := k1 + (putS y).length) n1 hr
        have d1 := drop_parts q1
        rw [q3] at d1
        have e3 : densB f (c + 1) l = putS y ++ densB (f + 1) c m := by
          rw [← h]
          by_cases hy : 0 < y
          · rw [if_pos hy, densB_here]
          · obtain rfl : y = 0 := by have := w1.1; omega
            rw [if_neg hy, putS_zero]
            cases m with
            | nil => rfl
            | cons x t =>
              obtain ⟨j, c'⟩ := x
              have := a2 _ (List.mem_cons_self ..)
              simp only at this
              rw [densB_skip (by omega)]
              rfl
        rw [e3]
        refine ⟨?_, ?_, by rw [a3]; simp only [List.length_append]; omega, by simp only [List.length_append]; omega, t3, by rw [q1, ← d1]; simp⟩
        · rw [← h]
          split
          · intro x hx
            rcases List.mem_cons.1 hx with rfl | hx
            · exact w1
            · exact a1 x hx
          · exact a1
        · rw [← h]
          intro x hx
          have : x = (f, y) ∨ x ∈ m := by
            split at hx
            · exact List.mem_cons.1 hx
            · exact Or.inr hx
          rcases this with rfl | hx
          · simp only; omega
          · have := a2 x hx; omega

/-- What the reader takes lies there as it is put. -/
def Lies (zs : List Int) (p : Int) (l : Bks) (e : Int) : Prop := Good l ∧ ∃ k : Nat, p = k ∧ k ≤ zs.length ∧ e = ((k + (putH l).length : Nat) : Int) ∧ ∃ t, zs.drop k = putH l ++ t
theorem Lies.parts {zs : List Int} {p e : Int} {l : Bks} (h : Lies zs p l e) : ∃ xs ys : List Int, zs = xs ++ (putH l ++ ys) ∧ p = xs.length ∧ e = ((xs.length + (putH l).length : Nat) : Int) := by
  obtain ⟨-, k, rfl, hk, rfl, t, ht⟩ := h
  refine ⟨zs.take k, t, ?_, ?_, ?_⟩
  · rw [← ht, List.take_append_drop]
  · rw [List.length_take]; omega
  · rw [List.length_take, Nat.min_eq_left hk]
theorem dGet_lies {zs : List Int} (hz : Bytes8 zs) {p e : Int} {l : Bks} (h : dGet zs p = some (l, e)) : Lies zs p l e := by
  unfold dGet at h
  cases hg : getS zs p with
  | none => rw [hg] at h; simp at h
  | some r =>
    rw [hg] at h
    obtain ⟨t, p1⟩ := r
    simp only at h
    obtain ⟨w1, k, rfl, l1, rfl, n1, t1, q1⟩ := getS_some hz hg
    have d1 := drop_parts q1
    by_cases c0 : t = 0
    · subst c0
      rw [if_pos rfl] at h
      cases hs : dSparse zs ((k + (putS 0).length : Nat) : Int) with
      | none => rw [hs] at h; simp at h
      | some r =>
        rw [hs] at h
        obtain ⟨l', e'⟩ := r
        simp only at h
        split at h
        · rename_i hc
          simp only [Option.some.injEq, Prod.mk.injEq] at h
          obtain ⟨rfl, rfl⟩ := h
          unfold dSparse at hs
          cases hq : szS zs ((k + (putS 0).length : Nat) : Int) with
          | none => rw [hq] at hs; simp at hs
          | some r =>
            rw [hq] at hs
            obtain ⟨c, p2⟩ := r
            simp only at hs
            obtain ⟨w2, k2, e2, l2, rfl, n2, t2, q2⟩ := getS_some hz (szS_some hq).1
            obtain rfl : k2 = k + (putS 0).length := by omega
            obtain ⟨a1, a2, a3, a4, t3, q3⟩ := dSp_some hz n2 hs
            have d2 := drop_parts q2
            rw [q2] at d1
            rw [q3] at d2
            have G : Good l' := ⟨hc.1, a2⟩
            have e4 : (l'.length : Int) = c := by rw [a1]; have := w2.1; omega
            have e5 : putH l' = putS 0 ++ (putS c ++ sparB (-1) l') := by
              rcases form_put G with ⟨f1, _, _⟩ | ⟨_, f2⟩
              · omega
              · rw [f2, sparseS, e4, putS_zero]; rfl
            refine ⟨G, k, rfl, by omega, ?_, t3, ?_⟩
            · rw [a3, e5]; simp only [List.length_append]; omega
            · rw [q1, ← d1, ← d2, e5]; simp
        · simp at h
    · rw [if_neg c0] at h
      by_cases c1 : t = 1
      · subst c1
        rw [if_pos rfl] at h
        cases hs : dDense zs ((k + (putS 1).length : Nat) : Int) with
        | none => rw [hs] at h; simp at h
        | some r =>
          rw [hs] at h
          obtain ⟨l', e'⟩ := r
          simp only at h
          split at h
          · rename_i hc
            simp only [Option.some.injEq, Prod.mk.injEq] at h
            obtain ⟨rfl, rfl⟩ := h
            unfold dDense at hs
            cases hq : szS zs ((k + (putS 1).length : Nat) : Int) with
            | none => rw [hq] at hs; simp at hs
            | some r =>
              rw [hq] at hs
              obtain ⟨f, p2⟩ := r
              simp only at hs
              obtain ⟨w2, k2, e2, l2, rfl, n2, t2, q2⟩ := getS_some hz (szS_some hq).1
              obtain rfl : k2 = k + (putS 1).length := by omega
              cases hq3 : szS zs ((k + (putS 1).length + (putS f).length : Nat) : Int) with
              | none => rw [hq3] at hs; simp at hs
              | some r =>
                rw [hq3] at hs
                obtain ⟨c, p3⟩ := r
                simp only at hs
                obtain ⟨w3, k3, e3, l3, rfl, n3, t3, q3⟩ := getS_some hz (szS_some hq3).1
                obtain rfl : k3 = k + (putS 1).length + (putS f).length := by omega
                cases hp : parDn zs c.toNat f ((k + (putS 1).length + (putS f).length + (putS c).length : Nat) : Int) with
                | none => rw [hp] at hs; simp at hs
                | some r =>
                  rw [hp] at hs
                  obtain ⟨m, e'⟩ := r
                  simp only at hs
                  split at hs
                  · rename_i hd
                    simp only [Option.some.injEq, Prod.mk.injEq] at hs
                    obtain ⟨rfl, rfl⟩ := hs
                    obtain ⟨a2, a0, a3, a4, t4, q4⟩ := parDn_some hz n3 hp
                    have d2 := drop_parts q2
                    have d3 := drop_parts q3
                    rw [q2] at d1
                    rw [q3] at d2
                    rw [q4] at d3
                    have G : Good m := ⟨hc.1, a2⟩
                    have e4 : spanS m = c.toNat := by
                      have := hd.2.2
                      unfold spanS
                      rw [← this, spanI]
                    have e6 : (spanS m : Int) = c := by rw [e4]; have := w3.1; omega
                    have e5 : putH m = putS 1 ++ (putS f ++ (putS c ++ densB f c.toNat m)) := by
                      rcases form_put G with ⟨_, _, f2⟩ | ⟨f1, _⟩
                      · rw [f2, denseS, e6, e4, hd.2.1, putS_unit]; rfl
                      · omega
                    refine ⟨G, k, rfl, by omega, ?_, t4, ?_⟩
                    · rw [a3, e5]; simp only [List.length_append]; omega
                    · rw [q1, ← d1, ← d2, ← d3, e5]; simp
                  · simp at hs
          · simp at h
      · rw [if_neg c1] at h
        simp at h

theorem dSp_at {last : Int} (h0 : -1 ≤ last) {l : Bks} (hl : checkF last l = true) (hw : WordsB l) (xs ys : List Int) :
    dSp (xs ++ (sparB last l ++ ys)) l.length last xs.length = some (l, ((xs.length + (sparB last l).length : Nat) : Int)) := by
  induction l generalizing last xs with
  | nil => simp [dSp, sparB]
  | cons x t ih =>
    obtain ⟨k, c⟩ := x
    have h := checkF_cons.1 hl
    have hc := hw _ (List.mem_cons_self ..)
    have e1 := szS_at (v := k - last - 1) (by omega) (by omega) xs (putS c ++ sparB k t ++ ys)
    have e2 := getS_at (v := c) hc (xs ++ putS (k - last - 1)) (sparB k t ++ ys)
    have e3 := ih (last := k) (by omega) h.2.2.2 (fun z hz => hw z (List.mem_cons_of_mem _ hz)) (xs ++ putS (k - last - 1) ++ putS c)
    have s1 : xs ++ (sparB last ((k, c) :: t) ++ ys) = xs ++ (putS (k - last - 1) ++ (putS c ++ sparB k t ++ ys)) := by rw [sparB]; simp
    have s2 : xs ++ (sparB last ((k, c) :: t) ++ ys) = xs ++ putS (k - last - 1) ++ (putS c ++ (sparB k t ++ ys)) := by rw [sparB]; simp
    have s3 : xs ++ (sparB last ((k, c) :: t) ++ ys) = xs ++ putS (k - last - 1) ++ putS c ++ (sparB k t ++ ys) := by rw [sparB]; simp
    rw [← s1] at e1
    rw [← s2] at e2
    rw [← s3] at e3
    rw [List.length_append] at e2
    rw [List.length_append, List.length_append] at e3
    rw [List.length_cons, dSp, e1]
    simp only
    rw [e2]
    simp only
    rw [show last + (k - last - 1) + 1 = k by omega, e3]
    simp only [Option.map_some, Option.some.injEq, Prod.mk.injEq, true_and]
    rw [sparB, List.length_append, List.length_append]
    omega
theorem dGet_at {l : Bks} (hl : Good l) (xs ys : List Int) : dGet (xs ++ (putH l ++ ys)) xs.length = some (l, ((xs.length + (putH l).length : Nat) : Int)) := by
  have hn := good_len hl
  rcases form_put hl with ⟨f1, hne, f2⟩ | ⟨f1, f2⟩
  · rw [f2]
    obtain ⟨a1, a2, a3, a4, a5, a6, a7⟩ := span_facts hl hne
    have e0 := getS_at (v := 1) (w64_small (by omega) (by omega)) xs (putS (fromS l) ++ (putS (spanS l : Int) ++ densB (fromS l) (spanS l) l) ++ ys)
    have e1 := szS_at (v := fromS l) (by omega) (by omega) (xs ++ putS 1) (putS (spanS l : Int) ++ densB (fromS l) (spanS l) l ++ ys)
    have e2 := szS_at (v := (spanS l : Int)) (by omega) (by omega) (xs ++ putS 1 ++ putS (fromS l)) (densB (fromS l) (spanS l) l ++ ys)
    have e3 := parDn_at (n := spanS l) (k := fromS l) a6 hl.words (by omega) (xs ++ putS 1 ++ putS (fromS l) ++ putS (spanS l : Int)) ys
    have s0 : xs ++ (denseS l ++ ys) = xs ++ (putS 1 ++ (putS (fromS l) ++ (putS (spanS l : Int) ++ densB (fromS l) (spanS l) l) ++ ys)) := by rw [denseS, putS_unit]; simp
    have s1 : xs ++ (denseS l ++ ys) = xs ++ putS 1 ++ (putS (fromS l) ++ (putS (spanS l : Int) ++ densB (fromS l) (spanS l) l ++ ys)) := by rw [denseS, putS_unit]; simp
    have s2 : xs ++ (denseS l ++ ys) = xs ++ putS 1 ++ putS (fromS l) ++ (putS (spanS l : Int) ++ (densB (fromS l) (spanS l) l ++ ys)) := by rw [denseS, putS_unit]; simp
    have s3 : xs ++ (denseS l ++ ys) = xs ++ putS 1 ++ putS (fromS l) ++ putS (spanS l : Int) ++ (densB (fromS l) (spanS l) l ++ ys) := by rw [denseS, putS_unit]; simp
    rw [← s0] at e0
    rw [← s1] at e1
    rw [← s2] at e2
    rw [← s3] at e3
    simp only [List.length_append] at e1 e2 e3
    unfold dGet
    rw [e0]
    simp only
    rw [if_neg (by decide), if_pos trivial]
    unfold dDense
    rw [e1]
    simp only
    rw [e2]
    simp only
    rw [Int.toNat_natCast, e3]
    simp only
    rw [if_pos ⟨hne, trivial, by unfold spanI; omega⟩]
    simp only
    rw [if_pos ⟨hl.check, f1⟩]
    simp only [Option.some.injEq, Prod.mk.injEq, true_and]
    rw [denseS, List.length_cons, List.length_append, List.length_append, putS_unit]
    simp only [List.length_cons, List.length_nil]
    omega
  · rw [f2]
    have e0 := getS_at (v := 0) (w64_small (by omega) (by omega)) xs (putS (l.length : Int) ++ sparB (-1) l ++ ys)
    have e1 := szS_at (v := (l.length : Int)) (by omega) (by omega) (xs ++ putS 0) (sparB (-1) l ++ ys)
    have e2 := dSp_at (Int.le_refl _) hl.check hl.words (xs ++ putS 0 ++ putS (l.length : Int)) ys
    have s0 : xs ++ (sparseS l ++ ys) = xs ++ (putS 0 ++ (putS (l.length : Int) ++ sparB (-1) l ++ ys)) := by rw [sparseS, putS_zero]; simp
    have s1 : xs ++ (sparseS l ++ ys) = xs ++ putS 0 ++ (putS (l.length : Int) ++ (sparB (-1) l ++ ys)) := by rw [sparseS, putS_zero]; simp
    have s2 : xs ++ (sparseS l ++ ys) = xs ++ putS 0 ++ putS (l.length : Int) ++ (sparB (-1) l ++ ys) := by rw [sparseS, putS_zero]; simp
    rw [← s0] at e0
    rw [← s1] at e1
    rw [← s2] at e2
    simp only [List.length_append] at e1 e2
    unfold dGet
    rw [e0]
    simp only
    rw [if_pos trivial]
    unfold dSparse
    rw [e1]
    simp only
    rw [Int.toNat_natCast, e2]
    simp only
    rw [if_pos ⟨hl.check, f1⟩]
    simp only [Option.some.injEq, Prod.mk.injEq, true_and]
    rw [sparseS, List.length_cons, List.length_append, putS_zero]
    simp only [List.length_cons, List.length_nil]
    omega

theorem parSp_words {zs : List Int} (hz : Bytes8 zs) {c : Nat} {last p : Int} {l : Bks} {e : Int} (h : parSp zs c last p = some (l, e)) : WordsB l := by
  induction c generalizing last p l e with
  | zero =>
    simp only [parSp, Option.some.injEq, Prod.mk.injEq] at h
    obtain ⟨rfl, rfl⟩ := h
    exact fun x hx => by cases hx
  | succ c ih =>
    rw [parSp] at h
    cases hs : getS zs p with
    | none => rw [hs] at h; simp at h
    | some r =>
      rw [hs] at h
      obtain ⟨d, p1⟩ := r
      simp only at h
      cases hg : getS zs p1 with
      | none => rw [hg] at h; simp at h
      | some r =>
        rw [hg] at h
        obtain ⟨y, p2⟩ := r
        simp only at h
        split at h
        · simp at h
        · cases hr : parSp zs c (last + 1 + d) p2 with
          | none => rw [hr] at h; simp at h
          | some r =>
            rw [hr] at h
            obtain ⟨m, e'⟩ := r
            simp only [Option.map_some, Option.some.injEq, Prod.mk.injEq] at h
            obtain ⟨rfl, rfl⟩ := h
            intro x hx
            rcases List.mem_cons.1 hx with rfl | hx
            · exact (getS_some hz hg).1
            · exact ih hr x hx
theorem parDn_words {zs : List Int} (hz : Bytes8 zs) {c : Nat} {f p : Int} {l : Bks} {e : Int} (h : parDn zs c f p = some (l, e)) : WordsB l := by
  induction c generalizing f p l e with
  | zero =>
    simp only [parDn, Option.some.injEq, Prod.mk.injEq] at h
    obtain ⟨rfl, rfl⟩ := h
    exact fun x hx => by cases hx
  | succ c ih =>
    rw [parDn] at h
    cases hg : getS zs p with
    | none => rw [hg] at h; simp at h
    | some r =>
      rw [hg] at h
      obtain ⟨y, p2⟩ := r
      simp only at h
      cases hr : parDn zs c (f + 1) p2 with
      | none => rw [hr] at h; simp at h
      | some r =>
        rw [hr] at h
        obtain ⟨m, e'⟩ := r
        simp only [Option.map_some, Option.some.injEq, Prod.mk.injEq] at h
        obtain ⟨h, rfl⟩ := h
        have hm := ih hr
        rw [← h]
        split
        · intro x hx
          rcases List.mem_cons.1 hx with rfl | hx
          · exact (getS_some hz hg).1
          · exact hm x hx
        · exact hm
theorem parH_words {zs : List Int} (hz : Bytes8 zs) {p : Int} {l : Bks} {e : Int} (h : parH zs p = some (l, e)) : WordsB l := by
  unfold parH at h
  split at h
  · simp at h
  · split at h
    · split at h
      · simp at h
      · exact parSp_words hz h
    · split at h
      · split at h
        · simp at h
        · split at h
          · simp at h
          · split at h
            · simp at h
            · exact parDn_words hz h
      · simp at h
theorem getH_lies {zs : List Int} (hz : Bytes8 zs) {p e : Int} {l : Bks} (hpl : ∀ l e, parH zs p = some (l, e) → ∃ k m : Nat, p = k ∧ e = m ∧ k ≤ m ∧ m ≤ zs.length) (h : getH zs p = some (l, e)) : Lies zs p l e := by
  unfold getH at h
  cases hg : parH zs p with
  | none => rw [hg] at h; simp at h
  | some r =>
    rw [hg] at h
    obtain ⟨m, e'⟩ := r
    simp only at h
    split at h
    · rename_i hc
      simp only [Option.some.injEq, Prod.mk.injEq] at h
      obtain ⟨rfl, rfl⟩ := h
      obtain ⟨k, n, rfl, rfl, hkn, hn⟩ := hpl _ _ hg
      have hp := hc.2
      rw [show ((n : Int) - (k : Int)).toNat = n - k by omega, Int.toNat_natCast] at hp
      have hl : (putH m).length = n - k := by rw [hp, List.length_take, List.length_drop]; omega
      refine ⟨⟨hc.1, parH_words hz hg⟩, k, rfl, by omega, by rw [hl]; omega, (zs.drop k).drop (n - k), ?_⟩
      rw [hp, List.take_append_drop]
    · simp at h
/-- The reader that goes by the form is the document's. -/
theorem dGet_eq {zs : List Int} (hz : Bytes8 zs) {p : Int} (hpl : ∀ l e, parH zs p = some (l, e) → ∃ k m : Nat, p = k ∧ e = m ∧ k ≤ m ∧ m ≤ zs.length) : dGet zs p = getH zs p := by
  cases h : dGet zs p with
  | some r =>
    obtain ⟨l, e⟩ := r
    have L := dGet_lies hz h
    obtain ⟨xs, ys, rfl, rfl, rfl⟩ := L.parts
    rw [getH_at L.1]
  | none =>
    cases h2 : getH zs p with
    | none => rfl
    | some r =>
      obtain ⟨l, e⟩ := r
      have L := getH_lies hz hpl h2
      obtain ⟨xs, ys, rfl, rfl, rfl⟩ := L.parts
      rw [dGet_at L.1] at h
      simp at h
end Go.Proofs.Ytjngpdhhkkambab
