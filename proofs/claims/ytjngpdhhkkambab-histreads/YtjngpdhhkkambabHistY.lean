/-
  Lists of buckets as bytes, in the two forms: plain lists of whole numbers; no two lists have the same bytes, whatever follows; how many bytes there are at most.
  Conditions: the lists may be; counts are words of 64 bits.
-/
import Derived.Test.YtjngpdhhkkambabHistP
import Derived.Test.YtjngpdhhkkambabVintL
namespace Go.Proofs.Ytjngpdhhkkambab

/-- The buckets' own bytes in the sparse form. -/
def sparB : Int → Bks → List Int
  | _, [] => []
  | last, (k, c) :: t => putS (k - last - 1) ++ (putS c ++ sparB k t)
def sparseS (l : Bks) : List Int := 0 :: (putS l.length ++ sparB (-1) l)
/-- The counts' bytes in the dense form, n of them, from bucket k on. -/
def densB : Int → Nat → Bks → List Int
  | _, 0, _ => []
  | k, n + 1, [] => 0 :: densB (k + 1) n []
  | k, n + 1, (j, c) :: t => if j = k then putS c ++ densB (k + 1) n t else 0 :: densB (k + 1) n ((j, c) :: t)
def fromS : Bks → Int
  | [] => 0
  | (k, _) :: _ => k
/-- How many buckets there are from the first to the last one. -/
def spanS (l : Bks) : Nat := (lastD (-1) l - fromS l + 1).toNat
def denseS (l : Bks) : List Int := 1 :: (putS (fromS l) ++ (putS (spanS l) ++ densB (fromS l) (spanS l) l))
/-- The bytes that are put. -/
def putH (l : Bks) : List Int := if l ≠ [] ∧ (denseS l).length < (sparseS l).length then denseS l else sparseS l

theorem putS_zero : putS 0 = [0] := by decide
theorem putS_inj {u v : Int} (hu : W64 u) (hv : W64 v) {xs ys : List Int} (h : putS u ++ xs = putS v ++ ys) : u = v ∧ xs = ys := by
  have h1 := getS_at hu [] xs
  have h2 := getS_at hv [] ys
  rw [List.nil_append] at h1 h2
  rw [h, h2] at h1
  simp only [Option.some.injEq, Prod.mk.injEq] at h1
  obtain ⟨e, _⟩ := h1
  subst e
  exact ⟨rfl, List.append_cancel_left h⟩
theorem w64_small {x : Int} (h0 : 0 ≤ x) (h1 : x ≤ 7424) : W64 x := ⟨h0, by omega⟩

theorem sparB_inj {last : Int} (h0 : -1 ≤ last) {l m : Bks} (hl : checkF last l = true) (hm : checkF last m = true) (wl : WordsB l) (wm : WordsB m) (hn : l.length = m.length) {xs ys : List Int} (h : sparB last l ++ xs = sparB last m ++ ys) : l = m ∧ xs = ys := by
  induction l generalizing m last with
  | nil =>
    cases m with
    | nil => exact ⟨rfl, h⟩
    | cons _ _ => simp at hn
  | cons x s ih =>
    cases m with
    | nil => simp at hn
    | cons y t =>
      obtain ⟨i, c⟩ := x
      obtain ⟨k, d⟩ := y
      have hl' := checkF_cons.1 hl
      have hm' := checkF_cons.1 hm
      have hc := wl _ (List.mem_cons_self ..)
      have hd := wm _ (List.mem_cons_self ..)
      simp only at hc hd
      rw [sparB, sparB, List.append_assoc, List.append_assoc, List.append_assoc, List.append_assoc] at h
      obtain ⟨e1, g1⟩ := putS_inj (w64_small (by omega) (by omega)) (w64_small (by omega) (by omega)) h
      obtain ⟨e2, g2⟩ := putS_inj hc hd g1
      have e3 : i = k := by omega
      clear h g1
      subst e3
      subst e2
      obtain ⟨e4, e5⟩ := ih (by omega) hl'.2.2.2 hm'.2.2.2 (fun z hz => wl z (List.mem_cons_of_mem _ hz)) (fun z hz => wm z (List.mem_cons_of_mem _ hz)) (by simpa using hn) g2
      exact ⟨by rw [e4], e5⟩
theorem sparse_inj {l m : Bks} (hl : Good l) (hm : Good m) {xs ys : List Int} (h : sparseS l ++ xs = sparseS m ++ ys) : l = m ∧ xs = ys := by
  have n1 := checkF_len hl.check
  have n2 := checkF_len hm.check
  have b1 : l.length ≤ 7424 := by
    rcases n1 with h | h
    · omega
    · rw [h]; simp
  have b2 : m.length ≤ 7424 := by
    rcases n2 with h | h
    · omega
    · rw [h]; simp
  unfold sparseS at h
  rw [List.cons_append, List.cons_append, List.append_assoc, List.append_assoc] at h
  obtain ⟨e1, h⟩ := putS_inj (w64_small (by omega) (by omega)) (w64_small (by omega) (by omega)) (List.cons.inj h).2
  exact sparB_inj (Int.le_refl _) hl.check hm.check hl.words hm.words (by omega) h

theorem densB_skip {k : Int} {n : Nat} {j c : Int} {t : Bks} (h : k < j) : densB k (n + 1) ((j, c) :: t) = 0 :: densB (k + 1) n ((j, c) :: t) := by rw [densB, if_neg (by omega)]
theorem densB_here {k : Int} {n : Nat} {c : Int} {t : Bks} : densB k (n + 1) ((k, c) :: t) = putS c ++ densB (k + 1) n t := by rw [densB, if_pos rfl]
/-- One more bucket: what its count is, and what is left. -/
def nextB (k : Int) : Bks → Int × Bks
  | [] => (0, [])
  | (j, c) :: t => if j = k then (c, t) else (0, (j, c) :: t)
theorem densB_next (k : Int) (n : Nat) (l : Bks) : densB k (n + 1) l = putS (nextB k l).1 ++ densB (k + 1) n (nextB k l).2 := by
  cases l with
  | nil => rw [densB, nextB, putS_zero]; rfl
  | cons x t =>
    obtain ⟨j, c⟩ := x
    rw [densB, nextB]
    split
    · rfl
    · rw [putS_zero]; rfl
theorem nextB_check {k : Int} {l : Bks} (hl : checkF (k - 1) l = true) : checkF k (nextB k l).2 = true := by
  cases l with
  | nil => rfl
  | cons x t =>
    obtain ⟨j, c⟩ := x
    have h := checkF_cons.1 hl
    rw [nextB]
    split
    · rename_i e; subst e; exact h.2.2.2
    · exact checkF_last hl (by omega)
theorem nextB_words {k : Int} {l : Bks} (hl : WordsB l) : (0 ≤ (nextB k l).1 ∧ (nextB k l).1 < 18446744073709551616) ∧ WordsB (nextB k l).2 := by
  cases l with
  | nil => exact ⟨⟨Int.le_refl 0, by show (0 : Int) < _; decide⟩, fun x hx => by cases hx⟩
  | cons x t =>
    obtain ⟨j, c⟩ := x
    rw [nextB]
    split
    · exact ⟨hl _ (List.mem_cons_self ..), fun z hz => hl z (List.mem_cons_of_mem _ hz)⟩
    · exact ⟨⟨Int.le_refl 0, by show (0 : Int) < _; decide⟩, hl⟩
theorem nextB_inj {k : Int} {l m : Bks} (hl : checkF (k - 1) l = true) (hm : checkF (k - 1) m = true) (h1 : (nextB k l).1 = (nextB k m).1) (h2 : (nextB k l).2 = (nextB k m).2) : l = m := by
  cases l with
  | nil =>
    cases m with
    | nil => rfl
    | cons y t =>
      obtain ⟨j, c⟩ := y
      have h := checkF_cons.1 hm
      rw [nextB, nextB] at h1 h2
      split at h1
      · simp at h1; omega
      · rename_i e; rw [if_neg e] at h2; simp at h2
  | cons x s =>
    obtain ⟨i, c⟩ := x
    have h := checkF_cons.1 hl
    cases m with
    | nil =>
      rw [nextB, nextB] at h1 h2
      split at h1
      · simp at h1; omega
      · rename_i e; rw [if_neg e] at h2; simp at h2
    | cons y t =>
      obtain ⟨j, d⟩ := y
      have h' := checkF_cons.1 hm
      rw [nextB, nextB] at h1 h2
      by_cases c1 : i = k <;> by_cases c2 : j = k
      · rw [if_pos c1, if_pos c2] at h1 h2
        simp only at h1 h2
        rw [c1, c2, h1, h2]
      · rw [if_pos c1, if_neg c2] at h1
        simp at h1; omega
      · rw [if_neg c1, if_pos c2] at h1
        simp at h1; omega
      · rw [if_neg c1, if_neg c2] at h2
        exact h2
/-- Buckets below one. -/
theorem nextB_bound {k e : Int} {l : Bks} (h : lastD (k - 1) l < e) (hk : k < e) : lastD k (nextB k l).2 < e := by
  cases l with
  | nil => exact hk
  | cons x t =>
    obtain ⟨j, c⟩ := x
    rw [nextB]
    split
    · rename_i e1; subst e1; exact h
    · exact h
theorem densB_inj {n : Nat} {k : Int} {l m : Bks} (hl : checkF (k - 1) l = true) (hm : checkF (k - 1) m = true) (wl : WordsB l) (wm : WordsB m) (bl : lastD (k - 1) l < k + n) (bm : lastD (k - 1) m < k + n) {xs ys : List Int} (h : densB k n l ++ xs = densB k n m ++ ys) : l = m ∧ xs = ys := by
  induction n generalizing k l m with
  | zero =>
    have e : ∀ {l : Bks}, checkF (k - 1) l = true → lastD (k - 1) l < k + (0 : Nat) → l = [] := by
      intro l hl bl
      cases l with
      | nil => rfl
      | cons x t =>
        obtain ⟨j, c⟩ := x
        have h1 := checkF_cons.1 hl
        have h2 := (checkF_lastD h1.2.2.2).1
        rw [lastD] at bl
        omega
    rw [e hl bl, e hm bm]
    exact ⟨rfl, h⟩
  | succ n ih =>
    rw [densB_next, densB_next, List.append_assoc, List.append_assoc] at h
    have w1 := nextB_words (k := k) wl
    have w2 := nextB_words (k := k) wm
    obtain ⟨e1, h⟩ := putS_inj w1.1 w2.1 h
    have e0 : k + 1 - 1 = k := by omega
    obtain ⟨e2, e3⟩ := ih (k := k + 1) (by rw [e0]; exact nextB_check hl) (by rw [e0]; exact nextB_check hm) w1.2 w2.2
      (by rw [e0]; have := nextB_bound (k := k) (e := k + 1 + n) (l := l) (by omega) (by omega); exact this) (by rw [e0]; have := nextB_bound (k := k) (e := k + 1 + n) (l := m) (by omega) (by omega); exact this) h
    exact ⟨nextB_inj hl hm e1 e2, e3⟩
theorem span_facts {l : Bks} (hl : Good l) (h : l ≠ []) : 0 ≤ fromS l ∧ fromS l ≤ 7423 ∧ 1 ≤ spanS l ∧ fromS l + spanS l ≤ 7424 ∧ lastD (-1) l + 1 = fromS l + spanS l ∧ checkF (fromS l - 1) l = true ∧ lastD (fromS l - 1) l = lastD (-1) l := by
  cases l with
  | nil => exact absurd rfl h
  | cons x t =>
    obtain ⟨k, c⟩ := x
    have hc := hl.check
    unfold checkS at hc
    have h1 := checkF_cons.1 hc
    have h2 := (checkF_lastD h1.2.2.2).1
    have h3 := (checkF_lastD hc).2
    have h3 : lastD (-1) ((k, c) :: t) ≤ 7423 := h3.resolve_left (by simp)
    rw [lastD] at h3
    unfold spanS
    rw [lastD, fromS]
    exact ⟨by omega, by omega, by omega, by omega, by omega, checkF_last hc (by omega), rfl⟩
theorem dense_inj {l m : Bks} (hl : Good l) (hm : Good m) (nl : l ≠ []) (nm : m ≠ []) {xs ys : List Int} (h : denseS l ++ xs = denseS m ++ ys) : l = m ∧ xs = ys := by
  obtain ⟨a1, a2, a3, a4, a5, a6, a7⟩ := span_facts hl nl
  obtain ⟨b1, b2, b3, b4, b5, b6, b7⟩ := span_facts hm nm
  unfold denseS at h
  rw [List.cons_append, List.cons_append, List.append_assoc, List.append_assoc, List.append_assoc, List.append_assoc] at h
  obtain ⟨e1, h⟩ := putS_inj (w64_small (by omega) (by omega)) (w64_small (by omega) (by omega)) (List.cons.inj h).2
  obtain ⟨e2, h⟩ := putS_inj (w64_small (by omega) (by omega)) (w64_small (by omega) (by omega)) h
  have e3 : spanS l = spanS m := by omega
  rw [e1, e3] at h
  rw [e1] at a6 a7
  exact densB_inj a6 b6 hl.words hm.words (by omega) (by omega) h
/-- No two lists have the same bytes, whatever follows. -/
theorem putH_inj {l m : Bks} (hl : Good l) (hm : Good m) {xs ys : List Int} (h : putH l ++ xs = putH m ++ ys) : l = m ∧ xs = ys := by
  unfold putH at h
  split at h
  · rename_i c1
    split at h
    · rename_i c2; exact dense_inj hl hm c1.1 c2.1 h
    · unfold denseS sparseS at h; simp at h
  · split at h
    · unfold denseS sparseS at h; simp at h
    · exact sparse_inj hl hm h

theorem putF_small {f : Nat} {v : Int} (h : v < 16384) (hf : 1 ≤ f) : (putF f v).length ≤ 2 := by
  obtain ⟨g, rfl⟩ : ∃ g, f = g + 1 := ⟨f - 1, by omega⟩
  by_cases h1 : v < 128
  · rw [putF_one h1]; simp
  · rw [putF_more (by omega), List.length_cons, putF_one (by omega)]; simp
theorem putS_two {v : Int} (h : v < 16384) : (putS v).length ≤ 2 := putF_small h (by omega)
theorem sparB_len {last : Int} (h0 : -1 ≤ last) {l : Bks} (hl : checkF last l = true) : (sparB last l).length ≤ 12 * l.length := by
  induction l generalizing last with
  | nil => simp [sparB]
  | cons x t ih =>
    obtain ⟨k, c⟩ := x
    have h := checkF_cons.1 hl
    rw [sparB, List.length_append, List.length_append, List.length_cons]
    have h1 := putS_two (v := k - last - 1) (by omega)
    have h2 := (putS_len c).2
    have h3 := ih (by omega) h.2.2.2
    omega
theorem good_len {l : Bks} (hl : Good l) : l.length ≤ 7424 := by
  rcases checkF_len hl.check with h | h
  · omega
  · rw [h]; simp
/-- Of the two forms the shorter one: so many bytes at most. -/
theorem putH_len {l : Bks} (hl : Good l) : (putH l).length ≤ 3 + 12 * l.length ∧ 1 ≤ (putH l).length := by
  have h1 := sparB_len (Int.le_refl _) hl.check
  have h2 := putS_two (v := (l.length : Int)) (by have := good_len hl; omega)
  have h3 : (sparseS l).length ≤ 3 + 12 * l.length := by
    unfold sparseS
    rw [List.length_cons, List.length_append]; omega
  unfold putH
  split
  · rename_i c
    exact ⟨by omega, by simp [denseS]⟩
  · exact ⟨h3, by simp [sparseS]⟩
theorem sparB_byte {last : Int} (h0 : -1 ≤ last) {l : Bks} (hl : checkF last l = true) (hw : WordsB l) : Bytes8 (sparB last l) := by
  induction l generalizing last with
  | nil => intro z hz; cases hz
  | cons x t ih =>
    obtain ⟨k, c⟩ := x
    have h := checkF_cons.1 hl
    rw [sparB]
    exact Bytes8.append (putS_byte (w64_small (by omega) (by omega))) (Bytes8.append (putS_byte (hw _ (List.mem_cons_self ..))) (ih (by omega) h.2.2.2 (fun z hz => hw z (List.mem_cons_of_mem _ hz))))
theorem densB_byte {k : Int} {n : Nat} {l : Bks} (hw : WordsB l) : Bytes8 (densB k n l) := by
  induction n generalizing k l with
  | zero => intro z hz; cases hz
  | succ n ih =>
    rw [densB_next]
    have w := nextB_words (k := k) hw
    exact Bytes8.append (putS_byte w.1) (ih w.2)
theorem byte_cons {z : Int} {l : List Int} (h0 : 0 ≤ z ∧ z ≤ 255) (h : Bytes8 l) : Bytes8 (z :: l) := by
  intro x hx
  rcases List.mem_cons.1 hx with rfl | hx
  · exact h0
  · exact h x hx
theorem putH_byte {l : Bks} (hl : Good l) : Bytes8 (putH l) := by
  have hn := good_len hl
  unfold putH
  split
  · rename_i c
    obtain ⟨a1, a2, a3, a4, _, _, _⟩ := span_facts hl c.1
    exact byte_cons (by decide) (Bytes8.append (putS_byte (w64_small (by omega) (by omega))) (Bytes8.append (putS_byte (w64_small (by omega) (by omega))) (densB_byte hl.words)))
  · exact byte_cons (by decide) (Bytes8.append (putS_byte (w64_small (by omega) (by omega))) (sparB_byte (Int.le_refl _) hl.check hl.words))
end Go.Proofs.Ytjngpdhhkkambab
