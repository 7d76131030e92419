/-
  A reader of texts that takes just what is written (values as they are quoted, names up to the sign of likeness), in plain words, and that it finds just the set whose text it is; labels in order of their names are the set that is made.
  Conditions: as each theorem says.
-/
import Derived.Test.YtpffhpnmbpjifaaLabT
namespace Go.Proofs.Ytpffhpnmbpjifaa

def plainB (c : UInt8) : Bool := decide (32 ≤ c) && decide (c < 127)
/-- The byte that an escape stands for, and how many bytes the escape has. -/
def escX (d : UInt8) (r : List UInt8) : Option (UInt8 × Nat) :=
  if d = 34 ∨ d = 92 then some (d, 2) else
  match r with
  | a :: b :: _ => if d = 120 then
      match hexv a, hexv b with
      | some h, some l => if plainB (UInt8.ofNat (h * 16 + l)) then none else some (UInt8.ofNat (h * 16 + l), 4)
      | _, _ => none
    else none
  | _ => none
def escB : List UInt8 → Option (UInt8 × Nat)
  | _ :: d :: r => escX d r
  | _ => none
theorem hexv_fwd {c : UInt8} {h : Nat} (e : hexv c = some h) : hxD h = c ∧ h < 16 := by
  have key : ∀ n, n < 256 → ∀ h, h < 16 → hexv (UInt8.ofNat n) = some h → hxD h = UInt8.ofNat n := by decide +kernel
  have h16 : h < 16 := by
    unfold hexv at e
    split at e
    · rename_i hc
      simp only [Option.some.injEq] at e
      have h1 : 48 ≤ c.toNat := hc.1
      have h2 : c.toNat ≤ 57 := hc.2
      omega
    · split at e
      · rename_i hc
        simp only [Option.some.injEq] at e
        have h1 : 97 ≤ c.toNat := hc.1
        have h2 : c.toNat ≤ 102 := hc.2
        omega
      · cases e
  have h1 := key c.toNat c.toNat_lt h h16
  rw [UInt8.ofNat_toNat] at h1
  exact ⟨h1 e, h16⟩
theorem plainB_iff (c : UInt8) : plainB c = true ↔ ¬ (c < 32 ∨ 127 ≤ c) := by
  unfold plainB
  simp only [Bool.and_eq_true, decide_eq_true_eq, UInt8.le_iff_toNat_le, UInt8.lt_iff_toNat_lt]
  omega
theorem plainB_num (c : UInt8) : plainB c = true ↔ (32 ≤ c.toNat ∧ c.toNat < 127) := by
  unfold plainB
  simp only [Bool.and_eq_true, decide_eq_true_eq, UInt8.le_iff_toNat_le, UInt8.lt_iff_toNat_lt]
  exact Iff.rfl
theorem qb_plain {c : UInt8} (h1 : c ≠ 34) (h2 : c ≠ 92) (h3 : plainB c = true) : qb c = [c] := by
  unfold qb
  rw [if_neg (by simp [h1, h2]), if_neg ((plainB_iff c).1 h3)]
theorem escB_fwd {s : List UInt8} {b : UInt8} {k : Nat} (h : escB (92 :: s) = some (b, k)) : 92 :: s = qb b ++ (92 :: s).drop k ∧ (k = 2 ∨ k = 4) ∧ k ≤ (92 :: s).length := by
  cases s with
  | nil => simp [escB] at h
  | cons d r =>
    rw [escB] at h
    unfold escX at h
    by_cases hd : d = 34 ∨ d = 92
    · rw [if_pos hd] at h
      simp only [Option.some.injEq, Prod.mk.injEq] at h
      obtain ⟨rfl, rfl⟩ := h
      refine ⟨?_, Or.inl rfl, by simp⟩
      unfold qb
      rw [if_pos hd]
      rfl
    · rw [if_neg hd] at h
      match r, h with
      | [], h => cases h
      | [_], h => cases h
      | x :: y :: t, h =>
        simp only at h
        by_cases hx : d = 120
        · rw [if_pos hx] at h
          cases ex : hexv x with
          | none => rw [ex] at h; cases h
          | some p =>
            cases ey : hexv y with
            | none => rw [ex, ey] at h; cases h
            | some q =>
              rw [ex, ey] at h
              simp only at h
              obtain ⟨hp, hp16⟩ := hexv_fwd ex
              obtain ⟨hq, hq16⟩ := hexv_fwd ey
              cases hpl : plainB (UInt8.ofNat (p * 16 + q)) with
              | true => rw [hpl] at h; cases h
              | false =>
                rw [hpl] at h
                simp only [Bool.false_eq_true, if_false, Option.some.injEq, Prod.mk.injEq] at h
                obtain ⟨rfl, rfl⟩ := h
                refine ⟨?_, Or.inr rfl, by simp⟩
                have hn : (UInt8.ofNat (p * 16 + q)).toNat = p * 16 + q := by
                  rw [UInt8.toNat_ofNat']; omega
                have hw : UInt8.ofNat (p * 16 + q) < 32 ∨ 127 ≤ UInt8.ofNat (p * 16 + q) := by
                  have := (plainB_iff (UInt8.ofNat (p * 16 + q))).2
                  rw [hpl] at this
                  exact Classical.byContradiction fun e => by cases this e
                have hne : ¬ (UInt8.ofNat (p * 16 + q) = 34 ∨ UInt8.ofNat (p * 16 + q) = 92) := by
                  rintro (e | e) <;> rw [e] at hpl <;> revert hpl <;> decide
                unfold qb
                rw [if_neg hne, if_pos hw, hn, show (p * 16 + q) / 16 = p by omega, show (p * 16 + q) % 16 = q by omega, hp, hq, hx]
                rfl
        · rw [if_neg hx] at h
          cases h
theorem escB_back (b : UInt8) (r : List UInt8) (h : plainB b = true → b = 34 ∨ b = 92) : (∃ t, qb b = 92 :: t) ∧ escB (qb b ++ r) = some (b, (qb b).length) := by
  unfold qb
  by_cases h1 : b = 34 ∨ b = 92
  · rw [if_pos h1]
    refine ⟨⟨_, rfl⟩, ?_⟩
    rw [List.cons_append, List.cons_append, escB]
    unfold escX
    rw [if_pos h1]
    rfl
  · rw [if_neg h1]
    have hp : plainB b = false := by
      cases e : plainB b with
      | false => rfl
      | true => exact absurd (h e) h1
    have h2 : b < 32 ∨ 127 ≤ b := Classical.byContradiction fun e => by rw [(plainB_iff b).2 e] at hp; cases hp
    rw [if_pos h2]
    refine ⟨⟨_, rfl⟩, ?_⟩
    have hc := b.toNat_lt
    have e : UInt8.ofNat (b.toNat / 16 * 16 + b.toNat % 16) = b := by
      rw [show b.toNat / 16 * 16 + b.toNat % 16 = b.toNat by omega]
      exact UInt8.ofNat_toNat
    show escB (92 :: 120 :: hxD (b.toNat / 16) :: hxD (b.toNat % 16) :: r) = _
    rw [escB]
    unfold escX
    rw [if_neg (by decide)]
    simp only [hex_back (b.toNat / 16) (by omega), hex_back (b.toNat % 16) (by omega), if_true, e, hp, Bool.false_eq_true, if_false]
    rfl

/-- A value is read, behind its first sign: what is written alone; f: how many bytes at most. -/
def uqF : Nat → List UInt8 → Option (List UInt8 × List UInt8)
  | 0, _ => none
  | _ + 1, [] => none
  | f + 1, c :: r => if c = 34 then some ([], r) else if c = 92 then
      match escB (c :: r) with
      | none => none
      | some (b, k) => (uqF f ((c :: r).drop k)).map (fun q => (b :: q.1, q.2))
    else if plainB c then (uqF f r).map (fun q => (c :: q.1, q.2)) else none
/-- A value in its signs. -/
def unqO (l : List UInt8) : Option (List UInt8 × List UInt8) := match l with
  | c :: r => if c = 34 then uqF r.length r else none
  | [] => none
theorem uqF_fwd : ∀ {f : Nat} {s v r : List UInt8}, uqF f s = some (v, r) → s = v.flatMap qb ++ 34 :: r
  | 0, _, _, _, h => by cases h
  | _ + 1, [], _, _, h => by cases h
  | f + 1, c :: t, v, r, h => by
    rw [uqF] at h
    by_cases h1 : c = 34
    · rw [if_pos h1] at h
      simp only [Option.some.injEq, Prod.mk.injEq] at h
      obtain ⟨rfl, rfl⟩ := h
      rw [h1]; rfl
    · rw [if_neg h1] at h
      by_cases h2 : c = 92
      · rw [if_pos h2] at h
        subst h2
        cases e : escB (92 :: t) with
        | none => rw [e] at h; cases h
        | some q =>
          obtain ⟨b, k⟩ := q
          rw [e] at h
          simp only [Option.map_eq_some_iff] at h
          obtain ⟨⟨v1, r1⟩, h3, h4⟩ := h
          simp only [Prod.mk.injEq] at h4
          obtain ⟨rfl, rfl⟩ := h4
          have h5 := uqF_fwd h3
          rw [(escB_fwd e).1, List.flatMap_cons, List.append_assoc, ← h5]
      · rw [if_neg h2] at h
        cases hp : plainB c with
        | false => rw [hp] at h; cases h
        | true =>
          rw [hp] at h
          simp only [if_true, Option.map_eq_some_iff] at h
          obtain ⟨⟨v1, r1⟩, h3, h4⟩ := h
          simp only [Prod.mk.injEq] at h4
          obtain ⟨rfl, rfl⟩ := h4
          have h5 := uqF_fwd h3
          rw [List.flatMap_cons, qb_plain h1 h2 hp, List.append_assoc, ← h5]
          rfl
theorem uqF_back : ∀ (f : Nat) (v r : List UInt8), (v.flatMap qb).length < f → uqF f (v.flatMap qb ++ 34 :: r) = some (v, r)
  | 0, _, _, h => by omega
  | f + 1, [], r, _ => by
    rw [List.flatMap_nil, List.nil_append, uqF, if_pos rfl]
  | f + 1, b :: v, r, h => by
    rw [List.flatMap_cons, List.length_append] at h
    rw [List.flatMap_cons, List.append_assoc]
    by_cases hb : plainB b = true → b = 34 ∨ b = 92
    · obtain ⟨⟨t, ht⟩, he⟩ := escB_back b (v.flatMap qb ++ 34 :: r) hb
      have hl : (qb b).length = t.length + 1 := by rw [ht]; rfl
      have hd : ((qb b) ++ (v.flatMap qb ++ 34 :: r)).drop (qb b).length = v.flatMap qb ++ 34 :: r := List.drop_left
      have ih := uqF_back f v r (by omega)
      rw [ht] at he hd ⊢
      rw [List.cons_append] at he hd ⊢
      rw [uqF, if_neg (by decide), if_pos rfl, he]
      simp only [hd, ih]
      rfl
    · have hp : plainB b = true ∧ ¬ (b = 34 ∨ b = 92) := by
        constructor
        · cases e : plainB b with
          | true => rfl
          | false => exact absurd (fun h => by rw [e] at h; cases h) hb
        · exact fun e => hb (fun _ => e)
      have h1 : b ≠ 34 := fun e => hp.2 (Or.inl e)
      have h2 : b ≠ 92 := fun e => hp.2 (Or.inr e)
      rw [qb_plain h1 h2 hp.1] at h ⊢
      simp only [List.length_cons, List.length_nil] at h
      have ih := uqF_back f v r (by omega)
      rw [List.cons_append, List.nil_append, uqF, if_neg h1, if_neg h2, if_pos hp.1, ih]
      rfl
theorem uqF_rest {f : Nat} {s v r : List UInt8} (h : uqF f s = some (v, r)) : r.length < s.length ∧ s.drop (s.length - r.length) = r := by
  have e := uqF_fwd h
  have hl : s.length = (v.flatMap qb).length + 1 + r.length := by rw [e]; simp; omega
  refine ⟨by omega, ?_⟩
  rw [show s.length - r.length = (v.flatMap qb).length + 1 by omega, e]
  rw [← List.drop_drop, List.drop_left]
  rfl

def notEq (c : UInt8) : Bool := c != 61
/-- Up to k labels are read: a name up to the first '=', a value as it is written, commas between. -/
def splF : Nat → List UInt8 → Option (List Lb)
  | 0, _ => none
  | k + 1, s => match s.dropWhile notEq with
    | _ :: q :: r => if q = 34 then
        match uqF r.length r with
        | none => none
        | some (v, []) => some [(⟨(s.takeWhile notEq).toArray⟩, ⟨v.toArray⟩)]
        | some (v, c :: t) => if c = 44 then (splF k t).map ((⟨(s.takeWhile notEq).toArray⟩, ⟨v.toArray⟩) :: ·) else none
      else none
    | _ => none
theorem dropWhile_eq {s : List UInt8} {c : UInt8} {t : List UInt8} (h : s.dropWhile notEq = c :: t) : c = 61 ∧ s = s.takeWhile notEq ++ 61 :: t := by
  have h1 : notEq c = false := by
    have := List.head?_dropWhile_not notEq s
    rw [h] at this
    simpa using this
  have h2 : c = 61 := by
    unfold notEq at h1
    simpa using h1
  refine ⟨h2, ?_⟩
  rw [← h2, ← h, List.takeWhile_append_dropWhile]
theorem splF_fwd : ∀ {k : Nat} {s : List UInt8} {l : List Lb}, splF k s = some l → textB l = s ∧ l ≠ []
  | 0, _, _, h => by cases h
  | k + 1, s, l, h => by
    rw [splF] at h
    cases hd : s.dropWhile notEq with
    | nil => rw [hd] at h; cases h
    | cons c t =>
      cases t with
      | nil => rw [hd] at h; cases h
      | cons q r =>
        rw [hd] at h
        simp only at h
        obtain ⟨-, hs⟩ := dropWhile_eq hd
        by_cases hq : q = 34
        · subst hq
          rw [if_pos rfl] at h
          cases hu : uqF r.length r with
          | none => rw [hu] at h; cases h
          | some z =>
            obtain ⟨v, t⟩ := z
            have hr := uqF_fwd hu
            rw [hu] at h
            have lab : labB (⟨(s.takeWhile notEq).toArray⟩, ⟨v.toArray⟩) ++ t = s := by
              unfold labB quoB
              rw [ByteArray.toList_mk, ByteArray.toList_mk]
              conv => rhs; rw [hs, hr]
              simp [List.append_assoc]
            cases t with
            | nil =>
              simp only [Option.some.injEq] at h
              subst h
              refine ⟨?_, by simp⟩
              rw [textB, restB]
              exact lab
            | cons c t =>
              simp only at h
              by_cases hc : c = 44
              · rw [if_pos hc, Option.map_eq_some_iff] at h
                obtain ⟨m, hm, rfl⟩ := h
                obtain ⟨h1, h2⟩ := splF_fwd hm
                refine ⟨?_, by simp⟩
                subst hc
                cases m with
                | nil => exact absurd rfl h2
                | cons x u =>
                  rw [textB, restB]
                  rw [textB] at h1
                  rw [h1]
                  exact lab
              · rw [if_neg hc] at h; cases h
        · rw [if_neg hq] at h; cases h
theorem span_eq {n : List UInt8} (h : ∀ c ∈ n, notEq c = true) (r : List UInt8) : (n ++ 61 :: r).takeWhile notEq = n ∧ (n ++ 61 :: r).dropWhile notEq = 61 :: r := by
  induction n with
  | nil => exact ⟨rfl, rfl⟩
  | cons c t ih =>
    have hc := h c (List.mem_cons_self ..)
    obtain ⟨h1, h2⟩ := ih (fun x hx => h x (List.mem_cons_of_mem _ hx))
    exact ⟨by rw [List.cons_append, List.takeWhile_cons, if_pos hc, h1], by rw [List.cons_append, List.dropWhile_cons, if_pos hc, h2]⟩
theorem splF_back : ∀ (k : Nat) (l : List Lb), l ≠ [] → l.length ≤ k → (∀ x ∈ l, ∀ c ∈ x.1.toList, notEq c = true) → splF k (textB l) = some l
  | _, [], h, _, _ => absurd rfl h
  | 0, x :: t, _, h, _ => by simp at h
  | k + 1, x :: t, _, hl, hn => by
    have e : textB (x :: t) = x.1.toList ++ 61 :: (34 :: (x.2.toList.flatMap qb ++ 34 :: restB t)) := by
      rw [textB]
      unfold labB quoB
      simp [List.append_assoc]
    obtain ⟨h1, h2⟩ := span_eq (hn x (List.mem_cons_self ..)) (34 :: (x.2.toList.flatMap qb ++ 34 :: restB t))
    rw [← e] at h1 h2
    rw [splF, h1, h2]
    simp only [if_true]
    rw [uqF_back _ x.2.toList (restB t) (by rw [List.length_append, List.length_cons]; omega)]
    cases t with
    | nil => simp only [restB, ba_mk]
    | cons y u =>
      simp only [restB]
      rw [if_pos trivial]
      have ih := splF_back k (y :: u) (by simp) (by simpa using hl) (fun z hz => hn z (List.mem_cons_of_mem _ hz))
      rw [textB] at ih
      rw [ih]
      simp only [Option.map_some, ba_mk]
/-- What is read so, if it may be, is the set whose text it is. -/
theorem parseL_spl (s : ByteArray) : parseL s = match splF 8 s.toList with
    | none => none
    | some l => if chkL l then some l else none := by
  cases e : splF 8 s.toList with
  | none =>
    simp only
    cases h : parseL s with
    | none => rfl
    | some l =>
      obtain ⟨h1, h2⟩ := parseL_iff.1 h
      have h3 := chkL_parts h1
      have h4 := splF_back 8 l (fun z => by subst z; simp at h3) h3.2.1 (fun x hx c hc => by
        have h7 := chkL_bytes h1 x hx c hc
        cases q : notEq c with
        | true => rfl
        | false =>
          have q2 : c = 61 := by unfold notEq at q; simpa using q
          rw [q2] at h7
          exact absurd h7 (by decide))
      rw [← textL_list, h2, e] at h4
      cases h4
  | some l =>
    simp only
    have h1 := (splF_fwd e).1
    have h2 : textL l = s := ba_ext (by rw [textL_list, h1])
    cases hc : chkL l with
    | true => rw [if_pos rfl]; exact parseL_iff.2 ⟨hc, h2⟩
    | false =>
      rw [if_neg (by decide)]
      cases h : parseL s with
      | none => rfl
      | some m =>
        obtain ⟨h3, h4⟩ := parseL_iff.1 h
        have h5 := chkL_parts h3
        have h6 := splF_back 8 m (fun z => by subst z; simp at h5) h5.2.1 (fun x hx c hc => by
          have h7 := chkL_bytes h3 x hx c hc
          cases q : notEq c with
          | true => rfl
          | false =>
            have q2 : c = 61 := by unfold notEq at q; simpa using q
            rw [q2] at h7
            exact absurd h7 (by decide))
        rw [← textL_list, h4, e] at h6
        simp only [Option.some.injEq] at h6
        rw [h6, h3] at hc
        cases hc

/-- Labels in order of their names are the set, if they may be one. -/
theorem makeL_sorted {l d : List Lb} (hp : d.Perm (fulL l)) (hs : d.Pairwise notLess) : makeL l = if chkL d then some d else none := by
  have one : ∀ {x y : List Lb}, x.Perm y → x.Pairwise notLess → y.Pairwise notLess → chkL y = true → x = y := by
    intro x y p hx hy hc
    refine p.eq_of_pairwise (le := notLess) ?_ hx hy
    intro a b ha hb e1 e2
    have q : a.1 = b.1 := by
      rcases less_tri a.1.toList b.1.toList with e | e | e
      · unfold notLess at e2; rw [e] at e2; cases e2
      · exact ba_ext e
      · unfold notLess at e1; rw [e] at e1; cases e1
    exact pair_one (chkL_less hc) (p.mem_iff.1 ha) hb q
  have p2 : (sortL (fulL l)).Perm d := (sortL_perm _).trans hp.symm
  unfold makeL
  cases hc : chkL d with
  | true =>
    have := one p2 (sortL_sorted _) hs hc
    rw [this, hc]
  | false =>
    cases h2 : chkL (sortL (fulL l)) with
    | false => rfl
    | true =>
      have := one p2.symm hs (sortL_sorted _) h2
      rw [this, h2] at hc
      cases hc
end Go.Proofs.Ytpffhpnmbpjifaa
