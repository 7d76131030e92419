/-
  A strict reader of matchers' texts, in plain words: what it reads has that text, and a matcher that may be is read back from its own; so no two have one text. No function is named.
  Conditions: as each theorem says.
-/
import Derived.Test.YthebcmkainplnaaMatK
import Derived.Test.YthebcmkainplnaaLabUq
namespace Go.Proofs.Ythebcmkainplnaa
set_option maxRecDepth 20000

/-- The longest name, of at most 32 bytes, that begins here. -/
def nmT : Nat → List UInt8 → List UInt8
  | _, [] => []
  | i, c :: r => if i < 32 ∧ nmC i c = true then c :: nmT (i + 1) r else []
def bar (l : List UInt8) : ByteArray := ⟨l.toArray⟩
theorem bar_list (l : List UInt8) : (bar l).toList = l := ByteArray.toList_mk l
theorem bar_of (a : ByteArray) : bar a.toList = a := ba_mk a
theorem bar_size (l : List UInt8) : (bar l).size = l.length := by rw [← ba_len, bar_list]
/-- What stands behind these signs, if they stand here. -/
def tks (p l : List UInt8) : Option (List UInt8) := if p.isPrefixOf l = true then some (l.drop p.length) else none
/-- Values behind one another, commas between, up to the closing bracket; f: how many at most. -/
def rdV : Nat → List UInt8 → Option (List ByteArray × List UInt8)
  | 0, _ => none
  | f + 1, l => match unqO l with
    | none => none
    | some q => match tks [44] q.2 with
      | some r => (rdV f r).map (fun z => (bar q.1 :: z.1, z.2))
      | none => (tks [41] q.2).map (fun r => ([bar q.1], r))
/-- A list of values in brackets. -/
def rdB (l : List UInt8) : Option (List ByteArray × List UInt8) := match tks [40] l with
  | none => none
  | some r => match tks [41] r with
    | some r' => some ([], r')
    | none => rdV r.length r
/-- What a name's matcher asks. -/
def rdA (nm : ByteArray) (l : List UInt8) : Option (Mt × List UInt8) := match tks [61] l with
  | some r => (unqO r).map (fun q => (.mk 1 nm (bar q.1) [] [], q.2))
  | none => match tks [33, 61] l with
    | some r => (unqO r).map (fun q => (.mk 2 nm (bar q.1) [] [], q.2))
    | none => match tks [94, 61] l with
      | some r => (unqO r).map (fun q => (.mk 3 nm (bar q.1) [] [], q.2))
      | none => match tks [64] l with
        | some r => (rdB r).map (fun q => (.mk 4 nm .empty q.1 [], q.2))
        | none => none
def rdN (l : List UInt8) : Option (Mt × List UInt8) := rdA (bar (nmT 0 l)) (l.drop (nmT 0 l).length)
mutual
/-- A matcher is read; so many more may be. -/
def rdM : Nat → Nat → List UInt8 → Option (Mt × List UInt8 × Nat)
  | 0, _, _ => none
  | _ + 1, 0, _ => none
  | f + 1, left + 1, l => match tks [42] l with
    | some r => some (.mk 0 .empty .empty [] [], r, left)
    | none => match tks [38] l with
      | some r => (rdK f left r).map (fun q => (.mk 5 .empty .empty [] q.1, q.2))
      | none => match tks [124] l with
        | some r => (rdK f left r).map (fun q => (.mk 6 .empty .empty [] q.1, q.2))
        | none => match tks [33] l with
          | some r => (rdK f left r).map (fun q => (.mk 7 .empty .empty [] q.1, q.2))
          | none => (rdN l).map (fun q => (q.1, q.2, left))
def rdK : Nat → Nat → List UInt8 → Option (List Mt × List UInt8 × Nat)
  | 0, _, _ => none
  | f + 1, left, l => match tks [40] l with
    | none => none
    | some r => match tks [41] r with
      | some r' => some ([], r', left)
      | none => rdT f left r
def rdT : Nat → Nat → List UInt8 → Option (List Mt × List UInt8 × Nat)
  | 0, _, _ => none
  | f + 1, left, l => match rdM f left l with
    | none => none
    | some q => match tks [44] q.2.1 with
      | some r => (rdT f q.2.2 r).map (fun z => (q.1 :: z.1, z.2))
      | none => (tks [41] q.2.1).map (fun r => ([q.1], r, q.2.2))
end
/-- The matcher that a text is read as, if it may be. -/
def parseM (l : List UInt8) : Option Mt := match rdM 300 64 l with
  | none => none
  | some q => if q.2.1 = [] ∧ chkM q.1 = true then some q.1 else none

theorem tks_fwd {p l r : List UInt8} (h : tks p l = some r) : l = p ++ r := by
  unfold tks at h
  split at h
  · rename_i hp
    simp only [Option.some.injEq] at h
    subst h
    obtain ⟨t, rfl⟩ := List.isPrefixOf_iff_prefix.1 hp
    rw [List.drop_left]
  · cases h
theorem tks_back (p r : List UInt8) : tks p (p ++ r) = some r := by
  unfold tks
  rw [if_pos (List.isPrefixOf_iff_prefix.2 ⟨r, rfl⟩), List.drop_left]
theorem tks_no {c d : UInt8} (h : d ≠ c) (p r : List UInt8) : tks (c :: p) (d :: r) = none := by
  unfold tks
  rw [if_neg]
  intro e
  simp only [List.isPrefixOf_cons_cons, Bool.and_eq_true, beq_iff_eq] at e
  exact h e.1.symm
theorem tks_one (c : UInt8) (r : List UInt8) : tks [c] (c :: r) = some r := tks_back [c] r
theorem unqO_fwd {l v r : List UInt8} (h : unqO l = some (v, r)) : l = quoB v ++ r := by
  unfold unqO at h
  cases l with
  | nil => cases h
  | cons c t =>
    simp only at h
    by_cases hc : c = 34
    · rw [if_pos hc] at h
      rw [uqF_fwd h, hc]
      unfold quoB
      simp
    · rw [if_neg hc] at h
      cases h
theorem unqO_back (v r : List UInt8) : unqO (quoB v ++ r) = some (v, r) := by
  have e : quoB v ++ r = 34 :: (v.flatMap qb ++ 34 :: r) := by unfold quoB; simp
  rw [e]
  unfold unqO
  simp only
  rw [if_pos trivial, uqF_back]
  simp
theorem quoB_head (v : List UInt8) : ∃ t, quoB v = 34 :: t := ⟨_, rfl⟩
theorem nmT_pre (i : Nat) (l : List UInt8) : l = nmT i l ++ l.drop (nmT i l).length := by
  induction l generalizing i with
  | nil => rfl
  | cons c r ih =>
    rw [nmT]
    split
    · rw [List.length_cons, List.drop_succ_cons, List.cons_append, ← ih]
    · rfl
theorem nmT_back {i : Nat} {n r : List UInt8} {c : UInt8} (h : nmF i n = true) (hl : i + n.length ≤ 32) (hc : nmS c = false) : nmT i (n ++ c :: r) = n := by
  induction n generalizing i with
  | nil =>
    rw [List.nil_append, nmT, if_neg]
    rintro ⟨_, e⟩
    rw [nmC_S e] at hc
    cases hc
  | cons x t ih =>
    simp only [nmF, Bool.and_eq_true] at h
    simp only [List.length_cons] at hl
    rw [List.cons_append, nmT, if_pos ⟨by omega, h.1⟩, ih h.2 (by omega)]
theorem joinC_cons (x : List UInt8) (t : List (List UInt8)) (h : t ≠ []) : joinC (x :: t) = x ++ 44 :: joinC t := by
  cases t with
  | nil => exact absurd rfl h
  | cons y t => rfl
theorem joinC_one (x : List UInt8) : joinC [x] = x := rfl
theorem rdV_fwd : ∀ {f : Nat} {l r : List UInt8} {vs : List ByteArray}, rdV f l = some (vs, r) → l = joinC (vs.map fun v => quoB v.toList) ++ 41 :: r ∧ vs ≠ []
  | 0, _, _, _, h => by cases h
  | f + 1, l, r, vs, h => by
    rw [rdV] at h
    cases hu : unqO l with
    | none => rw [hu] at h; cases h
    | some q =>
      obtain ⟨v, t⟩ := q
      rw [hu] at h
      have hl := unqO_fwd hu
      simp only at h
      cases h1 : tks [44] t with
      | some t' =>
        rw [h1] at h
        simp only [Option.map_eq_some_iff, Prod.mk.injEq] at h
        obtain ⟨⟨ws, r'⟩, h2, rfl, rfl⟩ := h
        obtain ⟨e1, e2⟩ := rdV_fwd h2
        refine ⟨?_, by simp⟩
        rw [hl, tks_fwd h1, e1, List.map_cons, joinC_cons _ _ (by simpa using e2), bar_list]
        simp
      | none =>
        rw [h1] at h
        simp only [Option.map_eq_some_iff, Prod.mk.injEq] at h
        obtain ⟨r', h2, rfl, rfl⟩ := h
        refine ⟨?_, by simp⟩
        rw [hl, tks_fwd h2, List.map_cons, List.map_nil, joinC_one, bar_list]
        rfl
theorem rdV_back : ∀ {f : Nat} {vs : List ByteArray} (r : List UInt8), vs ≠ [] → vs.length ≤ f → rdV f (joinC (vs.map fun v => quoB v.toList) ++ 41 :: r) = some (vs, r)
  | 0, [], _, h, _ => absurd rfl h
  | 0, _ :: _, _, _, h => by simp at h
  | f + 1, [], _, h, _ => absurd rfl h
  | f + 1, [v], r, _, _ => by
    rw [List.map_cons, List.map_nil, joinC_one, rdV, unqO_back]
    simp only
    rw [tks_no (by decide), tks_one]
    simp only [Option.map_some, bar_of]
  | f + 1, v :: y :: t, r, _, hl => by
    rw [List.map_cons, joinC_cons _ _ (by simp), List.append_assoc, rdV, unqO_back]
    simp only [List.cons_append]
    rw [tks_one]
    simp only
    rw [rdV_back r (by simp) (by simpa using hl), Option.map_some, bar_of]
theorem rdB_fwd {l r : List UInt8} {vs : List ByteArray} (h : rdB l = some (vs, r)) : l = 40 :: (joinC (vs.map fun v => quoB v.toList) ++ 41 :: r) := by
  unfold rdB at h
  cases h1 : tks [40] l with
  | none => rw [h1] at h; cases h
  | some t =>
    rw [h1] at h
    rw [tks_fwd h1]
    simp only at h
    cases h2 : tks [41] t with
    | some t' =>
      rw [h2] at h
      simp only [Option.some.injEq, Prod.mk.injEq] at h
      obtain ⟨rfl, rfl⟩ := h
      rw [tks_fwd h2]
      rfl
    | none =>
      rw [h2] at h
      rw [(rdV_fwd h).1]
      rfl
theorem join_head {vs : List ByteArray} (h : vs ≠ []) : ∃ t, joinC (vs.map fun v => quoB v.toList) = 34 :: t := by
  match vs, h with
  | [v], _ => exact ⟨_, rfl⟩
  | v :: y :: t, _ => exact ⟨_, rfl⟩
theorem join_len (vs : List ByteArray) : vs.length ≤ (joinC (vs.map fun v => quoB v.toList)).length := by
  induction vs with
  | nil => simp
  | cons v t ih =>
    by_cases h : t = []
    · subst h
      rw [List.map_cons, List.map_nil, joinC_one]
      unfold quoB
      simp
    · rw [List.map_cons, joinC_cons _ _ (by simpa using h)]
      simp only [List.length_append, List.length_cons]
      omega
theorem rdB_back {vs : List ByteArray} (r : List UInt8) (h : vs ≠ []) : rdB (40 :: (joinC (vs.map fun v => quoB v.toList) ++ 41 :: r)) = some (vs, r) := by
  unfold rdB
  rw [tks_one]
  simp only
  obtain ⟨t, ht⟩ := join_head h
  rw [show tks [41] (joinC (vs.map fun v => quoB v.toList) ++ 41 :: r) = none by rw [ht, List.cons_append]; exact tks_no (by decide) _ _]
  simp only
  refine rdV_back r h ?_
  have := join_len vs
  rw [List.length_append]
  omega
theorem rdA_fwd {nm : ByteArray} {l r : List UInt8} {m : Mt} (h : rdA nm l = some (m, r)) : nm.toList ++ l = textM m ++ r := by
  unfold rdA at h
  cases h1 : tks [61] l with
  | some t =>
    rw [h1] at h
    simp only [Option.map_eq_some_iff, Prod.mk.injEq] at h
    obtain ⟨⟨v, r'⟩, h2, rfl, rfl⟩ := h
    rw [tks_fwd h1, unqO_fwd h2, textM]
    simp [bar_list]
  | none =>
    rw [h1] at h
    simp only at h
    cases h2 : tks [33, 61] l with
    | some t =>
      rw [h2] at h
      simp only [Option.map_eq_some_iff, Prod.mk.injEq] at h
      obtain ⟨⟨v, r'⟩, h3, rfl, rfl⟩ := h
      rw [tks_fwd h2, unqO_fwd h3, textM]
      simp [bar_list]
    | none =>
      rw [h2] at h
      simp only at h
      cases h3 : tks [94, 61] l with
      | some t =>
        rw [h3] at h
        simp only [Option.map_eq_some_iff, Prod.mk.injEq] at h
        obtain ⟨⟨v, r'⟩, h4, rfl, rfl⟩ := h
        rw [tks_fwd h3, unqO_fwd h4, textM]
        simp [bar_list]
      | none =>
        rw [h3] at h
        simp only at h
        cases h4 : tks [64] l with
        | some t =>
          rw [h4] at h
          simp only [Option.map_eq_some_iff, Prod.mk.injEq] at h
          obtain ⟨⟨v, r'⟩, h5, rfl, rfl⟩ := h
          rw [tks_fwd h4, rdB_fwd h5, textM]
          simp
        | none => rw [h4] at h; cases h
theorem rdN_fwd {l r : List UInt8} {m : Mt} (h : rdN l = some (m, r)) : l = textM m ++ r := by
  have := rdA_fwd h
  rw [bar_list, ← nmT_pre] at this
  exact this
theorem rdN_back {nm : ByteArray} {c : UInt8} {l : List UInt8} (h : nameB nm = true) (hc : nmS c = false) : rdN (nm.toList ++ c :: l) = rdA nm (c :: l) := by
  unfold nameB at h
  simp only [Bool.and_eq_true, decide_eq_true_eq] at h
  have e : nmT 0 (nm.toList ++ c :: l) = nm.toList := nmT_back h.1 (by rw [ba_len]; omega) hc
  unfold rdN
  rw [e, bar_of, List.drop_left]

/-- What is read has that text. -/
theorem rd_fwd (f : Nat) : (∀ (left : Nat) (l r : List UInt8) (m : Mt) (q : Nat), rdM f left l = some (m, r, q) → l = textM m ++ r ∧ q < left) ∧
    (∀ (left : Nat) (l r : List UInt8) (ks : List Mt) (q : Nat), rdK f left l = some (ks, r, q) → l = 40 :: (joinC (textKs ks) ++ 41 :: r) ∧ q ≤ left) ∧
    (∀ (left : Nat) (l r : List UInt8) (ks : List Mt) (q : Nat), rdT f left l = some (ks, r, q) → l = joinC (textKs ks) ++ 41 :: r ∧ ks ≠ [] ∧ q < left) := by
  induction f with
  | zero => exact ⟨fun left l r m q h => (by rw [rdM] at h; cases h), fun left l r m q h => (by rw [rdK] at h; cases h), fun left l r m q h => (by rw [rdT] at h; cases h)⟩
  | succ f ih =>
    obtain ⟨ihM, ihL, ihT⟩ := ih
    refine ⟨?_, ?_, ?_⟩
    · intro left l r m q h
      cases left with
      | zero => rw [rdM] at h; cases h
      | succ left =>
        rw [rdM] at h
        cases h1 : tks [42] l with
        | some t =>
          rw [h1] at h
          simp only [Option.some.injEq, Prod.mk.injEq] at h
          obtain ⟨rfl, rfl, rfl⟩ := h
          exact ⟨by rw [tks_fwd h1, textM]; rfl, by omega⟩
        | none =>
          rw [h1] at h
          simp only at h
          cases h2 : tks [38] l with
          | some t =>
            rw [h2] at h
            simp only [Option.map_eq_some_iff, Prod.mk.injEq] at h
            obtain ⟨⟨ks, r', q'⟩, h3, rfl, rfl, rfl⟩ := h
            obtain ⟨e, hq⟩ := ihL _ _ _ _ _ h3
            exact ⟨by rw [tks_fwd h2, e, textM]; simp, by omega⟩
          | none =>
            rw [h2] at h
            simp only at h
            cases h3 : tks [124] l with
            | some t =>
              rw [h3] at h
              simp only [Option.map_eq_some_iff, Prod.mk.injEq] at h
              obtain ⟨⟨ks, r', q'⟩, h4, rfl, rfl, rfl⟩ := h
              obtain ⟨e, hq⟩ := ihL _ _ _ _ _ h4
              exact ⟨by rw [tks_fwd h3, e, textM]; simp, by omega⟩
            | none =>
              rw [h3] at h
              simp only at h
              cases h4 : tks [33] l with
              | some t =>
                rw [h4] at h
                simp only [Option.map_eq_some_iff, Prod.mk.injEq] at h
                obtain ⟨⟨ks, r', q'⟩, h5, rfl, rfl, rfl⟩ := h
                obtain ⟨e, hq⟩ := ihL _ _ _ _ _ h5
                exact ⟨by rw [tks_fwd h4, e, textM]; simp, by omega⟩
              | none =>
                rw [h4] at h
                simp only [Option.map_eq_some_iff, Prod.mk.injEq] at h
                obtain ⟨⟨m', r'⟩, h5, rfl, rfl, rfl⟩ := h
                exact ⟨rdN_fwd h5, by omega⟩
    · intro left l r ks q h
      rw [rdK] at h
      cases h1 : tks [40] l with
      | none => rw [h1] at h; cases h
      | some t =>
        rw [h1] at h
        simp only at h
        cases h2 : tks [41] t with
        | some t' =>
          rw [h2] at h
          simp only [Option.some.injEq, Prod.mk.injEq] at h
          obtain ⟨rfl, rfl, rfl⟩ := h
          exact ⟨by rw [tks_fwd h1, tks_fwd h2, textKs]; rfl, Nat.le_refl _⟩
        | none =>
          rw [h2] at h
          obtain ⟨e, _, hq⟩ := ihT _ _ _ _ _ h
          exact ⟨by rw [tks_fwd h1, e]; rfl, by omega⟩
    · intro left l r ks q h
      rw [rdT] at h
      cases hm : rdM f left l with
      | none => rw [hm] at h; cases h
      | some z =>
        obtain ⟨k, t, left'⟩ := z
        rw [hm] at h
        obtain ⟨e, hq⟩ := ihM _ _ _ _ _ hm
        simp only at h
        cases h1 : tks [44] t with
        | some t' =>
          rw [h1] at h
          simp only [Option.map_eq_some_iff, Prod.mk.injEq] at h
          obtain ⟨⟨ks', r', q'⟩, h2, rfl, rfl, rfl⟩ := h
          obtain ⟨e2, e3, hq2⟩ := ihT _ _ _ _ _ h2
          refine ⟨?_, by simp, by omega⟩
          rw [e, tks_fwd h1, e2, textKs, joinC_cons]
          · simp
          · cases ks' with
            | nil => exact absurd rfl e3
            | cons y ys => simp [textKs]
        | none =>
          rw [h1] at h
          simp only [Option.map_eq_some_iff, Prod.mk.injEq] at h
          obtain ⟨r', h2, rfl, rfl, rfl⟩ := h
          refine ⟨?_, by simp, hq⟩
          rw [e, tks_fwd h2, textKs, textKs, joinC_one]
          rfl

theorem fit_names {m : Mt} (h : fitB m = true) : (m.op = 0 ∧ m = zeroM) ∨ ((m.op = 1 ∨ m.op = 2 ∨ m.op = 3) ∧ nameB m.nm = true ∧ m.vs = [] ∧ m.ks = []) ∨ (m.op = 4 ∧ nameB m.nm = true ∧ m.vl = .empty ∧ valsB m.vs = true ∧ m.ks = []) ∨ ((m.op = 5 ∨ m.op = 6 ∨ m.op = 7) ∧ m.nm = .empty ∧ m.vl = .empty ∧ m.vs = [] ∧ (m.op = 7 → m.ks.length = 1)) := by
  have e0 : ∀ {s : ByteArray}, s.size = 0 → s = .empty := fun {s} h => ba_ext (by
    rw [List.length_eq_zero_iff.1 (show s.toList.length = 0 by rw [ba_len]; exact h)]
    decide +kernel)
  unfold fitB at h
  split at h
  · rename_i ho
    simp only [Bool.and_eq_true, decide_eq_true_eq] at h
    exact Or.inl ⟨ho, Mt.ext ho (e0 h.1.1.2) (e0 h.1.1.1) (List.length_eq_zero_iff.1 h.1.2) (List.length_eq_zero_iff.1 h.2)⟩
  · split at h
    · rename_i ho
      simp only [Bool.and_eq_true, decide_eq_true_eq] at h
      exact Or.inr (Or.inl ⟨ho, h.1.2, List.length_eq_zero_iff.1 h.1.1.1, List.length_eq_zero_iff.1 h.1.1.2⟩)
    · split at h
      · rename_i ho
        simp only [Bool.and_eq_true, decide_eq_true_eq] at h
        exact Or.inr (Or.inr (Or.inl ⟨ho, h.1.2, e0 h.1.1.1, h.2, List.length_eq_zero_iff.1 h.1.1.2⟩))
      · split at h
        · rename_i ho
          simp only [Bool.and_eq_true, decide_eq_true_eq, Bool.or_eq_true] at h
          refine Or.inr (Or.inr (Or.inr ⟨ho, e0 h.1.1.2, e0 h.1.1.1, List.length_eq_zero_iff.1 h.1.2, fun h7 => ?_⟩))
          rcases h.2 with h2 | h2
          · exact absurd h7 h2
          · exact h2
        · cases h
theorem textM_eq (m : Mt) : textM m = (if m.op = 0 then [42]
    else if m.op = 1 then m.nm.toList ++ 61 :: quoB m.vl.toList
    else if m.op = 2 then m.nm.toList ++ 33 :: 61 :: quoB m.vl.toList
    else if m.op = 3 then m.nm.toList ++ 94 :: 61 :: quoB m.vl.toList
    else if m.op = 4 then m.nm.toList ++ 64 :: 40 :: (joinC (m.vs.map fun v => quoB v.toList) ++ [41])
    else (if m.op = 6 then 124 else if m.op = 7 then 33 else 38) :: 40 :: (joinC (textKs m.ks) ++ [41])) := by
  cases m; rw [textM]; rfl
theorem vals_some {l : List ByteArray} (h : valsB l = true) : l ≠ [] := by
  rintro rfl
  cases h
/-- How a text of one that may be begins: with a sign that no name has, or with a name. -/
theorem text_head {m : Mt} (h : fitB m = true) : ∃ c t, textM m = c :: t ∧ c ≠ 41 ∧ c ≠ 44 := by
  have nb : ∀ {nm : ByteArray} {t : List UInt8}, nameB nm = true → ∃ c u, nm.toList ++ t = c :: u ∧ nmS c = true := by
    intro nm t hn
    unfold nameB at hn
    simp only [Bool.and_eq_true, decide_eq_true_eq] at hn
    have hl : nm.toList.length ≠ 0 := by rw [ba_len]; omega
    cases hx : nm.toList with
    | nil => rw [hx] at hl; exact absurd rfl hl
    | cons c u => exact ⟨c, _, rfl, nmF_all hn.1 c (by rw [hx]; simp)⟩
  have ns : ∀ {c : UInt8}, nmS c = true → c ≠ 41 ∧ c ≠ 44 := fun {c} hc => ⟨fun e => by subst e; revert hc; decide, fun e => by subst e; revert hc; decide⟩
  rw [textM_eq]
  rcases fit_names h with ⟨ho, -⟩ | ⟨ho, hn, -, -⟩ | ⟨ho, hn, -, -, -⟩ | ⟨ho, -, -, -, -⟩
  · rw [if_pos ho]
    exact ⟨_, _, rfl, by decide, by decide⟩
  · rw [if_neg (by omega)]
    rcases ho with ho | ho | ho
    · rw [if_pos ho]
      obtain ⟨c, u, e, hc⟩ := nb (t := 61 :: quoB m.vl.toList) hn
      exact ⟨c, u, e, ns hc⟩
    · rw [if_neg (by omega), if_pos ho]
      obtain ⟨c, u, e, hc⟩ := nb (t := 33 :: 61 :: quoB m.vl.toList) hn
      exact ⟨c, u, e, ns hc⟩
    · rw [if_neg (by omega), if_neg (by omega), if_pos ho]
      obtain ⟨c, u, e, hc⟩ := nb (t := 94 :: 61 :: quoB m.vl.toList) hn
      exact ⟨c, u, e, ns hc⟩
  · rw [if_neg (by omega), if_neg (by omega), if_neg (by omega), if_neg (by omega), if_pos ho]
    obtain ⟨c, u, e, hc⟩ := nb (t := 64 :: 40 :: (joinC (m.vs.map fun v => quoB v.toList) ++ [41])) hn
    exact ⟨c, u, e, ns hc⟩
  · rw [if_neg (by omega), if_neg (by omega), if_neg (by omega), if_neg (by omega), if_neg (by omega)]
    rcases ho with ho | ho | ho
    · exact ⟨38, _, by rw [if_neg (by omega), if_neg (by omega)], by decide, by decide⟩
    · exact ⟨124, _, by rw [if_pos ho], by decide, by decide⟩
    · exact ⟨33, _, by rw [if_neg (by omega), if_pos ho], by decide, by decide⟩
/-- A name's matcher is read back. -/
theorem rdN_text {m : Mt} (h : fitB m = true) (h1 : 1 ≤ m.op) (h4 : m.op ≤ 4) (r : List UInt8) : rdN (textM m ++ r) = some (m, r) ∧ ∃ c t, textM m = c :: t ∧ nmS c = true := by
  have nb : ∀ {nm : ByteArray} {t : List UInt8}, nameB nm = true → ∃ c u, nm.toList ++ t = c :: u ∧ nmS c = true := by
    intro nm t hn
    unfold nameB at hn
    simp only [Bool.and_eq_true, decide_eq_true_eq] at hn
    have hl : nm.toList.length ≠ 0 := by rw [ba_len]; omega
    cases hx : nm.toList with
    | nil => rw [hx] at hl; exact absurd rfl hl
    | cons c u => exact ⟨c, _, rfl, nmF_all hn.1 c (by rw [hx]; simp)⟩
  rw [textM_eq]
  rcases fit_names h with ⟨ho, -⟩ | ⟨ho, hn, hv, hk⟩ | ⟨ho, hn, hvl, hv, hk⟩ | ⟨ho, -, -, -, -⟩
  · omega
  · rw [if_neg (by omega)]
    rcases ho with ho | ho | ho
    · rw [if_pos ho]
      refine ⟨?_, nb hn⟩
      rw [List.append_assoc, List.cons_append, rdN_back hn (by decide)]
      unfold rdA
      rw [tks_one]
      simp only
      rw [unqO_back, Option.map_some, bar_of]
      congr 1
      exact Prod.ext (Mt.ext ho.symm rfl rfl hv.symm hk.symm) rfl
    · rw [if_neg (by omega), if_pos ho]
      refine ⟨?_, nb hn⟩
      rw [List.append_assoc, List.cons_append, List.cons_append, rdN_back hn (by decide)]
      unfold rdA
      rw [tks_no (by decide), show tks [33, 61] (33 :: 61 :: (quoB m.vl.toList ++ r)) = some (quoB m.vl.toList ++ r) from tks_back [33, 61] _]
      simp only
      rw [unqO_back, Option.map_some, bar_of]
      congr 1
      exact Prod.ext (Mt.ext ho.symm rfl rfl hv.symm hk.symm) rfl
    · rw [if_neg (by omega), if_neg (by omega), if_pos ho]
      refine ⟨?_, nb hn⟩
      rw [List.append_assoc, List.cons_append, List.cons_append, rdN_back hn (by decide)]
      unfold rdA
      rw [tks_no (by decide), tks_no (by decide), show tks [94, 61] (94 :: 61 :: (quoB m.vl.toList ++ r)) = some (quoB m.vl.toList ++ r) from tks_back [94, 61] _]
      simp only
      rw [unqO_back, Option.map_some, bar_of]
      congr 1
      exact Prod.ext (Mt.ext ho.symm rfl rfl hv.symm hk.symm) rfl
  · rw [if_neg (by omega), if_neg (by omega), if_neg (by omega), if_neg (by omega), if_pos ho]
    refine ⟨?_, nb hn⟩
    rw [List.append_assoc, List.cons_append, rdN_back hn (by decide)]
    unfold rdA
    rw [tks_no (by decide), tks_no (by decide), tks_no (by decide), tks_one]
    simp only
    rw [List.cons_append, List.append_assoc, List.singleton_append, rdB_back r (vals_some hv)]
    simp only [Option.map_some]
    congr 1
    exact Prod.ext (Mt.ext ho.symm rfl hvl.symm rfl hk.symm) rfl
  · omega
theorem lookF_some {m : Mt} {d n b : Nat} {r : Nat × Nat} (h : lookF m d n b = some r) : n + 1 ≤ 64 ∧ d ≤ 8 ∧ fitB m = true ∧ b + ownT m ≤ 4096 ∧ lookKs m.ks (d + 1) (n + 1) (b + ownT m) = some r := by
  rw [lookF_eq] at h
  split at h
  · cases h
  · rename_i hc
    refine ⟨by omega, by omega, ?_, by omega, h⟩
    cases hf : fitB m with
    | true => rfl
    | false => exact absurd (Or.inr (Or.inr (Or.inl hf))) hc
theorem lookKs_cons {k : Mt} {ks : List Mt} {d n b : Nat} {r : Nat × Nat} (h : lookKs (k :: ks) d n b = some r) : ∃ r', lookF k d n b = some r' ∧ lookKs ks d r'.1 r'.2 = some r := by
  rw [lookKs] at h
  cases hk : lookF k d n b with
  | none => rw [hk] at h; cases h
  | some r' => rw [hk] at h; exact ⟨r', rfl, h⟩
/-- What may be is read back from its text. -/
theorem rd_back (m : Mt) : ∀ (f d n b : Nat) (res : Nat × Nat) (r : List UInt8), lookF m d n b = some res → 3 * (64 - n) + 1 ≤ f → rdM f (64 - n) (textM m ++ r) = some (m, r, 64 - res.1) ∧ n + 1 ≤ res.1 ∧ res.1 ≤ 64 := by
  refine Mt.ind (P := fun m => ∀ (f d n b : Nat) (res : Nat × Nat) (r : List UInt8), lookF m d n b = some res → 3 * (64 - n) + 1 ≤ f → rdM f (64 - n) (textM m ++ r) = some (m, r, 64 - res.1) ∧ n + 1 ≤ res.1 ∧ res.1 ≤ 64) ?_ m
  intro m ih f d n b res r h hf
  obtain ⟨hn, hd, hfit, hb, hks⟩ := lookF_some h
  obtain ⟨f, rfl⟩ : ∃ f', f = f' + 1 := ⟨f - 1, by omega⟩
  obtain ⟨left, hleft⟩ : ∃ left, 64 - n = left + 1 := ⟨64 - n - 1, by omega⟩
  have hleft' : left = 64 - (n + 1) := by omega
  rw [hleft, rdM]
  by_cases ho4 : 1 ≤ m.op ∧ m.op ≤ 4
  · obtain ⟨hr, c, t, ht, hc⟩ := rdN_text hfit ho4.1 ho4.2 r
    have hk0 : m.ks = [] := by
      rcases fit_names hfit with ⟨ho, rfl⟩ | ⟨_, _, _, hk⟩ | ⟨_, _, _, _, hk⟩ | ⟨ho, _⟩
      · rfl
      · exact hk
      · exact hk
      · omega
    rw [hk0, lookKs] at hks
    simp only [Option.some.injEq] at hks
    subst hks
    have no : ∀ p : UInt8, nmS p = false → tks [p] (textM m ++ r) = none := fun p hp => by
      rw [ht, List.cons_append]
      exact tks_no (fun e => by rw [e, hp] at hc; cases hc) _ _
    rw [no 42 (by decide), no 38 (by decide), no 124 (by decide), no 33 (by decide), hr]
    exact ⟨by rw [Option.map_some, hleft'], by show n + 1 ≤ n + 1; omega, by show n + 1 ≤ 64; omega⟩
  · by_cases ho0 : m.op = 0
    · have hz : m = zeroM := by
        rcases fit_names hfit with ⟨_, hz⟩ | ⟨ho, _⟩ | ⟨ho, _⟩ | ⟨ho, _⟩
        · exact hz
        · omega
        · omega
        · omega
      subst hz
      rw [show zeroM.ks = [] from rfl, lookKs] at hks
      simp only [Option.some.injEq] at hks
      subst hks
      rw [show textM zeroM = [42] by rw [textM_eq, if_pos ho0], List.singleton_append, tks_one]
      exact ⟨by simp only; rw [hleft']; rfl, by show n + 1 ≤ n + 1; omega, by show n + 1 ≤ 64; omega⟩
    · obtain ⟨ho, h1, h2, h3, h7⟩ : (m.op = 5 ∨ m.op = 6 ∨ m.op = 7) ∧ m.nm = .empty ∧ m.vl = .empty ∧ m.vs = [] ∧ (m.op = 7 → m.ks.length = 1) := by
        rcases fit_names hfit with ⟨ho, _⟩ | ⟨ho, _⟩ | ⟨ho, _⟩ | hh
        · exact absurd ho ho0
        · omega
        · omega
        · exact hh
      have key : ∀ (ks : List Mt) (f n b : Nat) (res : Nat × Nat), ks ≠ [] → (∀ k ∈ ks, k ∈ m.ks) → lookKs ks (d + 1) n b = some res → n ≤ 64 → 3 * (64 - n) + 2 ≤ f → rdT f (64 - n) (joinC (textKs ks) ++ 41 :: r) = some (ks, r, 64 - res.1) ∧ n + 1 ≤ res.1 ∧ res.1 ≤ 64 := by
        intro ks
        induction ks with
        | nil => intro f n b res h; exact absurd rfl h
        | cons x t iht =>
          intro f n b res _ hm hl hn hf
          obtain ⟨r', hx, hl'⟩ := lookKs_cons hl
          obtain ⟨f, rfl⟩ : ∃ f', f = f' + 1 := ⟨f - 1, by omega⟩
          by_cases ht : t = []
          · subst ht
            obtain ⟨e, e1, e2⟩ := ih x (hm x (by simp)) f (d + 1) n b r' (41 :: r) hx (by omega)
            rw [lookKs] at hl'
            simp only [Option.some.injEq] at hl'
            subst hl'
            rw [rdT, textKs, textKs, joinC_one, e]
            simp only
            rw [tks_no (by decide), tks_one]
            exact ⟨rfl, e1, e2⟩
          · obtain ⟨e, e1, e2⟩ := ih x (hm x (by simp)) f (d + 1) n b r' (44 :: (joinC (textKs t) ++ 41 :: r)) hx (by omega)
            obtain ⟨q, q1, q2⟩ := iht f r'.1 r'.2 res ht (fun k hk => hm k (by simp [hk])) hl' e2 (by omega)
            rw [rdT, textKs, joinC_cons _ _ (by rw [textKs_map]; simpa using ht), List.append_assoc, List.cons_append, e]
            simp only
            rw [tks_one]
            simp only
            rw [q]
            exact ⟨rfl, by omega, q2⟩
      have fin : rdK f left (40 :: (joinC (textKs m.ks) ++ [41] ++ r)) = some (m.ks, r, 64 - res.1) ∧ n + 1 ≤ res.1 ∧ res.1 ≤ 64 := by
        obtain ⟨f, rfl⟩ : ∃ f', f = f' + 1 := ⟨f - 1, by omega⟩
        rw [rdK, tks_one]
        simp only
        rw [List.append_assoc, List.singleton_append]
        by_cases hk : m.ks = []
        · rw [hk] at hks ⊢
          rw [lookKs] at hks
          simp only [Option.some.injEq] at hks
          subst hks
          rw [textKs, show joinC [] = [] from rfl, List.nil_append, tks_one]
          exact ⟨by simp only; rw [hleft'], by show n + 1 ≤ n + 1; omega, by show n + 1 ≤ 64; omega⟩
        · obtain ⟨q, q1, q2⟩ := key m.ks f (n + 1) _ res hk (fun k hk => hk) hks (by omega) (by omega)
          obtain ⟨x, t, hx⟩ : ∃ x t, m.ks = x :: t := by
            cases hc : m.ks with
            | nil => exact absurd hc hk
            | cons x t => exact ⟨x, t, rfl⟩
          have hhead : ∃ c u, joinC (textKs m.ks) = c :: u ∧ c ≠ 41 := by
            rw [hx] at hks ⊢
            obtain ⟨r', hx', -⟩ := lookKs_cons hks
            obtain ⟨c, u, e, hc, -⟩ := text_head (lookF_some hx').2.2.1
            rw [textKs]
            by_cases ht : t = []
            · subst ht
              rw [textKs, joinC_one]
              exact ⟨c, u, e, hc⟩
            · rw [joinC_cons _ _ (by rw [textKs_map]; simpa using ht), e]
              exact ⟨c, _, rfl, hc⟩
          obtain ⟨c, u, e, hc⟩ := hhead
          rw [show tks [41] (joinC (textKs m.ks) ++ 41 :: r) = none by rw [e, List.cons_append]; exact tks_no hc _ _]
          simp only
          rw [hleft', q]
          exact ⟨rfl, by omega, q2⟩
      rw [textM_eq, if_neg (by omega), if_neg (by omega), if_neg (by omega), if_neg (by omega), if_neg (by omega)]
      rcases ho with ho | ho | ho
      · rw [if_neg (by omega), if_neg (by omega), List.cons_append, List.cons_append, tks_no (by decide), tks_one]
        simp only
        rw [fin.1]
        refine ⟨?_, fin.2⟩
        rw [Option.map_some]
        congr 1
        exact Prod.ext (Mt.ext ho.symm h1.symm h2.symm h3.symm rfl) rfl
      · rw [if_pos ho, List.cons_append, List.cons_append, tks_no (by decide), tks_no (by decide), tks_one]
        simp only
        rw [fin.1]
        refine ⟨?_, fin.2⟩
        rw [Option.map_some]
        congr 1
        exact Prod.ext (Mt.ext ho.symm h1.symm h2.symm h3.symm rfl) rfl
      · rw [if_neg (by omega), if_pos ho, List.cons_append, List.cons_append, tks_no (by decide), tks_no (by decide), tks_no (by decide), tks_one]
        simp only
        rw [fin.1]
        refine ⟨?_, fin.2⟩
        rw [Option.map_some]
        congr 1
        exact Prod.ext (Mt.ext ho.symm h1.symm h2.symm h3.symm rfl) rfl
/-- A text is read as the one matcher that may be and has it. -/
theorem parseM_iff {l : List UInt8} {m : Mt} : parseM l = some m ↔ chkM m = true ∧ textM m = l := by
  unfold parseM
  constructor
  · intro h
    cases hr : rdM 300 64 l with
    | none => rw [hr] at h; cases h
    | some q =>
      obtain ⟨m', r, left⟩ := q
      rw [hr] at h
      simp only at h
      split at h
      · rename_i hc
        simp only [Option.some.injEq] at h
        subst h
        refine ⟨hc.2, ?_⟩
        rw [((rd_fwd 300).1 _ _ _ _ _ hr).1, hc.1, List.append_nil]
      · cases h
  · rintro ⟨h, rfl⟩
    obtain ⟨res, hres⟩ := Option.isSome_iff_exists.1 (show (lookF m 1 0 0).isSome = true from h)
    obtain ⟨e, -⟩ := rd_back m 300 1 0 0 res [] hres (by omega)
    rw [List.append_nil] at e
    rw [show (64 : Nat) = 64 - 0 from rfl, e]
    simp only
    rw [if_pos ⟨trivial, h⟩]
theorem textM_inj {m n : Mt} (hm : chkM m = true) (hn : chkM n = true) (h : textM m = textM n) : m = n := by
  have e1 := parseM_iff.2 ⟨hm, h⟩
  have e2 := parseM_iff.2 ⟨hn, rfl⟩
  rw [e1] at e2
  exact Option.some.inj e2
end Go.Proofs.Ythebcmkainplnaa
