/-
  The document's lax reader of matchers' texts, in plain words: a matcher that may be is read back from its own text. No function is named.
  Conditions: as each theorem says.
-/
import Derived.Test.YthebcmkainplnaaMatP
namespace Go.Proofs.Ythebcmkainplnaa
set_option maxRecDepth 20000

/-- A value in its signs, read laxly. -/
def vaL (l : List UInt8) : Option (List UInt8 × List UInt8) := match tks [34] l with
  | none => none
  | some r => unqB r
/-- Values behind one another; f: how many at most. -/
def lxV : Nat → List UInt8 → Option (List ByteArray × List UInt8)
  | 0, _ => none
  | f + 1, l => match vaL l with
    | none => none
    | some q => match tks [41] q.2 with
      | some r => some ([bar q.1], r)
      | none => match tks [44] q.2 with
        | some r => (lxV f r).map (fun z => (bar q.1 :: z.1, z.2))
        | none => none
/-- What a name's matcher asks. -/
def lxA (nm : ByteArray) (l : List UInt8) : Option (Mt × List UInt8) := match tks [61] l with
  | some r => (vaL r).map (fun q => (.mk 1 nm (bar q.1) [] [], q.2))
  | none => match tks [33] l with
    | some r => match tks [61] r with
      | some r' => (vaL r').map (fun q => (.mk 2 nm (bar q.1) [] [], q.2))
      | none => none
    | none => match tks [94] l with
      | some r => match tks [61] r with
        | some r' => (vaL r').map (fun q => (.mk 3 nm (bar q.1) [] [], q.2))
        | none => none
      | none => match tks [64] l with
        | some r => match tks [40] r with
          | some r' => (lxV 17 r').map (fun q => (.mk 4 nm .empty q.1 [], q.2))
          | none => none
        | none => none
def lxN (l : List UInt8) : Option (Mt × List UInt8) := lxA (bar (l.takeWhile nmS)) (l.drop (l.takeWhile nmS).length)
mutual
/-- A matcher is read; so many more may be. -/
def lxM : Nat → Nat → List UInt8 → Option (Mt × List UInt8 × Nat)
  | 0, _, _ => none
  | _ + 1, 0, _ => none
  | f + 1, left + 1, l => match tks [42] l with
    | some r => some (.mk 0 .empty .empty [] [], r, left)
    | none => match tks [38] l with
      | some r => (lxK f left r).map (fun q => (.mk 5 .empty .empty [] q.1, q.2))
      | none => match tks [124] l with
        | some r => (lxK f left r).map (fun q => (.mk 6 .empty .empty [] q.1, q.2))
        | none => match tks [33] l with
          | some r => (lxK f left r).map (fun q => (.mk 7 .empty .empty [] q.1, q.2))
          | none => (lxN l).map (fun q => (q.1, q.2, left))
def lxK : Nat → Nat → List UInt8 → Option (List Mt × List UInt8 × Nat)
  | 0, _, _ => none
  | f + 1, left, l => match tks [40] l with
    | none => none
    | some r => match tks [41] r with
      | some r' => some ([], r', left)
      | none => lxT f left r
def lxT : Nat → Nat → List UInt8 → Option (List Mt × List UInt8 × Nat)
  | 0, _, _ => none
  | f + 1, left, l => match lxM f left l with
    | none => none
    | some q => match tks [41] q.2.1 with
      | some r => some ([q.1], r, q.2.2)
      | none => match tks [44] q.2.1 with
        | some r => (lxT f q.2.2 r).map (fun z => (q.1 :: z.1, z.2))
        | none => none
end
theorem vaL_back (v r : List UInt8) : vaL (quoB v ++ r) = some (v, r) := by
  have e : quoB v ++ r = 34 :: (v.flatMap qb ++ 34 :: r) := by unfold quoB; simp
  unfold vaL
  rw [e, tks_one]
  exact unq_back v r
theorem lxV_back : ∀ {f : Nat} {vs : List ByteArray} (r : List UInt8), vs ≠ [] → vs.length ≤ f → lxV f (joinC (vs.map fun v => quoB v.toList) ++ 41 :: r) = some (vs, r)
  | 0, [], _, h, _ => absurd rfl h
  | 0, _ :: _, _, _, h => by simp at h
  | f + 1, [], _, h, _ => absurd rfl h
  | f + 1, [v], r, _, _ => by
    rw [List.map_cons, List.map_nil, joinC_one, lxV, vaL_back]
    simp only
    rw [tks_one, bar_of]
  | f + 1, v :: y :: t, r, _, hl => by
    rw [List.map_cons, joinC_cons _ _ (by simp), List.append_assoc, lxV, vaL_back]
    simp only [List.cons_append]
    rw [tks_no (by decide), tks_one]
    simp only
    rw [lxV_back r (by simp) (by simpa using hl), Option.map_some, bar_of]
theorem span_nm {n : List UInt8} (h : ∀ c ∈ n, nmS c = true) {c : UInt8} (hc : nmS c = false) (r : List UInt8) : (n ++ c :: r).takeWhile nmS = n := by
  induction n with
  | nil => rw [List.nil_append, List.takeWhile_cons, if_neg (by rw [hc]; decide)]
  | cons x t ih => rw [List.cons_append, List.takeWhile_cons, if_pos (h x (by simp)), ih (fun y hy => h y (by simp [hy]))]
theorem lxN_back {nm : ByteArray} {c : UInt8} {l : List UInt8} (h : nameB nm = true) (hc : nmS c = false) : lxN (nm.toList ++ c :: l) = lxA nm (c :: l) := by
  unfold nameB at h
  rw [Bool.and_eq_true] at h
  have e : (nm.toList ++ c :: l).takeWhile nmS = nm.toList := span_nm (nmF_all h.1) hc l
  unfold lxN
  rw [e, bar_of, List.drop_left]
/-- A name's matcher is read back. -/
theorem lxN_text {m : Mt} (h : fitB m = true) (h1 : 1 ≤ m.op) (h4 : m.op ≤ 4) (r : List UInt8) : lxN (textM m ++ r) = some (m, r) := by
  rw [textM_eq]
  rcases fit_names h with ⟨ho, -⟩ | ⟨ho, hn, hv, hk⟩ | ⟨ho, hn, hvl, hv, hk⟩ | ⟨ho, -, -, -, -⟩
  · omega
  · rw [if_neg (by omega)]
    rcases ho with ho | ho | ho
    · rw [if_pos ho, List.append_assoc, List.cons_append, lxN_back hn (by decide)]
      unfold lxA
      rw [tks_one]
      simp only
      rw [vaL_back, Option.map_some, bar_of]
      congr 1
      exact Prod.ext (Mt.ext ho.symm rfl rfl hv.symm hk.symm) rfl
    · rw [if_neg (by omega), if_pos ho, List.append_assoc, List.cons_append, List.cons_append, lxN_back hn (by decide)]
      unfold lxA
      rw [tks_no (by decide), tks_one]
      simp only
      rw [tks_one]
      simp only
      rw [vaL_back, Option.map_some, bar_of]
      congr 1
      exact Prod.ext (Mt.ext ho.symm rfl rfl hv.symm hk.symm) rfl
    · rw [if_neg (by omega), if_neg (by omega), if_pos ho, List.append_assoc, List.cons_append, List.cons_append, lxN_back hn (by decide)]
      unfold lxA
      rw [tks_no (by decide), tks_no (by decide), tks_one]
      simp only
      rw [tks_one]
      simp only
      rw [vaL_back, Option.map_some, bar_of]
      congr 1
      exact Prod.ext (Mt.ext ho.symm rfl rfl hv.symm hk.symm) rfl
  · rw [if_neg (by omega), if_neg (by omega), if_neg (by omega), if_neg (by omega), if_pos ho, List.append_assoc, List.cons_append, lxN_back hn (by decide)]
    unfold lxA
    rw [tks_no (by decide), tks_no (by decide), tks_no (by decide), tks_one]
    simp only
    rw [List.cons_append, tks_one]
    simp only
    have h16 : m.vs.length ≤ 17 := by
      unfold valsB at hv
      simp only [Bool.and_eq_true, decide_eq_true_eq] at hv
      omega
    rw [List.append_assoc, List.singleton_append, lxV_back r (vals_some hv) h16]
    simp only [Option.map_some]
    congr 1
    exact Prod.ext (Mt.ext ho.symm rfl hvl.symm rfl hk.symm) rfl
  · omega
/-- What may be is read back from its text. -/
theorem lx_back (m : Mt) : ∀ (f d n b : Nat) (res : Nat × Nat) (r : List UInt8), lookF m d n b = some res → 3 * (64 - n) + 1 ≤ f → lxM f (64 - n) (textM m ++ r) = some (m, r, 64 - res.1) ∧ n + 1 ≤ res.1 ∧ res.1 ≤ 64 := by
  refine Mt.ind (P := fun m => ∀ (f d n b : Nat) (res : Nat × Nat) (r : List UInt8), lookF m d n b = some res → 3 * (64 - n) + 1 ≤ f → lxM f (64 - n) (textM m ++ r) = some (m, r, 64 - res.1) ∧ n + 1 ≤ res.1 ∧ res.1 ≤ 64) ?_ m
  intro m ih f d n b res r h hf
  obtain ⟨hn, hd, hfit, hb, hks⟩ := lookF_some h
  obtain ⟨f, rfl⟩ : ∃ f', f = f' + 1 := ⟨f - 1, by omega⟩
  obtain ⟨left, hleft⟩ : ∃ left, 64 - n = left + 1 := ⟨64 - n - 1, by omega⟩
  have hleft' : left = 64 - (n + 1) := by omega
  rw [hleft, lxM]
  by_cases ho4 : 1 ≤ m.op ∧ m.op ≤ 4
  · obtain ⟨-, c, t, ht, hc⟩ := rdN_text hfit ho4.1 ho4.2 r
    have hr := lxN_text hfit ho4.1 ho4.2 r
    have hk0 : m.ks = [] := by
      rcases fit_names hfit with ⟨ho, rfl⟩ | ⟨_, _, _, hk⟩ | ⟨_, _, _, _, hk⟩ | ⟨ho, _⟩
      · rfl
      · exact hk
      · exact hk
      · omega
    rw [hk0, lookKs] at hks
    simp only [Option.some.injEq] at hks
    subst hks
    have no : ∀ p : UInt8, nmS p = false → tks [p] (textM m ++ r) = none := fun p hp => by
      rw [ht, List.cons_append]
      exact tks_no (fun e => by rw [e, hp] at hc; cases hc) _ _
    rw [no 42 (by decide), no 38 (by decide), no 124 (by decide), no 33 (by decide), hr]
    exact ⟨by rw [Option.map_some, hleft'], by show n + 1 ≤ n + 1; omega, by show n + 1 ≤ 64; omega⟩
  · by_cases ho0 : m.op = 0
    · have hz : m = zeroM := by
        rcases fit_names hfit with ⟨_, hz⟩ | ⟨ho, _⟩ | ⟨ho, _⟩ | ⟨ho, _⟩
        · exact hz
        · omega
        · omega
        · omega
      subst hz
      rw [show zeroM.ks = [] from rfl, lookKs] at hks
      simp only [Option.some.injEq] at hks
      subst hks
      rw [show textM zeroM = [42] by rw [textM_eq, if_pos ho0], List.singleton_append, tks_one]
      exact ⟨by simp only; rw [hleft']; rfl, by show n + 1 ≤ n + 1; omega, by show n + 1 ≤ 64; omega⟩
    · obtain ⟨ho, h1, h2, h3, h7⟩ : (m.op = 5 ∨ m.op = 6 ∨ m.op = 7) ∧ m.nm = .empty ∧ m.vl = .empty ∧ m.vs = [] ∧ (m.op = 7 → m.ks.length = 1) := by
        rcases fit_names hfit with ⟨ho, _⟩ | ⟨ho, _⟩ | ⟨ho, _⟩ | hh
        · exact absurd ho ho0
        · omega
        · omega
        · exact hh
      have key : ∀ (ks : List Mt) (f n b : Nat) (res : Nat × Nat), ks ≠ [] → (∀ k ∈ ks, k ∈ m.ks) → lookKs ks (d + 1) n b = some res → n ≤ 64 → 3 * (64 - n) + 2 ≤ f → lxT f (64 - n) (joinC (textKs ks) ++ 41 :: r) = some (ks, r, 64 - res.1) ∧ n + 1 ≤ res.1 ∧ res.1 ≤ 64 := by
        intro ks
        induction ks with
        | nil => intro f n b res h; exact absurd rfl h
        | cons x t iht =>
          intro f n b res _ hm hl hn hf
          obtain ⟨r', hx, hl'⟩ := lookKs_cons hl
          obtain ⟨f, rfl⟩ : ∃ f', f = f' + 1 := ⟨f - 1, by omega⟩
          by_cases ht : t = []
          · subst ht
            obtain ⟨e, e1, e2⟩ := ih x (hm x (by simp)) f (d + 1) n b r' (41 :: r) hx (by omega)
            rw [lookKs] at hl'
            simp only [Option.some.injEq] at hl'
            subst hl'
            rw [lxT, textKs, textKs, joinC_one, e]
            simp only
            rw [tks_one]
            exact ⟨rfl, e1, e2⟩
          · obtain ⟨e, e1, e2⟩ := ih x (hm x (by simp)) f (d + 1) n b r' (44 :: (joinC (textKs t) ++ 41 :: r)) hx (by omega)
            obtain ⟨q, q1, q2⟩ := iht f r'.1 r'.2 res ht (fun k hk => hm k (by simp [hk])) hl' e2 (by omega)
            rw [lxT, textKs, joinC_cons _ _ (by rw [textKs_map]; simpa using ht), List.append_assoc, List.cons_append, e]
            simp only
            rw [tks_no (by decide), tks_one]
            simp only
            rw [q]
            exact ⟨rfl, by omega, q2⟩
      have fin : lxK f left (40 :: (joinC (textKs m.ks) ++ [41] ++ r)) = some (m.ks, r, 64 - res.1) ∧ n + 1 ≤ res.1 ∧ res.1 ≤ 64 := by
        obtain ⟨f, rfl⟩ : ∃ f', f = f' + 1 := ⟨f - 1, by omega⟩
        rw [lxK, tks_one]
        simp only
        rw [List.append_assoc, List.singleton_append]
        by_cases hk : m.ks = []
        · rw [hk] at hks ⊢
          rw [lookKs] at hks
          simp only [Option.some.injEq] at hks
          subst hks
          rw [textKs, show joinC [] = [] from rfl, List.nil_append, tks_one]
          exact ⟨by simp only; rw [hleft'], by show n + 1 ≤ n + 1; omega, by show n + 1 ≤ 64; omega⟩
        · obtain ⟨q, q1, q2⟩ := key m.ks f (n + 1) _ res hk (fun k hk => hk) hks (by omega) (by omega)
          obtain ⟨x, t, hx⟩ : ∃ x t, m.ks = x :: t := by
            cases hc : m.ks with
            | nil => exact absurd hc hk
            | cons x t => exact ⟨x, t, rfl⟩
          have hhead : ∃ c u, joinC (textKs m.ks) = c :: u ∧ c ≠ 41 := by
            rw [hx] at hks ⊢
            obtain ⟨r', hx', -⟩ := lookKs_cons hks
            obtain ⟨c, u, e, hc, -⟩ := text_head (lookF_some hx').2.2.1
            rw [textKs]
            by_cases ht : t = []
            · subst ht
              rw [textKs, joinC_one]
              exact ⟨c, u, e, hc⟩
            · rw [joinC_cons _ _ (by rw [textKs_map]; simpa using ht), e]
              exact ⟨c, _, rfl, hc⟩
          obtain ⟨c, u, e, hc⟩ := hhead
          rw [show tks [41] (joinC (textKs m.ks) ++ 41 :: r) = none by rw [e, List.cons_append]; exact tks_no hc _ _]
          simp only
          rw [hleft', q]
          exact ⟨rfl, by omega, q2⟩
      rw [textM_eq, if_neg (by omega), if_neg (by omega), if_neg (by omega), if_neg (by omega), if_neg (by omega)]
      rcases ho with ho | ho | ho
      · rw [if_neg (by omega), if_neg (by omega), List.cons_append, List.cons_append, tks_no (by decide), tks_one]
        simp only
        rw [fin.1]
        refine ⟨?_, fin.2⟩
        rw [Option.map_some]
        congr 1
        exact Prod.ext (Mt.ext ho.symm h1.symm h2.symm h3.symm rfl) rfl
      · rw [if_pos ho, List.cons_append, List.cons_append, tks_no (by decide), tks_no (by decide), tks_one]
        simp only
        rw [fin.1]
        refine ⟨?_, fin.2⟩
        rw [Option.map_some]
        congr 1
        exact Prod.ext (Mt.ext ho.symm h1.symm h2.symm h3.symm rfl) rfl
      · rw [if_neg (by omega), if_pos ho, List.cons_append, List.cons_append, tks_no (by decide), tks_no (by decide), tks_no (by decide), tks_one]
        simp only
        rw [fin.1]
        refine ⟨?_, fin.2⟩
        rw [Option.map_some]
        congr 1
        exact Prod.ext (Mt.ext ho.symm h1.symm h2.symm h3.symm rfl) rfl
/-- What the document's reading comes to: the matcher whose text it is. -/
theorem lx_parse {l : List UInt8} : (∀ m, parseM l = some m → ∃ left, lxM 300 64 l = some (m, [], left)) ∧ (∀ m r left, lxM 300 64 l = some (m, r, left) → (chkM m = true ∧ textM m = l ↔ parseM l = some m)) := by
  constructor
  · intro m h
    obtain ⟨hc, rfl⟩ := parseM_iff.1 h
    obtain ⟨res, hres⟩ := Option.isSome_iff_exists.1 (show (lookF m 1 0 0).isSome = true from hc)
    obtain ⟨e, -⟩ := lx_back m 300 1 0 0 res [] hres (by omega)
    rw [List.append_nil] at e
    exact ⟨_, e⟩
  · intro m r left _
    exact parseM_iff.symm
end Go.Proofs.Ythebcmkainplnaa
