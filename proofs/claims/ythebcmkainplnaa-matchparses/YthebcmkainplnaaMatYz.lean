/-
  The document's lax reader of matchers' texts, in plain words: a matcher that may be is read back from its own text. No function is named. The document's deep (how deep a text's brackets are open): a contract, for every world; nothing turns (written by gen/matyb.gen.py). What the document's reader of a matcher's text has in memory: the reader, the count, the boxes, the lists that grow; what its calls leave of it. What the document's reader of a matcher's text has in memory, further: where it starts, where it has gone bad, the values that grow (written by gen/matyd.gen.py). The document's reader of a matcher's text (read: where it starts, All, the kids): contracts, for every world (written by gen/matye.gen.py). The document's reader of a matcher's text (read: what begins with a name): a contract, for every world (written by gen/matyf.gen.py). The document's reader of a matcher's text (read: the kids of op 5): a contract, for every world (written by gen/matye.gen.py). The document's reader of a matcher's text (read: the kids of op 6): a contract, for every world (written by gen/matye.gen.py). The document's reader of a matcher's text (read: the kids of op 7): a contract, for every world (written by gen/matye.gen.py). The document's read, all of it, and its Parse: contracts, for every world (written by gen/matyj.gen.py).
  Conditions: as each theorem says; texts of at most 20,000 bytes; the reader and the count lie in blocks of their own; the place is within the text, of at most 20,000 bytes; the text has at most 20,000 bytes.
-/
import Derived.Test.YthebcmkainplnaaMatP
import Derived.Test.YthebcmkainplnaaMatTz
import Derived.Test.YthebcmkainplnaaLabHv
import Derived.Test.YthebcmkainplnaaMatT
import Derived.Test.YthebcmkainplnaaMatH
import Derived.Test.YthebcmkainplnaaMatLz
namespace Go.Proofs.Ythebcmkainplnaa
set_option maxRecDepth 20000

/-- A value in its signs, read laxly. -/
def vaL (l : List UInt8) : Option (List UInt8 × List UInt8) := match tks [34] l with
  | none => none
  | some r => unqB r
/-- Values behind one another; f: how many at most. -/
def lxV : Nat → List UInt8 → Option (List ByteArray × List UInt8)
  | 0, _ => none
  | f + 1, l => match vaL l with
    | none => none
    | some q => match tks [41] q.2 with
      | some r => some ([bar q.1], r)
      | none => match tks [44] q.2 with
        | some r => (lxV f r).map (fun z => (bar q.1 :: z.1, z.2))
        | none => none
/-- What a name's matcher asks. -/
def lxA (nm : ByteArray) (l : List UInt8) : Option (Mt × List UInt8) := match tks [61] l with
  | some r => (vaL r).map (fun q => (.mk 1 nm (bar q.1) [] [], q.2))
  | none => match tks [33] l with
    | some r => match tks [61] r with
      | some r' => (vaL r').map (fun q => (.mk 2 nm (bar q.1) [] [], q.2))
      | none => none
    | none => match tks [94] l with
      | some r => match tks [61] r with
        | some r' => (vaL r').map (fun q => (.mk 3 nm (bar q.1) [] [], q.2))
        | none => none
      | none => match tks [64] l with
        | some r => match tks [40] r with
          | some r' => (lxV 17 r').map (fun q => (.mk 4 nm .empty q.1 [], q.2))
          | none => none
        | none => none
def lxN (l : List UInt8) : Option (Mt × List UInt8) := lxA (bar (l.takeWhile nmS)) (l.drop (l.takeWhile nmS).length)
mutual
/-- A matcher is read; so many more may be. -/
def lxM : Nat → Nat → List UInt8 → Option (Mt × List UInt8 × Nat)
  | 0, _, _ => none
  | _ + 1, 0, _ => none
  | f + 1, left + 1, l => match tks [42] l with
    | some r => some (.mk 0 .empty .empty [] [], r, left)
    | none => match tks [38] l with
      | some r => (lxK f left r).map (fun q => (.mk 5 .empty .empty [] q.1, q.2))
      | none => match tks [124] l with
        | some r => (lxK f left r).map (fun q => (.mk 6 .empty .empty [] q.1, q.2))
        | none => match tks [33] l with
          | some r => (lxK f left r).map (fun q => (.mk 7 .empty .empty [] q.1, q.2))
          | none => (lxN l).map (fun q => (q.1, q.2, left))
def lxK : Nat → Nat → List UInt8 → Option (List Mt × List UInt8 × Nat)
  | 0, _, _ => none
  | f + 1, left, l => match tks [40] l with
    | none => none
    | some r => match tks [41] r with
      | some r' => some ([], r', left)
      | none => lxT f left r
def lxT : Nat → Nat → List UInt8 → Option (List Mt × List UInt8 × Nat)
  | 0, _, _ => none
  | f + 1, left, l => match lxM f left l with
    | none => none
    | some q => match tks [41] q.2.1 with
      | some r => some ([q.1], r, q.2.2)
      | none => match tks [44] q.2.1 with
        | some r => (lxT f q.2.2 r).map (fun z => (q.1 :: z.1, z.2))
        | none => none
end
theorem vaL_back (v r : List UInt8) : vaL (quoB v ++ r) = some (v, r) := by
  have e : quoB v ++ r = 34 :: (v.flatMap qb ++ 34 :: r) := by unfold quoB; simp
  unfold vaL
  rw [e, tks_one]
  exact unq_back v r
theorem lxV_back : ∀ {f : Nat} {vs : List ByteArray} (r : List UInt8), vs ≠ [] → vs.length ≤ f → lxV f (joinC (vs.map fun v => quoB v.toList) ++ 41 :: r) = some (vs, r)
  | 0, [], _, h, _ => absurd rfl h
  | 0, _ :: _, _, _, h => by simp at h
  | f + 1, [], _, h, _ => absurd rfl h
  | f + 1, [v], r, _, _ => by
    rw [List.map_cons, List.map_nil, joinC_one, lxV, vaL_back]
    simp only
    rw [tks_one, bar_of]
  | f + 1, v :: y :: t, r, _, hl => by
    rw [List.map_cons, joinC_cons _ _ (by simp), List.append_assoc, lxV, vaL_back]
    simp only [List.cons_append]
    rw [tks_no (by decide), tks_one]
    simp only
    rw [lxV_back r (by simp) (by simpa using hl), Option.map_some, bar_of]
theorem span_nm {n : List UInt8} (h : ∀ c ∈ n, nmS c = true) {c : UInt8} (hc : nmS c = false) (r : List UInt8) : (n ++ c :: r).takeWhile nmS = n := by
  induction n with
  | nil => rw [List.nil_append, List.takeWhile_cons, if_neg (by rw [hc]; decide)]
  | cons x t ih => rw [List.cons_append, List.takeWhile_cons, if_pos (h x (by simp)), ih (fun y hy => h y (by simp [hy]))]
theorem lxN_back {nm : ByteArray} {c : UInt8} {l : List UInt8} (h : nameB nm = true) (hc : nmS c = false) : lxN (nm.toList ++ c :: l) = lxA nm (c :: l) := by
  unfold nameB at h
  rw [Bool.and_eq_true] at h
  have e : (nm.toList ++ c :: l).takeWhile nmS = nm.toList := span_nm (nmF_all h.1) hc l
  unfold lxN
  rw [e, bar_of, List.drop_left]
/-- A name's matcher is read back. -/
theorem lxN_text {m : Mt} (h : fitB m = true) (h1 : 1 ≤ m.op) (h4 : m.op ≤ 4) (r : List UInt8) : lxN (textM m ++ r) = some (m, r) := by
  rw [textM_eq]
  rcases fit_names h with ⟨ho, -⟩ | ⟨ho, hn, hv, hk⟩ | ⟨ho, hn, hvl, hv, hk⟩ | ⟨ho, -, -, -, -⟩
  · omega
  · rw [if_neg (by omega)]
    rcases ho with ho | ho | ho
    · rw [if_pos ho, List.append_assoc, List.cons_append, lxN_back hn (by decide)]
      unfold lxA
      rw [tks_one]
      simp only
      rw [vaL_back, Option.map_some, bar_of]
      congr 1
      exact Prod.ext (Mt.ext ho.symm rfl rfl hv.symm hk.symm) rfl
    · rw [if_neg (by omega), if_pos ho, List.append_assoc, List.cons_append, List.cons_append, lxN_back hn (by decide)]
      unfold lxA
      rw [tks_no (by decide), tks_one]
      simp only
      rw [tks_one]
      simp only
      rw [vaL_back, Option.map_some, bar_of]
      congr 1
      exact Prod.ext (Mt.ext ho.symm rfl rfl hv.symm hk.symm) rfl
    · rw [if_neg (by omega), if_neg (by omega), if_pos ho, List.append_assoc, List.cons_append, List.cons_append, lxN_back hn (by decide)]
      unfold lxA
      rw [tks_no (by decide), tks_no (by decide), tks_one]
      simp only
      rw [tks_one]
      simp only
      rw [vaL_back, Option.map_some, bar_of]
      congr 1
      exact Prod.ext (Mt.ext ho.symm rfl rfl hv.symm hk.symm) rfl
  · rw [if_neg (by omega), if_neg (by omega), if_neg (by omega), if_neg (by omega), if_pos ho, List.append_assoc, List.cons_append, lxN_back hn (by decide)]
    unfold lxA
    rw [tks_no (by decide), tks_no (by decide), tks_no (by decide), tks_one]
    simp only
    rw [List.cons_append, tks_one]
    simp only
    have h16 : m.vs.length ≤ 17 := by
      unfold valsB at hv
      simp only [Bool.and_eq_true, decide_eq_true_eq] at hv
      omega
    rw [List.append_assoc, List.singleton_append, lxV_back r (vals_some hv) h16]
    simp only [Option.map_some]
    congr 1
    exact Prod.ext (Mt.ext ho.symm rfl hvl.symm rfl hk.symm) rfl
  · omega
/-- What may be is read back from its text. -/
theorem lx_back (m : Mt) : ∀ (f d n b : Nat) (res : Nat × Nat) (r : List UInt8), lookF m d n b = some res → 3 * (64 - n) + 1 ≤ f → lxM f (64 - n) (textM m ++ r) = some (m, r, 64 - res.1) ∧ n + 1 ≤ res.1 ∧ res.1 ≤ 64 := by
  refine Mt.ind (P := fun m => ∀ (f d n b : Nat) (res : Nat × Nat) (r : List UInt8), lookF m d n b = some res → 3 * (64 - n) + 1 ≤ f → lxM f (64 - n) (textM m ++ r) = some (m, r, 64 - res.1) ∧ n + 1 ≤ res.1 ∧ res.1 ≤ 64) ?_ m
  intro m ih f d n b res r h hf
  obtain ⟨hn, hd, hfit, hb, hks⟩ := lookF_some h
  obtain ⟨f, rfl⟩ : ∃ f', f = f' + 1 := ⟨f - 1, by omega⟩
  obtain ⟨left, hleft⟩ : ∃ left, 64 - n = left + 1 := ⟨64 - n - 1, by omega⟩
  have hleft' : left = 64 - (n + 1) := by omega
  rw [hleft, lxM]
  by_cases ho4 : 1 ≤ m.op ∧ m.op ≤ 4
  · obtain ⟨-, c, t, ht, hc⟩ := rdN_text hfit ho4.1 ho4.2 r
    have hr := lxN_text hfit ho4.1 ho4.2 r
    have hk0 : m.ks = [] := by
      rcases fit_names hfit with ⟨ho, rfl⟩ | ⟨_, _, _, hk⟩ | ⟨_, _, _, _, hk⟩ | ⟨ho, _⟩
      · rfl
      · exact hk
      · exact hk
      · omega
    rw [hk0, lookKs] at hks
    simp only [Option.some.injEq] at hks
    subst hks
    have no : ∀ p : UInt8, nmS p = false → tks [p] (textM m ++ r) = none := fun p hp => by
      rw [ht, List.cons_append]
      exact tks_no (fun e => by rw [e, hp] at hc; cases hc) _ _
    rw [no 42 (by decide), no 38 (by decide), no 124 (by decide), no 33 (by decide), hr]
    exact ⟨by rw [Option.map_some, hleft'], by show n + 1 ≤ n + 1; omega, by show n + 1 ≤ 64; omega⟩
  · by_cases ho0 : m.op = 0
    · have hz : m = zeroM := by
        rcases fit_names hfit with ⟨_, hz⟩ | ⟨ho, _⟩ | ⟨ho, _⟩ | ⟨ho, _⟩
        · exact hz
        · omega
        · omega
        · omega
      subst hz
      rw [show zeroM.ks = [] from rfl, lookKs] at hks
      simp only [Option.some.injEq] at hks
      subst hks
      rw [show textM zeroM = [42] by rw [textM_eq, if_pos ho0], List.singleton_append, tks_one]
      exact ⟨by simp only; rw [hleft']; rfl, by show n + 1 ≤ n + 1; omega, by show n + 1 ≤ 64; omega⟩
    · obtain ⟨ho, h1, h2, h3, h7⟩ : (m.op = 5 ∨ m.op = 6 ∨ m.op = 7) ∧ m.nm = .empty ∧ m.vl = .empty ∧ m.vs = [] ∧ (m.op = 7 → m.ks.length = 1) := by
        rcases fit_names hfit with ⟨ho, _⟩ | ⟨ho, _⟩ | ⟨ho, _⟩ | hh
        · exact absurd ho ho0
        · omega
        · omega
        · exact hh
      have key : ∀ (ks : List Mt) (f n b : Nat) (res : Nat × Nat), ks ≠ [] → (∀ k ∈ ks, k ∈ m.ks) → lookKs ks (d + 1) n b = some res → n ≤ 64 → 3 * (64 - n) + 2 ≤ f → lxT f (64 - n) (joinC (textKs ks) ++ 41 :: r) = some (ks, r, 64 - res.1) ∧ n + 1 ≤ res.1 ∧ res.1 ≤ 64 := by
        intro ks
        induction ks with
        | nil => intro f n b res h; exact absurd rfl h
        | cons x t iht =>
          intro f n b res _ hm hl hn hf
          obtain ⟨r', hx, hl'⟩ := lookKs_cons hl
          obtain ⟨f, rfl⟩ : ∃ f', f = f' + 1 := ⟨f - 1, by omega⟩
          by_cases ht : t = []
          · subst ht
            obtain ⟨e, e1, e2⟩ := ih x (hm x (by simp)) f (d + 1) n b r' (41 :: r) hx (by omega)
            rw [lookKs] at hl'
            simp only [Option.some.injEq] at hl'
            subst hl'
            rw [lxT, textKs, textKs, joinC_one, e]
            simp only
            rw [tks_one]
            exact ⟨rfl, e1, e2⟩
          · obtain ⟨e, e1, e2⟩ := ih x (hm x (by simp)) f (d + 1) n b r' (44 :: (joinC (textKs t) ++ 41 :: r)) hx (by omega)
            obtain ⟨q, q1, q2⟩ := iht f r'.1 r'.2 res ht (fun k hk => hm k (by simp [hk])) hl' e2 (by omega)
            rw [lxT, textKs, joinC_cons _ _ (by rw [textKs_map]; simpa using ht), List.append_assoc, List.cons_append, e]
            simp only
            rw [tks_no (by decide), tks_one]
            simp only
            rw [q]
            exact ⟨rfl, by omega, q2⟩
      have fin : lxK f left (40 :: (joinC (textKs m.ks) ++ [41] ++ r)) = some (m.ks, r, 64 - res.1) ∧ n + 1 ≤ res.1 ∧ res.1 ≤ 64 := by
        obtain ⟨f, rfl⟩ : ∃ f', f = f' + 1 := ⟨f - 1, by omega⟩
        rw [lxK, tks_one]
        simp only
        rw [List.append_assoc, List.singleton_append]
        by_cases hk : m.ks = []
        · rw [hk] at hks ⊢
          rw [lookKs] at hks
          simp only [Option.some.injEq] at hks
          subst hks
          rw [textKs, show joinC [] = [] from rfl, List.nil_append, tks_one]
          exact ⟨by simp only; rw [hleft'], by show n + 1 ≤ n + 1; omega, by show n + 1 ≤ 64; omega⟩
        · obtain ⟨q, q1, q2⟩ := key m.ks f (n + 1) _ res hk (fun k hk => hk) hks (by omega) (by omega)
          obtain ⟨x, t, hx⟩ : ∃ x t, m.ks = x :: t := by
            cases hc : m.ks with
            | nil => exact absurd hc hk
            | cons x t => exact ⟨x, t, rfl⟩
          have hhead : ∃ c u, joinC (textKs m.ks) = c :: u ∧ c ≠ 41 := by
            rw [hx] at hks ⊢
            obtain ⟨r', hx', -⟩ := lookKs_cons hks
            obtain ⟨c, u, e, hc, -⟩ := text_head (lookF_some hx').2.2.1
            rw [textKs]
            by_cases ht : t = []
            · subst ht
              rw [textKs, joinC_one]
              exact ⟨c, u, e, hc⟩
            · rw [joinC_cons _ _ (by rw [textKs_map]; simpa using ht), e]
              exact ⟨c, _, rfl, hc⟩
          obtain ⟨c, u, e, hc⟩ := hhead
          rw [show tks [41] (joinC (textKs m.ks) ++ 41 :: r) = none by rw [e, List.cons_append]; exact tks_no hc _ _]
          simp only
          rw [hleft', q]
          exact ⟨rfl, by omega, q2⟩
      rw [textM_eq, if_neg (by omega), if_neg (by omega), if_neg (by omega), if_neg (by omega), if_neg (by omega)]
      rcases ho with ho | ho | ho
      · rw [if_neg (by omega), if_neg (by omega), List.cons_append, List.cons_append, tks_no (by decide), tks_one]
        simp only
        rw [fin.1]
        refine ⟨?_, fin.2⟩
        rw [Option.map_some]
        congr 1
        exact Prod.ext (Mt.ext ho.symm h1.symm h2.symm h3.symm rfl) rfl
      · rw [if_pos ho, List.cons_append, List.cons_append, tks_no (by decide), tks_no (by decide), tks_one]
        simp only
        rw [fin.1]
        refine ⟨?_, fin.2⟩
        rw [Option.map_some]
        congr 1
        exact Prod.ext (Mt.ext ho.symm h1.symm h2.symm h3.symm rfl) rfl
      · rw [if_neg (by omega), if_pos ho, List.cons_append, List.cons_append, tks_no (by decide), tks_no (by decide), tks_no (by decide), tks_one]
        simp only
        rw [fin.1]
        refine ⟨?_, fin.2⟩
        rw [Option.map_some]
        congr 1
        exact Prod.ext (Mt.ext ho.symm h1.symm h2.symm h3.symm rfl) rfl
/-- What the document's reading comes to: the matcher whose text it is. -/
theorem lx_parse {l : List UInt8} : (∀ m, parseM l = some m → ∃ left, lxM 300 64 l = some (m, [], left)) ∧ (∀ m r left, lxM 300 64 l = some (m, r, left) → (chkM m = true ∧ textM m = l ↔ parseM l = some m)) := by
  constructor
  · intro m h
    obtain ⟨hc, rfl⟩ := parseM_iff.1 h
    obtain ⟨res, hres⟩ := Option.isSome_iff_exists.1 (show (lookF m 1 0 0).isSome = true from hc)
    obtain ⟨e, -⟩ := lx_back m 300 1 0 0 res [] hres (by omega)
    rw [List.append_nil] at e
    exact ⟨_, e⟩
  · intro m r left _
    exact parseM_iff.symm
end Go.Proofs.Ythebcmkainplnaa

namespace Go.Proofs.Ythebcmkainplnaa
open Go.RowKit
set_option maxRecDepth 20000

set_option maxHeartbeats 8000000 in
theorem refdeep_any (s : ByteArray) (w : World) (hs : s.size ≤ 20000) :
    Calls Try.prog 38 #[.string s] w fun e w' => e = .returned (.bool (dpS 0 0 s.toList)) ∧ w' = w := by
  obtain ⟨ans, HA⟩ : ∃ ans, Hid (dpS 0 0 s.toList = ans) := ⟨_, rfl⟩
  rw [HA.out]
  go_enter Try.func38, Try.ntmps38
  go_wp2
  go_loopg [3, 4, 5] (s.size + 1) (fun gh o b i wr => ∃ (k n : Nat) (st : Bool), k ≤ s.size + 1 ∧ n ≤ 8 ∧ s.size + 1 - k ≤ gh ∧ o = .int .i64 (n : Int) ∧ b = .bool st ∧ i = .int .i64 (k : Int) ∧ wr = w ∧ Hid (ans = dpS n (if st then 1 else 0) (s.toList.drop k)))
  case atStart => exact ⟨0, 0, false, by omega, by omega, by omega, rfl, rfl, rfl, rfl, HA.out.symm⟩
  case round =>
    obtain ⟨k, n, st, hk, hn, hg, rfl, rfl, rfl, rfl, A⟩ := hrel
    clear HA
    by_cases hlt : k < s.size
    · have i1 : (0 : Int) ≤ (k : Int) := by omega
      have i2 : (k : Int) < (s.size : Int) := by omega
      obtain ⟨z, hz⟩ : ∃ z : Int, Hid (((s[k]'hlt).toNat : Int) = z) := ⟨_, rfl⟩
      have hb := hz.out
      have ST := hide (drop_byte s k hlt)
      cases st with
      | false =>
        simp only [Bool.false_eq_true, if_false] at A
        rw [ST.out] at A
        by_cases e34 : z = 34
        · have t34 : (z == 34) = true := by simp [e34]
          have c34 : s[k]'hlt = 34 := u8_eq hb e34
          clear e34
          have A2 : Hid (ans = dpS (n) 1 (s.toList.drop (k + 1))) := by
            rw [A.out, dpS, if_neg (by decide), if_pos c34]
            exact rfl
          clear A ST hz
          go_wp2
          go_roundg (s.size + 1 - (k + 1))
          case measure => omega
          case rel => exact ⟨k + 1, n, true, by omega, by omega, by omega, rfl, rfl, by go_num, rfl, A2⟩
        · have t34 : (z == 34) = false := by simp [e34]
          have c34 : s[k]'hlt ≠ 34 := u8_ne hb e34
          clear e34
          by_cases e40 : z = 40
          · have t40 : (z == 40) = true := by simp [e40]
            have c40 : s[k]'hlt = 40 := u8_eq hb e40
            clear e40
            by_cases hbig : 8 < n + 1
            · have t8 : (8 : Int) < (n : Int) + 1 := by omega
              have FT : Hid (true = ans) := by
                rw [A.out, dpS, if_neg (by decide), if_neg c34, if_neg (by decide), if_pos c40, if_pos hbig]
                exact rfl
              clear A ST hz hbig
              go_wp2
              go_ret
              exact ⟨by rw [← FT.out]; rfl, rfl⟩
            · have t8 : ¬ (8 : Int) < (n : Int) + 1 := by omega
              have A2 : Hid (ans = dpS (n + 1) 0 (s.toList.drop (k + 1))) := by
                rw [A.out, dpS, if_neg (by decide), if_neg c34, if_neg (by decide), if_pos c40, if_neg hbig]
                exact rfl
              clear A ST hz
              go_wp2
              go_roundg (s.size + 1 - (k + 1))
              case measure => omega
              case rel => exact ⟨k + 1, n + 1, false, by omega, by omega, by omega, by go_num, rfl, by go_num, rfl, A2⟩
          · have t40 : (z == 40) = false := by simp [e40]
            have c40 : s[k]'hlt ≠ 40 := u8_ne hb e40
            clear e40
            by_cases e41 : z = 41
            · have t41 : (z == 41) = true := by simp [e41]
              have c41 : s[k]'hlt = 41 := u8_eq hb e41
              clear e41
              by_cases h0 : 0 < n
              · have t0 : (0 : Int) < (n : Int) := by omega
                obtain ⟨n, rfl⟩ : ∃ n', n = n' + 1 := ⟨n - 1, by omega⟩
                have A2 : Hid (ans = dpS (n) 0 (s.toList.drop (k + 1))) := by
                  rw [A.out, dpS, if_neg (by decide), if_neg c34, if_neg (by decide), if_neg c40, if_pos c41, Nat.add_sub_cancel]
                  exact rfl
                clear A ST hz
                go_wp2
                go_roundg (s.size + 1 - (k + 1))
                case measure => omega
                case rel => exact ⟨k + 1, n, false, by omega, by omega, by omega, rfl, rfl, by go_num, rfl, A2⟩
              · have t0 : ¬ (0 : Int) < (n : Int) := by omega
                have A2 : Hid (ans = dpS (n) 0 (s.toList.drop (k + 1))) := by
                  rw [A.out, dpS, if_neg (by decide), if_neg c34, if_neg (by decide), if_neg c40, if_pos c41, show n - 1 = n by omega]
                  exact rfl
                clear A ST hz
                go_wp2
                go_roundg (s.size + 1 - (k + 1))
                case measure => omega
                case rel => exact ⟨k + 1, n, false, by omega, by omega, by omega, rfl, rfl, by go_num, rfl, A2⟩
            · have t41 : (z == 41) = false := by simp [e41]
              have c41 : s[k]'hlt ≠ 41 := u8_ne hb e41
              clear e41
              have A2 : Hid (ans = dpS (n) 0 (s.toList.drop (k + 1))) := by
                rw [A.out, dpS_plain c34 c40 c41]
                exact rfl
              clear A ST hz
              go_wp2
              go_roundg (s.size + 1 - (k + 1))
              case measure => omega
              case rel => exact ⟨k + 1, n, false, by omega, by omega, by omega, rfl, rfl, by go_num, rfl, A2⟩
      | true =>
        simp only [if_true] at A
        rw [ST.out] at A
        by_cases e34 : z = 34
        · have t34 : (z == 34) = true := by simp [e34]
          have c34 : s[k]'hlt = 34 := u8_eq hb e34
          have t92 : (z == 92) = false := by simp [e34]
          clear e34
          have A2 : Hid (ans = dpS (n) 0 (s.toList.drop (k + 1))) := by
            rw [A.out, dpS, if_neg (by decide), if_pos c34]
            exact rfl
          clear A ST hz
          go_wp2
          go_roundg (s.size + 1 - (k + 1))
          case measure => omega
          case rel => exact ⟨k + 1, n, false, by omega, by omega, by omega, rfl, rfl, by go_num, rfl, A2⟩
        · have t34 : (z == 34) = false := by simp [e34]
          have c34 : s[k]'hlt ≠ 34 := u8_ne hb e34
          clear e34
          by_cases e92 : z = 92
          · have t92 : (z == 92) = true := by simp [e92]
            have c92 : s[k]'hlt = 92 := u8_eq hb e92
            clear e92
            have A2 : Hid (ans = dpS (n) 1 (s.toList.drop (k + 1 + 1))) := by
              rw [A.out, dpS, if_neg (by decide), if_neg c34, if_pos rfl, if_pos c92, dpS_skip, List.drop_drop]
              exact rfl
            clear A ST hz
            go_wp2
            go_roundg (s.size + 1 - (k + 1 + 1))
            case measure => omega
            case rel => exact ⟨k + 1 + 1, n, true, by omega, by omega, by omega, rfl, rfl, by go_num, rfl, A2⟩
          · have t92 : (z == 92) = false := by simp [e92]
            have c92 : s[k]'hlt ≠ 92 := u8_ne hb e92
            clear e92
            have A2 : Hid (ans = dpS (n) 1 (s.toList.drop (k + 1))) := by
              rw [A.out, dpS_in c34 c92]
              exact rfl
            clear A ST hz
            go_wp2
            go_roundg (s.size + 1 - (k + 1))
            case measure => omega
            case rel => exact ⟨k + 1, n, true, by omega, by omega, by omega, rfl, rfl, by go_num, rfl, A2⟩
    · have FF : Hid (false = ans) := by
        have e : s.toList.drop k = [] := List.drop_eq_nil_of_le (by rw [ba_len]; omega)
        rw [A.out, e]
        exact rfl
      clear A
      have i2 : ¬ (k : Int) < (s.size : Int) := by omega
      go_wp2
      go_ret
      exact ⟨by rw [← FF.out]; rfl, rfl⟩
end Go.Proofs.Ythebcmkainplnaa

namespace Go.Proofs.Ythebcmkainplnaa
open Go.RowKit
set_option maxRecDepth 20000

theorem is_yes {s : ByteArray} {k : Nat} {c : UInt8} (h : isS s k false c = true) : tks [c] (s.toList.drop k) = some (s.toList.drop (k + 1)) ∧ k + 1 ≤ s.size := by
  unfold isS at h
  simp only [Bool.not_false, Bool.true_and, beq_iff_eq] at h
  have hl : k < s.toList.length := (List.getElem?_eq_some_iff.1 h).1
  rw [ba_len] at hl
  have e : s.toList.drop k = c :: s.toList.drop (k + 1) := by
    rw [drop_byte s k hl]
    have := byte_at s k hl
    rw [h] at this
    simp only [Option.some.injEq] at this
    rw [← this]
  rw [e]
  exact ⟨tks_one c _, hl⟩
theorem is_no {s : ByteArray} {k : Nat} {c : UInt8} (h : isS s k false c = false) : tks [c] (s.toList.drop k) = none := by
  unfold isS at h
  simp only [Bool.not_false, Bool.true_and, beq_eq_false_iff_ne] at h
  cases hd : s.toList.drop k with
  | nil => rfl
  | cons x t =>
    refine tks_no (fun e => h ?_) _ _
    have := congrArg List.head? hd
    rw [List.head?_drop] at this
    rw [this, e]
    rfl
theorem is_bad (s : ByteArray) (k : Nat) (c : UInt8) : isS s k true c = false := rfl
theorem val_va {s : ByteArray} {k : Nat} : valR s k false = vaL (s.toList.drop k) := by
  unfold valR vaL
  cases h : isS s k false 34 with
  | true => rw [(is_yes h).1]; rfl
  | false => rw [is_no h]; rfl
theorem val_bad (s : ByteArray) (k : Nat) : valR s k true = none := rfl
theorem nmE_in (s : ByteArray) (j : Nat) (hj : j ≤ s.size) : nmE s j ≤ s.size := by
  unfold nmE
  have : ((s.toList.drop j).takeWhile nmS).length ≤ (s.toList.drop j).length := List.IsPrefix.length_le (List.takeWhile_prefix _)
  rw [List.length_drop, ba_len] at this
  omega
theorem nmE_is (s : ByteArray) (j : Nat) : s.extract j (nmE s j) = bar ((s.toList.drop j).takeWhile nmS) ∧ s.toList.drop (nmE s j) = (s.toList.drop j).drop ((s.toList.drop j).takeWhile nmS).length := by
  unfold nmE
  constructor
  · refine ba_ext ?_
    rw [bar_list, ByteArray.toList_eq, ByteArray.data_extract, Array.toList_extract, List.extract_eq_take_drop, ← ByteArray.toList_eq, Nat.add_sub_cancel_left]
    exact (List.prefix_iff_eq_take.1 (List.takeWhile_prefix _)).symm
  · rw [List.drop_drop]
/-- The reader, the count, the result's box. -/
structure RS (w u : World) (g g2 : Nat) (s : ByteArray) (k : Nat) (bad : Bool) (n : Nat) : Prop where
  sb : SB u g s k bad
  cnt : BX u g2 n
  box : BoxM u w.heap.size hm0
  ch : Ch (fun b => b = g ∨ b = g2) w u
  lt : g < w.heap.size ∧ g2 < w.heap.size ∧ g ≠ g2
theorem RS.to {w u v : World} {g g2 k k' n : Nat} {s : ByteArray} {b b' : Bool} (h : RS w u g g2 s k b n) (c : Ch (fun x => x = g) u v) (q : SB v g s k' b') : RS w v g g2 s k' b' n := by
  obtain ⟨l1, l2, l3⟩ := h.lt
  exact ⟨q, h.cnt.block (c.block _ h.cnt.lt (fun e => l3 e.symm)), h.box.block (c.block _ h.box.lt (by omega)), h.ch.trans (c.more (fun _ _ e => Or.inl e)), h.lt⟩
theorem RS.bel {w u v : World} {g g2 k n : Nat} {s : ByteArray} {b : Bool} (h : RS w u g g2 s k b n) (c : Below u.heap.size u v) : RS w v g g2 s k b n :=
  h.to ((Ch.of_below c).more (fun _ _ => False.elim)) (h.sb.keep (c.block g h.sb.lt))
/-- What read tells. -/
def RfP (res : Option (Mt × List UInt8 × Nat)) (g g2 n : Nat) (s : ByteArray) (w : World) (e : Ending) (w' : World) : Prop :=
  Ch (fun b => b = g ∨ b = g2) w w' ∧ ∃ (h : Hm) (k' : Nat), e = .returned (.agg #[.int .i64 h.op, .string h.nm, .string h.vl, .slice h.va h.vn h.vc, .slice h.ka h.kn h.kc]) ∧ k' ≤ s.size ∧ match res with
  | none => SB w' g s k' true
  | some (m, r, left) => SB w' g s k' false ∧ s.toList.drop k' = r ∧ SeeM (fun b => w.heap.size ≤ b) w' m h ∧ ∃ n' : Nat, BX w' g2 n' ∧ n' ≤ 64 ∧ 64 - n' = left ∧ n < n'
def RdF (f : Nat) : Prop := ∀ (g g2 n : Nat) (s : ByteArray) (k : Nat) (w : World), SB w g s k false → BX w g2 n → g ≠ g2 → k ≤ s.size → s.size ≤ 20000 → n ≤ 64 → 3 * (64 - n) + 1 ≤ f →
    Calls Try.prog 39 #[.pointer (some ⟨g, 0, none⟩), .pointer (some ⟨g2, 0, none⟩)] w fun e w' => RfP (lxM f (64 - n) (s.toList.drop k)) g g2 n s w e w'
/-- What is written into the result's box leaves the rest. -/
theorem ch_box2 {g g2 B : Nat} {w v : World} {h : Hm} (c : Ch (fun b => b = g ∨ b = g2) w v) (hB : w.heap.size ≤ B) : Ch (fun b => b = g ∨ b = g2) w (put5 v B h) := by
  have c5 := ch_put5 v B h
  refine ⟨c5.os.trans c.os, c5.tape.trans c.tape, c5.output.trans c.output, Nat.le_trans c.size c5.size, fun b hb hn => ?_⟩
  rw [c5.block b (Nat.lt_of_lt_of_le hb c.size) (by omega)]
  exact c.block b hb hn
theorem rf_none {w u : World} {g g2 k n n0 : Nat} {s : ByteArray} (q : RS w u g g2 s k true n) (hk : k ≤ s.size) (h : Hm) : RfP none g g2 n0 s w (.returned (.agg #[.int .i64 h.op, .string h.nm, .string h.vl, .slice h.va h.vn h.vc, .slice h.ka h.kn h.kc])) (put5 u w.heap.size h) :=
  ⟨ch_box2 q.ch (Nat.le_refl _), h, k, rfl, hk, q.sb.keep ((ch_put5 u w.heap.size h).block g q.sb.lt (by have := q.lt; omega))⟩
theorem rf_some {w u : World} {g g2 k n n0 : Nat} {s : ByteArray} {m : Mt} {r : List UInt8} {left : Nat} {h : Hm} (q : RS w u g g2 s k false n) (hk : k ≤ s.size) (hr : s.toList.drop k = r) (se : SeeM (fun b => w.heap.size + 1 ≤ b) u m h) (hn : n ≤ 64) (hl : 64 - n = left) (hn0 : n0 < n) : RfP (some (m, r, left)) g g2 n0 s w (.returned (.agg #[.int .i64 h.op, .string h.nm, .string h.vl, .slice h.va h.vn h.vc, .slice h.ka h.kn h.kc])) (put5 u w.heap.size h) := by
  have hlt := q.lt
  have c5 := ch_put5 u w.heap.size h
  exact ⟨ch_box2 q.ch (Nat.le_refl _), h, k, rfl, hk, q.sb.keep (c5.block g q.sb.lt (by omega)), hr, see_box se rfl, n, q.cnt.block (c5.block g2 q.cnt.lt (by omega)), hn, hl, hn0⟩
/-- Kids read so far, in the box at gm. -/
structure KdR (w u : World) (g g2 : Nat) (s : ByteArray) (k n gm : Nat) (op : Int) (a : Option Addr) (j c : Nat) (ks : List Mt) (hs : List Hm) : Prop where
  rs : RS w u g g2 s k false n
  mb : BoxM u gm ⟨op, ⟨#[]⟩, ⟨#[]⟩, none, 0, 0, a, j, c⟩
  own : OwnM u (gm + 1) a j c hs
  see : ∀ (i : Nat) (kd : Mt) (hd : Hm), ks[i]? = some kd → hs[i]? = some hd → SeeM (fun b => gm + 1 ≤ b ∧ (Value.slice a j c).ownBlock ≠ some b) u kd hd
  len : ks.length = j
  few : j ≤ n
  gt : w.heap.size < gm
theorem KdR.ne {w u : World} {g g2 k n gm j c : Nat} {s : ByteArray} {op : Int} {a : Option Addr} {ks : List Mt} {hs : List Hm} (h : KdR w u g g2 s k n gm op a j c ks hs) : ∀ b, (Value.slice a j c).ownBlock = some b → gm + 1 ≤ b := fun b hb => (h.own.block b hb).1
theorem KdR.to {w u v : World} {g g2 k k' n gm j c : Nat} {s : ByteArray} {op : Int} {a : Option Addr} {ks : List Mt} {hs : List Hm} (h : KdR w u g g2 s k n gm op a j c ks hs) (cc : Ch (fun x => x = g) u v) (q : SB v g s k' false) : KdR w v g g2 s k' n gm op a j c ks hs := by
  have hlt := h.rs.lt
  have hgt := h.gt
  exact ⟨h.rs.to cc q, h.mb.block (cc.block _ h.mb.lt (by omega)), h.own.ch cc (fun b hb e => by have := h.ne b hb; omega), fun i kd hd h1 h2 => (h.see i kd hd h1 h2).ch cc (fun b hb e => by omega), h.len, h.few, hgt⟩
theorem KdR.start {w u v : World} {g g2 k n : Nat} {s : ByteArray} {op : Int} (h : RS w u g g2 s k false n) (hv : u.alloc (.cells #[.int .i64 op, .string ⟨#[]⟩, .string ⟨#[]⟩, .slice none 0 0, .slice none 0 0] 25) = v) : KdR w v g g2 s k n u.heap.size op none 0 0 [] [] := by
  have hb : Below u.heap.size u v := by rw [← hv]; exact (Below.refl _ _).alloc (Nat.le_refl _) _
  refine ⟨h.bel hb, ?_, ownM_nil _ _, fun i kd hd h1 _ => by simp at h1, rfl, Nat.zero_le _, h.box.lt⟩
  rw [← hv]
  exact boxM_new u ⟨op, ⟨#[]⟩, ⟨#[]⟩, none, 0, 0, none, 0, 0⟩
theorem KdR.fin {w u : World} {g g2 k n gm j c : Nat} {s : ByteArray} {op : Int} {a : Option Addr} {ks : List Mt} {hs : List Hm} (h : KdR w u g g2 s k n gm op a j c ks hs) (hn : n ≤ 64) (ho : (Lit.int .i64 op).wf = true) : SeeM (fun b => w.heap.size + 1 ≤ b) u (.mk op .empty .empty [] ks) ⟨op, ⟨#[]⟩, ⟨#[]⟩, none, 0, 0, a, j, c⟩ := by
  have hf := h.few
  have hgt := h.gt
  have hcap := h.own.capped
  rw [seeM_iff]
  refine ⟨rfl, rfl, rfl, ⟨ho, by show (0 : Nat) ≤ _; decide, by show (0 : Nat) ≤ _; decide, Nat.le_refl _, fun _ => rfl, by show j * 88 ≤ _; omega, hcap.1, fun e => (hcap.2 e).2⟩, ⟨rfl, by show (0 : Nat) * 16 ≤ _; omega, fun x hx => (by cases hx), Or.inl rfl⟩, h.len, ?_⟩
  by_cases h0 : j = 0
  · exact Or.inl h0
  · right
    have hl := h.own.len
    have hkl := h.len
    have hx : hs[0]? = some hs[0] := List.getElem?_eq_getElem (by omega)
    obtain ⟨b, hb, hob, -⟩ := h.own.kid hx
    refine ⟨b, 0, hb, by have := h.ne b hob; omega, fun i kd hi => ?_⟩
    have hlt : i < ks.length := (List.getElem?_eq_some_iff.1 hi).1
    have hy : hs[i]? = some hs[i] := List.getElem?_eq_getElem (by omega)
    obtain ⟨b2, hb2, -, f2⟩ := h.own.kid hy
    rw [hb] at hb2
    simp only [Option.some.injEq, Addr.mk.injEq, and_true] at hb2
    subst hb2
    exact ⟨hs[i], f2, (h.see i kd _ hi hy).mono (fun b _ hb => by omega)⟩
/-- What a kid's reading leaves of the rest: the result's box, the kids' box, the kids' row. -/
structure KdQ (w v : World) (g g2 gm : Nat) (op : Int) (a : Option Addr) (j c : Nat) (hs : List Hm) : Prop where
  box : BoxM v w.heap.size hm0
  mb : BoxM v gm ⟨op, ⟨#[]⟩, ⟨#[]⟩, none, 0, 0, a, j, c⟩
  own : OwnM v (gm + 1) a j c hs
  ch : Ch (fun b => b = g ∨ b = g2) w v
  big : gm + 1 ≤ v.heap.size
theorem KdR.rest {w u v : World} {g g2 k n gm j c : Nat} {s : ByteArray} {op : Int} {a : Option Addr} {ks : List Mt} {hs : List Hm} (h : KdR w u g g2 s k n gm op a j c ks hs) (cc : Ch (fun x => x = g ∨ x = g2) u v) : KdQ w v g g2 gm op a j c hs := by
  have hlt := h.rs.lt
  have hgt := h.gt
  exact ⟨h.rs.box.block (cc.block _ h.rs.box.lt (by omega)), h.mb.block (cc.block _ h.mb.lt (by omega)), h.own.ch cc (fun b hb e => by have := h.ne b hb; omega), h.rs.ch.trans cc, by have := h.mb.lt; have := cc.size; omega⟩
theorem KdQ.bel {w v v' : World} {g g2 gm j c : Nat} {op : Int} {a : Option Addr} {hs : List Hm} (h : KdQ w v g g2 gm op a j c hs) (b : Below v.heap.size v v') : KdQ w v' g g2 gm op a j c hs :=
  ⟨h.box.block (b.block _ h.box.lt), h.mb.block (b.block _ h.mb.lt), h.own.below b (Nat.le_refl _), h.ch.trans ((Ch.of_below b).more (fun _ _ => False.elim)), Nat.le_trans h.big b.size⟩
/-- The kids' row has grown by one, and the kids' box says so. -/
theorem KdQ.push {w v v4 : World} {g g2 gm j c g' c' : Nat} {op : Int} {a : Option Addr} {hs : List Hm} {h' : Hm} (h : KdQ w v g g2 gm op a j c hs) (hgt : w.heap.size < gm) (o : OwnM v4 (gm + 1) (some ⟨g', 0, none⟩) (j + 1) c' (hs ++ [h'])) (c4 : Ch (fun b => (Value.slice a j c).ownBlock = some b) v v4) :
    KdQ w (v4.setCell ⟨gm, 4, none⟩ (.slice (some ⟨g', 0, none⟩) (j + 1) c')) g g2 gm op (some ⟨g', 0, none⟩) (j + 1) c' (hs ++ [h']) := by
  have hne : ∀ b, (Value.slice a j c).ownBlock = some b → gm + 1 ≤ b := fun b hb => (h.own.block b hb).1
  have cs := ch_set v4 gm 4 (.slice (some ⟨g', 0, none⟩) (j + 1) c')
  refine ⟨(h.box.block (c4.block _ h.box.lt (fun e => by have := hne _ e; omega))).block (cs.block _ (by have := h.box.lt; have := c4.size; omega) (by omega)), (h.mb.block (c4.block _ h.mb.lt (fun e => by have := hne _ e; omega))).kids _ _ _, o.ch cs (fun b hb e => by have := (o.block b hb).1; omega), ?_, by have := h.big; have := c4.size; have := cs.size; omega⟩
  refine ⟨cs.os.trans (c4.os.trans h.ch.os), cs.tape.trans (c4.tape.trans h.ch.tape), cs.output.trans (c4.output.trans h.ch.output), Nat.le_trans h.ch.size (Nat.le_trans c4.size cs.size), fun b hb hn => ?_⟩
  rw [cs.block b (Nat.lt_of_lt_of_le hb (Nat.le_trans h.ch.size c4.size)) (by omega), c4.block b (Nat.lt_of_lt_of_le hb h.ch.size) (fun e => by have := hne b e; omega)]
  exact h.ch.block b hb hn
/-- One kid more. -/
theorem KdR.push {w u v vb v4 : World} {g g2 k k' n n' gm j c g' c' : Nat} {s : ByteArray} {op : Int} {a : Option Addr} {ks : List Mt} {hs : List Hm} {kd : Mt} {h' : Hm} (h : KdR w u g g2 s k n gm op a j c ks hs) (cc : Ch (fun x => x = g ∨ x = g2) u v) (b : Below v.heap.size v vb) (q : SB v g s k' false) (cn : BX v g2 n') (hn : n < n') (se : SeeM (fun b => u.heap.size ≤ b) v kd h')
    (o : OwnM v4 (gm + 1) (some ⟨g', 0, none⟩) (j + 1) c' (hs ++ [h'])) (c4 : Ch (fun b => (Value.slice a j c).ownBlock = some b) vb v4) (hg : (Value.slice a j c).ownBlock = some g' ∨ vb.heap.size ≤ g') :
    KdR w (v4.setCell ⟨gm, 4, none⟩ (.slice (some ⟨g', 0, none⟩) (j + 1) c')) g g2 s k' n' gm op (some ⟨g', 0, none⟩) (j + 1) c' (ks ++ [kd]) (hs ++ [h']) := by
  have hlt := h.rs.lt
  have hgt := h.gt
  have hne := h.ne
  have hl := h.own.len
  have hkl := h.len
  have hfew := h.few
  have Q := ((h.rest cc).bel b).push hgt o c4
  have cs := ch_set v4 gm 4 (.slice (some ⟨g', 0, none⟩) (j + 1) c')
  have hvb : v.heap.size ≤ vb.heap.size := b.size
  have old : ∀ x, x < v.heap.size → x ≠ gm → (Value.slice a j c).ownBlock ≠ some x → (v4.setCell ⟨gm, 4, none⟩ (.slice (some ⟨g', 0, none⟩) (j + 1) c')).heap[x]? = v.heap[x]? := fun x hx h1 h2 => by
    rw [cs.block x (Nat.lt_of_lt_of_le hx (Nat.le_trans hvb c4.size)) h1, c4.block x (Nat.lt_of_lt_of_le hx hvb) h2]
    exact b.block x hx
  refine ⟨⟨q.keep (old g q.lt (by omega) (fun e => by have := hne _ e; omega)), cn.block (old g2 cn.lt (by omega) (fun e => by have := hne _ e; omega)), Q.box, Q.ch, hlt⟩, Q.mb, Q.own, fun i kd' hd h1 h2 => ?_, by simp [hkl], by omega, hgt⟩
  by_cases hi : i < j
  · rw [List.getElem?_append_left (by omega)] at h1 h2
    have s1 := (h.see i kd' hd h1 h2).ch cc (fun b hb e => by omega)
    exact ((see_pushed (s1.below b) (fun b _ hb => hb) c4 hg).ch cs (fun b hb e => by omega))
  · have hi2 : i < (hs ++ [h']).length := (List.getElem?_eq_some_iff.1 h2).1
    simp only [List.length_append, List.length_cons, List.length_nil] at hi2
    have : i = j := by omega
    subst this
    rw [List.getElem?_append_right (by omega), hl] at h2
    rw [List.getElem?_append_right (by omega), hkl] at h1
    simp at h1 h2
    subst h1 h2
    have hug : gm < u.heap.size := h.mb.lt
    refine ((see_pushed (se.below b) (fun b _ hb => ⟨by omega, fun e => ?_⟩) c4 hg).ch cs (fun b hb e => by omega))
    have := (h.own.block b e).2
    omega
end Go.Proofs.Ythebcmkainplnaa

namespace Go.Proofs.Ythebcmkainplnaa
open Go.RowKit
set_option maxRecDepth 20000

/-- Behind a kid: the end, or a comma and more. -/
def lxC (f left : Nat) (l : List UInt8) : Option (List Mt × List UInt8 × Nat) := match tks [41] l with
  | some r => some ([], r, left)
  | none => match tks [44] l with
    | some r => lxT f left r
    | none => none
theorem lxT_step (f left : Nat) (l : List UInt8) : lxT (f + 1) left l = match lxM f left l with
    | none => none
    | some q => (lxC f q.2.2 q.2.1).map (fun z => (q.1 :: z.1, z.2)) := by
  rw [lxT]
  cases lxM f left l with
  | none => rfl
  | some q =>
    simp only
    unfold lxC
    cases tks [41] q.2.1 with
    | some r => rfl
    | none =>
      simp only
      cases tks [44] q.2.1 <;> rfl
/-- Behind a value: the end, or a comma and more. -/
def lxVC (f : Nat) (l : List UInt8) : Option (List ByteArray × List UInt8) := match tks [41] l with
  | some r => some ([], r)
  | none => match tks [44] l with
    | some r => lxV f r
    | none => none
theorem lxV_step (f : Nat) (l : List UInt8) : lxV (f + 1) l = match vaL l with
    | none => none
    | some q => (lxVC f q.2).map (fun z => (bar q.1 :: z.1, z.2)) := by
  rw [lxV]
  cases vaL l with
  | none => rfl
  | some q =>
    simp only
    unfold lxVC
    cases tks [41] q.2 with
    | some r => rfl
    | none =>
      simp only
      cases tks [44] q.2 <;> rfl
theorem rs_start {w W V : World} {g g2 k n : Nat} {s : ByteArray} (h : SB w g s k false) (hb : BX w g2 n) (hgg : g ≠ g2) (hW : w.alloc (.cells #[.int .i64 0, .string ⟨#[]⟩, .string ⟨#[]⟩, .slice none 0 0, .slice none 0 0] 25) = W) (hV : W.setCell ⟨g2, 0, none⟩ (.int .i64 ((n : Int) + 1)) = V) : RS w V g g2 s k false (n + 1) := by
  have h1 := h.lt
  have h2 := hb.lt
  have cs := ch_set W g2 0 (.int .i64 ((n : Int) + 1))
  have sW : W.heap.size = w.heap.size + 1 := by rw [← hW]; simp
  have bW : ∀ b, b < w.heap.size → W.heap[b]? = w.heap[b]? := fun b hb => by rw [← hW]; exact Below.heap_alloc _ _ _ hb
  have cW : Ch (fun b => b = g ∨ b = g2) w W := by rw [← hW]; exact (Ch.refl _ w).alloc _
  rw [← hV]
  refine ⟨(h.keep (bW g h1)).keep (cs.block g (by omega) hgg), (hb.block (bW g2 h2)).set _, ?_, cW.trans (cs.more (fun _ _ e => Or.inr e)), h1, h2, hgg⟩
  have b0 : BoxM W w.heap.size hm0 := by rw [← hW]; exact BoxM.zero w
  exact b0.block (cs.block _ b0.lt (by omega))
theorem RS.spoil {w u : World} {g g2 k n : Nat} {s : ByteArray} {b : Bool} (h : RS w u g g2 s k b n) : RS w (u.setCell ⟨g, 2, none⟩ (.bool true)) g g2 s k true n := h.to (ch_set u g 2 (.bool true)) h.sb.spoil
/-- Gone bad. -/
theorem rf_bad {w u : World} {g g2 k n0 : Nat} {s : ByteArray} (c : Ch (fun b => b = g ∨ b = g2) w u) (q : SB u g s k true) (hg : g < w.heap.size) (hk : k ≤ s.size) (h : Hm) : RfP none g g2 n0 s w (.returned (.agg #[.int .i64 h.op, .string h.nm, .string h.vl, .slice h.va h.vn h.vc, .slice h.ka h.kn h.kc])) (put5 u w.heap.size h) :=
  ⟨ch_box2 c (Nat.le_refl _), h, k, rfl, hk, q.keep ((ch_put5 u w.heap.size h).block g q.lt (by omega))⟩
/-- Kids, gone bad. -/
structure KdB (w u : World) (g g2 : Nat) (s : ByteArray) (k gm : Nat) (op : Int) (a : Option Addr) (j c : Nat) (hs : List Hm) : Prop where
  q : KdQ w u g g2 gm op a j c hs
  sb : SB u g s k true
  gt : w.heap.size < gm
  lt : g < w.heap.size
theorem KdB.to {w u v : World} {g g2 k k' gm j c : Nat} {s : ByteArray} {op : Int} {a : Option Addr} {hs : List Hm} (h : KdB w u g g2 s k gm op a j c hs) (cc : Ch (fun x => x = g) u v) (q : SB v g s k' true) : KdB w v g g2 s k' gm op a j c hs := by
  have hlt := h.lt
  have hgt := h.gt
  exact ⟨⟨h.q.box.block (cc.block _ h.q.box.lt (by omega)), h.q.mb.block (cc.block _ h.q.mb.lt (by omega)), h.q.own.ch cc (fun b hb e => by have := (h.q.own.block b hb).1; omega), h.q.ch.trans (cc.more (fun _ _ e => Or.inl e)), by have := h.q.big; have := cc.size; omega⟩, q, hgt, hlt⟩
theorem KdR.bad {w u v : World} {g g2 k k' n gm j c : Nat} {s : ByteArray} {op : Int} {a : Option Addr} {ks : List Mt} {hs : List Hm} (h : KdR w u g g2 s k n gm op a j c ks hs) (cc : Ch (fun x => x = g) u v) (q : SB v g s k' true) : KdB w v g g2 s k' gm op a j c hs :=
  ⟨h.rest (cc.more (fun _ _ e => Or.inl e)), q, h.gt, h.rs.lt.1⟩
/-- A kid that could not be read is kept with the others. -/
theorem KdQ.bad {w v v4 : World} {g g2 k gm j c g' c' : Nat} {s : ByteArray} {op : Int} {a : Option Addr} {hs : List Hm} {h' : Hm} (h : KdQ w v g g2 gm op a j c hs) (hgt : w.heap.size < gm) (hlt : g < w.heap.size) (q : SB v g s k true) (o : OwnM v4 (gm + 1) (some ⟨g', 0, none⟩) (j + 1) c' (hs ++ [h'])) (c4 : Ch (fun b => (Value.slice a j c).ownBlock = some b) v v4) :
    KdB w (v4.setCell ⟨gm, 4, none⟩ (.slice (some ⟨g', 0, none⟩) (j + 1) c')) g g2 s k gm op (some ⟨g', 0, none⟩) (j + 1) c' (hs ++ [h']) := by
  have cs := ch_set v4 gm 4 (.slice (some ⟨g', 0, none⟩) (j + 1) c')
  have hne : ∀ b, (Value.slice a j c).ownBlock = some b → gm + 1 ≤ b := fun b hb => (h.own.block b hb).1
  have q4 := q.keep (c4.block g q.lt (fun e => by have := hne g e; omega))
  exact ⟨h.push hgt o c4, q4.keep (cs.block g q4.lt (by omega)), hgt, hlt⟩
/-- Values read so far, in the box at gm. -/
structure VaR (w u : World) (g g2 : Nat) (s : ByteArray) (k : Nat) (bad : Bool) (n gm : Nat) (nm : ByteArray) (a : Option Addr) (j c : Nat) (ss : List ByteArray) : Prop where
  rs : RS w u g g2 s k bad n
  mb : BoxM u gm ⟨4, nm, ⟨#[]⟩, a, j, c, none, 0, 0⟩
  own : u.ownsRow (gm + 1) 9 1 (.slice a j c) j (ss.map Value.string)
  fit : ∀ x ∈ ss, x.size ≤ 20000
  len : ss.length = j
  gt : w.heap.size < gm
theorem VaR.to {w u v : World} {g g2 k k' n gm j c : Nat} {s nm : ByteArray} {b b' : Bool} {a : Option Addr} {ss : List ByteArray} (h : VaR w u g g2 s k b n gm nm a j c ss) (cc : Ch (fun x => x = g) u v) (q : SB v g s k' b') : VaR w v g g2 s k' b' n gm nm a j c ss := by
  have hlt := h.rs.lt
  have hgt := h.gt
  exact ⟨h.rs.to cc q, h.mb.block (cc.block _ h.mb.lt (by omega)), row_ch h.own cc (fun b hb e => by have := (row_cells h.own hb).2; omega), h.fit, h.len, hgt⟩
theorem VaR.start {w u v : World} {g g2 k n : Nat} {s nm : ByteArray} {b : Bool} (h : RS w u g g2 s k b n) (hv : u.alloc (.cells #[.int .i64 4, .string nm, .string ⟨#[]⟩, .slice none 0 0, .slice none 0 0] 25) = v) : VaR w v g g2 s k b n u.heap.size nm none 0 0 [] := by
  have hb : Below u.heap.size u v := by rw [← hv]; exact (Below.refl _ _).alloc (Nat.le_refl _) _
  refine ⟨h.bel hb, ?_, World.ownsRow_nil _ _ _ _, fun x hx => (by cases hx), rfl, h.box.lt⟩
  rw [← hv]
  exact boxM_new u ⟨4, nm, ⟨#[]⟩, none, 0, 0, none, 0, 0⟩
theorem VaR.push {w u v4 : World} {g g2 k n gm j c g' c' : Nat} {s nm x : ByteArray} {b : Bool} {a : Option Addr} {ss : List ByteArray} (h : VaR w u g g2 s k b n gm nm a j c ss) (hx : x.size ≤ 20000)
    (o : v4.ownsRow (gm + 1) 9 1 (.slice (some ⟨g', 0, none⟩) (j + 1) c') (j + 1) (ss.map Value.string ++ [Value.string x])) (gr : (u.alloc (.cells #[.string x] 9)).grownBy v4 (Value.slice a j c).ownBlock) :
    VaR w (v4.setCell ⟨gm, 3, none⟩ (.slice (some ⟨g', 0, none⟩) (j + 1) c')) g g2 s k b n gm nm (some ⟨g', 0, none⟩) (j + 1) c' (ss ++ [x]) := by
  have hlt := h.rs.lt
  have hgt := h.gt
  have hne : ∀ b, (Value.slice a j c).ownBlock = some b → gm + 1 ≤ b := fun b hb => (row_cells h.own hb).2
  have c4 : Ch (fun b => (Value.slice a j c).ownBlock = some b) (u.alloc (.cells #[.string x] 9)) v4 := Ch.grown gr
  have cs := ch_set v4 gm 3 (.slice (some ⟨g', 0, none⟩) (j + 1) c')
  have sz : (u.alloc (.cells #[.string x] 9)).heap.size = u.heap.size + 1 := by simp
  have s4 := c4.size
  have old : ∀ y, y < u.heap.size → y < gm + 1 → v4.heap[y]? = u.heap[y]? := fun y hy hg => by
    rw [c4.block y (by omega) (fun e => by have := hne y e; omega)]
    exact Below.heap_alloc _ _ _ hy
  have new : ∀ y, y < u.heap.size → y < gm → (v4.setCell ⟨gm, 3, none⟩ (.slice (some ⟨g', 0, none⟩) (j + 1) c')).heap[y]? = u.heap[y]? := fun y hy hg => by
    rw [cs.block y (by omega) (by omega)]
    exact old y hy (by omega)
  refine ⟨⟨h.rs.sb.keep (new g h.rs.sb.lt (by omega)), h.rs.cnt.block (new g2 h.rs.cnt.lt (by omega)), h.rs.box.block (new _ h.rs.box.lt hgt), ?_, hlt⟩, (h.mb.block (old gm h.mb.lt (by omega))).vals _ _ _, ?_, ?_, by simp [h.len], hgt⟩
  · refine ⟨cs.os.trans (c4.os.trans h.rs.ch.os), cs.tape.trans (c4.tape.trans h.rs.ch.tape), cs.output.trans (c4.output.trans h.rs.ch.output), by have := h.rs.ch.size; have := cs.size; omega, fun y hy hn => ?_⟩
    rw [new y (by have := h.rs.ch.size; omega) (by omega)]
    exact h.rs.ch.block y hy hn
  · rw [List.map_append]
    exact row_ch o cs (fun b hb e => by have := (row_cells o hb).2; omega)
  · intro y hy
    rcases List.mem_append.1 hy with hy | hy
    · exact h.fit y hy
    · obtain rfl := List.mem_singleton.1 hy
      exact hx
theorem VaR.fin {w u : World} {g g2 k n gm j c : Nat} {s nm : ByteArray} {b : Bool} {a : Option Addr} {ss : List ByteArray} (h : VaR w u g g2 s k b n gm nm a j c ss) (hj : j ≤ 17) (hnm : nm.size ≤ 20000) : SeeM (fun b => w.heap.size + 1 ≤ b) u (.mk 4 nm .empty ss []) ⟨4, nm, ⟨#[]⟩, a, j, c, none, 0, 0⟩ := by
  have hl := h.len
  have hgt := h.gt
  have h3 : ∀ x ∈ ss, x.size ≤ 9223372036854775807 := fun x hx => by have := h.fit x hx; omega
  have key : TxR (fun b => w.heap.size + 1 ≤ b) u a j ss ∧ j ≤ c ∧ (a = none → c = 0) := by
    rcases id h.own.2 with ⟨h1, h2⟩ | ⟨b, c', cur, h1, h2, _, h4, _⟩
    · simp only [Value.slice.injEq] at h1
      exact ⟨⟨hl, by omega, h3, Or.inl h2⟩, by omega, fun _ => h1.2.2⟩
    · simp only [Value.slice.injEq, true_and] at h1
      obtain ⟨rfl, rfl⟩ := h1
      refine ⟨⟨hl, by omega, h3, Or.inr ⟨b, 0, rfl, by omega, fun i hi => ?_⟩⟩, h4, fun e => by cases e⟩
      rw [Nat.zero_add, h.own.cellAt i (by omega), List.getElem?_map, List.getD_eq_getElem?_getD, List.getElem?_eq_getElem (by omega)]
      rfl
  exact vals_see (by decide) (by omega) (by decide) key.1 key.2.1 key.2.2
theorem must_bad {g : Nat} {s : ByteArray} {k : Nat} {c : UInt8} {u : World} (h : SB u g s (if isS s k true c then k + 1 else k) (!isS s k true c)) : SB u g s k true := by
  rw [is_bad] at h
  exact h
end Go.Proofs.Ythebcmkainplnaa

namespace Go.Proofs.Ythebcmkainplnaa
open Go.RowKit
set_option maxRecDepth 20000

set_option maxHeartbeats 4000000 in
theorem read_64 (f : Nat) (g g2 n : Nat) (s : ByteArray) (k : Nat) (w : World) (h : SB w g s k false) (hb : BX w g2 n) (hgg : g ≠ g2) (hk : k ≤ s.size) (hn : n = 64) :
    Calls Try.prog 39 #[.pointer (some ⟨g, 0, none⟩), .pointer (some ⟨g2, 0, none⟩)] w fun e w' => RfP (lxM (f + 1) (64 - n) (s.toList.drop k)) g g2 n s w e w' := by
  have hg := h.lt
  have hg2 := hb.lt
  obtain ⟨W, hW⟩ : ∃ W, Hid (w.alloc (.cells #[.int .i64 0, .string ⟨#[]⟩, .string ⟨#[]⟩, .slice none 0 0, .slice none 0 0] 25) = W) := ⟨_, rfl⟩
  obtain ⟨V, hV⟩ : ∃ V, Hid (W.setCell ⟨g2, 0, none⟩ (.int .i64 ((n : Int) + 1)) = V) := ⟨_, rfl⟩
  have R0 := hide (rs_start h hb hgg hW.out hV.out)
  have bx : Hid (BX W g2 n) := by rw [← hW.out]; exact hb.block (Below.heap_alloc _ _ _ hb.lt)
  obtain ⟨b0, b1⟩ := bx.out.cell
  obtain ⟨a0, a1⟩ := R0.out.cnt.cell
  rw [show ((n + 1 : Nat) : Int) = (n : Int) + 1 from rfl] at a0
  obtain ⟨s0, s1, s2, sf⟩ := R0.out.sb.cell
  obtain ⟨ans, HA⟩ : ∃ ans, Hid (lxM (f + 1) (64 - n) (s.toList.drop k) = ans) := ⟨_, rfl⟩
  rw [HA.out]
  clear h hb bx
  have HF : Hid (none = ans) := by
    rw [← HA.out, hn, lxM]
    exact rfl
  have t1 : (64 : Int) < (n : Int) + 1 := by omega
  have sf2 := sf 2
  have R1 := hide R0.out.spoil
  obtain ⟨U, hU⟩ : ∃ U, Hid (V.setCell ⟨g, 2, none⟩ (.bool true) = U) := ⟨_, rfl⟩
  rw [hU.out] at R1
  obtain ⟨s10, s11, s12, sf1⟩ := R1.out.sb.cell
  have hn64 : n ≤ 64 := by omega
  clear sf sf1 hn HA
  go_enter Try.func39, Try.ntmps39
  go_upto_region 1 with fail
  rw [hW.out]
  go_upto_region 2 with fail
  rw [hV.out]
  clear hW hV b0 b1
  go_upto_region 4 with fail
  rw [hU.out]
  clear hU s0 s1 s2 a0 a1
  have DN : Hid (RfP ans g g2 n s w (.returned (.agg #[.int .i64 0, .string ⟨#[]⟩, .string ⟨#[]⟩, .slice none 0 0, .slice none 0 0])) (put5 U w.heap.size ⟨0, ⟨#[]⟩, ⟨#[]⟩, none, 0, 0, none, 0, 0⟩)) := by
    rw [← HF.out]
    exact rf_bad R1.out.ch R1.out.sb R1.out.lt.1 hk ⟨0, ⟨#[]⟩, ⟨#[]⟩, none, 0, 0, none, 0, 0⟩
  have BZ := hide (R1.out.box)
  obtain ⟨d0, d1, d2, d3, d4, df⟩ := BZ.out.all
  have f10 := df 0
  have f11 := df 1
  have f12 := df 2
  have f13 := df 3
  have f14 := df 4
  dsimp only [hm0] at d0 d1 d2 d3 d4
  have FP := hide (BZ.out.put ⟨0, ⟨#[]⟩, ⟨#[]⟩, none, 0, 0, none, 0, 0⟩)
  clear df
  go_wp2
  obtain ⟨x0, x1, x2, x3, x4, _⟩ := FP.out.all
  unfold put5 at x0 x1 x2 x3 x4
  dsimp only at x0 x1 x2 x3 x4
  exact bodyPost_ret (v := .agg #[.int .i64 0, .string ⟨#[]⟩, .string ⟨#[]⟩, .slice none 0 0, .slice none 0 0]) (by simp [results, Try.results39, go_sem, x0, x1, x2, x3, x4]) rfl DN.out

set_option maxHeartbeats 4000000 in
theorem read_all (f : Nat) (g g2 n : Nat) (s : ByteArray) (k : Nat) (w : World) (h : SB w g s k false) (hb : BX w g2 n) (hgg : g ≠ g2) (hk : k ≤ s.size) (hs : s.size ≤ 20000) (hn : n < 64) (h42 : isS s k false 42 = true) :
    Calls Try.prog 39 #[.pointer (some ⟨g, 0, none⟩), .pointer (some ⟨g2, 0, none⟩)] w fun e w' => RfP (lxM (f + 1) (64 - n) (s.toList.drop k)) g g2 n s w e w' := by
  have hg := h.lt
  have hg2 := hb.lt
  obtain ⟨W, hW⟩ : ∃ W, Hid (w.alloc (.cells #[.int .i64 0, .string ⟨#[]⟩, .string ⟨#[]⟩, .slice none 0 0, .slice none 0 0] 25) = W) := ⟨_, rfl⟩
  obtain ⟨V, hV⟩ : ∃ V, Hid (W.setCell ⟨g2, 0, none⟩ (.int .i64 ((n : Int) + 1)) = V) := ⟨_, rfl⟩
  have R0 := hide (rs_start h hb hgg hW.out hV.out)
  have bx : Hid (BX W g2 n) := by rw [← hW.out]; exact hb.block (Below.heap_alloc _ _ _ hb.lt)
  obtain ⟨b0, b1⟩ := bx.out.cell
  obtain ⟨a0, a1⟩ := R0.out.cnt.cell
  rw [show ((n + 1 : Nat) : Int) = (n : Int) + 1 from rfl] at a0
  obtain ⟨s0, s1, s2, sf⟩ := R0.out.sb.cell
  obtain ⟨ans, HA⟩ : ∃ ans, Hid (lxM (f + 1) (64 - n) (s.toList.drop k) = ans) := ⟨_, rfl⟩
  rw [HA.out]
  clear h hb bx
  obtain ⟨left, hl⟩ : ∃ left, 64 - n = left + 1 := ⟨64 - n - 1, by omega⟩
  obtain ⟨q1, q2⟩ := is_yes h42
  have HF : Hid (some (zeroM, s.toList.drop (k + 1), left) = ans) := by
    rw [← HA.out, hl, lxM, q1]
    exact rfl
  have t1 : ¬ (64 : Int) < (n : Int) + 1 := by omega
  clear sf HA q1
  go_enter Try.func39, Try.ntmps39
  go_upto_region 1 with fail
  rw [hW.out]
  go_upto_region 2 with fail
  rw [hV.out]
  clear hW hV b0 b1
  have K1 : Hid (Calls Try.prog 63 #[.pointer (some ⟨g, 0, none⟩), .int .u8 42] V fun e w' => e = .returned (.bool (isS s (k) false 42)) ∧ Ch (fun b => b = g) V w' ∧ SB w' g s (if isS s (k) false 42 then (k) + 1 else (k)) false) := is_any g s (k) false 42 V R0.out.sb hk hs
  go_wp2_with fail
  with_reducible refine K1.out.mono ?_
  rw [h42]
  rintro e u1 ⟨rfl, c1, t2⟩
  rw [if_pos rfl] at t2
  have R1 := hide (R0.out.to c1 t2)
  clear c1 t2 s0 s1 s2 a0 a1 K1
  have DN : Hid (RfP ans g g2 n s w (.returned (.agg #[.int .i64 0, .string ⟨#[]⟩, .string ⟨#[]⟩, .slice none 0 0, .slice none 0 0])) (put5 u1 w.heap.size ⟨0, ⟨#[]⟩, ⟨#[]⟩, none, 0, 0, none, 0, 0⟩)) := by
    rw [← HF.out]
    exact rf_some R1.out q2 rfl (seeM_zero _ _) (by omega) (by omega) (by omega)
  have BZ := hide (R1.out.box)
  obtain ⟨d0, d1, d2, d3, d4, df⟩ := BZ.out.all
  have f10 := df 0
  have f11 := df 1
  have f12 := df 2
  have f13 := df 3
  have f14 := df 4
  dsimp only [hm0] at d0 d1 d2 d3 d4
  have FP := hide (BZ.out.put ⟨0, ⟨#[]⟩, ⟨#[]⟩, none, 0, 0, none, 0, 0⟩)
  clear df
  go_wp2
  obtain ⟨x0, x1, x2, x3, x4, _⟩ := FP.out.all
  unfold put5 at x0 x1 x2 x3 x4
  dsimp only at x0 x1 x2 x3 x4
  exact bodyPost_ret (v := .agg #[.int .i64 0, .string ⟨#[]⟩, .string ⟨#[]⟩, .slice none 0 0, .slice none 0 0]) (by simp [results, Try.results39, go_sem, x0, x1, x2, x3, x4]) rfl DN.out

end Go.Proofs.Ythebcmkainplnaa

namespace Go.Proofs.Ythebcmkainplnaa
open Go.RowKit
set_option maxRecDepth 20000

set_option maxHeartbeats 16000000 in
theorem read_nm (f : Nat) (g g2 n : Nat) (s : ByteArray) (k : Nat) (w : World) (h : SB w g s k false) (hb : BX w g2 n) (hgg : g ≠ g2) (hk : k ≤ s.size) (hs : s.size ≤ 20000) (hn : n < 64) (h42 : isS s k false 42 = false) (h38 : isS s k false 38 = false) (h124 : isS s k false 124 = false) (h33 : isS s k false 33 = false) :
    Calls Try.prog 39 #[.pointer (some ⟨g, 0, none⟩), .pointer (some ⟨g2, 0, none⟩)] w fun e w' => RfP (lxM (f + 1) (64 - n) (s.toList.drop k)) g g2 n s w e w' := by
  have hg := h.lt
  have hg2 := hb.lt
  obtain ⟨W, hW⟩ : ∃ W, Hid (w.alloc (.cells #[.int .i64 0, .string ⟨#[]⟩, .string ⟨#[]⟩, .slice none 0 0, .slice none 0 0] 25) = W) := ⟨_, rfl⟩
  obtain ⟨V, hV⟩ : ∃ V, Hid (W.setCell ⟨g2, 0, none⟩ (.int .i64 ((n : Int) + 1)) = V) := ⟨_, rfl⟩
  have R0 := hide (rs_start h hb hgg hW.out hV.out)
  have bx : Hid (BX W g2 n) := by rw [← hW.out]; exact hb.block (Below.heap_alloc _ _ _ hb.lt)
  obtain ⟨b0, b1⟩ := bx.out.cell
  obtain ⟨a0, a1⟩ := R0.out.cnt.cell
  rw [show ((n + 1 : Nat) : Int) = (n : Int) + 1 from rfl] at a0
  obtain ⟨s0, s1, s2, sf⟩ := R0.out.sb.cell
  obtain ⟨ans, HA⟩ : ∃ ans, Hid (lxM (f + 1) (64 - n) (s.toList.drop k) = ans) := ⟨_, rfl⟩
  rw [HA.out]
  clear h hb bx
  obtain ⟨left, hl⟩ : ∃ left, 64 - n = left + 1 := ⟨64 - n - 1, by omega⟩
  have hl2 : 64 - (n + 1) = left := by omega
  rw [hl, lxM, is_no h42, is_no h38, is_no h124, is_no h33] at HA
  simp only at HA
  obtain ⟨ne1, ne2⟩ := nmE_is s k
  unfold lxN at HA
  rw [← ne1, ← ne2] at HA
  have hkn := nmE_in s k hk
  have hnm : (s.extract k (nmE s k)).size ≤ 20000 := by
    rw [ByteArray.size_extract]
    omega
  have t1 : ¬ (64 : Int) < (n : Int) + 1 := by omega
  have NM := hide (fun u (q : SB u g s k false) => sname_any g s k false u q hk hs)
  unfold lxA at HA
  clear sf ne1 ne2
  generalize s.extract k (nmE s k) = nm at *
  generalize nmE s k = kn at *
  go_enter Try.func39, Try.ntmps39
  go_upto_region 1 with fail
  rw [hW.out]
  go_upto_region 2 with fail
  rw [hV.out]
  clear hW hV b0 b1
  have K1 : Hid (Calls Try.prog 63 #[.pointer (some ⟨g, 0, none⟩), .int .u8 42] V fun e w' => e = .returned (.bool (isS s (k) false 42)) ∧ Ch (fun b => b = g) V w' ∧ SB w' g s (if isS s (k) false 42 then (k) + 1 else (k)) false) := is_any g s (k) false 42 V R0.out.sb hk hs
  go_wp2_with fail
  with_reducible refine K1.out.mono ?_
  rw [h42]
  rintro e u2 ⟨rfl, c4, t5⟩
  rw [if_neg (by decide)] at t5
  have R3 := hide (R0.out.to c4 t5)
  clear c4 t5 K1 R0 s0 s1 s2 a0 a1
  have K6 : Hid (Calls Try.prog 63 #[.pointer (some ⟨g, 0, none⟩), .int .u8 38] u2 fun e w' => e = .returned (.bool (isS s (k) false 38)) ∧ Ch (fun b => b = g) u2 w' ∧ SB w' g s (if isS s (k) false 38 then (k) + 1 else (k)) false) := is_any g s (k) false 38 u2 R3.out.sb hk hs
  go_wp2_with fail
  with_reducible refine K6.out.mono ?_
  rw [h38]
  rintro e u7 ⟨rfl, c9, t10⟩
  rw [if_neg (by decide)] at t10
  have R8 := hide (R3.out.to c9 t10)
  clear c9 t10 K6 R3
  have K11 : Hid (Calls Try.prog 63 #[.pointer (some ⟨g, 0, none⟩), .int .u8 124] u7 fun e w' => e = .returned (.bool (isS s (k) false 124)) ∧ Ch (fun b => b = g) u7 w' ∧ SB w' g s (if isS s (k) false 124 then (k) + 1 else (k)) false) := is_any g s (k) false 124 u7 R8.out.sb hk hs
  go_wp2_with fail
  with_reducible refine K11.out.mono ?_
  rw [h124]
  rintro e u12 ⟨rfl, c14, t15⟩
  rw [if_neg (by decide)] at t15
  have R13 := hide (R8.out.to c14 t15)
  clear c14 t15 K11 R8
  have K16 : Hid (Calls Try.prog 63 #[.pointer (some ⟨g, 0, none⟩), .int .u8 33] u12 fun e w' => e = .returned (.bool (isS s (k) false 33)) ∧ Ch (fun b => b = g) u12 w' ∧ SB w' g s (if isS s (k) false 33 then (k) + 1 else (k)) false) := is_any g s (k) false 33 u12 R13.out.sb hk hs
  go_wp2_with fail
  with_reducible refine K16.out.mono ?_
  rw [h33]
  rintro e u17 ⟨rfl, c19, t20⟩
  rw [if_neg (by decide)] at t20
  have R18 := hide (R13.out.to c19 t20)
  clear c19 t20 K16 R13
  go_wp2_with fail
  with_reducible refine (NM.out _ R18.out.sb).mono ?_
  rintro e un ⟨rfl, cn, tn⟩
  have RN := hide (R18.out.to cn tn)
  clear cn tn NM R18
  have K21 : Hid (Calls Try.prog 63 #[.pointer (some ⟨g, 0, none⟩), .int .u8 61] un fun e w' => e = .returned (.bool (isS s (kn) false 61)) ∧ Ch (fun b => b = g) un w' ∧ SB w' g s (if isS s (kn) false 61 then (kn) + 1 else (kn)) false) := is_any g s (kn) false 61 un RN.out.sb hkn hs
  go_wp2_with fail
  with_reducible refine K21.out.mono ?_
  cases h22 : isS s (kn) false 61 with
  | true =>
    obtain ⟨q27, q28⟩ := is_yes h22
    rw [q27] at HA
    simp only at HA
    rintro e u23 ⟨rfl, c25, t26⟩
    rw [if_pos rfl] at t26
    have R24 := hide (RN.out.to c25 t26)
    clear c25 t26 K21 RN h22 q27
    have VV := hide (svalue_any g s (kn + 1) false u23 R24.out.sb q28 hs)
    rw [val_va] at VV
    cases hu : vaL (s.toList.drop (kn + 1)) with
    | none =>
      rw [hu] at VV HA
      have HF : Hid (none = ans) := HA.out
      go_wp2_with fail
      with_reducible refine VV.out.mono ?_
      rintro e v9 ⟨x, k9, rfl, hk9, hx9, c9, p9⟩
      have t9 : SB v9 g s k9 true := p9
      have RZ := hide (R24.out.to c9 t9)
      clear c9 t9 p9 VV R24 hu
      have DN : Hid (RfP ans g g2 n s w (.returned (.agg #[.int .i64 1, .string nm, .string x, .slice none 0 0, .slice none 0 0])) (put5 v9 w.heap.size ⟨1, nm, x, none, 0, 0, none, 0, 0⟩)) := by
        rw [← HF.out]
        exact rf_bad RZ.out.ch RZ.out.sb RZ.out.lt.1 hk9 ⟨1, nm, x, none, 0, 0, none, 0, 0⟩
      have BZ := hide (RZ.out.box)
      obtain ⟨d0, d1, d2, d3, d4, df⟩ := BZ.out.all
      have f10 := df 0
      have f11 := df 1
      have f12 := df 2
      have f13 := df 3
      have f14 := df 4
      dsimp only [hm0] at d0 d1 d2 d3 d4
      have FP := hide (BZ.out.put ⟨1, nm, x, none, 0, 0, none, 0, 0⟩)
      clear df
      go_wp2
      obtain ⟨x0, x1, x2, x3, x4, _⟩ := FP.out.all
      unfold put5 at x0 x1 x2 x3 x4
      dsimp only at x0 x1 x2 x3 x4
      exact bodyPost_ret (v := .agg #[.int .i64 1, .string nm, .string x, .slice none 0 0, .slice none 0 0]) (by simp [results, Try.results39, go_sem, x0, x1, x2, x3, x4]) rfl DN.out
    | some q =>
      obtain ⟨v, r⟩ := q
      rw [hu] at VV HA
      simp only [Option.map_some] at HA
      go_wp2_with fail
      with_reducible refine VV.out.mono ?_
      rintro e v9 ⟨x, k9, rfl, hk9, hx9, c9, p9⟩
      obtain ⟨hx, hd9, t9⟩ : x = ⟨v.toArray⟩ ∧ s.toList.drop k9 = r ∧ SB v9 g s k9 false := p9
      have HF : Hid (some (.mk 1 nm x [] [], r, left) = ans) := by
        rw [← HA.out, hx]
        exact rfl
      have RZ := hide (R24.out.to c9 t9)
      clear c9 t9 VV R24 hu hx HA
      have DN : Hid (RfP ans g g2 n s w (.returned (.agg #[.int .i64 1, .string nm, .string x, .slice none 0 0, .slice none 0 0])) (put5 v9 w.heap.size ⟨1, nm, x, none, 0, 0, none, 0, 0⟩)) := by
        rw [← HF.out]
        exact rf_some RZ.out hk9 hd9 (leaf_see _ _ (by decide) (by omega) (by omega)) (by omega) hl2 (by omega)
      have BZ := hide (RZ.out.box)
      obtain ⟨d0, d1, d2, d3, d4, df⟩ := BZ.out.all
      have f10 := df 0
      have f11 := df 1
      have f12 := df 2
      have f13 := df 3
      have f14 := df 4
      dsimp only [hm0] at d0 d1 d2 d3 d4
      have FP := hide (BZ.out.put ⟨1, nm, x, none, 0, 0, none, 0, 0⟩)
      clear df
      go_wp2
      obtain ⟨x0, x1, x2, x3, x4, _⟩ := FP.out.all
      unfold put5 at x0 x1 x2 x3 x4
      dsimp only at x0 x1 x2 x3 x4
      exact bodyPost_ret (v := .agg #[.int .i64 1, .string nm, .string x, .slice none 0 0, .slice none 0 0]) (by simp [results, Try.results39, go_sem, x0, x1, x2, x3, x4]) rfl DN.out
  | false =>
    rw [is_no h22] at HA
    simp only at HA
    rintro e u23 ⟨rfl, c25, t26⟩
    rw [if_neg (by decide)] at t26
    have R24 := hide (RN.out.to c25 t26)
    clear c25 t26 K21 RN h22
    have K29 : Hid (Calls Try.prog 63 #[.pointer (some ⟨g, 0, none⟩), .int .u8 33] u23 fun e w' => e = .returned (.bool (isS s (kn) false 33)) ∧ Ch (fun b => b = g) u23 w' ∧ SB w' g s (if isS s (kn) false 33 then (kn) + 1 else (kn)) false) := is_any g s (kn) false 33 u23 R24.out.sb hkn hs
    go_wp2_with fail
    with_reducible refine K29.out.mono ?_
    cases h30 : isS s (kn) false 33 with
    | true =>
      obtain ⟨q35, q36⟩ := is_yes h30
      rw [q35] at HA
      simp only at HA
      rintro e u31 ⟨rfl, c33, t34⟩
      rw [if_pos rfl] at t34
      have R32 := hide (R24.out.to c33 t34)
      clear c33 t34 K29 R24 h30 q35
      have K37 : Hid (Calls Try.prog 64 #[.pointer (some ⟨g, 0, none⟩), .int .u8 61] u31 fun e w' => e = .returned (.tuple #[]) ∧ Ch (fun b => b = g) u31 w' ∧ SB w' g s (if isS s (kn + 1) false 61 then (kn + 1) + 1 else (kn + 1)) (!isS s (kn + 1) false 61)) := must_any g s (kn + 1) false 61 u31 R32.out.sb q36 hs
      go_wp2_with fail
      with_reducible refine K37.out.mono ?_
      cases h38 : isS s (kn + 1) false 61 with
      | true =>
        obtain ⟨q43, q44⟩ := is_yes h38
        rw [q43] at HA
        simp only at HA
        rintro e u39 ⟨rfl, c41, t42⟩
        rw [if_pos rfl] at t42
        rw [Bool.not_true] at t42
        have R40 := hide (R32.out.to c41 t42)
        clear c41 t42 K37 R32 h38 q43
        have VV := hide (svalue_any g s (kn + 1 + 1) false u39 R40.out.sb q44 hs)
        rw [val_va] at VV
        cases hu : vaL (s.toList.drop (kn + 1 + 1)) with
        | none =>
          rw [hu] at VV HA
          have HF : Hid (none = ans) := HA.out
          go_wp2_with fail
          with_reducible refine VV.out.mono ?_
          rintro e v9 ⟨x, k9, rfl, hk9, hx9, c9, p9⟩
          have t9 : SB v9 g s k9 true := p9
          have RZ := hide (R40.out.to c9 t9)
          clear c9 t9 p9 VV R40 hu
          have DN : Hid (RfP ans g g2 n s w (.returned (.agg #[.int .i64 2, .string nm, .string x, .slice none 0 0, .slice none 0 0])) (put5 v9 w.heap.size ⟨2, nm, x, none, 0, 0, none, 0, 0⟩)) := by
            rw [← HF.out]
            exact rf_bad RZ.out.ch RZ.out.sb RZ.out.lt.1 hk9 ⟨2, nm, x, none, 0, 0, none, 0, 0⟩
          have BZ := hide (RZ.out.box)
          obtain ⟨d0, d1, d2, d3, d4, df⟩ := BZ.out.all
          have f10 := df 0
          have f11 := df 1
          have f12 := df 2
          have f13 := df 3
          have f14 := df 4
          dsimp only [hm0] at d0 d1 d2 d3 d4
          have FP := hide (BZ.out.put ⟨2, nm, x, none, 0, 0, none, 0, 0⟩)
          clear df
          go_wp2
          obtain ⟨x0, x1, x2, x3, x4, _⟩ := FP.out.all
          unfold put5 at x0 x1 x2 x3 x4
          dsimp only at x0 x1 x2 x3 x4
          exact bodyPost_ret (v := .agg #[.int .i64 2, .string nm, .string x, .slice none 0 0, .slice none 0 0]) (by simp [results, Try.results39, go_sem, x0, x1, x2, x3, x4]) rfl DN.out
        | some q =>
          obtain ⟨v, r⟩ := q
          rw [hu] at VV HA
          simp only [Option.map_some] at HA
          go_wp2_with fail
          with_reducible refine VV.out.mono ?_
          rintro e v9 ⟨x, k9, rfl, hk9, hx9, c9, p9⟩
          obtain ⟨hx, hd9, t9⟩ : x = ⟨v.toArray⟩ ∧ s.toList.drop k9 = r ∧ SB v9 g s k9 false := p9
          have HF : Hid (some (.mk 2 nm x [] [], r, left) = ans) := by
            rw [← HA.out, hx]
            exact rfl
          have RZ := hide (R40.out.to c9 t9)
          clear c9 t9 VV R40 hu hx HA
          have DN : Hid (RfP ans g g2 n s w (.returned (.agg #[.int .i64 2, .string nm, .string x, .slice none 0 0, .slice none 0 0])) (put5 v9 w.heap.size ⟨2, nm, x, none, 0, 0, none, 0, 0⟩)) := by
            rw [← HF.out]
            exact rf_some RZ.out hk9 hd9 (leaf_see _ _ (by decide) (by omega) (by omega)) (by omega) hl2 (by omega)
          have BZ := hide (RZ.out.box)
          obtain ⟨d0, d1, d2, d3, d4, df⟩ := BZ.out.all
          have f10 := df 0
          have f11 := df 1
          have f12 := df 2
          have f13 := df 3
          have f14 := df 4
          dsimp only [hm0] at d0 d1 d2 d3 d4
          have FP := hide (BZ.out.put ⟨2, nm, x, none, 0, 0, none, 0, 0⟩)
          clear df
          go_wp2
          obtain ⟨x0, x1, x2, x3, x4, _⟩ := FP.out.all
          unfold put5 at x0 x1 x2 x3 x4
          dsimp only at x0 x1 x2 x3 x4
          exact bodyPost_ret (v := .agg #[.int .i64 2, .string nm, .string x, .slice none 0 0, .slice none 0 0]) (by simp [results, Try.results39, go_sem, x0, x1, x2, x3, x4]) rfl DN.out
      | false =>
        rw [is_no h38] at HA
        have HF : Hid (none = ans) := HA.out
        rintro e u39 ⟨rfl, c41, t42⟩
        rw [if_neg (by decide)] at t42
        rw [Bool.not_false] at t42
        have R40 := hide (R32.out.to c41 t42)
        clear c41 t42 K37 R32 h38 HA
        have VV := hide (svalue_any g s (kn + 1) true u39 R40.out.sb q36 hs)
        rw [val_bad] at VV
        go_wp2_with fail
        with_reducible refine VV.out.mono ?_
        rintro e v9 ⟨x, k9, rfl, hk9, hx9, c9, p9⟩
        have t9 : SB v9 g s k9 true := p9
        have RZ := hide (R40.out.to c9 t9)
        clear c9 t9 p9 VV R40
        have DN : Hid (RfP ans g g2 n s w (.returned (.agg #[.int .i64 2, .string nm, .string x, .slice none 0 0, .slice none 0 0])) (put5 v9 w.heap.size ⟨2, nm, x, none, 0, 0, none, 0, 0⟩)) := by
          rw [← HF.out]
          exact rf_bad RZ.out.ch RZ.out.sb RZ.out.lt.1 hk9 ⟨2, nm, x, none, 0, 0, none, 0, 0⟩
        have BZ := hide (RZ.out.box)
        obtain ⟨d0, d1, d2, d3, d4, df⟩ := BZ.out.all
        have f10 := df 0
        have f11 := df 1
        have f12 := df 2
        have f13 := df 3
        have f14 := df 4
        dsimp only [hm0] at d0 d1 d2 d3 d4
        have FP := hide (BZ.out.put ⟨2, nm, x, none, 0, 0, none, 0, 0⟩)
        clear df
        go_wp2
        obtain ⟨x0, x1, x2, x3, x4, _⟩ := FP.out.all
        unfold put5 at x0 x1 x2 x3 x4
        dsimp only at x0 x1 x2 x3 x4
        exact bodyPost_ret (v := .agg #[.int .i64 2, .string nm, .string x, .slice none 0 0, .slice none 0 0]) (by simp [results, Try.results39, go_sem, x0, x1, x2, x3, x4]) rfl DN.out
    | false =>
      rw [is_no h30] at HA
      simp only at HA
      rintro e u31 ⟨rfl, c33, t34⟩
      rw [if_neg (by decide)] at t34
      have R32 := hide (R24.out.to c33 t34)
      clear c33 t34 K29 R24 h30
      have K45 : Hid (Calls Try.prog 63 #[.pointer (some ⟨g, 0, none⟩), .int .u8 94] u31 fun e w' => e = .returned (.bool (isS s (kn) false 94)) ∧ Ch (fun b => b = g) u31 w' ∧ SB w' g s (if isS s (kn) false 94 then (kn) + 1 else (kn)) false) := is_any g s (kn) false 94 u31 R32.out.sb hkn hs
      go_wp2_with fail
      with_reducible refine K45.out.mono ?_
      cases h46 : isS s (kn) false 94 with
      | true =>
        obtain ⟨q51, q52⟩ := is_yes h46
        rw [q51] at HA
        simp only at HA
        rintro e u47 ⟨rfl, c49, t50⟩
        rw [if_pos rfl] at t50
        have R48 := hide (R32.out.to c49 t50)
        clear c49 t50 K45 R32 h46 q51
        have K53 : Hid (Calls Try.prog 64 #[.pointer (some ⟨g, 0, none⟩), .int .u8 61] u47 fun e w' => e = .returned (.tuple #[]) ∧ Ch (fun b => b = g) u47 w' ∧ SB w' g s (if isS s (kn + 1) false 61 then (kn + 1) + 1 else (kn + 1)) (!isS s (kn + 1) false 61)) := must_any g s (kn + 1) false 61 u47 R48.out.sb q52 hs
        go_wp2_with fail
        with_reducible refine K53.out.mono ?_
        cases h54 : isS s (kn + 1) false 61 with
        | true =>
          obtain ⟨q59, q60⟩ := is_yes h54
          rw [q59] at HA
          simp only at HA
          rintro e u55 ⟨rfl, c57, t58⟩
          rw [if_pos rfl] at t58
          rw [Bool.not_true] at t58
          have R56 := hide (R48.out.to c57 t58)
          clear c57 t58 K53 R48 h54 q59
          have VV := hide (svalue_any g s (kn + 1 + 1) false u55 R56.out.sb q60 hs)
          rw [val_va] at VV
          cases hu : vaL (s.toList.drop (kn + 1 + 1)) with
          | none =>
            rw [hu] at VV HA
            have HF : Hid (none = ans) := HA.out
            go_wp2_with fail
            with_reducible refine VV.out.mono ?_
            rintro e v9 ⟨x, k9, rfl, hk9, hx9, c9, p9⟩
            have t9 : SB v9 g s k9 true := p9
            have RZ := hide (R56.out.to c9 t9)
            clear c9 t9 p9 VV R56 hu
            have DN : Hid (RfP ans g g2 n s w (.returned (.agg #[.int .i64 3, .string nm, .string x, .slice none 0 0, .slice none 0 0])) (put5 v9 w.heap.size ⟨3, nm, x, none, 0, 0, none, 0, 0⟩)) := by
              rw [← HF.out]
              exact rf_bad RZ.out.ch RZ.out.sb RZ.out.lt.1 hk9 ⟨3, nm, x, none, 0, 0, none, 0, 0⟩
            have BZ := hide (RZ.out.box)
            obtain ⟨d0, d1, d2, d3, d4, df⟩ := BZ.out.all
            have f10 := df 0
            have f11 := df 1
            have f12 := df 2
            have f13 := df 3
            have f14 := df 4
            dsimp only [hm0] at d0 d1 d2 d3 d4
            have FP := hide (BZ.out.put ⟨3, nm, x, none, 0, 0, none, 0, 0⟩)
            clear df
            go_wp2
            obtain ⟨x0, x1, x2, x3, x4, _⟩ := FP.out.all
            unfold put5 at x0 x1 x2 x3 x4
            dsimp only at x0 x1 x2 x3 x4
            exact bodyPost_ret (v := .agg #[.int .i64 3, .string nm, .string x, .slice none 0 0, .slice none 0 0]) (by simp [results, Try.results39, go_sem, x0, x1, x2, x3, x4]) rfl DN.out
          | some q =>
            obtain ⟨v, r⟩ := q
            rw [hu] at VV HA
            simp only [Option.map_some] at HA
            go_wp2_with fail
            with_reducible refine VV.out.mono ?_
            rintro e v9 ⟨x, k9, rfl, hk9, hx9, c9, p9⟩
            obtain ⟨hx, hd9, t9⟩ : x = ⟨v.toArray⟩ ∧ s.toList.drop k9 = r ∧ SB v9 g s k9 false := p9
            have HF : Hid (some (.mk 3 nm x [] [], r, left) = ans) := by
              rw [← HA.out, hx]
              exact rfl
            have RZ := hide (R56.out.to c9 t9)
            clear c9 t9 VV R56 hu hx HA
            have DN : Hid (RfP ans g g2 n s w (.returned (.agg #[.int .i64 3, .string nm, .string x, .slice none 0 0, .slice none 0 0])) (put5 v9 w.heap.size ⟨3, nm, x, none, 0, 0, none, 0, 0⟩)) := by
              rw [← HF.out]
              exact rf_some RZ.out hk9 hd9 (leaf_see _ _ (by decide) (by omega) (by omega)) (by omega) hl2 (by omega)
            have BZ := hide (RZ.out.box)
            obtain ⟨d0, d1, d2, d3, d4, df⟩ := BZ.out.all
            have f10 := df 0
            have f11 := df 1
            have f12 := df 2
            have f13 := df 3
            have f14 := df 4
            dsimp only [hm0] at d0 d1 d2 d3 d4
            have FP := hide (BZ.out.put ⟨3, nm, x, none, 0, 0, none, 0, 0⟩)
            clear df
            go_wp2
            obtain ⟨x0, x1, x2, x3, x4, _⟩ := FP.out.all
            unfold put5 at x0 x1 x2 x3 x4
            dsimp only at x0 x1 x2 x3 x4
            exact bodyPost_ret (v := .agg #[.int .i64 3, .string nm, .string x, .slice none 0 0, .slice none 0 0]) (by simp [results, Try.results39, go_sem, x0, x1, x2, x3, x4]) rfl DN.out
        | false =>
          rw [is_no h54] at HA
          have HF : Hid (none = ans) := HA.out
          rintro e u55 ⟨rfl, c57, t58⟩
          rw [if_neg (by decide)] at t58
          rw [Bool.not_false] at t58
          have R56 := hide (R48.out.to c57 t58)
          clear c57 t58 K53 R48 h54 HA
          have VV := hide (svalue_any g s (kn + 1) true u55 R56.out.sb q52 hs)
          rw [val_bad] at VV
          go_wp2_with fail
          with_reducible refine VV.out.mono ?_
          rintro e v9 ⟨x, k9, rfl, hk9, hx9, c9, p9⟩
          have t9 : SB v9 g s k9 true := p9
          have RZ := hide (R56.out.to c9 t9)
          clear c9 t9 p9 VV R56
          have DN : Hid (RfP ans g g2 n s w (.returned (.agg #[.int .i64 3, .string nm, .string x, .slice none 0 0, .slice none 0 0])) (put5 v9 w.heap.size ⟨3, nm, x, none, 0, 0, none, 0, 0⟩)) := by
            rw [← HF.out]
            exact rf_bad RZ.out.ch RZ.out.sb RZ.out.lt.1 hk9 ⟨3, nm, x, none, 0, 0, none, 0, 0⟩
          have BZ := hide (RZ.out.box)
          obtain ⟨d0, d1, d2, d3, d4, df⟩ := BZ.out.all
          have f10 := df 0
          have f11 := df 1
          have f12 := df 2
          have f13 := df 3
          have f14 := df 4
          dsimp only [hm0] at d0 d1 d2 d3 d4
          have FP := hide (BZ.out.put ⟨3, nm, x, none, 0, 0, none, 0, 0⟩)
          clear df
          go_wp2
          obtain ⟨x0, x1, x2, x3, x4, _⟩ := FP.out.all
          unfold put5 at x0 x1 x2 x3 x4
          dsimp only at x0 x1 x2 x3 x4
          exact bodyPost_ret (v := .agg #[.int .i64 3, .string nm, .string x, .slice none 0 0, .slice none 0 0]) (by simp [results, Try.results39, go_sem, x0, x1, x2, x3, x4]) rfl DN.out
      | false =>
        rw [is_no h46] at HA
        simp only at HA
        rintro e u47 ⟨rfl, c49, t50⟩
        rw [if_neg (by decide)] at t50
        have R48 := hide (R32.out.to c49 t50)
        clear c49 t50 K45 R32 h46
        have K61 : Hid (Calls Try.prog 64 #[.pointer (some ⟨g, 0, none⟩), .int .u8 64] u47 fun e w' => e = .returned (.tuple #[]) ∧ Ch (fun b => b = g) u47 w' ∧ SB w' g s (if isS s (kn) false 64 then (kn) + 1 else (kn)) (!isS s (kn) false 64)) := must_any g s (kn) false 64 u47 R48.out.sb hkn hs
        go_wp2_with fail
        with_reducible refine K61.out.mono ?_
        cases h62 : isS s (kn) false 64 with
        | true =>
          obtain ⟨q67, q68⟩ := is_yes h62
          rw [q67] at HA
          simp only at HA
          rintro e u63 ⟨rfl, c65, t66⟩
          rw [if_pos rfl] at t66
          rw [Bool.not_true] at t66
          have R64 := hide (R48.out.to c65 t66)
          clear c65 t66 K61 R48 h62 q67
          have K69 : Hid (Calls Try.prog 64 #[.pointer (some ⟨g, 0, none⟩), .int .u8 40] u63 fun e w' => e = .returned (.tuple #[]) ∧ Ch (fun b => b = g) u63 w' ∧ SB w' g s (if isS s (kn + 1) false 40 then (kn + 1) + 1 else (kn + 1)) (!isS s (kn + 1) false 40)) := must_any g s (kn + 1) false 40 u63 R64.out.sb q68 hs
          go_wp2_with fail
          with_reducible refine K69.out.mono ?_
          cases h70 : isS s (kn + 1) false 40 with
          | true =>
            obtain ⟨q75, q76⟩ := is_yes h70
            rw [q75] at HA
            simp only at HA
            rintro e u71 ⟨rfl, c73, t74⟩
            rw [if_pos rfl] at t74
            rw [Bool.not_true] at t74
            have R72 := hide (R64.out.to c73 t74)
            clear c73 t74 K69 R64 h70 q75
            obtain ⟨v0, hv0⟩ : ∃ v0, Hid (u71.alloc (.cells #[.int .i64 4, .string nm, .string ⟨#[]⟩, .slice none 0 0, .slice none 0 0] 25) = v0) := ⟨_, rfl⟩
            have D0 := hide (VaR.start (nm := nm) R72.out hv0.out)
            have HI : Hid (ans = (lxV 17 (s.toList.drop (kn + 1 + 1))).map (fun z => (.mk 4 nm .empty ([] ++ z.1) [], z.2, left))) := by
              rw [← HA.out]
              show _ = _
              cases lxV 17 (s.toList.drop (kn + 1 + 1)) <;> rfl
            go_upto_region 36 with fail
            rw [hv0.out]
            clear hv0 R72 HA
            generalize u71.heap.size = gm at *
            go_loopg [] 19 (fun gh wr => (∃ (k : Nat) (a : Option Addr) (j c : Nat) (ss : List ByteArray), k ≤ s.size ∧ j ≤ 17 ∧ 18 - j ≤ gh ∧ Hid (VaR w wr g g2 s k false (n + 1) gm nm a j c ss) ∧ Hid (ans = (lxV (17 - j) (s.toList.drop k)).map (fun z => (.mk 4 nm .empty (ss ++ z.1) [], z.2, left)))) ∨ (∃ (k : Nat) (a : Option Addr) (j c : Nat) (ss : List ByteArray), k ≤ s.size ∧ j ≤ 17 ∧ Hid (VaR w wr g g2 s k true (n + 1) gm nm a j c ss) ∧ Hid (none = ans)))
            case atStart => exact Or.inl ⟨kn + 1 + 1, none, 0, 0, [], q76, by omega, by omega, D0, HI⟩
            case round =>
              clear D0 HI
              rcases hrel with ⟨k9, a, j, c, ss, hk9, hj, hg1, D, HI⟩ | ⟨k9, a, j, c, ss, hk9, hj, D, HF⟩
              · obtain ⟨u, rfl⟩ : ∃ u, u = wr := ⟨wr, rfl⟩
                obtain ⟨s0, s1, s2, _⟩ := D.out.rs.sb.cell
                obtain ⟨m0, m1, m2, m3, m4, _⟩ := D.out.mb.all
                dsimp only at m0 m1 m2 m3 m4
                by_cases h17 : j = 17
                · have i1 : ¬ (j : Int) ≤ 16 := by omega
                  have i2 : decide ((j : Int) ≤ 16) = false := decide_eq_false i1
                  have HF : Hid (none = ans) := by
                    rw [HI.out, h17]
                    exact rfl
                  clear HI h17 s0 s1 s2 m0 m1 m2 m3 m4
                  obtain ⟨m0, m1, m2, m3, m4, _⟩ := D.out.mb.all
                  dsimp only at m0 m1 m2 m3 m4
                  obtain ⟨s0, s1, s2, sf⟩ := D.out.rs.sb.cell
                  have sf2 := sf 2
                  clear sf
                  obtain ⟨v8, hv8⟩ : ∃ v8, Hid (u.setCell ⟨g, 2, none⟩ (.bool true) = v8) := ⟨_, rfl⟩
                  have DZ := hide (D.out.to (ch_set u g 2 (.bool true)) D.out.rs.sb.spoil)
                  rw [hv8.out] at DZ
                  obtain ⟨n0, n1, n2, n3, n4, _⟩ := D.out.mb.all
                  dsimp only at n0 n1 n2 n3 n4
                  go_upto_region 43 with fail
                  rw [hv8.out]
                  clear hv8 s0 s1 s2 sf2 n0 n1 n2 n3 n4
                  obtain ⟨m0, m1, m2, m3, m4, _⟩ := DZ.out.mb.all
                  dsimp only at m0 m1 m2 m3 m4
                  have DN : Hid (RfP ans g g2 n s w (.returned (.agg #[.int .i64 4, .string nm, .string ⟨#[]⟩, .slice a j c, .slice none 0 0])) (put5 v8 w.heap.size ⟨4, nm, ⟨#[]⟩, a, j, c, none, 0, 0⟩)) := by
                    rw [← HF.out]
                    exact rf_bad DZ.out.rs.ch DZ.out.rs.sb DZ.out.rs.lt.1 hk9 ⟨4, nm, ⟨#[]⟩, a, j, c, none, 0, 0⟩
                  have BZ := hide (DZ.out.rs.box)
                  obtain ⟨d0, d1, d2, d3, d4, df⟩ := BZ.out.all
                  have f10 := df 0
                  have f11 := df 1
                  have f12 := df 2
                  have f13 := df 3
                  have f14 := df 4
                  dsimp only [hm0] at d0 d1 d2 d3 d4
                  have FP := hide (BZ.out.put ⟨4, nm, ⟨#[]⟩, a, j, c, none, 0, 0⟩)
                  clear df
                  go_wp2
                  obtain ⟨x0, x1, x2, x3, x4, _⟩ := FP.out.all
                  unfold put5 at x0 x1 x2 x3 x4
                  dsimp only at x0 x1 x2 x3 x4
                  exact bodyPost_ret (v := .agg #[.int .i64 4, .string nm, .string ⟨#[]⟩, .slice a j c, .slice none 0 0]) (by simp [results, Try.results39, go_sem, x0, x1, x2, x3, x4]) rfl DN.out
                · have i1 : (j : Int) ≤ 16 := by omega
                  obtain ⟨F, hF⟩ : ∃ F, 17 - j = F + 1 := ⟨17 - j - 1, by omega⟩
                  have hF2 : 17 - (j + 1) = F := by omega
                  rw [hF, lxV_step] at HI
                  have VV := hide (svalue_any g s k9 false u D.out.rs.sb hk9 hs)
                  rw [val_va] at VV
                  cases hu : vaL (s.toList.drop k9) with
                  | none =>
                    rw [hu] at VV HI
                    have HF : Hid (none = ans) := by
                      rw [HI.out]
                      exact rfl
                    go_wp2_with fail
                    with_reducible refine VV.out.mono ?_
                    rintro e u6 ⟨x, k6, rfl, hk6, hx6, c6, p6⟩
                    have t6 : SB u6 g s k6 true := p6
                    have D6 := hide (D.out.to c6 t6)
                    clear c6 t6 p6 VV D hu HI s0 s1 s2 m0 m1 m2 m3 m4
                    have hx2 : x.size ≤ 20000 := by omega
                    have O6 : Hid ((u6.alloc (.cells #[.string x] 9)).ownsRow (gm + 1) 9 1 (.slice a j c) j (ss.map Value.string)) := row_ch D6.out.own (Ch.of_below ((Below.refl _ _).alloc (Nat.le_refl _) _)) (fun _ _ => id)
                    have HBS : Hid (gm + 1 ≤ (u6.alloc (.cells #[.string x] 9)).heap.size) := by
                      have := D6.out.mb.lt
                      show _ ≤ _
                      simp
                      omega
                    obtain ⟨m0, m1, m2, m3, m4, _⟩ := D6.out.mb.all
                    dsimp only at m0 m1 m2 m3 m4
                    obtain ⟨i7, hj7, hy0, hy1, hy2⟩ := info_parts Try.infoS
                    go_wp2_with (at_builtin; refine wpList_push _ rfl _ _ 22 rfl (gm + 1) 9 i7 (.string .empty) 16 Try.underlying22 hj7 hy0 hy1 hy2 rfl a j c (ss.map Value.string) rfl O6.out ⟨u6.heap.size, 0, none⟩ 1 (.string x) rfl (one_strcell u6 x _) rfl (by unfold maxLen; omega) (by omega) HBS.out ?_)
                    intro g' c' w4 o4 gr4 _
                    have D7 := hide (D6.out.push hx2 o4 gr4)
                    have M4 : Hid (BoxM w4 gm ⟨4, nm, ⟨#[]⟩, a, j, c, none, 0, 0⟩) := by
                      have c4 := Ch.grown gr4
                      have b1 : BoxM (u6.alloc (.cells #[.string x] 9)) gm ⟨4, nm, ⟨#[]⟩, a, j, c, none, 0, 0⟩ := D6.out.mb.block (Below.heap_alloc _ _ _ D6.out.mb.lt)
                      exact b1.block (c4.block _ b1.lt (fun e => by have := (row_cells D6.out.own e).2; omega))
                    obtain ⟨z0, z1, z2, z3, z4, zf⟩ := M4.out.all
                    have zf3 := zf 3
                    dsimp only at z0 z1 z2 z3 z4
                    obtain ⟨u9, hu9⟩ : ∃ u9, Hid (w4.setCell ⟨gm, 3, none⟩ (.slice (some ⟨g', 0, none⟩) (j + 1) c') = u9) := ⟨_, rfl⟩
                    rw [hu9.out] at D7
                    clear o4 gr4 O6 HBS D6 M4 zf m0 m1 m2 m3 m4
                    go_upto_region 39 with fail
                    rw [hu9.out]
                    clear hu9 z0 z1 z2 z3 z4 zf3
                    have K77 : Hid (Calls Try.prog 63 #[.pointer (some ⟨g, 0, none⟩), .int .u8 41] u9 fun e w' => e = .returned (.bool (isS s (k6) true 41)) ∧ Ch (fun b => b = g) u9 w' ∧ SB w' g s (if isS s (k6) true 41 then (k6) + 1 else (k6)) true) := is_any g s (k6) true 41 u9 D7.out.rs.sb hk6 hs
                    go_wp2_with fail
                    with_reducible refine K77.out.mono ?_
                    rintro e v5 ⟨rfl, c5, t5⟩
                    rw [is_bad, if_neg (by decide)] at t5
                    rw [is_bad]
                    have D8 := hide (D7.out.to c5 t5)
                    clear c5 t5 D7 K77
                    have K78 : Hid (Calls Try.prog 64 #[.pointer (some ⟨g, 0, none⟩), .int .u8 44] v5 fun e w' => e = .returned (.tuple #[]) ∧ Ch (fun b => b = g) v5 w' ∧ SB w' g s (if isS s (k6) true 44 then (k6) + 1 else (k6)) (!isS s (k6) true 44)) := must_any g s (k6) true 44 v5 D8.out.rs.sb hk6 hs
                    go_wp2_with fail
                    with_reducible refine K78.out.mono ?_
                    rintro e v6 ⟨rfl, c5, t5⟩
                    have D9 := hide (D8.out.to c5 (must_bad t5))
                    clear c5 t5 D8 K78
                    go_wp2
                    go_roundg 0
                    case measure => omega
                    case rel => exact Or.inr ⟨k6, _, _, _, _, hk6, by omega, D9, HF⟩
                  | some q =>
                    obtain ⟨v, r⟩ := q
                    rw [hu] at VV
                    go_wp2_with fail
                    with_reducible refine VV.out.mono ?_
                    rintro e u6 ⟨x, k6, rfl, hk6, hx6, c6, p6⟩
                    obtain ⟨hx, hd6, t6⟩ : x = ⟨v.toArray⟩ ∧ s.toList.drop k6 = r ∧ SB u6 g s k6 false := p6
                    have HI3 : Hid (ans = (lxVC F (s.toList.drop k6)).map (fun z => (.mk 4 nm .empty (ss ++ [x] ++ z.1) [], z.2, left))) := by
                      rw [HI.out, hu, hd6, hx, Option.map_map]
                      show _ = _
                      congr 1
                      funext z
                      simp [bar]
                    clear hx hd6
                    have D6 := hide (D.out.to c6 t6)
                    clear c6 t6 VV D hu HI s0 s1 s2 m0 m1 m2 m3 m4
                    have hx2 : x.size ≤ 20000 := by omega
                    have O6 : Hid ((u6.alloc (.cells #[.string x] 9)).ownsRow (gm + 1) 9 1 (.slice a j c) j (ss.map Value.string)) := row_ch D6.out.own (Ch.of_below ((Below.refl _ _).alloc (Nat.le_refl _) _)) (fun _ _ => id)
                    have HBS : Hid (gm + 1 ≤ (u6.alloc (.cells #[.string x] 9)).heap.size) := by
                      have := D6.out.mb.lt
                      show _ ≤ _
                      simp
                      omega
                    obtain ⟨m0, m1, m2, m3, m4, _⟩ := D6.out.mb.all
                    dsimp only at m0 m1 m2 m3 m4
                    obtain ⟨i7, hj7, hy0, hy1, hy2⟩ := info_parts Try.infoS
                    go_wp2_with (at_builtin; refine wpList_push _ rfl _ _ 22 rfl (gm + 1) 9 i7 (.string .empty) 16 Try.underlying22 hj7 hy0 hy1 hy2 rfl a j c (ss.map Value.string) rfl O6.out ⟨u6.heap.size, 0, none⟩ 1 (.string x) rfl (one_strcell u6 x _) rfl (by unfold maxLen; omega) (by omega) HBS.out ?_)
                    intro g' c' w4 o4 gr4 _
                    have D7 := hide (D6.out.push hx2 o4 gr4)
                    have M4 : Hid (BoxM w4 gm ⟨4, nm, ⟨#[]⟩, a, j, c, none, 0, 0⟩) := by
                      have c4 := Ch.grown gr4
                      have b1 : BoxM (u6.alloc (.cells #[.string x] 9)) gm ⟨4, nm, ⟨#[]⟩, a, j, c, none, 0, 0⟩ := D6.out.mb.block (Below.heap_alloc _ _ _ D6.out.mb.lt)
                      exact b1.block (c4.block _ b1.lt (fun e => by have := (row_cells D6.out.own e).2; omega))
                    obtain ⟨z0, z1, z2, z3, z4, zf⟩ := M4.out.all
                    have zf3 := zf 3
                    dsimp only at z0 z1 z2 z3 z4
                    obtain ⟨u9, hu9⟩ : ∃ u9, Hid (w4.setCell ⟨gm, 3, none⟩ (.slice (some ⟨g', 0, none⟩) (j + 1) c') = u9) := ⟨_, rfl⟩
                    rw [hu9.out] at D7
                    clear o4 gr4 O6 HBS D6 M4 zf m0 m1 m2 m3 m4
                    go_upto_region 39 with fail
                    rw [hu9.out]
                    clear hu9 z0 z1 z2 z3 z4 zf3
                    have K79 : Hid (Calls Try.prog 63 #[.pointer (some ⟨g, 0, none⟩), .int .u8 41] u9 fun e w' => e = .returned (.bool (isS s (k6) false 41)) ∧ Ch (fun b => b = g) u9 w' ∧ SB w' g s (if isS s (k6) false 41 then (k6) + 1 else (k6)) false) := is_any g s (k6) false 41 u9 D7.out.rs.sb hk6 hs
                    go_wp2_with fail
                    with_reducible refine K79.out.mono ?_
                    cases h61 : isS s k6 false 41 with
                    | true =>
                      obtain ⟨q7, q8⟩ := is_yes h61
                      unfold lxVC at HI3
                      rw [q7] at HI3
                      simp only [Option.map_some, List.append_nil] at HI3
                      have HF : Hid (some (.mk 4 nm .empty (ss ++ [x]) [], s.toList.drop (k6 + 1), left) = ans) := HI3.out.symm
                      rintro e v5 ⟨rfl, c5, t5⟩
                      rw [if_pos rfl] at t5
                      have D8 := hide (D7.out.to c5 t5)
                      clear c5 t5 D7 K79 h61 q7 HI3
                      obtain ⟨m0, m1, m2, m3, m4, _⟩ := D8.out.mb.all
                      dsimp only at m0 m1 m2 m3 m4
                      have DN : Hid (RfP ans g g2 n s w (.returned (.agg #[.int .i64 4, .string nm, .string ⟨#[]⟩, .slice (some ⟨g', 0, none⟩) (j + 1) c', .slice none 0 0])) (put5 v5 w.heap.size ⟨4, nm, ⟨#[]⟩, (some ⟨g', 0, none⟩), (j + 1), c', none, 0, 0⟩)) := by
                        rw [← HF.out]
                        exact rf_some D8.out.rs q8 rfl (D8.out.fin (by omega) hnm) (by omega) hl2 (by omega)
                      have BZ := hide (D8.out.rs.box)
                      obtain ⟨d0, d1, d2, d3, d4, df⟩ := BZ.out.all
                      have f10 := df 0
                      have f11 := df 1
                      have f12 := df 2
                      have f13 := df 3
                      have f14 := df 4
                      dsimp only [hm0] at d0 d1 d2 d3 d4
                      have FP := hide (BZ.out.put ⟨4, nm, ⟨#[]⟩, (some ⟨g', 0, none⟩), (j + 1), c', none, 0, 0⟩)
                      clear df
                      go_wp2
                      obtain ⟨x0, x1, x2, x3, x4, _⟩ := FP.out.all
                      unfold put5 at x0 x1 x2 x3 x4
                      dsimp only at x0 x1 x2 x3 x4
                      exact bodyPost_ret (v := .agg #[.int .i64 4, .string nm, .string ⟨#[]⟩, .slice (some ⟨g', 0, none⟩) (j + 1) c', .slice none 0 0]) (by simp [results, Try.results39, go_sem, x0, x1, x2, x3, x4]) rfl DN.out
                    | false =>
                      unfold lxVC at HI3
                      rw [is_no h61] at HI3
                      simp only at HI3
                      rintro e v5 ⟨rfl, c5, t5⟩
                      rw [if_neg (by decide)] at t5
                      have D8 := hide (D7.out.to c5 t5)
                      clear c5 t5 D7 K79 h61
                      have K80 : Hid (Calls Try.prog 64 #[.pointer (some ⟨g, 0, none⟩), .int .u8 44] v5 fun e w' => e = .returned (.tuple #[]) ∧ Ch (fun b => b = g) v5 w' ∧ SB w' g s (if isS s (k6) false 44 then (k6) + 1 else (k6)) (!isS s (k6) false 44)) := must_any g s (k6) false 44 v5 D8.out.rs.sb hk6 hs
                      go_wp2_with fail
                      with_reducible refine K80.out.mono ?_
                      cases h62 : isS s k6 false 44 with
                      | true =>
                        obtain ⟨q7, q8⟩ := is_yes h62
                        rw [q7] at HI3
                        simp only at HI3
                        rw [← hF2] at HI3
                        rintro e v6 ⟨rfl, c5, t5⟩
                        rw [if_pos rfl] at t5
                        rw [Bool.not_true] at t5
                        have D9 := hide (D8.out.to c5 t5)
                        clear c5 t5 D8 K80 h62 q7
                        go_wp2
                        go_roundg (18 - (j + 1))
                        case measure => omega
                        case rel => exact Or.inl ⟨k6 + 1, _, j + 1, _, _, q8, by omega, Nat.le_refl _, D9, HI3⟩
                      | false =>
                        rw [is_no h62] at HI3
                        have HF : Hid (none = ans) := HI3.out.symm
                        rintro e v6 ⟨rfl, c5, t5⟩
                        rw [if_neg (by decide)] at t5
                        rw [Bool.not_false] at t5
                        have D9 := hide (D8.out.to c5 t5)
                        clear c5 t5 D8 K80 h62
                        go_wp2
                        go_roundg 0
                        case measure => omega
                        case rel => exact Or.inr ⟨k6, _, _, _, _, hk6, by omega, D9, HF⟩
              · obtain ⟨u, rfl⟩ : ∃ u, u = wr := ⟨wr, rfl⟩
                obtain ⟨s0, s1, s2, _⟩ := D.out.rs.sb.cell
                obtain ⟨s0, s1, s2, sf⟩ := D.out.rs.sb.cell
                have sf2 := sf 2
                clear sf
                obtain ⟨v8, hv8⟩ : ∃ v8, Hid (u.setCell ⟨g, 2, none⟩ (.bool true) = v8) := ⟨_, rfl⟩
                have DZ := hide (D.out.to (ch_set u g 2 (.bool true)) D.out.rs.sb.spoil)
                rw [hv8.out] at DZ
                obtain ⟨n0, n1, n2, n3, n4, _⟩ := D.out.mb.all
                dsimp only at n0 n1 n2 n3 n4
                go_upto_region 43 with fail
                rw [hv8.out]
                clear hv8 s0 s1 s2 sf2 n0 n1 n2 n3 n4
                obtain ⟨m0, m1, m2, m3, m4, _⟩ := DZ.out.mb.all
                dsimp only at m0 m1 m2 m3 m4
                have DN : Hid (RfP ans g g2 n s w (.returned (.agg #[.int .i64 4, .string nm, .string ⟨#[]⟩, .slice a j c, .slice none 0 0])) (put5 v8 w.heap.size ⟨4, nm, ⟨#[]⟩, a, j, c, none, 0, 0⟩)) := by
                  rw [← HF.out]
                  exact rf_bad DZ.out.rs.ch DZ.out.rs.sb DZ.out.rs.lt.1 hk9 ⟨4, nm, ⟨#[]⟩, a, j, c, none, 0, 0⟩
                have BZ := hide (DZ.out.rs.box)
                obtain ⟨d0, d1, d2, d3, d4, df⟩ := BZ.out.all
                have f10 := df 0
                have f11 := df 1
                have f12 := df 2
                have f13 := df 3
                have f14 := df 4
                dsimp only [hm0] at d0 d1 d2 d3 d4
                have FP := hide (BZ.out.put ⟨4, nm, ⟨#[]⟩, a, j, c, none, 0, 0⟩)
                clear df
                go_wp2
                obtain ⟨x0, x1, x2, x3, x4, _⟩ := FP.out.all
                unfold put5 at x0 x1 x2 x3 x4
                dsimp only at x0 x1 x2 x3 x4
                exact bodyPost_ret (v := .agg #[.int .i64 4, .string nm, .string ⟨#[]⟩, .slice a j c, .slice none 0 0]) (by simp [results, Try.results39, go_sem, x0, x1, x2, x3, x4]) rfl DN.out
          | false =>
            rw [is_no h70] at HA
            have HF : Hid (none = ans) := HA.out
            rintro e u71 ⟨rfl, c73, t74⟩
            rw [if_neg (by decide)] at t74
            rw [Bool.not_false] at t74
            have R72 := hide (R64.out.to c73 t74)
            clear c73 t74 K69 R64 h70 HA
            obtain ⟨v0, hv0⟩ : ∃ v0, Hid (u71.alloc (.cells #[.int .i64 4, .string nm, .string ⟨#[]⟩, .slice none 0 0, .slice none 0 0] 25) = v0) := ⟨_, rfl⟩
            have D0 := hide (VaR.start (nm := nm) R72.out hv0.out)
            go_upto_region 36 with fail
            rw [hv0.out]
            clear hv0 R72
            generalize u71.heap.size = gm at *
            go_loopg [] 1 (fun gh wr => Hid (wr = v0))
            case atStart => exact hide rfl
            case round =>
              have hw := hrel.out
              subst hw
              obtain ⟨s0, s1, s2, sf⟩ := D0.out.rs.sb.cell
              have sf2 := sf 2
              clear sf
              obtain ⟨v8, hv8⟩ : ∃ v8, Hid (wr.setCell ⟨g, 2, none⟩ (.bool true) = v8) := ⟨_, rfl⟩
              have DZ := hide (D0.out.to (ch_set wr g 2 (.bool true)) D0.out.rs.sb.spoil)
              rw [hv8.out] at DZ
              obtain ⟨n0, n1, n2, n3, n4, _⟩ := D0.out.mb.all
              dsimp only at n0 n1 n2 n3 n4
              go_upto_region 43 with fail
              rw [hv8.out]
              clear hv8 s0 s1 s2 sf2 n0 n1 n2 n3 n4
              obtain ⟨m0, m1, m2, m3, m4, _⟩ := DZ.out.mb.all
              dsimp only at m0 m1 m2 m3 m4
              have DN : Hid (RfP ans g g2 n s w (.returned (.agg #[.int .i64 4, .string nm, .string ⟨#[]⟩, .slice none 0 0, .slice none 0 0])) (put5 v8 w.heap.size ⟨4, nm, ⟨#[]⟩, none, 0, 0, none, 0, 0⟩)) := by
                rw [← HF.out]
                exact rf_bad DZ.out.rs.ch DZ.out.rs.sb DZ.out.rs.lt.1 q68 ⟨4, nm, ⟨#[]⟩, none, 0, 0, none, 0, 0⟩
              have BZ := hide (DZ.out.rs.box)
              obtain ⟨d0, d1, d2, d3, d4, df⟩ := BZ.out.all
              have f10 := df 0
              have f11 := df 1
              have f12 := df 2
              have f13 := df 3
              have f14 := df 4
              dsimp only [hm0] at d0 d1 d2 d3 d4
              have FP := hide (BZ.out.put ⟨4, nm, ⟨#[]⟩, none, 0, 0, none, 0, 0⟩)
              clear df
              go_wp2
              obtain ⟨x0, x1, x2, x3, x4, _⟩ := FP.out.all
              unfold put5 at x0 x1 x2 x3 x4
              dsimp only at x0 x1 x2 x3 x4
              exact bodyPost_ret (v := .agg #[.int .i64 4, .string nm, .string ⟨#[]⟩, .slice none 0 0, .slice none 0 0]) (by simp [results, Try.results39, go_sem, x0, x1, x2, x3, x4]) rfl DN.out
        | false =>
          rw [is_no h62] at HA
          have HF : Hid (none = ans) := HA.out
          rintro e u63 ⟨rfl, c65, t66⟩
          rw [if_neg (by decide)] at t66
          rw [Bool.not_false] at t66
          have R64 := hide (R48.out.to c65 t66)
          clear c65 t66 K61 R48 h62 HA
          have K81 : Hid (Calls Try.prog 64 #[.pointer (some ⟨g, 0, none⟩), .int .u8 40] u63 fun e w' => e = .returned (.tuple #[]) ∧ Ch (fun b => b = g) u63 w' ∧ SB w' g s (if isS s (kn) true 40 then (kn) + 1 else (kn)) (!isS s (kn) true 40)) := must_any g s (kn) true 40 u63 R64.out.sb hkn hs
          go_wp2_with fail
          with_reducible refine K81.out.mono ?_
          rintro e u82 ⟨rfl, c84, t85⟩
          have R83 := hide (R64.out.to c84 (must_bad t85))
          clear c84 t85 K81 R64
          obtain ⟨v0, hv0⟩ : ∃ v0, Hid (u82.alloc (.cells #[.int .i64 4, .string nm, .string ⟨#[]⟩, .slice none 0 0, .slice none 0 0] 25) = v0) := ⟨_, rfl⟩
          have D0 := hide (VaR.start (nm := nm) R83.out hv0.out)
          go_upto_region 36 with fail
          rw [hv0.out]
          clear hv0 R83
          generalize u82.heap.size = gm at *
          go_loopg [] 1 (fun gh wr => Hid (wr = v0))
          case atStart => exact hide rfl
          case round =>
            have hw := hrel.out
            subst hw
            obtain ⟨s0, s1, s2, sf⟩ := D0.out.rs.sb.cell
            have sf2 := sf 2
            clear sf
            obtain ⟨v8, hv8⟩ : ∃ v8, Hid (wr.setCell ⟨g, 2, none⟩ (.bool true) = v8) := ⟨_, rfl⟩
            have DZ := hide (D0.out.to (ch_set wr g 2 (.bool true)) D0.out.rs.sb.spoil)
            rw [hv8.out] at DZ
            obtain ⟨n0, n1, n2, n3, n4, _⟩ := D0.out.mb.all
            dsimp only at n0 n1 n2 n3 n4
            go_upto_region 43 with fail
            rw [hv8.out]
            clear hv8 s0 s1 s2 sf2 n0 n1 n2 n3 n4
            obtain ⟨m0, m1, m2, m3, m4, _⟩ := DZ.out.mb.all
            dsimp only at m0 m1 m2 m3 m4
            have DN : Hid (RfP ans g g2 n s w (.returned (.agg #[.int .i64 4, .string nm, .string ⟨#[]⟩, .slice none 0 0, .slice none 0 0])) (put5 v8 w.heap.size ⟨4, nm, ⟨#[]⟩, none, 0, 0, none, 0, 0⟩)) := by
              rw [← HF.out]
              exact rf_bad DZ.out.rs.ch DZ.out.rs.sb DZ.out.rs.lt.1 hkn ⟨4, nm, ⟨#[]⟩, none, 0, 0, none, 0, 0⟩
            have BZ := hide (DZ.out.rs.box)
            obtain ⟨d0, d1, d2, d3, d4, df⟩ := BZ.out.all
            have f10 := df 0
            have f11 := df 1
            have f12 := df 2
            have f13 := df 3
            have f14 := df 4
            dsimp only [hm0] at d0 d1 d2 d3 d4
            have FP := hide (BZ.out.put ⟨4, nm, ⟨#[]⟩, none, 0, 0, none, 0, 0⟩)
            clear df
            go_wp2
            obtain ⟨x0, x1, x2, x3, x4, _⟩ := FP.out.all
            unfold put5 at x0 x1 x2 x3 x4
            dsimp only at x0 x1 x2 x3 x4
            exact bodyPost_ret (v := .agg #[.int .i64 4, .string nm, .string ⟨#[]⟩, .slice none 0 0, .slice none 0 0]) (by simp [results, Try.results39, go_sem, x0, x1, x2, x3, x4]) rfl DN.out
end Go.Proofs.Ythebcmkainplnaa

namespace Go.Proofs.Ythebcmkainplnaa
open Go.RowKit
set_option maxRecDepth 20000

set_option maxHeartbeats 16000000 in
theorem read_5 (f : Nat) (IH : ∀ F, F < f + 1 → RdF F) (g g2 n : Nat) (s : ByteArray) (k : Nat) (w : World) (h : SB w g s k false) (hb : BX w g2 n) (hgg : g ≠ g2) (hk : k ≤ s.size) (hs : s.size ≤ 20000) (hn : n < 64) (hf : 3 * (64 - n) + 1 ≤ f + 1) (h42 : isS s k false 42 = false) (h38 : isS s k false 38 = true) :
    Calls Try.prog 39 #[.pointer (some ⟨g, 0, none⟩), .pointer (some ⟨g2, 0, none⟩)] w fun e w' => RfP (lxM (f + 1) (64 - n) (s.toList.drop k)) g g2 n s w e w' := by
  have hg := h.lt
  have hg2 := hb.lt
  obtain ⟨W, hW⟩ : ∃ W, Hid (w.alloc (.cells #[.int .i64 0, .string ⟨#[]⟩, .string ⟨#[]⟩, .slice none 0 0, .slice none 0 0] 25) = W) := ⟨_, rfl⟩
  obtain ⟨V, hV⟩ : ∃ V, Hid (W.setCell ⟨g2, 0, none⟩ (.int .i64 ((n : Int) + 1)) = V) := ⟨_, rfl⟩
  have R0 := hide (rs_start h hb hgg hW.out hV.out)
  have bx : Hid (BX W g2 n) := by rw [← hW.out]; exact hb.block (Below.heap_alloc _ _ _ hb.lt)
  obtain ⟨b0, b1⟩ := bx.out.cell
  obtain ⟨a0, a1⟩ := R0.out.cnt.cell
  rw [show ((n + 1 : Nat) : Int) = (n : Int) + 1 from rfl] at a0
  obtain ⟨s0, s1, s2, sf⟩ := R0.out.sb.cell
  obtain ⟨ans, HA⟩ : ∃ ans, Hid (lxM (f + 1) (64 - n) (s.toList.drop k) = ans) := ⟨_, rfl⟩
  rw [HA.out]
  clear h hb bx
  obtain ⟨left, hl⟩ : ∃ left, 64 - n = left + 1 := ⟨64 - n - 1, by omega⟩
  obtain ⟨f1, hf1⟩ : ∃ f1, f = f1 + 2 := ⟨f - 2, by omega⟩
  obtain ⟨q1, q2⟩ := is_yes h38
  have hl2 : 64 - (n + 1) = left := by omega
  rw [hl, lxM, is_no h42] at HA
  simp only at HA
  rw [q1] at HA
  simp only at HA
  rw [hf1, lxK] at HA
  have t1 : ¬ (64 : Int) < (n : Int) + 1 := by omega
  have MT := hide (fun F (hF : F < f + 1) (n k : Nat) u (q : SB u g s k false) (c : BX u g2 n) (hk : k ≤ s.size) (hn : n ≤ 64) (h3 : 3 * (64 - n) + 1 ≤ F) => IH F hF g g2 n s k u q c hgg hk hs hn h3)
  obtain ⟨i0, hi, hz0, hz1, hz2⟩ := info_parts Try.infoM
  clear sf q1 IH
  go_enter Try.func39, Try.ntmps39
  go_upto_region 1 with fail
  rw [hW.out]
  go_upto_region 2 with fail
  rw [hV.out]
  clear hW hV b0 b1
  have K2 : Hid (Calls Try.prog 63 #[.pointer (some ⟨g, 0, none⟩), .int .u8 42] V fun e w' => e = .returned (.bool (isS s (k) false 42)) ∧ Ch (fun b => b = g) V w' ∧ SB w' g s (if isS s (k) false 42 then (k) + 1 else (k)) false) := is_any g s (k) false 42 V R0.out.sb hk hs
  go_wp2_with fail
  with_reducible refine K2.out.mono ?_
  rw [h42]
  rintro e u3 ⟨rfl, c5, t6⟩
  rw [if_neg (by decide)] at t6
  have R4 := hide (R0.out.to c5 t6)
  clear c5 t6 K2 R0 s0 s1 s2 a0 a1
  have K7 : Hid (Calls Try.prog 63 #[.pointer (some ⟨g, 0, none⟩), .int .u8 38] u3 fun e w' => e = .returned (.bool (isS s (k) false 38)) ∧ Ch (fun b => b = g) u3 w' ∧ SB w' g s (if isS s (k) false 38 then (k) + 1 else (k)) false) := is_any g s (k) false 38 u3 R4.out.sb hk hs
  go_wp2_with fail
  with_reducible refine K7.out.mono ?_
  rw [h38]
  rintro e u8 ⟨rfl, c10, t11⟩
  rw [if_pos rfl] at t11
  have R9 := hide (R4.out.to c10 t11)
  clear c10 t11 K7 R4
  have hk1 := q2
  obtain ⟨v0, hv0⟩ : ∃ v0, Hid (u8.alloc (.cells #[.int .i64 5, .string ⟨#[]⟩, .string ⟨#[]⟩, .slice none 0 0, .slice none 0 0] 25) = v0) := ⟨_, rfl⟩
  have D0 := hide (KdR.start R9.out hv0.out)
  have GM : Hid (u8.heap.size < v0.heap.size) := D0.out.mb.lt
  go_upto_region 15 with fail
  rw [hv0.out]
  clear hv0 R9
  generalize u8.heap.size = gm at *
  have K12 : Hid (Calls Try.prog 64 #[.pointer (some ⟨g, 0, none⟩), .int .u8 40] v0 fun e w' => e = .returned (.tuple #[]) ∧ Ch (fun b => b = g) v0 w' ∧ SB w' g s (if isS s (k + 1) false 40 then (k + 1) + 1 else (k + 1)) (!isS s (k + 1) false 40)) := must_any g s (k + 1) false 40 v0 D0.out.rs.sb hk1 hs
  go_wp2_with fail
  with_reducible refine K12.out.mono ?_
  cases h40 : isS s (k + 1) false 40 with
  | false =>
    rw [is_no h40] at HA
    have HF : Hid (none = ans) := HA.out
    rintro e v1 ⟨rfl, c1, t2⟩
    rw [if_neg (by decide)] at t2
    rw [Bool.not_false] at t2
    have D1 := hide (D0.out.bad c1 t2)
    clear c1 t2 D0 K12 h40
    have K13 : Hid (Calls Try.prog 63 #[.pointer (some ⟨g, 0, none⟩), .int .u8 41] v1 fun e w' => e = .returned (.bool (isS s (k + 1) true 41)) ∧ Ch (fun b => b = g) v1 w' ∧ SB w' g s (if isS s (k + 1) true 41 then (k + 1) + 1 else (k + 1)) true) := is_any g s (k + 1) true 41 v1 D1.out.sb hk1 hs
    go_wp2_with fail
    with_reducible refine K13.out.mono ?_
    rintro e v2 ⟨rfl, c2, t3⟩
    rw [is_bad, if_neg (by decide)] at t3
    rw [is_bad]
    have D2 := hide (D1.out.to c2 t3)
    clear c2 t3 D1 K13
    obtain ⟨s0, s1, s2, _⟩ := D2.out.sb.cell
    obtain ⟨m0, m1, m2, m3, m4, _⟩ := D2.out.q.mb.all
    dsimp only at m0 m1 m2 m3 m4
    go_upto_region 18 with fail
    go_loopg [] 1 (fun gh wr => Hid (wr = v2))
    case atStart => exact hide rfl
    case round =>
      have hw := hrel.out
      subst hw
      have DN : Hid (RfP ans g g2 n s w (.returned (.agg #[.int .i64 5, .string ⟨#[]⟩, .string ⟨#[]⟩, .slice none 0 0, .slice none 0 0])) (put5 wr w.heap.size ⟨5, ⟨#[]⟩, ⟨#[]⟩, none, 0, 0, none, 0, 0⟩)) := by
        rw [← HF.out]
        exact rf_bad D2.out.q.ch D2.out.sb D2.out.lt hk1 ⟨5, ⟨#[]⟩, ⟨#[]⟩, none, 0, 0, none, 0, 0⟩
      have BZ := hide (D2.out.q.box)
      obtain ⟨d0, d1, d2, d3, d4, df⟩ := BZ.out.all
      have f10 := df 0
      have f11 := df 1
      have f12 := df 2
      have f13 := df 3
      have f14 := df 4
      dsimp only [hm0] at d0 d1 d2 d3 d4
      have FP := hide (BZ.out.put ⟨5, ⟨#[]⟩, ⟨#[]⟩, none, 0, 0, none, 0, 0⟩)
      clear df
      go_wp2
      obtain ⟨x0, x1, x2, x3, x4, _⟩ := FP.out.all
      unfold put5 at x0 x1 x2 x3 x4
      dsimp only at x0 x1 x2 x3 x4
      exact bodyPost_ret (v := .agg #[.int .i64 5, .string ⟨#[]⟩, .string ⟨#[]⟩, .slice none 0 0, .slice none 0 0]) (by simp [results, Try.results39, go_sem, x0, x1, x2, x3, x4]) rfl DN.out
  | true =>
    obtain ⟨q3, q4⟩ := is_yes h40
    rw [q3] at HA
    simp only at HA
    rintro e v1 ⟨rfl, c1, t2⟩
    rw [if_pos rfl] at t2
    rw [Bool.not_true] at t2
    have D1 := hide (D0.out.to c1 t2)
    clear c1 t2 D0 K12 h40 q3
    have K14 : Hid (Calls Try.prog 63 #[.pointer (some ⟨g, 0, none⟩), .int .u8 41] v1 fun e w' => e = .returned (.bool (isS s (k + 1 + 1) false 41)) ∧ Ch (fun b => b = g) v1 w' ∧ SB w' g s (if isS s (k + 1 + 1) false 41 then (k + 1 + 1) + 1 else (k + 1 + 1)) false) := is_any g s (k + 1 + 1) false 41 v1 D1.out.rs.sb q4 hs
    go_wp2_with fail
    with_reducible refine K14.out.mono ?_
    cases h41 : isS s (k + 1 + 1) false 41 with
    | true =>
      obtain ⟨q5, q6⟩ := is_yes h41
      rw [q5] at HA
      simp only [Option.map_some] at HA
      have HF : Hid (some (.mk 5 .empty .empty [] [], s.toList.drop (k + 1 + 1 + 1), left) = ans) := HA.out
      rintro e v2 ⟨rfl, c2, t3⟩
      rw [if_pos rfl] at t3
      have D2 := hide (D1.out.to c2 t3)
      clear c2 t3 D1 K14 h41 q5
      obtain ⟨m0, m1, m2, m3, m4, _⟩ := D2.out.mb.all
      dsimp only at m0 m1 m2 m3 m4
      have DN : Hid (RfP ans g g2 n s w (.returned (.agg #[.int .i64 5, .string ⟨#[]⟩, .string ⟨#[]⟩, .slice none 0 0, .slice none 0 0])) (put5 v2 w.heap.size ⟨5, ⟨#[]⟩, ⟨#[]⟩, none, 0, 0, none, 0, 0⟩)) := by
        rw [← HF.out]
        exact rf_some D2.out.rs q6 rfl (D2.out.fin (by omega) (by decide)) (by omega) hl2 (by omega)
      have BZ := hide (D2.out.rs.box)
      obtain ⟨d0, d1, d2, d3, d4, df⟩ := BZ.out.all
      have f10 := df 0
      have f11 := df 1
      have f12 := df 2
      have f13 := df 3
      have f14 := df 4
      dsimp only [hm0] at d0 d1 d2 d3 d4
      have FP := hide (BZ.out.put ⟨5, ⟨#[]⟩, ⟨#[]⟩, none, 0, 0, none, 0, 0⟩)
      clear df
      go_wp2
      obtain ⟨x0, x1, x2, x3, x4, _⟩ := FP.out.all
      unfold put5 at x0 x1 x2 x3 x4
      dsimp only at x0 x1 x2 x3 x4
      exact bodyPost_ret (v := .agg #[.int .i64 5, .string ⟨#[]⟩, .string ⟨#[]⟩, .slice none 0 0, .slice none 0 0]) (by simp [results, Try.results39, go_sem, x0, x1, x2, x3, x4]) rfl DN.out
    | false =>
      rw [is_no h41] at HA
      simp only at HA
      rintro e v2 ⟨rfl, c2, t3⟩
      rw [if_neg (by decide)] at t3
      have D2 := hide (D1.out.to c2 t3)
      clear c2 t3 D1 K14 h41
      have HI : Hid (ans = (lxT (f1 + 1) (64 - (n + 1)) (s.toList.drop (k + 1 + 1))).map (fun z => (.mk 5 .empty .empty [] ([] ++ z.1), z.2))) := by
        rw [← HA.out, hl2]
        exact rfl
      have hF2 : 3 * (64 - (n + 1)) + 2 ≤ f1 + 1 := by omega
      have hFF : f1 + 1 < f + 1 + 1 := by omega
      clear HA
      go_upto_region 18 with fail
      go_loopg [] 65 (fun gh wr => (∃ (n2 k : Nat) (a : Option Addr) (j c : Nat) (ks : List Mt) (hs' : List Hm) (F : Nat), k ≤ s.size ∧ n2 ≤ 64 ∧ n + 1 ≤ n2 ∧ 64 - n2 + 1 ≤ gh ∧ 3 * (64 - n2) + 2 ≤ F ∧ F < f + 1 + 1 ∧ Hid (KdR w wr g g2 s k n2 gm 5 a j c ks hs') ∧ Hid (ans = (lxT F (64 - n2) (s.toList.drop k)).map (fun z => (.mk 5 .empty .empty [] (ks ++ z.1), z.2)))) ∨ (∃ (k : Nat) (a : Option Addr) (j c : Nat) (hs' : List Hm), k ≤ s.size ∧ Hid (KdB w wr g g2 s k gm 5 a j c hs') ∧ Hid (none = ans)))
      case atStart => exact Or.inl ⟨n + 1, k + 1 + 1, none, 0, 0, [], [], f1 + 1, q4, by omega, Nat.le_refl _, by omega, hF2, hFF, D2, HI⟩
      case round =>
        clear D2 HI hF2 hFF
        rcases hrel with ⟨n2, k, a, j, c, ks, hs', F, hk, hn2, hn12, hg1, hF, hFF, D, HI⟩ | ⟨k, a, j, c, hs', hk, D, HF⟩
        · obtain ⟨u, rfl⟩ : ∃ u, u = wr := ⟨wr, rfl⟩
          obtain ⟨F, rfl⟩ : ∃ F', F = F' + 1 := ⟨F - 1, by omega⟩
          have V5 := hide (MT.out F (by omega) n2 k u D.out.rs.sb D.out.rs.cnt hk hn2 (by omega))
          obtain ⟨s0, s1, s2, _⟩ := D.out.rs.sb.cell
          have hjs : j ≤ 64 := by have := D.out.few; omega
          cases hu : lxM F (64 - n2) (s.toList.drop k) with
          | none =>
            have HF : Hid (none = ans) := by
              rw [HI.out, lxT_step, hu]
              exact rfl
            rw [hu] at V5
            go_wp2_with fail
            with_reducible refine V5.out.mono ?_
            rintro e u6 ⟨c6, h6, k6, rfl, hk6, p6⟩
            obtain ⟨op2, nm2, vl2, va2, vn2, vc2, ka2, kn2, kc2⟩ := h6
            have t6 : SB u6 g s k6 true := p6
            dsimp only
            obtain ⟨u7, hu7⟩ : ∃ u7, Hid ((u6.alloc (.cells #[.int .i64 op2, .string nm2, .string vl2, .slice va2 vn2 vc2, .slice ka2 kn2 kc2] 25)) = u7) := ⟨_, rfl⟩
            have A7 : Hid (Below u6.heap.size u6 u7) := by rw [← hu7.out]; exact (Below.refl _ _).alloc (Nat.le_refl _) _
            have X7 : Hid (BoxM u7 u6.heap.size ⟨op2, nm2, vl2, va2, vn2, vc2, ka2, kn2, kc2⟩) := by rw [← hu7.out]; exact boxM_new u6 ⟨op2, nm2, vl2, va2, vn2, vc2, ka2, kn2, kc2⟩
            have Q7 := hide ((D.out.rest c6).bel A7.out)
            obtain ⟨u8, hu8⟩ : ∃ u8, Hid ((u7.alloc (.cells #[.int .i64 op2, .string nm2, .string vl2, .slice va2 vn2 vc2, .slice ka2 kn2 kc2] 25)) = u8) := ⟨_, rfl⟩
            have A8 : Hid (Below u7.heap.size u7 u8) := by rw [← hu8.out]; exact (Below.refl _ _).alloc (Nat.le_refl _) _
            have Q8 := hide (Q7.out.bel A8.out)
            have B8 : Hid (Below u6.heap.size u6 u8) := bel_to A7.out (Nat.le_refl _) A8.out
            have HCC : Hid (∀ jj v, (Hm.cells ⟨op2, nm2, vl2, va2, vn2, vc2, ka2, kn2, kc2⟩)[jj]? = some v → u8.cell? ((⟨u7.heap.size, 0, none⟩ : Addr).add jj) = some v) := by
              intro jj v hv
              rw [Addr.add_lit, ← hu8.out]
              exact five_new u7 ⟨op2, nm2, vl2, va2, vn2, vc2, ka2, kn2, kc2⟩ _ jj v hv
            have HBS : Hid (gm + 1 ≤ u8.heap.size) := Q8.out.big
            have C6 := hide c6
            obtain ⟨m0, m1, m2', m3, m4, _⟩ := Q7.out.mb.all
            obtain ⟨y0, y1, y2, y3, y4, _⟩ := X7.out.all
            dsimp only at m0 m1 m2' m3 m4 y0 y1 y2 y3 y4
            clear s0 s1 s2 c6
            have T6 := hide t6
            clear t6
            clear V5 hu HI
            go_upto_region 20 with fail
            rw [hu7.out]
            clear hu7
            go_wp2_with (at_builtin; rw [hu8.out]; refine wpList_pushM _ rfl _ _ 23 rfl (gm + 1) i0 Try.underlying23 hi hz0 hz1 hz2 a j c hs' rfl Q8.out.own ⟨u7.heap.size, 0, none⟩ 1 ⟨op2, nm2, vl2, va2, vn2, vc2, ka2, kn2, kc2⟩ rfl HCC.out (by omega) HBS.out ?_)
            intro g' c' w4 o4 ch4 bl4 wh4
            have M4 : Hid (BoxM w4 gm ⟨5, ⟨#[]⟩, ⟨#[]⟩, none, 0, 0, a, j, c⟩) := Q8.out.mb.block (bl4.block _ (Nat.lt_succ_self _))
            obtain ⟨z0, z1, z2, z3, z4, zf⟩ := M4.out.all
            have zf4 := zf 4
            dsimp only at z0 z1 z2 z3 z4
            have T8 := hide (T6.out.keep (B8.out.block g T6.out.lt))
            have L7 := hide (Q8.out.bad D.out.gt D.out.rs.lt.1 T8.out o4 ch4)
            obtain ⟨u9, hu9⟩ : ∃ u9, Hid (w4.setCell ⟨gm, 4, none⟩ (.slice (some ⟨g', 0, none⟩) (j + 1) c') = u9) := ⟨_, rfl⟩
            rw [hu9.out] at L7
            clear o4 ch4 bl4 wh4 HBS HCC D T6 C6 A7 A8 B8 Q7 Q8 X7 hu8 zf M4 m0 m1 m2' m3 m4 y0 y1 y2 y3 y4 T8
            go_upto_region 21 with fail
            rw [hu9.out]
            clear hu9 z0 z1 z2 z3 z4 zf4
            have K15 : Hid (Calls Try.prog 63 #[.pointer (some ⟨g, 0, none⟩), .int .u8 41] u9 fun e w' => e = .returned (.bool (isS s (k6) true 41)) ∧ Ch (fun b => b = g) u9 w' ∧ SB w' g s (if isS s (k6) true 41 then (k6) + 1 else (k6)) true) := is_any g s (k6) true 41 u9 L7.out.sb hk6 hs
            go_wp2_with fail
            with_reducible refine K15.out.mono ?_
            rintro e v5 ⟨rfl, c5, t5⟩
            rw [is_bad, if_neg (by decide)] at t5
            rw [is_bad]
            have L8 := hide (L7.out.to c5 t5)
            clear c5 t5 L7 K15
            have K16 : Hid (Calls Try.prog 64 #[.pointer (some ⟨g, 0, none⟩), .int .u8 44] v5 fun e w' => e = .returned (.tuple #[]) ∧ Ch (fun b => b = g) v5 w' ∧ SB w' g s (if isS s (k6) true 44 then (k6) + 1 else (k6)) (!isS s (k6) true 44)) := must_any g s (k6) true 44 v5 L8.out.sb hk6 hs
            go_wp2_with fail
            with_reducible refine K16.out.mono ?_
            rintro e v6 ⟨rfl, c5, t5⟩
            have t6 := must_bad t5
            have L9 := hide (L8.out.to c5 t6)
            clear c5 t5 t6 L8 K16
            go_wp2
            go_roundg 0
            case measure => omega
            case rel => exact Or.inr ⟨k6, _, _, _, _, hk6, L9, HF⟩
          | some q =>
            obtain ⟨m2, r, left2⟩ := q
            rw [hu] at V5
            go_wp2_with fail
            with_reducible refine V5.out.mono ?_
            rintro e u6 ⟨c6, h6, k6, rfl, hk6, p6⟩
            obtain ⟨op2, nm2, vl2, va2, vn2, vc2, ka2, kn2, kc2⟩ := h6
            obtain ⟨t6, hd6, s6, n6, x6, hn6, hl6, hnn6⟩ : SB u6 g s k6 false ∧ s.toList.drop k6 = r ∧ SeeM (fun b => u.heap.size ≤ b) u6 m2 ⟨op2, nm2, vl2, va2, vn2, vc2, ka2, kn2, kc2⟩ ∧ ∃ n' : Nat, BX u6 g2 n' ∧ n' ≤ 64 ∧ 64 - n' = left2 ∧ n2 < n' := p6
            dsimp only
            obtain ⟨u7, hu7⟩ : ∃ u7, Hid ((u6.alloc (.cells #[.int .i64 op2, .string nm2, .string vl2, .slice va2 vn2 vc2, .slice ka2 kn2 kc2] 25)) = u7) := ⟨_, rfl⟩
            have A7 : Hid (Below u6.heap.size u6 u7) := by rw [← hu7.out]; exact (Below.refl _ _).alloc (Nat.le_refl _) _
            have X7 : Hid (BoxM u7 u6.heap.size ⟨op2, nm2, vl2, va2, vn2, vc2, ka2, kn2, kc2⟩) := by rw [← hu7.out]; exact boxM_new u6 ⟨op2, nm2, vl2, va2, vn2, vc2, ka2, kn2, kc2⟩
            have Q7 := hide ((D.out.rest c6).bel A7.out)
            obtain ⟨u8, hu8⟩ : ∃ u8, Hid ((u7.alloc (.cells #[.int .i64 op2, .string nm2, .string vl2, .slice va2 vn2 vc2, .slice ka2 kn2 kc2] 25)) = u8) := ⟨_, rfl⟩
            have A8 : Hid (Below u7.heap.size u7 u8) := by rw [← hu8.out]; exact (Below.refl _ _).alloc (Nat.le_refl _) _
            have Q8 := hide (Q7.out.bel A8.out)
            have B8 : Hid (Below u6.heap.size u6 u8) := bel_to A7.out (Nat.le_refl _) A8.out
            have HCC : Hid (∀ jj v, (Hm.cells ⟨op2, nm2, vl2, va2, vn2, vc2, ka2, kn2, kc2⟩)[jj]? = some v → u8.cell? ((⟨u7.heap.size, 0, none⟩ : Addr).add jj) = some v) := by
              intro jj v hv
              rw [Addr.add_lit, ← hu8.out]
              exact five_new u7 ⟨op2, nm2, vl2, va2, vn2, vc2, ka2, kn2, kc2⟩ _ jj v hv
            have HBS : Hid (gm + 1 ≤ u8.heap.size) := Q8.out.big
            have C6 := hide c6
            obtain ⟨m0, m1, m2', m3, m4, _⟩ := Q7.out.mb.all
            obtain ⟨y0, y1, y2, y3, y4, _⟩ := X7.out.all
            dsimp only at m0 m1 m2' m3 m4 y0 y1 y2 y3 y4
            clear s0 s1 s2 c6
            have T6 := hide t6
            have S6 := hide s6
            have X6 := hide x6
            have HI3 : Hid (ans = (lxC F (64 - n6) (s.toList.drop k6)).map (fun z => (.mk 5 .empty .empty [] (ks ++ [m2] ++ z.1), z.2))) := by
              rw [HI.out, lxT_step, hu, hd6, hl6, Option.map_map]
              show _ = _
              congr 1
              funext z
              simp
            clear t6 s6 x6 hd6 hl6
            clear V5 hu HI
            go_upto_region 20 with fail
            rw [hu7.out]
            clear hu7
            go_wp2_with (at_builtin; rw [hu8.out]; refine wpList_pushM _ rfl _ _ 23 rfl (gm + 1) i0 Try.underlying23 hi hz0 hz1 hz2 a j c hs' rfl Q8.out.own ⟨u7.heap.size, 0, none⟩ 1 ⟨op2, nm2, vl2, va2, vn2, vc2, ka2, kn2, kc2⟩ rfl HCC.out (by omega) HBS.out ?_)
            intro g' c' w4 o4 ch4 bl4 wh4
            have M4 : Hid (BoxM w4 gm ⟨5, ⟨#[]⟩, ⟨#[]⟩, none, 0, 0, a, j, c⟩) := Q8.out.mb.block (bl4.block _ (Nat.lt_succ_self _))
            obtain ⟨z0, z1, z2, z3, z4, zf⟩ := M4.out.all
            have zf4 := zf 4
            dsimp only at z0 z1 z2 z3 z4
            have L7 := hide (D.out.push C6.out B8.out T6.out X6.out hnn6 S6.out o4 ch4 wh4)
            obtain ⟨u9, hu9⟩ : ∃ u9, Hid (w4.setCell ⟨gm, 4, none⟩ (.slice (some ⟨g', 0, none⟩) (j + 1) c') = u9) := ⟨_, rfl⟩
            rw [hu9.out] at L7
            clear o4 ch4 bl4 wh4 HBS HCC D T6 C6 A7 A8 B8 Q7 Q8 X7 hu8 zf M4 m0 m1 m2' m3 m4 y0 y1 y2 y3 y4 S6 X6
            go_upto_region 21 with fail
            rw [hu9.out]
            clear hu9 z0 z1 z2 z3 z4 zf4
            have K17 : Hid (Calls Try.prog 63 #[.pointer (some ⟨g, 0, none⟩), .int .u8 41] u9 fun e w' => e = .returned (.bool (isS s (k6) false 41)) ∧ Ch (fun b => b = g) u9 w' ∧ SB w' g s (if isS s (k6) false 41 then (k6) + 1 else (k6)) false) := is_any g s (k6) false 41 u9 L7.out.rs.sb hk6 hs
            go_wp2_with fail
            with_reducible refine K17.out.mono ?_
            cases h61 : isS s k6 false 41 with
            | true =>
              obtain ⟨q7, q8⟩ := is_yes h61
              unfold lxC at HI3
              rw [q7] at HI3
              simp only [Option.map_some, List.append_nil] at HI3
              have HF : Hid (some (.mk 5 .empty .empty [] (ks ++ [m2]), s.toList.drop (k6 + 1), 64 - n6) = ans) := HI3.out.symm
              rintro e v5 ⟨rfl, c5, t5⟩
              rw [if_pos rfl] at t5
              have L8 := hide (L7.out.to c5 t5)
              clear c5 t5 L7 K17 h61 q7 HI3
              obtain ⟨m0, m1, m2', m3, m4, _⟩ := L8.out.mb.all
              dsimp only at m0 m1 m2' m3 m4
              have DN : Hid (RfP ans g g2 n s w (.returned (.agg #[.int .i64 5, .string ⟨#[]⟩, .string ⟨#[]⟩, .slice none 0 0, .slice (some ⟨g', 0, none⟩) (j + 1) c'])) (put5 v5 w.heap.size ⟨5, ⟨#[]⟩, ⟨#[]⟩, none, 0, 0, (some ⟨g', 0, none⟩), (j + 1), c'⟩)) := by
                rw [← HF.out]
                exact rf_some L8.out.rs q8 rfl (L8.out.fin hn6 (by decide)) hn6 rfl (by omega)
              have BZ := hide (L8.out.rs.box)
              obtain ⟨d0, d1, d2, d3, d4, df⟩ := BZ.out.all
              have f10 := df 0
              have f11 := df 1
              have f12 := df 2
              have f13 := df 3
              have f14 := df 4
              dsimp only [hm0] at d0 d1 d2 d3 d4
              have FP := hide (BZ.out.put ⟨5, ⟨#[]⟩, ⟨#[]⟩, none, 0, 0, (some ⟨g', 0, none⟩), (j + 1), c'⟩)
              clear df
              go_wp2
              obtain ⟨x0, x1, x2, x3, x4, _⟩ := FP.out.all
              unfold put5 at x0 x1 x2 x3 x4
              dsimp only at x0 x1 x2 x3 x4
              exact bodyPost_ret (v := .agg #[.int .i64 5, .string ⟨#[]⟩, .string ⟨#[]⟩, .slice none 0 0, .slice (some ⟨g', 0, none⟩) (j + 1) c']) (by simp [results, Try.results39, go_sem, x0, x1, x2, x3, x4]) rfl DN.out
            | false =>
              unfold lxC at HI3
              rw [is_no h61] at HI3
              simp only at HI3
              rintro e v5 ⟨rfl, c5, t5⟩
              rw [if_neg (by decide)] at t5
              have L8 := hide (L7.out.to c5 t5)
              clear c5 t5 L7 K17 h61
              have K18 : Hid (Calls Try.prog 64 #[.pointer (some ⟨g, 0, none⟩), .int .u8 44] v5 fun e w' => e = .returned (.tuple #[]) ∧ Ch (fun b => b = g) v5 w' ∧ SB w' g s (if isS s (k6) false 44 then (k6) + 1 else (k6)) (!isS s (k6) false 44)) := must_any g s (k6) false 44 v5 L8.out.rs.sb hk6 hs
              go_wp2_with fail
              with_reducible refine K18.out.mono ?_
              cases h62 : isS s k6 false 44 with
              | true =>
                obtain ⟨q7, q8⟩ := is_yes h62
                rw [q7] at HI3
                simp only at HI3
                rintro e v6 ⟨rfl, c5, t5⟩
                rw [if_pos rfl] at t5
                rw [Bool.not_true] at t5
                have L9 := hide (L8.out.to c5 t5)
                clear c5 t5 L8 K18 h62 q7
                go_wp2
                go_roundg (64 - n6 + 1)
                case measure => omega
                case rel => exact Or.inl ⟨n6, k6 + 1, _, _, _, _, _, F, q8, hn6, by omega, Nat.le_refl _, by omega, by omega, L9, HI3⟩
              | false =>
                rw [is_no h62] at HI3
                have HF : Hid (none = ans) := HI3.out.symm
                rintro e v6 ⟨rfl, c5, t5⟩
                rw [if_neg (by decide)] at t5
                rw [Bool.not_false] at t5
                have L9 := hide (L8.out.bad c5 t5)
                clear c5 t5 L8 K18 h62
                go_wp2
                go_roundg 0
                case measure => omega
                case rel => exact Or.inr ⟨k6, _, _, _, _, hk6, L9, HF⟩
        · obtain ⟨u, rfl⟩ : ∃ u, u = wr := ⟨wr, rfl⟩
          obtain ⟨s0, s1, s2, _⟩ := D.out.sb.cell
          obtain ⟨m0, m1, m2, m3, m4, _⟩ := D.out.q.mb.all
          dsimp only at m0 m1 m2 m3 m4
          have DN : Hid (RfP ans g g2 n s w (.returned (.agg #[.int .i64 5, .string ⟨#[]⟩, .string ⟨#[]⟩, .slice none 0 0, .slice a j c])) (put5 u w.heap.size ⟨5, ⟨#[]⟩, ⟨#[]⟩, none, 0, 0, a, j, c⟩)) := by
            rw [← HF.out]
            exact rf_bad D.out.q.ch D.out.sb D.out.lt hk ⟨5, ⟨#[]⟩, ⟨#[]⟩, none, 0, 0, a, j, c⟩
          have BZ := hide (D.out.q.box)
          obtain ⟨d0, d1, d2, d3, d4, df⟩ := BZ.out.all
          have f10 := df 0
          have f11 := df 1
          have f12 := df 2
          have f13 := df 3
          have f14 := df 4
          dsimp only [hm0] at d0 d1 d2 d3 d4
          have FP := hide (BZ.out.put ⟨5, ⟨#[]⟩, ⟨#[]⟩, none, 0, 0, a, j, c⟩)
          clear df
          go_wp2
          obtain ⟨x0, x1, x2, x3, x4, _⟩ := FP.out.all
          unfold put5 at x0 x1 x2 x3 x4
          dsimp only at x0 x1 x2 x3 x4
          exact bodyPost_ret (v := .agg #[.int .i64 5, .string ⟨#[]⟩, .string ⟨#[]⟩, .slice none 0 0, .slice a j c]) (by simp [results, Try.results39, go_sem, x0, x1, x2, x3, x4]) rfl DN.out
end Go.Proofs.Ythebcmkainplnaa

namespace Go.Proofs.Ythebcmkainplnaa
open Go.RowKit
set_option maxRecDepth 20000

set_option maxHeartbeats 16000000 in
theorem read_6 (f : Nat) (IH : ∀ F, F < f + 1 → RdF F) (g g2 n : Nat) (s : ByteArray) (k : Nat) (w : World) (h : SB w g s k false) (hb : BX w g2 n) (hgg : g ≠ g2) (hk : k ≤ s.size) (hs : s.size ≤ 20000) (hn : n < 64) (hf : 3 * (64 - n) + 1 ≤ f + 1) (h42 : isS s k false 42 = false) (h38 : isS s k false 38 = false) (h124 : isS s k false 124 = true) :
    Calls Try.prog 39 #[.pointer (some ⟨g, 0, none⟩), .pointer (some ⟨g2, 0, none⟩)] w fun e w' => RfP (lxM (f + 1) (64 - n) (s.toList.drop k)) g g2 n s w e w' := by
  have hg := h.lt
  have hg2 := hb.lt
  obtain ⟨W, hW⟩ : ∃ W, Hid (w.alloc (.cells #[.int .i64 0, .string ⟨#[]⟩, .string ⟨#[]⟩, .slice none 0 0, .slice none 0 0] 25) = W) := ⟨_, rfl⟩
  obtain ⟨V, hV⟩ : ∃ V, Hid (W.setCell ⟨g2, 0, none⟩ (.int .i64 ((n : Int) + 1)) = V) := ⟨_, rfl⟩
  have R0 := hide (rs_start h hb hgg hW.out hV.out)
  have bx : Hid (BX W g2 n) := by rw [← hW.out]; exact hb.block (Below.heap_alloc _ _ _ hb.lt)
  obtain ⟨b0, b1⟩ := bx.out.cell
  obtain ⟨a0, a1⟩ := R0.out.cnt.cell
  rw [show ((n + 1 : Nat) : Int) = (n : Int) + 1 from rfl] at a0
  obtain ⟨s0, s1, s2, sf⟩ := R0.out.sb.cell
  obtain ⟨ans, HA⟩ : ∃ ans, Hid (lxM (f + 1) (64 - n) (s.toList.drop k) = ans) := ⟨_, rfl⟩
  rw [HA.out]
  clear h hb bx
  obtain ⟨left, hl⟩ : ∃ left, 64 - n = left + 1 := ⟨64 - n - 1, by omega⟩
  obtain ⟨f1, hf1⟩ : ∃ f1, f = f1 + 2 := ⟨f - 2, by omega⟩
  obtain ⟨q1, q2⟩ := is_yes h124
  have hl2 : 64 - (n + 1) = left := by omega
  rw [hl, lxM, is_no h42, is_no h38] at HA
  simp only at HA
  rw [q1] at HA
  simp only at HA
  rw [hf1, lxK] at HA
  have t1 : ¬ (64 : Int) < (n : Int) + 1 := by omega
  have MT := hide (fun F (hF : F < f + 1) (n k : Nat) u (q : SB u g s k false) (c : BX u g2 n) (hk : k ≤ s.size) (hn : n ≤ 64) (h3 : 3 * (64 - n) + 1 ≤ F) => IH F hF g g2 n s k u q c hgg hk hs hn h3)
  obtain ⟨i0, hi, hz0, hz1, hz2⟩ := info_parts Try.infoM
  clear sf q1 IH
  go_enter Try.func39, Try.ntmps39
  go_upto_region 1 with fail
  rw [hW.out]
  go_upto_region 2 with fail
  rw [hV.out]
  clear hW hV b0 b1
  have K19 : Hid (Calls Try.prog 63 #[.pointer (some ⟨g, 0, none⟩), .int .u8 42] V fun e w' => e = .returned (.bool (isS s (k) false 42)) ∧ Ch (fun b => b = g) V w' ∧ SB w' g s (if isS s (k) false 42 then (k) + 1 else (k)) false) := is_any g s (k) false 42 V R0.out.sb hk hs
  go_wp2_with fail
  with_reducible refine K19.out.mono ?_
  rw [h42]
  rintro e u20 ⟨rfl, c22, t23⟩
  rw [if_neg (by decide)] at t23
  have R21 := hide (R0.out.to c22 t23)
  clear c22 t23 K19 R0 s0 s1 s2 a0 a1
  have K24 : Hid (Calls Try.prog 63 #[.pointer (some ⟨g, 0, none⟩), .int .u8 38] u20 fun e w' => e = .returned (.bool (isS s (k) false 38)) ∧ Ch (fun b => b = g) u20 w' ∧ SB w' g s (if isS s (k) false 38 then (k) + 1 else (k)) false) := is_any g s (k) false 38 u20 R21.out.sb hk hs
  go_wp2_with fail
  with_reducible refine K24.out.mono ?_
  rw [h38]
  rintro e u25 ⟨rfl, c27, t28⟩
  rw [if_neg (by decide)] at t28
  have R26 := hide (R21.out.to c27 t28)
  clear c27 t28 K24 R21
  have K29 : Hid (Calls Try.prog 63 #[.pointer (some ⟨g, 0, none⟩), .int .u8 124] u25 fun e w' => e = .returned (.bool (isS s (k) false 124)) ∧ Ch (fun b => b = g) u25 w' ∧ SB w' g s (if isS s (k) false 124 then (k) + 1 else (k)) false) := is_any g s (k) false 124 u25 R26.out.sb hk hs
  go_wp2_with fail
  with_reducible refine K29.out.mono ?_
  rw [h124]
  rintro e u30 ⟨rfl, c32, t33⟩
  rw [if_pos rfl] at t33
  have R31 := hide (R26.out.to c32 t33)
  clear c32 t33 K29 R26
  have hk1 := q2
  obtain ⟨v0, hv0⟩ : ∃ v0, Hid (u30.alloc (.cells #[.int .i64 6, .string ⟨#[]⟩, .string ⟨#[]⟩, .slice none 0 0, .slice none 0 0] 25) = v0) := ⟨_, rfl⟩
  have D0 := hide (KdR.start R31.out hv0.out)
  have GM : Hid (u30.heap.size < v0.heap.size) := D0.out.mb.lt
  go_upto_region 15 with fail
  rw [hv0.out]
  clear hv0 R31
  generalize u30.heap.size = gm at *
  have K34 : Hid (Calls Try.prog 64 #[.pointer (some ⟨g, 0, none⟩), .int .u8 40] v0 fun e w' => e = .returned (.tuple #[]) ∧ Ch (fun b => b = g) v0 w' ∧ SB w' g s (if isS s (k + 1) false 40 then (k + 1) + 1 else (k + 1)) (!isS s (k + 1) false 40)) := must_any g s (k + 1) false 40 v0 D0.out.rs.sb hk1 hs
  go_wp2_with fail
  with_reducible refine K34.out.mono ?_
  cases h40 : isS s (k + 1) false 40 with
  | false =>
    rw [is_no h40] at HA
    have HF : Hid (none = ans) := HA.out
    rintro e v1 ⟨rfl, c1, t2⟩
    rw [if_neg (by decide)] at t2
    rw [Bool.not_false] at t2
    have D1 := hide (D0.out.bad c1 t2)
    clear c1 t2 D0 K34 h40
    have K35 : Hid (Calls Try.prog 63 #[.pointer (some ⟨g, 0, none⟩), .int .u8 41] v1 fun e w' => e = .returned (.bool (isS s (k + 1) true 41)) ∧ Ch (fun b => b = g) v1 w' ∧ SB w' g s (if isS s (k + 1) true 41 then (k + 1) + 1 else (k + 1)) true) := is_any g s (k + 1) true 41 v1 D1.out.sb hk1 hs
    go_wp2_with fail
    with_reducible refine K35.out.mono ?_
    rintro e v2 ⟨rfl, c2, t3⟩
    rw [is_bad, if_neg (by decide)] at t3
    rw [is_bad]
    have D2 := hide (D1.out.to c2 t3)
    clear c2 t3 D1 K35
    obtain ⟨s0, s1, s2, _⟩ := D2.out.sb.cell
    obtain ⟨m0, m1, m2, m3, m4, _⟩ := D2.out.q.mb.all
    dsimp only at m0 m1 m2 m3 m4
    go_upto_region 18 with fail
    go_loopg [] 1 (fun gh wr => Hid (wr = v2))
    case atStart => exact hide rfl
    case round =>
      have hw := hrel.out
      subst hw
      have DN : Hid (RfP ans g g2 n s w (.returned (.agg #[.int .i64 6, .string ⟨#[]⟩, .string ⟨#[]⟩, .slice none 0 0, .slice none 0 0])) (put5 wr w.heap.size ⟨6, ⟨#[]⟩, ⟨#[]⟩, none, 0, 0, none, 0, 0⟩)) := by
        rw [← HF.out]
        exact rf_bad D2.out.q.ch D2.out.sb D2.out.lt hk1 ⟨6, ⟨#[]⟩, ⟨#[]⟩, none, 0, 0, none, 0, 0⟩
      have BZ := hide (D2.out.q.box)
      obtain ⟨d0, d1, d2, d3, d4, df⟩ := BZ.out.all
      have f10 := df 0
      have f11 := df 1
      have f12 := df 2
      have f13 := df 3
      have f14 := df 4
      dsimp only [hm0] at d0 d1 d2 d3 d4
      have FP := hide (BZ.out.put ⟨6, ⟨#[]⟩, ⟨#[]⟩, none, 0, 0, none, 0, 0⟩)
      clear df
      go_wp2
      obtain ⟨x0, x1, x2, x3, x4, _⟩ := FP.out.all
      unfold put5 at x0 x1 x2 x3 x4
      dsimp only at x0 x1 x2 x3 x4
      exact bodyPost_ret (v := .agg #[.int .i64 6, .string ⟨#[]⟩, .string ⟨#[]⟩, .slice none 0 0, .slice none 0 0]) (by simp [results, Try.results39, go_sem, x0, x1, x2, x3, x4]) rfl DN.out
  | true =>
    obtain ⟨q3, q4⟩ := is_yes h40
    rw [q3] at HA
    simp only at HA
    rintro e v1 ⟨rfl, c1, t2⟩
    rw [if_pos rfl] at t2
    rw [Bool.not_true] at t2
    have D1 := hide (D0.out.to c1 t2)
    clear c1 t2 D0 K34 h40 q3
    have K36 : Hid (Calls Try.prog 63 #[.pointer (some ⟨g, 0, none⟩), .int .u8 41] v1 fun e w' => e = .returned (.bool (isS s (k + 1 + 1) false 41)) ∧ Ch (fun b => b = g) v1 w' ∧ SB w' g s (if isS s (k + 1 + 1) false 41 then (k + 1 + 1) + 1 else (k + 1 + 1)) false) := is_any g s (k + 1 + 1) false 41 v1 D1.out.rs.sb q4 hs
    go_wp2_with fail
    with_reducible refine K36.out.mono ?_
    cases h41 : isS s (k + 1 + 1) false 41 with
    | true =>
      obtain ⟨q5, q6⟩ := is_yes h41
      rw [q5] at HA
      simp only [Option.map_some] at HA
      have HF : Hid (some (.mk 6 .empty .empty [] [], s.toList.drop (k + 1 + 1 + 1), left) = ans) := HA.out
      rintro e v2 ⟨rfl, c2, t3⟩
      rw [if_pos rfl] at t3
      have D2 := hide (D1.out.to c2 t3)
      clear c2 t3 D1 K36 h41 q5
      obtain ⟨m0, m1, m2, m3, m4, _⟩ := D2.out.mb.all
      dsimp only at m0 m1 m2 m3 m4
      have DN : Hid (RfP ans g g2 n s w (.returned (.agg #[.int .i64 6, .string ⟨#[]⟩, .string ⟨#[]⟩, .slice none 0 0, .slice none 0 0])) (put5 v2 w.heap.size ⟨6, ⟨#[]⟩, ⟨#[]⟩, none, 0, 0, none, 0, 0⟩)) := by
        rw [← HF.out]
        exact rf_some D2.out.rs q6 rfl (D2.out.fin (by omega) (by decide)) (by omega) hl2 (by omega)
      have BZ := hide (D2.out.rs.box)
      obtain ⟨d0, d1, d2, d3, d4, df⟩ := BZ.out.all
      have f10 := df 0
      have f11 := df 1
      have f12 := df 2
      have f13 := df 3
      have f14 := df 4
      dsimp only [hm0] at d0 d1 d2 d3 d4
      have FP := hide (BZ.out.put ⟨6, ⟨#[]⟩, ⟨#[]⟩, none, 0, 0, none, 0, 0⟩)
      clear df
      go_wp2
      obtain ⟨x0, x1, x2, x3, x4, _⟩ := FP.out.all
      unfold put5 at x0 x1 x2 x3 x4
      dsimp only at x0 x1 x2 x3 x4
      exact bodyPost_ret (v := .agg #[.int .i64 6, .string ⟨#[]⟩, .string ⟨#[]⟩, .slice none 0 0, .slice none 0 0]) (by simp [results, Try.results39, go_sem, x0, x1, x2, x3, x4]) rfl DN.out
    | false =>
      rw [is_no h41] at HA
      simp only at HA
      rintro e v2 ⟨rfl, c2, t3⟩
      rw [if_neg (by decide)] at t3
      have D2 := hide (D1.out.to c2 t3)
      clear c2 t3 D1 K36 h41
      have HI : Hid (ans = (lxT (f1 + 1) (64 - (n + 1)) (s.toList.drop (k + 1 + 1))).map (fun z => (.mk 6 .empty .empty [] ([] ++ z.1), z.2))) := by
        rw [← HA.out, hl2]
        exact rfl
      have hF2 : 3 * (64 - (n + 1)) + 2 ≤ f1 + 1 := by omega
      have hFF : f1 + 1 < f + 1 + 1 := by omega
      clear HA
      go_upto_region 18 with fail
      go_loopg [] 65 (fun gh wr => (∃ (n2 k : Nat) (a : Option Addr) (j c : Nat) (ks : List Mt) (hs' : List Hm) (F : Nat), k ≤ s.size ∧ n2 ≤ 64 ∧ n + 1 ≤ n2 ∧ 64 - n2 + 1 ≤ gh ∧ 3 * (64 - n2) + 2 ≤ F ∧ F < f + 1 + 1 ∧ Hid (KdR w wr g g2 s k n2 gm 6 a j c ks hs') ∧ Hid (ans = (lxT F (64 - n2) (s.toList.drop k)).map (fun z => (.mk 6 .empty .empty [] (ks ++ z.1), z.2)))) ∨ (∃ (k : Nat) (a : Option Addr) (j c : Nat) (hs' : List Hm), k ≤ s.size ∧ Hid (KdB w wr g g2 s k gm 6 a j c hs') ∧ Hid (none = ans)))
      case atStart => exact Or.inl ⟨n + 1, k + 1 + 1, none, 0, 0, [], [], f1 + 1, q4, by omega, Nat.le_refl _, by omega, hF2, hFF, D2, HI⟩
      case round =>
        clear D2 HI hF2 hFF
        rcases hrel with ⟨n2, k, a, j, c, ks, hs', F, hk, hn2, hn12, hg1, hF, hFF, D, HI⟩ | ⟨k, a, j, c, hs', hk, D, HF⟩
        · obtain ⟨u, rfl⟩ : ∃ u, u = wr := ⟨wr, rfl⟩
          obtain ⟨F, rfl⟩ : ∃ F', F = F' + 1 := ⟨F - 1, by omega⟩
          have V5 := hide (MT.out F (by omega) n2 k u D.out.rs.sb D.out.rs.cnt hk hn2 (by omega))
          obtain ⟨s0, s1, s2, _⟩ := D.out.rs.sb.cell
          have hjs : j ≤ 64 := by have := D.out.few; omega
          cases hu : lxM F (64 - n2) (s.toList.drop k) with
          | none =>
            have HF : Hid (none = ans) := by
              rw [HI.out, lxT_step, hu]
              exact rfl
            rw [hu] at V5
            go_wp2_with fail
            with_reducible refine V5.out.mono ?_
            rintro e u6 ⟨c6, h6, k6, rfl, hk6, p6⟩
            obtain ⟨op2, nm2, vl2, va2, vn2, vc2, ka2, kn2, kc2⟩ := h6
            have t6 : SB u6 g s k6 true := p6
            dsimp only
            obtain ⟨u7, hu7⟩ : ∃ u7, Hid ((u6.alloc (.cells #[.int .i64 op2, .string nm2, .string vl2, .slice va2 vn2 vc2, .slice ka2 kn2 kc2] 25)) = u7) := ⟨_, rfl⟩
            have A7 : Hid (Below u6.heap.size u6 u7) := by rw [← hu7.out]; exact (Below.refl _ _).alloc (Nat.le_refl _) _
            have X7 : Hid (BoxM u7 u6.heap.size ⟨op2, nm2, vl2, va2, vn2, vc2, ka2, kn2, kc2⟩) := by rw [← hu7.out]; exact boxM_new u6 ⟨op2, nm2, vl2, va2, vn2, vc2, ka2, kn2, kc2⟩
            have Q7 := hide ((D.out.rest c6).bel A7.out)
            obtain ⟨u8, hu8⟩ : ∃ u8, Hid ((u7.alloc (.cells #[.int .i64 op2, .string nm2, .string vl2, .slice va2 vn2 vc2, .slice ka2 kn2 kc2] 25)) = u8) := ⟨_, rfl⟩
            have A8 : Hid (Below u7.heap.size u7 u8) := by rw [← hu8.out]; exact (Below.refl _ _).alloc (Nat.le_refl _) _
            have Q8 := hide (Q7.out.bel A8.out)
            have B8 : Hid (Below u6.heap.size u6 u8) := bel_to A7.out (Nat.le_refl _) A8.out
            have HCC : Hid (∀ jj v, (Hm.cells ⟨op2, nm2, vl2, va2, vn2, vc2, ka2, kn2, kc2⟩)[jj]? = some v → u8.cell? ((⟨u7.heap.size, 0, none⟩ : Addr).add jj) = some v) := by
              intro jj v hv
              rw [Addr.add_lit, ← hu8.out]
              exact five_new u7 ⟨op2, nm2, vl2, va2, vn2, vc2, ka2, kn2, kc2⟩ _ jj v hv
            have HBS : Hid (gm + 1 ≤ u8.heap.size) := Q8.out.big
            have C6 := hide c6
            obtain ⟨m0, m1, m2', m3, m4, _⟩ := Q7.out.mb.all
            obtain ⟨y0, y1, y2, y3, y4, _⟩ := X7.out.all
            dsimp only at m0 m1 m2' m3 m4 y0 y1 y2 y3 y4
            clear s0 s1 s2 c6
            have T6 := hide t6
            clear t6
            clear V5 hu HI
            go_upto_region 20 with fail
            rw [hu7.out]
            clear hu7
            go_wp2_with (at_builtin; rw [hu8.out]; refine wpList_pushM _ rfl _ _ 23 rfl (gm + 1) i0 Try.underlying23 hi hz0 hz1 hz2 a j c hs' rfl Q8.out.own ⟨u7.heap.size, 0, none⟩ 1 ⟨op2, nm2, vl2, va2, vn2, vc2, ka2, kn2, kc2⟩ rfl HCC.out (by omega) HBS.out ?_)
            intro g' c' w4 o4 ch4 bl4 wh4
            have M4 : Hid (BoxM w4 gm ⟨6, ⟨#[]⟩, ⟨#[]⟩, none, 0, 0, a, j, c⟩) := Q8.out.mb.block (bl4.block _ (Nat.lt_succ_self _))
            obtain ⟨z0, z1, z2, z3, z4, zf⟩ := M4.out.all
            have zf4 := zf 4
            dsimp only at z0 z1 z2 z3 z4
            have T8 := hide (T6.out.keep (B8.out.block g T6.out.lt))
            have L7 := hide (Q8.out.bad D.out.gt D.out.rs.lt.1 T8.out o4 ch4)
            obtain ⟨u9, hu9⟩ : ∃ u9, Hid (w4.setCell ⟨gm, 4, none⟩ (.slice (some ⟨g', 0, none⟩) (j + 1) c') = u9) := ⟨_, rfl⟩
            rw [hu9.out] at L7
            clear o4 ch4 bl4 wh4 HBS HCC D T6 C6 A7 A8 B8 Q7 Q8 X7 hu8 zf M4 m0 m1 m2' m3 m4 y0 y1 y2 y3 y4 T8
            go_upto_region 21 with fail
            rw [hu9.out]
            clear hu9 z0 z1 z2 z3 z4 zf4
            have K37 : Hid (Calls Try.prog 63 #[.pointer (some ⟨g, 0, none⟩), .int .u8 41] u9 fun e w' => e = .returned (.bool (isS s (k6) true 41)) ∧ Ch (fun b => b = g) u9 w' ∧ SB w' g s (if isS s (k6) true 41 then (k6) + 1 else (k6)) true) := is_any g s (k6) true 41 u9 L7.out.sb hk6 hs
            go_wp2_with fail
            with_reducible refine K37.out.mono ?_
            rintro e v5 ⟨rfl, c5, t5⟩
            rw [is_bad, if_neg (by decide)] at t5
            rw [is_bad]
            have L8 := hide (L7.out.to c5 t5)
            clear c5 t5 L7 K37
            have K38 : Hid (Calls Try.prog 64 #[.pointer (some ⟨g, 0, none⟩), .int .u8 44] v5 fun e w' => e = .returned (.tuple #[]) ∧ Ch (fun b => b = g) v5 w' ∧ SB w' g s (if isS s (k6) true 44 then (k6) + 1 else (k6)) (!isS s (k6) true 44)) := must_any g s (k6) true 44 v5 L8.out.sb hk6 hs
            go_wp2_with fail
            with_reducible refine K38.out.mono ?_
            rintro e v6 ⟨rfl, c5, t5⟩
            have t6 := must_bad t5
            have L9 := hide (L8.out.to c5 t6)
            clear c5 t5 t6 L8 K38
            go_wp2
            go_roundg 0
            case measure => omega
            case rel => exact Or.inr ⟨k6, _, _, _, _, hk6, L9, HF⟩
          | some q =>
            obtain ⟨m2, r, left2⟩ := q
            rw [hu] at V5
            go_wp2_with fail
            with_reducible refine V5.out.mono ?_
            rintro e u6 ⟨c6, h6, k6, rfl, hk6, p6⟩
            obtain ⟨op2, nm2, vl2, va2, vn2, vc2, ka2, kn2, kc2⟩ := h6
            obtain ⟨t6, hd6, s6, n6, x6, hn6, hl6, hnn6⟩ : SB u6 g s k6 false ∧ s.toList.drop k6 = r ∧ SeeM (fun b => u.heap.size ≤ b) u6 m2 ⟨op2, nm2, vl2, va2, vn2, vc2, ka2, kn2, kc2⟩ ∧ ∃ n' : Nat, BX u6 g2 n' ∧ n' ≤ 64 ∧ 64 - n' = left2 ∧ n2 < n' := p6
            dsimp only
            obtain ⟨u7, hu7⟩ : ∃ u7, Hid ((u6.alloc (.cells #[.int .i64 op2, .string nm2, .string vl2, .slice va2 vn2 vc2, .slice ka2 kn2 kc2] 25)) = u7) := ⟨_, rfl⟩
            have A7 : Hid (Below u6.heap.size u6 u7) := by rw [← hu7.out]; exact (Below.refl _ _).alloc (Nat.le_refl _) _
            have X7 : Hid (BoxM u7 u6.heap.size ⟨op2, nm2, vl2, va2, vn2, vc2, ka2, kn2, kc2⟩) := by rw [← hu7.out]; exact boxM_new u6 ⟨op2, nm2, vl2, va2, vn2, vc2, ka2, kn2, kc2⟩
            have Q7 := hide ((D.out.rest c6).bel A7.out)
            obtain ⟨u8, hu8⟩ : ∃ u8, Hid ((u7.alloc (.cells #[.int .i64 op2, .string nm2, .string vl2, .slice va2 vn2 vc2, .slice ka2 kn2 kc2] 25)) = u8) := ⟨_, rfl⟩
            have A8 : Hid (Below u7.heap.size u7 u8) := by rw [← hu8.out]; exact (Below.refl _ _).alloc (Nat.le_refl _) _
            have Q8 := hide (Q7.out.bel A8.out)
            have B8 : Hid (Below u6.heap.size u6 u8) := bel_to A7.out (Nat.le_refl _) A8.out
            have HCC : Hid (∀ jj v, (Hm.cells ⟨op2, nm2, vl2, va2, vn2, vc2, ka2, kn2, kc2⟩)[jj]? = some v → u8.cell? ((⟨u7.heap.size, 0, none⟩ : Addr).add jj) = some v) := by
              intro jj v hv
              rw [Addr.add_lit, ← hu8.out]
              exact five_new u7 ⟨op2, nm2, vl2, va2, vn2, vc2, ka2, kn2, kc2⟩ _ jj v hv
            have HBS : Hid (gm + 1 ≤ u8.heap.size) := Q8.out.big
            have C6 := hide c6
            obtain ⟨m0, m1, m2', m3, m4, _⟩ := Q7.out.mb.all
            obtain ⟨y0, y1, y2, y3, y4, _⟩ := X7.out.all
            dsimp only at m0 m1 m2' m3 m4 y0 y1 y2 y3 y4
            clear s0 s1 s2 c6
            have T6 := hide t6
            have S6 := hide s6
            have X6 := hide x6
            have HI3 : Hid (ans = (lxC F (64 - n6) (s.toList.drop k6)).map (fun z => (.mk 6 .empty .empty [] (ks ++ [m2] ++ z.1), z.2))) := by
              rw [HI.out, lxT_step, hu, hd6, hl6, Option.map_map]
              show _ = _
              congr 1
              funext z
              simp
            clear t6 s6 x6 hd6 hl6
            clear V5 hu HI
            go_upto_region 20 with fail
            rw [hu7.out]
            clear hu7
            go_wp2_with (at_builtin; rw [hu8.out]; refine wpList_pushM _ rfl _ _ 23 rfl (gm + 1) i0 Try.underlying23 hi hz0 hz1 hz2 a j c hs' rfl Q8.out.own ⟨u7.heap.size, 0, none⟩ 1 ⟨op2, nm2, vl2, va2, vn2, vc2, ka2, kn2, kc2⟩ rfl HCC.out (by omega) HBS.out ?_)
            intro g' c' w4 o4 ch4 bl4 wh4
            have M4 : Hid (BoxM w4 gm ⟨6, ⟨#[]⟩, ⟨#[]⟩, none, 0, 0, a, j, c⟩) := Q8.out.mb.block (bl4.block _ (Nat.lt_succ_self _))
            obtain ⟨z0, z1, z2, z3, z4, zf⟩ := M4.out.all
            have zf4 := zf 4
            dsimp only at z0 z1 z2 z3 z4
            have L7 := hide (D.out.push C6.out B8.out T6.out X6.out hnn6 S6.out o4 ch4 wh4)
            obtain ⟨u9, hu9⟩ : ∃ u9, Hid (w4.setCell ⟨gm, 4, none⟩ (.slice (some ⟨g', 0, none⟩) (j + 1) c') = u9) := ⟨_, rfl⟩
            rw [hu9.out] at L7
            clear o4 ch4 bl4 wh4 HBS HCC D T6 C6 A7 A8 B8 Q7 Q8 X7 hu8 zf M4 m0 m1 m2' m3 m4 y0 y1 y2 y3 y4 S6 X6
            go_upto_region 21 with fail
            rw [hu9.out]
            clear hu9 z0 z1 z2 z3 z4 zf4
            have K39 : Hid (Calls Try.prog 63 #[.pointer (some ⟨g, 0, none⟩), .int .u8 41] u9 fun e w' => e = .returned (.bool (isS s (k6) false 41)) ∧ Ch (fun b => b = g) u9 w' ∧ SB w' g s (if isS s (k6) false 41 then (k6) + 1 else (k6)) false) := is_any g s (k6) false 41 u9 L7.out.rs.sb hk6 hs
            go_wp2_with fail
            with_reducible refine K39.out.mono ?_
            cases h61 : isS s k6 false 41 with
            | true =>
              obtain ⟨q7, q8⟩ := is_yes h61
              unfold lxC at HI3
              rw [q7] at HI3
              simp only [Option.map_some, List.append_nil] at HI3
              have HF : Hid (some (.mk 6 .empty .empty [] (ks ++ [m2]), s.toList.drop (k6 + 1), 64 - n6) = ans) := HI3.out.symm
              rintro e v5 ⟨rfl, c5, t5⟩
              rw [if_pos rfl] at t5
              have L8 := hide (L7.out.to c5 t5)
              clear c5 t5 L7 K39 h61 q7 HI3
              obtain ⟨m0, m1, m2', m3, m4, _⟩ := L8.out.mb.all
              dsimp only at m0 m1 m2' m3 m4
              have DN : Hid (RfP ans g g2 n s w (.returned (.agg #[.int .i64 6, .string ⟨#[]⟩, .string ⟨#[]⟩, .slice none 0 0, .slice (some ⟨g', 0, none⟩) (j + 1) c'])) (put5 v5 w.heap.size ⟨6, ⟨#[]⟩, ⟨#[]⟩, none, 0, 0, (some ⟨g', 0, none⟩), (j + 1), c'⟩)) := by
                rw [← HF.out]
                exact rf_some L8.out.rs q8 rfl (L8.out.fin hn6 (by decide)) hn6 rfl (by omega)
              have BZ := hide (L8.out.rs.box)
              obtain ⟨d0, d1, d2, d3, d4, df⟩ := BZ.out.all
              have f10 := df 0
              have f11 := df 1
              have f12 := df 2
              have f13 := df 3
              have f14 := df 4
              dsimp only [hm0] at d0 d1 d2 d3 d4
              have FP := hide (BZ.out.put ⟨6, ⟨#[]⟩, ⟨#[]⟩, none, 0, 0, (some ⟨g', 0, none⟩), (j + 1), c'⟩)
              clear df
              go_wp2
              obtain ⟨x0, x1, x2, x3, x4, _⟩ := FP.out.all
              unfold put5 at x0 x1 x2 x3 x4
              dsimp only at x0 x1 x2 x3 x4
              exact bodyPost_ret (v := .agg #[.int .i64 6, .string ⟨#[]⟩, .string ⟨#[]⟩, .slice none 0 0, .slice (some ⟨g', 0, none⟩) (j + 1) c']) (by simp [results, Try.results39, go_sem, x0, x1, x2, x3, x4]) rfl DN.out
            | false =>
              unfold lxC at HI3
              rw [is_no h61] at HI3
              simp only at HI3
              rintro e v5 ⟨rfl, c5, t5⟩
              rw [if_neg (by decide)] at t5
              have L8 := hide (L7.out.to c5 t5)
              clear c5 t5 L7 K39 h61
              have K40 : Hid (Calls Try.prog 64 #[.pointer (some ⟨g, 0, none⟩), .int .u8 44] v5 fun e w' => e = .returned (.tuple #[]) ∧ Ch (fun b => b = g) v5 w' ∧ SB w' g s (if isS s (k6) false 44 then (k6) + 1 else (k6)) (!isS s (k6) false 44)) := must_any g s (k6) false 44 v5 L8.out.rs.sb hk6 hs
              go_wp2_with fail
              with_reducible refine K40.out.mono ?_
              cases h62 : isS s k6 false 44 with
              | true =>
                obtain ⟨q7, q8⟩ := is_yes h62
                rw [q7] at HI3
                simp only at HI3
                rintro e v6 ⟨rfl, c5, t5⟩
                rw [if_pos rfl] at t5
                rw [Bool.not_true] at t5
                have L9 := hide (L8.out.to c5 t5)
                clear c5 t5 L8 K40 h62 q7
                go_wp2
                go_roundg (64 - n6 + 1)
                case measure => omega
                case rel => exact Or.inl ⟨n6, k6 + 1, _, _, _, _, _, F, q8, hn6, by omega, Nat.le_refl _, by omega, by omega, L9, HI3⟩
              | false =>
                rw [is_no h62] at HI3
                have HF : Hid (none = ans) := HI3.out.symm
                rintro e v6 ⟨rfl, c5, t5⟩
                rw [if_neg (by decide)] at t5
                rw [Bool.not_false] at t5
                have L9 := hide (L8.out.bad c5 t5)
                clear c5 t5 L8 K40 h62
                go_wp2
                go_roundg 0
                case measure => omega
                case rel => exact Or.inr ⟨k6, _, _, _, _, hk6, L9, HF⟩
        · obtain ⟨u, rfl⟩ : ∃ u, u = wr := ⟨wr, rfl⟩
          obtain ⟨s0, s1, s2, _⟩ := D.out.sb.cell
          obtain ⟨m0, m1, m2, m3, m4, _⟩ := D.out.q.mb.all
          dsimp only at m0 m1 m2 m3 m4
          have DN : Hid (RfP ans g g2 n s w (.returned (.agg #[.int .i64 6, .string ⟨#[]⟩, .string ⟨#[]⟩, .slice none 0 0, .slice a j c])) (put5 u w.heap.size ⟨6, ⟨#[]⟩, ⟨#[]⟩, none, 0, 0, a, j, c⟩)) := by
            rw [← HF.out]
            exact rf_bad D.out.q.ch D.out.sb D.out.lt hk ⟨6, ⟨#[]⟩, ⟨#[]⟩, none, 0, 0, a, j, c⟩
          have BZ := hide (D.out.q.box)
          obtain ⟨d0, d1, d2, d3, d4, df⟩ := BZ.out.all
          have f10 := df 0
          have f11 := df 1
          have f12 := df 2
          have f13 := df 3
          have f14 := df 4
          dsimp only [hm0] at d0 d1 d2 d3 d4
          have FP := hide (BZ.out.put ⟨6, ⟨#[]⟩, ⟨#[]⟩, none, 0, 0, a, j, c⟩)
          clear df
          go_wp2
          obtain ⟨x0, x1, x2, x3, x4, _⟩ := FP.out.all
          unfold put5 at x0 x1 x2 x3 x4
          dsimp only at x0 x1 x2 x3 x4
          exact bodyPost_ret (v := .agg #[.int .i64 6, .string ⟨#[]⟩, .string ⟨#[]⟩, .slice none 0 0, .slice a j c]) (by simp [results, Try.results39, go_sem, x0, x1, x2, x3, x4]) rfl DN.out
end Go.Proofs.Ythebcmkainplnaa

namespace Go.Proofs.Ythebcmkainplnaa
open Go.RowKit
set_option maxRecDepth 20000

set_option maxHeartbeats 16000000 in
theorem read_7 (f : Nat) (IH : ∀ F, F < f + 1 → RdF F) (g g2 n : Nat) (s : ByteArray) (k : Nat) (w : World) (h : SB w g s k false) (hb : BX w g2 n) (hgg : g ≠ g2) (hk : k ≤ s.size) (hs : s.size ≤ 20000) (hn : n < 64) (hf : 3 * (64 - n) + 1 ≤ f + 1) (h42 : isS s k false 42 = false) (h38 : isS s k false 38 = false) (h124 : isS s k false 124 = false) (h33 : isS s k false 33 = true) :
    Calls Try.prog 39 #[.pointer (some ⟨g, 0, none⟩), .pointer (some ⟨g2, 0, none⟩)] w fun e w' => RfP (lxM (f + 1) (64 - n) (s.toList.drop k)) g g2 n s w e w' := by
  have hg := h.lt
  have hg2 := hb.lt
  obtain ⟨W, hW⟩ : ∃ W, Hid (w.alloc (.cells #[.int .i64 0, .string ⟨#[]⟩, .string ⟨#[]⟩, .slice none 0 0, .slice none 0 0] 25) = W) := ⟨_, rfl⟩
  obtain ⟨V, hV⟩ : ∃ V, Hid (W.setCell ⟨g2, 0, none⟩ (.int .i64 ((n : Int) + 1)) = V) := ⟨_, rfl⟩
  have R0 := hide (rs_start h hb hgg hW.out hV.out)
  have bx : Hid (BX W g2 n) := by rw [← hW.out]; exact hb.block (Below.heap_alloc _ _ _ hb.lt)
  obtain ⟨b0, b1⟩ := bx.out.cell
  obtain ⟨a0, a1⟩ := R0.out.cnt.cell
  rw [show ((n + 1 : Nat) : Int) = (n : Int) + 1 from rfl] at a0
  obtain ⟨s0, s1, s2, sf⟩ := R0.out.sb.cell
  obtain ⟨ans, HA⟩ : ∃ ans, Hid (lxM (f + 1) (64 - n) (s.toList.drop k) = ans) := ⟨_, rfl⟩
  rw [HA.out]
  clear h hb bx
  obtain ⟨left, hl⟩ : ∃ left, 64 - n = left + 1 := ⟨64 - n - 1, by omega⟩
  obtain ⟨f1, hf1⟩ : ∃ f1, f = f1 + 2 := ⟨f - 2, by omega⟩
  obtain ⟨q1, q2⟩ := is_yes h33
  have hl2 : 64 - (n + 1) = left := by omega
  rw [hl, lxM, is_no h42, is_no h38, is_no h124] at HA
  simp only at HA
  rw [q1] at HA
  simp only at HA
  rw [hf1, lxK] at HA
  have t1 : ¬ (64 : Int) < (n : Int) + 1 := by omega
  have MT := hide (fun F (hF : F < f + 1) (n k : Nat) u (q : SB u g s k false) (c : BX u g2 n) (hk : k ≤ s.size) (hn : n ≤ 64) (h3 : 3 * (64 - n) + 1 ≤ F) => IH F hF g g2 n s k u q c hgg hk hs hn h3)
  obtain ⟨i0, hi, hz0, hz1, hz2⟩ := info_parts Try.infoM
  clear sf q1 IH
  go_enter Try.func39, Try.ntmps39
  go_upto_region 1 with fail
  rw [hW.out]
  go_upto_region 2 with fail
  rw [hV.out]
  clear hW hV b0 b1
  have K41 : Hid (Calls Try.prog 63 #[.pointer (some ⟨g, 0, none⟩), .int .u8 42] V fun e w' => e = .returned (.bool (isS s (k) false 42)) ∧ Ch (fun b => b = g) V w' ∧ SB w' g s (if isS s (k) false 42 then (k) + 1 else (k)) false) := is_any g s (k) false 42 V R0.out.sb hk hs
  go_wp2_with fail
  with_reducible refine K41.out.mono ?_
  rw [h42]
  rintro e u42 ⟨rfl, c44, t45⟩
  rw [if_neg (by decide)] at t45
  have R43 := hide (R0.out.to c44 t45)
  clear c44 t45 K41 R0 s0 s1 s2 a0 a1
  have K46 : Hid (Calls Try.prog 63 #[.pointer (some ⟨g, 0, none⟩), .int .u8 38] u42 fun e w' => e = .returned (.bool (isS s (k) false 38)) ∧ Ch (fun b => b = g) u42 w' ∧ SB w' g s (if isS s (k) false 38 then (k) + 1 else (k)) false) := is_any g s (k) false 38 u42 R43.out.sb hk hs
  go_wp2_with fail
  with_reducible refine K46.out.mono ?_
  rw [h38]
  rintro e u47 ⟨rfl, c49, t50⟩
  rw [if_neg (by decide)] at t50
  have R48 := hide (R43.out.to c49 t50)
  clear c49 t50 K46 R43
  have K51 : Hid (Calls Try.prog 63 #[.pointer (some ⟨g, 0, none⟩), .int .u8 124] u47 fun e w' => e = .returned (.bool (isS s (k) false 124)) ∧ Ch (fun b => b = g) u47 w' ∧ SB w' g s (if isS s (k) false 124 then (k) + 1 else (k)) false) := is_any g s (k) false 124 u47 R48.out.sb hk hs
  go_wp2_with fail
  with_reducible refine K51.out.mono ?_
  rw [h124]
  rintro e u52 ⟨rfl, c54, t55⟩
  rw [if_neg (by decide)] at t55
  have R53 := hide (R48.out.to c54 t55)
  clear c54 t55 K51 R48
  have K56 : Hid (Calls Try.prog 63 #[.pointer (some ⟨g, 0, none⟩), .int .u8 33] u52 fun e w' => e = .returned (.bool (isS s (k) false 33)) ∧ Ch (fun b => b = g) u52 w' ∧ SB w' g s (if isS s (k) false 33 then (k) + 1 else (k)) false) := is_any g s (k) false 33 u52 R53.out.sb hk hs
  go_wp2_with fail
  with_reducible refine K56.out.mono ?_
  rw [h33]
  rintro e u57 ⟨rfl, c59, t60⟩
  rw [if_pos rfl] at t60
  have R58 := hide (R53.out.to c59 t60)
  clear c59 t60 K56 R53
  have hk1 := q2
  obtain ⟨v0, hv0⟩ : ∃ v0, Hid (u57.alloc (.cells #[.int .i64 7, .string ⟨#[]⟩, .string ⟨#[]⟩, .slice none 0 0, .slice none 0 0] 25) = v0) := ⟨_, rfl⟩
  have D0 := hide (KdR.start R58.out hv0.out)
  have GM : Hid (u57.heap.size < v0.heap.size) := D0.out.mb.lt
  go_upto_region 15 with fail
  rw [hv0.out]
  clear hv0 R58
  generalize u57.heap.size = gm at *
  have K61 : Hid (Calls Try.prog 64 #[.pointer (some ⟨g, 0, none⟩), .int .u8 40] v0 fun e w' => e = .returned (.tuple #[]) ∧ Ch (fun b => b = g) v0 w' ∧ SB w' g s (if isS s (k + 1) false 40 then (k + 1) + 1 else (k + 1)) (!isS s (k + 1) false 40)) := must_any g s (k + 1) false 40 v0 D0.out.rs.sb hk1 hs
  go_wp2_with fail
  with_reducible refine K61.out.mono ?_
  cases h40 : isS s (k + 1) false 40 with
  | false =>
    rw [is_no h40] at HA
    have HF : Hid (none = ans) := HA.out
    rintro e v1 ⟨rfl, c1, t2⟩
    rw [if_neg (by decide)] at t2
    rw [Bool.not_false] at t2
    have D1 := hide (D0.out.bad c1 t2)
    clear c1 t2 D0 K61 h40
    have K62 : Hid (Calls Try.prog 63 #[.pointer (some ⟨g, 0, none⟩), .int .u8 41] v1 fun e w' => e = .returned (.bool (isS s (k + 1) true 41)) ∧ Ch (fun b => b = g) v1 w' ∧ SB w' g s (if isS s (k + 1) true 41 then (k + 1) + 1 else (k + 1)) true) := is_any g s (k + 1) true 41 v1 D1.out.sb hk1 hs
    go_wp2_with fail
    with_reducible refine K62.out.mono ?_
    rintro e v2 ⟨rfl, c2, t3⟩
    rw [is_bad, if_neg (by decide)] at t3
    rw [is_bad]
    have D2 := hide (D1.out.to c2 t3)
    clear c2 t3 D1 K62
    obtain ⟨s0, s1, s2, _⟩ := D2.out.sb.cell
    obtain ⟨m0, m1, m2, m3, m4, _⟩ := D2.out.q.mb.all
    dsimp only at m0 m1 m2 m3 m4
    go_upto_region 18 with fail
    go_loopg [] 1 (fun gh wr => Hid (wr = v2))
    case atStart => exact hide rfl
    case round =>
      have hw := hrel.out
      subst hw
      have DN : Hid (RfP ans g g2 n s w (.returned (.agg #[.int .i64 7, .string ⟨#[]⟩, .string ⟨#[]⟩, .slice none 0 0, .slice none 0 0])) (put5 wr w.heap.size ⟨7, ⟨#[]⟩, ⟨#[]⟩, none, 0, 0, none, 0, 0⟩)) := by
        rw [← HF.out]
        exact rf_bad D2.out.q.ch D2.out.sb D2.out.lt hk1 ⟨7, ⟨#[]⟩, ⟨#[]⟩, none, 0, 0, none, 0, 0⟩
      have BZ := hide (D2.out.q.box)
      obtain ⟨d0, d1, d2, d3, d4, df⟩ := BZ.out.all
      have f10 := df 0
      have f11 := df 1
      have f12 := df 2
      have f13 := df 3
      have f14 := df 4
      dsimp only [hm0] at d0 d1 d2 d3 d4
      have FP := hide (BZ.out.put ⟨7, ⟨#[]⟩, ⟨#[]⟩, none, 0, 0, none, 0, 0⟩)
      clear df
      go_wp2
      obtain ⟨x0, x1, x2, x3, x4, _⟩ := FP.out.all
      unfold put5 at x0 x1 x2 x3 x4
      dsimp only at x0 x1 x2 x3 x4
      exact bodyPost_ret (v := .agg #[.int .i64 7, .string ⟨#[]⟩, .string ⟨#[]⟩, .slice none 0 0, .slice none 0 0]) (by simp [results, Try.results39, go_sem, x0, x1, x2, x3, x4]) rfl DN.out
  | true =>
    obtain ⟨q3, q4⟩ := is_yes h40
    rw [q3] at HA
    simp only at HA
    rintro e v1 ⟨rfl, c1, t2⟩
    rw [if_pos rfl] at t2
    rw [Bool.not_true] at t2
    have D1 := hide (D0.out.to c1 t2)
    clear c1 t2 D0 K61 h40 q3
    have K63 : Hid (Calls Try.prog 63 #[.pointer (some ⟨g, 0, none⟩), .int .u8 41] v1 fun e w' => e = .returned (.bool (isS s (k + 1 + 1) false 41)) ∧ Ch (fun b => b = g) v1 w' ∧ SB w' g s (if isS s (k + 1 + 1) false 41 then (k + 1 + 1) + 1 else (k + 1 + 1)) false) := is_any g s (k + 1 + 1) false 41 v1 D1.out.rs.sb q4 hs
    go_wp2_with fail
    with_reducible refine K63.out.mono ?_
    cases h41 : isS s (k + 1 + 1) false 41 with
    | true =>
      obtain ⟨q5, q6⟩ := is_yes h41
      rw [q5] at HA
      simp only [Option.map_some] at HA
      have HF : Hid (some (.mk 7 .empty .empty [] [], s.toList.drop (k + 1 + 1 + 1), left) = ans) := HA.out
      rintro e v2 ⟨rfl, c2, t3⟩
      rw [if_pos rfl] at t3
      have D2 := hide (D1.out.to c2 t3)
      clear c2 t3 D1 K63 h41 q5
      obtain ⟨m0, m1, m2, m3, m4, _⟩ := D2.out.mb.all
      dsimp only at m0 m1 m2 m3 m4
      have DN : Hid (RfP ans g g2 n s w (.returned (.agg #[.int .i64 7, .string ⟨#[]⟩, .string ⟨#[]⟩, .slice none 0 0, .slice none 0 0])) (put5 v2 w.heap.size ⟨7, ⟨#[]⟩, ⟨#[]⟩, none, 0, 0, none, 0, 0⟩)) := by
        rw [← HF.out]
        exact rf_some D2.out.rs q6 rfl (D2.out.fin (by omega) (by decide)) (by omega) hl2 (by omega)
      have BZ := hide (D2.out.rs.box)
      obtain ⟨d0, d1, d2, d3, d4, df⟩ := BZ.out.all
      have f10 := df 0
      have f11 := df 1
      have f12 := df 2
      have f13 := df 3
      have f14 := df 4
      dsimp only [hm0] at d0 d1 d2 d3 d4
      have FP := hide (BZ.out.put ⟨7, ⟨#[]⟩, ⟨#[]⟩, none, 0, 0, none, 0, 0⟩)
      clear df
      go_wp2
      obtain ⟨x0, x1, x2, x3, x4, _⟩ := FP.out.all
      unfold put5 at x0 x1 x2 x3 x4
      dsimp only at x0 x1 x2 x3 x4
      exact bodyPost_ret (v := .agg #[.int .i64 7, .string ⟨#[]⟩, .string ⟨#[]⟩, .slice none 0 0, .slice none 0 0]) (by simp [results, Try.results39, go_sem, x0, x1, x2, x3, x4]) rfl DN.out
    | false =>
      rw [is_no h41] at HA
      simp only at HA
      rintro e v2 ⟨rfl, c2, t3⟩
      rw [if_neg (by decide)] at t3
      have D2 := hide (D1.out.to c2 t3)
      clear c2 t3 D1 K63 h41
      have HI : Hid (ans = (lxT (f1 + 1) (64 - (n + 1)) (s.toList.drop (k + 1 + 1))).map (fun z => (.mk 7 .empty .empty [] ([] ++ z.1), z.2))) := by
        rw [← HA.out, hl2]
        exact rfl
      have hF2 : 3 * (64 - (n + 1)) + 2 ≤ f1 + 1 := by omega
      have hFF : f1 + 1 < f + 1 + 1 := by omega
      clear HA
      go_upto_region 18 with fail
      go_loopg [] 65 (fun gh wr => (∃ (n2 k : Nat) (a : Option Addr) (j c : Nat) (ks : List Mt) (hs' : List Hm) (F : Nat), k ≤ s.size ∧ n2 ≤ 64 ∧ n + 1 ≤ n2 ∧ 64 - n2 + 1 ≤ gh ∧ 3 * (64 - n2) + 2 ≤ F ∧ F < f + 1 + 1 ∧ Hid (KdR w wr g g2 s k n2 gm 7 a j c ks hs') ∧ Hid (ans = (lxT F (64 - n2) (s.toList.drop k)).map (fun z => (.mk 7 .empty .empty [] (ks ++ z.1), z.2)))) ∨ (∃ (k : Nat) (a : Option Addr) (j c : Nat) (hs' : List Hm), k ≤ s.size ∧ Hid (KdB w wr g g2 s k gm 7 a j c hs') ∧ Hid (none = ans)))
      case atStart => exact Or.inl ⟨n + 1, k + 1 + 1, none, 0, 0, [], [], f1 + 1, q4, by omega, Nat.le_refl _, by omega, hF2, hFF, D2, HI⟩
      case round =>
        clear D2 HI hF2 hFF
        rcases hrel with ⟨n2, k, a, j, c, ks, hs', F, hk, hn2, hn12, hg1, hF, hFF, D, HI⟩ | ⟨k, a, j, c, hs', hk, D, HF⟩
        · obtain ⟨u, rfl⟩ : ∃ u, u = wr := ⟨wr, rfl⟩
          obtain ⟨F, rfl⟩ : ∃ F', F = F' + 1 := ⟨F - 1, by omega⟩
          have V5 := hide (MT.out F (by omega) n2 k u D.out.rs.sb D.out.rs.cnt hk hn2 (by omega))
          obtain ⟨s0, s1, s2, _⟩ := D.out.rs.sb.cell
          have hjs : j ≤ 64 := by have := D.out.few; omega
          cases hu : lxM F (64 - n2) (s.toList.drop k) with
          | none =>
            have HF : Hid (none = ans) := by
              rw [HI.out, lxT_step, hu]
              exact rfl
            rw [hu] at V5
            go_wp2_with fail
            with_reducible refine V5.out.mono ?_
            rintro e u6 ⟨c6, h6, k6, rfl, hk6, p6⟩
            obtain ⟨op2, nm2, vl2, va2, vn2, vc2, ka2, kn2, kc2⟩ := h6
            have t6 : SB u6 g s k6 true := p6
            dsimp only
            obtain ⟨u7, hu7⟩ : ∃ u7, Hid ((u6.alloc (.cells #[.int .i64 op2, .string nm2, .string vl2, .slice va2 vn2 vc2, .slice ka2 kn2 kc2] 25)) = u7) := ⟨_, rfl⟩
            have A7 : Hid (Below u6.heap.size u6 u7) := by rw [← hu7.out]; exact (Below.refl _ _).alloc (Nat.le_refl _) _
            have X7 : Hid (BoxM u7 u6.heap.size ⟨op2, nm2, vl2, va2, vn2, vc2, ka2, kn2, kc2⟩) := by rw [← hu7.out]; exact boxM_new u6 ⟨op2, nm2, vl2, va2, vn2, vc2, ka2, kn2, kc2⟩
            have Q7 := hide ((D.out.rest c6).bel A7.out)
            obtain ⟨u8, hu8⟩ : ∃ u8, Hid ((u7.alloc (.cells #[.int .i64 op2, .string nm2, .string vl2, .slice va2 vn2 vc2, .slice ka2 kn2 kc2] 25)) = u8) := ⟨_, rfl⟩
            have A8 : Hid (Below u7.heap.size u7 u8) := by rw [← hu8.out]; exact (Below.refl _ _).alloc (Nat.le_refl _) _
            have Q8 := hide (Q7.out.bel A8.out)
            have B8 : Hid (Below u6.heap.size u6 u8) := bel_to A7.out (Nat.le_refl _) A8.out
            have HCC : Hid (∀ jj v, (Hm.cells ⟨op2, nm2, vl2, va2, vn2, vc2, ka2, kn2, kc2⟩)[jj]? = some v → u8.cell? ((⟨u7.heap.size, 0, none⟩ : Addr).add jj) = some v) := by
              intro jj v hv
              rw [Addr.add_lit, ← hu8.out]
              exact five_new u7 ⟨op2, nm2, vl2, va2, vn2, vc2, ka2, kn2, kc2⟩ _ jj v hv
            have HBS : Hid (gm + 1 ≤ u8.heap.size) := Q8.out.big
            have C6 := hide c6
            obtain ⟨m0, m1, m2', m3, m4, _⟩ := Q7.out.mb.all
            obtain ⟨y0, y1, y2, y3, y4, _⟩ := X7.out.all
            dsimp only at m0 m1 m2' m3 m4 y0 y1 y2 y3 y4
            clear s0 s1 s2 c6
            have T6 := hide t6
            clear t6
            clear V5 hu HI
            go_upto_region 20 with fail
            rw [hu7.out]
            clear hu7
            go_wp2_with (at_builtin; rw [hu8.out]; refine wpList_pushM _ rfl _ _ 23 rfl (gm + 1) i0 Try.underlying23 hi hz0 hz1 hz2 a j c hs' rfl Q8.out.own ⟨u7.heap.size, 0, none⟩ 1 ⟨op2, nm2, vl2, va2, vn2, vc2, ka2, kn2, kc2⟩ rfl HCC.out (by omega) HBS.out ?_)
            intro g' c' w4 o4 ch4 bl4 wh4
            have M4 : Hid (BoxM w4 gm ⟨7, ⟨#[]⟩, ⟨#[]⟩, none, 0, 0, a, j, c⟩) := Q8.out.mb.block (bl4.block _ (Nat.lt_succ_self _))
            obtain ⟨z0, z1, z2, z3, z4, zf⟩ := M4.out.all
            have zf4 := zf 4
            dsimp only at z0 z1 z2 z3 z4
            have T8 := hide (T6.out.keep (B8.out.block g T6.out.lt))
            have L7 := hide (Q8.out.bad D.out.gt D.out.rs.lt.1 T8.out o4 ch4)
            obtain ⟨u9, hu9⟩ : ∃ u9, Hid (w4.setCell ⟨gm, 4, none⟩ (.slice (some ⟨g', 0, none⟩) (j + 1) c') = u9) := ⟨_, rfl⟩
            rw [hu9.out] at L7
            clear o4 ch4 bl4 wh4 HBS HCC D T6 C6 A7 A8 B8 Q7 Q8 X7 hu8 zf M4 m0 m1 m2' m3 m4 y0 y1 y2 y3 y4 T8
            go_upto_region 21 with fail
            rw [hu9.out]
            clear hu9 z0 z1 z2 z3 z4 zf4
            have K64 : Hid (Calls Try.prog 63 #[.pointer (some ⟨g, 0, none⟩), .int .u8 41] u9 fun e w' => e = .returned (.bool (isS s (k6) true 41)) ∧ Ch (fun b => b = g) u9 w' ∧ SB w' g s (if isS s (k6) true 41 then (k6) + 1 else (k6)) true) := is_any g s (k6) true 41 u9 L7.out.sb hk6 hs
            go_wp2_with fail
            with_reducible refine K64.out.mono ?_
            rintro e v5 ⟨rfl, c5, t5⟩
            rw [is_bad, if_neg (by decide)] at t5
            rw [is_bad]
            have L8 := hide (L7.out.to c5 t5)
            clear c5 t5 L7 K64
            have K65 : Hid (Calls Try.prog 64 #[.pointer (some ⟨g, 0, none⟩), .int .u8 44] v5 fun e w' => e = .returned (.tuple #[]) ∧ Ch (fun b => b = g) v5 w' ∧ SB w' g s (if isS s (k6) true 44 then (k6) + 1 else (k6)) (!isS s (k6) true 44)) := must_any g s (k6) true 44 v5 L8.out.sb hk6 hs
            go_wp2_with fail
            with_reducible refine K65.out.mono ?_
            rintro e v6 ⟨rfl, c5, t5⟩
            have t6 := must_bad t5
            have L9 := hide (L8.out.to c5 t6)
            clear c5 t5 t6 L8 K65
            go_wp2
            go_roundg 0
            case measure => omega
            case rel => exact Or.inr ⟨k6, _, _, _, _, hk6, L9, HF⟩
          | some q =>
            obtain ⟨m2, r, left2⟩ := q
            rw [hu] at V5
            go_wp2_with fail
            with_reducible refine V5.out.mono ?_
            rintro e u6 ⟨c6, h6, k6, rfl, hk6, p6⟩
            obtain ⟨op2, nm2, vl2, va2, vn2, vc2, ka2, kn2, kc2⟩ := h6
            obtain ⟨t6, hd6, s6, n6, x6, hn6, hl6, hnn6⟩ : SB u6 g s k6 false ∧ s.toList.drop k6 = r ∧ SeeM (fun b => u.heap.size ≤ b) u6 m2 ⟨op2, nm2, vl2, va2, vn2, vc2, ka2, kn2, kc2⟩ ∧ ∃ n' : Nat, BX u6 g2 n' ∧ n' ≤ 64 ∧ 64 - n' = left2 ∧ n2 < n' := p6
            dsimp only
            obtain ⟨u7, hu7⟩ : ∃ u7, Hid ((u6.alloc (.cells #[.int .i64 op2, .string nm2, .string vl2, .slice va2 vn2 vc2, .slice ka2 kn2 kc2] 25)) = u7) := ⟨_, rfl⟩
            have A7 : Hid (Below u6.heap.size u6 u7) := by rw [← hu7.out]; exact (Below.refl _ _).alloc (Nat.le_refl _) _
            have X7 : Hid (BoxM u7 u6.heap.size ⟨op2, nm2, vl2, va2, vn2, vc2, ka2, kn2, kc2⟩) := by rw [← hu7.out]; exact boxM_new u6 ⟨op2, nm2, vl2, va2, vn2, vc2, ka2, kn2, kc2⟩
            have Q7 := hide ((D.out.rest c6).bel A7.out)
            obtain ⟨u8, hu8⟩ : ∃ u8, Hid ((u7.alloc (.cells #[.int .i64 op2, .string nm2, .string vl2, .slice va2 vn2 vc2, .slice ka2 kn2 kc2] 25)) = u8) := ⟨_, rfl⟩
            have A8 : Hid (Below u7.heap.size u7 u8) := by rw [← hu8.out]; exact (Below.refl _ _).alloc (Nat.le_refl _) _
            have Q8 := hide (Q7.out.bel A8.out)
            have B8 : Hid (Below u6.heap.size u6 u8) := bel_to A7.out (Nat.le_refl _) A8.out
            have HCC : Hid (∀ jj v, (Hm.cells ⟨op2, nm2, vl2, va2, vn2, vc2, ka2, kn2, kc2⟩)[jj]? = some v → u8.cell? ((⟨u7.heap.size, 0, none⟩ : Addr).add jj) = some v) := by
              intro jj v hv
              rw [Addr.add_lit, ← hu8.out]
              exact five_new u7 ⟨op2, nm2, vl2, va2, vn2, vc2, ka2, kn2, kc2⟩ _ jj v hv
            have HBS : Hid (gm + 1 ≤ u8.heap.size) := Q8.out.big
            have C6 := hide c6
            obtain ⟨m0, m1, m2', m3, m4, _⟩ := Q7.out.mb.all
            obtain ⟨y0, y1, y2, y3, y4, _⟩ := X7.out.all
            dsimp only at m0 m1 m2' m3 m4 y0 y1 y2 y3 y4
            clear s0 s1 s2 c6
            have T6 := hide t6
            have S6 := hide s6
            have X6 := hide x6
            have HI3 : Hid (ans = (lxC F (64 - n6) (s.toList.drop k6)).map (fun z => (.mk 7 .empty .empty [] (ks ++ [m2] ++ z.1), z.2))) := by
              rw [HI.out, lxT_step, hu, hd6, hl6, Option.map_map]
              show _ = _
              congr 1
              funext z
              simp
            clear t6 s6 x6 hd6 hl6
            clear V5 hu HI
            go_upto_region 20 with fail
            rw [hu7.out]
            clear hu7
            go_wp2_with (at_builtin; rw [hu8.out]; refine wpList_pushM _ rfl _ _ 23 rfl (gm + 1) i0 Try.underlying23 hi hz0 hz1 hz2 a j c hs' rfl Q8.out.own ⟨u7.heap.size, 0, none⟩ 1 ⟨op2, nm2, vl2, va2, vn2, vc2, ka2, kn2, kc2⟩ rfl HCC.out (by omega) HBS.out ?_)
            intro g' c' w4 o4 ch4 bl4 wh4
            have M4 : Hid (BoxM w4 gm ⟨7, ⟨#[]⟩, ⟨#[]⟩, none, 0, 0, a, j, c⟩) := Q8.out.mb.block (bl4.block _ (Nat.lt_succ_self _))
            obtain ⟨z0, z1, z2, z3, z4, zf⟩ := M4.out.all
            have zf4 := zf 4
            dsimp only at z0 z1 z2 z3 z4
            have L7 := hide (D.out.push C6.out B8.out T6.out X6.out hnn6 S6.out o4 ch4 wh4)
            obtain ⟨u9, hu9⟩ : ∃ u9, Hid (w4.setCell ⟨gm, 4, none⟩ (.slice (some ⟨g', 0, none⟩) (j + 1) c') = u9) := ⟨_, rfl⟩
            rw [hu9.out] at L7
            clear o4 ch4 bl4 wh4 HBS HCC D T6 C6 A7 A8 B8 Q7 Q8 X7 hu8 zf M4 m0 m1 m2' m3 m4 y0 y1 y2 y3 y4 S6 X6
            go_upto_region 21 with fail
            rw [hu9.out]
            clear hu9 z0 z1 z2 z3 z4 zf4
            have K66 : Hid (Calls Try.prog 63 #[.pointer (some ⟨g, 0, none⟩), .int .u8 41] u9 fun e w' => e = .returned (.bool (isS s (k6) false 41)) ∧ Ch (fun b => b = g) u9 w' ∧ SB w' g s (if isS s (k6) false 41 then (k6) + 1 else (k6)) false) := is_any g s (k6) false 41 u9 L7.out.rs.sb hk6 hs
            go_wp2_with fail
            with_reducible refine K66.out.mono ?_
            cases h61 : isS s k6 false 41 with
            | true =>
              obtain ⟨q7, q8⟩ := is_yes h61
              unfold lxC at HI3
              rw [q7] at HI3
              simp only [Option.map_some, List.append_nil] at HI3
              have HF : Hid (some (.mk 7 .empty .empty [] (ks ++ [m2]), s.toList.drop (k6 + 1), 64 - n6) = ans) := HI3.out.symm
              rintro e v5 ⟨rfl, c5, t5⟩
              rw [if_pos rfl] at t5
              have L8 := hide (L7.out.to c5 t5)
              clear c5 t5 L7 K66 h61 q7 HI3
              obtain ⟨m0, m1, m2', m3, m4, _⟩ := L8.out.mb.all
              dsimp only at m0 m1 m2' m3 m4
              have DN : Hid (RfP ans g g2 n s w (.returned (.agg #[.int .i64 7, .string ⟨#[]⟩, .string ⟨#[]⟩, .slice none 0 0, .slice (some ⟨g', 0, none⟩) (j + 1) c'])) (put5 v5 w.heap.size ⟨7, ⟨#[]⟩, ⟨#[]⟩, none, 0, 0, (some ⟨g', 0, none⟩), (j + 1), c'⟩)) := by
                rw [← HF.out]
                exact rf_some L8.out.rs q8 rfl (L8.out.fin hn6 (by decide)) hn6 rfl (by omega)
              have BZ := hide (L8.out.rs.box)
              obtain ⟨d0, d1, d2, d3, d4, df⟩ := BZ.out.all
              have f10 := df 0
              have f11 := df 1
              have f12 := df 2
              have f13 := df 3
              have f14 := df 4
              dsimp only [hm0] at d0 d1 d2 d3 d4
              have FP := hide (BZ.out.put ⟨7, ⟨#[]⟩, ⟨#[]⟩, none, 0, 0, (some ⟨g', 0, none⟩), (j + 1), c'⟩)
              clear df
              go_wp2
              obtain ⟨x0, x1, x2, x3, x4, _⟩ := FP.out.all
              unfold put5 at x0 x1 x2 x3 x4
              dsimp only at x0 x1 x2 x3 x4
              exact bodyPost_ret (v := .agg #[.int .i64 7, .string ⟨#[]⟩, .string ⟨#[]⟩, .slice none 0 0, .slice (some ⟨g', 0, none⟩) (j + 1) c']) (by simp [results, Try.results39, go_sem, x0, x1, x2, x3, x4]) rfl DN.out
            | false =>
              unfold lxC at HI3
              rw [is_no h61] at HI3
              simp only at HI3
              rintro e v5 ⟨rfl, c5, t5⟩
              rw [if_neg (by decide)] at t5
              have L8 := hide (L7.out.to c5 t5)
              clear c5 t5 L7 K66 h61
              have K67 : Hid (Calls Try.prog 64 #[.pointer (some ⟨g, 0, none⟩), .int .u8 44] v5 fun e w' => e = .returned (.tuple #[]) ∧ Ch (fun b => b = g) v5 w' ∧ SB w' g s (if isS s (k6) false 44 then (k6) + 1 else (k6)) (!isS s (k6) false 44)) := must_any g s (k6) false 44 v5 L8.out.rs.sb hk6 hs
              go_wp2_with fail
              with_reducible refine K67.out.mono ?_
              cases h62 : isS s k6 false 44 with
              | true =>
                obtain ⟨q7, q8⟩ := is_yes h62
                rw [q7] at HI3
                simp only at HI3
                rintro e v6 ⟨rfl, c5, t5⟩
                rw [if_pos rfl] at t5
                rw [Bool.not_true] at t5
                have L9 := hide (L8.out.to c5 t5)
                clear c5 t5 L8 K67 h62 q7
                go_wp2
                go_roundg (64 - n6 + 1)
                case measure => omega
                case rel => exact Or.inl ⟨n6, k6 + 1, _, _, _, _, _, F, q8, hn6, by omega, Nat.le_refl _, by omega, by omega, L9, HI3⟩
              | false =>
                rw [is_no h62] at HI3
                have HF : Hid (none = ans) := HI3.out.symm
                rintro e v6 ⟨rfl, c5, t5⟩
                rw [if_neg (by decide)] at t5
                rw [Bool.not_false] at t5
                have L9 := hide (L8.out.bad c5 t5)
                clear c5 t5 L8 K67 h62
                go_wp2
                go_roundg 0
                case measure => omega
                case rel => exact Or.inr ⟨k6, _, _, _, _, hk6, L9, HF⟩
        · obtain ⟨u, rfl⟩ : ∃ u, u = wr := ⟨wr, rfl⟩
          obtain ⟨s0, s1, s2, _⟩ := D.out.sb.cell
          obtain ⟨m0, m1, m2, m3, m4, _⟩ := D.out.q.mb.all
          dsimp only at m0 m1 m2 m3 m4
          have DN : Hid (RfP ans g g2 n s w (.returned (.agg #[.int .i64 7, .string ⟨#[]⟩, .string ⟨#[]⟩, .slice none 0 0, .slice a j c])) (put5 u w.heap.size ⟨7, ⟨#[]⟩, ⟨#[]⟩, none, 0, 0, a, j, c⟩)) := by
            rw [← HF.out]
            exact rf_bad D.out.q.ch D.out.sb D.out.lt hk ⟨7, ⟨#[]⟩, ⟨#[]⟩, none, 0, 0, a, j, c⟩
          have BZ := hide (D.out.q.box)
          obtain ⟨d0, d1, d2, d3, d4, df⟩ := BZ.out.all
          have f10 := df 0
          have f11 := df 1
          have f12 := df 2
          have f13 := df 3
          have f14 := df 4
          dsimp only [hm0] at d0 d1 d2 d3 d4
          have FP := hide (BZ.out.put ⟨7, ⟨#[]⟩, ⟨#[]⟩, none, 0, 0, a, j, c⟩)
          clear df
          go_wp2
          obtain ⟨x0, x1, x2, x3, x4, _⟩ := FP.out.all
          unfold put5 at x0 x1 x2 x3 x4
          dsimp only at x0 x1 x2 x3 x4
          exact bodyPost_ret (v := .agg #[.int .i64 7, .string ⟨#[]⟩, .string ⟨#[]⟩, .slice none 0 0, .slice a j c]) (by simp [results, Try.results39, go_sem, x0, x1, x2, x3, x4]) rfl DN.out
end Go.Proofs.Ythebcmkainplnaa

namespace Go.Proofs.Ythebcmkainplnaa
open Go.RowKit
set_option maxRecDepth 20000

theorem readR_any (f : Nat) : RdF f := by
  refine Nat.strongRecOn f (fun f ih => ?_)
  intro g g2 n s k w h hb hgg hk hs hn hf
  obtain ⟨f, rfl⟩ : ∃ f', f = f' + 1 := ⟨f - 1, by omega⟩
  by_cases h64 : n = 64
  · exact read_64 f g g2 n s k w h hb hgg hk h64
  · have hn' : n < 64 := by omega
    cases h42 : isS s k false 42 with
    | true => exact read_all f g g2 n s k w h hb hgg hk hs hn' h42
    | false =>
      cases h38 : isS s k false 38 with
      | true => exact read_5 f (fun F hF => ih F hF) g g2 n s k w h hb hgg hk hs hn' hf h42 h38
      | false =>
        cases h124 : isS s k false 124 with
        | true => exact read_6 f (fun F hF => ih F hF) g g2 n s k w h hb hgg hk hs hn' hf h42 h38 h124
        | false =>
          cases h33 : isS s k false 33 with
          | true => exact read_7 f (fun F hF => ih F hF) g g2 n s k w h hb hgg hk hs hn' hf h42 h38 h124 h33
          | false => exact read_nm f g g2 n s k w h hb hgg hk hs hn' h42 h38 h124 h33

set_option maxHeartbeats 8000000 in
theorem parseR_any (s : ByteArray) (w : World) (hs : s.size ≤ 20000) :
    Calls Try.prog 21 #[.string s] w fun e w' => PsP s.toList w e w' := by
  obtain ⟨W, hW⟩ : ∃ W, Hid (w.alloc (.cells #[.int .i64 0, .string ⟨#[]⟩, .string ⟨#[]⟩, .slice none 0 0, .slice none 0 0] 25) = W) := ⟨_, rfl⟩
  have LW : Hid (Below w.heap.size w W) := by rw [← hW.out]; exact (Below.refl _ _).alloc (Nat.le_refl _) _
  have B0 : Hid (BoxM W w.heap.size hm0) := by rw [← hW.out]; exact BoxM.zero w
  have SZ : Hid (W.heap.size = w.heap.size + 1) := by rw [← hW.out]; show _ = _; simp
  have ID := hide (refdeep_any s W hs)
  have Z0 : Hid (∀ u h', Below w.heap.size w u → Below w.heap.size w (put5 u w.heap.size h')) := fun u h' hb => hb.trans ((ch_put5 u w.heap.size h').below hb.size (fun k hk e => by omega))
  cases hd : dpS 0 0 s.toList with
  | true =>
    rw [hd] at ID
    have DN : Hid (PsP s.toList w (.returned (.tuple #[.agg #[.int .i64 0, .string ⟨#[]⟩, .string ⟨#[]⟩, .slice none 0 0, .slice none 0 0], .int .i64 18])) (put5 W w.heap.size hm0)) :=
      ⟨Z0.out W hm0 LW.out, hm0, zeroM, 18, rfl, seeM_zero _ _, Or.inl ⟨hd, rfl, rfl⟩⟩
    clear hd
    go_enter Try.func21, Try.ntmps21
    go_upto_region 1 with fail
    rw [hW.out]
    clear hW
    go_wp2_with fail
    with_reducible refine ID.out.mono ?_
    rintro e w' ⟨rfl, hw⟩
    rw [hw]
    clear hw ID
    have BZ := hide (B0.out)
    obtain ⟨d0, d1, d2, d3, d4, df⟩ := BZ.out.all
    have f0 := df 0
    have f1 := df 1
    have f2 := df 2
    have f3 := df 3
    have f4 := df 4
    dsimp only [hm0] at d0 d1 d2 d3 d4
    have FP := hide (BZ.out.put hm0)
    clear df
    go_wp2
    obtain ⟨e0, e1, e2, e3, e4, _⟩ := FP.out.all
    unfold put5 at e0 e1 e2 e3 e4
    dsimp only [hm0] at e0 e1 e2 e3 e4
    exact bodyPost_ret (v := .tuple #[.agg #[.int .i64 0, .string ⟨#[]⟩, .string ⟨#[]⟩, .slice none 0 0, .slice none 0 0], .int .i64 18]) (by simp [results, Try.results21, go_sem, e0, e1, e2, e3, e4]) rfl DN.out
  | false =>
    rw [hd] at ID
    obtain ⟨W1, hW1⟩ : ∃ W1, Hid (W.alloc (.cells #[.string s, .int .i64 0, .bool false] 73) = W1) := ⟨_, rfl⟩
    obtain ⟨W2, hW2⟩ : ∃ W2, Hid (W1.alloc (.cells #[.int .i64 0] 3) = W2) := ⟨_, rfl⟩
    have S1 : Hid (W1.heap.size = W.heap.size + 1) := by rw [← hW1.out]; show _ = _; simp
    have A1 : Hid (Below W.heap.size W W1) := by rw [← hW1.out]; exact (Below.refl _ _).alloc (Nat.le_refl _) _
    have A2 : Hid (Below W1.heap.size W1 W2) := by rw [← hW2.out]; exact (Below.refl _ _).alloc (Nat.le_refl _) _
    have L2 : Hid (Below w.heap.size w W2) := bel_to (bel_to LW.out (Nat.le_refl _) A1.out) (Nat.le_refl _) A2.out
    have B2 : Hid (BoxM W2 w.heap.size hm0) := (B0.out.block (A1.out.block _ B0.out.lt)).block (A2.out.block _ (by have := B0.out.lt; have := A1.out.size; omega))
    have T1 : Hid (SB W1 W.heap.size s 0 false) := by rw [← hW1.out]; exact heap_alloc_new W _
    have T2 : Hid (SB W2 W.heap.size s 0 false) := T1.out.keep (A2.out.block _ T1.out.lt)
    have N2 : Hid (BX W2 W1.heap.size ((0 : Nat) : Int)) := by rw [← hW2.out]; exact bx_new W1 0
    have RD := hide (readR_any 300 W.heap.size W1.heap.size 0 s 0 W2 T2.out N2.out (by have := S1.out; omega) (Nat.zero_le _) hs (by decide) (by decide))
    rw [Nat.sub_zero, List.drop_zero] at RD
    go_enter Try.func21, Try.ntmps21
    go_upto_region 1 with fail
    rw [hW.out]
    clear hW
    go_wp2_with fail
    with_reducible refine ID.out.mono ?_
    rintro e w' ⟨rfl, hw⟩
    rw [hw]
    clear hw ID
    go_upto_region 4 with fail
    rw [hW1.out]
    go_upto_region 5 with fail
    rw [hW2.out]
    clear hW1 hW2
    go_wp2_with fail
    with_reducible refine RD.out.mono ?_
    rintro e u1 ⟨c1, h1, k1, rfl, hk1, p1⟩
    obtain ⟨op1, nm1, vl1, va1, vn1, vc1, ka1, kn1, kc1⟩ := h1
    dsimp only
    have HB1 : Hid (Below w.heap.size w u1) := L2.out.trans (c1.below L2.out.size (fun k hk e => by have := SZ.out; have := S1.out; omega))
    have BX1 := hide (B2.out.block (c1.block _ B2.out.lt (by have := SZ.out; have := S1.out; omega)))
    obtain ⟨u2, hu2⟩ : ∃ u2, Hid (u1.alloc (.cells #[.int .i64 op1, .string nm1, .string vl1, .slice va1 vn1 vc1, .slice ka1 kn1 kc1] 25) = u2) := ⟨_, rfl⟩
    have A3 : Hid (Below u1.heap.size u1 u2) := by rw [← hu2.out]; exact (Below.refl _ _).alloc (Nat.le_refl _) _
    have X2 : Hid (BoxM u2 u1.heap.size ⟨op1, nm1, vl1, va1, vn1, vc1, ka1, kn1, kc1⟩) := by rw [← hu2.out]; exact boxM_new u1 ⟨op1, nm1, vl1, va1, vn1, vc1, ka1, kn1, kc1⟩
    have BX2 := hide (BX1.out.block (A3.out.block _ BX1.out.lt))
    have L3 := hide (bel_to HB1.out (Nat.le_refl _) A3.out)
    have S2 : Hid (w.heap.size + 1 ≤ W2.heap.size) := by have := B2.out.lt; show _ ≤ _; omega
    go_upto_region 6 with fail
    rw [hu2.out]
    clear hu2 RD LW B0 T1 N2 T2 B2
    obtain ⟨x0, x1, x2, x3, x4, _⟩ := X2.out.all
    dsimp only at x0 x1 x2 x3 x4
    cases hu : lxM 300 64 s.toList with
    | none =>
      rw [hu] at p1
      have t1 : SB u1 W.heap.size s k1 true := p1
      have t2 := t1.keep (A3.out.block _ t1.lt)
      obtain ⟨s0, s1, s2, _⟩ := t2.cell
      have HP : Hid (parseM s.toList = none) := by
        show _ = _
        cases hp : parseM s.toList with
        | none => rfl
        | some m =>
          obtain ⟨left, hl⟩ := lx_parse.1 m hp
          rw [hu] at hl
          cases hl
      have DN : Hid (PsP s.toList w (.returned (.tuple #[.agg #[.int .i64 0, .string ⟨#[]⟩, .string ⟨#[]⟩, .slice none 0 0, .slice none 0 0], .int .i64 17])) (put5 u2 w.heap.size hm0)) :=
        ⟨Z0.out _ hm0 L3.out, hm0, zeroM, 17, rfl, seeM_zero _ _, Or.inr (Or.inl ⟨hd, HP.out, rfl, rfl⟩)⟩
      clear c1 p1 t1 t2 hd hu
      have BZ := hide (BX2.out)
      obtain ⟨d0, d1, d2, d3, d4, df⟩ := BZ.out.all
      have f0 := df 0
      have f1 := df 1
      have f2 := df 2
      have f3 := df 3
      have f4 := df 4
      dsimp only [hm0] at d0 d1 d2 d3 d4
      have FP := hide (BZ.out.put hm0)
      clear df
      go_wp2
      obtain ⟨e0, e1, e2, e3, e4, _⟩ := FP.out.all
      unfold put5 at e0 e1 e2 e3 e4
      dsimp only [hm0] at e0 e1 e2 e3 e4
      exact bodyPost_ret (v := .tuple #[.agg #[.int .i64 0, .string ⟨#[]⟩, .string ⟨#[]⟩, .slice none 0 0, .slice none 0 0], .int .i64 17]) (by simp [results, Try.results21, go_sem, e0, e1, e2, e3, e4]) rfl DN.out
    | some q =>
      obtain ⟨m, r, left⟩ := q
      rw [hu] at p1
      obtain ⟨t1, hd1, q1, -⟩ : SB u1 W.heap.size s k1 false ∧ s.toList.drop k1 = r ∧ SeeM (fun b => W2.heap.size ≤ b) u1 m ⟨op1, nm1, vl1, va1, vn1, vc1, ka1, kn1, kc1⟩ ∧ ∃ n' : Nat, BX u1 W1.heap.size n' ∧ n' ≤ 64 ∧ 64 - n' = left ∧ 0 < n' := p1
      have t2 := t1.keep (A3.out.block _ t1.lt)
      obtain ⟨s0, s1, s2, _⟩ := t2.cell
      have Q2 := hide (q1.below A3.out)
      have LP := hide (lx_parse.2 m r left hu)
      have HLX : Hid (∀ m2 left2, lxM 300 64 s.toList = some (m2, [], left2) → m2 = m) := fun m2 left2 h2 => by
        rw [hu] at h2
        simp only [Option.some.injEq, Prod.mk.injEq] at h2
        exact h2.1.symm
      have TC := hide (refchkM_any _ m ⟨op1, nm1, vl1, va1, vn1, vc1, ka1, kn1, kc1⟩ u2 Q2.out)
      dsimp only at TC
      clear c1 t1 t2 hu q1
      go_wp2_with fail
      with_reducible refine TC.out.mono ?_
      rintro e u3 ⟨rfl, k3⟩
      have L4 := hide (bel_to L3.out (Nat.le_refl _) k3)
      have BX3 := hide (BX2.out.block (k3.block _ BX2.out.lt))
      have X3 := hide (X2.out.block (k3.block _ X2.out.lt))
      have Q3 := hide (Q2.out.below k3)
      clear TC k3 x0 x1 x2 x3 x4 s0 s1 s2 L3 BX2 X2 Q2
      obtain ⟨x0, x1, x2, x3, x4, _⟩ := X3.out.all
      dsimp only at x0 x1 x2 x3 x4
      cases hc : chkM m with
      | false =>
        have HP : Hid (parseM s.toList = none) := by
          show _ = _
          cases hp : parseM s.toList with
          | none => rfl
          | some m2 =>
            obtain ⟨hc2, ht2⟩ := parseM_iff.1 hp
            obtain ⟨left2, hl2⟩ := lx_parse.1 m2 hp
            exact absurd (HLX.out m2 left2 hl2) (fun e => by subst e; exact (by rw [hc] at hc2; cases hc2))
        have DN : Hid (PsP s.toList w (.returned (.tuple #[.agg #[.int .i64 0, .string ⟨#[]⟩, .string ⟨#[]⟩, .slice none 0 0, .slice none 0 0], .int .i64 17])) (put5 u3 w.heap.size hm0)) :=
          ⟨Z0.out _ hm0 L4.out, hm0, zeroM, 17, rfl, seeM_zero _ _, Or.inr (Or.inl ⟨hd, HP.out, rfl, rfl⟩)⟩
        clear hc hd LP HLX
        have BZ := hide (BX3.out)
        obtain ⟨d0, d1, d2, d3, d4, df⟩ := BZ.out.all
        have f0 := df 0
        have f1 := df 1
        have f2 := df 2
        have f3 := df 3
        have f4 := df 4
        dsimp only [hm0] at d0 d1 d2 d3 d4
        have FP := hide (BZ.out.put hm0)
        clear df
        go_wp2
        obtain ⟨e0, e1, e2, e3, e4, _⟩ := FP.out.all
        unfold put5 at e0 e1 e2 e3 e4
        dsimp only [hm0] at e0 e1 e2 e3 e4
        exact bodyPost_ret (v := .tuple #[.agg #[.int .i64 0, .string ⟨#[]⟩, .string ⟨#[]⟩, .slice none 0 0, .slice none 0 0], .int .i64 17]) (by simp [results, Try.results21, go_sem, e0, e1, e2, e3, e4]) rfl DN.out
      | true =>
        have TX := hide (rtextP_any m _ ⟨op1, nm1, vl1, va1, vn1, vc1, ka1, kn1, kc1⟩ u3 Q3.out (okM_of hc))
        dsimp only at TX
        go_wp2_with fail
        with_reducible refine TX.out.mono ?_
        rintro e u4 ⟨rfl, k4⟩
        have L5 := hide (bel_to L4.out (Nat.le_refl _) k4)
        have BX4 := hide (BX3.out.block (k4.block _ BX3.out.lt))
        have X4 := hide (X3.out.block (k4.block _ X3.out.lt))
        have Q4 := hide (Q3.out.below k4)
        clear TX k4 x0 x1 x2 x3 x4 L4 BX3 X3 Q3
        obtain ⟨x0, x1, x2, x3, x4, _⟩ := X4.out.all
        dsimp only at x0 x1 x2 x3 x4
        by_cases he : textM m = s.toList
        · have hs2 : bar (textM m) = s := ba_ext (by rw [bar_list]; exact he)
          have et : (s.toList == s.toList) = true := by simp
          have en : (s.toList != s.toList) = false := by simp
          have HP : Hid (parseM s.toList = some m) := LP.out.1 ⟨hc, he⟩
          have DN : Hid (PsP s.toList w (.returned (.tuple #[.agg #[.int .i64 op1, .string nm1, .string vl1, .slice va1 vn1 vc1, .slice ka1 kn1 kc1], .int .i64 0])) (put5 u4 w.heap.size ⟨op1, nm1, vl1, va1, vn1, vc1, ka1, kn1, kc1⟩)) :=
            ⟨Z0.out _ _ L5.out, ⟨op1, nm1, vl1, va1, vn1, vc1, ka1, kn1, kc1⟩, m, 0, rfl, see_box (Q4.out.mono (fun b _ hb => Nat.le_trans S2.out hb)) rfl, Or.inr (Or.inr ⟨hd, HP.out, rfl⟩)⟩
          rw [hs2]
          clear hc hd he hs2 LP HLX
          have BZ := hide (BX4.out)
          obtain ⟨d0, d1, d2, d3, d4, df⟩ := BZ.out.all
          have f0 := df 0
          have f1 := df 1
          have f2 := df 2
          have f3 := df 3
          have f4 := df 4
          dsimp only [hm0] at d0 d1 d2 d3 d4
          have FP := hide (BZ.out.put ⟨op1, nm1, vl1, va1, vn1, vc1, ka1, kn1, kc1⟩)
          clear df
          go_wp2
          obtain ⟨e0, e1, e2, e3, e4, _⟩ := FP.out.all
          unfold put5 at e0 e1 e2 e3 e4
          dsimp only [hm0] at e0 e1 e2 e3 e4
          exact bodyPost_ret (v := .tuple #[.agg #[.int .i64 op1, .string nm1, .string vl1, .slice va1 vn1 vc1, .slice ka1 kn1 kc1], .int .i64 0]) (by simp [results, Try.results21, go_sem, e0, e1, e2, e3, e4]) rfl DN.out
        · have et : ((bar (textM m)).toList == s.toList) = false := by
            rw [bar_list, beq_eq_false_iff_ne]
            exact he
          have en : ((bar (textM m)).toList != s.toList) = true := by rw [bne, et]; rfl
          have HP : Hid (parseM s.toList = none) := by
            show _ = _
            cases hp : parseM s.toList with
            | none => rfl
            | some m2 =>
              obtain ⟨hc2, ht2⟩ := parseM_iff.1 hp
              obtain ⟨left2, hl2⟩ := lx_parse.1 m2 hp
              exact absurd (HLX.out m2 left2 hl2) (fun e => by subst e; exact he ht2)
          have DN : Hid (PsP s.toList w (.returned (.tuple #[.agg #[.int .i64 0, .string ⟨#[]⟩, .string ⟨#[]⟩, .slice none 0 0, .slice none 0 0], .int .i64 17])) (put5 u4 w.heap.size hm0)) :=
            ⟨Z0.out _ hm0 L5.out, hm0, zeroM, 17, rfl, seeM_zero _ _, Or.inr (Or.inl ⟨hd, HP.out, rfl, rfl⟩)⟩
          clear hc hd LP HLX
          generalize bar (textM m) = tx at *
          have BZ := hide (BX4.out)
          obtain ⟨d0, d1, d2, d3, d4, df⟩ := BZ.out.all
          have f0 := df 0
          have f1 := df 1
          have f2 := df 2
          have f3 := df 3
          have f4 := df 4
          dsimp only [hm0] at d0 d1 d2 d3 d4
          have FP := hide (BZ.out.put hm0)
          clear df
          go_wp2
          obtain ⟨e0, e1, e2, e3, e4, _⟩ := FP.out.all
          unfold put5 at e0 e1 e2 e3 e4
          dsimp only [hm0] at e0 e1 e2 e3 e4
          exact bodyPost_ret (v := .tuple #[.agg #[.int .i64 0, .string ⟨#[]⟩, .string ⟨#[]⟩, .slice none 0 0, .slice none 0 0], .int .i64 17]) (by simp [results, Try.results21, go_sem, e0, e1, e2, e3, e4]) rfl DN.out
end Go.Proofs.Ythebcmkainplnaa
