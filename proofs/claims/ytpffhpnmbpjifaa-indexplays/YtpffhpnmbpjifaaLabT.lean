/-
  Sets of labels as texts, in plain words: quoted values, the text of a set, a reader of texts; a set's text is read back as that set, so no two sets have one text.
  Conditions: the sets may be ones ('chkL') where that is said.
-/
import Derived.Test.YtpffhpnmbpjifaaLabK
namespace Go.Proofs.Ytpffhpnmbpjifaa

def hxD (k : Nat) : UInt8 := if k < 10 then UInt8.ofNat (48 + k) else UInt8.ofNat (87 + k)
def hexv (c : UInt8) : Option Nat := if 48 ≤ c ∧ c ≤ 57 then some (c.toNat - 48) else if 97 ≤ c ∧ c ≤ 102 then some (c.toNat - 87) else none
/-- A byte as it is written in a value. -/
def qb (c : UInt8) : List UInt8 := if c = 34 ∨ c = 92 then [92, c] else if c < 32 ∨ 127 ≤ c then [92, 120, hxD (c.toNat / 16), hxD (c.toNat % 16)] else [c]
def quoB (v : List UInt8) : List UInt8 := 34 :: (v.flatMap qb ++ [34])
def labB (x : Lb) : List UInt8 := x.1.toList ++ (61 :: quoB x.2.toList)
def restB : List Lb → List UInt8
  | [] => []
  | x :: t => 44 :: (labB x ++ restB t)
def textB : List Lb → List UInt8
  | [] => []
  | x :: t => labB x ++ restB t
def textL (l : List Lb) : ByteArray := ⟨(textB l).toArray⟩
theorem textL_list (l : List Lb) : (textL l).toList = textB l := by unfold textL; exact ByteArray.toList_mk _
theorem restB_append (l m : List Lb) : restB (l ++ m) = restB l ++ restB m := by
  induction l with
  | nil => rfl
  | cons x t ih => rw [List.cons_append, restB, restB, ih, List.cons_append, List.append_assoc]
theorem textB_snoc {l : List Lb} (h : l ≠ []) (x : Lb) : textB (l ++ [x]) = textB l ++ (44 :: labB x) := by
  cases l with
  | nil => exact absurd rfl h
  | cons y t =>
    rw [List.cons_append, textB, textB, restB_append, List.append_assoc]
    simp [restB]

/-- A value is read, behind its first sign. -/
def unqB : List UInt8 → Option (List UInt8 × List UInt8)
  | [] => none
  | c :: r => if c = 34 then some ([], r) else if c ≠ 92 then (unqB r).map (fun q => (c :: q.1, q.2)) else
    match r with
    | [] => none
    | d :: r2 => if d ≠ 120 then (unqB r2).map (fun q => (d :: q.1, q.2)) else
      match r2 with
      | a :: b :: r3 => match hexv a, hexv b with
        | some h, some l => (unqB r3).map (fun q => (UInt8.ofNat (h * 16 + l) :: q.1, q.2))
        | _, _ => none
      | _ => none
theorem hex_back (k : Nat) (h : k < 16) : hexv (hxD k) = some k := by
  have : ∀ k, k < 16 → hexv (hxD k) = some k := by decide
  exact this k h
theorem unq_plain {c : UInt8} (h1 : c ≠ 34) (h2 : c ≠ 92) (r : List UInt8) : unqB (c :: r) = (unqB r).map (fun q => (c :: q.1, q.2)) := by
  rw [unqB.eq_def]
  simp only
  rw [if_neg h1, if_pos h2]
theorem unq_end (r : List UInt8) : unqB (34 :: r) = some ([], r) := by
  rw [unqB.eq_def]
  rfl
theorem unq_esc {d : UInt8} (h : d ≠ 120) (r : List UInt8) : unqB (92 :: d :: r) = (unqB r).map (fun q => (d :: q.1, q.2)) := by
  rw [unqB.eq_def]
  simp only
  rw [if_neg (by decide), if_neg (by decide), if_pos h]
theorem unq_hex {a b : UInt8} {h l : Nat} (ha : hexv a = some h) (hb : hexv b = some l) (r : List UInt8) : unqB (92 :: 120 :: a :: b :: r) = (unqB r).map (fun q => (UInt8.ofNat (h * 16 + l) :: q.1, q.2)) := by
  rw [unqB.eq_def]
  simp only
  rw [if_neg (by decide), if_neg (by decide), if_neg (by decide), ha, hb]
theorem unq_byte (c : UInt8) (s : List UInt8) : unqB (qb c ++ s) = (unqB s).map (fun q => (c :: q.1, q.2)) := by
  unfold qb
  by_cases h1 : c = 34 ∨ c = 92
  · rw [if_pos h1]
    exact unq_esc (by rcases h1 with rfl | rfl <;> decide) s
  · rw [if_neg h1]
    by_cases h2 : c < 32 ∨ 127 ≤ c
    · rw [if_pos h2]
      have hc := c.toNat_lt
      show unqB (92 :: 120 :: hxD (c.toNat / 16) :: hxD (c.toNat % 16) :: s) = _
      rw [unq_hex (hex_back _ (by omega)) (hex_back _ (by omega))]
      have e : UInt8.ofNat (c.toNat / 16 * 16 + c.toNat % 16) = c := by
        rw [show c.toNat / 16 * 16 + c.toNat % 16 = c.toNat by omega]
        exact UInt8.ofNat_toNat
      rw [e]
    · rw [if_neg h2]
      exact unq_plain (fun e => h1 (Or.inl e)) (fun e => h1 (Or.inr e)) s
theorem unq_back (v r : List UInt8) : unqB (v.flatMap qb ++ 34 :: r) = some (v, r) := by
  induction v with
  | nil => rw [List.flatMap_nil, List.nil_append, unq_end]
  | cons c t ih =>
    rw [List.flatMap_cons, List.append_assoc, unq_byte, ih]
    rfl

def nmS (c : UInt8) : Bool := c == 95 || (decide (97 ≤ c) && decide (c ≤ 122)) || (decide (48 ≤ c) && decide (c ≤ 57))
theorem nmC_S {i : Nat} {c : UInt8} (h : nmC i c = true) : nmS c = true := by
  unfold nmC at h
  unfold nmS
  simp only [Bool.or_eq_true, Bool.and_eq_true] at h ⊢
  rcases h with h | h
  · exact Or.inl h
  · exact Or.inr h.1
theorem nmF_all : ∀ {i : Nat} {l : List UInt8}, nmF i l = true → ∀ c ∈ l, nmS c = true
  | _, [], _, c, hc => by cases hc
  | i, x :: t, h, c, hc => by
    simp only [nmF, Bool.and_eq_true] at h
    rcases List.mem_cons.1 hc with rfl | hc
    · exact nmC_S h.1
    · exact nmF_all h.2 c hc
/-- A label is read: a name's bytes, '=', a value in its signs. -/
def labR (s : List UInt8) : Option (Lb × List UInt8) :=
  match s.dropWhile nmS with
  | e :: q :: r => if e = 61 ∧ q = 34 then (unqB r).map (fun z => ((⟨(s.takeWhile nmS).toArray⟩, ⟨z.1.toArray⟩), z.2)) else none
  | _ => none
theorem span_name {n : List UInt8} (h : ∀ c ∈ n, nmS c = true) (r : List UInt8) : (n ++ 61 :: r).takeWhile nmS = n ∧ (n ++ 61 :: r).dropWhile nmS = 61 :: r := by
  induction n with
  | nil => exact ⟨rfl, rfl⟩
  | cons c t ih =>
    have hc := h c (List.mem_cons_self ..)
    obtain ⟨h1, h2⟩ := ih (fun x hx => h x (List.mem_cons_of_mem _ hx))
    exact ⟨by rw [List.cons_append, List.takeWhile_cons, if_pos hc, h1], by rw [List.cons_append, List.dropWhile_cons, if_pos hc, h2]⟩
theorem ba_mk (a : ByteArray) : (⟨a.toList.toArray⟩ : ByteArray) = a := ba_ext (ByteArray.toList_mk _)
theorem labR_back {x : Lb} (h : ∀ c ∈ x.1.toList, nmS c = true) (r : List UInt8) : labR (labB x ++ r) = some (x, r) := by
  have e : labB x ++ r = x.1.toList ++ 61 :: (34 :: (x.2.toList.flatMap qb ++ 34 :: r)) := by
    unfold labB quoB
    simp [List.append_assoc]
  unfold labR
  rw [e]
  obtain ⟨h1, h2⟩ := span_name h (34 :: (x.2.toList.flatMap qb ++ 34 :: r))
  rw [h1, h2]
  simp only
  rw [if_pos (by simp), unq_back]
  simp only [Option.map_some, ba_mk]
/-- Up to k labels are read, commas between them. -/
def parB : Nat → List UInt8 → Option (List Lb)
  | 0, _ => none
  | k + 1, s => match labR s with
    | none => none
    | some (x, []) => some [x]
    | some (x, c :: r) => if c = 44 then (parB k r).map (x :: ·) else none
theorem parB_back : ∀ (k : Nat) (l : List Lb), l ≠ [] → l.length ≤ k → (∀ x ∈ l, ∀ c ∈ x.1.toList, nmS c = true) → parB k (textB l) = some l
  | _, [], h, _, _ => absurd rfl h
  | 0, x :: t, _, h, _ => by simp at h
  | k + 1, x :: t, _, hl, hn => by
    rw [textB, parB, labR_back (hn x (List.mem_cons_self ..))]
    cases t with
    | nil => rfl
    | cons y u =>
      simp only [restB]
      rw [if_pos (by simp)]
      have ih := parB_back k (y :: u) (by simp) (by simpa using hl) (fun z hz => hn z (List.mem_cons_of_mem _ hz))
      rw [textB] at ih
      rw [ih]
      rfl
theorem chkF_names : ∀ {p : Option ByteArray} {l : List Lb}, chkF p l = true → ∀ x ∈ l, lbB x = true
  | _, [], _, x, hx => by cases hx
  | p, y :: t, h, x, hx => by
    simp only [chkF, Bool.and_eq_true] at h
    rcases List.mem_cons.1 hx with rfl | hx
    · exact h.1.1
    · exact chkF_names h.2 x hx
theorem chkL_parts {l : List Lb} (h : chkL l = true) : 1 ≤ l.length ∧ l.length ≤ 8 ∧ ∀ x ∈ l, nameB x.1 = true ∧ 1 ≤ x.2.size ∧ x.2.size ≤ 64 := by
  unfold chkL at h
  simp only [Bool.and_eq_true, decide_eq_true_eq] at h
  refine ⟨h.2.1, h.2.2, fun x hx => ?_⟩
  have := chkF_names h.1 x hx
  unfold lbB at this
  simpa only [Bool.and_eq_true, decide_eq_true_eq] using this
theorem chkL_bytes {l : List Lb} (h : chkL l = true) : ∀ x ∈ l, ∀ c ∈ x.1.toList, nmS c = true := by
  intro x hx
  have := ((chkL_parts h).2.2 x hx).1
  unfold nameB at this
  simp only [Bool.and_eq_true] at this
  exact nmF_all this.1
theorem par_text {l : List Lb} (h : chkL l = true) : parB 9 (textB l) = some l := by
  have h1 := chkL_parts h
  exact parB_back 9 l (fun e => by subst e; simp at h1) (by omega) (chkL_bytes h)
/-- No two sets have one text. -/
theorem text_inj {l m : List Lb} (hl : chkL l = true) (hm : chkL m = true) (h : textL l = textL m) : l = m := by
  have e := congrArg ByteArray.toList h
  rw [textL_list, textL_list] at e
  have h1 := par_text hl
  rw [e, par_text hm] at h1
  simpa using h1.symm
/-- The set whose text it is. -/
def parseL (s : ByteArray) : Option (List Lb) :=
  match parB 9 s.toList with
  | none => none
  | some l => if chkL l = true ∧ textL l = s then some l else none
theorem parseL_iff {s : ByteArray} {l : List Lb} : parseL s = some l ↔ chkL l = true ∧ textL l = s := by
  unfold parseL
  constructor
  · intro h
    cases e : parB 9 s.toList with
    | none => rw [e] at h; cases h
    | some m =>
      rw [e] at h
      simp only at h
      split at h
      · rename_i hm
        simp only [Option.some.injEq] at h
        subst h
        exact hm
      · cases h
  · rintro ⟨h1, rfl⟩
    rw [textL_list, par_text h1]
    simp only
    rw [if_pos (by simp [h1])]
end Go.Proofs.Ytpffhpnmbpjifaa
