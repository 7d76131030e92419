/-
  Matchers in plain words: which are small, which may be, what they say of labels, their texts. No function is named.
  Conditions: as each theorem says.
-/
import Derived.Test.YtpffhpnmbpjifaaLabK
import Derived.Test.YtpffhpnmbpjifaaLabT
namespace Go.Proofs.Ytpffhpnmbpjifaa

/-- A matcher: its op, its name, its value, its values, its kids. -/
inductive Mt where
  | mk (op : Int) (nm vl : ByteArray) (vs : List ByteArray) (ks : List Mt)
namespace Mt
def op : Mt → Int | mk o _ _ _ _ => o
def nm : Mt → ByteArray | mk _ n _ _ _ => n
def vl : Mt → ByteArray | mk _ _ v _ _ => v
def vs : Mt → List ByteArray | mk _ _ _ s _ => s
def ks : Mt → List Mt | mk _ _ _ _ k => k
theorem eta (m : Mt) : m = mk m.op m.nm m.vl m.vs m.ks := by cases m; rfl
theorem ext {m n : Mt} (h1 : m.op = n.op) (h2 : m.nm = n.nm) (h3 : m.vl = n.vl) (h4 : m.vs = n.vs) (h5 : m.ks = n.ks) : m = n := by
  rw [eta m, eta n, h1, h2, h3, h4, h5]
theorem ks_lt {m k : Mt} (h : k ∈ m.ks) : SizeOf.sizeOf k < SizeOf.sizeOf m := by
  cases m with
  | mk o n v s t =>
    have := List.sizeOf_lt_of_mem (show k ∈ t from h)
    simp only [mk.sizeOf_spec]
    omega
/-- What holds of a matcher if it holds of its kids holds of all. -/
theorem ind {P : Mt → Prop} (h : ∀ m : Mt, (∀ k ∈ m.ks, P k) → P m) (m : Mt) : P m :=
  h m fun k _ => ind h k
termination_by SizeOf.sizeOf m
decreasing_by exact ks_lt ‹_›
end Mt
def zeroM : Mt := .mk 0 .empty .empty [] []

mutual
/-- So many parts are counted by it, if it is small; else none. -/
def tinyF : Mt → Nat → Nat → Option Nat
  | .mk _ nm vl vs ks, d, n => if 200 < n + 1 ∨ 11 < d ∨ 300 < nm.size ∨ 5000 < vl.size ∨ 40 < vs.length ∨ vs.any (fun v => decide (300 < v.size)) = true then none else tinyKs ks (d + 1) (n + 1)
def tinyKs : List Mt → Nat → Nat → Option Nat
  | [], _, n => some n
  | k :: ks, d, n => match tinyF k d n with
    | none => none
    | some n' => tinyKs ks d n'
end
def tinyM (m : Mt) : Bool := (tinyF m 0 0).isSome

def nmOkB (s : ByteArray) : Bool := nameB s
/-- Values that may be. -/
def risB : List ByteArray → Bool
  | [] => true
  | [v] => decide (v.size ≤ 64)
  | v :: v' :: t => decide (v.size ≤ 64) && Op.bytesLess v.toList v'.toList && risB (v' :: t)
def valsB (l : List ByteArray) : Bool := decide (1 ≤ l.length) && decide (l.length ≤ 16) && risB l
def sumB' (l : List ByteArray) : Nat := (l.map (·.size)).sum
/-- Has it nothing but what its op names, and is that as it may be (kids apart)? -/
def fitB (m : Mt) : Bool :=
  if m.op = 0 then decide (m.vl.size = 0) && decide (m.nm.size = 0) && decide (m.vs.length = 0) && decide (m.ks.length = 0)
  else if m.op = 1 ∨ m.op = 2 ∨ m.op = 3 then decide (m.vs.length = 0) && decide (m.ks.length = 0) && nameB m.nm && decide (m.vl.size ≤ 64)
  else if m.op = 4 then decide (m.vl.size = 0) && decide (m.ks.length = 0) && nameB m.nm && valsB m.vs
  else if m.op = 5 ∨ m.op = 6 ∨ m.op = 7 then decide (m.vl.size = 0) && decide (m.nm.size = 0) && decide (m.vs.length = 0) && (decide (m.op ≠ 7) || decide (m.ks.length = 1))
  else false
/-- The bytes of its own texts. -/
def ownT (m : Mt) : Nat := m.nm.size + m.vl.size + sumB' m.vs
mutual
/-- Parts and bytes counted so far, if it may be; else none. -/
def lookF : Mt → Nat → Nat → Nat → Option (Nat × Nat)
  | .mk op nm vl vs ks, d, n, b => if 64 < n + 1 ∨ 8 < d ∨ fitB (.mk op nm vl vs ks) = false ∨ 4096 < b + ownT (.mk op nm vl vs ks) then none else lookKs ks (d + 1) (n + 1) (b + ownT (.mk op nm vl vs ks))
def lookKs : List Mt → Nat → Nat → Nat → Option (Nat × Nat)
  | [], _, n, b => some (n, b)
  | k :: ks, d, n, b => match lookF k d n b with
    | none => none
    | some r => lookKs ks d r.1 r.2
end
def chkM (m : Mt) : Bool := (lookF m 1 0 0).isSome

mutual
/-- What it says of labels. -/
def evalM (l : List Lb) : Mt → Bool
  | .mk op nm vl vs ks =>
    if op = 0 then true
    else if op = 1 then decide (valL l nm = vl)
    else if op = 2 then decide (valL l nm ≠ vl)
    else if op = 3 then vl.toList.isPrefixOf (valL l nm).toList
    else if op = 4 then vs.any fun v => decide (v = valL l nm)
    else if op = 5 then allM l ks
    else if op = 6 then oneM l ks
    else if op = 7 then (match ks with
      | [] => false
      | k :: _ => !evalM l k)
    else false
def allM (l : List Lb) : List Mt → Bool
  | [] => true
  | k :: ks => evalM l k && allM l ks
def oneM (l : List Lb) : List Mt → Bool
  | [] => false
  | k :: ks => evalM l k || oneM l ks
end

/-- Texts with commas between. -/
def joinC : List (List UInt8) → List UInt8
  | [] => []
  | [x] => x
  | x :: y :: t => x ++ 44 :: joinC (y :: t)
mutual
/-- Its text. -/
def textM : Mt → List UInt8
  | .mk op nm vl vs ks =>
    if op = 0 then [42]
    else if op = 1 then nm.toList ++ 61 :: quoB vl.toList
    else if op = 2 then nm.toList ++ 33 :: 61 :: quoB vl.toList
    else if op = 3 then nm.toList ++ 94 :: 61 :: quoB vl.toList
    else if op = 4 then nm.toList ++ 64 :: 40 :: (joinC (vs.map fun v => quoB v.toList) ++ [41])
    else (if op = 6 then 124 else if op = 7 then 33 else 38) :: 40 :: (joinC (textKs ks) ++ [41])
def textKs : List Mt → List (List UInt8)
  | [] => []
  | k :: ks => textM k :: textKs ks
end

theorem tinyF_eq (m : Mt) (d n : Nat) : tinyF m d n = if 200 < n + 1 ∨ 11 < d ∨ 300 < m.nm.size ∨ 5000 < m.vl.size ∨ 40 < m.vs.length ∨ m.vs.any (fun v => decide (300 < v.size)) = true then none else tinyKs m.ks (d + 1) (n + 1) := by
  cases m; rw [tinyF]; rfl
theorem lookF_eq (m : Mt) (d n b : Nat) : lookF m d n b = if 64 < n + 1 ∨ 8 < d ∨ fitB m = false ∨ 4096 < b + ownT m then none else lookKs m.ks (d + 1) (n + 1) (b + ownT m) := by
  cases m; rw [lookF]; rfl
theorem tinyKs_append (ks : List Mt) (k : Mt) (d n : Nat) : tinyKs (ks ++ [k]) d n = (tinyKs ks d n).bind fun n' => tinyF k d n' := by
  induction ks generalizing n with
  | nil => simp only [List.nil_append, tinyKs, Option.bind_some]; cases tinyF k d n <;> rfl
  | cons x t ih =>
    rw [List.cons_append, tinyKs, tinyKs]
    cases tinyF x d n with
    | none => rfl
    | some n' => exact ih n'
theorem lookKs_append (ks : List Mt) (k : Mt) (d n b : Nat) : lookKs (ks ++ [k]) d n b = (lookKs ks d n b).bind fun r => lookF k d r.1 r.2 := by
  induction ks generalizing n b with
  | nil => simp only [List.nil_append, lookKs, Option.bind_some]; cases lookF k d n b <;> rfl
  | cons x t ih =>
    rw [List.cons_append, lookKs, lookKs]
    cases lookF x d n b with
    | none => rfl
    | some r => exact ih r.1 r.2
theorem tinyKs_none {ks t : List Mt} {d n : Nat} (h : tinyKs ks d n = none) : tinyKs (ks ++ t) d n = none := by
  induction ks generalizing n with
  | nil => simp [tinyKs] at h
  | cons x u ih =>
    rw [tinyKs] at h
    rw [List.cons_append, tinyKs]
    cases hx : tinyF x d n with
    | none => rfl
    | some n' => rw [hx] at h; exact ih h
theorem lookKs_none {ks t : List Mt} {d n b : Nat} (h : lookKs ks d n b = none) : lookKs (ks ++ t) d n b = none := by
  induction ks generalizing n b with
  | nil => simp [lookKs] at h
  | cons x u ih =>
    rw [lookKs] at h
    rw [List.cons_append, lookKs]
    cases hx : lookF x d n b with
    | none => rfl
    | some r => rw [hx] at h; exact ih h
/-- The kids' counts only grow. -/
theorem tiny_up (m : Mt) : ∀ d n n', tinyF m d n = some n' → n < n' := by
  refine Mt.ind (P := fun m => ∀ d n n', tinyF m d n = some n' → n < n') ?_ m
  intro m ih d n n' h
  rw [tinyF_eq] at h
  split at h
  · cases h
  · have : ∀ (ks : List Mt) (d n n' : Nat), (∀ k ∈ ks, ∀ d n n', tinyF k d n = some n' → n < n') → tinyKs ks d n = some n' → n ≤ n' := by
      intro ks
      induction ks with
      | nil => intro d n n' _ h; simp [tinyKs] at h; omega
      | cons x t iht =>
        intro d n n' hk h
        rw [tinyKs] at h
        cases hx : tinyF x d n with
        | none => rw [hx] at h; cases h
        | some y =>
          rw [hx] at h
          have h1 := hk x (by simp) d n y hx
          have h2 := iht d y n' (fun k hk' => hk k (by simp [hk'])) h
          omega
    have := this m.ks _ _ _ ih h
    omega
theorem allM_iff (l : List Lb) (ks : List Mt) : allM l ks = ks.all (evalM l) := by
  induction ks with
  | nil => rfl
  | cons x t ih => rw [allM, ih, List.all_cons]
theorem oneM_iff (l : List Lb) (ks : List Mt) : oneM l ks = ks.any (evalM l) := by
  induction ks with
  | nil => rfl
  | cons x t ih => rw [oneM, ih, List.any_cons]
theorem textKs_map (ks : List Mt) : textKs ks = ks.map textM := by
  induction ks with
  | nil => rfl
  | cons x t ih => rw [textKs, ih, List.map_cons]
end Go.Proofs.Ytpffhpnmbpjifaa
