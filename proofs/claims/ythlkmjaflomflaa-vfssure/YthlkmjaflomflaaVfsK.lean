/-
  Files that may lose what was not made certain, in plain words: the document's file system as lists. No function is named.
  Conditions: as each theorem says.
-/
import Derived.Test.YthlkmjaflomflaaLabK
namespace Go.Proofs.Ythlkmjaflomflaa
set_option linter.unusedVariables false

/-- A unit: a byte behind, or a cut. -/
structure Un where
  b : Int
  cut : Bool
  n : Int
/-- A file: what is certain, and units behind it. -/
structure Fi where
  sure : List Int
  us : List Un
/-- A name and its file's number. -/
structure Dn where
  nm : ByteArray
  f : Nat
/-- A turn: 0 a name is a file's, 1 one goes over to another, 2 it is gone. -/
structure Tn where
  k : Nat
  nm : ByteArray
  to : ByteArray
  f : Nat
/-- A file system. -/
structure Fs where
  files : List Fi
  sure : List Dn
  turns : List Tn
  n : Int
  armed : Bool
  kind : Int
  after : Int
  dark : Bool
/-- None. -/
def fs0 : Fs := ⟨[], [], [], 0, false, 0, 0, false⟩
/-- The place of a name. -/
def findD : List Dn → ByteArray → Option Nat
  | [], _ => none
  | d :: t, s => if d.nm = s then some 0 else (findD t s).map (· + 1)
/-- A list without a name. -/
def wout (l : List Dn) (s : ByteArray) : List Dn := l.filter fun d => !decide (d.nm = s)
/-- A name's file. -/
def fileD (l : List Dn) (s : ByteArray) : Option Nat := (findD l s).bind fun k => (l[k]?).map (·.f)
/-- Names behind a turn. -/
def turnD (l : List Dn) (t : Tn) : List Dn :=
  if t.k = 0 then wout l t.nm ++ [⟨t.nm, t.f⟩]
  else if t.k = 1 then match fileD l t.nm with
    | none => l
    | some f => if t.nm = t.to then l else wout (wout l t.nm) t.to ++ [⟨t.to, f⟩]
  else wout l t.nm
/-- Names behind so many turns. -/
def turnsD (l : List Dn) (ts : List Tn) : List Dn := ts.foldl turnD l
def dirF (F : Fs) : List Dn := turnsD F.sure F.turns
/-- Bytes behind a unit. -/
def unB (b : List Int) (u : Un) : List Int := if u.cut = true then b.take u.n.toNat else b ++ [u.b]
def unsB (b : List Int) (us : List Un) : List Int := us.foldl unB b
/-- A file's bytes. -/
def bytF (x : Fi) : List Int := unsB x.sure x.us
/-- Each cut is within what there is. -/
def okUs : List Int → List Un → Prop
  | _, [] => True
  | b, u :: t => (u.cut = true → 0 ≤ u.n ∧ u.n ≤ b.length) ∧ okUs (unB b u) t
def emF : Fi := ⟨[], []⟩
def fileF (F : Fs) (s : ByteArray) : Option Nat := fileD (dirF F) s
def atF (F : Fs) (k : Nat) : Fi := F.files.getD k emF
/-- A name's bytes. -/
def readF (F : Fs) (s : ByteArray) : Option (List Int) := (fileF F s).map fun k => bytF (atF F k)
/-- The place of a name, looked for from behind. -/
def backN (l : List ByteArray) (s : ByteArray) : Nat → Nat
  | 0 => 0
  | k + 1 => if Op.bytesLess s.toList (l.getD k ByteArray.empty).toList = true then backN l s k else k + 1
theorem backN_le (l : List ByteArray) (s : ByteArray) : ∀ k, backN l s k ≤ k
  | 0 => Nat.le_refl _
  | k + 1 => by
    unfold backN
    split
    · exact Nat.le_trans (backN_le l s k) (by omega)
    · exact Nat.le_refl _
/-- A name in its place. -/
def insN (l : List ByteArray) (s : ByteArray) : List ByteArray := l.take (backN l s l.length) ++ s :: l.drop (backN l s l.length)
def listD (l : List Dn) : List ByteArray := l.foldl (fun m d => insN m d.nm) []
def listF (F : Fs) : List ByteArray := listD (dirF F)
/-- May a name be? -/
def mayN (s : ByteArray) : Bool := decide (1 ≤ s.size) && decide (s.size ≤ 64)
/-- A call begins: what it answers, if it fails. -/
def callF (F : Fs) : Fs × Option Int :=
  if F.dark = true then ({ F with n := F.n + 1 }, some 15)
  else if F.armed = false then ({ F with n := F.n + 1 }, none)
  else if 0 < F.after then ({ F with n := F.n + 1, after := F.after - 1 }, none)
  else if F.kind = 0 then ({ F with n := F.n + 1, armed := false, dark := true }, some 15)
  else ({ F with n := F.n + 1, armed := false }, some F.kind)
/-- Bytes behind a file's. -/
def moreU (b : List Int) : List Un := b.map fun x => ⟨x, false, 0⟩
def moreF (F : Fs) (k : Nat) (us : List Un) : Fs := { F with files := F.files.set k ⟨(atF F k).sure, (atF F k).us ++ us⟩ }
def createF (F : Fs) (s : ByteArray) : Fs × Int := match callF F with
  | (G, some e) => (G, e)
  | (G, none) => if mayN s = false then (G, 1) else if (findD (dirF G) s).isNone = true ∧ 1024 ≤ (dirF G).length then (G, 2)
    else ({ G with files := G.files ++ [emF], turns := G.turns ++ [⟨0, s, ByteArray.empty, G.files.length⟩] }, 0)
def appendF (F : Fs) (s : ByteArray) (b : List Int) : Fs × Int := match callF F with
  | (G, some e) => match fileF G s with
    | none => (G, e)
    | some k => if F.dark = false ∧ (bytF (atF G k)).length + b.length / 2 ≤ 1073741824 then (moreF G k (moreU (b.take (b.length / 2))), e) else (G, e)
  | (G, none) => if mayN s = false then (G, 1) else match fileF G s with
    | none => (G, 3)
    | some k => if 1073741824 < (bytF (atF G k)).length + b.length then (G, 2) else (moreF G k (moreU b), 0)
def cutF (F : Fs) (s : ByteArray) (z : Int) : Fs × Int := match callF F with
  | (G, some e) => (G, e)
  | (G, none) => if mayN s = false then (G, 1) else match fileF G s with
    | none => (G, 3)
    | some k => if z < 0 ∨ (bytF (atF G k)).length < z then (G, 1) else (moreF G k [⟨0, true, z⟩], 0)
def syncF (F : Fs) (s : ByteArray) : Fs × Int := match callF F with
  | (G, some e) => (G, e)
  | (G, none) => if mayN s = false then (G, 1) else match fileF G s with
    | none => (G, 3)
    | some k => ({ G with files := G.files.set k ⟨bytF (atF G k), []⟩ }, 0)
def renameF (F : Fs) (s t : ByteArray) : Fs × Int := match callF F with
  | (G, some e) => (G, e)
  | (G, none) => if mayN s = false ∨ mayN t = false then (G, 1) else match fileF G s with
    | none => (G, 3)
    | some _ => ({ G with turns := G.turns ++ [⟨1, s, t, 0⟩] }, 0)
def removeF (F : Fs) (s : ByteArray) : Fs × Int := match callF F with
  | (G, some e) => (G, e)
  | (G, none) => if mayN s = false then (G, 1) else match fileF G s with
    | none => (G, 3)
    | some _ => ({ G with turns := G.turns ++ [⟨2, s, ByteArray.empty, 0⟩] }, 0)
def syncdirF (F : Fs) : Fs × Int := match callF F with
  | (G, some e) => (G, e)
  | (G, none) => ({ G with sure := dirF G, turns := [] }, 0)
def armF (F : Fs) (k a : Int) : Fs × Int := if (k ≠ 0 ∧ k ≠ 14 ∧ k ≠ 15) ∨ a < 0 then (F, 1) else ({ F with armed := true, kind := k, after := a }, 0)
/-- How many of so many, cut to from 0 to their number. -/
def cutN (p : Int) : Nat := p.toNat
/-- The pick of a file. -/
def pickF (ps : List Int) (i : Nat) : Int := if ps.length = 0 then 0 else ps.getD (i % ps.length) 0
/-- Files with names, in their order. -/
def keptF (d : List Dn) (m : Nat) : List Dn := (List.range m).flatMap fun k => d.filter fun x => decide (x.f = k)
def crashF (F : Fs) (ops : Int) (ps : List Int) : Fs :=
  let d := keptF (turnsD F.sure (F.turns.take (cutN ops))) F.files.length
  { fs0 with files := d.mapIdx fun i x => ⟨unsB (atF F x.f).sure ((atF F x.f).us.take (cutN (pickF ps i))), []⟩, sure := d.mapIdx fun i x => ⟨x.nm, i⟩ }
def laidF (ns : List ByteArray) (ds : List (List Int)) : Option Fs × Int :=
  if ns.length ≠ ds.length then (none, 1)
  else if ¬ ((∀ s ∈ ns, mayN s = true) ∧ ns.Nodup) then (none, 1)
  else if 1024 < ns.length ∨ ∃ b ∈ ds, 1073741824 < b.length then (none, 2)
  else (some { fs0 with files := ds.map fun b => ⟨b, []⟩, sure := ns.mapIdx fun i s => ⟨s, i⟩ }, 0)

theorem findD_none {l : List Dn} {s : ByteArray} (h : ∀ d ∈ l, ¬ d.nm = s) : findD l s = none := by
  induction l with
  | nil => rfl
  | cons d t ih =>
    unfold findD
    rw [if_neg (h d (by simp)), ih (fun x hx => h x (by simp [hx]))]
    rfl
theorem findD_at {l : List Dn} {s : ByteArray} {k : Nat} {d : Dn} (hk : l[k]? = some d) (he : d.nm = s) (hn : ∀ j x, j < k → l[j]? = some x → ¬ x.nm = s) : findD l s = some k := by
  induction l generalizing k with
  | nil => simp at hk
  | cons y t ih =>
    unfold findD
    cases k with
    | zero =>
      simp at hk
      subst hk
      rw [if_pos he]
    | succ k =>
      rw [if_neg (hn 0 y (by omega) rfl), ih (k := k) (by simpa using hk) (fun j x hj hx => hn (j + 1) x (by omega) (by simpa using hx))]
      rfl
theorem findD_some {l : List Dn} {s : ByteArray} {k : Nat} (h : findD l s = some k) : ∃ d, l[k]? = some d ∧ d.nm = s ∧ k < l.length := by
  induction l generalizing k with
  | nil => simp [findD] at h
  | cons y t ih =>
    unfold findD at h
    split at h
    · rename_i hy
      obtain rfl : 0 = k := by simpa using h
      exact ⟨y, rfl, hy, by simp⟩
    · cases hf : findD t s with
      | none => rw [hf] at h; simp at h
      | some j =>
        rw [hf] at h
        obtain rfl : j + 1 = k := by simpa using h
        obtain ⟨d, h1, h2, h3⟩ := ih hf
        exact ⟨d, by simpa using h1, h2, by simp; omega⟩
theorem wout_len (l : List Dn) (s : ByteArray) : (wout l s).length ≤ l.length := List.length_filter_le _ _
theorem wout_mem {l : List Dn} {s : ByteArray} {d : Dn} (h : d ∈ wout l s) : d ∈ l ∧ ¬ d.nm = s := by
  unfold wout at h
  rw [List.mem_filter] at h
  exact ⟨h.1, by simpa using h.2⟩
theorem turnD_len (l : List Dn) (t : Tn) : (turnD l t).length ≤ l.length + 1 := by
  have h1 := wout_len l t.nm
  have h2 := wout_len (wout l t.nm) t.to
  unfold turnD
  split
  · simp; omega
  · split
    · split
      · omega
      · split
        · omega
        · simp; omega
    · omega
theorem turnsD_len (ts : List Tn) : ∀ l : List Dn, (turnsD l ts).length ≤ l.length + ts.length := by
  induction ts with
  | nil => intro l; simp [turnsD]
  | cons t r ih =>
    intro l
    have h1 := ih (turnD l t)
    have h2 := turnD_len l t
    unfold turnsD at h1 ⊢
    rw [List.foldl_cons]
    simp
    omega
/-- File numbers within. -/
def FilesIn (m : Nat) (l : List Dn) : Prop := ∀ d ∈ l, d.f < m
theorem fileD_in {l : List Dn} {m : Nat} (h : FilesIn m l) {s : ByteArray} {k : Nat} (hk : fileD l s = some k) : k < m := by
  unfold fileD at hk
  rw [Option.bind_eq_some_iff] at hk
  obtain ⟨j, _, h2⟩ := hk
  rw [Option.map_eq_some_iff] at h2
  obtain ⟨d, h3, rfl⟩ := h2
  exact h d (List.mem_of_getElem? h3)
theorem FilesIn.wout {l : List Dn} {m : Nat} (h : FilesIn m l) (s : ByteArray) : FilesIn m (wout l s) := fun d hd => h d (wout_mem hd).1
theorem FilesIn.app {l r : List Dn} {m : Nat} (h : FilesIn m l) (k : FilesIn m r) : FilesIn m (l ++ r) := fun d hd => (List.mem_append.1 hd).elim (h d) (k d)
theorem FilesIn.one {m : Nat} {s : ByteArray} {k : Nat} (h : k < m) : FilesIn m [⟨s, k⟩] := fun d hd => by
  obtain rfl := List.mem_singleton.1 hd
  exact h
theorem FilesIn.turn {l : List Dn} {m : Nat} {t : Tn} (h : FilesIn m l) (ht : t.k = 0 → t.f < m) : FilesIn m (turnD l t) := by
  unfold turnD
  split
  · exact (h.wout _).app (FilesIn.one (ht (by assumption)))
  · split
    · split
      · exact h
      · rename_i hf
        split
        · exact h
        · exact ((h.wout _).wout _).app (FilesIn.one (fileD_in h hf))
    · exact h.wout _
theorem FilesIn.turns {ts : List Tn} {m : Nat} (ht : ∀ t ∈ ts, t.k = 0 → t.f < m) : ∀ {l : List Dn}, FilesIn m l → FilesIn m (turnsD l ts) := by
  induction ts with
  | nil => intro l h; exact h
  | cons t r ih =>
    intro l h
    unfold turnsD
    rw [List.foldl_cons]
    exact ih (fun x hx => ht x (by simp [hx])) (h.turn (ht t (by simp)))
/-- As a file system may be: numbers within, cuts within, bytes are bytes. -/
structure GoodV (F : Fs) : Prop where
  sure : FilesIn F.files.length F.sure
  turns : ∀ t ∈ F.turns, t.k ≤ 2 ∧ (t.k = 0 → t.f < F.files.length)
  cuts : ∀ x ∈ F.files, okUs x.sure x.us
  byte : ∀ x ∈ F.files, (∀ z ∈ x.sure, 0 ≤ z ∧ z ≤ 255) ∧ ∀ u ∈ x.us, (0 ≤ u.b ∧ u.b ≤ 255)
  aft : 0 ≤ F.after ∧ F.after ≤ 9223372036854775807
  knd : F.kind = 0 ∨ F.kind = 14 ∨ F.kind = 15
theorem GoodV.dir {F : Fs} (h : GoodV F) : FilesIn F.files.length (dirF F) := FilesIn.turns (fun t ht => (h.turns t ht).2) h.sure
theorem GoodV.file {F : Fs} (h : GoodV F) {s : ByteArray} {k : Nat} (hk : fileF F s = some k) : k < F.files.length := fileD_in h.dir hk
theorem good0 : GoodV fs0 := ⟨fun d hd => by simp [fs0] at hd, fun t ht => by simp [fs0] at ht, fun x hx => by simp [fs0] at hx, fun x hx => by simp [fs0] at hx, ⟨by decide, by decide⟩, Or.inl rfl⟩
theorem callF_cases (F : Fs) : (F.dark = true ∧ callF F = ({ F with n := F.n + 1 }, some 15)) ∨ (F.dark = false ∧ F.armed = false ∧ callF F = ({ F with n := F.n + 1 }, none)) ∨ (F.dark = false ∧ F.armed = true ∧ 0 < F.after ∧ callF F = ({ F with n := F.n + 1, after := F.after - 1 }, none)) ∨ (F.dark = false ∧ F.armed = true ∧ ¬ 0 < F.after ∧ F.kind = 0 ∧ callF F = ({ F with n := F.n + 1, armed := false, dark := true }, some 15)) ∨ (F.dark = false ∧ F.armed = true ∧ ¬ 0 < F.after ∧ ¬ F.kind = 0 ∧ callF F = ({ F with n := F.n + 1, armed := false }, some F.kind)) := by
  unfold callF
  cases hd : F.dark with
  | true => left; simp
  | false =>
    right
    cases ha : F.armed with
    | false => left; simp
    | true =>
      right
      by_cases h : 0 < F.after
      · left; simp [h]
      · right
        by_cases hk : F.kind = 0
        · left; simp [h, hk]
        · right; simp [h, hk]
/-- Its lists stay. -/
theorem callF_same (F : Fs) : (callF F).1.files = F.files ∧ (callF F).1.sure = F.sure ∧ (callF F).1.turns = F.turns ∧ (callF F).1.n = F.n + 1 := by
  rcases callF_cases F with ⟨_, h⟩ | ⟨_, _, h⟩ | ⟨_, _, _, h⟩ | ⟨_, _, _, _, h⟩ | ⟨_, _, _, _, h⟩ <;> rw [h] <;> exact ⟨rfl, rfl, rfl, rfl⟩
theorem GoodV.like {F G : Fs} (h : GoodV F) (e1 : G.files = F.files) (e2 : G.sure = F.sure) (e3 : G.turns = F.turns) (ha : 0 ≤ G.after ∧ G.after ≤ 9223372036854775807) (hk : G.kind = 0 ∨ G.kind = 14 ∨ G.kind = 15) : GoodV G :=
  ⟨by rw [e1, e2]; exact h.sure, by rw [e1, e3]; exact h.turns, by rw [e1]; exact h.cuts, by rw [e1]; exact h.byte, ha, hk⟩
theorem GoodV.call {F : Fs} (h : GoodV F) : GoodV (callF F).1 := by
  obtain ⟨e1, e2, e3, -⟩ := callF_same F
  refine h.like e1 e2 e3 ?_ ?_
  · have := h.aft
    rcases callF_cases F with ⟨_, h⟩ | ⟨_, _, h⟩ | ⟨_, _, q, h⟩ | ⟨_, _, _, _, h⟩ | ⟨_, _, _, _, h⟩ <;> rw [h] <;> dsimp only <;> omega
  · have := h.knd
    rcases callF_cases F with ⟨_, h⟩ | ⟨_, _, h⟩ | ⟨_, _, q, h⟩ | ⟨_, _, _, _, h⟩ | ⟨_, _, _, _, h⟩ <;> rw [h] <;> exact this
/-- No more than so many of each. -/
structure Lim (m : Nat) (F : Fs) : Prop where
  files : F.files.length ≤ m
  sure : F.sure.length ≤ m
  turns : F.turns.length ≤ m
  each : ∀ x ∈ F.files, x.sure.length ≤ m ∧ x.us.length ≤ m
  n : 0 ≤ F.n ∧ F.n ≤ m
theorem Lim.mono {m m' : Nat} {F : Fs} (h : Lim m F) (k : m ≤ m') : Lim m' F := ⟨by have := h.files; omega, by have := h.sure; omega, by have := h.turns; omega, fun x hx => by have := h.each x hx; omega, by have := h.n; omega⟩
theorem unB_len (b : List Int) (u : Un) : (unB b u).length ≤ b.length + 1 := by
  unfold unB
  split
  · rw [List.length_take]; omega
  · simp
theorem unsB_len (us : List Un) : ∀ b : List Int, (unsB b us).length ≤ b.length + us.length := by
  induction us with
  | nil => intro b; simp [unsB]
  | cons u t ih =>
    intro b
    have h1 := ih (unB b u)
    have h2 := unB_len b u
    unfold unsB at h1 ⊢
    rw [List.foldl_cons]
    simp
    omega
theorem okUs_app (us vs : List Un) : ∀ b : List Int, okUs b (us ++ vs) ↔ okUs b us ∧ okUs (unsB b us) vs := by
  induction us with
  | nil => intro b; simp [okUs, unsB]
  | cons u t ih =>
    intro b
    simp only [List.cons_append, okUs, ih, unsB, List.foldl_cons]
    exact and_assoc.symm
theorem okUs_take (us : List Un) (b : List Int) (n : Nat) (h : okUs b us) : okUs b (us.take n) := by
  rw [← List.take_append_drop n us, okUs_app] at h
  exact h.1
theorem okUs_more (l : List Int) : ∀ b : List Int, okUs b (moreU l) := by
  induction l with
  | nil => intro b; trivial
  | cons x t ih => intro b; exact ⟨fun h => by simp at h, ih _⟩
theorem unsB_more (l : List Int) : ∀ b : List Int, unsB b (moreU l) = b ++ l := by
  induction l with
  | nil => intro b; simp [unsB, moreU]
  | cons x t ih =>
    intro b
    have := ih (b ++ [x])
    unfold unsB moreU at this ⊢
    rw [List.map_cons, List.foldl_cons]
    unfold unB at this ⊢
    simp at this ⊢
    exact this
theorem unsB_app (b : List Int) (us vs : List Un) : unsB b (us ++ vs) = unsB (unsB b us) vs := by unfold unsB; rw [List.foldl_append]
theorem atF_mem {F : Fs} {k : Nat} (hk : k < F.files.length) : atF F k ∈ F.files := by
  unfold atF
  rw [List.getD_eq_getElem?_getD, List.getElem?_eq_getElem hk]
  exact List.getElem_mem hk
theorem GoodV.more {G : Fs} (h : GoodV G) {k : Nat} (hk : k < G.files.length) {u : Un} (hb : 0 ≤ u.b ∧ u.b ≤ 255) (hc : u.cut = true → 0 ≤ u.n ∧ u.n ≤ (bytF (atF G k)).length) : GoodV (moreF G k [u]) := by
  have hl : (moreF G k [u]).files.length = G.files.length := by unfold moreF; simp
  have hm : ∀ x ∈ (moreF G k [u]).files, x ∈ G.files ∨ x = ⟨(atF G k).sure, (atF G k).us ++ [u]⟩ := fun x hx => by
    unfold moreF at hx
    rcases List.mem_or_eq_of_mem_set hx with e | e
    · exact Or.inl e
    · exact Or.inr e
  have ha := atF_mem hk
  refine ⟨by rw [hl]; exact h.sure, by rw [hl]; exact h.turns, fun x hx => ?_, fun x hx => ?_, h.aft, h.knd⟩
  · rcases hm x hx with e | rfl
    · exact h.cuts x e
    · rw [okUs_app]
      exact ⟨h.cuts _ ha, hc, trivial⟩
  · rcases hm x hx with e | rfl
    · exact h.byte x e
    · refine ⟨(h.byte _ ha).1, fun v hv => ?_⟩
      rcases List.mem_append.1 hv with e | e
      · exact (h.byte _ ha).2 v e
      · obtain rfl := List.mem_singleton.1 e
        exact hb
theorem GoodV.synced {G : Fs} (h : GoodV G) {k : Nat} (hk : k < G.files.length) (hb : ∀ z ∈ bytF (atF G k), 0 ≤ z ∧ z ≤ 255) : GoodV { G with files := G.files.set k ⟨bytF (atF G k), []⟩ } := by
  have hm : ∀ x ∈ G.files.set k ⟨bytF (atF G k), []⟩, x ∈ G.files ∨ x = ⟨bytF (atF G k), []⟩ := fun x hx => by
    rcases List.mem_or_eq_of_mem_set hx with e | e
    · exact Or.inl e
    · exact Or.inr e
  refine ⟨by dsimp only; rw [List.length_set]; exact h.sure, by dsimp only; rw [List.length_set]; exact h.turns, fun x hx => ?_, fun x hx => ?_, h.aft, h.knd⟩
  · rcases hm x hx with e | rfl
    · exact h.cuts x e
    · trivial
  · rcases hm x hx with e | rfl
    · exact h.byte x e
    · exact ⟨hb, fun u hu => by simp at hu⟩
theorem unsB_byte {us : List Un} : ∀ {b : List Int}, (∀ z ∈ b, 0 ≤ z ∧ z ≤ 255) → (∀ u ∈ us, 0 ≤ u.b ∧ u.b ≤ 255) → ∀ z ∈ unsB b us, 0 ≤ z ∧ z ≤ 255 := by
  induction us with
  | nil => intro b h _; exact h
  | cons u t ih =>
    intro b h k
    have e : unsB b (u :: t) = unsB (unB b u) t := rfl
    rw [e]
    refine ih (fun z hz => ?_) (fun x hx => k x (by simp [hx]))
    unfold unB at hz
    split at hz
    · exact h z (List.mem_of_mem_take hz)
    · rcases List.mem_append.1 hz with q | q
      · exact h z q
      · obtain rfl := List.mem_singleton.1 q
        exact k u (by simp)
theorem GoodV.sync {G : Fs} (h : GoodV G) : GoodV { G with sure := dirF G, turns := [] } := ⟨h.dir, fun t ht => by simp at ht, h.cuts, h.byte, h.aft, h.knd⟩
theorem moreF_at {F : Fs} {k : Nat} (hk : k < F.files.length) (us : List Un) : atF (moreF F k us) k = ⟨(atF F k).sure, (atF F k).us ++ us⟩ := by
  unfold moreF
  conv => lhs; unfold atF
  dsimp only
  rw [List.getD_eq_getElem?_getD, List.getElem?_set_self hk]
  rfl
theorem moreF_len (F : Fs) (k : Nat) (us : List Un) : (moreF F k us).files.length = F.files.length := by unfold moreF; simp
theorem moreF_more {F : Fs} {k : Nat} (hk : k < F.files.length) (us vs : List Un) : moreF (moreF F k us) k vs = moreF F k (us ++ vs) := by
  have e := moreF_at hk us
  have e2 : moreF (moreF F k us) k vs = { moreF F k us with files := (moreF F k us).files.set k ⟨(atF (moreF F k us) k).sure, (atF (moreF F k us) k).us ++ vs⟩ } := rfl
  rw [e2, e]
  unfold moreF
  dsimp only
  rw [List.set_set, List.append_assoc]
/-- Units more. -/
theorem GoodV.mores {G : Fs} (h : GoodV G) {k : Nat} (hk : k < G.files.length) {us : List Un} (hb : ∀ u ∈ us, 0 ≤ u.b ∧ u.b ≤ 255) (hc : okUs (bytF (atF G k)) us) : GoodV (moreF G k us) := by
  have hl := moreF_len G k us
  have hm : ∀ x ∈ (moreF G k us).files, x ∈ G.files ∨ x = ⟨(atF G k).sure, (atF G k).us ++ us⟩ := fun x hx => by
    unfold moreF at hx
    rcases List.mem_or_eq_of_mem_set hx with e | e
    · exact Or.inl e
    · exact Or.inr e
  have ha := atF_mem hk
  refine ⟨by rw [hl]; exact h.sure, by rw [hl]; exact h.turns, fun x hx => ?_, fun x hx => ?_, h.aft, h.knd⟩
  · rcases hm x hx with e | rfl
    · exact h.cuts x e
    · rw [okUs_app]
      exact ⟨h.cuts _ ha, hc⟩
  · rcases hm x hx with e | rfl
    · exact h.byte x e
    · refine ⟨(h.byte _ ha).1, fun v hv => ?_⟩
      rcases List.mem_append.1 hv with e | e
      · exact (h.byte _ ha).2 v e
      · exact hb v e
end Go.Proofs.Ythlkmjaflomflaa
