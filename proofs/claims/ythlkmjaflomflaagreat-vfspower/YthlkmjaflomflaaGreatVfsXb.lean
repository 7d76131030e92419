/-
  Files that may lose what was not made certain, in plain words: the document's file system as lists. No function is named. Pending units kept as what takes them back; names that may be, each once; turns that find what they move; names in the order of their files: in plain words. No function is named. The names that are told rise, each once; how many they are: in plain words. No function is named. How great a file system may grow by a call: in plain words. No function is named.
  Conditions: as each theorem says.
-/
import Derived.Test.YthlkmjaflomflaaGreatVfsXa
namespace Go.Proofs.YthlkmjaflomflaaGreat
set_option linter.unusedVariables false

/-- A unit: a byte behind, or a cut. -/
structure Un where
  b : Int
  cut : Bool
  n : Int
/-- A file: what is certain, and units behind it. -/
structure Fi where
  sure : List Int
  us : List Un
/-- A name and its file's number. -/
structure Dn where
  nm : ByteArray
  f : Nat
/-- A turn: 0 a name is a file's, 1 one goes over to another, 2 it is gone. -/
structure Tn where
  k : Nat
  nm : ByteArray
  to : ByteArray
  f : Nat
/-- A file system. -/
structure Fs where
  files : List Fi
  sure : List Dn
  turns : List Tn
  n : Int
  armed : Bool
  kind : Int
  after : Int
  dark : Bool
/-- None. -/
def fs0 : Fs := ⟨[], [], [], 0, false, 0, 0, false⟩
/-- The place of a name. -/
def findD : List Dn → ByteArray → Option Nat
  | [], _ => none
  | d :: t, s => if d.nm = s then some 0 else (findD t s).map (· + 1)
/-- A list without a name. -/
def wout (l : List Dn) (s : ByteArray) : List Dn := l.filter fun d => !decide (d.nm = s)
/-- A name's file. -/
def fileD (l : List Dn) (s : ByteArray) : Option Nat := (findD l s).bind fun k => (l[k]?).map (·.f)
/-- Names behind a turn. -/
def turnD (l : List Dn) (t : Tn) : List Dn :=
  if t.k = 0 then wout l t.nm ++ [⟨t.nm, t.f⟩]
  else if t.k = 1 then match fileD l t.nm with
    | none => l
    | some f => if t.nm = t.to then l else wout (wout l t.nm) t.to ++ [⟨t.to, f⟩]
  else wout l t.nm
/-- Names behind so many turns. -/
def turnsD (l : List Dn) (ts : List Tn) : List Dn := ts.foldl turnD l
def dirF (F : Fs) : List Dn := turnsD F.sure F.turns
/-- Bytes behind a unit. -/
def unB (b : List Int) (u : Un) : List Int := if u.cut = true then b.take u.n.toNat else b ++ [u.b]
def unsB (b : List Int) (us : List Un) : List Int := us.foldl unB b
/-- A file's bytes. -/
def bytF (x : Fi) : List Int := unsB x.sure x.us
/-- Each cut is within what there is. -/
def okUs : List Int → List Un → Prop
  | _, [] => True
  | b, u :: t => (u.cut = true → 0 ≤ u.n ∧ u.n ≤ b.length) ∧ okUs (unB b u) t
def emF : Fi := ⟨[], []⟩
def fileF (F : Fs) (s : ByteArray) : Option Nat := fileD (dirF F) s
def atF (F : Fs) (k : Nat) : Fi := F.files.getD k emF
/-- A name's bytes. -/
def readF (F : Fs) (s : ByteArray) : Option (List Int) := (fileF F s).map fun k => bytF (atF F k)
/-- The place of a name, looked for from behind. -/
def backN (l : List ByteArray) (s : ByteArray) : Nat → Nat
  | 0 => 0
  | k + 1 => if Op.bytesLess s.toList (l.getD k ByteArray.empty).toList = true then backN l s k else k + 1
theorem backN_le (l : List ByteArray) (s : ByteArray) : ∀ k, backN l s k ≤ k
  | 0 => Nat.le_refl _
  | k + 1 => by
    unfold backN
    split
    · exact Nat.le_trans (backN_le l s k) (by omega)
    · exact Nat.le_refl _
/-- A name in its place. -/
def insN (l : List ByteArray) (s : ByteArray) : List ByteArray := l.take (backN l s l.length) ++ s :: l.drop (backN l s l.length)
def listD (l : List Dn) : List ByteArray := l.foldl (fun m d => insN m d.nm) []
def listF (F : Fs) : List ByteArray := listD (dirF F)
/-- May a name be? -/
def mayN (s : ByteArray) : Bool := decide (1 ≤ s.size) && decide (s.size ≤ 64)
/-- A call begins: what it answers, if it fails. -/
def callF (F : Fs) : Fs × Option Int :=
  if F.dark = true then ({ F with n := F.n + 1 }, some 15)
  else if F.armed = false then ({ F with n := F.n + 1 }, none)
  else if 0 < F.after then ({ F with n := F.n + 1, after := F.after - 1 }, none)
  else if F.kind = 0 then ({ F with n := F.n + 1, armed := false, dark := true }, some 15)
  else ({ F with n := F.n + 1, armed := false }, some F.kind)
/-- Bytes behind a file's. -/
def moreU (b : List Int) : List Un := b.map fun x => ⟨x, false, 0⟩
def moreF (F : Fs) (k : Nat) (us : List Un) : Fs := { F with files := F.files.set k ⟨(atF F k).sure, (atF F k).us ++ us⟩ }
def createF (F : Fs) (s : ByteArray) : Fs × Int := match callF F with
  | (G, some e) => (G, e)
  | (G, none) => if mayN s = false then (G, 1) else if (findD (dirF G) s).isNone = true ∧ 1024 ≤ (dirF G).length then (G, 2)
    else ({ G with files := G.files ++ [emF], turns := G.turns ++ [⟨0, s, ByteArray.empty, G.files.length⟩] }, 0)
def appendF (F : Fs) (s : ByteArray) (b : List Int) : Fs × Int := match callF F with
  | (G, some e) => match fileF G s with
    | none => (G, e)
    | some k => if F.dark = false ∧ (bytF (atF G k)).length + b.length / 2 ≤ 1073741824 then (moreF G k (moreU (b.take (b.length / 2))), e) else (G, e)
  | (G, none) => if mayN s = false then (G, 1) else match fileF G s with
    | none => (G, 3)
    | some k => if 1073741824 < (bytF (atF G k)).length + b.length then (G, 2) else (moreF G k (moreU b), 0)
def cutF (F : Fs) (s : ByteArray) (z : Int) : Fs × Int := match callF F with
  | (G, some e) => (G, e)
  | (G, none) => if mayN s = false then (G, 1) else match fileF G s with
    | none => (G, 3)
    | some k => if z < 0 ∨ (bytF (atF G k)).length < z then (G, 1) else (moreF G k [⟨0, true, z⟩], 0)
def syncF (F : Fs) (s : ByteArray) : Fs × Int := match callF F with
  | (G, some e) => (G, e)
  | (G, none) => if mayN s = false then (G, 1) else match fileF G s with
    | none => (G, 3)
    | some k => ({ G with files := G.files.set k ⟨bytF (atF G k), []⟩ }, 0)
def renameF (F : Fs) (s t : ByteArray) : Fs × Int := match callF F with
  | (G, some e) => (G, e)
  | (G, none) => if mayN s = false ∨ mayN t = false then (G, 1) else match fileF G s with
    | none => (G, 3)
    | some _ => ({ G with turns := G.turns ++ [⟨1, s, t, 0⟩] }, 0)
def removeF (F : Fs) (s : ByteArray) : Fs × Int := match callF F with
  | (G, some e) => (G, e)
  | (G, none) => if mayN s = false then (G, 1) else match fileF G s with
    | none => (G, 3)
    | some _ => ({ G with turns := G.turns ++ [⟨2, s, ByteArray.empty, 0⟩] }, 0)
def syncdirF (F : Fs) : Fs × Int := match callF F with
  | (G, some e) => (G, e)
  | (G, none) => ({ G with sure := dirF G, turns := [] }, 0)
def armF (F : Fs) (k a : Int) : Fs × Int := if (k ≠ 0 ∧ k ≠ 14 ∧ k ≠ 15) ∨ a < 0 then (F, 1) else ({ F with armed := true, kind := k, after := a }, 0)
/-- How many of so many, cut to from 0 to their number. -/
def cutN (p : Int) : Nat := p.toNat
/-- The pick of a file. -/
def pickF (ps : List Int) (i : Nat) : Int := if ps.length = 0 then 0 else ps.getD (i % ps.length) 0
/-- Files with names, in their order. -/
def keptF (d : List Dn) (m : Nat) : List Dn := (List.range m).flatMap fun k => d.filter fun x => decide (x.f = k)
def crashF (F : Fs) (ops : Int) (ps : List Int) : Fs :=
  let d := keptF (turnsD F.sure (F.turns.take (cutN ops))) F.files.length
  { fs0 with files := d.mapIdx fun i x => ⟨unsB (atF F x.f).sure ((atF F x.f).us.take (cutN (pickF ps i))), []⟩, sure := d.mapIdx fun i x => ⟨x.nm, i⟩ }
def laidF (ns : List ByteArray) (ds : List (List Int)) : Option Fs × Int :=
  if ns.length ≠ ds.length then (none, 1)
  else if ¬ ((∀ s ∈ ns, mayN s = true) ∧ ns.Nodup) then (none, 1)
  else if 1024 < ns.length ∨ ∃ b ∈ ds, 1073741824 < b.length then (none, 2)
  else (some { fs0 with files := ds.map fun b => ⟨b, []⟩, sure := ns.mapIdx fun i s => ⟨s, i⟩ }, 0)

theorem findD_none {l : List Dn} {s : ByteArray} (h : ∀ d ∈ l, ¬ d.nm = s) : findD l s = none := by
  induction l with
  | nil => rfl
  | cons d t ih =>
    unfold findD
    rw [if_neg (h d (by simp)), ih (fun x hx => h x (by simp [hx]))]
    rfl
theorem findD_at {l : List Dn} {s : ByteArray} {k : Nat} {d : Dn} (hk : l[k]? = some d) (he : d.nm = s) (hn : ∀ j x, j < k → l[j]? = some x → ¬ x.nm = s) : findD l s = some k := by
  induction l generalizing k with
  | nil => simp at hk
  | cons y t ih =>
    unfold findD
    cases k with
    | zero =>
      simp at hk
      subst hk
      rw [if_pos he]
    | succ k =>
      rw [if_neg (hn 0 y (by omega) rfl), ih (k := k) (by simpa using hk) (fun j x hj hx => hn (j + 1) x (by omega) (by simpa using hx))]
      rfl
theorem findD_some {l : List Dn} {s : ByteArray} {k : Nat} (h : findD l s = some k) : ∃ d, l[k]? = some d ∧ d.nm = s ∧ k < l.length := by
  induction l generalizing k with
  | nil => simp [findD] at h
  | cons y t ih =>
    unfold findD at h
    split at h
    · rename_i hy
      obtain rfl : 0 = k := by simpa using h
      exact ⟨y, rfl, hy, by simp⟩
    · cases hf : findD t s with
      | none => rw [hf] at h; simp at h
      | some j =>
        rw [hf] at h
        obtain rfl : j + 1 = k := by simpa using h
        obtain ⟨d, h1, h2, h3⟩ := ih hf
        exact ⟨d, by simpa using h1, h2, by simp; omega⟩
theorem wout_len (l : List Dn) (s : ByteArray) : (wout l s).length ≤ l.length := List.length_filter_le _ _
theorem wout_mem {l : List Dn} {s : ByteArray} {d : Dn} (h : d ∈ wout l s) : d ∈ l ∧ ¬ d.nm = s := by
  unfold wout at h
  rw [List.mem_filter] at h
  exact ⟨h.1, by simpa using h.2⟩
theorem turnD_len (l : List Dn) (t : Tn) : (turnD l t).length ≤ l.length + 1 := by
  have h1 := wout_len l t.nm
  have h2 := wout_len (wout l t.nm) t.to
  unfold turnD
  split
  · simp; omega
  · split
    · split
      · omega
      · split
        · omega
        · simp; omega
    · omega
theorem turnsD_len (ts : List Tn) : ∀ l : List Dn, (turnsD l ts).length ≤ l.length + ts.length := by
  induction ts with
  | nil => intro l; simp [turnsD]
  | cons t r ih =>
    intro l
    have h1 := ih (turnD l t)
    have h2 := turnD_len l t
    unfold turnsD at h1 ⊢
    rw [List.foldl_cons]
    simp
    omega
/-- File numbers within. -/
def FilesIn (m : Nat) (l : List Dn) : Prop := ∀ d ∈ l, d.f < m
theorem fileD_in {l : List Dn} {m : Nat} (h : FilesIn m l) {s : ByteArray} {k : Nat} (hk : fileD l s = some k) : k < m := by
  unfold fileD at hk
  rw [Option.bind_eq_some_iff] at hk
  obtain ⟨j, _, h2⟩ := hk
  rw [Option.map_eq_some_iff] at h2
  obtain ⟨d, h3, rfl⟩ := h2
  exact h d (List.mem_of_getElem? h3)
theorem FilesIn.wout {l : List Dn} {m : Nat} (h : FilesIn m l) (s : ByteArray) : FilesIn m (wout l s) := fun d hd => h d (wout_mem hd).1
theorem FilesIn.app {l r : List Dn} {m : Nat} (h : FilesIn m l) (k : FilesIn m r) : FilesIn m (l ++ r) := fun d hd => (List.mem_append.1 hd).elim (h d) (k d)
theorem FilesIn.one {m : Nat} {s : ByteArray} {k : Nat} (h : k < m) : FilesIn m [⟨s, k⟩] := fun d hd => by
  obtain rfl := List.mem_singleton.1 hd
  exact h
theorem FilesIn.turn {l : List Dn} {m : Nat} {t : Tn} (h : FilesIn m l) (ht : t.k = 0 → t.f < m) : FilesIn m (turnD l t) := by
  unfold turnD
  split
  · exact (h.wout _).app (FilesIn.one (ht (by assumption)))
  · split
    · split
      · exact h
      · rename_i hf
        split
        · exact h
        · exact ((h.wout _).wout _).app (FilesIn.one (fileD_in h hf))
    · exact h.wout _
theorem FilesIn.turns {ts : List Tn} {m : Nat} (ht : ∀ t ∈ ts, t.k = 0 → t.f < m) : ∀ {l : List Dn}, FilesIn m l → FilesIn m (turnsD l ts) := by
  induction ts with
  | nil => intro l h; exact h
  | cons t r ih =>
    intro l h
    unfold turnsD
    rw [List.foldl_cons]
    exact ih (fun x hx => ht x (by simp [hx])) (h.turn (ht t (by simp)))
/-- As a file system may be: numbers within, cuts within, bytes are bytes. -/
structure GoodV (F : Fs) : Prop where
  sure : FilesIn F.files.length F.sure
  turns : ∀ t ∈ F.turns, t.k ≤ 2 ∧ (t.k = 0 → t.f < F.files.length)
  cuts : ∀ x ∈ F.files, okUs x.sure x.us
  byte : ∀ x ∈ F.files, (∀ z ∈ x.sure, 0 ≤ z ∧ z ≤ 255) ∧ ∀ u ∈ x.us, (0 ≤ u.b ∧ u.b ≤ 255)
  aft : 0 ≤ F.after ∧ F.after ≤ 9223372036854775807
  knd : F.kind = 0 ∨ F.kind = 14 ∨ F.kind = 15
theorem GoodV.dir {F : Fs} (h : GoodV F) : FilesIn F.files.length (dirF F) := FilesIn.turns (fun t ht => (h.turns t ht).2) h.sure
theorem GoodV.file {F : Fs} (h : GoodV F) {s : ByteArray} {k : Nat} (hk : fileF F s = some k) : k < F.files.length := fileD_in h.dir hk
theorem good0 : GoodV fs0 := ⟨fun d hd => by simp [fs0] at hd, fun t ht => by simp [fs0] at ht, fun x hx => by simp [fs0] at hx, fun x hx => by simp [fs0] at hx, ⟨by decide, by decide⟩, Or.inl rfl⟩
theorem callF_cases (F : Fs) : (F.dark = true ∧ callF F = ({ F with n := F.n + 1 }, some 15)) ∨ (F.dark = false ∧ F.armed = false ∧ callF F = ({ F with n := F.n + 1 }, none)) ∨ (F.dark = false ∧ F.armed = true ∧ 0 < F.after ∧ callF F = ({ F with n := F.n + 1, after := F.after - 1 }, none)) ∨ (F.dark = false ∧ F.armed = true ∧ ¬ 0 < F.after ∧ F.kind = 0 ∧ callF F = ({ F with n := F.n + 1, armed := false, dark := true }, some 15)) ∨ (F.dark = false ∧ F.armed = true ∧ ¬ 0 < F.after ∧ ¬ F.kind = 0 ∧ callF F = ({ F with n := F.n + 1, armed := false }, some F.kind)) := by
  unfold callF
  cases hd : F.dark with
  | true => left; simp
  | false =>
    right
    cases ha : F.armed with
    | false => left; simp
    | true =>
      right
      by_cases h : 0 < F.after
      · left; simp [h]
      · right
        by_cases hk : F.kind = 0
        · left; simp [h, hk]
        · right; simp [h, hk]
/-- Its lists stay. -/
theorem callF_same (F : Fs) : (callF F).1.files = F.files ∧ (callF F).1.sure = F.sure ∧ (callF F).1.turns = F.turns ∧ (callF F).1.n = F.n + 1 := by
  rcases callF_cases F with ⟨_, h⟩ | ⟨_, _, h⟩ | ⟨_, _, _, h⟩ | ⟨_, _, _, _, h⟩ | ⟨_, _, _, _, h⟩ <;> rw [h] <;> exact ⟨rfl, rfl, rfl, rfl⟩
theorem GoodV.like {F G : Fs} (h : GoodV F) (e1 : G.files = F.files) (e2 : G.sure = F.sure) (e3 : G.turns = F.turns) (ha : 0 ≤ G.after ∧ G.after ≤ 9223372036854775807) (hk : G.kind = 0 ∨ G.kind = 14 ∨ G.kind = 15) : GoodV G :=
  ⟨by rw [e1, e2]; exact h.sure, by rw [e1, e3]; exact h.turns, by rw [e1]; exact h.cuts, by rw [e1]; exact h.byte, ha, hk⟩
theorem GoodV.call {F : Fs} (h : GoodV F) : GoodV (callF F).1 := by
  obtain ⟨e1, e2, e3, -⟩ := callF_same F
  refine h.like e1 e2 e3 ?_ ?_
  · have := h.aft
    rcases callF_cases F with ⟨_, h⟩ | ⟨_, _, h⟩ | ⟨_, _, q, h⟩ | ⟨_, _, _, _, h⟩ | ⟨_, _, _, _, h⟩ <;> rw [h] <;> dsimp only <;> omega
  · have := h.knd
    rcases callF_cases F with ⟨_, h⟩ | ⟨_, _, h⟩ | ⟨_, _, q, h⟩ | ⟨_, _, _, _, h⟩ | ⟨_, _, _, _, h⟩ <;> rw [h] <;> exact this
/-- No more than so many of each. -/
structure Lim (m : Nat) (F : Fs) : Prop where
  files : F.files.length ≤ m
  sure : F.sure.length ≤ m
  turns : F.turns.length ≤ m
  each : ∀ x ∈ F.files, x.sure.length ≤ m ∧ x.us.length ≤ m
  n : 0 ≤ F.n ∧ F.n ≤ m
theorem Lim.mono {m m' : Nat} {F : Fs} (h : Lim m F) (k : m ≤ m') : Lim m' F := ⟨by have := h.files; omega, by have := h.sure; omega, by have := h.turns; omega, fun x hx => by have := h.each x hx; omega, by have := h.n; omega⟩
theorem unB_len (b : List Int) (u : Un) : (unB b u).length ≤ b.length + 1 := by
  unfold unB
  split
  · rw [List.length_take]; omega
  · simp
theorem unsB_len (us : List Un) : ∀ b : List Int, (unsB b us).length ≤ b.length + us.length := by
  induction us with
  | nil => intro b; simp [unsB]
  | cons u t ih =>
    intro b
    have h1 := ih (unB b u)
    have h2 := unB_len b u
    unfold unsB at h1 ⊢
    rw [List.foldl_cons]
    simp
    omega
theorem okUs_app (us vs : List Un) : ∀ b : List Int, okUs b (us ++ vs) ↔ okUs b us ∧ okUs (unsB b us) vs := by
  induction us with
  | nil => intro b; simp [okUs, unsB]
  | cons u t ih =>
    intro b
    simp only [List.cons_append, okUs, ih, unsB, List.foldl_cons]
    exact and_assoc.symm
theorem okUs_take (us : List Un) (b : List Int) (n : Nat) (h : okUs b us) : okUs b (us.take n) := by
  rw [← List.take_append_drop n us, okUs_app] at h
  exact h.1
theorem okUs_more (l : List Int) : ∀ b : List Int, okUs b (moreU l) := by
  induction l with
  | nil => intro b; trivial
  | cons x t ih => intro b; exact ⟨fun h => by simp at h, ih _⟩
theorem unsB_more (l : List Int) : ∀ b : List Int, unsB b (moreU l) = b ++ l := by
  induction l with
  | nil => intro b; simp [unsB, moreU]
  | cons x t ih =>
    intro b
    have := ih (b ++ [x])
    unfold unsB moreU at this ⊢
    rw [List.map_cons, List.foldl_cons]
    unfold unB at this ⊢
    simp at this ⊢
    exact this
theorem unsB_app (b : List Int) (us vs : List Un) : unsB b (us ++ vs) = unsB (unsB b us) vs := by unfold unsB; rw [List.foldl_append]
theorem atF_mem {F : Fs} {k : Nat} (hk : k < F.files.length) : atF F k ∈ F.files := by
  unfold atF
  rw [List.getD_eq_getElem?_getD, List.getElem?_eq_getElem hk]
  exact List.getElem_mem hk
theorem GoodV.more {G : Fs} (h : GoodV G) {k : Nat} (hk : k < G.files.length) {u : Un} (hb : 0 ≤ u.b ∧ u.b ≤ 255) (hc : u.cut = true → 0 ≤ u.n ∧ u.n ≤ (bytF (atF G k)).length) : GoodV (moreF G k [u]) := by
  have hl : (moreF G k [u]).files.length = G.files.length := by unfold moreF; simp
  have hm : ∀ x ∈ (moreF G k [u]).files, x ∈ G.files ∨ x = ⟨(atF G k).sure, (atF G k).us ++ [u]⟩ := fun x hx => by
    unfold moreF at hx
    rcases List.mem_or_eq_of_mem_set hx with e | e
    · exact Or.inl e
    · exact Or.inr e
  have ha := atF_mem hk
  refine ⟨by rw [hl]; exact h.sure, by rw [hl]; exact h.turns, fun x hx => ?_, fun x hx => ?_, h.aft, h.knd⟩
  · rcases hm x hx with e | rfl
    · exact h.cuts x e
    · rw [okUs_app]
      exact ⟨h.cuts _ ha, hc, trivial⟩
  · rcases hm x hx with e | rfl
    · exact h.byte x e
    · refine ⟨(h.byte _ ha).1, fun v hv => ?_⟩
      rcases List.mem_append.1 hv with e | e
      · exact (h.byte _ ha).2 v e
      · obtain rfl := List.mem_singleton.1 e
        exact hb
theorem GoodV.synced {G : Fs} (h : GoodV G) {k : Nat} (hk : k < G.files.length) (hb : ∀ z ∈ bytF (atF G k), 0 ≤ z ∧ z ≤ 255) : GoodV { G with files := G.files.set k ⟨bytF (atF G k), []⟩ } := by
  have hm : ∀ x ∈ G.files.set k ⟨bytF (atF G k), []⟩, x ∈ G.files ∨ x = ⟨bytF (atF G k), []⟩ := fun x hx => by
    rcases List.mem_or_eq_of_mem_set hx with e | e
    · exact Or.inl e
    · exact Or.inr e
  refine ⟨by dsimp only; rw [List.length_set]; exact h.sure, by dsimp only; rw [List.length_set]; exact h.turns, fun x hx => ?_, fun x hx => ?_, h.aft, h.knd⟩
  · rcases hm x hx with e | rfl
    · exact h.cuts x e
    · trivial
  · rcases hm x hx with e | rfl
    · exact h.byte x e
    · exact ⟨hb, fun u hu => by simp at hu⟩
theorem unsB_byte {us : List Un} : ∀ {b : List Int}, (∀ z ∈ b, 0 ≤ z ∧ z ≤ 255) → (∀ u ∈ us, 0 ≤ u.b ∧ u.b ≤ 255) → ∀ z ∈ unsB b us, 0 ≤ z ∧ z ≤ 255 := by
  induction us with
  | nil => intro b h _; exact h
  | cons u t ih =>
    intro b h k
    have e : unsB b (u :: t) = unsB (unB b u) t := rfl
    rw [e]
    refine ih (fun z hz => ?_) (fun x hx => k x (by simp [hx]))
    unfold unB at hz
    split at hz
    · exact h z (List.mem_of_mem_take hz)
    · rcases List.mem_append.1 hz with q | q
      · exact h z q
      · obtain rfl := List.mem_singleton.1 q
        exact k u (by simp)
theorem GoodV.sync {G : Fs} (h : GoodV G) : GoodV { G with sure := dirF G, turns := [] } := ⟨h.dir, fun t ht => by simp at ht, h.cuts, h.byte, h.aft, h.knd⟩
theorem moreF_at {F : Fs} {k : Nat} (hk : k < F.files.length) (us : List Un) : atF (moreF F k us) k = ⟨(atF F k).sure, (atF F k).us ++ us⟩ := by
  unfold moreF
  conv => lhs; unfold atF
  dsimp only
  rw [List.getD_eq_getElem?_getD, List.getElem?_set_self hk]
  rfl
theorem moreF_len (F : Fs) (k : Nat) (us : List Un) : (moreF F k us).files.length = F.files.length := by unfold moreF; simp
theorem moreF_more {F : Fs} {k : Nat} (hk : k < F.files.length) (us vs : List Un) : moreF (moreF F k us) k vs = moreF F k (us ++ vs) := by
  have e := moreF_at hk us
  have e2 : moreF (moreF F k us) k vs = { moreF F k us with files := (moreF F k us).files.set k ⟨(atF (moreF F k us) k).sure, (atF (moreF F k us) k).us ++ vs⟩ } := rfl
  rw [e2, e]
  unfold moreF
  dsimp only
  rw [List.set_set, List.append_assoc]
/-- Units more. -/
theorem GoodV.mores {G : Fs} (h : GoodV G) {k : Nat} (hk : k < G.files.length) {us : List Un} (hb : ∀ u ∈ us, 0 ≤ u.b ∧ u.b ≤ 255) (hc : okUs (bytF (atF G k)) us) : GoodV (moreF G k us) := by
  have hl := moreF_len G k us
  have hm : ∀ x ∈ (moreF G k us).files, x ∈ G.files ∨ x = ⟨(atF G k).sure, (atF G k).us ++ us⟩ := fun x hx => by
    unfold moreF at hx
    rcases List.mem_or_eq_of_mem_set hx with e | e
    · exact Or.inl e
    · exact Or.inr e
  have ha := atF_mem hk
  refine ⟨by rw [hl]; exact h.sure, by rw [hl]; exact h.turns, fun x hx => ?_, fun x hx => ?_, h.aft, h.knd⟩
  · rcases hm x hx with e | rfl
    · exact h.cuts x e
    · rw [okUs_app]
      exact ⟨h.cuts _ ha, hc⟩
  · rcases hm x hx with e | rfl
    · exact h.byte x e
    · refine ⟨(h.byte _ ha).1, fun v hv => ?_⟩
      rcases List.mem_append.1 hv with e | e
      · exact (h.byte _ ha).2 v e
      · exact hb v e
end Go.Proofs.YthlkmjaflomflaaGreat

namespace Go.Proofs.YthlkmjaflomflaaGreat
set_option linter.unusedVariables false

/-- Pending units in one: so many bytes appended, or what a cut took. -/
abbrev Pu := Nat × List Int
/-- Pending units behind bytes, in such groups. -/
inductive Pd (b : List Int) : List Un → List Pu → Prop
  | nil : Pd b [] []
  | app (us : List Un) (ps : List Pu) (l : List Int) : Pd b us ps → l ≠ [] → Pd b (us ++ moreU l) (ps ++ [(l.length, [])])
  | cut (us : List Un) (ps : List Pu) (n : Nat) : Pd b us ps → n ≤ (unsB b us).length → Pd b (us ++ [⟨0, true, (n : Int)⟩]) (ps ++ [(0, (unsB b us).drop n)])
/-- How many units they are. -/
def puN (p : Pu) : Nat := if 0 < p.1 then p.1 else 1
theorem moreU_len (l : List Int) : (moreU l).length = l.length := by unfold moreU; simp
theorem moreU_app (l r : List Int) : moreU (l ++ r) = moreU l ++ moreU r := by unfold moreU; simp
theorem Pd.none {b : List Int} {us : List Un} (h : Pd b us []) : us = [] := by
  generalize hp : ([] : List Pu) = ps at h
  cases h with
  | nil => rfl
  | app us ps l h1 h2 => simp at hp
  | cut us ps n h1 h2 => simp at hp
theorem Pd.last {b : List Int} {us : List Un} {ps : List Pu} {p : Pu} (h : Pd b us (ps ++ [p])) :
    (0 < p.1 ∧ p.2 = [] ∧ ∃ us' l, us = us' ++ moreU l ∧ l.length = p.1 ∧ Pd b us' ps) ∨ (p.1 = 0 ∧ ∃ us' n, us = us' ++ [⟨0, true, (n : Int)⟩] ∧ n ≤ (unsB b us').length ∧ p.2 = (unsB b us').drop n ∧ Pd b us' ps) := by
  generalize hp : ps ++ [p] = qs at h
  cases h with
  | nil => simp at hp
  | app us ps' l h1 h2 =>
    obtain ⟨rfl, e⟩ := List.append_inj' hp rfl
    obtain rfl := List.singleton_inj.1 e
    exact Or.inl ⟨List.length_pos_iff.2 h2, rfl, us, l, rfl, rfl, h1⟩
  | cut us ps' n h1 h2 =>
    obtain ⟨rfl, e⟩ := List.append_inj' hp rfl
    obtain rfl := List.singleton_inj.1 e
    exact Or.inr ⟨rfl, us, n, rfl, h2, rfl, h1⟩
theorem Pd.sum {b : List Int} {us : List Un} {ps : List Pu} (h : Pd b us ps) : (ps.map puN).sum = us.length := by
  induction h with
  | nil => rfl
  | app us ps l h1 h2 ih =>
    have := List.length_pos_iff.2 h2
    simp [puN, ih, moreU_len, this]
  | cut us ps n h1 h2 ih => simp [puN, ih]
theorem Pd.len {b : List Int} {us : List Un} {ps : List Pu} (h : Pd b us ps) : ps.length ≤ us.length := by
  induction h with
  | nil => exact Nat.le_refl _
  | app us ps l h1 h2 ih =>
    have := List.length_pos_iff.2 h2
    simp [moreU_len]
    omega
  | cut us ps n h1 h2 ih => simp; exact ih
theorem Pd.more {b : List Int} {us : List Un} {ps : List Pu} {p : Pu} (h : Pd b us (ps ++ [p])) (hp : 0 < p.1) (l : List Int) : Pd b (us ++ moreU l) (ps ++ [(p.1 + l.length, p.2)]) := by
  rcases h.last with ⟨_, e2, us', l', rfl, e, h1⟩ | ⟨e, _⟩
  · have h2 : l' ≠ [] := by intro q; subst q; simp at e; omega
    have := Pd.app us' ps (l' ++ l) h1 (by simp [h2])
    rw [moreU_app, ← List.append_assoc, List.length_append, e] at this
    rw [e2]
    exact this
  · omega
/-- Units are taken back: so many groups are left, so many units to go, these bytes. -/
def BkJ (b : List Int) (us : List Un) (ps : List Pu) (q : Nat) (i : Nat) (back : Int) (d : List Int) : Prop :=
  (back ≤ 0 ∧ d = unsB b (us.take q)) ∨ (0 < back ∧ ∃ us' vs, us = us' ++ vs ∧ Pd b us' (ps.take i) ∧ back = (us'.length : Int) - q ∧ d = unsB b us')
theorem bkJ_start {b : List Int} {us : List Un} {ps : List Pu} (h : Pd b us ps) (q : Nat) : BkJ b us ps q ps.length ((us.length : Int) - q) (unsB b us) := by
  unfold BkJ
  by_cases e : (us.length : Int) - q ≤ 0
  · exact Or.inl ⟨e, by rw [List.take_of_length_le (by omega)]⟩
  · exact Or.inr ⟨by omega, us, [], by simp, by rw [List.take_length]; exact h, rfl, rfl⟩
theorem bkJ_end {b : List Int} {us : List Un} {ps : List Pu} {q i : Nat} {back : Int} {d : List Int} (h : BkJ b us ps q i back d) (hb : back ≤ 0) : d = unsB b (us.take q) := by
  rcases h with ⟨_, h⟩ | ⟨h, _⟩
  · exact h
  · omega
theorem bkJ_pos {b : List Int} {us : List Un} {ps : List Pu} {q i : Nat} {back : Int} {d : List Int} (h : BkJ b us ps q i back d) (hb : 0 < back) : 0 < i := by
  rcases h with ⟨h, _⟩ | ⟨_, us', vs, _, hp, e, _⟩
  · omega
  · by_cases hi : i = 0
    · subst hi
      have := Pd.none (by simpa using hp)
      subst this
      simp at e
      omega
    · omega
theorem unsB_pre {us vs : List Un} {k : Nat} (hk : k ≤ us.length) : (us ++ vs).take k = us.take k := by rw [List.take_append_of_le_length hk]
/-- One group is taken back, or its end. -/
theorem bkJ_step {b : List Int} {us : List Un} {ps : List Pu} {q i : Nat} {back : Int} {d : List Int} {p : Pu} (h : BkJ b us ps q (i + 1) back d) (hb : 0 < back) (hp : ps[i]? = some p) :
    (0 < p.1 → min back p.1 ≤ d.length ∧ BkJ b us ps q i (back - min back p.1) (d.take (d.length - (min back p.1).toNat))) ∧ (p.1 = 0 → BkJ b us ps q i (back - min back 1) (d ++ p.2)) := by
  rcases h with ⟨h, _⟩ | ⟨_, us', vs, hus, hpd, e, rfl⟩
  · omega
  · have ht : ps.take (i + 1) = ps.take i ++ [p] := by
      obtain ⟨hk, e⟩ := List.getElem?_eq_some_iff.1 hp
      rw [List.take_succ_eq_append_getElem hk, e]
    rw [ht] at hpd
    rcases hpd.last with ⟨h1, _, us2, l, rfl, hl, h2⟩ | ⟨h1, us2, n, rfl, hn, hp2, h2⟩
    · refine ⟨fun _ => ?_, fun e => by omega⟩
      rw [List.length_append, moreU_len, hl] at e
      rw [unsB_app, unsB_more]
      have hlen : (unsB b us2 ++ l).length = (unsB b us2).length + p.1 := by rw [List.length_append, hl]
      refine ⟨by rw [hlen]; omega, ?_⟩
      by_cases hc : back ≤ p.1
      · rw [Int.min_eq_left hc]
        refine Or.inl ⟨by omega, ?_⟩
        have e1 : us.take q = us2 ++ moreU (l.take (q - us2.length)) := by
          rw [hus, List.take_append_of_le_length (by simp [moreU_len]; omega), List.take_append, List.take_of_length_le (by omega)]
          unfold moreU
          rw [List.map_take]
        rw [e1, unsB_app, unsB_more, hlen, List.take_append, List.take_of_length_le (show (unsB b us2).length ≤ _ by omega)]
        congr 1
        congr 1
        omega
      · rw [Int.min_eq_right (by omega)]
        refine Or.inr ⟨by omega, us2, moreU l ++ vs, by rw [hus, List.append_assoc], h2, by omega, ?_⟩
        rw [hlen, List.take_append_of_le_length (by omega), List.take_of_length_le (by omega)]
    · refine ⟨fun e => by omega, fun _ => ?_⟩
      rw [List.length_append] at e
      simp only [List.length_singleton] at e
      have hd : unsB b (us2 ++ [⟨0, true, (n : Int)⟩]) ++ p.2 = unsB b us2 := by
        rw [unsB_app, hp2]
        unfold unsB
        rw [List.foldl_cons, List.foldl_nil]
        unfold unB
        simp
      rw [hd, Int.min_eq_right (by omega)]
      by_cases hc : back = 1
      · refine Or.inl ⟨by omega, ?_⟩
        rw [hus, List.append_assoc, List.take_append_of_le_length (by omega), List.take_of_length_le (by omega)]
      · exact Or.inr ⟨by omega, us2, [⟨0, true, (n : Int)⟩] ++ vs, by rw [hus, List.append_assoc], h2, by omega, rfl⟩

theorem fileD_cons_ne {d : Dn} {t : ByteArray} (h : ¬ d.nm = t) (r : List Dn) : fileD (d :: r) t = fileD r t := by
  unfold fileD
  conv => lhs; unfold findD
  rw [if_neg h]
  cases findD r t <;> simp
theorem fileD_cons_eq {d : Dn} {t : ByteArray} (h : d.nm = t) (r : List Dn) : fileD (d :: r) t = some d.f := by
  unfold fileD findD
  rw [if_pos h]; simp
theorem findD_wout (l : List Dn) (s t : ByteArray) : fileD (wout l s) t = if t = s then none else fileD l t := by
  induction l with
  | nil => simp [wout, fileD, findD]
  | cons d r ih =>
    unfold wout at ih ⊢
    by_cases e : d.nm = s
    · rw [List.filter_cons_of_neg (by simp [e]), ih]
      by_cases h : t = s
      · rw [if_pos h, if_pos h]
      · rw [if_neg h, if_neg h, fileD_cons_ne (by rw [e]; exact fun q => h q.symm)]
    · rw [List.filter_cons_of_pos (by simp [e])]
      by_cases h : d.nm = t
      · have : ¬ t = s := by rw [← h]; exact e
        rw [if_neg this, fileD_cons_eq h, fileD_cons_eq h]
      · rw [fileD_cons_ne h, fileD_cons_ne h, ih]
theorem fileD_snoc (l : List Dn) (s : ByteArray) (f : Nat) (t : ByteArray) : fileD (l ++ [⟨s, f⟩]) t = (fileD l t).or (if t = s then some f else none) := by
  induction l with
  | nil =>
    rw [List.nil_append]
    by_cases h : s = t
    · rw [fileD_cons_eq h, if_pos h.symm]; rfl
    · rw [fileD_cons_ne h, if_neg (fun e => h e.symm)]; rfl
  | cons d r ih =>
    rw [List.cons_append]
    by_cases h : d.nm = t
    · rw [fileD_cons_eq h, fileD_cons_eq h]; rfl
    · rw [fileD_cons_ne h, fileD_cons_ne h, ih]
theorem fileD_mem {l : List Dn} {s : ByteArray} {f : Nat} (h : fileD l s = some f) : (⟨s, f⟩ : Dn) ∈ l := by
  induction l with
  | nil => simp [fileD, findD] at h
  | cons d r ih =>
    by_cases e : d.nm = s
    · rw [fileD_cons_eq e] at h
      obtain rfl := Option.some.inj h
      subst e
      simp
    · rw [fileD_cons_ne e] at h
      exact List.mem_cons_of_mem _ (ih h)
theorem fileD_none {l : List Dn} {s : ByteArray} (h : fileD l s = none) : ∀ d ∈ l, ¬ d.nm = s := by
  induction l with
  | nil => intro d hd; simp at hd
  | cons x r ih =>
    intro d hd e
    by_cases q : x.nm = s
    · rw [fileD_cons_eq q] at h; simp at h
    · rw [fileD_cons_ne q] at h
      rcases List.mem_cons.1 hd with rfl | hd
      · exact q e
      · exact ih h d hd e
theorem fileD_isNone (l : List Dn) (s : ByteArray) : (findD l s).isNone = (fileD l s).isNone := by
  unfold fileD
  cases h : findD l s with
  | none => rfl
  | some k =>
    obtain ⟨d, h1, _, _⟩ := findD_some h
    simp [h1]
/-- Names that may be, each once; files, each once. -/
structure NamesD (l : List Dn) : Prop where
  may : ∀ d ∈ l, mayN d.nm = true
  once : (l.map (·.nm)).Nodup
  files : (l.map (·.f)).Nodup
theorem namesD_nil : NamesD [] := ⟨fun d hd => by simp at hd, by simp, by simp⟩
theorem fileD_at {l : List Dn} (h : NamesD l) {d : Dn} (hd : d ∈ l) : fileD l d.nm = some d.f := by
  have h2 := h.once
  clear h
  induction l with
  | nil => simp at hd
  | cons x r ih =>
    rw [List.map_cons, List.nodup_cons] at h2
    by_cases e : x.nm = d.nm
    · rcases List.mem_cons.1 hd with rfl | hd
      · exact fileD_cons_eq rfl _
      · exact absurd (List.mem_map.2 ⟨d, hd, e.symm⟩) h2.1
    · rw [fileD_cons_ne e]
      rcases List.mem_cons.1 hd with rfl | hd
      · exact absurd rfl e
      · exact ih hd h2.2
theorem NamesD.less {l : List Dn} (h : NamesD l) (s : ByteArray) : NamesD (wout l s) := by
  unfold wout
  exact ⟨fun d hd => h.may d (List.mem_filter.1 hd).1, h.once.sublist (List.filter_sublist.map _), h.files.sublist (List.filter_sublist.map _)⟩
theorem NamesD.snoc {l : List Dn} (h : NamesD l) {s : ByteArray} {f : Nat} (hs : mayN s = true) (hn : ∀ d ∈ l, ¬ d.nm = s) (hf : ∀ d ∈ l, ¬ d.f = f) : NamesD (l ++ [⟨s, f⟩]) := by
  refine ⟨fun d hd => ?_, ?_, ?_⟩
  · rcases List.mem_append.1 hd with hd | hd
    · exact h.may d hd
    · obtain rfl := List.mem_singleton.1 hd; exact hs
  · rw [List.map_append, List.nodup_append]
    refine ⟨h.once, by simp, fun a ha b hb => ?_⟩
    obtain ⟨d, hd, rfl⟩ := List.mem_map.1 ha
    obtain rfl : b = s := by simpa using hb
    exact hn d hd
  · rw [List.map_append, List.nodup_append]
    refine ⟨h.files, by simp, fun a ha b hb => ?_⟩
    obtain ⟨d, hd, rfl⟩ := List.mem_map.1 ha
    obtain rfl : b = f := by simpa using hb
    exact hf d hd
/-- A turn as it may be. -/
def OkT1 (l : List Dn) (t : Tn) : Prop := (t.nm.size ≤ 64 ∧ t.to.size ≤ 64) ∧ (t.k = 0 → mayN t.nm = true ∧ ∀ d ∈ l, ¬ d.f = t.f) ∧ (t.k = 1 → mayN t.to = true ∧ (fileD l t.nm).isSome = true)
def OkT : List Dn → List Tn → Prop
  | _, [] => True
  | l, t :: r => OkT1 l t ∧ OkT (turnD l t) r
theorem okT_app (ts rs : List Tn) : ∀ l : List Dn, OkT l (ts ++ rs) ↔ OkT l ts ∧ OkT (turnsD l ts) rs := by
  induction ts with
  | nil => intro l; simp [OkT, turnsD]
  | cons t r ih =>
    intro l
    simp only [List.cons_append, OkT, ih, turnsD, List.foldl_cons]
    exact and_assoc.symm
theorem wout_name {l : List Dn} {s : ByteArray} : ∀ d ∈ wout l s, ¬ d.nm = s := fun _ hd => (wout_mem hd).2
theorem inj_of_nodup {α β : Type} {g : α → β} : ∀ {l : List α}, (l.map g).Nodup → ∀ {x y : α}, x ∈ l → y ∈ l → g x = g y → x = y := by
  intro l
  induction l with
  | nil => intro _ x y hx; simp at hx
  | cons a r ih =>
    intro h x y hx hy e
    rw [List.map_cons, List.nodup_cons] at h
    rcases List.mem_cons.1 hx with e1 | hx2
    · rcases List.mem_cons.1 hy with e2 | hy2
      · rw [e1, e2]
      · exact absurd (List.mem_map.2 ⟨y, hy2, by rw [← e, e1]⟩) h.1
    · rcases List.mem_cons.1 hy with e2 | hy2
      · exact absurd (List.mem_map.2 ⟨x, hx2, by rw [e, e2]⟩) h.1
      · exact ih h.2 hx2 hy2 e
theorem NamesD.other {l : List Dn} (h : NamesD l) {s : ByteArray} {f : Nat} (hf : fileD l s = some f) : ∀ d ∈ wout l s, ¬ d.f = f := by
  intro d hd e
  obtain ⟨h1, h2⟩ := wout_mem hd
  have := inj_of_nodup h.files h1 (fileD_mem hf) e
  rw [this] at h2
  exact h2 rfl
theorem NamesD.turn {l : List Dn} (h : NamesD l) {t : Tn} (ht : OkT1 l t) : NamesD (turnD l t) := by
  unfold turnD
  split
  · rename_i e
    obtain ⟨h1, h2⟩ := ht.2.1 e
    exact (h.less _).snoc h1 wout_name (fun d hd => h2 d (wout_mem hd).1)
  · split
    · rename_i e
      obtain ⟨h1, h2⟩ := ht.2.2 e
      split
      · exact h
      · rename_i f hf
        split
        · exact h
        · exact ((h.less _).less _).snoc h1 wout_name (fun d hd => h.other hf d (wout_mem hd).1)
    · exact h.less _
theorem NamesD.turns {ts : List Tn} : ∀ {l : List Dn}, NamesD l → OkT l ts → NamesD (turnsD l ts) := by
  induction ts with
  | nil => intro l h _; exact h
  | cons t r ih =>
    intro l h ht
    unfold turnsD
    rw [List.foldl_cons]
    exact ih (h.turn ht.1) ht.2
/-- What a name's file is behind a turn. -/
theorem fileD_turn {l : List Dn} {t : Tn} (ht : OkT1 l t) (s : ByteArray) : fileD (turnD l t) s = if t.k = 0 then (if s = t.nm then some t.f else fileD l s) else if t.k = 1 then (if s = t.to then fileD l t.nm else if s = t.nm then none else fileD l s) else if s = t.nm then none else fileD l s := by
  unfold turnD
  split
  · rw [fileD_snoc, findD_wout]
    by_cases e : s = t.nm
    · rw [if_pos e, if_pos e, if_pos e]; rfl
    · rw [if_neg e, if_neg e, if_neg e]; cases fileD l s <;> rfl
  · split
    · rename_i h
      obtain ⟨_, h2⟩ := ht.2.2 h
      split
      · rename_i hn; rw [hn] at h2; simp at h2
      · rename_i f hf
        split
        · rename_i e
          by_cases q : s = t.to
          · rw [if_pos q, q, ← e]
          · rw [if_neg q, if_neg (by rw [e]; exact q)]
        · rename_i e
          rw [fileD_snoc, findD_wout, findD_wout]
          by_cases q : s = t.to
          · rw [if_pos q, if_pos q, if_pos q, hf]; rfl
          · rw [if_neg q, if_neg q, if_neg q]
            by_cases z : s = t.nm
            · rw [if_pos z]; rfl
            · rw [if_neg z]; cases fileD l s <;> rfl
    · rw [findD_wout]
/-- As the landed one keeps it. -/
structure GoodN (F : Fs) : Prop where
  sure : NamesD F.sure
  turns : OkT F.sure F.turns
theorem GoodN.dir {F : Fs} (h : GoodN F) : NamesD (dirF F) := h.sure.turns h.turns
theorem goodN0 : GoodN fs0 := ⟨namesD_nil, trivial⟩
theorem okT_take {l : List Dn} {ts : List Tn} (h : OkT l ts) (n : Nat) : OkT l (ts.take n) := by
  rw [← List.take_append_drop n ts, okT_app] at h
  exact h.1
theorem okT_at {l : List Dn} {ts : List Tn} (h : OkT l ts) {i : Nat} {t : Tn} (hi : ts[i]? = some t) : OkT1 (turnsD l (ts.take i)) t := by
  obtain ⟨hk, e⟩ := List.getElem?_eq_some_iff.1 hi
  have := okT_take h (i + 1)
  rw [List.take_succ_eq_append_getElem hk, okT_app, e] at this
  exact this.2.1
theorem turnsD_take {l : List Dn} {ts : List Tn} {i : Nat} {t : Tn} (hi : ts[i]? = some t) : turnsD l (ts.take (i + 1)) = turnD (turnsD l (ts.take i)) t := by
  obtain ⟨hk, e⟩ := List.getElem?_eq_some_iff.1 hi
  unfold turnsD
  rw [List.take_succ_eq_append_getElem hk, List.foldl_append, e]
  rfl
theorem GoodN.like {F G : Fs} (h : GoodN F) (e2 : G.sure = F.sure) (e3 : G.turns = F.turns) : GoodN G := ⟨by rw [e2]; exact h.sure, by rw [e2, e3]; exact h.turns⟩
theorem GoodN.sync {F : Fs} (h : GoodN F) : GoodN { F with sure := dirF F, turns := [] } := ⟨h.dir, trivial⟩
theorem GoodN.push {F : Fs} (h : GoodN F) {t : Tn} (ht : OkT1 (dirF F) t) (fs : List Fi) : GoodN { F with files := fs, turns := F.turns ++ [t] } := ⟨h.sure, by
  show OkT F.sure (F.turns ++ [t])
  rw [okT_app]
  exact ⟨h.turns, ht, trivial⟩⟩
/-- Rows in order of a key, of the same things, are one row. -/
theorem sorted_one {α : Type} (key : α → Nat) : ∀ {l r : List α}, l.Pairwise (fun x y => key x < key y) → r.Pairwise (fun x y => key x < key y) → (∀ x, x ∈ l ↔ x ∈ r) → l = r := by
  intro l
  induction l with
  | nil =>
    intro r _ _ h
    cases r with
    | nil => rfl
    | cons y t => exact absurd ((h y).2 (by simp)) (by simp)
  | cons x t ih =>
    intro r hl hr h
    cases r with
    | nil => exact absurd ((h x).1 (by simp)) (by simp)
    | cons y u =>
      rw [List.pairwise_cons] at hl hr
      have e : x = y := by
        rcases List.mem_cons.1 ((h x).1 (by simp)) with e | e
        · exact e
        · rcases List.mem_cons.1 ((h y).2 (by simp)) with e' | e'
          · exact e'.symm
          · have := hr.1 x e
            have := hl.1 y e'
            omega
      subst e
      congr 1
      refine ih hl.2 hr.2 (fun z => ⟨fun hz => ?_, fun hz => ?_⟩)
      · rcases List.mem_cons.1 ((h z).1 (by simp [hz])) with e | e
        · subst e; have := hl.1 z hz; omega
        · exact e
      · rcases List.mem_cons.1 ((h z).2 (by simp [hz])) with e | e
        · subst e; have := hr.1 z hz; omega
        · exact e
theorem keptF_mem {d : List Dn} {m : Nat} (h : FilesIn m d) (x : Dn) : x ∈ keptF d m ↔ x ∈ d := by
  unfold keptF
  rw [List.mem_flatMap]
  constructor
  · rintro ⟨k, _, hk⟩
    exact (List.mem_filter.1 hk).1
  · intro hx
    exact ⟨x.f, List.mem_range.2 (h x hx), List.mem_filter.2 ⟨hx, by simp⟩⟩
theorem filter_one {d : List Dn} (hn : (d.map (·.f)).Nodup) (k : Nat) : (d.filter fun x => decide (x.f = k)).Pairwise (fun x y => x.f < y.f) := by
  rw [List.pairwise_filter]
  refine (List.pairwise_map.1 hn).imp ?_
  intro x y hxy hx hy
  simp only [decide_eq_true_eq] at hx hy
  omega
theorem keptF_sorted {d : List Dn} (hn : (d.map (·.f)).Nodup) : ∀ m, (keptF d m).Pairwise (fun x y => x.f < y.f)
  | 0 => by simp [keptF]
  | m + 1 => by
    unfold keptF
    rw [List.range_succ, List.flatMap_append, List.pairwise_append]
    refine ⟨keptF_sorted hn m, by simpa using filter_one hn m, fun x hx y hy => ?_⟩
    obtain ⟨k, hk, hx⟩ := List.mem_flatMap.1 hx
    have h1 := List.mem_range.1 hk
    have h2 := (List.mem_filter.1 hx).2
    rw [List.flatMap_cons, List.flatMap_nil, List.append_nil] at hy
    have h3 := (List.mem_filter.1 hy).2
    simp only [decide_eq_true_eq] at h2 h3
    omega
end Go.Proofs.YthlkmjaflomflaaGreat

namespace Go.Proofs.YthlkmjaflomflaaGreat
set_option linter.unusedVariables false

/-- One text ahead of another. -/
def aheadN (x y : ByteArray) : Prop := Op.bytesLess x.toList y.toList = true
theorem getD_at {l : List ByteArray} {i : Nat} (h : i < l.length) : l.getD i ByteArray.empty ∈ l ∧ l[i]? = some (l.getD i ByteArray.empty) := by
  rw [List.getD_eq_getElem?_getD, List.getElem?_eq_getElem h]
  exact ⟨List.getElem_mem h, rfl⟩
theorem backN_behind (l : List ByteArray) (s : ByteArray) : ∀ k j, backN l s k ≤ j → j < k → aheadN s (l.getD j ByteArray.empty)
  | 0, j, _, h => by omega
  | k + 1, j, h1, h2 => by
    unfold backN at h1
    split at h1
    · rename_i e
      by_cases q : j = k
      · subst q; exact e
      · exact backN_behind l s k j h1 (by omega)
    · omega
theorem backN_ahead (l : List ByteArray) (s : ByteArray) : ∀ k j, backN l s k = j + 1 → Op.bytesLess s.toList (l.getD j ByteArray.empty).toList = false
  | 0, j, h => by simp [backN] at h
  | k + 1, j, h => by
    unfold backN at h
    split at h
    · exact backN_ahead l s k j h
    · rename_i e
      obtain rfl : k = j := by omega
      simpa using e
theorem insN_mem (l : List ByteArray) (s t : ByteArray) : t ∈ insN l s ↔ t = s ∨ t ∈ l := by
  unfold insN
  rw [List.mem_append, List.mem_cons]
  conv => rhs; rw [← List.take_append_drop (backN l s l.length) l, List.mem_append]
  constructor
  · rintro (h | h | h)
    · exact Or.inr (Or.inl h)
    · exact Or.inl h
    · exact Or.inr (Or.inr h)
  · rintro (h | h | h)
    · exact Or.inr (Or.inl h)
    · exact Or.inl h
    · exact Or.inr (Or.inr h)
theorem insN_rises {l : List ByteArray} (h : l.Pairwise aheadN) {s : ByteArray} (hs : s ∉ l) : (insN l s).Pairwise aheadN := by
  unfold insN
  have hle := backN_le l s l.length
  generalize hk : backN l s l.length = k at hle
  have hB : ∀ x ∈ l.drop k, aheadN s x := by
    intro x hx
    obtain ⟨i, hi⟩ := List.mem_iff_getElem?.1 hx
    rw [List.getElem?_drop] at hi
    have hlt := (List.getElem?_eq_some_iff.1 hi).1
    have := backN_behind l s l.length (k + i) (by omega) hlt
    have e := (getD_at hlt).2
    rw [hi] at e
    rw [← Option.some.inj e] at this
    exact this
  have hA : ∀ x ∈ l.take k, aheadN x s := by
    intro x hx
    obtain ⟨i, hi⟩ := List.mem_iff_getElem?.1 hx
    rw [List.getElem?_take] at hi
    split at hi
    · rename_i hik
      obtain ⟨m, rfl⟩ : ∃ m, k = m + 1 := ⟨k - 1, by omega⟩
      have h1 := backN_ahead l s l.length m hk
      have hm : m < l.length := by omega
      obtain ⟨g1, g2⟩ := getD_at hm
      have h2 : aheadN (l.getD m ByteArray.empty) s := by
        rcases less_tri (l.getD m ByteArray.empty).toList s.toList with e | e | e
        · exact e
        · exact absurd (ba_ext e ▸ g1) hs
        · rw [h1] at e; simp at e
      by_cases e : i = m
      · subst e
        rw [hi] at g2
        rw [Option.some.inj g2]
        exact h2
      · refine less_trans ?_ h2
        obtain ⟨a1, a2⟩ := List.getElem?_eq_some_iff.1 hi
        obtain ⟨b1, b2⟩ := List.getElem?_eq_some_iff.1 g2
        have := List.pairwise_iff_getElem.1 h i m a1 b1 (by omega)
        rw [a2, b2] at this
        exact this
    · simp at hi
  rw [List.pairwise_append]
  refine ⟨h.sublist (List.take_sublist _ _), ?_, fun x hx y hy => ?_⟩
  · rw [List.pairwise_cons]
    exact ⟨hB, h.sublist (List.drop_sublist _ _)⟩
  · rcases List.mem_cons.1 hy with rfl | hy
    · exact hA x hx
    · exact less_trans (hA x hx) (hB y hy)
theorem insN_len (l : List ByteArray) (s : ByteArray) : (insN l s).length = l.length + 1 := by
  unfold insN
  have := backN_le l s l.length
  rw [List.length_append, List.length_cons, List.length_take, List.length_drop]
  omega
theorem listD_snoc (l : List Dn) (d : Dn) : listD (l ++ [d]) = insN (listD l) d.nm := by
  unfold listD
  rw [List.foldl_append]
  rfl
theorem listD_of : ∀ {l r : List Dn}, l = r.reverse → (r.map (·.nm)).Nodup → (∀ t, t ∈ listD l ↔ t ∈ r.map (·.nm)) ∧ (listD l).Pairwise aheadN ∧ (listD l).length = l.length := by
  intro l r e
  subst e
  induction r with
  | nil => intro _; exact ⟨fun t => Iff.rfl, List.Pairwise.nil, rfl⟩
  | cons d r ih =>
    intro h
    rw [List.map_cons, List.nodup_cons] at h
    obtain ⟨h1, h2, h3⟩ := ih h.2
    rw [List.reverse_cons, listD_snoc]
    refine ⟨fun t => ?_, insN_rises h2 (fun q => h.1 ((h1 _).1 q)), ?_⟩
    · rw [insN_mem, List.map_cons, List.mem_cons, h1]
    · rw [insN_len, h3, List.length_append]; rfl
/-- The names that are told: just those, in order, as many. -/
theorem listD_names {l : List Dn} (h : NamesD l) : (∀ t, t ∈ listD l ↔ (fileD l t).isSome = true) ∧ (listD l).Pairwise aheadN ∧ (listD l).length = l.length := by
  obtain ⟨h1, h2, h3⟩ := listD_of (l := l) (r := l.reverse) (by simp) (by rw [List.map_reverse]; exact List.pairwise_reverse.2 (h.once.imp Ne.symm))
  refine ⟨fun t => ?_, h2, h3⟩
  rw [h1, List.mem_map]
  constructor
  · rintro ⟨d, hd, rfl⟩
    rw [fileD_at h (List.mem_reverse.1 hd)]
    rfl
  · intro q
    obtain ⟨f, hf⟩ := Option.isSome_iff_exists.1 q
    exact ⟨_, List.mem_reverse.2 (fileD_mem hf), rfl⟩
end Go.Proofs.YthlkmjaflomflaaGreat

namespace Go.Proofs.YthlkmjaflomflaaGreat
set_option linter.unusedVariables false

/-- No more than so many of each, together. -/
structure LimB (m : Nat) (F : Fs) : Prop where
  files : F.files.length ≤ m
  names : F.sure.length + F.turns.length ≤ m
  each : ∀ x ∈ F.files, x.sure.length + x.us.length ≤ m
  n : 0 ≤ F.n ∧ F.n ≤ m
theorem LimB.lim {m : Nat} {F : Fs} (h : LimB m F) : Lim m F := ⟨h.files, by have := h.names; omega, by have := h.names; omega, fun x hx => by have := h.each x hx; omega, h.n⟩
theorem LimB.mono {m m' : Nat} {F : Fs} (h : LimB m F) (k : m ≤ m') : LimB m' F := ⟨by have := h.files; omega, by have := h.names; omega, fun x hx => by have := h.each x hx; omega, by have := h.n; omega⟩
theorem limB0 : LimB 0 fs0 := ⟨Nat.le_refl _, Nat.le_refl _, fun x hx => by simp [fs0] at hx, by decide⟩
theorem limB_at {m : Nat} {F : Fs} (h : LimB m F) (k : Nat) : (atF F k).sure.length + (atF F k).us.length ≤ m := by
  unfold atF
  rw [List.getD_eq_getElem?_getD]
  cases e : F.files[k]? with
  | none => simp [emF]
  | some x => exact h.each x (List.mem_of_getElem? e)
theorem LimB.call {m : Nat} {F : Fs} (h : LimB m F) : LimB (m + 1) (callF F).1 := by
  obtain ⟨e1, e2, e3, e4⟩ := callF_same F
  refine ⟨by rw [e1]; have := h.files; omega, by rw [e2, e3]; have := h.names; omega, fun x hx => by rw [e1] at hx; have := h.each x hx; omega, by rw [e4]; have := h.n; omega⟩
theorem LimB.put {m : Nat} {F : Fs} (h : LimB m F) {k : Nat} {x : Fi} (hx : x.sure.length + x.us.length ≤ m) : LimB m { F with files := F.files.set k x } := by
  refine ⟨by dsimp only; rw [List.length_set]; exact h.files, h.names, fun y hy => ?_, h.n⟩
  rcases List.mem_or_eq_of_mem_set hy with q | q
  · exact h.each y q
  · rw [q]; exact hx
theorem LimB.turn {m : Nat} {F : Fs} (h : LimB m F) (t : Tn) : LimB (m + 1) { F with turns := F.turns ++ [t] } :=
  ⟨by have := h.files; dsimp only; omega, by have := h.names; dsimp only; rw [List.length_append, List.length_singleton]; omega, fun x hx => by have := h.each x hx; omega, by have := h.n; dsimp only; omega⟩
theorem LimB.create {m : Nat} {F : Fs} (h : LimB m F) (s : ByteArray) : LimB (m + 2) (createF F s).1 := by
  unfold createF
  have hc := h.call
  rcases hq : callF F with ⟨G, _ | e⟩ <;> rw [hq] at hc <;> dsimp only at hc ⊢
  · split
    · exact hc.mono (by omega)
    · split
      · exact hc.mono (by omega)
      · refine ⟨by have := hc.files; dsimp only; rw [List.length_append, List.length_singleton]; omega, by have := hc.names; dsimp only; rw [List.length_append, List.length_singleton]; omega, fun x hx => ?_, by have := hc.n; dsimp only; omega⟩
        rcases List.mem_append.1 hx with q | q
        · have := hc.each x q; omega
        · obtain rfl := List.mem_singleton.1 q
          simp [emF]
  · exact hc.mono (by omega)
theorem LimB.more {m : Nat} {F : Fs} (h : LimB m F) (k : Nat) (us : List Un) : LimB (m + us.length) (moreF F k us) := by
  unfold moreF
  refine (h.mono (by omega)).put ?_
  dsimp only
  have := limB_at h k
  rw [List.length_append]
  omega
theorem LimB.append {m : Nat} {F : Fs} (h : LimB m F) (s : ByteArray) (b : List Int) : LimB (m + 1 + b.length) (appendF F s b).1 := by
  unfold appendF
  have hc := h.call
  rcases hq : callF F with ⟨G, _ | e⟩ <;> rw [hq] at hc <;> dsimp only at hc ⊢
  · split
    · exact hc.mono (by omega)
    · split
      · exact hc.mono (by omega)
      · rename_i k hk
        split
        · exact hc.mono (by omega)
        · exact (hc.more k _).mono (by unfold moreU; rw [List.length_map]; exact Nat.le_refl _)
  · split
    · exact hc.mono (by omega)
    · rename_i k hk
      split
      · exact (hc.more k _).mono (by unfold moreU; rw [List.length_map, List.length_take]; omega)
      · exact hc.mono (by omega)
theorem LimB.cut {m : Nat} {F : Fs} (h : LimB m F) (s : ByteArray) (z : Int) : LimB (m + 2) (cutF F s z).1 := by
  unfold cutF
  have hc := h.call
  rcases hq : callF F with ⟨G, _ | e⟩ <;> rw [hq] at hc <;> dsimp only at hc ⊢
  · split
    · exact hc.mono (by omega)
    · split
      · exact hc.mono (by omega)
      · rename_i k hk
        split
        · exact hc.mono (by omega)
        · exact (hc.more k _).mono (by simp)
  · exact hc.mono (by omega)
theorem LimB.sync {m : Nat} {F : Fs} (h : LimB m F) (s : ByteArray) : LimB (m + 1) (syncF F s).1 := by
  unfold syncF
  have hc := h.call
  rcases hq : callF F with ⟨G, _ | e⟩ <;> rw [hq] at hc <;> dsimp only at hc ⊢
  · split
    · exact hc
    · split
      · exact hc
      · rename_i k hk
        refine hc.put ?_
        have h1 := limB_at hc k
        have h2 := unsB_len (atF G k).us (atF G k).sure
        unfold bytF
        simp
        omega
  · exact hc
theorem LimB.rename {m : Nat} {F : Fs} (h : LimB m F) (s t : ByteArray) : LimB (m + 2) (renameF F s t).1 := by
  unfold renameF
  have hc := h.call
  rcases hq : callF F with ⟨G, _ | e⟩ <;> rw [hq] at hc <;> dsimp only at hc ⊢
  · split
    · exact hc.mono (by omega)
    · split
      · exact hc.mono (by omega)
      · exact hc.turn _
  · exact hc.mono (by omega)
theorem LimB.remove {m : Nat} {F : Fs} (h : LimB m F) (s : ByteArray) : LimB (m + 2) (removeF F s).1 := by
  unfold removeF
  have hc := h.call
  rcases hq : callF F with ⟨G, _ | e⟩ <;> rw [hq] at hc <;> dsimp only at hc ⊢
  · split
    · exact hc.mono (by omega)
    · split
      · exact hc.mono (by omega)
      · exact hc.turn _
  · exact hc.mono (by omega)
theorem LimB.syncdir {m : Nat} {F : Fs} (h : LimB m F) : LimB (m + 1) (syncdirF F).1 := by
  unfold syncdirF
  have hc := h.call
  rcases hq : callF F with ⟨G, _ | e⟩ <;> rw [hq] at hc <;> dsimp only at hc ⊢
  · refine ⟨hc.files, ?_, hc.each, hc.n⟩
    have h1 := turnsD_len G.turns G.sure
    have h2 := hc.names
    unfold dirF
    simp
    omega
  · exact hc
theorem LimB.arm {m : Nat} {F : Fs} (h : LimB m F) (k a : Int) : LimB m (armF F k a).1 := by
  unfold armF
  split
  · exact h
  · exact ⟨h.files, h.names, h.each, h.n⟩
theorem keptF_len (d : List Dn) : ∀ m, (keptF d m).length ≤ d.length := by
  have hs : ∀ m, (keptF d m).length + (d.filter fun x => decide (m ≤ x.f)).length = d.length := by
    intro m
    induction m with
    | zero => simp [keptF]
    | succ m ih =>
      unfold keptF at ih ⊢
      rw [List.range_succ, List.flatMap_append, List.length_append, List.flatMap_cons, List.flatMap_nil, List.append_nil]
      have : (d.filter fun x => decide (m ≤ x.f)).length = (d.filter fun x => decide (x.f = m)).length + (d.filter fun x => decide (m + 1 ≤ x.f)).length := by
        clear ih
        induction d with
        | nil => rfl
        | cons y t iht =>
          simp only [List.filter_cons]
          by_cases e1 : y.f = m
          · rw [if_pos (by simp; omega), if_pos (by simp [e1]), if_neg (by simp; omega)]
            simp; omega
          · by_cases e2 : m + 1 ≤ y.f
            · rw [if_pos (by simp; omega), if_neg (by simp [e1]), if_pos (by simp; omega)]
              simp; omega
            · rw [if_neg (by simp; omega), if_neg (by simp [e1]), if_neg (by simp; omega)]
              exact iht
      omega
  intro m
  have := hs m
  omega
theorem LimB.crash {m : Nat} {F : Fs} (h : LimB m F) (ops : Int) (ps : List Int) : LimB m (crashF F ops ps) := by
  unfold crashF
  dsimp only
  have h1 := keptF_len (turnsD F.sure (F.turns.take (cutN ops))) F.files.length
  have h2 := turnsD_len (F.turns.take (cutN ops)) F.sure
  rw [List.length_take] at h2
  have h3 := h.names
  have hd : (keptF (turnsD F.sure (F.turns.take (cutN ops))) F.files.length).length ≤ m := by omega
  generalize keptF (turnsD F.sure (F.turns.take (cutN ops))) F.files.length = d at *
  refine ⟨?_, ?_, ?_, by show (0 : Int) ≤ 0 ∧ (0 : Int) ≤ m; omega⟩
  · show (d.mapIdx _).length ≤ m
    rw [List.length_mapIdx]; exact hd
  · show (d.mapIdx _).length + 0 ≤ m
    rw [List.length_mapIdx]; exact hd
  · intro x hx
    obtain ⟨i, hi, rfl⟩ := List.mem_mapIdx.1 hx
    have h4 := limB_at h (d[i]).f
    have h5 := unsB_len ((atF F (d[i]).f).us.take (cutN (pickF ps i))) (atF F (d[i]).f).sure
    rw [List.length_take] at h5
    simp
    omega
end Go.Proofs.YthlkmjaflomflaaGreat
