/-
  What vint.PutInt and vint.GetInt come to: contracts, for every world; numbers with signs as numbers without. Files that may lose what was not made certain, in plain words: the document's file system as lists. No function is named. Matchers in memory: their five cells, their values and their kids, and which blocks they lie in. No function is named. Slices of labels as lists: how they are read, cut, copied (Labels), put one behind the other; whether two are the same (SameLabels): contracts, for every world; what the law's shell hands on of a slice of labels that came in. Names of log files in plain words: a prefix and a number of eight digits. No function is named. How great a file system may grow by a call: in plain words. No function is named. Pending units kept as what takes them back; names that may be, each once; turns that find what they move; names in the order of their files: in plain words. No function is named. Plain arithmetic: one bit's step of the sum's register, many of them, four at once by the table, eight at once by a byte; a string of bytes as one whole number, and the register behind it. Words of 32 bits in the program's own spelling, and what sum.More and sum.Of come to at any bytes behind any sum: contracts, for every world; each leaves one new block, the table. A frame's bytes, and the frame that begins at a place, as plain functions of lists. Rows of structs of the call's own, of any kind: how they are read and what they abide. No function is named. The d
  Conditions: as each theorem says.
-/
import Derived.Test.YtknghoecjobkiaaGreatDoorZub
import Derived.Test.YtknghoecjobkiaaGreatDoorZua
import Derived.Test.YtknghoecjobkiaaGreatDoorRows
import Derived.Laws.AppendOwnNone
import Derived.Deep.QuietTactic
import Derived.BigQuiet
import Derived.ChangeSlices
import Derived.ChangeArms
import Derived.Deep.SlicePairs
import Derived.OpenShut
import Derived.SizedLaws
import Derived.Lib.ItoaNum
import Derived.Lib.Repeat
import Derived.Lib.Atoi
import Derived.WalkKit
import Derived.Deep.AppendLies
import Derived.Deep.LoopGhost
import Derived.Laws.Cover1
import Derived.WalkMore
import Derived.OwnWalk
import Derived.Deep.Cut
namespace Go.Proofs.YtknghoecjobkiaaGreatDoor
open Go.RowKit
set_option maxRecDepth 20000
/-- A number with a sign as one without. -/
def zig (v : Int) : Int := if v < 0 then -2 * v - 1 else 2 * v
/-- And back. -/
def zag (v : Int) : Int := if v % 2 = 1 then -(v / 2) - 1 else v / 2
theorem zig_word {v : Int} (h0 : -9223372036854775808 ≤ v) (h1 : v ≤ 9223372036854775807) : W64 (zig v) := by
  unfold zig W64
  split <;> constructor <;> omega
theorem zag_zig (v : Int) : zag (zig v) = v := by
  unfold zag zig
  repeat' split
  all_goals omega
theorem zag_int {v : Int} (h : W64 v) : -9223372036854775808 ≤ zag v ∧ zag v ≤ 9223372036854775807 := by
  unfold W64 at h
  unfold zag
  split <;> constructor <;> omega

set_option maxHeartbeats 400000 in
theorem putint_any (v : Int) (a : Option Addr) (n cap : Nat) (zs : List Int) (w : World) (hv : (Lit.int .i64 v).wf = true) (hn : n ≤ 211106232532980) (hc : n ≤ cap) (hr : Row .u8 w a n zs) :
    Calls Tryz.prog 47 #[.slice a n cap, .int .i64 v] w fun e w' => ∃ a' cap', e = .returned (.slice a' (n + (putS (zig v)).length) cap') ∧ Mine w' w.heap.size a' (n + (putS (zig v)).length) cap' (zs ++ putS (zig v)) ∧ Below w.heap.size w w' := by
  obtain ⟨v0, v1⟩ := i64_of_wf hv
  have B := hide (put_any (zig v) a n cap zs w (zig_word v0 v1) hn hc hr)
  clear hr hn hv
  by_cases h : v < 0
  · have e1 : zig v = (-v - 1) * 2 + 1 := by unfold zig; rw [if_pos h]; omega
    have hor := or1_u64 (y := -v - 1) (by omega) (by omega)
    have hx := not_i64 v0 v1
    rw [← e1] at hor
    clear e1
    have y0 : 0 ≤ -v - 1 := by omega
    have y1 : -v - 1 ≤ 9223372036854775807 := by omega
    generalize zig v = z at *
    generalize -v - 1 = y at *
    have hw1 : IntKind.u64.wrap y = y := by rw [IntKind.wrap_u64]; omega
    have hw2 : IntKind.u64.wrap (y * 2) = y * 2 := by rw [IntKind.wrap_u64]; omega
    go_enter Tryz.func47, Tryz.ntmps47
    go_wp2_with fail
    refine B.out.mono ?_
    rintro e w' ⟨a', cap', rfl, h1, h2⟩
    have H1 := hide h1
    clear h1
    go_wp2
    go_ret
    exact ⟨a', cap', rfl, H1, h2⟩
  · have e1 : zig v = v * 2 := by unfold zig; rw [if_neg h]; omega
    rw [e1] at B ⊢
    clear e1
    have hw1 : IntKind.u64.wrap v = v := by rw [IntKind.wrap_u64]; omega
    have hw2 : IntKind.u64.wrap (v * 2) = v * 2 := by rw [IntKind.wrap_u64]; omega
    go_enter Tryz.func47, Tryz.ntmps47
    go_wp2_with fail
    refine B.out.mono ?_
    rintro e w' ⟨a', cap', rfl, h1, h2⟩
    have H1 := hide h1
    clear h1
    go_wp2
    go_ret
    exact ⟨a', cap', rfl, H1, h2⟩

/-- What GetInt answers. -/
def gotI (r : Option (Int × Int)) : Ending :=
  match r with
  | none => .returned (.tuple #[.int .i64 0, .int .i64 0, .bool false])
  | some p => .returned (.tuple #[.int .i64 (zag p.1), .int .i64 p.2, .bool true])

theorem getint_any (at' : Int) (a : Option Addr) (n cap : Nat) (zs : List Int) (w : World) (ha : (Lit.int .i64 at').wf = true) (hc : n ≤ cap) (hr : Row .u8 w a n zs) :
    Calls Tryz.prog 53 #[.slice a n cap, .int .i64 at'] w fun e w' => e = gotI (getS zs at') ∧ w' = w := by
  have G := hide (get_any at' a n cap zs w ha hc hr)
  have HZ := hide hr.bytes
  clear hr
  cases hg : getS zs at' with
  | none =>
    rw [hg] at G
    simp only [gotE] at G
    simp only [gotI]
    clear hg
    have h1 := and1_u64 (a := 0) ⟨by decide, by decide⟩
    go_enter Tryz.func53, Tryz.ntmps53
    go_wp2_with fail
    refine G.out.mono ?_
    rintro e w' ⟨rfl, rfl⟩
    go_wp2
    go_ret3
    exact ⟨rfl, rfl⟩
  | some p =>
    obtain ⟨v, nx⟩ := p
    have hw := (getS_some HZ.out hg).1
    rw [hg] at G
    simp only [gotE] at G
    simp only [gotI]
    clear hg
    have h1 := and1_u64 hw
    have w0 := hw.1
    have w1 := hw.2
    clear hw
    by_cases ho : v % 2 = 1
    · have e1 : zag v = -(v / 2) - 1 := by unfold zag; rw [if_pos ho]
      have hx := not_i64 (v := v / 2) (by omega) (by omega)
      rw [← e1] at hx
      clear e1
      generalize zag v = z at *
      go_enter Tryz.func53, Tryz.ntmps53
      go_wp2_with fail
      refine G.out.mono ?_
      rintro e w' ⟨rfl, rfl⟩
      go_wp2
      go_ret3
      exact ⟨rfl, rfl⟩
    · have e1 : zag v = v / 2 := by unfold zag; rw [if_neg ho]
      rw [e1]
      have ho0 : v % 2 = 0 := by omega
      clear ho e1
      go_enter Tryz.func53, Tryz.ntmps53
      go_wp2_with fail
      refine G.out.mono ?_
      rintro e w' ⟨rfl, rfl⟩
      go_wp2
      go_ret3
      exact ⟨rfl, rfl⟩
end Go.Proofs.YtknghoecjobkiaaGreatDoor

namespace Go.Proofs.YtknghoecjobkiaaGreatDoor
set_option linter.unusedVariables false
/-- A unit: a byte behind, or a cut. -/
structure Un where
  b : Int
  cut : Bool
  n : Int
/-- A file: what is certain, and units behind it. -/
structure Fi where
  sure : List Int
  us : List Un
/-- A name and its file's number. -/
structure Dn where
  nm : ByteArray
  f : Nat
/-- A turn: 0 a name is a file's, 1 one goes over to another, 2 it is gone. -/
structure Tn where
  k : Nat
  nm : ByteArray
  to : ByteArray
  f : Nat
/-- A file system. -/
structure Fs where
  files : List Fi
  sure : List Dn
  turns : List Tn
  n : Int
  armed : Bool
  kind : Int
  after : Int
  dark : Bool
/-- None. -/
def fs0 : Fs := ⟨[], [], [], 0, false, 0, 0, false⟩
/-- The place of a name. -/
def findD : List Dn → ByteArray → Option Nat
  | [], _ => none
  | d :: t, s => if d.nm = s then some 0 else (findD t s).map (· + 1)
/-- A list without a name. -/
def wout (l : List Dn) (s : ByteArray) : List Dn := l.filter fun d => !decide (d.nm = s)
/-- A name's file. -/
def fileD (l : List Dn) (s : ByteArray) : Option Nat := (findD l s).bind fun k => (l[k]?).map (·.f)
/-- Names behind a turn. -/
def turnD (l : List Dn) (t : Tn) : List Dn :=
  if t.k = 0 then wout l t.nm ++ [⟨t.nm, t.f⟩]
  else if t.k = 1 then match fileD l t.nm with
    | none => l
    | some f => if t.nm = t.to then l else wout (wout l t.nm) t.to ++ [⟨t.to, f⟩]
  else wout l t.nm
/-- Names behind so many turns. -/
def turnsD (l : List Dn) (ts : List Tn) : List Dn := ts.foldl turnD l
def dirF (F : Fs) : List Dn := turnsD F.sure F.turns
/-- Bytes behind a unit. -/
def unB (b : List Int) (u : Un) : List Int := if u.cut = true then b.take u.n.toNat else b ++ [u.b]
def unsB (b : List Int) (us : List Un) : List Int := us.foldl unB b
/-- A file's bytes. -/
def bytF (x : Fi) : List Int := unsB x.sure x.us
/-- Each cut is within what there is. -/
def okUs : List Int → List Un → Prop
  | _, [] => True
  | b, u :: t => (u.cut = true → 0 ≤ u.n ∧ u.n ≤ b.length) ∧ okUs (unB b u) t
def emF : Fi := ⟨[], []⟩
def fileF (F : Fs) (s : ByteArray) : Option Nat := fileD (dirF F) s
def atF (F : Fs) (k : Nat) : Fi := F.files.getD k emF
/-- A name's bytes. -/
def readF (F : Fs) (s : ByteArray) : Option (List Int) := (fileF F s).map fun k => bytF (atF F k)
/-- The place of a name, looked for from behind. -/
def backN (l : List ByteArray) (s : ByteArray) : Nat → Nat
  | 0 => 0
  | k + 1 => if Op.bytesLess s.toList (l.getD k ByteArray.empty).toList = true then backN l s k else k + 1
theorem backN_le (l : List ByteArray) (s : ByteArray) : ∀ k, backN l s k ≤ k
  | 0 => Nat.le_refl _
  | k + 1 => by
    unfold backN
    split
    · exact Nat.le_trans (backN_le l s k) (by omega)
    · exact Nat.le_refl _
/-- A name in its place. -/
def insN (l : List ByteArray) (s : ByteArray) : List ByteArray := l.take (backN l s l.length) ++ s :: l.drop (backN l s l.length)
def listD (l : List Dn) : List ByteArray := l.foldl (fun m d => insN m d.nm) []
def listF (F : Fs) : List ByteArray := listD (dirF F)
/-- May a name be? -/
def mayN (s : ByteArray) : Bool := decide (1 ≤ s.size) && decide (s.size ≤ 64)
/-- A call begins: what it answers, if it fails. -/
def callF (F : Fs) : Fs × Option Int :=
  if F.dark = true then ({ F with n := F.n + 1 }, some 15)
  else if F.armed = false then ({ F with n := F.n + 1 }, none)
  else if 0 < F.after then ({ F with n := F.n + 1, after := F.after - 1 }, none)
  else if F.kind = 0 then ({ F with n := F.n + 1, armed := false, dark := true }, some 15)
  else ({ F with n := F.n + 1, armed := false }, some F.kind)
/-- Bytes behind a file's. -/
def moreU (b : List Int) : List Un := b.map fun x => ⟨x, false, 0⟩
def moreF (F : Fs) (k : Nat) (us : List Un) : Fs := { F with files := F.files.set k ⟨(atF F k).sure, (atF F k).us ++ us⟩ }
def createF (F : Fs) (s : ByteArray) : Fs × Int := match callF F with
  | (G, some e) => (G, e)
  | (G, none) => if mayN s = false then (G, 1) else if (findD (dirF G) s).isNone = true ∧ 1024 ≤ (dirF G).length then (G, 2)
    else ({ G with files := G.files ++ [emF], turns := G.turns ++ [⟨0, s, ByteArray.empty, G.files.length⟩] }, 0)
def appendF (F : Fs) (s : ByteArray) (b : List Int) : Fs × Int := match callF F with
  | (G, some e) => match fileF G s with
    | none => (G, e)
    | some k => if F.dark = false ∧ (bytF (atF G k)).length + b.length / 2 ≤ 1073741824 then (moreF G k (moreU (b.take (b.length / 2))), e) else (G, e)
  | (G, none) => if mayN s = false then (G, 1) else match fileF G s with
    | none => (G, 3)
    | some k => if 1073741824 < (bytF (atF G k)).length + b.length then (G, 2) else (moreF G k (moreU b), 0)
def cutF (F : Fs) (s : ByteArray) (z : Int) : Fs × Int := match callF F with
  | (G, some e) => (G, e)
  | (G, none) => if mayN s = false then (G, 1) else match fileF G s with
    | none => (G, 3)
    | some k => if z < 0 ∨ (bytF (atF G k)).length < z then (G, 1) else (moreF G k [⟨0, true, z⟩], 0)
def syncF (F : Fs) (s : ByteArray) : Fs × Int := match callF F with
  | (G, some e) => (G, e)
  | (G, none) => if mayN s = false then (G, 1) else match fileF G s with
    | none => (G, 3)
    | some k => ({ G with files := G.files.set k ⟨bytF (atF G k), []⟩ }, 0)
def syncdirF (F : Fs) : Fs × Int := match callF F with
  | (G, some e) => (G, e)
  | (G, none) => ({ G with sure := dirF G, turns := [] }, 0)
def laidF (ns : List ByteArray) (ds : List (List Int)) : Option Fs × Int :=
  if ns.length ≠ ds.length then (none, 1)
  else if ¬ ((∀ s ∈ ns, mayN s = true) ∧ ns.Nodup) then (none, 1)
  else if 1024 < ns.length ∨ ∃ b ∈ ds, 1073741824 < b.length then (none, 2)
  else (some { fs0 with files := ds.map fun b => ⟨b, []⟩, sure := ns.mapIdx fun i s => ⟨s, i⟩ }, 0)

theorem findD_none {l : List Dn} {s : ByteArray} (h : ∀ d ∈ l, ¬ d.nm = s) : findD l s = none := by
  induction l with
  | nil => rfl
  | cons d t ih =>
    unfold findD
    rw [if_neg (h d (by simp)), ih (fun x hx => h x (by simp [hx]))]
    rfl
theorem findD_at {l : List Dn} {s : ByteArray} {k : Nat} {d : Dn} (hk : l[k]? = some d) (he : d.nm = s) (hn : ∀ j x, j < k → l[j]? = some x → ¬ x.nm = s) : findD l s = some k := by
  induction l generalizing k with
  | nil => simp at hk
  | cons y t ih =>
    unfold findD
    cases k with
    | zero =>
      simp at hk
      subst hk
      rw [if_pos he]
    | succ k =>
      rw [if_neg (hn 0 y (by omega) rfl), ih (k := k) (by simpa using hk) (fun j x hj hx => hn (j + 1) x (by omega) (by simpa using hx))]
      rfl
theorem findD_some {l : List Dn} {s : ByteArray} {k : Nat} (h : findD l s = some k) : ∃ d, l[k]? = some d ∧ d.nm = s ∧ k < l.length := by
  induction l generalizing k with
  | nil => simp [findD] at h
  | cons y t ih =>
    unfold findD at h
    split at h
    · rename_i hy
      obtain rfl : 0 = k := by simpa using h
      exact ⟨y, rfl, hy, by simp⟩
    · cases hf : findD t s with
      | none => rw [hf] at h; simp at h
      | some j =>
        rw [hf] at h
        obtain rfl : j + 1 = k := by simpa using h
        obtain ⟨d, h1, h2, h3⟩ := ih hf
        exact ⟨d, by simpa using h1, h2, by simp; omega⟩
theorem wout_len (l : List Dn) (s : ByteArray) : (wout l s).length ≤ l.length := List.length_filter_le _ _
theorem wout_mem {l : List Dn} {s : ByteArray} {d : Dn} (h : d ∈ wout l s) : d ∈ l ∧ ¬ d.nm = s := by
  unfold wout at h
  rw [List.mem_filter] at h
  exact ⟨h.1, by simpa using h.2⟩
theorem turnD_len (l : List Dn) (t : Tn) : (turnD l t).length ≤ l.length + 1 := by
  have h1 := wout_len l t.nm
  have h2 := wout_len (wout l t.nm) t.to
  unfold turnD
  split
  · simp; omega
  · split
    · split
      · omega
      · split
        · omega
        · simp; omega
    · omega
theorem turnsD_len (ts : List Tn) : ∀ l : List Dn, (turnsD l ts).length ≤ l.length + ts.length := by
  induction ts with
  | nil => intro l; simp [turnsD]
  | cons t r ih =>
    intro l
    have h1 := ih (turnD l t)
    have h2 := turnD_len l t
    unfold turnsD at h1 ⊢
    rw [List.foldl_cons]
    simp
    omega
/-- File numbers within. -/
def FilesIn (m : Nat) (l : List Dn) : Prop := ∀ d ∈ l, d.f < m
theorem fileD_in {l : List Dn} {m : Nat} (h : FilesIn m l) {s : ByteArray} {k : Nat} (hk : fileD l s = some k) : k < m := by
  unfold fileD at hk
  rw [Option.bind_eq_some_iff] at hk
  obtain ⟨j, _, h2⟩ := hk
  rw [Option.map_eq_some_iff] at h2
  obtain ⟨d, h3, rfl⟩ := h2
  exact h d (List.mem_of_getElem? h3)
theorem FilesIn.wout {l : List Dn} {m : Nat} (h : FilesIn m l) (s : ByteArray) : FilesIn m (wout l s) := fun d hd => h d (wout_mem hd).1
theorem FilesIn.app {l r : List Dn} {m : Nat} (h : FilesIn m l) (k : FilesIn m r) : FilesIn m (l ++ r) := fun d hd => (List.mem_append.1 hd).elim (h d) (k d)
theorem FilesIn.one {m : Nat} {s : ByteArray} {k : Nat} (h : k < m) : FilesIn m [⟨s, k⟩] := fun d hd => by
  obtain rfl := List.mem_singleton.1 hd
  exact h
theorem FilesIn.turn {l : List Dn} {m : Nat} {t : Tn} (h : FilesIn m l) (ht : t.k = 0 → t.f < m) : FilesIn m (turnD l t) := by
  unfold turnD
  split
  · exact (h.wout _).app (FilesIn.one (ht (by assumption)))
  · split
    · split
      · exact h
      · rename_i hf
        split
        · exact h
        · exact ((h.wout _).wout _).app (FilesIn.one (fileD_in h hf))
    · exact h.wout _
theorem FilesIn.turns {ts : List Tn} {m : Nat} (ht : ∀ t ∈ ts, t.k = 0 → t.f < m) : ∀ {l : List Dn}, FilesIn m l → FilesIn m (turnsD l ts) := by
  induction ts with
  | nil => intro l h; exact h
  | cons t r ih =>
    intro l h
    unfold turnsD
    rw [List.foldl_cons]
    exact ih (fun x hx => ht x (by simp [hx])) (h.turn (ht t (by simp)))
/-- As a file system may be: numbers within, cuts within, bytes are bytes. -/
structure GoodV (F : Fs) : Prop where
  sure : FilesIn F.files.length F.sure
  turns : ∀ t ∈ F.turns, t.k ≤ 2 ∧ (t.k = 0 → t.f < F.files.length)
  cuts : ∀ x ∈ F.files, okUs x.sure x.us
  byte : ∀ x ∈ F.files, (∀ z ∈ x.sure, 0 ≤ z ∧ z ≤ 255) ∧ ∀ u ∈ x.us, (0 ≤ u.b ∧ u.b ≤ 255)
  aft : 0 ≤ F.after ∧ F.after ≤ 9223372036854775807
  knd : F.kind = 0 ∨ F.kind = 14 ∨ F.kind = 15
theorem GoodV.dir {F : Fs} (h : GoodV F) : FilesIn F.files.length (dirF F) := FilesIn.turns (fun t ht => (h.turns t ht).2) h.sure
theorem GoodV.file {F : Fs} (h : GoodV F) {s : ByteArray} {k : Nat} (hk : fileF F s = some k) : k < F.files.length := fileD_in h.dir hk
theorem good0 : GoodV fs0 := ⟨fun d hd => by simp [fs0] at hd, fun t ht => by simp [fs0] at ht, fun x hx => by simp [fs0] at hx, fun x hx => by simp [fs0] at hx, ⟨by decide, by decide⟩, Or.inl rfl⟩
theorem callF_cases (F : Fs) : (F.dark = true ∧ callF F = ({ F with n := F.n + 1 }, some 15)) ∨ (F.dark = false ∧ F.armed = false ∧ callF F = ({ F with n := F.n + 1 }, none)) ∨ (F.dark = false ∧ F.armed = true ∧ 0 < F.after ∧ callF F = ({ F with n := F.n + 1, after := F.after - 1 }, none)) ∨ (F.dark = false ∧ F.armed = true ∧ ¬ 0 < F.after ∧ F.kind = 0 ∧ callF F = ({ F with n := F.n + 1, armed := false, dark := true }, some 15)) ∨ (F.dark = false ∧ F.armed = true ∧ ¬ 0 < F.after ∧ ¬ F.kind = 0 ∧ callF F = ({ F with n := F.n + 1, armed := false }, some F.kind)) := by
  unfold callF
  cases hd : F.dark with
  | true => left; simp
  | false =>
    right
    cases ha : F.armed with
    | false => left; simp
    | true =>
      right
      by_cases h : 0 < F.after
      · left; simp [h]
      · right
        by_cases hk : F.kind = 0
        · left; simp [h, hk]
        · right; simp [h, hk]
/-- Its lists stay. -/
theorem callF_same (F : Fs) : (callF F).1.files = F.files ∧ (callF F).1.sure = F.sure ∧ (callF F).1.turns = F.turns ∧ (callF F).1.n = F.n + 1 := by
  rcases callF_cases F with ⟨_, h⟩ | ⟨_, _, h⟩ | ⟨_, _, _, h⟩ | ⟨_, _, _, _, h⟩ | ⟨_, _, _, _, h⟩ <;> rw [h] <;> exact ⟨rfl, rfl, rfl, rfl⟩
theorem GoodV.like {F G : Fs} (h : GoodV F) (e1 : G.files = F.files) (e2 : G.sure = F.sure) (e3 : G.turns = F.turns) (ha : 0 ≤ G.after ∧ G.after ≤ 9223372036854775807) (hk : G.kind = 0 ∨ G.kind = 14 ∨ G.kind = 15) : GoodV G :=
  ⟨by rw [e1, e2]; exact h.sure, by rw [e1, e3]; exact h.turns, by rw [e1]; exact h.cuts, by rw [e1]; exact h.byte, ha, hk⟩
theorem GoodV.call {F : Fs} (h : GoodV F) : GoodV (callF F).1 := by
  obtain ⟨e1, e2, e3, -⟩ := callF_same F
  refine h.like e1 e2 e3 ?_ ?_
  · have := h.aft
    rcases callF_cases F with ⟨_, h⟩ | ⟨_, _, h⟩ | ⟨_, _, q, h⟩ | ⟨_, _, _, _, h⟩ | ⟨_, _, _, _, h⟩ <;> rw [h] <;> dsimp only <;> omega
  · have := h.knd
    rcases callF_cases F with ⟨_, h⟩ | ⟨_, _, h⟩ | ⟨_, _, q, h⟩ | ⟨_, _, _, _, h⟩ | ⟨_, _, _, _, h⟩ <;> rw [h] <;> exact this
/-- No more than so many of each. -/
structure Lim (m : Nat) (F : Fs) : Prop where
  files : F.files.length ≤ m
  sure : F.sure.length ≤ m
  turns : F.turns.length ≤ m
  each : ∀ x ∈ F.files, x.sure.length ≤ m ∧ x.us.length ≤ m
  n : 0 ≤ F.n ∧ F.n ≤ m
theorem unB_len (b : List Int) (u : Un) : (unB b u).length ≤ b.length + 1 := by
  unfold unB
  split
  · rw [List.length_take]; omega
  · simp
theorem unsB_len (us : List Un) : ∀ b : List Int, (unsB b us).length ≤ b.length + us.length := by
  induction us with
  | nil => intro b; simp [unsB]
  | cons u t ih =>
    intro b
    have h1 := ih (unB b u)
    have h2 := unB_len b u
    unfold unsB at h1 ⊢
    rw [List.foldl_cons]
    simp
    omega
theorem okUs_app (us vs : List Un) : ∀ b : List Int, okUs b (us ++ vs) ↔ okUs b us ∧ okUs (unsB b us) vs := by
  induction us with
  | nil => intro b; simp [okUs, unsB]
  | cons u t ih =>
    intro b
    simp only [List.cons_append, okUs, ih, unsB, List.foldl_cons]
    exact and_assoc.symm
theorem okUs_more (l : List Int) : ∀ b : List Int, okUs b (moreU l) := by
  induction l with
  | nil => intro b; trivial
  | cons x t ih => intro b; exact ⟨fun h => by simp at h, ih _⟩
theorem unsB_more (l : List Int) : ∀ b : List Int, unsB b (moreU l) = b ++ l := by
  induction l with
  | nil => intro b; simp [unsB, moreU]
  | cons x t ih =>
    intro b
    have := ih (b ++ [x])
    unfold unsB moreU at this ⊢
    rw [List.map_cons, List.foldl_cons]
    unfold unB at this ⊢
    simp at this ⊢
    exact this
theorem unsB_app (b : List Int) (us vs : List Un) : unsB b (us ++ vs) = unsB (unsB b us) vs := by unfold unsB; rw [List.foldl_append]
theorem atF_mem {F : Fs} {k : Nat} (hk : k < F.files.length) : atF F k ∈ F.files := by
  unfold atF
  rw [List.getD_eq_getElem?_getD, List.getElem?_eq_getElem hk]
  exact List.getElem_mem hk
theorem GoodV.synced {G : Fs} (h : GoodV G) {k : Nat} (hk : k < G.files.length) (hb : ∀ z ∈ bytF (atF G k), 0 ≤ z ∧ z ≤ 255) : GoodV { G with files := G.files.set k ⟨bytF (atF G k), []⟩ } := by
  have hm : ∀ x ∈ G.files.set k ⟨bytF (atF G k), []⟩, x ∈ G.files ∨ x = ⟨bytF (atF G k), []⟩ := fun x hx => by
    rcases List.mem_or_eq_of_mem_set hx with e | e
    · exact Or.inl e
    · exact Or.inr e
  refine ⟨by dsimp only; rw [List.length_set]; exact h.sure, by dsimp only; rw [List.length_set]; exact h.turns, fun x hx => ?_, fun x hx => ?_, h.aft, h.knd⟩
  · rcases hm x hx with e | rfl
    · exact h.cuts x e
    · trivial
  · rcases hm x hx with e | rfl
    · exact h.byte x e
    · exact ⟨hb, fun u hu => by simp at hu⟩
theorem unsB_byte {us : List Un} : ∀ {b : List Int}, (∀ z ∈ b, 0 ≤ z ∧ z ≤ 255) → (∀ u ∈ us, 0 ≤ u.b ∧ u.b ≤ 255) → ∀ z ∈ unsB b us, 0 ≤ z ∧ z ≤ 255 := by
  induction us with
  | nil => intro b h _; exact h
  | cons u t ih =>
    intro b h k
    have e : unsB b (u :: t) = unsB (unB b u) t := rfl
    rw [e]
    refine ih (fun z hz => ?_) (fun x hx => k x (by simp [hx]))
    unfold unB at hz
    split at hz
    · exact h z (List.mem_of_mem_take hz)
    · rcases List.mem_append.1 hz with q | q
      · exact h z q
      · obtain rfl := List.mem_singleton.1 q
        exact k u (by simp)
theorem GoodV.sync {G : Fs} (h : GoodV G) : GoodV { G with sure := dirF G, turns := [] } := ⟨h.dir, fun t ht => by simp at ht, h.cuts, h.byte, h.aft, h.knd⟩
theorem moreF_len (F : Fs) (k : Nat) (us : List Un) : (moreF F k us).files.length = F.files.length := by unfold moreF; simp
/-- Units more. -/
theorem GoodV.mores {G : Fs} (h : GoodV G) {k : Nat} (hk : k < G.files.length) {us : List Un} (hb : ∀ u ∈ us, 0 ≤ u.b ∧ u.b ≤ 255) (hc : okUs (bytF (atF G k)) us) : GoodV (moreF G k us) := by
  have hl := moreF_len G k us
  have hm : ∀ x ∈ (moreF G k us).files, x ∈ G.files ∨ x = ⟨(atF G k).sure, (atF G k).us ++ us⟩ := fun x hx => by
    unfold moreF at hx
    rcases List.mem_or_eq_of_mem_set hx with e | e
    · exact Or.inl e
    · exact Or.inr e
  have ha := atF_mem hk
  refine ⟨by rw [hl]; exact h.sure, by rw [hl]; exact h.turns, fun x hx => ?_, fun x hx => ?_, h.aft, h.knd⟩
  · rcases hm x hx with e | rfl
    · exact h.cuts x e
    · rw [okUs_app]
      exact ⟨h.cuts _ ha, hc⟩
  · rcases hm x hx with e | rfl
    · exact h.byte x e
    · refine ⟨(h.byte _ ha).1, fun v hv => ?_⟩
      rcases List.mem_append.1 hv with e | e
      · exact (h.byte _ ha).2 v e
      · exact hb v e
end Go.Proofs.YtknghoecjobkiaaGreatDoor

namespace Go.Proofs.YtknghoecjobkiaaGreatDoor
open Go.RowKit
set_option maxRecDepth 20000
/-- What a matcher's five cells hold. -/
structure Hm where
  op : Int
  nm : ByteArray
  vl : ByteArray
  va : Option Addr
  vn : Nat
  vc : Nat
  ka : Option Addr
  kn : Nat
  kc : Nat
def Hm.cells (h : Hm) : List Value := [.int .i64 h.op, .string h.nm, .string h.vl, .slice h.va h.vn h.vc, .slice h.ka h.kn h.kc]
def five (w : World) (b off : Nat) (h : Hm) : Prop := ∀ j v, h.cells[j]? = some v → w.cell? ⟨b, off + j, none⟩ = some v
/-- A row of texts, in one of these blocks. -/
def TxR (S : Nat → Prop) (w : World) (a : Option Addr) (n : Nat) (ss : List ByteArray) : Prop :=
  ss.length = n ∧ n * 16 ≤ 140737488355328 ∧ (∀ s ∈ ss, s.size ≤ 9223372036854775807) ∧
  (n = 0 ∨ ∃ b off, a = some ⟨b, off, none⟩ ∧ S b ∧ ∀ i, i < n → w.cell? ⟨b, off + i, none⟩ = some (.string (ss.getD i ByteArray.empty)))
/-- Cells as cells may be. -/
structure HmW (h : Hm) : Prop where
  op : (Lit.int .i64 h.op).wf = true
  nm : h.nm.size ≤ 9223372036854775807
  vl : h.vl.size ≤ 9223372036854775807
  vn : h.vn ≤ h.vc
  vz : h.va = none → h.vc = 0
  kn : h.kn * 88 ≤ 140737488355328
  kle : h.kn ≤ h.kc
  kz : h.ka = none → h.kc = 0

mutual
/-- Cells that show a matcher, all of it in these blocks. -/
def SeeM (S : Nat → Prop) (w : World) : Mt → Hm → Prop
  | .mk op nm vl vs ks, h => h.op = op ∧ h.nm = nm ∧ h.vl = vl ∧ HmW h ∧ TxR S w h.va h.vn vs ∧ ks.length = h.kn ∧ (h.kn = 0 ∨ ∃ b off, h.ka = some ⟨b, off, none⟩ ∧ S b ∧ SeeKs S w ks b off)
def SeeKs (S : Nat → Prop) (w : World) : List Mt → Nat → Nat → Prop
  | [], _, _ => True
  | k :: ks, b, off => (∃ h, five w b off h ∧ SeeM S w k h) ∧ SeeKs S w ks b (off + 5)
end
theorem seeKs_iff {S : Nat → Prop} {w : World} {ks : List Mt} {b off : Nat} : SeeKs S w ks b off ↔ ∀ i k, ks[i]? = some k → ∃ h, five w b (off + i * 5) h ∧ SeeM S w k h := by
  induction ks generalizing off with
  | nil => simp [SeeKs]
  | cons x t ih =>
    rw [SeeKs, ih]
    constructor
    · rintro ⟨h0, h1⟩ i k hi
      cases i with
      | zero =>
        simp only [List.getElem?_cons_zero, Option.some.injEq] at hi
        subst hi
        rw [Nat.zero_mul, Nat.add_zero]
        exact h0
      | succ i =>
        rw [List.getElem?_cons_succ] at hi
        obtain ⟨h, q1, q2⟩ := h1 i k hi
        exact ⟨h, by rw [show off + (i + 1) * 5 = off + 5 + i * 5 by omega]; exact q1, q2⟩
    · intro hh
      refine ⟨?_, fun i k hi => ?_⟩
      · have := hh 0 x rfl
        rw [Nat.zero_mul, Nat.add_zero] at this
        exact this
      · obtain ⟨h, q1, q2⟩ := hh (i + 1) k (by rw [List.getElem?_cons_succ]; exact hi)
        exact ⟨h, by rw [show off + 5 + i * 5 = off + (i + 1) * 5 by omega]; exact q1, q2⟩
theorem seeM_iff {S : Nat → Prop} {w : World} {m : Mt} {h : Hm} : SeeM S w m h ↔ h.op = m.op ∧ h.nm = m.nm ∧ h.vl = m.vl ∧ HmW h ∧ TxR S w h.va h.vn m.vs ∧ m.ks.length = h.kn ∧ (h.kn = 0 ∨ ∃ b off, h.ka = some ⟨b, off, none⟩ ∧ S b ∧ ∀ i k, m.ks[i]? = some k → ∃ h', five w b (off + i * 5) h' ∧ SeeM S w k h') := by
  cases m with
  | mk op nm vl vs ks =>
    rw [SeeM]
    simp only [seeKs_iff]
    exact Iff.rfl

section
variable {S : Nat → Prop} {w w' : World} {m : Mt} {h : Hm}
theorem five.lt {b off : Nat} (q : five w b off h) : b < w.heap.size := World.block_lt_of_cell? w _ (q 0 _ rfl)
theorem five.block {b off : Nat} (q : five w b off h) (e : w'.heap[b]? = w.heap[b]?) : five w' b off h := by
  intro j v hj
  have := q j v hj
  simp only [World.cell?] at this ⊢
  rw [e]
  exact this
theorem TxR.ch {C : Nat → Prop} {a : Option Addr} {n : Nat} {ss : List ByteArray} (q : TxR S w a n ss) (c : Ch C w w') (hn : ∀ k, S k → ¬ C k) : TxR S w' a n ss := by
  obtain ⟨h1, h2, h3, h4⟩ := q
  refine ⟨h1, h2, h3, ?_⟩
  rcases h4 with h4 | ⟨b, off, rfl, hs, hc⟩
  · exact Or.inl h4
  · by_cases h0 : n = 0
    · exact Or.inl h0
    · right
      have hlt : b < w.heap.size := World.block_lt_of_cell? w _ (hc 0 (by omega))
      refine ⟨b, off, rfl, hs, fun i hi => ?_⟩
      have := hc i hi
      simp only [World.cell?] at this ⊢
      rw [c.block b hlt (hn b hs)]
      exact this
theorem TxR.mono {S' : Nat → Prop} {a : Option Addr} {n : Nat} {ss : List ByteArray} (q : TxR S w a n ss) (hs : ∀ k, k < w.heap.size → S k → S' k) : TxR S' w a n ss := by
  obtain ⟨h1, h2, h3, h4⟩ := q
  refine ⟨h1, h2, h3, ?_⟩
  rcases h4 with h4 | ⟨b, off, rfl, hb, hc⟩
  · exact Or.inl h4
  · by_cases h0 : n = 0
    · exact Or.inl h0
    · exact Or.inr ⟨b, off, rfl, hs b (World.block_lt_of_cell? w _ (hc 0 (by omega))) hb, hc⟩
theorem SeeM.ch {C : Nat → Prop} (q : SeeM S w m h) (c : Ch C w w') (hn : ∀ k, S k → ¬ C k) : SeeM S w' m h := by
  refine Mt.ind (P := fun m => ∀ h, SeeM S w m h → SeeM S w' m h) ?_ m h q
  intro m ih h q
  rw [seeM_iff] at q ⊢
  obtain ⟨q1, q2, q3, q4, q5, q6, q7⟩ := q
  refine ⟨q1, q2, q3, q4, q5.ch c hn, q6, ?_⟩
  rcases q7 with q7 | ⟨b, off, hb, hs, hk⟩
  · exact Or.inl q7
  · right
    refine ⟨b, off, hb, hs, fun i k hi => ?_⟩
    obtain ⟨h', k1, k2⟩ := hk i k hi
    exact ⟨h', k1.block (c.block b k1.lt (hn b hs)), ih k (List.mem_of_getElem? hi) h' k2⟩
theorem SeeM.mono {S' : Nat → Prop} (q : SeeM S w m h) (hs : ∀ k, k < w.heap.size → S k → S' k) : SeeM S' w m h := by
  refine Mt.ind (P := fun m => ∀ h, SeeM S w m h → SeeM S' w m h) ?_ m h q
  intro m ih h q
  rw [seeM_iff] at q ⊢
  obtain ⟨q1, q2, q3, q4, q5, q6, q7⟩ := q
  refine ⟨q1, q2, q3, q4, q5.mono hs, q6, ?_⟩
  rcases q7 with q7 | ⟨b, off, hb, hsb, hk⟩
  · exact Or.inl q7
  · by_cases h0 : h.kn = 0
    · exact Or.inl h0
    · right
      have hx : m.ks[0]? = some m.ks[0] := List.getElem?_eq_getElem (by omega)
      obtain ⟨h0', k1, _⟩ := hk 0 _ hx
      refine ⟨b, off, hb, hs b k1.lt hsb, fun i k hi => ?_⟩
      obtain ⟨h', k1, k2⟩ := hk i k hi
      exact ⟨h', k1, ih k (List.mem_of_getElem? hi) h' k2⟩
theorem SeeM.below (q : SeeM S w m h) (hb : Below w.heap.size w w') : SeeM S w' m h := q.ch (Ch.of_below hb) (fun _ _ => id)
end
end Go.Proofs.YtknghoecjobkiaaGreatDoor

namespace Go.Proofs.YtknghoecjobkiaaGreatDoor
open Go.RowKit Go.ChangeShapes Go.Deep
set_option maxRecDepth 20000
theorem Tryz.infoL : (Tryz.prog.info? 191).map (fun i => (i.zero, i.size, i.bytes)) = some (some (.agg #[.string .empty, .string .empty]), 2, 32) := by kernel_rfl
def LbW (x : Lb) : Prop := x.1.size ≤ 9223372036854775807 ∧ x.2.size ≤ 9223372036854775807
/-- A slice of n labels. -/
def RowL (w : World) (a : Option Addr) (n : Nat) (l : List Lb) : Prop :=
  l.length = n ∧ n * 32 ≤ 140737488355328 ∧ (∀ x ∈ l, LbW x) ∧
  (n = 0 ∨ ∃ b off, a = some ⟨b, off, none⟩ ∧ ∀ i x, l[i]? = some x → w.cell? ⟨b, off + i * 2, none⟩ = some (.string x.1) ∧ w.cell? ⟨b, off + i * 2 + 1, none⟩ = some (.string x.2))
section
variable {B : Nat} {w w' : World} {a : Option Addr} {n : Nat} {l : List Lb}
theorem RowL.below (h : RowL w a n l) (hb : Below B w w') (hB : w.heap.size ≤ B) : RowL w' a n l := by
  obtain ⟨h1, h2, h3, h4⟩ := h
  refine ⟨h1, h2, h3, ?_⟩
  rcases h4 with h4 | ⟨b, off, rfl, hc⟩
  · exact Or.inl h4
  · right
    refine ⟨b, off, rfl, fun i x hi => ?_⟩
    have hlt : b < w.heap.size := World.block_lt_of_cell? w _ (hc i x hi).1
    rw [hb.cell (p := ⟨b, off + i * 2, none⟩) (Nat.lt_of_lt_of_le hlt hB), hb.cell (p := ⟨b, off + i * 2 + 1, none⟩) (Nat.lt_of_lt_of_le hlt hB)]
    exact hc i x hi
/-- A label's two cells, in every world that keeps what lay below. -/
theorem RowL.at' (h : RowL w a n l) {j : Nat} (hj : j < n) :
    ∃ b off x, a = some ⟨b, off, none⟩ ∧ l[j]? = some x ∧ LbW x ∧ ∀ W, Below w.heap.size w W → W.cell? ⟨b, off + j * 2, none⟩ = some (.string x.1) ∧ W.cell? ⟨b, off + j * 2 + 1, none⟩ = some (.string x.2) := by
  obtain ⟨h1, _, h3, h0 | ⟨b, off, rfl, hc⟩⟩ := h
  · omega
  · have hx : l[j]? = some l[j] := List.getElem?_eq_getElem (by omega)
    refine ⟨b, off, l[j], rfl, hx, h3 _ (List.getElem_mem _), fun W hW => ?_⟩
    have hlt : b < w.heap.size := World.block_lt_of_cell? w _ (hc j _ hx).1
    rw [hW.cell (p := ⟨b, off + j * 2, none⟩) hlt, hW.cell (p := ⟨b, off + j * 2 + 1, none⟩) hlt]
    exact hc j _ hx
end
def flatL (l : List Lb) : List Value := l.flatMap fun x => [.string x.1, .string x.2]
theorem flatL_cons (x : Lb) (l : List Lb) : flatL (x :: l) = [.string x.1, .string x.2] ++ flatL l := by simp [flatL]
theorem flatL_append (l m : List Lb) : flatL (l ++ m) = flatL l ++ flatL m := by simp [flatL]
theorem flatL_len (l : List Lb) : (flatL l).length = l.length * 2 := by
  induction l with
  | nil => rfl
  | cons x t ih => rw [flatL_cons, List.length_append, ih]; simp only [List.length_cons, List.length_nil]; omega
theorem flatL_get (l : List Lb) (i : Nat) (x : Lb) (h : l[i]? = some x) : (flatL l)[i * 2]? = some (.string x.1) ∧ (flatL l)[i * 2 + 1]? = some (.string x.2) := by
  induction l generalizing i with
  | nil => simp at h
  | cons y t ih =>
    rw [flatL_cons]
    cases i with
    | zero =>
      simp only [List.getElem?_cons_zero, Option.some.injEq] at h
      subst h
      simp
    | succ i =>
      simp only [List.getElem?_cons_succ] at h
      obtain ⟨h1, h2⟩ := ih i h
      rw [List.getElem?_append_right (by simp; omega), List.getElem?_append_right (by simp; omega)]
      simp only [List.length_cons, List.length_nil]
      rw [show (i + 1) * 2 - (0 + 1 + 1) = i * 2 by omega, show (i + 1) * 2 + 1 - (0 + 1 + 1) = i * 2 + 1 by omega]
      exact ⟨h1, h2⟩
/-- Labels in memory of the call's own. -/
def OwnL (w : World) (base : Nat) (a : Option Addr) (n cap : Nat) (l : List Lb) : Prop := w.ownsRow base 191 2 (.slice a n cap) n (flatL l)
section
variable {w w' : World} {base n cap : Nat} {a : Option Addr} {l : List Lb}
theorem OwnL.len (h : OwnL w base a n cap l) : l.length = n := by
  have := h.1
  rw [flatL_len] at this
  omega
theorem OwnL.capped (h : OwnL w base a n cap l) : n ≤ cap ∧ (a = none → n = 0 ∧ cap = 0) := by
  unfold OwnL at h
  rcases h.2 with ⟨h1, h2⟩ | ⟨g, c, cur, h1, _, _, h4, _⟩
  · simp only [Value.slice.injEq] at h1
    exact ⟨by omega, fun _ => ⟨by omega, by omega⟩⟩
  · simp only [Value.slice.injEq, true_and] at h1
    obtain ⟨rfl, rfl⟩ := h1
    exact ⟨h4, fun h => by simp at h⟩
theorem OwnL.row (h : OwnL w base a n cap l) (hn : n * 32 ≤ 140737488355328) (hf : ∀ x ∈ l, LbW x) : RowL w a n l := by
  have hl := h.len
  refine ⟨hl, hn, hf, ?_⟩
  unfold OwnL at h
  rcases id h.2 with ⟨h1, h2⟩ | ⟨g, c, cur, h1, _⟩
  · exact Or.inl h2
  · right
    simp only [Value.slice.injEq, true_and] at h1
    obtain ⟨rfl, rfl⟩ := h1
    refine ⟨g, 0, rfl, fun i x hi => ?_⟩
    have hlt : i < l.length := (List.getElem?_eq_some_iff.1 hi).1
    obtain ⟨g1, g2⟩ := flatL_get l i x hi
    rw [Nat.zero_add, h.cellAt (i * 2) (by omega), h.cellAt (i * 2 + 1) (by omega)]
    exact ⟨g1, g2⟩
theorem OwnL.block (h : OwnL w base a n cap l) : ∀ g, (Value.slice a n cap).ownBlock = some g → base ≤ g := fun _ hg => (row_cells h hg).2
end
end Go.Proofs.YtknghoecjobkiaaGreatDoor

namespace Go.Proofs.YtknghoecjobkiaaGreatDoor
set_option maxRecDepth 20000
set_option linter.unusedVariables false
/-- A digit. -/
def dgN (n : Nat) : UInt8 := UInt8.ofNat (48 + n % 10)
/-- A log file's name. -/
def nameW (n : Nat) : ByteArray := ⟨#[108, 111, 103, 45, dgN (n / 10000000), dgN (n / 1000000), dgN (n / 100000), dgN (n / 10000), dgN (n / 1000), dgN (n / 100), dgN (n / 10), dgN n]⟩
theorem nameW_size (n : Nat) : (nameW n).size = 12 := rfl
theorem dgN_inj {a b : Nat} (h : dgN a = dgN b) : a % 10 = b % 10 := by
  have := congrArg UInt8.toNat h
  unfold dgN at this
  simp at this
  omega
theorem nameW_inj {n m : Nat} (hn : n ≤ 99999999) (hm : m ≤ 99999999) (h : nameW n = nameW m) : n = m := by
  have h2 : (nameW n).data = (nameW m).data := congrArg ByteArray.data h
  unfold nameW at h2
  simp only [Array.mk.injEq, List.cons.injEq, true_and, and_true] at h2
  obtain ⟨a1, a2, a3, a4, a5, a6, a7, a8⟩ := h2
  have b1 := dgN_inj a1
  have b2 := dgN_inj a2
  have b3 := dgN_inj a3
  have b4 := dgN_inj a4
  have b5 := dgN_inj a5
  have b6 := dgN_inj a6
  have b7 := dgN_inj a7
  have b8 := dgN_inj a8
  omega
/-- A file's name, of any number. -/
def nmW (z : Int) : ByteArray := if 0 ≤ z ∧ z ≤ 99999999 then nameW z.toNat else ByteArray.empty
theorem nmW_of {z : Int} (h0 : 0 ≤ z) (h1 : z ≤ 99999999) : nmW z = nameW z.toNat := by
  unfold nmW
  rw [if_pos ⟨h0, h1⟩]
theorem nmW_no {z : Int} (h : ¬ (0 ≤ z ∧ z ≤ 99999999)) : nmW z = ByteArray.empty := by
  unfold nmW
  rw [if_neg h]
theorem nmW_size (z : Int) : (nmW z).size ≤ 12 := by
  unfold nmW
  split
  · rw [nameW_size]; omega
  · show (0 : Nat) ≤ 12
    omega
theorem nameW_ne (n : Nat) : ¬ nameW n = ByteArray.empty := fun h => by
  have := congrArg ByteArray.size h
  rw [nameW_size] at this
  cases this
theorem nmW_empty {z : Int} : nmW z = ByteArray.empty ↔ ¬ (0 ≤ z ∧ z ≤ 99999999) := by
  constructor
  · intro h k
    rw [nmW_of k.1 k.2] at h
    exact nameW_ne _ h
  · exact nmW_no
theorem nmW_inj {x y : Int} (hx : 0 ≤ x ∧ x ≤ 99999999) (hy : 0 ≤ y ∧ y ≤ 99999999) (h : nmW x = nmW y) : x = y := by
  rw [nmW_of hx.1 hx.2, nmW_of hy.1 hy.2] at h
  have := nameW_inj (by omega) (by omega) h
  omega

/-- The last so many digits. -/
def padN : Nat → Nat → List UInt8
  | 0, _ => []
  | k + 1, n => padN k (n / 10) ++ [dgN n]
theorem padN_zero : ∀ k, padN k 0 = Lib.repeatL [48] k
  | 0 => rfl
  | k + 1 => by
    rw [padN, Nat.zero_div, padN_zero k, Lib.repeatL_add, Lib.repeatL_one]
    rfl
theorem padN_dec : ∀ k n, 1 ≤ k → n < 10 ^ k → Lib.repeatL [48] (k - (Lib.decDigits n).length) ++ Lib.decDigits n = padN k n
  | 0, n, h, _ => by omega
  | k + 1, n, _, hn => by
    by_cases h : n < 10
    · rw [Lib.decDigits_one h, padN, show n / 10 = 0 by omega, padN_zero]
      unfold dgN
      rw [show n % 10 = n by omega]
      rfl
    · have hk : 1 ≤ k := by
        cases k with
        | zero => simp at hn; omega
        | succ k => omega
      have ih := padN_dec k (n / 10) hk (by rw [Nat.pow_succ] at hn; omega)
      rw [Lib.decDigits, dif_neg h, List.length_append, ← List.append_assoc, show k + 1 - ((Lib.decDigits (n / 10)).length + [UInt8.ofNat (48 + n % 10)].length) = k - (Lib.decDigits (n / 10)).length by simp only [List.length_cons, List.length_nil]; omega, ih, padN]
      rfl
theorem nameW_list (n : Nat) : (nameW n).data.toList = [108, 111, 103, 45] ++ padN 8 n := by
  unfold nameW
  simp only [padN, Nat.div_div_eq_div_mul, Nat.reduceMul, List.nil_append, List.cons_append]
/-- What is put before the digits, and they. -/
theorem name_of {n : Nat} (h : n ≤ 99999999) : [108, 111, 103, 45] ++ (Lib.repeatL [48] (8 - (Lib.itoa (n : Int)).length) ++ Lib.itoa (n : Int)) = (nameW n).data.toList := by
  have e : Lib.itoa (n : Int) = Lib.decDigits n := by
    unfold Lib.itoa
    rw [if_neg (by omega), Int.toNat_natCast]
  rw [e, padN_dec 8 n (by omega) (by omega), nameW_list]
theorem itoa_len {n : Nat} (h : n ≤ 99999999) : 1 ≤ (Lib.itoa (n : Int)).length ∧ (Lib.itoa (n : Int)).length ≤ 8 := by
  have e : Lib.itoa (n : Int) = Lib.decDigits n := by
    unfold Lib.itoa
    rw [if_neg (by omega), Int.toNat_natCast]
  rw [e, Lib.decDigits_length]
  refine ⟨Lib.nDigits_pos n, ?_⟩
  apply Classical.byContradiction
  intro h9
  have h1 : ∀ k u, k < Lib.nDigits u → 10 ^ k ≤ u ∨ k = 0 := by
    intro k
    induction k with
    | zero => intro u _; exact Or.inr rfl
    | succ k ih =>
      intro u hu
      by_cases h10 : u < 10
      · rw [Lib.nDigits_small h10] at hu; omega
      · rw [Lib.nDigits_big h10] at hu
        rcases ih (u / 10) (by omega) with q | q
        · left; rw [Nat.pow_succ]; omega
        · subst q; left; simp; omega
  rcases h1 8 n (by omega) with q | q
  · simp at q; omega
  · omega

/-- No more than so many of each, together. -/
structure LimB (m : Nat) (F : Fs) : Prop where
  files : F.files.length ≤ m
  names : F.sure.length + F.turns.length ≤ m
  each : ∀ x ∈ F.files, x.sure.length + x.us.length ≤ m
  n : 0 ≤ F.n ∧ F.n ≤ m
theorem LimB.lim {m : Nat} {F : Fs} (h : LimB m F) : Lim m F := ⟨h.files, by have := h.names; omega, by have := h.names; omega, fun x hx => by have := h.each x hx; omega, h.n⟩
theorem LimB.mono {m m' : Nat} {F : Fs} (h : LimB m F) (k : m ≤ m') : LimB m' F := ⟨by have := h.files; omega, by have := h.names; omega, fun x hx => by have := h.each x hx; omega, by have := h.n; omega⟩
theorem limB0 : LimB 0 fs0 := ⟨Nat.le_refl _, Nat.le_refl _, fun x hx => by simp [fs0] at hx, by decide⟩
theorem limB_at {m : Nat} {F : Fs} (h : LimB m F) (k : Nat) : (atF F k).sure.length + (atF F k).us.length ≤ m := by
  unfold atF
  rw [List.getD_eq_getElem?_getD]
  cases e : F.files[k]? with
  | none => simp [emF]
  | some x => exact h.each x (List.mem_of_getElem? e)
theorem LimB.call {m : Nat} {F : Fs} (h : LimB m F) : LimB (m + 1) (callF F).1 := by
  obtain ⟨e1, e2, e3, e4⟩ := callF_same F
  refine ⟨by rw [e1]; have := h.files; omega, by rw [e2, e3]; have := h.names; omega, fun x hx => by rw [e1] at hx; have := h.each x hx; omega, by rw [e4]; have := h.n; omega⟩
theorem LimB.put {m : Nat} {F : Fs} (h : LimB m F) {k : Nat} {x : Fi} (hx : x.sure.length + x.us.length ≤ m) : LimB m { F with files := F.files.set k x } := by
  refine ⟨by dsimp only; rw [List.length_set]; exact h.files, h.names, fun y hy => ?_, h.n⟩
  rcases List.mem_or_eq_of_mem_set hy with q | q
  · exact h.each y q
  · rw [q]; exact hx
theorem LimB.create {m : Nat} {F : Fs} (h : LimB m F) (s : ByteArray) : LimB (m + 2) (createF F s).1 := by
  unfold createF
  have hc := h.call
  rcases hq : callF F with ⟨G, _ | e⟩ <;> rw [hq] at hc <;> dsimp only at hc ⊢
  · split
    · exact hc.mono (by omega)
    · split
      · exact hc.mono (by omega)
      · refine ⟨by have := hc.files; dsimp only; rw [List.length_append, List.length_singleton]; omega, by have := hc.names; dsimp only; rw [List.length_append, List.length_singleton]; omega, fun x hx => ?_, by have := hc.n; dsimp only; omega⟩
        rcases List.mem_append.1 hx with q | q
        · have := hc.each x q; omega
        · obtain rfl := List.mem_singleton.1 q
          simp [emF]
  · exact hc.mono (by omega)
theorem LimB.more {m : Nat} {F : Fs} (h : LimB m F) (k : Nat) (us : List Un) : LimB (m + us.length) (moreF F k us) := by
  unfold moreF
  refine (h.mono (by omega)).put ?_
  dsimp only
  have := limB_at h k
  rw [List.length_append]
  omega
theorem LimB.append {m : Nat} {F : Fs} (h : LimB m F) (s : ByteArray) (b : List Int) : LimB (m + 1 + b.length) (appendF F s b).1 := by
  unfold appendF
  have hc := h.call
  rcases hq : callF F with ⟨G, _ | e⟩ <;> rw [hq] at hc <;> dsimp only at hc ⊢
  · split
    · exact hc.mono (by omega)
    · split
      · exact hc.mono (by omega)
      · rename_i k hk
        split
        · exact hc.mono (by omega)
        · exact (hc.more k _).mono (by unfold moreU; rw [List.length_map]; exact Nat.le_refl _)
  · split
    · exact hc.mono (by omega)
    · rename_i k hk
      split
      · exact (hc.more k _).mono (by unfold moreU; rw [List.length_map, List.length_take]; omega)
      · exact hc.mono (by omega)
theorem LimB.cut {m : Nat} {F : Fs} (h : LimB m F) (s : ByteArray) (z : Int) : LimB (m + 2) (cutF F s z).1 := by
  unfold cutF
  have hc := h.call
  rcases hq : callF F with ⟨G, _ | e⟩ <;> rw [hq] at hc <;> dsimp only at hc ⊢
  · split
    · exact hc.mono (by omega)
    · split
      · exact hc.mono (by omega)
      · rename_i k hk
        split
        · exact hc.mono (by omega)
        · exact (hc.more k _).mono (by simp)
  · exact hc.mono (by omega)
theorem LimB.sync {m : Nat} {F : Fs} (h : LimB m F) (s : ByteArray) : LimB (m + 1) (syncF F s).1 := by
  unfold syncF
  have hc := h.call
  rcases hq : callF F with ⟨G, _ | e⟩ <;> rw [hq] at hc <;> dsimp only at hc ⊢
  · split
    · exact hc
    · split
      · exact hc
      · rename_i k hk
        refine hc.put ?_
        have h1 := limB_at hc k
        have h2 := unsB_len (atF G k).us (atF G k).sure
        unfold bytF
        simp
        omega
  · exact hc
theorem LimB.syncdir {m : Nat} {F : Fs} (h : LimB m F) : LimB (m + 1) (syncdirF F).1 := by
  unfold syncdirF
  have hc := h.call
  rcases hq : callF F with ⟨G, _ | e⟩ <;> rw [hq] at hc <;> dsimp only at hc ⊢
  · refine ⟨hc.files, ?_, hc.each, hc.n⟩
    have h1 := turnsD_len G.turns G.sure
    have h2 := hc.names
    unfold dirF
    simp
    omega
  · exact hc
/-- Pending units in one: so many bytes appended, or what a cut took. -/
abbrev Pu := Nat × List Int
/-- Pending units behind bytes, in such groups. -/
inductive Pd (b : List Int) : List Un → List Pu → Prop
  | nil : Pd b [] []
  | app (us : List Un) (ps : List Pu) (l : List Int) : Pd b us ps → l ≠ [] → Pd b (us ++ moreU l) (ps ++ [(l.length, [])])
  | cut (us : List Un) (ps : List Pu) (n : Nat) : Pd b us ps → n ≤ (unsB b us).length → Pd b (us ++ [⟨0, true, (n : Int)⟩]) (ps ++ [(0, (unsB b us).drop n)])
theorem moreU_len (l : List Int) : (moreU l).length = l.length := by unfold moreU; simp
theorem moreU_app (l r : List Int) : moreU (l ++ r) = moreU l ++ moreU r := by unfold moreU; simp
theorem Pd.last {b : List Int} {us : List Un} {ps : List Pu} {p : Pu} (h : Pd b us (ps ++ [p])) :
    (0 < p.1 ∧ p.2 = [] ∧ ∃ us' l, us = us' ++ moreU l ∧ l.length = p.1 ∧ Pd b us' ps) ∨ (p.1 = 0 ∧ ∃ us' n, us = us' ++ [⟨0, true, (n : Int)⟩] ∧ n ≤ (unsB b us').length ∧ p.2 = (unsB b us').drop n ∧ Pd b us' ps) := by
  generalize hp : ps ++ [p] = qs at h
  cases h with
  | nil => simp at hp
  | app us ps' l h1 h2 =>
    obtain ⟨rfl, e⟩ := List.append_inj' hp rfl
    obtain rfl := List.singleton_inj.1 e
    exact Or.inl ⟨List.length_pos_iff.2 h2, rfl, us, l, rfl, rfl, h1⟩
  | cut us ps' n h1 h2 =>
    obtain ⟨rfl, e⟩ := List.append_inj' hp rfl
    obtain rfl := List.singleton_inj.1 e
    exact Or.inr ⟨rfl, us, n, rfl, h2, rfl, h1⟩
theorem Pd.len {b : List Int} {us : List Un} {ps : List Pu} (h : Pd b us ps) : ps.length ≤ us.length := by
  induction h with
  | nil => exact Nat.le_refl _
  | app us ps l h1 h2 ih =>
    have := List.length_pos_iff.2 h2
    simp [moreU_len]
    omega
  | cut us ps n h1 h2 ih => simp; exact ih
theorem Pd.more {b : List Int} {us : List Un} {ps : List Pu} {p : Pu} (h : Pd b us (ps ++ [p])) (hp : 0 < p.1) (l : List Int) : Pd b (us ++ moreU l) (ps ++ [(p.1 + l.length, p.2)]) := by
  rcases h.last with ⟨_, e2, us', l', rfl, e, h1⟩ | ⟨e, _⟩
  · have h2 : l' ≠ [] := by intro q; subst q; simp at e; omega
    have := Pd.app us' ps (l' ++ l) h1 (by simp [h2])
    rw [moreU_app, ← List.append_assoc, List.length_append, e] at this
    rw [e2]
    exact this
  · omega
theorem fileD_cons_ne {d : Dn} {t : ByteArray} (h : ¬ d.nm = t) (r : List Dn) : fileD (d :: r) t = fileD r t := by
  unfold fileD
  conv => lhs; unfold findD
  rw [if_neg h]
  cases findD r t <;> simp
theorem fileD_cons_eq {d : Dn} {t : ByteArray} (h : d.nm = t) (r : List Dn) : fileD (d :: r) t = some d.f := by
  unfold fileD findD
  rw [if_pos h]; simp
theorem findD_wout (l : List Dn) (s t : ByteArray) : fileD (wout l s) t = if t = s then none else fileD l t := by
  induction l with
  | nil => simp [wout, fileD, findD]
  | cons d r ih =>
    unfold wout at ih ⊢
    by_cases e : d.nm = s
    · rw [List.filter_cons_of_neg (by simp [e]), ih]
      by_cases h : t = s
      · rw [if_pos h, if_pos h]
      · rw [if_neg h, if_neg h, fileD_cons_ne (by rw [e]; exact fun q => h q.symm)]
    · rw [List.filter_cons_of_pos (by simp [e])]
      by_cases h : d.nm = t
      · have : ¬ t = s := by rw [← h]; exact e
        rw [if_neg this, fileD_cons_eq h, fileD_cons_eq h]
      · rw [fileD_cons_ne h, fileD_cons_ne h, ih]
theorem fileD_snoc (l : List Dn) (s : ByteArray) (f : Nat) (t : ByteArray) : fileD (l ++ [⟨s, f⟩]) t = (fileD l t).or (if t = s then some f else none) := by
  induction l with
  | nil =>
    rw [List.nil_append]
    by_cases h : s = t
    · rw [fileD_cons_eq h, if_pos h.symm]; rfl
    · rw [fileD_cons_ne h, if_neg (fun e => h e.symm)]; rfl
  | cons d r ih =>
    rw [List.cons_append]
    by_cases h : d.nm = t
    · rw [fileD_cons_eq h, fileD_cons_eq h]; rfl
    · rw [fileD_cons_ne h, fileD_cons_ne h, ih]
theorem fileD_mem {l : List Dn} {s : ByteArray} {f : Nat} (h : fileD l s = some f) : (⟨s, f⟩ : Dn) ∈ l := by
  induction l with
  | nil => simp [fileD, findD] at h
  | cons d r ih =>
    by_cases e : d.nm = s
    · rw [fileD_cons_eq e] at h
      obtain rfl := Option.some.inj h
      subst e
      simp
    · rw [fileD_cons_ne e] at h
      exact List.mem_cons_of_mem _ (ih h)
theorem fileD_none {l : List Dn} {s : ByteArray} (h : fileD l s = none) : ∀ d ∈ l, ¬ d.nm = s := by
  induction l with
  | nil => intro d hd; simp at hd
  | cons x r ih =>
    intro d hd e
    by_cases q : x.nm = s
    · rw [fileD_cons_eq q] at h; simp at h
    · rw [fileD_cons_ne q] at h
      rcases List.mem_cons.1 hd with rfl | hd
      · exact q e
      · exact ih h d hd e
theorem fileD_isNone (l : List Dn) (s : ByteArray) : (findD l s).isNone = (fileD l s).isNone := by
  unfold fileD
  cases h : findD l s with
  | none => rfl
  | some k =>
    obtain ⟨d, h1, _, _⟩ := findD_some h
    simp [h1]
/-- Names that may be, each once; files, each once. -/
structure NamesD (l : List Dn) : Prop where
  may : ∀ d ∈ l, mayN d.nm = true
  once : (l.map (·.nm)).Nodup
  files : (l.map (·.f)).Nodup
theorem namesD_nil : NamesD [] := ⟨fun d hd => by simp at hd, by simp, by simp⟩
theorem fileD_at {l : List Dn} (h : NamesD l) {d : Dn} (hd : d ∈ l) : fileD l d.nm = some d.f := by
  have h2 := h.once
  clear h
  induction l with
  | nil => simp at hd
  | cons x r ih =>
    rw [List.map_cons, List.nodup_cons] at h2
    by_cases e : x.nm = d.nm
    · rcases List.mem_cons.1 hd with rfl | hd
      · exact fileD_cons_eq rfl _
      · exact absurd (List.mem_map.2 ⟨d, hd, e.symm⟩) h2.1
    · rw [fileD_cons_ne e]
      rcases List.mem_cons.1 hd with rfl | hd
      · exact absurd rfl e
      · exact ih hd h2.2
theorem NamesD.less {l : List Dn} (h : NamesD l) (s : ByteArray) : NamesD (wout l s) := by
  unfold wout
  exact ⟨fun d hd => h.may d (List.mem_filter.1 hd).1, h.once.sublist (List.filter_sublist.map _), h.files.sublist (List.filter_sublist.map _)⟩
theorem NamesD.snoc {l : List Dn} (h : NamesD l) {s : ByteArray} {f : Nat} (hs : mayN s = true) (hn : ∀ d ∈ l, ¬ d.nm = s) (hf : ∀ d ∈ l, ¬ d.f = f) : NamesD (l ++ [⟨s, f⟩]) := by
  refine ⟨fun d hd => ?_, ?_, ?_⟩
  · rcases List.mem_append.1 hd with hd | hd
    · exact h.may d hd
    · obtain rfl := List.mem_singleton.1 hd; exact hs
  · rw [List.map_append, List.nodup_append]
    refine ⟨h.once, by simp, fun a ha b hb => ?_⟩
    obtain ⟨d, hd, rfl⟩ := List.mem_map.1 ha
    obtain rfl : b = s := by simpa using hb
    exact hn d hd
  · rw [List.map_append, List.nodup_append]
    refine ⟨h.files, by simp, fun a ha b hb => ?_⟩
    obtain ⟨d, hd, rfl⟩ := List.mem_map.1 ha
    obtain rfl : b = f := by simpa using hb
    exact hf d hd
/-- A turn as it may be. -/
def OkT1 (l : List Dn) (t : Tn) : Prop := (t.nm.size ≤ 64 ∧ t.to.size ≤ 64) ∧ (t.k = 0 → mayN t.nm = true ∧ ∀ d ∈ l, ¬ d.f = t.f) ∧ (t.k = 1 → mayN t.to = true ∧ (fileD l t.nm).isSome = true)
def OkT : List Dn → List Tn → Prop
  | _, [] => True
  | l, t :: r => OkT1 l t ∧ OkT (turnD l t) r
theorem okT_app (ts rs : List Tn) : ∀ l : List Dn, OkT l (ts ++ rs) ↔ OkT l ts ∧ OkT (turnsD l ts) rs := by
  induction ts with
  | nil => intro l; simp [OkT, turnsD]
  | cons t r ih =>
    intro l
    simp only [List.cons_append, OkT, ih, turnsD, List.foldl_cons]
    exact and_assoc.symm
theorem wout_name {l : List Dn} {s : ByteArray} : ∀ d ∈ wout l s, ¬ d.nm = s := fun _ hd => (wout_mem hd).2
theorem inj_of_nodup {α β : Type} {g : α → β} : ∀ {l : List α}, (l.map g).Nodup → ∀ {x y : α}, x ∈ l → y ∈ l → g x = g y → x = y := by
  intro l
  induction l with
  | nil => intro _ x y hx; simp at hx
  | cons a r ih =>
    intro h x y hx hy e
    rw [List.map_cons, List.nodup_cons] at h
    rcases List.mem_cons.1 hx with e1 | hx2
    · rcases List.mem_cons.1 hy with e2 | hy2
      · rw [e1, e2]
      · exact absurd (List.mem_map.2 ⟨y, hy2, by rw [← e, e1]⟩) h.1
    · rcases List.mem_cons.1 hy with e2 | hy2
      · exact absurd (List.mem_map.2 ⟨x, hx2, by rw [e, e2]⟩) h.1
      · exact ih h.2 hx2 hy2 e
theorem NamesD.other {l : List Dn} (h : NamesD l) {s : ByteArray} {f : Nat} (hf : fileD l s = some f) : ∀ d ∈ wout l s, ¬ d.f = f := by
  intro d hd e
  obtain ⟨h1, h2⟩ := wout_mem hd
  have := inj_of_nodup h.files h1 (fileD_mem hf) e
  rw [this] at h2
  exact h2 rfl
theorem NamesD.turn {l : List Dn} (h : NamesD l) {t : Tn} (ht : OkT1 l t) : NamesD (turnD l t) := by
  unfold turnD
  split
  · rename_i e
    obtain ⟨h1, h2⟩ := ht.2.1 e
    exact (h.less _).snoc h1 wout_name (fun d hd => h2 d (wout_mem hd).1)
  · split
    · rename_i e
      obtain ⟨h1, h2⟩ := ht.2.2 e
      split
      · exact h
      · rename_i f hf
        split
        · exact h
        · exact ((h.less _).less _).snoc h1 wout_name (fun d hd => h.other hf d (wout_mem hd).1)
    · exact h.less _
theorem NamesD.turns {ts : List Tn} : ∀ {l : List Dn}, NamesD l → OkT l ts → NamesD (turnsD l ts) := by
  induction ts with
  | nil => intro l h _; exact h
  | cons t r ih =>
    intro l h ht
    unfold turnsD
    rw [List.foldl_cons]
    exact ih (h.turn ht.1) ht.2
/-- What a name's file is behind a turn. -/
theorem fileD_turn {l : List Dn} {t : Tn} (ht : OkT1 l t) (s : ByteArray) : fileD (turnD l t) s = if t.k = 0 then (if s = t.nm then some t.f else fileD l s) else if t.k = 1 then (if s = t.to then fileD l t.nm else if s = t.nm then none else fileD l s) else if s = t.nm then none else fileD l s := by
  unfold turnD
  split
  · rw [fileD_snoc, findD_wout]
    by_cases e : s = t.nm
    · rw [if_pos e, if_pos e, if_pos e]; rfl
    · rw [if_neg e, if_neg e, if_neg e]; cases fileD l s <;> rfl
  · split
    · rename_i h
      obtain ⟨_, h2⟩ := ht.2.2 h
      split
      · rename_i hn; rw [hn] at h2; simp at h2
      · rename_i f hf
        split
        · rename_i e
          by_cases q : s = t.to
          · rw [if_pos q, q, ← e]
          · rw [if_neg q, if_neg (by rw [e]; exact q)]
        · rename_i e
          rw [fileD_snoc, findD_wout, findD_wout]
          by_cases q : s = t.to
          · rw [if_pos q, if_pos q, if_pos q, hf]; rfl
          · rw [if_neg q, if_neg q, if_neg q]
            by_cases z : s = t.nm
            · rw [if_pos z]; rfl
            · rw [if_neg z]; cases fileD l s <;> rfl
    · rw [findD_wout]
/-- As the landed one keeps it. -/
structure GoodN (F : Fs) : Prop where
  sure : NamesD F.sure
  turns : OkT F.sure F.turns
theorem GoodN.dir {F : Fs} (h : GoodN F) : NamesD (dirF F) := h.sure.turns h.turns
theorem goodN0 : GoodN fs0 := ⟨namesD_nil, trivial⟩
theorem okT_take {l : List Dn} {ts : List Tn} (h : OkT l ts) (n : Nat) : OkT l (ts.take n) := by
  rw [← List.take_append_drop n ts, okT_app] at h
  exact h.1
theorem okT_at {l : List Dn} {ts : List Tn} (h : OkT l ts) {i : Nat} {t : Tn} (hi : ts[i]? = some t) : OkT1 (turnsD l (ts.take i)) t := by
  obtain ⟨hk, e⟩ := List.getElem?_eq_some_iff.1 hi
  have := okT_take h (i + 1)
  rw [List.take_succ_eq_append_getElem hk, okT_app, e] at this
  exact this.2.1
theorem turnsD_take {l : List Dn} {ts : List Tn} {i : Nat} {t : Tn} (hi : ts[i]? = some t) : turnsD l (ts.take (i + 1)) = turnD (turnsD l (ts.take i)) t := by
  obtain ⟨hk, e⟩ := List.getElem?_eq_some_iff.1 hi
  unfold turnsD
  rw [List.take_succ_eq_append_getElem hk, List.foldl_append, e]
  rfl
theorem GoodN.like {F G : Fs} (h : GoodN F) (e2 : G.sure = F.sure) (e3 : G.turns = F.turns) : GoodN G := ⟨by rw [e2]; exact h.sure, by rw [e2, e3]; exact h.turns⟩
theorem GoodN.sync {F : Fs} (h : GoodN F) : GoodN { F with sure := dirF F, turns := [] } := ⟨h.dir, trivial⟩
theorem GoodN.push {F : Fs} (h : GoodN F) {t : Tn} (ht : OkT1 (dirF F) t) (fs : List Fi) : GoodN { F with files := fs, turns := F.turns ++ [t] } := ⟨h.sure, by
  show OkT F.sure (F.turns ++ [t])
  rw [okT_app]
  exact ⟨h.turns, ht, trivial⟩⟩
end Go.Proofs.YtknghoecjobkiaaGreatDoor

namespace Go.Proofs.YtknghoecjobkiaaGreatDoor.Cr

/-- One bit down; if the bit that went out was 1: the constant upon it. -/
def step (r : Nat) : Nat := (r / 2) ^^^ (if r % 2 = 1 then 2197175160 else 0)
def it : Nat → Nat → Nat
  | 0, r => r
  | n + 1, r => it n (step r)

theorem xor_half (a b : Nat) : (a ^^^ b) / 2 = (a / 2) ^^^ (b / 2) := by
  have := Nat.shiftRight_xor_distrib (a := a) (b := b) (i := 1)
  simpa [Nat.shiftRight_eq_div_pow] using this

theorem xor_cancel (a b : Nat) : a ^^^ (a ^^^ b) = b := by rw [← Nat.xor_assoc, Nat.xor_self, Nat.zero_xor]
theorem xor_swap (a b c d : Nat) : (a ^^^ b) ^^^ (c ^^^ d) = (a ^^^ c) ^^^ (b ^^^ d) := by
  rw [Nat.xor_assoc, ← Nat.xor_assoc b c d, Nat.xor_comm b c, Nat.xor_assoc c b d, ← Nat.xor_assoc]

theorem step_xor (a b : Nat) : step (a ^^^ b) = step a ^^^ step b := by
  unfold step
  rw [xor_half]
  have h := Nat.xor_mod_two_eq_one (a := a) (b := b)
  by_cases ha : a % 2 = 1 <;> by_cases hb : b % 2 = 1
  · rw [if_neg (by rw [h]; simp [ha, hb]), if_pos ha, if_pos hb, xor_swap, Nat.xor_self]
  · rw [if_pos (by rw [h]; simp [ha]; omega), if_pos ha, if_neg hb, xor_swap, Nat.xor_zero]
  · rw [if_pos (by rw [h]; simp [hb]; omega), if_neg ha, if_pos hb, xor_swap, Nat.zero_xor]
  · rw [if_neg (by rw [h]; simp [ha, hb]), if_neg ha, if_neg hb, Nat.xor_zero, Nat.xor_zero, Nat.xor_zero]

theorem it_xor (n : Nat) : ∀ a b : Nat, it n (a ^^^ b) = it n a ^^^ it n b := by
  induction n with
  | zero => intro a b; rfl
  | succ n ih => intro a b; show it n (step _) = _; rw [step_xor, ih]; rfl

theorem it_add (m n : Nat) : ∀ r, it (m + n) r = it n (it m r) := by
  induction m with
  | zero => intro r; rw [Nat.zero_add]; rfl
  | succ m ih => intro r; rw [show m + 1 + n = (m + n) + 1 from by omega]; show it (m + n) (step r) = _; rw [ih]; rfl

theorem it_succ (n r : Nat) : it (n + 1) r = step (it n r) := by rw [it_add]; rfl

theorem step_two (x : Nat) : step (2 * x) = x := by
  unfold step
  rw [if_neg (by omega), Nat.xor_zero]
  omega

theorem it_shl (n : Nat) : ∀ x, it n (x * 2 ^ n) = x := by
  induction n with
  | zero => intro x; show x * 1 = x; omega
  | succ n ih => intro x; show it n (step _) = _; rw [show x * 2 ^ (n + 1) = 2 * (x * 2 ^ n) from by rw [Nat.pow_succ]; ac_rfl, step_two, ih]

theorem step_lt {r : Nat} (h : r < 4294967296) : step r < 4294967296 := by
  unfold step
  exact Nat.xor_lt_two_pow (n := 32) (by omega) (by split <;> omega)

theorem it_lt (n : Nat) : ∀ {r : Nat}, r < 4294967296 → it n r < 4294967296 := by
  induction n with
  | zero => intro r h; exact h
  | succ n ih => intro r h; exact ih (step_lt h)

theorem xor_zero_eq {a b : Nat} (h : a ^^^ b = 0) : a = b := by
  have := xor_cancel a b
  rw [h, Nat.xor_zero] at this
  exact this

theorem step_none {r : Nat} (h : r < 4294967296) (e : step r = 0) : r = 0 := by
  unfold step at e
  have := xor_zero_eq e
  by_cases k : r % 2 = 1
  · rw [if_pos k] at this; omega
  · rw [if_neg k] at this; omega

theorem it_none (n : Nat) : ∀ {r : Nat}, r < 4294967296 → it n r = 0 → r = 0 := by
  induction n with
  | zero => intro r _ e; exact e
  | succ n ih => intro r h e; exact step_none h (ih (step_lt h) e)

/-- A number cut at a bit: both parts, upon each other. -/
theorem cut_xor (n x y : Nat) (h : y < 2 ^ n) : x * 2 ^ n + y = (x * 2 ^ n) ^^^ y := by
  apply Nat.eq_of_testBit_eq
  intro j
  rw [Nat.testBit_xor, Nat.mul_comm x, Nat.testBit_two_pow_mul_add x h, Nat.testBit_two_pow_mul]
  by_cases hj : j < n
  · have hn : ¬ n ≤ j := by omega
    simp [hj, hn]
  · have hy : y.testBit j = false := Nat.testBit_lt_two_pow (Nat.lt_of_lt_of_le h (Nat.pow_le_pow_right (by omega) (by omega)))
    have hn : n ≤ j := by omega
    simp [hj, hn, hy]

def tab (i : Nat) : Nat := it 4 i

/-- Four bits at once. -/
theorem it_four (r : Nat) : it 4 r = (r / 16) ^^^ tab (r % 16) := by
  have e : r = (r / 16) * 2 ^ 4 + r % 16 := by omega
  have c := cut_xor 4 (r / 16) (r % 16) (by omega)
  have s := it_shl 4 (r / 16)
  unfold tab
  conv => lhs; rw [e, c, it_xor, s]

/-- A byte put in, eight bits at once. -/
def byte (r z : Nat) : Nat := it 8 (r ^^^ z)

theorem byte_lt {r z : Nat} (h : r < 4294967296) (hz : z < 256) : byte r z < 4294967296 :=
  it_lt 8 (Nat.xor_lt_two_pow (n := 32) (by omega) (by omega))

/-- The document's own way: bit by bit of the byte, held against the bit that goes out. -/
theorem bit_next (r z k : Nat) :
    it (k + 1) (r ^^^ (z % 2 ^ (k + 1))) = step (it k (r ^^^ (z % 2 ^ k)) ^^^ (z / 2 ^ k % 2)) := by
  have e : z % 2 ^ (k + 1) = (z / 2 ^ k % 2) * 2 ^ k + z % 2 ^ k := by
    rw [Nat.pow_succ, Nat.mod_mul]; rw [Nat.mul_comm (2 ^ k)]; omega
  have c := cut_xor k (z / 2 ^ k % 2) (z % 2 ^ k) (Nat.mod_lt _ (Nat.two_pow_pos k))
  rw [e, c, Nat.xor_comm (_ * 2 ^ k), ← Nat.xor_assoc, it_succ, it_xor, it_shl]

theorem step_bit (y b : Nat) (hb : b < 2) : step (y ^^^ b) = (y / 2) ^^^ (if y % 2 = b then 0 else 2197175160) := by
  unfold step
  have h := Nat.xor_mod_two_eq_one (a := y) (b := b)
  rw [xor_half, show b / 2 = 0 from by omega, Nat.xor_zero]
  congr 1
  by_cases e : y % 2 = b
  · rw [if_neg (by rw [h]; omega), if_pos e]
  · rw [if_pos (by rw [h]; omega), if_neg e]

/-- The register behind bytes. -/
def reg (r : Nat) (l : List Nat) : Nat := l.foldl byte r

theorem reg_lt (l : List Nat) : ∀ {r : Nat}, r < 4294967296 → (∀ z ∈ l, z < 256) → reg r l < 4294967296 := by
  induction l with
  | nil => intro r h _; exact h
  | cons z l ih => intro r h hz; exact ih (byte_lt h (hz z (by simp))) (fun y hy => hz y (by simp [hy]))

theorem reg_append (r : Nat) (a b : List Nat) : reg r (a ++ b) = reg (reg r a) b := List.foldl_append ..

end Go.Proofs.YtknghoecjobkiaaGreatDoor.Cr

namespace Go.Proofs.YtknghoecjobkiaaGreatDoor
open Go.RowKit
set_option maxRecDepth 20000
/-- Two whole numbers upon each other. -/
def xorI (a b : Int) : Int := ((a.toNat ^^^ b.toNat : Nat) : Int)

theorem xor_u32 {a b : Int} (a0 : 0 ≤ a) (a1 : a < 4294967296) (b0 : 0 ≤ b) (b1 : b < 4294967296) : bits .xor .u32 a b = xorI a b ∧ 0 ≤ xorI a b ∧ xorI a b < 4294967296 := by
  obtain ⟨a, rfl⟩ := Int.eq_ofNat_of_zero_le a0
  obtain ⟨b, rfl⟩ := Int.eq_ofNat_of_zero_le b0
  have hx : a ^^^ b < 2 ^ 32 := Nat.xor_lt_two_pow (by omega) (by omega)
  unfold xorI
  rw [Int.toNat_natCast, Int.toNat_natCast]
  refine ⟨?_, by omega, by omega⟩
  have h1 : (BitVec.ofInt 32 (a : Int)).toNat = a := by
    rw [BitVec.ofInt_natCast, BitVec.toNat_ofNat]; exact Nat.mod_eq_of_lt (by omega)
  have h2 : (BitVec.ofInt 32 (b : Int)).toNat = b := by
    rw [BitVec.ofInt_natCast, BitVec.toNat_ofNat]; exact Nat.mod_eq_of_lt (by omega)
  show IntKind.u32.wrap ((BitVec.ofInt 32 (a : Int) ^^^ BitVec.ofInt 32 (b : Int)).toNat : Int) = _
  rw [BitVec.toNat_xor, h1, h2, IntKind.wrap_u32]
  omega

theorem xor_u8 {a b : Int} (a0 : 0 ≤ a) (a1 : a ≤ 255) (b0 : 0 ≤ b) (b1 : b ≤ 255) : bits .xor .u8 a b = xorI a b ∧ 0 ≤ xorI a b ∧ xorI a b ≤ 255 := by
  obtain ⟨a, rfl⟩ := Int.eq_ofNat_of_zero_le a0
  obtain ⟨b, rfl⟩ := Int.eq_ofNat_of_zero_le b0
  have hx : a ^^^ b < 2 ^ 8 := Nat.xor_lt_two_pow (by omega) (by omega)
  unfold xorI
  rw [Int.toNat_natCast, Int.toNat_natCast]
  refine ⟨?_, by omega, by omega⟩
  have h1 : (BitVec.ofInt 8 (a : Int)).toNat = a := by
    rw [BitVec.ofInt_natCast, BitVec.toNat_ofNat]; exact Nat.mod_eq_of_lt (by omega)
  have h2 : (BitVec.ofInt 8 (b : Int)).toNat = b := by
    rw [BitVec.ofInt_natCast, BitVec.toNat_ofNat]; exact Nat.mod_eq_of_lt (by omega)
  show IntKind.u8.wrap ((BitVec.ofInt 8 (a : Int) ^^^ BitVec.ofInt 8 (b : Int)).toNat : Int) = _
  rw [BitVec.toNat_xor, h1, h2, IntKind.wrap_u8]
  omega

theorem and15_u32 {a : Int} (a0 : 0 ≤ a) (a1 : a < 4294967296) : bits .and .u32 a 15 = a % 16 := by
  obtain ⟨a, rfl⟩ := Int.eq_ofNat_of_zero_le a0
  have h1 : (BitVec.ofInt 32 (a : Int)).toNat = a := by
    rw [BitVec.ofInt_natCast, BitVec.toNat_ofNat]; exact Nat.mod_eq_of_lt (by omega)
  have h2 : (BitVec.ofInt 32 15).toNat = 15 := by decide
  have e : a &&& 15 = a % 16 := Nat.and_two_pow_sub_one_eq_mod a 4
  show IntKind.u32.wrap ((BitVec.ofInt 32 (a : Int) &&& BitVec.ofInt 32 15).toNat : Int) = _
  rw [BitVec.toNat_and, h1, h2, IntKind.wrap_u32, e]
  omega

theorem ret_u32 {a b : Int} (h : a = b) : Ending.returned (.int .u32 a) = .returned (.int .u32 b) := by rw [h]

/-- The sum of more bytes behind a sum. -/
def moreS (s : Int) (zs : List Int) : Int := ((4294967295 ^^^ Cr.reg (4294967295 ^^^ s.toNat) (zs.map Int.toNat) : Nat) : Int)

/-- The table, as a block of memory. -/
def tbl : Obj := .cells #[.int .u32 0, .int .u32 274646895, .int .u32 549293790, .int .u32 820201905, .int .u32 1098587580, .int .u32 1361435347,
  .int .u32 1640403810, .int .u32 1905808397, .int .u32 2197175160, .int .u32 2460548119, .int .u32 2722870694, .int .u32 2987750089,
  .int .u32 3280807620, .int .u32 3553878443, .int .u32 3811616794, .int .u32 4084100981] 379

theorem tbl_cell (w : World) (i : Nat) (h : i < 16) : (w.alloc tbl).cell? ⟨w.heap.size, i, none⟩ = some (.int .u32 ((Cr.tab i : Nat) : Int)) := by
  unfold tbl
  match i, h with
  | 0, _ => go_simp; decide
  | 1, _ => go_simp; decide
  | 2, _ => go_simp; decide
  | 3, _ => go_simp; decide
  | 4, _ => go_simp; decide
  | 5, _ => go_simp; decide
  | 6, _ => go_simp; decide
  | 7, _ => go_simp; decide
  | 8, _ => go_simp; decide
  | 9, _ => go_simp; decide
  | 10, _ => go_simp; decide
  | 11, _ => go_simp; decide
  | 12, _ => go_simp; decide
  | 13, _ => go_simp; decide
  | 14, _ => go_simp; decide
  | 15, _ => go_simp; decide
  | n + 16, h => omega

theorem xor_nat {a b : Int} : (xorI a b).toNat = a.toNat ^^^ b.toNat := by unfold xorI; rw [Int.toNat_natCast]

theorem tab_lt {i : Nat} (h : i < 16) : Cr.tab i < 4294967296 := Cr.it_lt 4 (by omega)

/-- Four bits at once, in the program's spelling. -/
theorem four {Y T : Int} (y0 : 0 ≤ Y) (y1 : Y < 4294967296) (t : T = ((Cr.tab (Y % 16).toNat : Nat) : Int)) :
    bits .xor .u32 (Y / 16) T = xorI (Y / 16) T ∧ 0 ≤ xorI (Y / 16) T ∧ xorI (Y / 16) T < 4294967296 ∧ (xorI (Y / 16) T).toNat = Cr.it 4 Y.toNat := by
  have ht := tab_lt (i := (Y % 16).toNat) (by omega)
  obtain ⟨e1, e2, e3⟩ := xor_u32 (a := Y / 16) (b := T) (by omega) (by omega) (by omega) (by omega)
  refine ⟨e1, e2, e3, ?_⟩
  rw [xor_nat, Cr.it_four, t, Int.toNat_natCast]
  congr 1
  · omega
  · congr 1; omega

theorem map_take_succ (zs : List Int) (k : Nat) (h : k < zs.length) : (zs.take (k + 1)).map Int.toNat = (zs.take k).map Int.toNat ++ [(zs.getD k 0).toNat] := by
  rw [List.take_succ_eq_append_getElem h, List.map_append, List.getD_eq_getElem?_getD, List.getElem?_eq_getElem h]
  rfl

set_option maxHeartbeats 1000000 in
theorem smore_any (s : Int) (a : Option Addr) (n cap : Nat) (zs : List Int) (w : World) (hs : 0 ≤ s ∧ s < 4294967296) (hr : Row .u8 w a n zs) :
    Calls Tryz.prog 273 #[.int .u32 s, .slice a n cap] w fun e w' => e = .returned (.int .u32 (moreS s zs)) ∧ w' = w.alloc tbl := by
  obtain ⟨s0, s1⟩ := hs
  have hsg : IntKind.u32.signed = false := rfl
  have hn : n ≤ 281474976710656 := hr.2.1
  obtain ⟨x1, x2, x3⟩ := xor_u32 (a := 4294967295) (b := s) (by omega) (by omega) s0 s1
  have N0 : Hid ((xorI 4294967295 s).toNat = 4294967295 ^^^ s.toNat) := xor_nat
  have HR := hide (hr.alloc tbl)
  have HT := hide (tbl_cell w)
  clear hr
  generalize xorI 4294967295 s = R0 at *
  replace x1 : bits .xor .u32 IntKind.u32.max s = R0 := x1
  go_enter Tryz.func273, Tryz.ntmps273
  go_wp2
  clear x1
  have hW : w.alloc tbl = w.alloc (.cells #[.int .u32 0, .int .u32 274646895, .int .u32 549293790, .int .u32 820201905, .int .u32 1098587580, .int .u32 1361435347,
    .int .u32 1640403810, .int .u32 1905808397, .int .u32 2197175160, .int .u32 2460548119, .int .u32 2722870694, .int .u32 2987750089,
    .int .u32 3280807620, .int .u32 3553878443, .int .u32 3811616794, .int .u32 4084100981] 379) := rfl
  rw [← hW]
  clear hW
  generalize hw : w.alloc tbl = W at *
  generalize hz : w.heap.size = B at *
  have HW := hide hw
  clear hw
  have HZ := hide hz
  clear hz
  go_loop [6, 14] (fun r i => ∃ (k : Nat) (R : Int), k ≤ n ∧ i = .int .i64 k ∧ r = .int .u32 R ∧ 0 ≤ R ∧ R < 4294967296 ∧ Hid (R.toNat = Cr.reg (4294967295 ^^^ s.toNat) ((zs.take k).map Int.toNat))) (fun _ i => n - (intOf i).toNat)
  case atStart => exact ⟨0, R0, by omega, rfl, rfl, x2, x3, N0⟩
  case round =>
    obtain ⟨k, R, hk, rfl, rfl, r0, r1, HN⟩ := hrel
    by_cases hlt : k < n
    · have hrow := HR.out
      have hb := hrow.byte k
      obtain ⟨hl, _, _, h0 | ⟨b, off, rfl, hc⟩⟩ := hrow
      · omega
      have hck := hc k hlt
      have HS : Hid ((zs.take (k + 1)).map Int.toNat = (zs.take k).map Int.toNat ++ [(zs.getD k 0).toNat]) := map_take_succ zs k (by omega)
      clear hc hl
      generalize zs.getD k 0 = z at *
      obtain ⟨z0, z1⟩ := hb
      obtain ⟨y1, y2, y3⟩ := xor_u32 (a := R) (b := z) r0 r1 z0 (by omega)
      have NX : Hid ((xorI R z).toNat = R.toNat ^^^ z.toNat) := xor_nat
      generalize xorI R z = X at *
      go_wp2
      clear y1 hck
      go_loop [6, 22] (fun r i => ∃ (j : Nat) (Y : Int), j ≤ 2 ∧ i = .int .i64 j ∧ r = .int .u32 Y ∧ 0 ≤ Y ∧ Y < 4294967296 ∧ Hid (Y.toNat = Cr.it (4 * j) X.toNat)) (fun _ i => 2 - (intOf i).toNat)
      case atStart => exact ⟨0, X, by omega, rfl, rfl, y2, y3, rfl⟩
      case round =>
        obtain ⟨j, Y, hj, rfl, rfl, q0, q1, HY⟩ := hrel
        by_cases hj2 : j < 2
        · have ha := and15_u32 q0 q1
          have hcell := HT.out (Y % 16).toNat (by omega)
          have HTT : Hid (((Cr.tab (Y % 16).toNat : Nat) : Int) = ((Cr.tab (Y % 16).toNat : Nat) : Int)) := rfl
          generalize hT : ((Cr.tab (Y % 16).toNat : Nat) : Int) = T at hcell
          obtain ⟨f1, f2, f3, f4⟩ := four q0 q1 hT.symm
          have F4 := hide f4
          clear f4 hT HTT
          generalize xorI (Y / 16) T = Z at *
          go_wp2
          exact ⟨⟨j + 1, Z, by omega, by go_num, rfl, f2, f3, by rw [F4.out, HY.out, ← Cr.it_add]; rfl⟩, by simp [intOf]; omega⟩
        · have : j = 2 := by omega
          subst this
          go_wp2
          have HE : Hid (Y.toNat = Cr.reg (4294967295 ^^^ s.toNat) ((zs.take (k + 1)).map Int.toNat)) := by
            show _ = _
            rw [HS.out, Cr.reg_append, ← HN.out, HY.out, NX.out]
            rfl
          exact ⟨⟨k + 1, Y, by omega, by go_num, rfl, q0, q1, HE⟩, by simp [intOf]; omega⟩
    · have : k = n := by omega
      subst this
      obtain ⟨e1, e2, e3⟩ := xor_u32 (a := 4294967295) (b := R) (by omega) (by omega) r0 r1
      replace e1 : bits .xor .u32 IntKind.u32.max R = xorI 4294967295 R := e1
      have hl := HR.out.1
      have HE : Hid (xorI 4294967295 R = moreS s zs) := by
        show _ = _
        unfold xorI moreS
        rw [HN.out, List.take_of_length_le (by omega)]
        rfl
      clear hl
      go_wp2
      go_ret
      exact ⟨ret_u32 HE.out, HW.out.symm⟩

theorem sof_any (a : Option Addr) (n cap : Nat) (zs : List Int) (w : World) (hr : Row .u8 w a n zs) :
    Calls Tryz.prog 231 #[.slice a n cap] w fun e w' => e = .returned (.int .u32 (moreS 0 zs)) ∧ w' = w.alloc tbl := by
  have M := hide (fun w hr => smore_any 0 a n cap zs w (by decide) hr)
  go_enter Tryz.func231, Tryz.ntmps231
  go_wp2_with fail
  refine (M.out _ hr).mono ?_
  rintro e w' ⟨rfl, rfl⟩
  go_wp2
  go_ret
  exact ⟨rfl, rfl⟩
theorem bytes_nat {zs : List Int} (h : ∀ z ∈ zs, 0 ≤ z ∧ z ≤ 255) : ∀ y ∈ zs.map Int.toNat, y < 256 := by
  intro y hy
  obtain ⟨z, hz, rfl⟩ := List.mem_map.1 hy
  have := h z hz
  omega

theorem moreS_word {s : Int} {zs : List Int} (hs : 0 ≤ s ∧ s < 4294967296) (h : ∀ z ∈ zs, 0 ≤ z ∧ z ≤ 255) : 0 ≤ moreS s zs ∧ moreS s zs < 4294967296 := by
  have h1 := Cr.reg_lt (zs.map Int.toNat) (r := 4294967295 ^^^ s.toNat) (Nat.xor_lt_two_pow (n := 32) (by omega) (by omega)) (bytes_nat h)
  have h2 : 4294967295 ^^^ Cr.reg (4294967295 ^^^ s.toNat) (zs.map Int.toNat) < 2 ^ 32 := Nat.xor_lt_two_pow (by omega) h1
  unfold moreS
  exact ⟨by omega, by omega⟩

end Go.Proofs.YtknghoecjobkiaaGreatDoor

namespace Go.Proofs.YtknghoecjobkiaaGreatDoor
/-- The four bytes of a word, the lowest first. -/
def quad (s : Int) : List Int := [s % 256, s / 256 % 256, s / 65536 % 256, s / 16777216 % 256]
/-- The four bytes of a body's sum. -/
def sumB (zs : List Int) : List Int := quad (moreS 0 zs)
/-- A frame. -/
def frameS (body : List Int) : List Int := putS body.length ++ (sumB body ++ body)
/-- The frame that begins at a place: where its body begins, and how many bytes it has. -/
def findS (zs : List Int) (p : Int) : Option (Nat × Nat) :=
  match getS zs p with
  | none => none
  | some (v, fr) => if v < 1 ∨ 1048576 < v ∨ (zs.length : Int) - fr < 4 + v then none
    else if (zs.drop fr.toNat).take 4 = sumB ((zs.drop (fr.toNat + 4)).take v.toNat) then some (fr.toNat + 4, v.toNat) else none

theorem quad_byte (s : Int) : Bytes8 (quad s) := by
  intro z hz
  simp only [quad, List.mem_cons, List.not_mem_nil, or_false] at hz
  rcases hz with rfl | rfl | rfl | rfl <;> exact ⟨by omega, by omega⟩
theorem sumB_len (zs : List Int) : (sumB zs).length = 4 := rfl
theorem sumB_byte (zs : List Int) : Bytes8 (sumB zs) := quad_byte _
theorem frameS_len (body : List Int) : (frameS body).length = (putS body.length).length + (4 + body.length) := by
  unfold frameS
  rw [List.length_append, List.length_append, sumB_len]
theorem frameS_byte {body : List Int} (h : Bytes8 body) (hl : body.length ≤ 9223372036854775807) : Bytes8 (frameS body) :=
  Bytes8.append (putS_byte (w64_len hl)) (Bytes8.append (sumB_byte _) h)

theorem findS_some {zs : List Int} {p : Int} {st v : Nat} (hz : Bytes8 zs) (h : findS zs p = some (st, v)) :
    1 ≤ v ∧ v ≤ 1048576 ∧ st + v ≤ zs.length ∧ ∃ k : Nat, p = k ∧ st = k + (putS (v : Int)).length + 4 ∧ ((zs.drop st).take v).length = v ∧ zs.drop k = frameS ((zs.drop st).take v) ++ zs.drop (st + v) := by
  unfold findS at h
  split at h
  · simp at h
  · rename_i u fr hg
    obtain ⟨hw, k, rfl, hk, rfl, hl, t, ht⟩ := getS_some hz hg
    split at h
    · simp at h
    · rename_i hc
      split at h
      · rename_i hs
        simp only [Option.some.injEq, Prod.mk.injEq] at h
        obtain ⟨rfl, rfl⟩ := h
        have h1 := hw.1
        obtain ⟨u, rfl⟩ := Int.eq_ofNat_of_zero_le h1
        simp only [Int.toNat_natCast] at *
        have hb : ((zs.drop (k + (putS (u : Int)).length + 4)).take u).length = u := by
          rw [List.length_take, List.length_drop]; omega
        refine ⟨by omega, by omega, by omega, k, rfl, rfl, hb, ?_⟩
        unfold frameS
        have d4 : zs.drop (k + (putS (u : Int)).length) = t := by rw [← List.drop_drop, ht, List.drop_left]
        have d5 : zs.drop (k + (putS (u : Int)).length + 4) = t.drop 4 := by rw [← List.drop_drop, d4]
        have d6 : zs.drop (k + (putS (u : Int)).length + 4 + u) = (t.drop 4).drop u := by rw [← List.drop_drop, d5]
        rw [hb, ← hs, d4, d5, d6, ht, List.append_assoc, List.append_assoc, List.take_append_drop, List.take_append_drop]
      · simp at h

theorem findS_at {body : List Int} (h1 : 1 ≤ body.length) (h2 : body.length ≤ 1048576) (xs ys : List Int) :
    findS (xs ++ (frameS body ++ ys)) xs.length = some (xs.length + (putS body.length).length + 4, body.length) := by
  have hg := getS_at (w64_len (n := body.length) (by omega)) xs (sumB body ++ body ++ ys)
  have hl := putS_len (body.length : Int)
  have e : xs ++ (frameS body ++ ys) = xs ++ (putS body.length ++ (sumB body ++ body ++ ys)) := by unfold frameS; simp
  rw [e]
  unfold findS
  rw [hg]
  simp only [Int.toNat_natCast]
  have d1 : (xs ++ (putS (body.length : Int) ++ (sumB body ++ body ++ ys))).drop (xs.length + (putS (body.length : Int)).length) = sumB body ++ body ++ ys := by
    rw [← List.append_assoc, ← List.length_append, List.drop_left]
  have d2 : (xs ++ (putS (body.length : Int) ++ (sumB body ++ body ++ ys))).drop (xs.length + (putS (body.length : Int)).length + 4) = body ++ ys := by
    rw [← List.drop_drop, d1, List.append_assoc, ← sumB_len body, List.drop_left]
  rw [if_neg, d1, d2, if_pos]
  · rw [List.append_assoc, ← sumB_len body, List.take_left, List.take_left]
  · simp only [List.length_append, sumB_len]
    omega
theorem findS_end (xs : List Int) : findS xs xs.length = none := by
  unfold findS
  rw [getS_end]
theorem findS_out {zs : List Int} {p : Int} (h : p < 0 ∨ (zs.length : Int) ≤ p) : findS zs p = none := by
  unfold findS getS
  rw [if_neg (by omega)]
end Go.Proofs.YtknghoecjobkiaaGreatDoor

namespace Go.Proofs.YtknghoecjobkiaaGreatDoor
open Go.RowKit
set_option linter.unusedVariables false
set_option maxRecDepth 20000
/-- A row of structs, each laid out in so many cells. -/
def OwnG {α : Type} (e : TypeId) (sz : Nat) (fl : α → List Value) (w : World) (base : Nat) (a : Option Addr) (n cap : Nat) (l : List α) : Prop := w.ownsRow base e sz (.slice a n cap) n (l.flatMap fl)
section
variable {α : Type} {e : TypeId} {sz : Nat} {fl : α → List Value}
theorem flatG_len (hf : ∀ x, (fl x).length = sz) (l : List α) : (l.flatMap fl).length = l.length * sz := by
  induction l with
  | nil => simp
  | cons x t ih => rw [List.flatMap_cons, List.length_append, ih, hf, List.length_cons, Nat.add_mul, Nat.one_mul, Nat.add_comm]
theorem flatG_at (hf : ∀ x, (fl x).length = sz) {l : List α} {i : Nat} {x : α} (h : l[i]? = some x) {j : Nat} (hj : j < sz) : (l.flatMap fl)[i * sz + j]? = (fl x)[j]? := by
  induction l generalizing i with
  | nil => simp at h
  | cons y t ih =>
    rw [List.flatMap_cons]
    cases i with
    | zero =>
      simp at h
      subst h
      rw [Nat.zero_mul, Nat.zero_add, List.getElem?_append_left (by rw [hf]; exact hj)]
    | succ i =>
      rw [List.getElem?_append_right (by rw [hf, Nat.add_mul, Nat.one_mul]; omega), hf, show (i + 1) * sz + j - sz = i * sz + j by rw [Nat.add_mul, Nat.one_mul]; omega]
      exact ih (by simpa using h)
variable {w w' : World} {base n cap : Nat} {a : Option Addr} {l : List α}
theorem ownG_nil (w : World) (base : Nat) : OwnG e sz fl w base none 0 0 [] := World.ownsRow_nil _ _ _ _
theorem OwnG.len (hf : ∀ x, (fl x).length = sz) (hz : 0 < sz) (h : OwnG e sz fl w base a n cap l) : l.length = n := by
  have := h.1
  rw [flatG_len hf] at this
  exact Nat.eq_of_mul_eq_mul_right hz this
theorem OwnG.capped (h : OwnG e sz fl w base a n cap l) : n ≤ cap ∧ (a = none → n = 0 ∧ cap = 0) := by
  unfold OwnG at h
  rcases h.2 with ⟨h1, h2⟩ | ⟨g, c, cur, h1, _, _, h4, _⟩
  · simp only [Value.slice.injEq] at h1
    exact ⟨by omega, fun _ => ⟨by omega, by omega⟩⟩
  · simp only [Value.slice.injEq, true_and] at h1
    obtain ⟨rfl, rfl⟩ := h1
    exact ⟨h4, fun h => by simp at h⟩
/-- Where an element lies. -/
theorem OwnG.at (hf : ∀ x, (fl x).length = sz) (hz : 0 < sz) (h : OwnG e sz fl w base a n cap l) {i : Nat} {x : α} (hi : l[i]? = some x) : ∃ g, a = some ⟨g, 0, none⟩ ∧ i < n ∧ n ≤ cap ∧ ∀ j v, (fl x)[j]? = some v → w.cell? ⟨g, i * sz + j, none⟩ = some v := by
  have hl := h.len hf hz
  have hlt : i < l.length := (List.getElem?_eq_some_iff.1 hi).1
  unfold OwnG at h
  rcases id h.2 with ⟨h1, h2⟩ | ⟨g, c, cur, h1, _, _, h4, _⟩
  · omega
  · simp only [Value.slice.injEq, true_and] at h1
    obtain ⟨rfl, rfl⟩ := h1
    refine ⟨g, rfl, by omega, h4, fun j v hv => ?_⟩
    have hj : j < sz := by
      have := (List.getElem?_eq_some_iff.1 hv).1
      rw [hf] at this
      exact this
    have hb : i * sz + j < n * sz := by
      have h5 : (i + 1) * sz ≤ n * sz := Nat.mul_le_mul_right sz (by omega)
      rw [Nat.add_mul, Nat.one_mul] at h5
      omega
    rw [h.cellAt (i * sz + j) hb, flatG_at hf hi hj]
    exact hv
theorem OwnG.ch {S : Nat → Prop} (h : OwnG e sz fl w base a n cap l) (c : Ch S w w') (hn : ∀ g, (Value.slice a n cap).ownBlock = some g → ¬ S g) : OwnG e sz fl w' base a n cap l := row_ch h c hn
theorem OwnG.below {B : Nat} (h : OwnG e sz fl w base a n cap l) (hb : Below B w w') (hB : w.heap.size ≤ B) : OwnG e sz fl w' base a n cap l := h.ch (Ch.of_below (hb.mono hB)) (fun _ _ => id)
theorem OwnG.alloc (h : OwnG e sz fl w base a n cap l) (o : Obj) : OwnG e sz fl (w.alloc o) base a n cap l := h.below ((Below.refl _ _).alloc (Nat.le_refl _) _) (Nat.le_refl _)
theorem OwnG.cellsT (h : OwnG e sz fl w base a n cap l) : ∀ g, (Value.slice a n cap).ownBlock = some g → CellsT w g e ∧ base ≤ g := fun _ hg => row_cells h hg
theorem OwnG.mono {base' : Nat} (h : OwnG e sz fl w base a n cap l) (hb : base' ≤ base) : OwnG e sz fl w base' a n cap l := by
  unfold OwnG at *
  refine ⟨h.1, ?_⟩
  rcases h.2 with h1 | ⟨g, c, cur, h1, h2, h3⟩
  · exact Or.inl h1
  · exact Or.inr ⟨g, c, cur, h1, Nat.le_trans hb h2, h3⟩
theorem ownG_form {v : Value} (h : w.ownsRow base e sz v n (l.flatMap fl)) : ∃ a cap, v = .slice a n cap ∧ OwnG e sz fl w base a n cap l := by
  have h0 := h
  rcases h.2 with ⟨rfl, h2⟩ | ⟨g, cap, cur, rfl, _⟩
  · subst h2; exact ⟨none, 0, rfl, h0⟩
  · exact ⟨_, _, rfl, h0⟩
theorem flatG_take (hf : ∀ x, (fl x).length = sz) (l : List α) : ∀ k, (l.flatMap fl).take (k * sz) = (l.take k).flatMap fl := by
  induction l with
  | nil => intro k; simp
  | cons x t ih =>
    intro k
    cases k with
    | zero => simp
    | succ k =>
      rw [List.take_succ_cons, List.flatMap_cons, List.flatMap_cons, List.take_append, hf, show (k + 1) * sz - sz = k * sz by rw [Nat.add_mul, Nat.one_mul]; omega, ih, List.take_of_length_le (by rw [hf, Nat.add_mul, Nat.one_mul]; omega)]
/-- Cut to its first elements. -/
theorem OwnG.cut (hf : ∀ x, (fl x).length = sz) (hz : 0 < sz) (h : OwnG e sz fl w base a n cap l) {k : Nat} (hk : k ≤ n) : OwnG e sz fl w base a k cap (l.take k) := by
  have hl := h.len hf hz
  unfold OwnG at *
  refine ⟨by rw [flatG_len hf, List.length_take, hl, Nat.min_eq_left hk], ?_⟩
  rcases h.2 with ⟨h1, h2⟩ | ⟨g, c, cur, h1, h2, h3, h4, h5, h6, h7⟩
  · subst h2
    obtain rfl : k = 0 := by omega
    exact Or.inl ⟨h1, rfl⟩
  · simp only [Value.slice.injEq, true_and] at h1
    obtain ⟨rfl, rfl⟩ := h1
    refine Or.inr ⟨g, cap, cur, rfl, h2, h3, by omega, h5, h6, ?_⟩
    rw [← flatG_take hf, ← h7, List.take_take, Nat.min_eq_left (Nat.mul_le_mul_right _ hk)]
/-- Structs put behind a row of the call's own. -/
theorem wpList_app_g {P : Program} (hf : ∀ x, (fl x).length = sz) (hsz : 0 < sz) (hone : ∀ x, ∀ u ∈ fl x, u.oneCell' = true) (w : World) {ops : Array Oper} {rest : List Oper} {o : Oper} {a : Act} {Q : Exit → Act → World → Prop} (hgd : o.guard = none) (s x : Operand) (t : TypeId)
    (ho : o.op = .call { callee := .builtin .append, args := #[s, x], argTypes := #[t, t] })
    (base : Nat) (i : TypeInfo) (z : Value) (bytes : Nat) (ht : P.underlying t = some (.slice e)) (hi : P.info? e = some i) (hz : i.zero = some z) (hsize : i.size = sz) (hby : i.bytes = bytes) (hzc : z.cells.size = sz)
    (ao : Option Addr) (n cap : Nat) (l : List α) (hs : a.eval s = .slice ao n cap) (hown : OwnG e sz fl w base ao n cap l)
    (bo : Option Addr) (m c : Nat) (news : List α) (hx : a.eval x = .slice bo m c) (hm : news.length = m) (hrow : ∀ ad, bo = some ad → ∀ j u, (news.flatMap fl)[j]? = some u → w.cell? (ad.add j) = some u) (hbo : bo = none → m = 0 ∧ c = 0)
    (h63 : n + m ≤ 1099511627776) (hbytes : (n + m) * bytes ≤ 140737488355328) (hbase : base ≤ w.heap.size)
    (h : ∀ a' cap' w', OwnG e sz fl w' base a' (n + m) cap' (l ++ news) → w.grownBy w' (Value.slice ao n cap).ownBlock → wpList P ops Q rest (a.put o.dst (.slice a' (n + m) cap')) w') : wpList P ops Q (o :: rest) a w := by
  cases bo with
  | none =>
    obtain ⟨rfl, rfl⟩ := hbo rfl
    have hz : news = [] := List.length_eq_zero_iff.1 hm
    subst hz
    refine wpList_append_own_none hgd s x t ho base e i sz ht hi _ n (l.flatMap fl) hs hown hx ?_
    exact h ao cap w (by rw [List.append_nil]; exact hown) ⟨rfl, rfl, rfl, Nat.le_refl _, fun _ _ _ => rfl⟩
  | some ad =>
    refine wpList_append_own w hgd s x t ho base e i z sz bytes ht hi hz hsize hby hzc hsz _ n (l.flatMap fl) hs hown ad m c (news.flatMap fl) hx (by rw [flatG_len hf, hm]) (hrow ad rfl) (fun u hu => by obtain ⟨y, -, hy⟩ := List.mem_flatMap.1 hu; exact hone y u hy) (by unfold maxLen; omega) hbytes hbase ?_
    intro v' w' h1 h2 _
    rw [← List.flatMap_append] at h1
    obtain ⟨a', cap', rfl, h3⟩ := ownG_form h1
    exact h a' cap' w' h3 h2
/-- Where a row's cells lie, all of them. -/
theorem OwnG.cellsAll (h : OwnG e sz fl w base a n cap l) : ∀ ad, a = some ad → ∀ j u, (l.flatMap fl)[j]? = some u → w.cell? (ad.add j) = some u := by
  intro ad ha j u hj
  unfold OwnG at h
  rcases id h.2 with ⟨h1, h2⟩ | ⟨g, c, cur, h1, _⟩
  · simp only [Value.slice.injEq] at h1
    rw [ha] at h1
    simp at h1
  · simp only [Value.slice.injEq, true_and] at h1
    obtain ⟨rfl, rfl⟩ := h1
    obtain rfl := Option.some.inj ha
    exact h.cells (g := g) rfl j u hj
end
/-- Two operations that are ready: either may come first. -/
theorem held_pair {P : Program} {ops : Array Oper} {Q : Exit → Act → World → Prop} {md : Region.Mode} {S : World → Prop} {i j : Nat} {o o' : Oper} {fuel : Nat} {listed : Array Bool} {a : Act} {w : World} (hr : Region.ready md ops listed = [i, j]) (ho : ops[i]? = some o) (hw : Region.wanted o (yielded ops a.tmps) = true) (ho' : ops[j]? = some o') (hw' : Region.wanted o' (yielded ops a.tmps) = true)
    (h : ∀ K' : Act → World → Prop, Shut (∀ a w, S w → wpAnyH P md ops Q S fuel (listed.setIfInBounds i true) a w → K' a w) → Oper.wp P o a w K' Q)
    (h' : ∀ K' : Act → World → Prop, Shut (∀ a w, S w → wpAnyH P md ops Q S fuel (listed.setIfInBounds j true) a w → K' a w) → Oper.wp P o' a w K' Q) : wpAnyH P md ops Q S (fuel + 1) listed a w := by
  refine wpAnyH_all hr (by simp) ?_
  intro k hk
  have : k = i ∨ k = j := by simpa using hk
  rcases this with e | e
  · subst e
    unfold wpOp
    simp only [ho]
    rw [if_pos hw]
    exact Or.inl (h _ (fun a' w' hS q => ⟨hS, q⟩))
  · subst e
    unfold wpOp
    simp only [ho']
    rw [if_pos hw']
    exact Or.inl (h' _ (fun a' w' hS q => ⟨hS, q⟩))
theorem nmF_append (i : Nat) (l m : List UInt8) : nmF i (l ++ m) = (nmF i l && nmF (i + l.length) m) := by
  induction l generalizing i with
  | nil => simp [nmF]
  | cons c t ih =>
    rw [List.cons_append, nmF, nmF, ih, Bool.and_assoc, List.length_cons, show i + 1 + t.length = i + (t.length + 1) by omega]
theorem nmF_step {l : List UInt8} {k : Nat} {c : UInt8} (h : l[k]? = some c) : nmF 0 (l.take (k + 1)) = (nmF 0 (l.take k) && nmC k c) := by
  have hk : k < l.length := (List.getElem?_eq_some_iff.1 h).1
  rw [List.take_succ_eq_append_getElem hk, (List.getElem?_eq_some_iff.1 h).2, nmF_append, Nat.zero_add, List.length_take, Nat.min_eq_left (Nat.le_of_lt hk)]
  simp [nmF]
theorem nmF_false {l : List UInt8} {k : Nat} (h : nmF 0 (l.take k) = false) : nmF 0 l = false := by
  have := nmF_append 0 (l.take k) (l.drop k)
  rw [List.take_append_drop, h] at this
  exact this
/-- A name's byte as a number. -/
theorem nmC_num (k : Nat) (c : UInt8) : nmC k c = true ↔ (c.toNat = 95 ∨ (97 ≤ c.toNat ∧ c.toNat ≤ 122) ∨ (48 ≤ c.toNat ∧ c.toNat ≤ 57 ∧ k ≠ 0)) := by
  unfold nmC
  simp only [Bool.or_eq_true, Bool.and_eq_true, decide_eq_true_eq, beq_iff_eq, UInt8.le_iff_toNat_le, ← UInt8.toNat_inj]
  constructor
  · rintro ((h | h) | h)
    · exact Or.inl h
    · exact Or.inr (Or.inl h)
    · exact Or.inr (Or.inr ⟨h.1.1, h.1.2, h.2⟩)
  · rintro (h | h | h)
    · exact Or.inl (Or.inl h)
    · exact Or.inl (Or.inr h)
    · exact Or.inr ⟨⟨h.1, h.2.1⟩, h.2.2⟩

def lastN (p : Option ByteArray) (l : List Lb) : Option ByteArray := match l.getLast? with
  | some y => some y.1
  | none => p
def okP (p : Option ByteArray) (n : ByteArray) : Bool := match p with
  | none => true
  | some q => Op.bytesLess q.toList n.toList
theorem chkF_cons (p : Option ByteArray) (x : Lb) (t : List Lb) : chkF p (x :: t) = ((lbB x && okP p x.1) && chkF (some x.1) t) := by cases p <;> rfl
theorem chkF_append : ∀ (p : Option ByteArray) (l m : List Lb), chkF p (l ++ m) = (chkF p l && chkF (lastN p l) m)
  | p, [], m => by
    have : chkF p [] = true := by cases p <;> rfl
    rw [this, Bool.true_and]; rfl
  | p, x :: t, m => by
    rw [List.cons_append, chkF_cons, chkF_cons, chkF_append (some x.1) t m]
    have e : lastN p (x :: t) = lastN (some x.1) t := by
      unfold lastN
      cases t with
      | nil => rfl
      | cons y u => rw [List.getLast?_cons_cons]; cases h : (y :: u).getLast? with
        | none => simp at h
        | some z => rfl
    rw [e, Bool.and_assoc, Bool.and_assoc, Bool.and_assoc]
/-- One label more. -/
theorem chkF_step {l : List Lb} {k : Nat} {x : Lb} (hx : l[k]? = some x) : chkF none (l.take (k + 1)) = (chkF none (l.take k) && (lbB x && okP (lastN none (l.take k)) x.1)) := by
  have hk : k < l.length := (List.getElem?_eq_some_iff.1 hx).1
  rw [List.take_succ_eq_append_getElem hk, (List.getElem?_eq_some_iff.1 hx).2, chkF_append, chkF_cons]
  have : chkF (some x.1) [] = true := rfl
  rw [this, Bool.and_true]
theorem lastN_some {l : List Lb} {k : Nat} {y : Lb} (hy : l[k]? = some y) : lastN none (l.take (k + 1)) = some y.1 := by
  have hk : k < l.length := (List.getElem?_eq_some_iff.1 hy).1
  rw [List.take_succ_eq_append_getElem hk, (List.getElem?_eq_some_iff.1 hy).2]
  unfold lastN
  rw [List.getLast?_concat]
theorem chkF_false {l : List Lb} {k : Nat} (h : chkF none (l.take k) = false) : chkL l = false := by
  have := chkF_append none (l.take k) (l.drop k)
  rw [List.take_append_drop, h, Bool.false_and] at this
  unfold chkL
  rw [this, Bool.false_and]
structure LaC : Prop where
  chk : ∀ a n cap l w, RowL w a n l → Calls Tryz.prog 197 #[.slice a n cap] w fun e w' => e = .returned (.bool (chkL l)) ∧ Below w.heap.size w w'
def digB (z : Int) : Bool := decide (48 ≤ z) && decide (z ≤ 57)
theorem isdigit_any (z : Int) (w : World) : Calls Tryz.prog 288 #[.int .u8 z] w fun e w' => e = .returned (.bool (digB z)) ∧ w' = w := by
  unfold digB
  by_cases h1 : 48 ≤ z
  · by_cases h2 : z ≤ 57
    · rw [decide_eq_true h1, decide_eq_true h2]
      go_enter Tryz.func288, Tryz.ntmps288
      go_wp2
      go_ret
      exact ⟨rfl, rfl⟩
    · rw [decide_eq_false h2, Bool.and_false]
      go_enter Tryz.func288, Tryz.ntmps288
      go_wp2
      go_ret
      exact ⟨rfl, rfl⟩
  · rw [decide_eq_false h1, Bool.false_and]
    go_enter Tryz.func288, Tryz.ntmps288
    go_wp2
    go_ret
    exact ⟨rfl, rfl⟩

set_option maxHeartbeats 4000000 in
theorem name_any (s : ByteArray) (w : World) (hs : s.size ≤ 9223372036854775807) :
    Calls Tryz.prog 246 #[.string s] w fun e w' => e = .returned (.bool (nameB s)) ∧ w' = w := by
  have HN : Hid (nmF 0 s.toList = false → nameB s = false) := fun h => by unfold nameB; rw [h]; rfl
  have HY : Hid (nmF 0 s.toList = true → nameB s = (decide (1 ≤ s.size) && decide (s.size ≤ 32))) := fun h => by unfold nameB; rw [h]; rfl
  have HS : Hid ((decide (1 ≤ s.size) && decide (s.size ≤ 32)) = false → nameB s = false) := fun h => by unfold nameB; rw [h, Bool.and_false]
  have DG := hide isdigit_any
  generalize nameB s = ans at *
  by_cases h0 : s.size = 0
  · have F : Hid (ans = false) := HS.out (by rw [decide_eq_false (show ¬ 1 ≤ s.size by omega)]; rfl)
    have e0 : s.toList = [] := List.length_eq_zero_iff.1 (by rw [ba_len]; exact h0)
    have e1 : (s.toList == []) = true := by rw [e0]; rfl
    go_enter Tryz.func246, Tryz.ntmps246
    go_wp2
    go_ret
    exact ⟨by rw [F.out]; rfl, rfl⟩
  · have e0 : ¬ s.toList = [] := fun h => h0 (by rw [← ba_len, h]; rfl)
    have e1 : (s.toList == []) = false := by rw [beq_eq_false_iff_ne]; exact e0
    by_cases h32 : 32 < s.size
    · have F : Hid (ans = false) := HS.out (by rw [decide_eq_false (show ¬ s.size ≤ 32 by omega), Bool.and_false])
      have i3 : (32 : Int) < (s.size : Int) := by omega
      go_enter Tryz.func246, Tryz.ntmps246
      go_wp2
      go_ret
      exact ⟨by rw [F.out]; rfl, rfl⟩
    · have i3 : ¬ (32 : Int) < (s.size : Int) := by omega
      have hp : 0 < s.size := by omega
      obtain ⟨z0, hz0⟩ : ∃ z : Int, Hid (((s[0]'hp).toNat : Int) = z) := ⟨_, rfl⟩
      have hb0 := hz0.out
      have D0 := hide (DG.out z0)
      have j1 : (0 : Int) < (s.size : Int) := by omega
      cases hd0 : digB z0 with
      | true =>
        rw [hd0] at D0
        have F : Hid (ans = false) := HN.out (by
          have hx : s.toList[0]? = some (s[0]'hp) := by
            rw [ByteArray.toList_eq, Array.getElem?_toList]
            exact Array.getElem?_eq_getElem hp
          refine nmF_false (k := 0 + 1) ?_
          rw [nmF_step hx]
          have : nmC 0 (s[0]'hp) = false := by
            cases e : nmC 0 (s[0]'hp) with
            | false => rfl
            | true =>
              have h := (nmC_num 0 _).1 e
              unfold digB at hd0
              simp only [Bool.and_eq_true, decide_eq_true_eq] at hd0
              have := hz0.out
              omega
          rw [this, Bool.and_false])
        clear hd0 hz0
        go_enter Tryz.func246, Tryz.ntmps246
        go_wp2_with (go_at_call 288; refine (D0.out _).mono ?_; rintro e w' ⟨rfl, rfl⟩)
        go_ret
        exact ⟨by rw [F.out]; rfl, rfl⟩
      | false =>
        rw [hd0] at D0
        have HD : Hid (∀ z : Int, digB z = true → ∀ k (hk : k < s.size), ((s[k]'hk).toNat : Int) = z → k ≠ 0) := by
          rintro z hz k hk he rfl
          rw [← he, hz0.out, hd0] at hz
          cases hz
        clear hd0 hz0
        go_enter Tryz.func246, Tryz.ntmps246
        go_wp2_with (go_at_call 288; refine (D0.out _).mono ?_; rintro e w' ⟨rfl, hw⟩; rw [hw]; clear hw w')
        clear D0 hb0
        go_loopg [19] s.size (fun g i wr => ∃ k : Nat, k ≤ s.size ∧ s.size - k ≤ g ∧ i = .int .i64 k ∧ wr = w ∧ Hid (nmF 0 (s.toList.take k) = true))
        case atStart => exact ⟨0, Nat.zero_le _, by omega, rfl, rfl, rfl⟩
        case round =>
          obtain ⟨k, hk, hg, rfl, rfl, A⟩ := hrel
          by_cases hlt : k < s.size
          · have hx : s.toList[k]? = some (s[k]'hlt) := by
              rw [ByteArray.toList_eq, Array.getElem?_toList]
              exact Array.getElem?_eq_getElem hlt
            have ST := hide (nmF_step hx)
            have NC := hide (nmC_num k (s[k]'hlt))
            obtain ⟨z, hz⟩ : ∃ z : Int, Hid (((s[k]'hlt).toNat : Int) = z) := ⟨_, rfl⟩
            have hb := hz.out
            have NZ : Hid (nmC k (s[k]'hlt) = true ↔ (z = 95 ∨ (97 ≤ z ∧ z ≤ 122) ∨ (48 ≤ z ∧ z ≤ 57 ∧ k ≠ 0))) := by
              show _ ↔ _
              rw [NC.out]
              constructor
              · rintro (h | h | h)
                · exact Or.inl (by omega)
                · exact Or.inr (Or.inl (by omega))
                · exact Or.inr (Or.inr (by omega))
              · rintro (h | h | h)
                · exact Or.inl (by omega)
                · exact Or.inr (Or.inl (by omega))
                · exact Or.inr (Or.inr (by omega))
            have HK := hide (fun h => HD.out z h k hlt hz.out)
            have i2 : (k : Int) < (s.size : Int) := by omega
            have i1 : (0 : Int) ≤ (k : Int) := by omega
            have DZ := hide (DG.out z)
            clear hx NC hz
            cases hm : nmC k (s[k]'hlt) with
            | true =>
              have A2 : Hid (nmF 0 (s.toList.take (k + 1)) = true) := by show _ = _; rw [ST.out, A.out, hm]; rfl
              have cs := NZ.out.1 hm
              clear hm ST NZ HK
              rcases cs with rfl | cs | cs
              · have y1 : ((95 : Int) != 95) = false := by decide
                go_wp2
                go_roundg (s.size - (k + 1))
                case measure => omega
                case rel => exact ⟨k + 1, by omega, by omega, by go_num, rfl, A2⟩
              · have y1 : (z != 95) = true := by simp; omega
                have x1 : ¬ z < 97 := by omega
                have x4 : ¬ 122 < z := by omega
                have hd : digB z = false := by unfold digB; rw [decide_eq_false (show ¬ z ≤ 57 by omega), Bool.and_false]
                rw [hd] at DZ
                clear hd
                go_wp2_with (go_at_call 288; refine (DZ.out _).mono ?_; rintro e w' ⟨rfl, rfl⟩)
                go_roundg (s.size - (k + 1))
                case measure => omega
                case rel => exact ⟨k + 1, by omega, by omega, by go_num, rfl, A2⟩
              · have y1 : (z != 95) = true := by simp; omega
                have hd : digB z = true := by unfold digB; rw [decide_eq_true (show 48 ≤ z by omega), decide_eq_true (show z ≤ 57 by omega)]; rfl
                rw [hd] at DZ
                clear hd
                go_wp2_with (go_at_call 288; refine (DZ.out _).mono ?_; rintro e w' ⟨rfl, rfl⟩)
                go_roundg (s.size - (k + 1))
                case measure => omega
                case rel => exact ⟨k + 1, by omega, by omega, by go_num, rfl, A2⟩
            | false =>
              have F : Hid (ans = false) := HN.out (nmF_false (k := k + 1) (by rw [ST.out, hm, Bool.and_false]))
              have cs : ¬ (z = 95 ∨ (97 ≤ z ∧ z ≤ 122) ∨ (48 ≤ z ∧ z ≤ 57 ∧ k ≠ 0)) := fun h => by rw [NZ.out.2 h] at hm; cases hm
              have y1 : (z != 95) = true := by simp; omega
              have hd : digB z = false := by
                cases e : digB z with
                | false => rfl
                | true =>
                  have h1 := HK.out e
                  unfold digB at e
                  simp only [Bool.and_eq_true, decide_eq_true_eq] at e
                  omega
              rw [hd] at DZ
              clear hm ST NZ HK hd
              by_cases x1 : z < 97
              · clear cs
                go_wp2_with (go_at_call 288; refine (DZ.out _).mono ?_; rintro e w' ⟨rfl, rfl⟩)
                go_ret
                exact ⟨by rw [F.out]; rfl, rfl⟩
              · have x4 : 122 < z := by omega
                clear cs
                go_wp2_with (go_at_call 288; refine (DZ.out _).mono ?_; rintro e w' ⟨rfl, rfl⟩)
                go_ret
                exact ⟨by rw [F.out]; rfl, rfl⟩
          · have F := hide (HY.out (by
              have h := A.out
              rw [List.take_of_length_le (by rw [ba_len]; omega)] at h
              exact h))
            have i2 : ¬ (k : Int) < (s.size : Int) := by omega
            go_wp2
            go_ret
            refine ⟨?_, rfl⟩
            rw [F.out, decide_eq_true (show 1 ≤ s.size by omega), decide_eq_true (show s.size ≤ 32 by omega)]; rfl
set_option maxHeartbeats 8000000 in
theorem lcheck_any (a : Option Addr) (n cap : Nat) (l : List Lb) (w : World) (hr : RowL w a n l) :
    Calls Tryz.prog 197 #[.slice a n cap] w fun e w' => e = .returned (.bool (chkL l)) ∧ Below w.heap.size w w' := by
  have hn := hr.2.1
  have HR := hide hr
  have HL := hide hr.1
  have HN : Hid (∀ k, chkF none (l.take k) = false → chkL l = false) := fun k h => chkF_false h
  have HY : Hid (chkF none l = true → chkL l = (decide (1 ≤ n) && decide (n ≤ 8))) := fun h => by unfold chkL; rw [h, HL.out]; rfl
  have HS : Hid ((decide (1 ≤ n) && decide (n ≤ 8)) = false → chkL l = false) := fun h => by unfold chkL; rw [HL.out, h, Bool.and_false]
  generalize chkL l = ans at *
  clear hr
  by_cases h0 : n = 0
  · have F : Hid (ans = false) := HS.out (by rw [decide_eq_false (show ¬ 1 ≤ n by omega)]; rfl)
    subst h0
    go_enter Tryz.func197, Tryz.ntmps197
    go_wp2
    go_ret
    exact ⟨by rw [F.out]; rfl, Below.refl _ _⟩
  have z0 : ((n : Int) == 0) = false := by simp; omega
  have z0' : ¬ (n : Int) = 0 := by omega
  by_cases h8 : 8 < n
  · have F : Hid (ans = false) := HS.out (by rw [decide_eq_false (show ¬ n ≤ 8 by omega), Bool.and_false])
    have z1 : (8 : Int) < (n : Int) := by omega
    go_enter Tryz.func197, Tryz.ntmps197
    go_wp2
    go_ret
    exact ⟨by rw [F.out]; rfl, Below.refl _ _⟩
  have z1 : ¬ (8 : Int) < (n : Int) := by omega
  go_enter Tryz.func197, Tryz.ntmps197
  go_wp2
  go_loopg [15] n (fun g i wr => ∃ k : Nat, k ≤ n ∧ n - k ≤ g ∧ i = .int .i64 k ∧ Hid (Below w.heap.size w wr) ∧ Hid (chkF none (l.take k) = true))
  case atStart => exact ⟨0, Nat.zero_le _, by omega, rfl, Below.refl _ _, rfl⟩
  case round =>
    obtain ⟨k, hk, hg, rfl, BW, A⟩ := hrel
    obtain ⟨u, rfl⟩ : ∃ u, u = wr := ⟨wr, rfl⟩
    by_cases hlt : k < n
    · obtain ⟨b1, o1, x, rfl, hx, hxw, hc1⟩ := HR.out.at' hlt
      obtain ⟨f0, f1⟩ := hc1 u BW.out
      have ST := hide (chkF_step hx)
      rw [A.out, Bool.true_and] at ST
      have CN := hide (fun W => name_any x.1 W hxw.1)
      have LB : Hid (lbB x = (nameB x.1 && (decide (1 ≤ x.2.size) && decide (x.2.size ≤ 64)))) := rfl
      have i1 : (0 : Int) ≤ (k : Int) := by omega
      have i2 : (k : Int) < (n : Int) := by omega
      have B2 := hide (fun o => bel_al BW.out (Nat.le_refl _) o)
      have B3 := hide (fun o q => bel_drewN (bel_al BW.out (Nat.le_refl _) o) q)
      clear hc1 hx hxw BW
      cases hnm : nameB x.1 with
      | false =>
        rw [hnm] at CN
        have F : Hid (ans = false) := HN.out (k + 1) (by rw [ST.out, LB.out, hnm]; rfl)
        clear hnm ST LB
        go_wp2_with (go_at_call 246; refine (CN.out _).mono ?_; rintro e w' ⟨rfl, hw⟩; rw [hw]; clear hw w')
        go_ret
        exact ⟨by rw [F.out]; rfl, B2.out _⟩
      | true =>
        rw [hnm] at CN
        rw [hnm, Bool.true_and] at LB
        clear hnm
        by_cases h1 : 1 ≤ x.2.size
        · have e1 : ¬ x.2.toList = [] := fun h => by have := ba_len x.2; rw [h] at this; simp at this; omega
          have e1' : (x.2.toList == []) = false := by rw [beq_eq_false_iff_ne]; exact e1
          have LB1 : Hid (lbB x = decide (x.2.size ≤ 64)) := by show _ = _; rw [LB.out, decide_eq_true h1, Bool.true_and]
          clear LB
          by_cases h2 : x.2.size ≤ 64
          · have e2' : ¬ (64 : Int) < (x.2.size : Int) := by omega
            rw [decide_eq_true h2] at LB1
            rw [LB1.out, Bool.true_and] at ST
            clear h2 LB1
            by_cases hk0 : k = 0
            · have A2 : Hid (chkF none (l.take (k + 1)) = true) := by show _ = _; rw [ST.out, hk0]; rfl
              have e3 : decide ((0 : Int) < (k : Int)) = false := decide_eq_false (by omega)
              have e3' : ¬ (0 : Int) < (k : Int) := by omega
              have e3n : decide (0 < k) = false := decide_eq_false (by omega)
              clear ST h1 hk0
              go_wp2_with (go_at_call 246; refine (CN.out _).mono ?_; rintro e w' ⟨rfl, hw⟩; rw [hw]; clear hw w')
              go_quiet (fail)
              go_wp2
              go_roundg (n - (k + 1))
              case measure => omega
              case rel => exact ⟨k + 1, by omega, by omega, by go_num, B3.out _ _, A2⟩
            · obtain ⟨j, rfl⟩ : ∃ j, k = j + 1 := ⟨k - 1, by omega⟩
              obtain ⟨b2, o2, y, hbo, hy, _, hc2⟩ := HR.out.at' (j := j) (by omega)
              simp only [Option.some.injEq, Addr.mk.injEq, and_true] at hbo
              obtain ⟨rfl, rfl⟩ := hbo
              have g0 := (hc2 _ (B2.out (.cells #[.string x.1, .string x.2] 191))).1
              have ST2 : Hid (chkF none (l.take (j + 1 + 1)) = Op.bytesLess y.1.toList x.1.toList) := by show _ = _; rw [ST.out, lastN_some hy]; rfl
              have e3 : decide ((0 : Int) < (j : Int) + 1) = true := decide_eq_true (by omega)
              have e3' : (0 : Int) < (j : Int) + 1 := by omega
              have j1 : (0 : Int) ≤ (j : Int) := by omega
              have j2 : (j : Int) < (n : Int) := by omega
              clear hc2 hy ST h1
              cases hb : Op.bytesLess y.1.toList x.1.toList with
              | false =>
                rw [hb] at ST2
                have F : Hid (ans = false) := HN.out _ ST2.out
                clear ST2
                go_wp2_with (go_at_call 246; refine (CN.out _).mono ?_; rintro e w' ⟨rfl, hw⟩; rw [hw]; clear hw w')
                go_quiet (fail)
                go_wp2
                go_ret
                exact ⟨by rw [F.out]; rfl, B3.out _ _⟩
              | true =>
                rw [hb] at ST2
                go_wp2_with (go_at_call 246; refine (CN.out _).mono ?_; rintro e w' ⟨rfl, hw⟩; rw [hw]; clear hw w')
                go_quiet (fail)
                go_wp2
                go_roundg (n - (j + 1 + 1))
                case measure => omega
                case rel => exact ⟨j + 1 + 1, by omega, by omega, by go_num, B3.out _ _, ST2⟩
          · have e2' : (64 : Int) < (x.2.size : Int) := by omega
            have F : Hid (ans = false) := HN.out (k + 1) (by rw [ST.out, LB1.out, decide_eq_false h2]; rfl)
            clear h2 LB1 ST h1
            go_wp2_with (go_at_call 246; refine (CN.out _).mono ?_; rintro e w' ⟨rfl, hw⟩; rw [hw]; clear hw w')
            go_ret
            exact ⟨by rw [F.out]; rfl, B2.out _⟩
        · have e1 : x.2.toList = [] := List.length_eq_zero_iff.1 (by rw [ba_len]; omega)
          have e1' : (x.2.toList == []) = true := by rw [e1]; rfl
          have F : Hid (ans = false) := HN.out (k + 1) (by rw [ST.out, LB.out, decide_eq_false h1]; rfl)
          clear LB ST h1
          go_wp2_with (go_at_call 246; refine (CN.out _).mono ?_; rintro e w' ⟨rfl, hw⟩; rw [hw]; clear hw w')
          go_ret
          exact ⟨by rw [F.out]; rfl, B2.out _⟩
    · have F := hide (HY.out (by
        have h := A.out
        rw [List.take_of_length_le (by rw [HL.out]; omega)] at h
        exact h))
      have i2 : ¬ (k : Int) < (n : Int) := by omega
      go_wp2
      go_ret
      refine ⟨?_, BW.out⟩
      rw [F.out, decide_eq_true (show 1 ≤ n by omega), decide_eq_true (show n ≤ 8 by omega)]; rfl
theorem laC : LaC := ⟨fun a n cap l w hr => lcheck_any a n cap l w hr⟩
theorem ch_bel {w v u : World} {g : Nat} (h : Ch (fun b => b = g) w v) (k : Below w.heap.size v u) : Ch (fun b => b = g) w u :=
  ⟨k.os.trans h.os, k.tape.trans h.tape, k.output.trans h.output, Nat.le_trans h.size k.size, fun i hi hn => (k.block i hi).trans (h.block i hi hn)⟩
def byV (z : Int) : List Value := [.int .u8 z]
theorem byV_len (z : Int) : (byV z).length = 1 := rfl
theorem byV_one1 (z : Int) : ∀ u ∈ byV z, u.oneCell' = true := by
  intro u hu
  obtain rfl := List.mem_singleton.1 hu
  rfl
theorem Tryz.infoU8 : (Tryz.prog.info? 5).map (fun i => (i.zero, i.size, i.bytes)) = some (some (.int .u8 0), 1, 1) := by kernel_rfl
abbrev OwnVb (w : World) (base : Nat) (a : Option Addr) (n cap : Nat) (l : List Int) : Prop := OwnG 5 1 byV w base a n cap l
/-- A slice by its three words. -/
abbrev H3 := Option Addr × Nat × Nat
def h3V (h : H3) : Value := .slice h.1 h.2.1 h.2.2
/-- What Read tells. -/
def ReadVp (x : Option (List Int)) (w : World) (e : Ending) (w' : World) : Prop := Below w.heap.size w w' ∧ match x with
  | none => e = .returned (.tuple #[.slice none 0 0, .int .i64 3])
  | some b => ∃ a c, e = .returned (.tuple #[.slice a b.length c, .int .i64 0]) ∧ OwnVb w' w.heap.size a b.length c b
/-- Behind a call that may turn these blocks alone. -/
def StepV {α : Type} (At : World → Nat → (Nat → Prop) → α → Prop) (w w' : World) (g : Nat) (S : Nat → Prop) (F : α) : Prop :=
  ∃ S', At w' g S' F ∧ (∀ k, S' k → S k ∨ w.heap.size ≤ k) ∧ Ch S w w'
/-- One that is made. -/
def MadeV {α : Type} (At : World → Nat → (Nat → Prop) → α → Prop) (w w' : World) (g : Nat) (F : α) : Prop :=
  ∃ S, At w' g S F ∧ (∀ k, S k → w.heap.size ≤ k) ∧ Below w.heap.size w w'
def stV (s : ByteArray) : List Value := [.string s]
theorem stV_len (s : ByteArray) : (stV s).length = 1 := rfl
theorem stV_one1 (s : ByteArray) : ∀ u ∈ stV s, u.oneCell' = true := by
  intro u hu
  obtain rfl := List.mem_singleton.1 hu
  rfl
abbrev OwnVs (w : World) (base : Nat) (a : Option Addr) (n cap : Nat) (l : List ByteArray) : Prop := OwnG 9 1 stV w base a n cap l
theorem OwnVs.at' {w : World} {base n cap : Nat} {a : Option Addr} {l : List ByteArray} (h : OwnVs w base a n cap l) {i : Nat} (hi : i < n) : ∃ g, a = some ⟨g, 0, none⟩ ∧ n ≤ cap ∧ w.cell? ⟨g, i, none⟩ = some (.string (l.getD i ByteArray.empty)) := by
  have hl := OwnG.len stV_len (by decide) h
  obtain ⟨g, h1, h2, h3, h4⟩ := OwnG.at stV_len (by decide) h (List.getElem?_eq_getElem (show i < l.length by omega))
  refine ⟨g, h1, h3, ?_⟩
  have := h4 0 _ rfl
  rw [Nat.mul_one, Nat.add_zero] at this
  rw [this, List.getD_eq_getElem?_getD, List.getElem?_eq_getElem (show i < l.length by omega)]
  rfl
theorem slice_to16 (a : Option Addr) (n cap k : Nat) (hk : k ≤ cap) (w : World) :
    (Instr.slice 40 (.slice a n cap) none (some (.int .i64 (k : Int))) none).run Tryz.prog w = .ok (.slice a k cap) w := by
  rw [run_slice_h (P := Tryz.prog) w 40 a n cap Tryz.underlying40 .i64 (k : Int) (by omega) (by omega)]
  have hs : (sizeOf (Tryz.prog.elem 40)).run Tryz.prog w = .ok 1 w := by kernel_rfl
  rw [hs]
  simp only [Result.andThen, sliced, Int.toNat_natCast, Nat.zero_mul, Nat.sub_zero]
  cases a with
  | none => simp
  | some x => simp [Addr.add]

end Go.Proofs.YtknghoecjobkiaaGreatDoor

namespace Go.Proofs.YtknghoecjobkiaaGreatDoor
set_option linter.unusedVariables false
/-- One text ahead of another. -/
def aheadN (x y : ByteArray) : Prop := Op.bytesLess x.toList y.toList = true
theorem getD_at {l : List ByteArray} {i : Nat} (h : i < l.length) : l.getD i ByteArray.empty ∈ l ∧ l[i]? = some (l.getD i ByteArray.empty) := by
  rw [List.getD_eq_getElem?_getD, List.getElem?_eq_getElem h]
  exact ⟨List.getElem_mem h, rfl⟩
theorem backN_behind (l : List ByteArray) (s : ByteArray) : ∀ k j, backN l s k ≤ j → j < k → aheadN s (l.getD j ByteArray.empty)
  | 0, j, _, h => by omega
  | k + 1, j, h1, h2 => by
    unfold backN at h1
    split at h1
    · rename_i e
      by_cases q : j = k
      · subst q; exact e
      · exact backN_behind l s k j h1 (by omega)
    · omega
theorem backN_ahead (l : List ByteArray) (s : ByteArray) : ∀ k j, backN l s k = j + 1 → Op.bytesLess s.toList (l.getD j ByteArray.empty).toList = false
  | 0, j, h => by simp [backN] at h
  | k + 1, j, h => by
    unfold backN at h
    split at h
    · exact backN_ahead l s k j h
    · rename_i e
      obtain rfl : k = j := by omega
      simpa using e
theorem insN_mem (l : List ByteArray) (s t : ByteArray) : t ∈ insN l s ↔ t = s ∨ t ∈ l := by
  unfold insN
  rw [List.mem_append, List.mem_cons]
  conv => rhs; rw [← List.take_append_drop (backN l s l.length) l, List.mem_append]
  constructor
  · rintro (h | h | h)
    · exact Or.inr (Or.inl h)
    · exact Or.inl h
    · exact Or.inr (Or.inr h)
  · rintro (h | h | h)
    · exact Or.inr (Or.inl h)
    · exact Or.inl h
    · exact Or.inr (Or.inr h)
theorem insN_rises {l : List ByteArray} (h : l.Pairwise aheadN) {s : ByteArray} (hs : s ∉ l) : (insN l s).Pairwise aheadN := by
  unfold insN
  have hle := backN_le l s l.length
  generalize hk : backN l s l.length = k at hle
  have hB : ∀ x ∈ l.drop k, aheadN s x := by
    intro x hx
    obtain ⟨i, hi⟩ := List.mem_iff_getElem?.1 hx
    rw [List.getElem?_drop] at hi
    have hlt := (List.getElem?_eq_some_iff.1 hi).1
    have := backN_behind l s l.length (k + i) (by omega) hlt
    have e := (getD_at hlt).2
    rw [hi] at e
    rw [← Option.some.inj e] at this
    exact this
  have hA : ∀ x ∈ l.take k, aheadN x s := by
    intro x hx
    obtain ⟨i, hi⟩ := List.mem_iff_getElem?.1 hx
    rw [List.getElem?_take] at hi
    split at hi
    · rename_i hik
      obtain ⟨m, rfl⟩ : ∃ m, k = m + 1 := ⟨k - 1, by omega⟩
      have h1 := backN_ahead l s l.length m hk
      have hm : m < l.length := by omega
      obtain ⟨g1, g2⟩ := getD_at hm
      have h2 : aheadN (l.getD m ByteArray.empty) s := by
        rcases less_tri (l.getD m ByteArray.empty).toList s.toList with e | e | e
        · exact e
        · exact absurd (ba_ext e ▸ g1) hs
        · rw [h1] at e; simp at e
      by_cases e : i = m
      · subst e
        rw [hi] at g2
        rw [Option.some.inj g2]
        exact h2
      · refine less_trans ?_ h2
        obtain ⟨a1, a2⟩ := List.getElem?_eq_some_iff.1 hi
        obtain ⟨b1, b2⟩ := List.getElem?_eq_some_iff.1 g2
        have := List.pairwise_iff_getElem.1 h i m a1 b1 (by omega)
        rw [a2, b2] at this
        exact this
    · simp at hi
  rw [List.pairwise_append]
  refine ⟨h.sublist (List.take_sublist _ _), ?_, fun x hx y hy => ?_⟩
  · rw [List.pairwise_cons]
    exact ⟨hB, h.sublist (List.drop_sublist _ _)⟩
  · rcases List.mem_cons.1 hy with rfl | hy
    · exact hA x hx
    · exact less_trans (hA x hx) (hB y hy)
theorem insN_len (l : List ByteArray) (s : ByteArray) : (insN l s).length = l.length + 1 := by
  unfold insN
  have := backN_le l s l.length
  rw [List.length_append, List.length_cons, List.length_take, List.length_drop]
  omega
theorem listD_snoc (l : List Dn) (d : Dn) : listD (l ++ [d]) = insN (listD l) d.nm := by
  unfold listD
  rw [List.foldl_append]
  rfl
theorem listD_of : ∀ {l r : List Dn}, l = r.reverse → (r.map (·.nm)).Nodup → (∀ t, t ∈ listD l ↔ t ∈ r.map (·.nm)) ∧ (listD l).Pairwise aheadN ∧ (listD l).length = l.length := by
  intro l r e
  subst e
  induction r with
  | nil => intro _; exact ⟨fun t => Iff.rfl, List.Pairwise.nil, rfl⟩
  | cons d r ih =>
    intro h
    rw [List.map_cons, List.nodup_cons] at h
    obtain ⟨h1, h2, h3⟩ := ih h.2
    rw [List.reverse_cons, listD_snoc]
    refine ⟨fun t => ?_, insN_rises h2 (fun q => h.1 ((h1 _).1 q)), ?_⟩
    · rw [insN_mem, List.map_cons, List.mem_cons, h1]
    · rw [insN_len, h3, List.length_append]; rfl
/-- The names that are told: just those, in order, as many. -/
theorem listD_names {l : List Dn} (h : NamesD l) : (∀ t, t ∈ listD l ↔ (fileD l t).isSome = true) ∧ (listD l).Pairwise aheadN ∧ (listD l).length = l.length := by
  obtain ⟨h1, h2, h3⟩ := listD_of (l := l) (r := l.reverse) (by simp) (by rw [List.map_reverse]; exact List.pairwise_reverse.2 (h.once.imp Ne.symm))
  refine ⟨fun t => ?_, h2, h3⟩
  rw [h1, List.mem_map]
  constructor
  · rintro ⟨d, hd, rfl⟩
    rw [fileD_at h (List.mem_reverse.1 hd)]
    rfl
  · intro q
    obtain ⟨f, hf⟩ := Option.isSome_iff_exists.1 q
    exact ⟨_, List.mem_reverse.2 (fileD_mem hf), rfl⟩
end Go.Proofs.YtknghoecjobkiaaGreatDoor
