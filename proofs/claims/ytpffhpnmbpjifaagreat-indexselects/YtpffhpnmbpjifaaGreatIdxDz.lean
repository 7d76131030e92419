/-
  Maps by texts in memory: what stands at each text, one text more, the texts that there are: laws, for every world. The index in memory (package index): its sets by numbers, its numbers by texts, the numbers that have a value by name and value: what it abides, and what one set more, one name more, one number more make of it. The index in memory, whole; what New, Len, Find, Labels and the copy of labels come to: contracts, for every world. What Find and Labels of the index come to: contracts, for every world. The index in memory: what it abides part by part, one set more in its row, one text more, its lists by names and values as they grow.
  Conditions: as each theorem says; the index lies in memory; as each theorem says.
-/
import Derived.Test.YtpffhpnmbpjifaaGreatVintZa
import Derived.Test.YtpffhpnmbpjifaaGreatLabZa
import Derived.Test.YtpffhpnmbpjifaaGreatRows
import Derived.Maps.OwnSet
import Derived.Sort.KeysCollected
import Derived.Sort.Walk0
import Derived.Test.YtpffhpnmbpjifaaGreatIdxI
import Derived.Test.YtpffhpnmbpjifaaGreatPosI
import Derived.Test.YtpffhpnmbpjifaaGreatLabZc
import Derived.Deep.RegionHeld3
import Derived.BigQuiet
import Derived.Deep.QuietTactic
import Derived.Test.YtpffhpnmbpjifaaGreatIdxY
namespace Go.Proofs.YtpffhpnmbpjifaaGreat
open Go.RowKit Go.Maps
set_option maxRecDepth 20000

abbrev keyS : Keyed Tryz.prog 9 := string_keyed Tryz.underlying9
/-- What stands at a text is told as it is. -/
def heldE (v : Value) : Option (DataW Value × List MemPlace) := some (.held v, [])
/-- A text as a key. -/
def kS (s : ByteArray) : Lit := .string s.data.toList
theorem kS_inj {s t : ByteArray} (h : kS s = kS t) : s = t := by
  unfold kS at h
  simp only [Lit.string.injEq] at h
  cases s with | mk x => cases t with | mk y => congr 1; exact Array.ext' h
theorem kS_list (s : ByteArray) : kS s = .string s.toList := by unfold kS; rw [ByteArray.toList_eq]
theorem keyOf_kS {s : ByteArray} (h : s.size ≤ maxLen) : keyOf Tryz.prog 9 (.string s) = some (kS s) := by
  have : s.data.size ≤ maxLen := h
  simp [keyOf, Tryz.underlying9, mapKey, kS]
  exact h
/-- What a map tells at each text. -/
structure ReadsS (D : DataW Value) (f : ByteArray → Option Value) : Prop where
  has : ∀ s, Maps.has D (kS s) = (f s).isSome
  at' : ∀ s v, f s = some v → ∀ z, D.atKey (kS s) z = .held v
abbrev MapD (w : World) (b n : Nat) (D : DataW Value) : Prop := w.ownsMap Tryz.prog 9 heldE b n D
/-- Block b is a map of at most n texts that tells these. -/
def MapS (w : World) (b n : Nat) (f : ByteArray → Option Value) : Prop := ∃ D, MapD w b n D ∧ ReadsS D f
/-- A block that is a map. -/
def MapB (w : World) (b : Nat) : Prop := ∃ es clock, w.heap[b]? = some (.map es clock)
theorem MapB.ne {w : World} {b g : Nat} {t : TypeId} (h : MapB w b) (k : CellsT w g t) : b ≠ g := by
  rintro rfl
  obtain ⟨_, _, h⟩ := h
  obtain ⟨_, _, k⟩ := k
  rw [h] at k
  cases k
def updF (f : ByteArray → Option Value) (s : ByteArray) (v : Value) : ByteArray → Option Value := fun t => if t = s then some v else f t
theorem ReadsS.put {D : DataW Value} {f : ByteArray → Option Value} (h : ReadsS D f) (hm : IsMap D) (s : ByteArray) (v : Value) : ReadsS (D.put (kS s) (.held v)) (updF f s v) := by
  refine ⟨fun t => ?_, fun t x ht z => ?_⟩
  · unfold updF
    by_cases e : t = s
    · subst e
      rw [if_pos rfl, has_put_same hm (k := kS t) ⟨⟩]
      rfl
    · rw [if_neg e, has_put_other (fun q => e (kS_inj q)), h.has]
  · unfold updF at ht
    by_cases e : t = s
    · subst e
      rw [if_pos rfl] at ht
      cases ht
      exact atKey_put_same hm (k := kS t) ⟨⟩ _ _
    · rw [if_neg e] at ht
      rw [atKey_put_other (fun q => e (kS_inj q))]
      exact h.at' t x ht z
section
variable {w w' : World} {b n : Nat} {f : ByteArray → Option Value}
theorem MapS.isMap (h : MapS w b n f) : MapB w b := by
  obtain ⟨D, ⟨es, clock, hb, _⟩, _⟩ := h
  exact ⟨es, clock, hb⟩
theorem MapS.lt (h : MapS w b n f) : b < w.heap.size := h.choose_spec.1.lt
theorem MapS.mono (h : MapS w b n f) {m : Nat} (hm : n ≤ m) : MapS w b m f := by
  obtain ⟨D, h1, h2⟩ := h
  exact ⟨D, h1.mono hm, h2⟩
theorem MapS.congr {f' : ByteArray → Option Value} (h : MapS w b n f) (e : ∀ s, f s = f' s) : MapS w b n f' := (funext e : f = f') ▸ h
theorem MapS.ch {S : Nat → Prop} (h : MapS w b n f) (k : Ch S w w') (hn : ¬ S b) : MapS w' b n f := by
  obtain ⟨D, h1, h2⟩ := h
  have hlt := h1.lt
  obtain ⟨es, clock, hb, r⟩ := h1
  exact ⟨D, ⟨es, clock, (k.block b hlt hn).trans hb, r⟩, h2⟩
theorem MapS.below (h : MapS w b n f) (k : Below w.heap.size w w') : MapS w' b n f := h.ch (Ch.of_below k) id
theorem MapS.drewN (h : MapS w b n f) (q : Nat) : MapS (w.drewN q) b n f := h
theorem MapS.drew (h : MapS w b n f) : MapS w.drew b n f := h
theorem mapS_new (w : World) : MapS (w.alloc (.map #[] 0)) w.heap.size 0 (fun _ => none) := ⟨_, World.ownsMap_made w _ _ _, fun s => rfl, fun s v h => by cases h⟩
/-- A look at a text. -/
theorem MapS.look {t e : TypeId} (h : MapS w b n f) (ht : Tryz.prog.underlying t = some (.map 9 e)) {z : Value} (hz : (zeroValue e).run Tryz.prog w = .ok z w) {s : ByteArray} (hs : s.size ≤ maxLen) :
    (Instr.lookup t (.map (some b)) (.string s) false).run Tryz.prog w = .ok ((f s).getD z) w := by
  obtain ⟨D, h1, h2⟩ := h
  obtain ⟨v, ps, hrun, hv⟩ := h1.lookup keyS ht hz (zd := .held z) (zp := []) rfl (keyOf_kS hs)
  rw [hrun]
  unfold heldE at hv
  simp only [Option.some.injEq, Prod.mk.injEq] at hv
  congr 1
  cases hf : f s with
  | none =>
    have := h2.has s
    rw [hf] at this
    rw [atKey_of_not_has this] at hv
    exact DataW.held.inj hv.1
  | some x =>
    rw [h2.at' s x hf] at hv
    exact DataW.held.inj hv.1
theorem MapS.look_ok {t e : TypeId} (h : MapS w b n f) (ht : Tryz.prog.underlying t = some (.map 9 e)) {z : Value} (hz : (zeroValue e).run Tryz.prog w = .ok z w) {s : ByteArray} (hs : s.size ≤ maxLen) :
    (Instr.lookup t (.map (some b)) (.string s) true).run Tryz.prog w = .ok (.tuple #[(f s).getD z, .bool (f s).isSome]) w := by
  obtain ⟨D, h1, h2⟩ := h
  obtain ⟨v, ps, hrun, hv⟩ := h1.look_ok keyS ht hz (zd := .held z) (zp := []) rfl (keyOf_kS hs)
  rw [hrun, h2.has s]
  unfold heldE at hv
  simp only [Option.some.injEq, Prod.mk.injEq] at hv
  have e : v = (f s).getD z := by
    cases hf : f s with
    | none =>
      have := h2.has s
      rw [hf] at this
      rw [atKey_of_not_has this] at hv
      exact DataW.held.inj hv.1
    | some x =>
      rw [h2.at' s x hf] at hv
      exact DataW.held.inj hv.1
  rw [e]
/-- One text more, or another thing at it. -/
theorem MapS.store {t e : TypeId} (h : MapS w b n f) (ht : Tryz.prog.underlying t = some (.map 9 e)) (hn : n < maxLen) {s : ByteArray} (hs : s.size ≤ maxLen) (v : Value) :
    ∃ w', (Instr.mapUpdate t (.map (some b)) (.string s) v).run Tryz.prog w = .ok () w' ∧ MapS w' b (n + 1) (updF f s v) ∧ w.grownBy w' (some b) := by
  obtain ⟨D, h1, h2⟩ := h
  obtain ⟨w', hrun, r1, r2⟩ := h1.update keyS ht hn (keyOf_kS hs) (val := v) (d := .held v) (ps := []) rfl
  exact ⟨w', hrun, ⟨_, r1, h2.put h1.isMap s v⟩, r2⟩
end
theorem look_none {t e : TypeId} {w : World} (ht : Tryz.prog.underlying t = some (.map 9 e)) {z : Value} (hz : (zeroValue e).run Tryz.prog w = .ok z w) {s : ByteArray} (hs : s.size ≤ maxLen) :
    (Instr.lookup t (.map none) (.string s) false).run Tryz.prog w = .ok z w := by
  have := Maps.look_nil (w := w) false keyS ht hz (keyOf_kS hs)
  simpa using this
/-- The texts that a map has. -/
theorem keys_mem {w : World} {b n : Nat} {D : DataW Value} (h : MapD w b n D) : (strKeys D).Nodup ∧ ∀ x, x ∈ strKeys D ↔ Maps.has D (.string x) = true := by
  obtain ⟨es, hD, hpw, _⟩ := h.entries keyS
  obtain ⟨es', hD', hko⟩ := h.keysOf
  obtain rfl : es = es' := by rw [hD] at hD'; simpa using hD'
  subst hD
  have hk : ∀ p ∈ es, ∃ x, p.1 = .string x := fun p hp => by
    obtain ⟨v, hv⟩ := hko p hp
    obtain ⟨x, _, hx, _⟩ := Maps.keyOf_str Tryz.underlying9 hv
    exact ⟨x, hx⟩
  refine ⟨?_, fun x => ?_⟩
  · show (es.map fun p => strOf p.1).Nodup
    refine List.pairwise_map.2 (hpw.imp_of_mem fun {p q} hp hq hne e => hne ?_)
    obtain ⟨u, hu⟩ := hk p hp
    obtain ⟨v, hv⟩ := hk q hq
    rw [hu, hv] at e ⊢
    exact congrArg Lit.string e
  · show x ∈ es.map (fun p => strOf p.1) ↔ _
    rw [has_eq, List.any_eq_true, List.mem_map]
    constructor
    · rintro ⟨p, hp, rfl⟩
      obtain ⟨u, hu⟩ := hk p hp
      exact ⟨p, hp, by rw [hu]; simp [Lit.sameKey, strOf]⟩
    · rintro ⟨p, hp, hs⟩
      obtain ⟨u, hu⟩ := hk p hp
      rw [hu] at hs
      exact ⟨p, hp, by rw [hu]; simpa [Lit.sameKey, strOf] using hs⟩
theorem bytes_le {x y : List UInt8} (h : Op.bytesLess x y = true) : x ≤ y := by
  rw [bytesLess_eq, decide_eq_true_eq] at h
  exact List.le_of_lt h
/-- Texts in order, each once, are the sorted texts of a map that has just these. -/
theorem sorted_keys {D : DataW Value} {ss l : List (List UInt8)} (hp : ss.Perm (strKeys D)) (hn : (strKeys D).Nodup) (hl : l.Pairwise (fun x y => Op.bytesLess x y = true)) (hm : ∀ x, x ∈ l ↔ x ∈ strKeys D) : ss.mergeSort (fun x y => decide (x ≤ y)) = l := by
  have hnd : l.Nodup := hl.imp (fun {x y} h e => by subst e; rw [bytesLess_eq, decide_eq_true_eq] at h; exact List.lt_irrefl x h)
  have hpl : ss.Perm l := hp.trans ((List.perm_ext_iff_of_nodup hn hnd).2 (fun x => (hm x).symm))
  have e := mergeSort_of_perm hpl
  rw [show ss.mergeSort (fun x y => decide (x ≤ y)) = ss.mergeSort leB from rfl, e]
  exact List.mergeSort_of_pairwise (hl.imp (fun h => by simp only [leB, decide_eq_true_eq]; exact bytes_le h))
end Go.Proofs.YtpffhpnmbpjifaaGreat

namespace Go.Proofs.YtpffhpnmbpjifaaGreat
open Go.RowKit Go.Maps
set_option maxRecDepth 20000

/-- How many labels. -/
def cntX (L : Lx) : Nat := (L.map List.length).sum
theorem cntX_more (L : Lx) (l : List Lb) : cntX (L ++ [l]) = cntX L + l.length := by simp [cntX]
theorem cntX_le {L : Lx} (h : GoodX L) : cntX L ≤ 8 * L.length := by
  induction L with
  | nil => simp [cntX]
  | cons x t ih =>
    have h1 := ih (fun l hl => h l (by simp [hl]))
    have h2 := (chkL_parts (h x (by simp))).2.1
    unfold cntX at h1 ⊢
    simp only [List.map_cons, List.sum_cons, List.length_cons]
    omega
theorem postX_more (L : Lx) (m : List Lb) (nm v : ByteArray) : postX (L ++ [m]) nm v = postX L nm v ++ (if valL m nm = v then [(L.length : Int)] else []) := by
  unfold postX
  rw [idxs_append, Nat.zero_add]
  congr 1
  unfold idxs valP
  by_cases e : valL m nm = v
  · simp [e, idxs]
  · simp [e, idxs]
theorem postX_start (L : Lx) (nm v : ByteArray) (hv : v ≠ .empty) : postX (L ++ [[]]) nm v = postX L nm v := by
  rw [postX_more, if_neg (fun e => hv e.symm), List.append_nil]
/-- The value of a name among the first labels of a set. -/
theorem valL_take {l : List Lb} (h : l.Pairwise less) {j : Nat} {x : Lb} (hx : l[j]? = some x) (nm : ByteArray) :
    valL (l.take j) x.1 = .empty ∧ valL (l.take (j + 1)) nm = if nm = x.1 then x.2 else valL (l.take j) nm := by
  obtain ⟨hj, e⟩ := List.getElem?_eq_some_iff.1 hx
  have hno : ∀ y ∈ l.take j, y.1 ≠ x.1 := by
    intro y hy
    obtain ⟨i, hi, rfl⟩ := List.mem_iff_getElem.1 hy
    rw [List.length_take] at hi
    have h1 := List.pairwise_iff_getElem.1 h i j (by omega) hj (by omega)
    rw [List.getElem_take]
    intro q
    unfold less at h1
    rw [e, q, less_irrefl] at h1
    cases h1
  refine ⟨valL_none hno, ?_⟩
  rw [List.take_succ_eq_append_getElem hj, e]
  unfold valL
  rw [List.find?_append]
  by_cases q : nm = x.1
  · subst q
    rw [if_pos rfl, List.find?_eq_none.2 (fun y hy => by simpa using hno y hy)]
    simp
  · rw [if_neg q]
    have : [x].find? (fun y => decide (y.1 = nm)) = none := by
      have q2 : ¬ x.1 = nm := fun e => q e.symm
      simp [q2]
    rw [this, Option.or_none]
theorem postX_push {L : Lx} {l : List Lb} (h : l.Pairwise less) {j : Nat} {x : Lb} (hx : l[j]? = some x) (nm v : ByteArray) (hv : v ≠ .empty) :
    postX (L ++ [l.take (j + 1)]) nm v = if nm = x.1 ∧ v = x.2 then postX (L ++ [l.take j]) nm v ++ [(L.length : Int)] else postX (L ++ [l.take j]) nm v := by
  obtain ⟨h1, h2⟩ := valL_take h hx nm
  rw [postX_more, postX_more, h2]
  by_cases e : nm = x.1
  · subst e
    have h3 : ¬ ByteArray.empty = v := fun q => hv q.symm
    by_cases q : v = x.2
    · have q2 : x.2 = v := q.symm
      simp [h1, q]
      simp [q2, h3]
    · have q2 : ¬ x.2 = v := fun z => q z.symm
      simp [h1, h3, q, q2]
  · simp [e]
theorem postX_wf (L : Lx) (nm v : ByteArray) (hL : L.length ≤ 100000) : ∀ z ∈ postX L nm v, (Lit.int .i64 z).wf = true := fun z hz => by
  have := idxs_wf _ _ z hz
  exact wfI (by omega) (by omega)
theorem postX_len (L : Lx) (nm v : ByteArray) : (postX L nm v).length ≤ L.length := idxs_len _ _ _

/-- The first place of a text. -/
def findT : Lx → ByteArray → Option Nat
  | [], _ => none
  | x :: t, s => if textL x = s then some 0 else (findT t s).map (· + 1)
theorem findT_set {L : Lx} (hL : GoodX L) {l : List Lb} (hl : chkL l = true) : findT L (textL l) = findX L l := by
  induction L with
  | nil => rfl
  | cons x t ih =>
    have hx := hL x (by simp)
    have h1 := ih (fun y hy => hL y (by simp [hy]))
    unfold findT findX
    by_cases e : x = l
    · subst e
      simp
    · rw [if_neg (fun q => e (text_inj hx hl q)), if_neg e, h1]
theorem findT_more (L : Lx) (l : List Lb) (s : ByteArray) : findT (L ++ [l]) s = (findT L s).or (if textL l = s then some L.length else none) := by
  induction L with
  | nil =>
    simp [findT]
  | cons x t ih =>
    rw [List.cons_append]
    unfold findT
    by_cases e : textL x = s
    · simp [e]
    · rw [if_neg e, if_neg e, ih]
      cases findT t s with
      | some k => simp
      | none =>
        by_cases q : textL l = s
        · simp [q]
        · simp [q]
/-- What the numbers by texts are. -/
def numF (L : Lx) (s : ByteArray) : Option Value := (findT L s).map (fun k => .int .i64 (k : Int))
theorem numF_more {L : Lx} {l : List Lb} (hf : findT L (textL l) = none) (s : ByteArray) : updF (numF L) (textL l) (.int .i64 (L.length : Int)) s = numF (L ++ [l]) s := by
  unfold updF numF
  rw [findT_more]
  by_cases e : s = textL l
  · subst e
    rw [if_pos rfl, hf, if_pos rfl]
    rfl
  · rw [if_neg e, if_neg (fun q => e q.symm), Option.or_none]

/-- The lists of numbers by names and values. -/
structure PostsM (w : World) (bp : Nat) (S : Nat → Prop) (L : Lx) (nb : Nat) (p : ByteArray → Option Nat) (q : ByteArray → ByteArray → Option Hl) : Prop where
  own : S bp
  map : MapS w bp nb (fun s => (p s).map (fun b => .map (some b)))
  ins : ∀ nm b, p nm = some b → S b ∧ b ≠ bp ∧ MapS w b nb (fun v => (q nm v).map hlV)
  no : ∀ nm, p nm = none → ∀ v, q nm v = none
  rows : ∀ nm v h, q nm v = some h → v ≠ .empty ∧ postX L nm v ≠ [] ∧ MineI w 0 h.1 h.2.1 h.2.2 (postX L nm v) ∧ ∀ g, (hlV h).ownBlock = some g → S g
  has : ∀ nm v, v ≠ .empty → q nm v = none → postX L nm v = []
  injP : ∀ nm nm' b, p nm = some b → p nm' = some b → nm = nm'
  injQ : ∀ nm v h nm' v' h' g, q nm v = some h → q nm' v' = some h' → (hlV h).ownBlock = some g → (hlV h').ownBlock = some g → nm = nm' ∧ v = v'
theorem mineI_ch {S : Nat → Prop} {w w' : World} {base n cap : Nat} {a : Option Addr} {zs : List Int} (h : MineI w base a n cap zs) (k : Ch S w w') (hn : ∀ g, (Value.slice a n cap).ownBlock = some g → ¬ S g) : MineI w' base a n cap zs := row_ch h k hn
section
variable {w w' : World} {bp nb : Nat} {S : Nat → Prop} {L : Lx} {p : ByteArray → Option Nat} {q : ByteArray → ByteArray → Option Hl}
theorem PostsM.ch {T : Nat → Prop} (h : PostsM w bp S L nb p q) (k : Ch T w w') (hn : ∀ j, S j → ¬ T j) : PostsM w' bp S L nb p q :=
  ⟨h.own, h.map.ch k (hn _ h.own), fun nm b hb => ⟨(h.ins nm b hb).1, (h.ins nm b hb).2.1, (h.ins nm b hb).2.2.ch k (hn _ (h.ins nm b hb).1)⟩, h.no,
   fun nm v x hx => ⟨(h.rows nm v x hx).1, (h.rows nm v x hx).2.1, mineI_ch (h.rows nm v x hx).2.2.1 k (fun g hg => hn g ((h.rows nm v x hx).2.2.2 g hg)), (h.rows nm v x hx).2.2.2⟩, h.has, h.injP, h.injQ⟩
theorem PostsM.more {S' : Nat → Prop} (h : PostsM w bp S L nb p q) (hs : ∀ k, S k → S' k) : PostsM w bp S' L nb p q :=
  ⟨hs _ h.own, h.map, fun nm b hb => ⟨hs _ (h.ins nm b hb).1, (h.ins nm b hb).2⟩, h.no, fun nm v x hx => ⟨(h.rows nm v x hx).1, (h.rows nm v x hx).2.1, (h.rows nm v x hx).2.2.1, fun g hg => hs g ((h.rows nm v x hx).2.2.2 g hg)⟩, h.has, h.injP, h.injQ⟩
theorem PostsM.same {L' : Lx} (h : PostsM w bp S L nb p q) (hx : ∀ nm v, v ≠ .empty → postX L' nm v = postX L nm v) : PostsM w bp S L' nb p q :=
  ⟨h.own, h.map, h.ins, h.no, fun nm v x hq => by
    obtain ⟨h1, h2, h3, h4⟩ := h.rows nm v x hq
    rw [hx nm v h1]
    exact ⟨h1, h2, h3, h4⟩, fun nm v hv hq => by rw [hx nm v hv]; exact h.has nm v hv hq, h.injP, h.injQ⟩
/-- What lies at a name and a value, or nothing. -/
def atQ (q : ByteArray → ByteArray → Option Hl) (nm v : ByteArray) : Hl := (q nm v).getD (none, 0, 0)
theorem PostsM.at' (h : PostsM w bp S L nb p q) (nm v : ByteArray) (hv : v ≠ .empty) : MineI w 0 (atQ q nm v).1 (atQ q nm v).2.1 (atQ q nm v).2.2 (postX L nm v) ∧ ∀ g, (hlV (atQ q nm v)).ownBlock = some g → S g := by
  unfold atQ
  cases hq : q nm v with
  | none =>
    rw [h.has nm v hv hq]
    exact ⟨own_nil _ _ _ _, fun g hg => by simp [hlV, Value.ownBlock] at hg⟩
  | some x => exact ⟨(h.rows nm v x hq).2.2.1, (h.rows nm v x hq).2.2.2⟩
theorem atQ_val (q : ByteArray → ByteArray → Option Hl) (nm v : ByteArray) : ((q nm v).map hlV).getD (.slice none 0 0) = hlV (atQ q nm v) := by
  unfold atQ
  cases q nm v <;> rfl
def updP (p : ByteArray → Option Nat) (nm : ByteArray) (b : Nat) : ByteArray → Option Nat := fun s => if s = nm then some b else p s
def updQ (q : ByteArray → ByteArray → Option Hl) (nm v : ByteArray) (h : Hl) : ByteArray → ByteArray → Option Hl := fun s t => if s = nm ∧ t = v then some h else q s t
/-- A name that is new. -/
theorem PostsM.name {w1 w2 : World} {b : Nat} (h : PostsM w bp S L nb p q) (hlt : ∀ k, S k → k < w.heap.size) {nm : ByteArray} (hp : p nm = none) (k1 : Ch (fun _ => False) w w1) (hb : w.heap.size ≤ b) (hn : MapS w1 b 0 (fun _ => none))
    (hm : MapS w2 bp (nb + 1) (updF (fun s => (p s).map (fun b => .map (some b))) nm (.map (some b)))) (hg : w1.grownBy w2 (some bp)) : PostsM w2 bp (fun k => S k ∨ k = b) L (nb + 1) (updP p nm b) q := by
  have hbl := hlt bp h.own
  have hq := h.no nm hp
  have kk : Ch (fun k => k = bp) w1 w2 := (Ch.grown hg).more (fun k _ e => by cases e; rfl)
  have hne : ∀ nm' b', p nm' = some b' → b' ≠ b := fun nm' b' e q => by have := hlt b' (h.ins nm' b' e).1; omega
  refine ⟨Or.inl h.own, hm.congr (fun s => ?_), fun nm' b' e => ?_, fun nm' e v => ?_, fun nm' v x hx => ?_, h.has, fun n1 n2 b' e1 e2 => ?_, h.injQ⟩
  · unfold updF updP
    by_cases e : s = nm
    · simp [e]
    · simp [e]
  · unfold updP at e
    by_cases c : nm' = nm
    · subst c
      rw [if_pos rfl] at e
      cases e
      refine ⟨Or.inr rfl, by omega, ?_⟩
      refine ((hn.ch kk (by omega)).mono (Nat.zero_le _)).congr (fun v => ?_)
      rw [hq v]
      rfl
    · rw [if_neg c] at e
      obtain ⟨q1, q2, q3⟩ := h.ins nm' b' e
      exact ⟨Or.inl q1, q2, ((q3.ch k1 id).ch kk q2).mono (by omega)⟩
  · unfold updP at e
    by_cases c : nm' = nm
    · subst c
      exact hq v
    · rw [if_neg c] at e
      exact h.no nm' e v
  · obtain ⟨q1, q2, q3, q4⟩ := h.rows nm' v x hx
    refine ⟨q1, q2, mineI_ch (mineI_ch q3 k1 (fun _ _ => id)) kk (fun g hg e => ?_), fun g hg => Or.inl (q4 g hg)⟩
    exact h.map.isMap.ne (row_cells q3 hg).1 e.symm
  · unfold updP at e1 e2
    by_cases c1 : n1 = nm
    · by_cases c2 : n2 = nm
      · rw [c1, c2]
      · rw [if_pos c1] at e1
        rw [if_neg c2] at e2
        cases e1
        exact absurd rfl (hne n2 _ e2)
    · by_cases c2 : n2 = nm
      · rw [if_neg c1] at e1
        rw [if_pos c2] at e2
        cases e2
        exact absurd rfl (hne n1 _ e1)
      · rw [if_neg c1] at e1
        rw [if_neg c2] at e2
        exact h.injP n1 n2 b' e1 e2
/-- One number more at a name and a value. -/
theorem PostsM.push {w1 w2 : World} {L' : Lx} {nm v : ByteArray} {b : Nat} {id : Int} {gC nC cC : Nat} (h : PostsM w bp S L nb p q) (hlt : ∀ k, S k → k < w.heap.size) (hb : p nm = some b) (hv : v ≠ .empty)
    (hX : ∀ nm' v', v' ≠ .empty → postX L' nm' v' = if nm' = nm ∧ v' = v then postX L nm' v' ++ [id] else postX L nm' v')
    (hrow : MineI w1 0 (some ⟨gC, 0, none⟩) nC cC (postX L nm v ++ [id])) (hch : Ch (fun k => (hlV (atQ q nm v)).ownBlock = some k) w w1) (hat : (hlV (atQ q nm v)).ownBlock = some gC ∨ w.heap.size ≤ gC)
    (hm : MapS w2 b (nb + 1) (updF (fun v => (q nm v).map hlV) v (hlV (some ⟨gC, 0, none⟩, nC, cC)))) (hg : w1.grownBy w2 (some b)) :
    PostsM w2 bp (fun k => S k ∨ k = gC) L' (nb + 1) p (updQ q nm v (some ⟨gC, 0, none⟩, nC, cC)) := by
  have kk : Ch (fun k => k = b) w1 w2 := (Ch.grown hg).more (fun k _ e => by cases e; rfl)
  obtain ⟨ib1, ib2, ib3⟩ := h.ins nm b hb
  obtain ⟨at1, at2⟩ := h.at' nm v hv
  have hown : ∀ {k : Nat}, MapB w k → ¬ (hlV (atQ q nm v)).ownBlock = some k := fun hk e => hk.ne (row_cells at1 e).1 rfl
  have hother : ∀ nm' v' x g, ¬ (nm' = nm ∧ v' = v) → q nm' v' = some x → (hlV x).ownBlock = some g → ¬ (hlV (atQ q nm v)).ownBlock = some g := by
    intro nm' v' x g hne hx hg e
    unfold atQ at e
    cases hq : q nm v with
    | none => rw [hq] at e; simp [hlV, Value.ownBlock] at e
    | some y =>
      rw [hq] at e
      exact hne (h.injQ nm' v' x nm v y g hx hq hg e)
  have hgb : gC ≠ b := fun e => by
    rcases hat with c | c
    · exact hown ib3.isMap (e ▸ c)
    · have := ib3.lt
      omega
  refine ⟨Or.inl h.own, ?_, fun nm' b' e => ?_, fun nm' e t => ?_, fun nm' t x hx => ?_, fun nm' t ht hx => ?_, h.injP, fun n1 v1 h1 n2 v2 h2 g e1 e2 g1 g2 => ?_⟩
  · exact ((h.map.ch hch (hown h.map.isMap)).ch kk (fun e => ib2 e.symm)).mono (by omega)
  · obtain ⟨q1, q2, q3⟩ := h.ins nm' b' e
    refine ⟨Or.inl q1, q2, ?_⟩
    by_cases c : nm' = nm
    · subst c
      rw [hb] at e
      cases e
      refine hm.congr (fun t => ?_)
      unfold updF updQ
      by_cases d : t = v
      · simp [d]
      · simp [d]
    · have hbb : ¬ b' = b := fun z => c (h.injP nm' nm b (z ▸ e) hb)
      refine (((q3.ch hch (hown q3.isMap)).ch kk hbb).mono (by omega)).congr (fun t => ?_)
      unfold updQ
      simp [c]
  · unfold updQ
    rw [if_neg (fun c => by rw [c.1, hb] at e; cases e)]
    exact h.no nm' e t
  · unfold updQ at hx
    by_cases c : nm' = nm ∧ t = v
    · rw [if_pos c] at hx
      cases hx
      obtain ⟨rfl, rfl⟩ := c
      rw [hX nm' t hv, if_pos ⟨rfl, rfl⟩]
      refine ⟨hv, by simp, mineI_ch hrow kk (fun g hg => ?_), fun g hg => ?_⟩
      · simp [Value.ownBlock] at hg
        omega
      · simp [hlV, Value.ownBlock] at hg
        exact Or.inr hg.symm
    · rw [if_neg c] at hx
      obtain ⟨q1, q2, q3, q4⟩ := h.rows nm' t x hx
      rw [hX nm' t q1, if_neg c]
      refine ⟨q1, q2, mineI_ch (mineI_ch q3 hch (fun g hg => hother nm' t x g c hx hg)) kk (fun g hg e => ?_), fun g hg => Or.inl (q4 g hg)⟩
      exact ib3.isMap.ne (row_cells q3 hg).1 e.symm
  · unfold updQ at hx
    by_cases c : nm' = nm ∧ t = v
    · rw [if_pos c] at hx
      cases hx
    · rw [if_neg c] at hx
      rw [hX nm' t ht, if_neg c]
      exact h.has nm' t ht hx
  · unfold updQ at e1 e2
    by_cases c1 : n1 = nm ∧ v1 = v
    · by_cases c2 : n2 = nm ∧ v2 = v
      · rw [c1.1, c1.2, c2.1, c2.2]
        exact ⟨rfl, rfl⟩
      · rw [if_pos c1] at e1
        rw [if_neg c2] at e2
        cases e1
        simp [hlV, Value.ownBlock] at g1
        subst g1
        rcases hat with d | d
        · exact absurd d (hother n2 v2 h2 gC c2 e2 g2)
        · have := hlt gC ((h.rows n2 v2 h2 e2).2.2.2 gC g2)
          omega
    · by_cases c2 : n2 = nm ∧ v2 = v
      · rw [if_neg c1] at e1
        rw [if_pos c2] at e2
        cases e2
        simp [hlV, Value.ownBlock] at g2
        subst g2
        rcases hat with d | d
        · exact absurd d (hother n1 v1 h1 gC c1 e1 g1)
        · have := hlt gC ((h.rows n1 v1 h1 e1).2.2.2 gC g1)
          omega
      · rw [if_neg c1] at e1
        rw [if_neg c2] at e2
        exact h.injQ n1 v1 h1 n2 v2 h2 g e1 e2 g1 g2
end
theorem postsM_new (w : World) (bp : Nat) (S : Nat → Prop) (hS : S bp) (hm : MapS w bp 0 (fun _ => none)) : PostsM w bp S [] 0 (fun _ => none) (fun _ _ => none) :=
  ⟨hS, hm, fun _ _ e => (by cases e), fun _ _ _ => rfl, fun _ _ _ e => (by cases e), fun _ _ _ _ => rfl, fun _ _ _ e => (by cases e), fun _ _ _ _ _ _ _ e => (by cases e)⟩
end Go.Proofs.YtpffhpnmbpjifaaGreat

namespace Go.Proofs.YtpffhpnmbpjifaaGreat
open Go.RowKit Go.Maps
set_option maxRecDepth 20000

/-- The row of sets. -/
structure SetsM (w : World) (S : Nat → Prop) (L : Lx) (a : Option Addr) (c : Nat) (hs : List Hl) : Prop where
  len : hs.length = L.length
  row : w.ownsRow 0 42 1 (.slice a L.length c) L.length (hs.map hlV)
  own : ∀ b, (Value.slice a L.length c).ownBlock = some b → S b
  each : ∀ (i : Nat) (h : Hl) (l : List Lb), hs[i]? = some h → L[i]? = some l → SlL w h l ∧ ∀ b off, h.1 = some ⟨b, off, none⟩ → h.2.1 ≠ 0 → S b ∧ CellsT w b 52
/-- The index: its three parts, each of so many sets. -/
structure IB (w : World) (g : Nat) (S : Nat → Prop) (L1 L2 L3 : Lx) (a : Option Addr) (c : Nat) (hs : List Hl) (bn bp nb : Nat) (p : ByteArray → Option Nat) (q : ByteArray → ByteArray → Option Hl) : Prop where
  own : S g
  lt : ∀ k, S k → k < w.heap.size
  str : w.heap[g]? = some (.cells #[.slice a L1.length c, .map (some bn), .map (some bp)] 66 (0, 0))
  sets : SetsM w S L1 a c hs
  numS : S bn
  nump : bn ≠ bp ∧ ∀ nm b, p nm = some b → b ≠ bn
  num : MapS w bn L2.length (numF L2)
  posts : PostsM w bp S L3 nb p q
/-- An index that shows these sets. -/
def IAt (w : World) (g : Nat) (S : Nat → Prop) (L : Lx) : Prop := GoodX L ∧ L.length ≤ 4096 ∧ ∃ a c hs bn bp nb p q, nb ≤ 2 * cntX L ∧ IB w g S L L L a c hs bn bp nb p q
theorem SetsM.ch {T : Nat → Prop} {w w' : World} {S : Nat → Prop} {L : Lx} {a : Option Addr} {c : Nat} {hs : List Hl} (h : SetsM w S L a c hs) (k : Ch T w w') (hn : ∀ j, S j → ¬ T j) : SetsM w' S L a c hs :=
  ⟨h.len, row_ch h.row k (fun b hb => hn b (h.own b hb)), h.own, fun i x l hi hl => by
    obtain ⟨q1, q2⟩ := h.each i x l hi hl
    exact ⟨⟨q1.1.keep k (fun b off e hz => hn b (q2 b off e hz).1), q1.2⟩, fun b off e hz => ⟨(q2 b off e hz).1, (q2 b off e hz).2.keep k (hn b (q2 b off e hz).1)⟩⟩⟩
theorem SetsM.more {w : World} {S S' : Nat → Prop} {L : Lx} {a : Option Addr} {c : Nat} {hs : List Hl} (h : SetsM w S L a c hs) (hn : ∀ j, S j → S' j) : SetsM w S' L a c hs :=
  ⟨h.len, h.row, fun b hb => hn b (h.own b hb), fun i x l hi hl => ⟨(h.each i x l hi hl).1, fun b off e hz => ⟨hn b ((h.each i x l hi hl).2 b off e hz).1, ((h.each i x l hi hl).2 b off e hz).2⟩⟩⟩
section
variable {w w' : World} {g : Nat} {S : Nat → Prop} {L1 L2 L3 : Lx} {a : Option Addr} {c : Nat} {hs : List Hl} {bn bp nb : Nat} {p : ByteArray → Option Nat} {q : ByteArray → ByteArray → Option Hl}
theorem IB.ch {T : Nat → Prop} (h : IB w g S L1 L2 L3 a c hs bn bp nb p q) (k : Ch T w w') (hn : ∀ j, S j → ¬ T j) : IB w' g S L1 L2 L3 a c hs bn bp nb p q :=
  ⟨h.own, fun j hj => Nat.lt_of_lt_of_le (h.lt j hj) k.size, (k.block g (h.lt g h.own) (hn g h.own)).trans h.str, h.sets.ch k hn, h.numS, h.nump, h.num.ch k (hn _ h.numS), h.posts.ch k hn⟩
theorem IB.below (h : IB w g S L1 L2 L3 a c hs bn bp nb p q) (b : Below w.heap.size w w') : IB w' g S L1 L2 L3 a c hs bn bp nb p q := h.ch (Ch.of_below b) (fun _ _ => id)
theorem IB.c0 (h : IB w g S L1 L2 L3 a c hs bn bp nb p q) : w.cell? ⟨g, 0, none⟩ = some (.slice a L1.length c) := by
  rw [cell_of_row w g 0 _ _ (0, 0) h.str]; rfl
theorem IB.c1 (h : IB w g S L1 L2 L3 a c hs bn bp nb p q) : w.cell? ⟨g, 1, none⟩ = some (.map (some bn)) := by
  rw [cell_of_row w g 1 _ _ (0, 0) h.str]; rfl
theorem IB.c2 (h : IB w g S L1 L2 L3 a c hs bn bp nb p q) : w.cell? ⟨g, 2, none⟩ = some (.map (some bp)) := by
  rw [cell_of_row w g 2 _ _ (0, 0) h.str]; rfl
theorem IB.fz (h : IB w g S L1 L2 L3 a c hs bn bp nb p q) (i : Nat) : w.frozen? ⟨g, i, none⟩ = false := frozen_of_row w g i _ _ h.str
theorem IB.cells (h : IB w g S L1 L2 L3 a c hs bn bp nb p q) : CellsT w g 66 := ⟨_, _, h.str⟩
theorem IAt.keep {L : Lx} {T : Nat → Prop} (h : IAt w g S L) (k : Ch T w w') (hn : ∀ j, S j → ¬ T j) : IAt w' g S L := by
  obtain ⟨h1, h2, a, c, hs, bn, bp, nb, p, q, h3, h4⟩ := h
  exact ⟨h1, h2, a, c, hs, bn, bp, nb, p, q, h3, h4.ch k hn⟩
theorem IAt.below {L : Lx} (h : IAt w g S L) (b : Below w.heap.size w w') : IAt w' g S L := h.keep (Ch.of_below b) (fun _ _ => id)
theorem IAt.lt {L : Lx} (h : IAt w g S L) : ∀ k, S k → k < w.heap.size := by
  obtain ⟨h1, h2, a, c, hs, bn, bp, nb, p, q, h3, h4⟩ := h
  exact h4.lt
end

theorem new_any (w : World) : Calls Tryz.prog 15 #[] w fun e w' => ∃ g, e = .returned (.pointer (some ⟨g, 0, none⟩)) ∧ MadeX IAt w w' g [] := by
  have hmm := @run_makeMap Tryz.prog
  go_enter Tryz.func15, Tryz.ntmps15
  go_wp2
  go_ret
  have s1 : (w.alloc (.map #[] 0)).heap.size = w.heap.size + 1 := by simp
  have s2 : ((w.alloc (.map #[] 0)).alloc (.map #[] 0)).heap.size = w.heap.size + 1 + 1 := by simp
  have m1 := mapS_new w
  have m2 := mapS_new (w.alloc (.map #[] 0))
  rw [s1] at m2
  have b1 : ∀ (u : World) (o : Obj), Below u.heap.size u (u.alloc o) := fun u o => (Below.refl _ _).alloc (Nat.le_refl _) _
  refine ⟨w.heap.size + 1 + 1, by simp, fun k => w.heap.size ≤ k ∧ k ≤ w.heap.size + 1 + 1, ?_, fun k hk => hk.1, bel_al (bel_al (bel_al (Below.refl _ _) (Nat.le_refl _) _) (Nat.le_refl _) _) (Nat.le_refl _) _⟩
  have n1 := (m1.below (b1 _ (.map #[] 0))).below (b1 _ (.cells #[.slice none 0 0, .map (some w.heap.size), .map (some (w.heap.size + 1))] 66))
  have n2 := m2.below (b1 _ (.cells #[.slice none 0 0, .map (some w.heap.size), .map (some (w.heap.size + 1))] 66))
  refine ⟨good_nil, by simp, none, 0, [], w.heap.size, w.heap.size + 1, 0, fun _ => none, fun _ _ => none, by omega, ⟨⟨by omega, by omega⟩, fun k hk => by simp; omega, ?_, ⟨rfl, World.ownsRow_nil _ _ _ _, fun b hb => by simp [Value.ownBlock] at hb, fun i h l hi => by simp at hi⟩, ⟨by omega, by omega⟩, ⟨by omega, fun _ _ e => by cases e⟩, n1, postsM_new _ _ _ ⟨by omega, by omega⟩ n2⟩⟩
  have := World.alloc_heap_new ((w.alloc (.map #[] 0)).alloc (.map #[] 0)) (.cells #[.slice none 0 0, .map (some w.heap.size), .map (some (w.heap.size + 1))] 66)
  rwa [s2] at this

theorem len_any (g : Nat) (S : Nat → Prop) (L1 L2 L3 : Lx) (a : Option Addr) (c : Nat) (hs : List Hl) (bn bp nb : Nat) (p : ByteArray → Option Nat) (q : ByteArray → ByteArray → Option Hl) (w : World) (h : IB w g S L1 L2 L3 a c hs bn bp nb p q) :
    Calls Tryz.prog 20 #[.pointer (some ⟨g, 0, none⟩)] w fun e w' => e = .returned (.int .i64 (L1.length : Int)) ∧ w' = w := by
  have c0 := h.c0
  generalize L1.length = m at *
  clear h
  go_enter Tryz.func20, Tryz.ntmps20
  go_wp2
  go_ret
  exact ⟨rfl, rfl⟩

theorem eqllab (w : World) (a : Option Addr) (n c n' c' : Nat) : (binOp .eql 42 (.slice a n c) (.slice none n' c')).run Tryz.prog w = .ok (.bool a.isNone) w :=
  Lib.run_eql_slice_nil w _ _ a n c n' c' Tryz.underlying42
set_option maxHeartbeats 1000000 in
theorem clonel_any (a : Option Addr) (n cap : Nat) (l : List Lb) (w : World) (hr : RowL w a n l) (hc : a = none → cap = 0) :
    Calls Tryz.prog 28 #[.slice a n cap] w fun e w' => ∃ a' cap', e = .returned (.slice a' n cap') ∧ OwnL w' w.heap.size a' n cap' l ∧ Below w.heap.size w w' := by
  obtain ⟨i0, hi, hz0, hz1, hz2⟩ := info_parts Tryz.infoL
  have hq := eqllab
  have hl := hr.1
  have hn := hr.2.1
  cases a with
  | none =>
    have h0 := hr.nz rfl
    subst h0
    have hz : l = [] := List.length_eq_zero_iff.1 hl
    subst hz
    go_enter Tryz.func28, Tryz.ntmps28
    go_wp2
    go_ret
    exact ⟨none, 0, rfl, ownL_nil _ _, Below.refl _ _⟩
  | some ad =>
    have HR := hide (fun o => (hr.alloc o).cells)
    have HM : Hid (OwnL (w.alloc (.cells #[] 52)) w.heap.size (some ⟨w.heap.size, 0, none⟩) 0 0 []) := World.ownsRow_made w #[] 0 (Nat.le_refl _) (Nat.zero_le _) rfl
    clear hr
    go_enter Tryz.func28, Tryz.ntmps28
    go_wp2_with (at_builtin; refine wpList_append_labs _ rfl _ _ 42 rfl w.heap.size i0 Tryz.underlying42 hi hz0 hz1 hz2 (some ⟨w.heap.size, 0, none⟩) 0 0 [] rfl HM.out (some ad) n cap l rfl hl (fun ad' e => by cases e; exact HR.out _) (fun e => by cases e) (by omega) (by simp) ?_)
    intro a2 c2 w1 o1 b1
    have O1 : Hid (OwnL w1 w.heap.size a2 n c2 l) := o1
    have B1 : Hid (Below w.heap.size w w1) := ((Below.refl _ w).alloc (Nat.le_refl _) _).trans b1
    clear o1 b1 HR HM
    go_wp2
    go_ret
    exact ⟨a2, c2, by simp, O1.out, B1.out⟩
end Go.Proofs.YtpffhpnmbpjifaaGreat

namespace Go.Proofs.YtpffhpnmbpjifaaGreat
open Go.RowKit Go.Maps
set_option maxRecDepth 20000

theorem zeroIi (w : World) : (zeroValue 3).run Tryz.prog w = .ok (.int .i64 0) w := by kernel_rfl
theorem zeroMp (w : World) : (zeroValue 76).run Tryz.prog w = .ok (.map none) w := by kernel_rfl
theorem zeroSi (w : World) : (zeroValue 33).run Tryz.prog w = .ok (.slice none 0 0) w := by kernel_rfl
theorem textL_size {l : List Lb} (h : chkL l = true) : (textL l).size ≤ 2336 := by
  have h1 := textB_len (set_sizes h)
  have h2 := (chkL_parts h).2.1
  have h3 : (textL l).size = (textB l).length := by show (textB l).toArray.size = _; simp
  omega
/-- What Find tells. -/
def FinP (L : Lx) (l : List Lb) (w : World) (e : Ending) (w' : World) : Prop := e = .returned (.tuple #[.int .i64 (if chkL l = true then findN L l else -1), .bool (chkL l && (findX L l).isSome)]) ∧ Below w.heap.size w w'

set_option maxHeartbeats 2000000 in
theorem find_any (g : Nat) (S : Nat → Prop) (L : Lx) (a : Option Addr) (n c : Nat) (l : List Lb) (w : World) (h : IAt w g S L) (hr : RowL w a n l) :
    Calls Tryz.prog 31 #[.pointer (some ⟨g, 0, none⟩), .slice a n c] w fun e w' => FinP L l w e w' := by
  have CK := hide (laC.chk a n c l w hr)
  have HR := hide hr
  obtain ⟨hG, hfew, ax, cx, hs, bn, bp, nb, p, q, hnb, hB⟩ := h
  have HB := hide hB
  clear hr hB hnb
  cases hc : chkL l with
  | false =>
    rw [hc] at CK
    have F : Hid (∀ u, Below w.heap.size w u → FinP L l w (.returned (.tuple #[.int .i64 (-1), .bool false])) u) := fun u hu => ⟨by simp [hc], hu⟩
    clear hc
    go_enter Tryz.func31, Tryz.ntmps31
    go_wp2_with fail
    with_reducible refine CK.out.mono ?_
    rintro e u1 ⟨rfl, b1⟩
    have B1 := hide b1
    clear b1 CK
    go_wp2
    refine bodyPost_ret (v := .tuple #[.int .i64 (-1), .bool false]) (by simp [results, Tryz.results31, go_sem]) rfl ?_
    exact F.out _ B1.out
  | true =>
    rw [hc] at CK
    have TX := hide (fun u (hu : Below w.heap.size w u) => laT.text a n c l u (HR.out.below hu (Nat.le_refl _)) hc)
    have hsz := textL_size hc
    have FT := findT_set hG hc
    have LK : Hid (∀ u, Below w.heap.size w u → (Instr.lookup 63 (.map (some bn)) (.string (textL l)) true).run Tryz.prog u = .ok (.tuple #[((findX L l).map (fun k => Value.int .i64 (k : Int))).getD (.int .i64 0), .bool (findX L l).isSome]) u) := fun u hu => by
      have := (HB.out.num.below hu).look_ok Tryz.underlying63 (zeroIi u) (s := textL l) (by unfold maxLen; omega)
      unfold numF at this
      rw [FT] at this
      rw [this]
      cases findX L l <;> rfl
    clear FT
    cases hf : findX L l with
    | none =>
      have F : Hid (∀ u, Below w.heap.size w u → FinP L l w (.returned (.tuple #[.int .i64 (-1), .bool false])) u) := fun u hu => ⟨by simp [hc, hf, findN], hu⟩
      rw [hf] at LK
      dsimp only [Option.map, Option.getD, Option.isSome] at LK
      generalize textL l = T at *
      clear hc hf
      go_enter Tryz.func31, Tryz.ntmps31
      go_wp2_with fail
      with_reducible refine CK.out.mono ?_
      rintro e u1 ⟨rfl, b1⟩
      have B1 := hide b1
      have c1 := (HB.out.below b1).c1
      clear b1 CK
      go_upto_region 3 with fail
      refine wp_region_held_drew (S := fun u => u.cell? ⟨g, 1, none⟩ = some (.map (some bn))) (by kernel_rfl) c1 (fun hHeld => ?_)
      refine held_take (i := 0) (d := (some 12)) (v := ?_) rfl rfl (by kernel_rfl) (by kernel_rfl) (by kernel_rfl) (fun _ _ _ h => h) (Or.inl ⟨by rfl, ?_⟩) (by first | assumption | rfl | trivial) ?_
      rotate_left 1
      · (intro w hSw; (try dsimp only at hSw); (try subst hSw); go_simp; try with_reducible rfl)
      simp only [Act.put, List.setIfInBounds_toArray, List.set_cons_zero, List.set_cons_succ]
      refine held_take (i := 1) (d := (some 13)) (v := ?_) rfl rfl (by kernel_rfl) (by kernel_rfl) (by kernel_rfl) (fun _ _ _ h => h) (Or.inl ⟨by rfl, ?_⟩) (by first | assumption | rfl | trivial) ?_
      rotate_left 1
      · (intro w hSw; (try dsimp only at hSw); (try subst hSw); go_simp; try with_reducible rfl)
      simp only [Act.put, List.setIfInBounds_toArray, List.set_cons_zero, List.set_cons_succ]
      refine held_take (i := 2) (d := (some 14)) (v := ?_) rfl rfl (by kernel_rfl) (by kernel_rfl) (by kernel_rfl) (fun _ _ _ h => h) (Or.inl ⟨by rfl, ?_⟩) (by first | assumption | rfl | trivial) ?_
      rotate_left 1
      · (intro w hSw; (try dsimp only at hSw); (try subst hSw); go_simp; try with_reducible rfl)
      simp only [Act.put, List.setIfInBounds_toArray, List.set_cons_zero, List.set_cons_succ]
      refine held_take (i := 3) (d := (some 15)) (v := ?_) rfl rfl (by kernel_rfl) (by kernel_rfl) (by kernel_rfl) (fun _ _ _ h => h) (Or.inl ⟨by rfl, ?_⟩) (by first | assumption | rfl | trivial) ?_
      rotate_left 1
      · (intro w hSw; (try dsimp only at hSw); (try subst hSw); go_simp; try with_reducible rfl)
      simp only [Act.put, List.setIfInBounds_toArray, List.set_cons_zero, List.set_cons_succ]
      refine held_take (i := 4) (d := (some 16)) (v := ?_) rfl rfl (by kernel_rfl) (by kernel_rfl) (by kernel_rfl) (fun _ _ _ h => h) (Or.inl ⟨by rfl, ?_⟩) (by first | assumption | rfl | trivial) ?_
      rotate_left 1
      · (intro w hSw; (try dsimp only at hSw); (try subst hSw); go_simp; try with_reducible rfl)
      simp only [Act.put, List.setIfInBounds_toArray, List.set_cons_zero, List.set_cons_succ]
      have B1d : Hid (Below w.heap.size w u1.drew) := B1.out.drew
      refine held_next (i := 5) (by kernel_rfl) rfl (by rfl) (fun K1 hK1 => ?_)
      go_simp
      with_reducible refine (TX.out _ B1d.out).mono ?_
      rintro e u2 ⟨rfl, b2⟩
      have B2 := hide (bel_to B1d.out (Nat.le_refl _) b2)
      have c2 := (HB.out.below B2.out).c1
      have lk := LK.out u2 B2.out
      clear b2 TX
      go_wp2_with fail
      refine hK1.out _ _ c2 ?_
      clear hK1
      refine held_next (i := 6) (by kernel_rfl) rfl (by rfl) (fun K1 hK1 => ?_)
      go_simp
      refine hK1.out _ _ c2 ?_
      clear hK1 hHeld
      refine held_take (i := 7) (d := (some 11)) (v := ?_) rfl rfl (by kernel_rfl) (by kernel_rfl) (by kernel_rfl) (fun _ _ _ h => h) (Or.inl ⟨by rfl, ?_⟩) (by first | assumption | rfl | trivial) ?_
      rotate_left 1
      · (intro w hSw; (try dsimp only at hSw); (try subst hSw); go_simp; try with_reducible rfl)
      simp only [Act.put, List.setIfInBounds_toArray, List.set_cons_zero, List.set_cons_succ]
      refine held_take (i := 8) (d := (some 19)) (v := ?_) rfl rfl (by kernel_rfl) (by kernel_rfl) (by kernel_rfl) (fun _ _ _ h => h) (Or.inl ⟨by rfl, ?_⟩) (by first | assumption | rfl | trivial) ?_
      rotate_left 1
      · (intro w hSw; (try dsimp only at hSw); (try subst hSw); go_simp; try with_reducible rfl)
      simp only [Act.put, List.setIfInBounds_toArray, List.set_cons_zero, List.set_cons_succ]
      refine held_take (i := 9) (d := (some 20)) (v := ?_) rfl rfl (by kernel_rfl) (by kernel_rfl) (by kernel_rfl) (fun _ _ _ h => h) (Or.inl ⟨by rfl, ?_⟩) (by first | assumption | rfl | trivial) ?_
      rotate_left 1
      · (intro w hSw; (try dsimp only at hSw); (try subst hSw); go_simp; try with_reducible rfl)
      simp only [Act.put, List.setIfInBounds_toArray, List.set_cons_zero, List.set_cons_succ]
      refine held_take (i := 10) (d := (some 6)) (v := ?_) rfl rfl (by kernel_rfl) (by kernel_rfl) (by kernel_rfl) (fun _ _ _ h => h) (Or.inl ⟨by rfl, ?_⟩) (by first | assumption | rfl | trivial) ?_
      rotate_left 1
      · (intro w hSw; (try dsimp only at hSw); (try subst hSw); go_simp; try with_reducible rfl)
      simp only [Act.put, List.setIfInBounds_toArray, List.set_cons_zero, List.set_cons_succ]
      refine held_take (i := 11) (d := (some 7)) (v := ?_) rfl rfl (by kernel_rfl) (by kernel_rfl) (by kernel_rfl) (fun _ _ _ h => h) (Or.inl ⟨by rfl, ?_⟩) (by first | assumption | rfl | trivial) ?_
      rotate_left 1
      · (intro w hSw; (try dsimp only at hSw); (try subst hSw); go_simp; try with_reducible rfl)
      simp only [Act.put, List.setIfInBounds_toArray, List.set_cons_zero, List.set_cons_succ]
      refine wpAnyH_done (by kernel_rfl) ?_ _
      go_wp2
      refine bodyPost_ret (v := .tuple #[.int .i64 (-1), .bool false]) (by simp [results, Tryz.results31, go_sem]) rfl ?_
      exact F.out _ B2.out
    | some k =>
      have F : Hid (∀ u, Below w.heap.size w u → FinP L l w (.returned (.tuple #[.int .i64 (k : Int), .bool true])) u) := fun u hu => ⟨by simp [hc, hf, findN], hu⟩
      rw [hf] at LK
      dsimp only [Option.map, Option.getD, Option.isSome] at LK
      generalize textL l = T at *
      clear hc hf
      go_enter Tryz.func31, Tryz.ntmps31
      go_wp2_with fail
      with_reducible refine CK.out.mono ?_
      rintro e u1 ⟨rfl, b1⟩
      have B1 := hide b1
      have c1 := (HB.out.below b1).c1
      clear b1 CK
      go_upto_region 3 with fail
      refine wp_region_held_drew (S := fun u => u.cell? ⟨g, 1, none⟩ = some (.map (some bn))) (by kernel_rfl) c1 (fun hHeld => ?_)
      refine held_take (i := 0) (d := (some 12)) (v := ?_) rfl rfl (by kernel_rfl) (by kernel_rfl) (by kernel_rfl) (fun _ _ _ h => h) (Or.inl ⟨by rfl, ?_⟩) (by first | assumption | rfl | trivial) ?_
      rotate_left 1
      · (intro w hSw; (try dsimp only at hSw); (try subst hSw); go_simp; try with_reducible rfl)
      simp only [Act.put, List.setIfInBounds_toArray, List.set_cons_zero, List.set_cons_succ]
      refine held_take (i := 1) (d := (some 13)) (v := ?_) rfl rfl (by kernel_rfl) (by kernel_rfl) (by kernel_rfl) (fun _ _ _ h => h) (Or.inl ⟨by rfl, ?_⟩) (by first | assumption | rfl | trivial) ?_
      rotate_left 1
      · (intro w hSw; (try dsimp only at hSw); (try subst hSw); go_simp; try with_reducible rfl)
      simp only [Act.put, List.setIfInBounds_toArray, List.set_cons_zero, List.set_cons_succ]
      refine held_take (i := 2) (d := (some 14)) (v := ?_) rfl rfl (by kernel_rfl) (by kernel_rfl) (by kernel_rfl) (fun _ _ _ h => h) (Or.inl ⟨by rfl, ?_⟩) (by first | assumption | rfl | trivial) ?_
      rotate_left 1
      · (intro w hSw; (try dsimp only at hSw); (try subst hSw); go_simp; try with_reducible rfl)
      simp only [Act.put, List.setIfInBounds_toArray, List.set_cons_zero, List.set_cons_succ]
      refine held_take (i := 3) (d := (some 15)) (v := ?_) rfl rfl (by kernel_rfl) (by kernel_rfl) (by kernel_rfl) (fun _ _ _ h => h) (Or.inl ⟨by rfl, ?_⟩) (by first | assumption | rfl | trivial) ?_
      rotate_left 1
      · (intro w hSw; (try dsimp only at hSw); (try subst hSw); go_simp; try with_reducible rfl)
      simp only [Act.put, List.setIfInBounds_toArray, List.set_cons_zero, List.set_cons_succ]
      refine held_take (i := 4) (d := (some 16)) (v := ?_) rfl rfl (by kernel_rfl) (by kernel_rfl) (by kernel_rfl) (fun _ _ _ h => h) (Or.inl ⟨by rfl, ?_⟩) (by first | assumption | rfl | trivial) ?_
      rotate_left 1
      · (intro w hSw; (try dsimp only at hSw); (try subst hSw); go_simp; try with_reducible rfl)
      simp only [Act.put, List.setIfInBounds_toArray, List.set_cons_zero, List.set_cons_succ]
      have B1d : Hid (Below w.heap.size w u1.drew) := B1.out.drew
      refine held_next (i := 5) (by kernel_rfl) rfl (by rfl) (fun K1 hK1 => ?_)
      go_simp
      with_reducible refine (TX.out _ B1d.out).mono ?_
      rintro e u2 ⟨rfl, b2⟩
      have B2 := hide (bel_to B1d.out (Nat.le_refl _) b2)
      have c2 := (HB.out.below B2.out).c1
      have lk := LK.out u2 B2.out
      clear b2 TX
      go_wp2_with fail
      refine hK1.out _ _ c2 ?_
      clear hK1
      refine held_next (i := 6) (by kernel_rfl) rfl (by rfl) (fun K1 hK1 => ?_)
      go_simp
      refine hK1.out _ _ c2 ?_
      clear hK1 hHeld
      refine held_take (i := 7) (d := (some 11)) (v := ?_) rfl rfl (by kernel_rfl) (by kernel_rfl) (by kernel_rfl) (fun _ _ _ h => h) (Or.inl ⟨by rfl, ?_⟩) (by first | assumption | rfl | trivial) ?_
      rotate_left 1
      · (intro w hSw; (try dsimp only at hSw); (try subst hSw); go_simp; try with_reducible rfl)
      simp only [Act.put, List.setIfInBounds_toArray, List.set_cons_zero, List.set_cons_succ]
      refine held_take (i := 8) (d := (some 19)) (v := ?_) rfl rfl (by kernel_rfl) (by kernel_rfl) (by kernel_rfl) (fun _ _ _ h => h) (Or.inl ⟨by rfl, ?_⟩) (by first | assumption | rfl | trivial) ?_
      rotate_left 1
      · (intro w hSw; (try dsimp only at hSw); (try subst hSw); go_simp; try with_reducible rfl)
      simp only [Act.put, List.setIfInBounds_toArray, List.set_cons_zero, List.set_cons_succ]
      refine held_take (i := 9) (d := (some 20)) (v := ?_) rfl rfl (by kernel_rfl) (by kernel_rfl) (by kernel_rfl) (fun _ _ _ h => h) (Or.inl ⟨by rfl, ?_⟩) (by first | assumption | rfl | trivial) ?_
      rotate_left 1
      · (intro w hSw; (try dsimp only at hSw); (try subst hSw); go_simp; try with_reducible rfl)
      simp only [Act.put, List.setIfInBounds_toArray, List.set_cons_zero, List.set_cons_succ]
      refine held_take (i := 10) (d := (some 6)) (v := ?_) rfl rfl (by kernel_rfl) (by kernel_rfl) (by kernel_rfl) (fun _ _ _ h => h) (Or.inl ⟨by rfl, ?_⟩) (by first | assumption | rfl | trivial) ?_
      rotate_left 1
      · (intro w hSw; (try dsimp only at hSw); (try subst hSw); go_simp; try with_reducible rfl)
      simp only [Act.put, List.setIfInBounds_toArray, List.set_cons_zero, List.set_cons_succ]
      refine held_take (i := 11) (d := (some 7)) (v := ?_) rfl rfl (by kernel_rfl) (by kernel_rfl) (by kernel_rfl) (fun _ _ _ h => h) (Or.inl ⟨by rfl, ?_⟩) (by first | assumption | rfl | trivial) ?_
      rotate_left 1
      · (intro w hSw; (try dsimp only at hSw); (try subst hSw); go_simp; try with_reducible rfl)
      simp only [Act.put, List.setIfInBounds_toArray, List.set_cons_zero, List.set_cons_succ]
      refine wpAnyH_done (by kernel_rfl) ?_ _
      go_wp2
      refine bodyPost_ret (v := .tuple #[.int .i64 (k : Int), .bool true]) (by simp [results, Tryz.results31, go_sem]) rfl ?_
      exact F.out _ B2.out

set_option maxHeartbeats 2000000 in
theorem labelsX_any (g : Nat) (S : Nat → Prop) (L : Lx) (i : Int) (w : World) (h : IAt w g S L) (hi : (Lit.int .i64 i).wf = true) :
    Calls Tryz.prog 13 #[.pointer (some ⟨g, 0, none⟩), .int .i64 i] w fun e w' => LabP (atX L i) w e w' := by
  obtain ⟨hG, hfew, ax, cx, hs, bn, bp, nb, p, q, hnb, hB⟩ := h
  have HB := hide hB
  have LE := hide (len_any g S L L L ax cx hs bn bp nb p q w hB)
  have c0 := hB.c0
  clear hnb
  by_cases h0 : i < 0
  · have F : Hid (∀ u, Below w.heap.size w u → LabP (atX L i) w (.returned (.tuple #[.slice none 0 0, .bool false])) u) := fun u hu => by
      unfold LabP atX
      rw [if_neg (by omega)]
      exact ⟨hu, none, 0, rfl⟩
    clear hB hfew
    go_enter Tryz.func13, Tryz.ntmps13
    go_wp2
    refine bodyPost_ret (v := .tuple #[.slice none 0 0, .bool false]) (by simp [results, Tryz.results13, go_sem]) rfl ?_
    exact F.out _ (Below.refl _ _)
  · by_cases h1 : (L.length : Int) ≤ i
    · have F : Hid (∀ u, Below w.heap.size w u → LabP (atX L i) w (.returned (.tuple #[.slice none 0 0, .bool false])) u) := fun u hu => by
        unfold LabP atX
        rw [if_pos (by omega), List.getElem?_eq_none (by omega)]
        exact ⟨hu, none, 0, rfl⟩
      generalize L.length = m at *
      clear hB hfew
      go_enter Tryz.func13, Tryz.ntmps13
      go_wp2_with fail
      with_reducible refine LE.out.mono ?_
      rintro e u1 ⟨rfl, hw⟩
      rw [hw]
      clear hw LE
      go_wp2
      refine bodyPost_ret (v := .tuple #[.slice none 0 0, .bool false]) (by simp [results, Tryz.results13, go_sem]) rfl ?_
      exact F.out _ (Below.refl _ _)
    · obtain ⟨k, rfl⟩ : ∃ k : Nat, i = (k : Int) := ⟨i.toNat, by omega⟩
      have hk : k < L.length := by omega
      have hx : hs[k]? = some (hs[k]'(by rw [hB.sets.len]; exact hk)) := List.getElem?_eq_getElem _
      have hl : L[k]? = some L[k] := List.getElem?_eq_getElem hk
      obtain ⟨q1, q2⟩ := hB.sets.each k _ _ hx hl
      have h3 := hB.sets.row
      rcases id h3.2 with ⟨e1, e2⟩ | ⟨b, cap, cur, e1, _⟩
      · omega
      · simp only [Value.slice.injEq, true_and] at e1
        obtain ⟨rfl, rfl⟩ := e1
        have hcell := h3.cellAt k (by omega)
        rw [List.getElem?_map, hx] at hcell
        generalize hs[k]'(by rw [hB.sets.len]; exact hk) = y at *
        obtain ⟨a', n', c'⟩ := y
        have CL := hide (clonel_any a' n' c' L[k] w q1.1 q1.2.2)
        have hln : Hid (L[k].length = n') := q1.1.1
        have F : Hid (∀ u x d, Below w.heap.size w u → OwnL u w.heap.size x n' d L[k] → LabP (atX L (k : Int)) w (.returned (.tuple #[.slice x n' d, .bool true])) u) := fun u x d hu ho => by
          unfold LabP atX
          rw [if_pos (by omega), Int.toNat_natCast, hl]
          have := hln.out
          subst this
          exact ⟨hu, x, d, rfl, ho⟩
        have hc2 : w.cell? ⟨b, k, none⟩ = some (.slice a' n' c') := hcell
        have i1 : (0 : Int) ≤ (k : Int) := by omega
        have i2 : (k : Int) < (L.length : Int) := by omega
        generalize L[k] = lk at *
        generalize L.length = m at *
        clear hB hfew hcell hx hl q1 q2 h0 hk h3
        go_enter Tryz.func13, Tryz.ntmps13
        go_wp2_with fail
        with_reducible refine LE.out.mono ?_
        rintro e u1 ⟨rfl, hw⟩
        rw [hw]
        clear hw LE
        go_wp2_with fail
        with_reducible refine CL.out.mono ?_
        rintro e u2 ⟨a2, d2, rfl, o2, b2⟩
        have F2 := hide (F.out _ _ _ b2 o2)
        clear b2 o2 CL F
        go_wp2
        refine bodyPost_ret (v := .tuple #[.slice a2 n' d2, .bool true]) (by simp [results, Tryz.results13, go_sem]) rfl ?_
        exact F2.out
end Go.Proofs.YtpffhpnmbpjifaaGreat

namespace Go.Proofs.YtpffhpnmbpjifaaGreat
open Go.RowKit Go.Maps
set_option maxRecDepth 20000

section
variable {w w' : World} {g : Nat} {S : Nat → Prop} {L L1 L2 L3 : Lx} {a : Option Addr} {c : Nat} {hs : List Hl} {bn bp nb : Nat} {p : ByteArray → Option Nat} {q : ByteArray → ByteArray → Option Hl}
theorem PostsM.apart {T : Nat → Prop} (h : PostsM w bp S L nb p q) (k : Ch T w w') (h1 : ¬ T bp) (h2 : ∀ nm b, p nm = some b → ¬ T b) (h3 : ∀ j, CellsT w j 3 → ¬ T j) : PostsM w' bp S L nb p q :=
  ⟨h.own, h.map.ch k h1, fun nm b hb => ⟨(h.ins nm b hb).1, (h.ins nm b hb).2.1, (h.ins nm b hb).2.2.ch k (h2 nm b hb)⟩, h.no,
   fun nm v x hx => ⟨(h.rows nm v x hx).1, (h.rows nm v x hx).2.1, mineI_ch (h.rows nm v x hx).2.2.1 k (fun g hg => h3 g (row_cells (h.rows nm v x hx).2.2.1 hg).1), (h.rows nm v x hx).2.2.2⟩, h.has, h.injP, h.injQ⟩
theorem SetsM.apart {T : Nat → Prop} (h : SetsM w S L a c hs) (k : Ch T w w') (h1 : ∀ j, CellsT w j 42 → ¬ T j) (h2 : ∀ j, CellsT w j 52 → ¬ T j) : SetsM w' S L a c hs :=
  ⟨h.len, row_ch h.row k (fun b hb => h1 b (row_cells h.row hb).1), h.own, fun i x l hi hl => by
    obtain ⟨q1, q2⟩ := h.each i x l hi hl
    exact ⟨⟨q1.1.keep k (fun b off e hz => h2 b (q2 b off e hz).2), q1.2⟩, fun b off e hz => ⟨(q2 b off e hz).1, (q2 b off e hz).2.keep k (h2 b (q2 b off e hz).2)⟩⟩⟩
/-- One set more in the row. -/
theorem SetsM.push {w0 w : World} {l : List Lb} {x : Hl} {b c' : Nat} (h : SetsM w0 S L a c hs) (hch : Ch (fun k => (Value.slice a L.length c).ownBlock = some k) w0 w)
    (hrow : w.ownsRow 0 42 1 (.slice (some ⟨b, 0, none⟩) (L.length + 1) c') (L.length + 1) ((hs ++ [x]).map hlV)) (hSl : SlL w x l) (hhb : ∀ b off, x.1 = some ⟨b, off, none⟩ → x.2.1 ≠ 0 → w0.heap.size ≤ b ∧ CellsT w b 52) :
    SetsM w (fun k => S k ∨ (w0.heap.size ≤ k ∧ k < w.heap.size) ∨ k = b) (L ++ [l]) (some ⟨b, 0, none⟩) c' (hs ++ [x]) := by
  have hl := h.len
  refine ⟨?_, ?_, ?_, ?_⟩
  · rw [List.length_append, List.length_append, hl]; rfl
  · rw [List.length_append]
    exact hrow
  · intro k hk
    simp [Value.ownBlock] at hk
    exact Or.inr (Or.inr hk.symm)
  · intro i h' l' hi hl'
    by_cases hlt' : i < L.length
    · rw [List.getElem?_append_left (by omega)] at hi
      rw [List.getElem?_append_left hlt'] at hl'
      obtain ⟨q1, q2⟩ := h.each i h' l' hi hl'
      have n1 : ∀ b off, h'.1 = some ⟨b, off, none⟩ → h'.2.1 ≠ 0 → ¬ (Value.slice a L.length c).ownBlock = some b := fun b off e hz eb => (row_cells h.row eb).1.ne (q2 b off e hz).2 (by decide) rfl
      exact ⟨⟨q1.1.keep hch n1, q1.2⟩, fun b off e hz => ⟨Or.inl (q2 b off e hz).1, (q2 b off e hz).2.keep hch (n1 b off e hz)⟩⟩
    · have hi2 : i < (hs ++ [x]).length := (List.getElem?_eq_some_iff.1 hi).1
      have : i = L.length := by simp [hl] at hi2; omega
      subst this
      rw [List.getElem?_append_right (by omega), hl, Nat.sub_self] at hi
      rw [List.getElem?_append_right (by omega), Nat.sub_self] at hl'
      simp at hi hl'
      subst hi
      subst hl'
      exact ⟨hSl, fun b' off e hz => ⟨Or.inr (Or.inl ⟨(hhb b' off e hz).1, (hhb b' off e hz).2.lt⟩), (hhb b' off e hz).2⟩⟩
theorem str_set {w : World} {g : Nat} {v0 v1 v2 v : Value} (h : w.heap[g]? = some (.cells #[v0, v1, v2] 66 (0, 0))) : (w.setCell ⟨g, 0, none⟩ v).heap[g]? = some (.cells #[v, v1, v2] 66 (0, 0)) := by
  rw [heap_setCell_same w g 0 _ _ _ h]
  rfl
/-- Behind 'x.sets = append(x.sets, ..)'. -/
theorem IB.moreSets {w0 w : World} {l : List Lb} {x : Hl} {b c' : Nat} (h : IB w0 g S L L2 L3 a c hs bn bp nb p q) (hch : Ch (fun k => (Value.slice a L.length c).ownBlock = some k) w0 w)
    (hrow : w.ownsRow 0 42 1 (.slice (some ⟨b, 0, none⟩) (L.length + 1) c') (L.length + 1) ((hs ++ [x]).map hlV)) (hb : (Value.slice a L.length c).ownBlock = some b ∨ w0.heap.size ≤ b) (hSl : SlL w x l)
    (hhb : ∀ b off, x.1 = some ⟨b, off, none⟩ → x.2.1 ≠ 0 → w0.heap.size ≤ b ∧ CellsT w b 52) :
    ∃ S', IB (w.setCell ⟨g, 0, none⟩ (.slice (some ⟨b, 0, none⟩) (L.length + 1) c')) g S' (L ++ [l]) L2 L3 (some ⟨b, 0, none⟩) c' (hs ++ [x]) bn bp nb p q ∧ (∀ k, S k → S' k) ∧ (∀ k, S' k → S k ∨ w0.heap.size ≤ k) ∧ Ch S w0 (w.setCell ⟨g, 0, none⟩ (.slice (some ⟨b, 0, none⟩) (L.length + 1) c')) := by
  have hset : Ch (fun k => k = g) w (w.setCell ⟨g, 0, none⟩ (.slice (some ⟨b, 0, none⟩) (L.length + 1) c')) := Ch.set w g _
  have gT : ¬ (Value.slice a L.length c).ownBlock = some g := fun e => (row_cells h.sets.row e).1.ne h.cells (by decide) rfl
  have mT : ∀ j, MapB w0 j → ¬ (Value.slice a L.length c).ownBlock = some j := fun j hj e => hj.ne (row_cells h.sets.row e).1 rfl
  have iT : ∀ j, CellsT w0 j 3 → ¬ (Value.slice a L.length c).ownBlock = some j := fun j hj e => hj.ne (row_cells h.sets.row e).1 (by decide) rfl
  have hstr : w.heap[g]? = some (.cells #[.slice a L.length c, .map (some bn), .map (some bp)] 66 (0, 0)) := (hch.block g (h.lt g h.own) gT).trans h.str
  have hgc : CellsT w g 66 := ⟨_, _, hstr⟩
  have hbl : b < w.heap.size := (row_cells hrow (g := b) rfl).1.lt
  have hP := h.posts.apart hch (mT _ h.posts.map.isMap) (fun nm b hb => mT _ (h.posts.ins nm b hb).2.2.isMap) iT
  have hN := h.num.ch hch (mT _ h.num.isMap)
  have hP2 := hP.apart hset (fun e => hP.map.isMap.ne hgc e) (fun nm b hb e => (hP.ins nm b hb).2.2.isMap.ne hgc e) (fun j hj e => hj.ne hgc (by decide) e)
  have hS2 := (h.sets.push hch hrow hSl hhb).apart hset (fun j hj e => hj.ne hgc (by decide) e) (fun j hj e => hj.ne hgc (by decide) e)
  have hss := hset.size
  have hs0 := hch.size
  refine ⟨fun k => S k ∨ (w0.heap.size ≤ k ∧ k < w.heap.size) ∨ k = b, ⟨Or.inl h.own, fun k hk => ?_, ?_, hS2, Or.inl h.numS, h.nump, hN.ch hset (fun e => hN.isMap.ne hgc e), hP2.more (fun k hk => Or.inl hk)⟩, fun k hk => Or.inl hk, fun k hk => ?_, ?_⟩
  · rcases hk with hk | hk | hk
    · have h1 := h.lt k hk
      omega
    · omega
    · omega
  · rw [List.length_append]
    exact str_set hstr
  · rcases hk with hk | hk | hk
    · exact Or.inl hk
    · exact Or.inr hk.1
    · subst hk
      rcases hb with e | e
      · exact Or.inl (h.sets.own _ e)
      · exact Or.inr e
  · refine (hch.more (fun k _ hk => h.sets.own k hk)).trans ?_
    exact hset.more (fun k _ hk => hk ▸ h.own)
/-- Behind 'x.numbers[..] = id'. -/
theorem IB.moreNum {L2' : Lx} (h : IB w g S L1 L2 L3 a c hs bn bp nb p q) (hg : w.grownBy w' (some bn)) (hm : MapS w' bn L2'.length (numF L2')) : IB w' g S L1 L2' L3 a c hs bn bp nb p q := by
  have k : Ch (fun j => j = bn) w w' := (Ch.grown hg).more (fun j _ e => by cases e; rfl)
  refine ⟨h.own, fun j hj => Nat.lt_of_lt_of_le (h.lt j hj) k.size, (k.block g (h.lt g h.own) (fun e => h.num.isMap.ne h.cells e.symm)).trans h.str, h.sets.apart k (fun j hj e => h.num.isMap.ne hj e.symm) (fun j hj e => h.num.isMap.ne hj e.symm), h.numS, h.nump, hm,
    h.posts.apart k (fun e => h.nump.1 e.symm) (fun nm b hb e => h.nump.2 nm b hb e) (fun j hj e => h.num.isMap.ne hj e.symm)⟩
/-- The lists by names and values have grown. -/
theorem IB.withPosts {T S' : Nat → Prop} {L3' : Lx} {nb' : Nat} {p' : ByteArray → Option Nat} {q' : ByteArray → ByteArray → Option Hl} (h : IB w g S L1 L2 L3 a c hs bn bp nb p q) (k : Ch T w w')
    (hT : ∀ j, j < w.heap.size → T j → (MapB w j ∧ j ≠ bn) ∨ CellsT w j 3) (hS : ∀ j, S j → S' j) (hlt : ∀ j, S' j → j < w'.heap.size) (hp : PostsM w' bp S' L3' nb' p' q') (hbn : ∀ nm b, p' nm = some b → b ≠ bn) : IB w' g S' L1 L2 L3' a c hs bn bp nb' p' q' := by
  have cT : ∀ {t : TypeId}, t ≠ 3 → ∀ j, CellsT w j t → ¬ T j := fun ht j hj e => by
    rcases hT j hj.lt e with d | d
    · exact d.1.ne hj rfl
    · exact d.ne hj (fun z => ht z.symm) rfl
  refine ⟨hS _ h.own, hlt, (k.block g (h.lt g h.own) (cT (by decide) g h.cells)).trans h.str, (h.sets.apart k (cT (by decide)) (cT (by decide))).more hS, hS _ h.numS, ⟨h.nump.1, hbn⟩, h.num.ch k (fun e => ?_), hp⟩
  rcases hT bn h.num.lt e with d | d
  · exact d.2 rfl
  · exact h.num.isMap.ne d rfl
end
/-- Behind j labels of a new set. -/
def TkS (w : World) (g : Nat) (S : Nat → Prop) (L : Lx) (l : List Lb) (bn bp j : Nat) (W : World) : Prop :=
  ∃ S' a c hs nb p q, IB W g S' (L ++ [l]) (L ++ [l]) (L ++ [l.take j]) a c hs bn bp nb p q ∧ nb ≤ 2 * (cntX L + j) ∧ (∀ k, S k → S' k) ∧ (∀ k, S' k → S k ∨ w.heap.size ≤ k) ∧ Ch S w W
end Go.Proofs.YtpffhpnmbpjifaaGreat
