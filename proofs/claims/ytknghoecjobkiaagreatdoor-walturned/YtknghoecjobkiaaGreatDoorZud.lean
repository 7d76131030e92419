/-
  Maps by texts in memory: what stands at each text, one text more, the texts that there are: laws, for every world. Maps by texts in memory: a text taken out, how many there are, a copy: laws, for every world. The landed file system in memory: files with their bytes and how pending units are taken back, names behind maps, turns: what this abides. The landed file system: New, Calls, Arm, how a call begins, names that may be, a name's file: contracts, for every world. The landed file system: a turn done to a map of names; a turn more (change); a file more (bear): contracts, for every world. The landed file system: a turn more (change); a file more (bear); SyncDir: contracts, for every world. The landed file system: a file more (bear): a contract, for every world. The landed file system: Create: a contract, for every world. The landed file system: a copy of bytes; a file's bytes and pending units exchanged: laws and contracts, for every world.
  Conditions: as each theorem says.
-/
import Derived.Test.YtknghoecjobkiaaGreatDoorZua
import Derived.Test.YtknghoecjobkiaaGreatDoorRows
import Derived.Maps.OwnSet
import Derived.Sort.KeysCollected
import Derived.Sort.Walk0
import Derived.Test.YtknghoecjobkiaaGreatDoorZuc
import Derived.BigQuiet
import Derived.Deep.Cut
import Derived.Deep.QuietTactic
import Derived.Test.YtknghoecjobkiaaGreatDoorZub
import Derived.Deep.AppendLies
import Derived.Lib.SliceRun
import Derived.Laws.AppendOwnNone
namespace Go.Proofs.YtknghoecjobkiaaGreatDoor
open Go.RowKit Go.Maps
set_option maxRecDepth 20000
abbrev keyT : Keyed Tryz.prog 9 := string_keyed Tryz.underlying9
/-- What stands at a text is told as it is. -/
def heldE (v : Value) : Option (DataW Value × List MemPlace) := some (.held v, [])
/-- A text as a key. -/
def kS (s : ByteArray) : Lit := .string s.data.toList
theorem kS_inj {s t : ByteArray} (h : kS s = kS t) : s = t := by
  unfold kS at h
  simp only [Lit.string.injEq] at h
  cases s with | mk x => cases t with | mk y => congr 1; exact Array.ext' h
theorem keyOf_kS {s : ByteArray} (h : s.size ≤ maxLen) : keyOf Tryz.prog 9 (.string s) = some (kS s) := by
  have : s.data.size ≤ maxLen := h
  simp [keyOf, Tryz.underlying9, mapKey, kS]
  exact h
/-- What a map tells at each text. -/
structure ReadsS (D : DataW Value) (f : ByteArray → Option Value) : Prop where
  has : ∀ s, Maps.has D (kS s) = (f s).isSome
  at' : ∀ s v, f s = some v → ∀ z, D.atKey (kS s) z = .held v
abbrev MapD (w : World) (b n : Nat) (D : DataW Value) : Prop := w.ownsMap Tryz.prog 9 heldE b n D
/-- Block b is a map of at most n texts that tells these. -/
def MapS (w : World) (b n : Nat) (f : ByteArray → Option Value) : Prop := ∃ D, MapD w b n D ∧ ReadsS D f
/-- A block that is a map. -/
def MapB (w : World) (b : Nat) : Prop := ∃ es clock, w.heap[b]? = some (.map es clock)
theorem MapB.ne {w : World} {b g : Nat} {t : TypeId} (h : MapB w b) (k : CellsT w g t) : b ≠ g := by
  rintro rfl
  obtain ⟨_, _, h⟩ := h
  obtain ⟨_, _, k⟩ := k
  rw [h] at k
  cases k
def updF (f : ByteArray → Option Value) (s : ByteArray) (v : Value) : ByteArray → Option Value := fun t => if t = s then some v else f t
theorem ReadsS.put {D : DataW Value} {f : ByteArray → Option Value} (h : ReadsS D f) (hm : IsMap D) (s : ByteArray) (v : Value) : ReadsS (D.put (kS s) (.held v)) (updF f s v) := by
  refine ⟨fun t => ?_, fun t x ht z => ?_⟩
  · unfold updF
    by_cases e : t = s
    · subst e
      rw [if_pos rfl, has_put_same hm (k := kS t) ⟨⟩]
      rfl
    · rw [if_neg e, has_put_other (fun q => e (kS_inj q)), h.has]
  · unfold updF at ht
    by_cases e : t = s
    · subst e
      rw [if_pos rfl] at ht
      cases ht
      exact atKey_put_same hm (k := kS t) ⟨⟩ _ _
    · rw [if_neg e] at ht
      rw [atKey_put_other (fun q => e (kS_inj q))]
      exact h.at' t x ht z
section
variable {w w' : World} {b n : Nat} {f : ByteArray → Option Value}
theorem MapS.isMap (h : MapS w b n f) : MapB w b := by
  obtain ⟨D, ⟨es, clock, hb, _⟩, _⟩ := h
  exact ⟨es, clock, hb⟩
theorem MapS.lt (h : MapS w b n f) : b < w.heap.size := h.choose_spec.1.lt
theorem MapS.mono (h : MapS w b n f) {m : Nat} (hm : n ≤ m) : MapS w b m f := by
  obtain ⟨D, h1, h2⟩ := h
  exact ⟨D, h1.mono hm, h2⟩
theorem MapS.congr {f' : ByteArray → Option Value} (h : MapS w b n f) (e : ∀ s, f s = f' s) : MapS w b n f' := (funext e : f = f') ▸ h
theorem MapS.ch {S : Nat → Prop} (h : MapS w b n f) (k : Ch S w w') (hn : ¬ S b) : MapS w' b n f := by
  obtain ⟨D, h1, h2⟩ := h
  have hlt := h1.lt
  obtain ⟨es, clock, hb, r⟩ := h1
  exact ⟨D, ⟨es, clock, (k.block b hlt hn).trans hb, r⟩, h2⟩
theorem MapS.below (h : MapS w b n f) (k : Below w.heap.size w w') : MapS w' b n f := h.ch (Ch.of_below k) id
theorem MapS.drew (h : MapS w b n f) : MapS w.drew b n f := h
theorem mapS_new (w : World) : MapS (w.alloc (.map #[] 0)) w.heap.size 0 (fun _ => none) := ⟨_, World.ownsMap_made w _ _ _, fun s => rfl, fun s v h => by cases h⟩
/-- A look at a text. -/
theorem MapS.look {t e : TypeId} (h : MapS w b n f) (ht : Tryz.prog.underlying t = some (.map 9 e)) {z : Value} (hz : (zeroValue e).run Tryz.prog w = .ok z w) {s : ByteArray} (hs : s.size ≤ maxLen) :
    (Instr.lookup t (.map (some b)) (.string s) false).run Tryz.prog w = .ok ((f s).getD z) w := by
  obtain ⟨D, h1, h2⟩ := h
  obtain ⟨v, ps, hrun, hv⟩ := h1.lookup keyT ht hz (zd := .held z) (zp := []) rfl (keyOf_kS hs)
  rw [hrun]
  unfold heldE at hv
  simp only [Option.some.injEq, Prod.mk.injEq] at hv
  congr 1
  cases hf : f s with
  | none =>
    have := h2.has s
    rw [hf] at this
    rw [atKey_of_not_has this] at hv
    exact DataW.held.inj hv.1
  | some x =>
    rw [h2.at' s x hf] at hv
    exact DataW.held.inj hv.1
theorem MapS.look_ok {t e : TypeId} (h : MapS w b n f) (ht : Tryz.prog.underlying t = some (.map 9 e)) {z : Value} (hz : (zeroValue e).run Tryz.prog w = .ok z w) {s : ByteArray} (hs : s.size ≤ maxLen) :
    (Instr.lookup t (.map (some b)) (.string s) true).run Tryz.prog w = .ok (.tuple #[(f s).getD z, .bool (f s).isSome]) w := by
  obtain ⟨D, h1, h2⟩ := h
  obtain ⟨v, ps, hrun, hv⟩ := h1.look_ok keyT ht hz (zd := .held z) (zp := []) rfl (keyOf_kS hs)
  rw [hrun, h2.has s]
  unfold heldE at hv
  simp only [Option.some.injEq, Prod.mk.injEq] at hv
  have e : v = (f s).getD z := by
    cases hf : f s with
    | none =>
      have := h2.has s
      rw [hf] at this
      rw [atKey_of_not_has this] at hv
      exact DataW.held.inj hv.1
    | some x =>
      rw [h2.at' s x hf] at hv
      exact DataW.held.inj hv.1
  rw [e]
/-- One text more, or another thing at it. -/
theorem MapS.store {t e : TypeId} (h : MapS w b n f) (ht : Tryz.prog.underlying t = some (.map 9 e)) (hn : n < maxLen) {s : ByteArray} (hs : s.size ≤ maxLen) (v : Value) :
    ∃ w', (Instr.mapUpdate t (.map (some b)) (.string s) v).run Tryz.prog w = .ok () w' ∧ MapS w' b (n + 1) (updF f s v) ∧ w.grownBy w' (some b) := by
  obtain ⟨D, h1, h2⟩ := h
  obtain ⟨w', hrun, r1, r2⟩ := h1.update keyT ht hn (keyOf_kS hs) (val := v) (d := .held v) (ps := []) rfl
  exact ⟨w', hrun, ⟨_, r1, h2.put h1.isMap s v⟩, r2⟩
end
/-- The texts that a map has. -/
theorem keys_mem {w : World} {b n : Nat} {D : DataW Value} (h : MapD w b n D) : (strKeys D).Nodup ∧ ∀ x, x ∈ strKeys D ↔ Maps.has D (.string x) = true := by
  obtain ⟨es, hD, hpw, _⟩ := h.entries keyT
  obtain ⟨es', hD', hko⟩ := h.keysOf
  obtain rfl : es = es' := by rw [hD] at hD'; simpa using hD'
  subst hD
  have hk : ∀ p ∈ es, ∃ x, p.1 = .string x := fun p hp => by
    obtain ⟨v, hv⟩ := hko p hp
    obtain ⟨x, _, hx, _⟩ := Maps.keyOf_str Tryz.underlying9 hv
    exact ⟨x, hx⟩
  refine ⟨?_, fun x => ?_⟩
  · show (es.map fun p => strOf p.1).Nodup
    refine List.pairwise_map.2 (hpw.imp_of_mem fun {p q} hp hq hne e => hne ?_)
    obtain ⟨u, hu⟩ := hk p hp
    obtain ⟨v, hv⟩ := hk q hq
    rw [hu, hv] at e ⊢
    exact congrArg Lit.string e
  · show x ∈ es.map (fun p => strOf p.1) ↔ _
    rw [has_eq, List.any_eq_true, List.mem_map]
    constructor
    · rintro ⟨p, hp, rfl⟩
      obtain ⟨u, hu⟩ := hk p hp
      exact ⟨p, hp, by rw [hu]; simp [Lit.sameKey, strOf]⟩
    · rintro ⟨p, hp, hs⟩
      obtain ⟨u, hu⟩ := hk p hp
      rw [hu] at hs
      exact ⟨p, hp, by rw [hu]; simpa [Lit.sameKey, strOf] using hs⟩
theorem bytes_le {x y : List UInt8} (h : Op.bytesLess x y = true) : x ≤ y := by
  rw [bytesLess_eq, decide_eq_true_eq] at h
  exact List.le_of_lt h
/-- Texts in order, each once, are the sorted texts of a map that has just these. -/
theorem sorted_keys {D : DataW Value} {ss l : List (List UInt8)} (hp : ss.Perm (strKeys D)) (hn : (strKeys D).Nodup) (hl : l.Pairwise (fun x y => Op.bytesLess x y = true)) (hm : ∀ x, x ∈ l ↔ x ∈ strKeys D) : ss.mergeSort (fun x y => decide (x ≤ y)) = l := by
  have hnd : l.Nodup := hl.imp (fun {x y} h e => by subst e; rw [bytesLess_eq, decide_eq_true_eq] at h; exact List.lt_irrefl x h)
  have hpl : ss.Perm l := hp.trans ((List.perm_ext_iff_of_nodup hn hnd).2 (fun x => (hm x).symm))
  have e := mergeSort_of_perm hpl
  rw [show ss.mergeSort (fun x y => decide (x ≤ y)) = ss.mergeSort leB from rfl, e]
  exact List.mergeSort_of_pairwise (hl.imp (fun h => by simp only [leB, decide_eq_true_eq]; exact bytes_le h))
set_option linter.unusedVariables false
def delF (f : ByteArray → Option Value) (s : ByteArray) : ByteArray → Option Value := fun t => if t = s then none else f t
theorem ReadsS.del {D : DataW Value} {f : ByteArray → Option Value} (h : ReadsS D f) (s : ByteArray) : ReadsS (D.del (kS s)) (delF f s) := by
  refine ⟨fun t => ?_, fun t x ht z => ?_⟩
  · unfold delF
    by_cases e : t = s
    · subst e
      rw [if_pos rfl, has_del_same]
      rfl
    · rw [if_neg e, has_del_other (fun q => e (kS_inj q)), h.has]
  · unfold delF at ht
    by_cases e : t = s
    · subst e
      rw [if_pos rfl] at ht
      cases ht
    · rw [if_neg e] at ht
      rw [atKey_del_other (fun q => e (kS_inj q))]
      exact h.at' t x ht z
section
variable {w w' : World} {b n : Nat} {f : ByteArray → Option Value}
/-- A text taken out. -/
theorem MapS.drop {t e : TypeId} (h : MapS w b n f) (ht : Tryz.prog.underlying t = some (.map 9 e)) {s : ByteArray} (hs : s.size ≤ maxLen) (ty : TypeId) :
    ∃ w', (Builtin.delete_ #[t, 9] ty #[.map (some b), .string s]).run Tryz.prog w = .ok (.tuple #[]) w' ∧ MapS w' b n (delF f s) ∧ w.grownBy w' (some b) := by
  obtain ⟨D, h1, h2⟩ := h
  obtain ⟨w', hrun, r1, r2⟩ := h1.drop keyT ht (keyOf_kS hs) ty
  exact ⟨w', hrun, ⟨_, r1, h2.del s⟩, r2.grown⟩
theorem strKeys_len {D : DataW Value} (h : MapD w b n D) : (strKeys D).length = Maps.size D := by
  obtain ⟨es, hD, -⟩ := h.entries keyT
  subst hD
  show (es.map fun p => strOf p.1).length = es.length
  rw [List.length_map]
theorem ba_of' (x : List UInt8) : kS ⟨x.toArray⟩ = .string x := by unfold kS; rfl
theorem size_of {D : DataW Value} (h1 : MapD w b n D) (h2 : ReadsS D f) {L : List ByteArray} (hL : L.Nodup) (hm : ∀ s, s ∈ L ↔ (f s).isSome = true) : Maps.size D = L.length ∧ (strKeys D).Perm (L.map (·.toList)) := by
  obtain ⟨hn, hk⟩ := keys_mem h1
  have hp : (strKeys D).Perm (L.map (·.toList)) := by
    refine (List.perm_ext_iff_of_nodup hn (List.pairwise_map.2 (hL.imp (fun {x y} hne e => hne (ba_ext e))))).2 (fun x => ?_)
    rw [hk, ← ba_of', h2.has, ← hm, List.mem_map]
    constructor
    · intro hx
      exact ⟨_, hx, by rw [ByteArray.toList_eq]⟩
    · rintro ⟨y, hy, e⟩
      have : (⟨x.toArray⟩ : ByteArray) = y := by
        apply ba_ext
        rw [← e, ByteArray.toList_eq, ByteArray.toList_eq]
      rw [this]
      exact hy
  refine ⟨?_, hp⟩
  rw [← strKeys_len h1, hp.length_eq, List.length_map]
/-- It has just as many as there are. -/
theorem MapS.tight (h : MapS w b n f) {L : List ByteArray} (hL : L.Nodup) (hm : ∀ s, s ∈ L ↔ (f s).isSome = true) : MapS w b L.length f := by
  obtain ⟨D, h1, h2⟩ := h
  obtain ⟨e, -⟩ := size_of h1 h2 hL hm
  obtain ⟨es, clock, hb, F, _, hD⟩ := h1
  refine ⟨D, ⟨es, clock, hb, F, ?_, hD⟩, h2⟩
  rw [← e, hD]
  simp [Maps.size, length_sorted]
theorem MapS.len {t e : TypeId} (h : MapS w b n f) (ht : Tryz.prog.underlying t = some (.map 9 e)) {L : List ByteArray} (hL : L.Nodup) (hm : ∀ s, s ∈ L ↔ (f s).isSome = true) (ty : TypeId) :
    (Builtin.len_ #[t] ty #[.map (some b)]).run Tryz.prog w = .ok (.int .i64 (L.length : Int)) w := by
  obtain ⟨D, h1, h2⟩ := h
  obtain ⟨e, -⟩ := size_of h1 h2 hL hm
  rw [h1.len ht ty, e]
end
/-- Pending units in one, as they lie. -/
def puV (p : Nat × H3) : List Value := [.int .i64 (p.1 : Int), .slice p.2.1 p.2.2.1 p.2.2.2]
theorem puV_len (p : Nat × H3) : (puV p).length = 2 := rfl
theorem puV_one1 (p : Nat × H3) : ∀ u ∈ puV p, u.oneCell' = true := by
  intro u hu
  simp [puV] at hu
  rcases hu with rfl | rfl <;> rfl
abbrev OwnP (w : World) (base : Nat) (a : Option Addr) (n cap : Nat) (l : List (Nat × H3)) : Prop := OwnG 266 2 puV w base a n cap l
/-- A file's block as a pointer. -/
def ptrV (fb : List Nat) (k : Nat) : Value := .pointer (some ⟨fb.getD k 0, 0, none⟩)
/-- A turn as it lies. -/
def tuV (fb : List Nat) (t : Tn) : List Value := if t.k = 0 then [.int .i64 0, .string .empty, .string t.nm, ptrV fb t.f] else [.int .i64 (t.k : Int), .string t.nm, .string t.to, .pointer none]
theorem tuV_len (fb : List Nat) (t : Tn) : (tuV fb t).length = 4 := by unfold tuV; split <;> rfl
theorem tuV_one1 (fb : List Nat) (t : Tn) : ∀ u ∈ tuV fb t, u.oneCell' = true := by
  intro u hu
  unfold tuV at hu
  split at hu <;> simp at hu
  · rcases hu with rfl | rfl | rfl | rfl <;> rfl
  · rcases hu with rfl | rfl | rfl | rfl <;> rfl
abbrev OwnTu (fb : List Nat) (w : World) (base : Nat) (a : Option Addr) (n cap : Nat) (l : List Tn) : Prop := OwnG 177 4 (tuV fb) w base a n cap l
/-- Where a file lies: its block, its bytes, its pending units and what they tell. -/
structure Fh where
  b : Nat
  d : H3
  p : H3
  ps : List Pu
  hp : List (Nat × H3)
/-- A file's blocks. -/
def SFh (h : Fh) (j : Nat) : Prop := j = h.b ∨ (h3V h.d).ownBlock = some j ∨ (h3V h.p).ownBlock = some j ∨ ∃ q ∈ h.hp, (h3V q.2).ownBlock = some j
/-- A file in memory: its bytes, and units kept as what takes them back. -/
structure FlP (w : World) (h : Fh) (k : Nat) (b : List Int) (su : List Int) (us : List Un) : Prop where
  str : w.heap[h.b]? = some (.cells #[.int .i64 (k : Int), .slice h.d.1 h.d.2.1 h.d.2.2, .slice h.p.1 h.p.2.1 h.p.2.2] 185 (0, 0))
  data : OwnVb w 0 h.d.1 h.d.2.1 h.d.2.2 b
  pd : Pd su us h.ps
  pend : OwnP w 0 h.p.1 h.p.2.1 h.p.2.2 h.hp
  len : h.hp.length = h.ps.length
  each : ∀ (i : Nat) (q : Nat × H3) (r : Pu), h.hp[i]? = some q → h.ps[i]? = some r → q.1 = r.1 ∧ OwnVb w 0 q.2.1 q.2.2.1 q.2.2.2 r.2 ∧ ∀ j, (h3V q.2).ownBlock = some j → ¬ (h3V h.d).ownBlock = some j
abbrev FlM (w : World) (h : Fh) (k : Nat) (x : Fi) : Prop := FlP w h k (bytF x) x.sure x.us
/-- The kinds of a file's blocks. -/
def Ty3 (w : World) (j : Nat) : Prop := CellsT w j 185 ∨ CellsT w j 266 ∨ CellsT w j 5
theorem Ty3.lt {w : World} {j : Nat} (h : Ty3 w j) : j < w.heap.size := by
  rcases h with h | h | h <;> exact h.lt
theorem MapB.ne3 {w : World} {b j : Nat} (h : MapB w b) (k : Ty3 w j) : b ≠ j := by
  rcases k with k | k | k <;> exact h.ne k
theorem ne_ty3 {w : World} {g j : Nat} {t : TypeId} (h : CellsT w g t) (k : Ty3 w j) (h1 : t ≠ 185) (h2 : t ≠ 266) (h3 : t ≠ 5) : g ≠ j := by
  rcases k with k | k | k
  · exact h.ne k h1
  · exact h.ne k h2
  · exact h.ne k h3
section
variable {w w' : World} {h : Fh} {k : Nat} {b su : List Int} {us : List Un}
theorem FlP.cells (m : FlP w h k b su us) : CellsT w h.b 185 := ⟨_, _, m.str⟩
theorem FlP.got (m : FlP w h k b su us) {q : Nat × H3} (hq : q ∈ h.hp) : ∃ (i : Nat) (r : Pu), h.hp[i]? = .some q ∧ h.ps[i]? = .some r := by
  obtain ⟨i, hi⟩ := List.mem_iff_getElem?.1 hq
  have hl := (List.getElem?_eq_some_iff.1 hi).1
  exact ⟨i, _, hi, List.getElem?_eq_getElem (by rw [← m.len]; exact hl)⟩
theorem FlP.kind (m : FlP w h k b su us) {j : Nat} (hj : SFh h j) : Ty3 w j := by
  rcases hj with rfl | hj | hj | ⟨q, hq, hj⟩
  · exact Or.inl m.cells
  · exact Or.inr (Or.inr (OwnG.cellsT m.data j hj).1)
  · exact Or.inr (Or.inl (OwnG.cellsT m.pend j hj).1)
  · obtain ⟨i, r, h1, h2⟩ := m.got hq
    exact Or.inr (Or.inr (OwnG.cellsT (m.each i q r h1 h2).2.1 j hj).1)
theorem FlP.lt (m : FlP w h k b su us) {j : Nat} (hj : SFh h j) : j < w.heap.size := (m.kind hj).lt
theorem FlP.ch {T : Nat → Prop} (m : FlP w h k b su us) (c : Ch T w w') (hn : ∀ j, SFh h j → ¬ T j) : FlP w' h k b su us :=
  ⟨(c.block h.b (m.lt (Or.inl rfl)) (hn _ (Or.inl rfl))).trans m.str, OwnG.ch m.data c (fun j hj => hn j (Or.inr (Or.inl hj))), m.pd, OwnG.ch m.pend c (fun j hj => hn j (Or.inr (Or.inr (Or.inl hj)))), m.len,
    fun i q r h1 h2 => ⟨(m.each i q r h1 h2).1, OwnG.ch (m.each i q r h1 h2).2.1 c (fun j hj => hn j (Or.inr (Or.inr (Or.inr ⟨q, List.mem_of_getElem? h1, hj⟩)))), (m.each i q r h1 h2).2.2⟩⟩
theorem FlP.c1 (m : FlP w h k b su us) : w.cell? ⟨h.b, 1, none⟩ = .some (.slice h.d.1 h.d.2.1 h.d.2.2) := by rw [cell_of_row w h.b 1 _ _ (0, 0) m.str]; rfl
theorem FlP.c2 (m : FlP w h k b su us) : w.cell? ⟨h.b, 2, none⟩ = .some (.slice h.p.1 h.p.2.1 h.p.2.2) := by rw [cell_of_row w h.b 2 _ _ (0, 0) m.str]; rfl
theorem FlP.fz (m : FlP w h k b su us) (i : Nat) : w.frozen? ⟨h.b, i, none⟩ = false := frozen_of_row w h.b i _ _ m.str
end
/-- A file behind a call that turns its blocks alone. -/
def StepP (w w' : World) (h : Fh) (k : Nat) (b su : List Int) (us : List Un) : Prop := ∃ h', h'.b = h.b ∧ FlP w' h' k b su us ∧ (∀ j, SFh h' j → SFh h j ∨ w.heap.size ≤ j) ∧ Ch (SFh h) w w'
abbrev StepL (w w' : World) (h : Fh) (k : Nat) (x : Fi) : Prop := StepP w w' h k (bytF x) x.sure x.us
theorem stepP_join {w w1 w2 : World} {h h1 : Fh} {k : Nat} {b su : List Int} {us : List Un} (eb : h1.b = h.b) (q : ∀ j, SFh h1 j → SFh h j ∨ w.heap.size ≤ j) (c : Ch (SFh h) w w1) (st : StepP w1 w2 h1 k b su us) : StepP w w2 h k b su us := by
  obtain ⟨h2, e2, m2, q2, c2⟩ := st
  refine ⟨h2, e2.trans eb, m2, fun j hj => ?_, ⟨c2.os.trans c.os, c2.tape.trans c.tape, c2.output.trans c.output, Nat.le_trans c.size c2.size, fun j hj hn => ?_⟩⟩
  · rcases q2 j hj with e | e
    · exact q j e
    · exact Or.inr (Nat.le_trans c.size e)
  · rw [c2.block j (Nat.lt_of_lt_of_le hj c.size) (fun e => by
      rcases q j e with e | e
      · exact hn e
      · omega)]
    exact c.block j hj hn
/-- What a map of names tells. -/
def nmV (fb : List Nat) (l : List Dn) : ByteArray → Option Value := fun s => (fileD l s).map (ptrV fb)
/-- The struct's cells. -/
abbrev lfC (F : Fs) (bn bc : Nat) (at' : Option Addr) (ct : Nat) : Array Value := #[.map (some bn), .map (some bc), .slice at' F.turns.length ct, .int .i64 (F.files.length : Int), .int .i64 F.n, .bool F.armed, .int .i64 F.kind, .int .i64 F.after, .bool F.dark]
/-- The file system: the struct, its maps, its row of turns, each file. -/
structure LB (w : World) (g : Nat) (S : Nat → Prop) (F : Fs) (fb : List Nat) (fh : List Fh) (bn bc : Nat) (at' : Option Addr) (ct : Nat) : Prop where
  own : S g
  lt : ∀ k, S k → k < w.heap.size
  str : w.heap[g]? = some (.cells (lfC F bn bc at' ct) 139 (0, 0))
  names : MapS w bn (dirF F).length (nmV fb (dirF F))
  certain : MapS w bc F.sure.length (nmV fb F.sure)
  ne : bn ≠ bc
  bnS : S bn
  bcS : S bc
  turns : OwnTu fb w 0 at' F.turns.length ct F.turns
  turnsS : ∀ b, (Value.slice at' F.turns.length ct).ownBlock = some b → S b
  fbs : fh.map (·.b) = fb
  len : fh.length = F.files.length
  files : ∀ (i : Nat) (h : Fh) (x : Fi), fh[i]? = some h → F.files[i]? = some x → FlM w h i x
  filesS : ∀ (i : Nat) (h : Fh) (j : Nat), fh[i]? = some h → SFh h j → S j
  apart : ∀ (i i' : Nat) (h h' : Fh) (j : Nat), i ≠ i' → fh[i]? = some h → fh[i']? = some h' → SFh h j → ¬ SFh h' j
/-- A file system that is this one. -/
def LAt (w : World) (g : Nat) (S : Nat → Prop) (F : Fs) : Prop := GoodV F ∧ GoodN F ∧ ∃ fb fh bn bc at' ct, LB w g S F fb fh bn bc at' ct
section
variable {w w' : World} {g : Nat} {S : Nat → Prop} {F F' : Fs} {fb : List Nat} {fh : List Fh} {bn bc : Nat} {at' : Option Addr} {ct : Nat}
theorem LB.fileX (B : LB w g S F fb fh bn bc at' ct) {i : Nat} {h : Fh} (hi : fh[i]? = some h) : ∃ x, F.files[i]? = some x ∧ FlM w h i x := by
  have hl := (List.getElem?_eq_some_iff.1 hi).1
  have e : F.files[i]? = some (F.files[i]'(by rw [← B.len]; exact hl)) := List.getElem?_eq_getElem _
  exact ⟨_, e, B.files i h _ hi e⟩
theorem LB.fileAt (B : LB w g S F fb fh bn bc at' ct) {k : Nat} (hk : k < F.files.length) : ∃ h, fh[k]? = some h ∧ FlM w h k (atF F k) ∧ fb.getD k 0 = h.b := by
  have hl : k < fh.length := by rw [B.len]; exact hk
  refine ⟨_, List.getElem?_eq_getElem hl, B.files k _ _ (List.getElem?_eq_getElem hl) ?_, ?_⟩
  · unfold atF
    rw [List.getD_eq_getElem?_getD, List.getElem?_eq_getElem hk]
    rfl
  · rw [← B.fbs, List.getD_eq_getElem?_getD, List.getElem?_map, List.getElem?_eq_getElem hl]
    rfl
theorem LB.cellsT (B : LB w g S F fb fh bn bc at' ct) : CellsT w g 139 := ⟨_, _, B.str⟩
theorem LB.ch {T : Nat → Prop} (B : LB w g S F fb fh bn bc at' ct) (k : Ch T w w') (hn : ∀ j, S j → ¬ T j) : LB w' g S F fb fh bn bc at' ct :=
  ⟨B.own, fun j hj => Nat.lt_of_lt_of_le (B.lt j hj) k.size, (k.block g (B.lt g B.own) (hn g B.own)).trans B.str, B.names.ch k (hn _ B.bnS), B.certain.ch k (hn _ B.bcS), B.ne, B.bnS, B.bcS, OwnG.ch B.turns k (fun b hb => hn b (B.turnsS b hb)), B.turnsS,
    B.fbs, B.len, fun i h x h1 h2 => (B.files i h x h1 h2).ch k (fun j hj => hn j (B.filesS i h j h1 hj)), B.filesS, B.apart⟩
theorem LB.below (B : LB w g S F fb fh bn bc at' ct) (b : Below w.heap.size w w') : LB w' g S F fb fh bn bc at' ct := B.ch (Ch.of_below b) (fun _ _ => id)
theorem LB.c0 (B : LB w g S F fb fh bn bc at' ct) : w.cell? ⟨g, 0, none⟩ = some (.map (some bn)) := by rw [cell_of_row w g 0 _ _ (0, 0) B.str]; rfl
theorem LB.c1 (B : LB w g S F fb fh bn bc at' ct) : w.cell? ⟨g, 1, none⟩ = some (.map (some bc)) := by rw [cell_of_row w g 1 _ _ (0, 0) B.str]; rfl
theorem LB.c2 (B : LB w g S F fb fh bn bc at' ct) : w.cell? ⟨g, 2, none⟩ = some (.slice at' F.turns.length ct) := by rw [cell_of_row w g 2 _ _ (0, 0) B.str]; rfl
theorem LB.c3 (B : LB w g S F fb fh bn bc at' ct) : w.cell? ⟨g, 3, none⟩ = some (.int .i64 (F.files.length : Int)) := by rw [cell_of_row w g 3 _ _ (0, 0) B.str]; rfl
theorem LB.c4 (B : LB w g S F fb fh bn bc at' ct) : w.cell? ⟨g, 4, none⟩ = some (.int .i64 F.n) := by rw [cell_of_row w g 4 _ _ (0, 0) B.str]; rfl
theorem LB.c5 (B : LB w g S F fb fh bn bc at' ct) : w.cell? ⟨g, 5, none⟩ = some (.bool F.armed) := by rw [cell_of_row w g 5 _ _ (0, 0) B.str]; rfl
theorem LB.c6 (B : LB w g S F fb fh bn bc at' ct) : w.cell? ⟨g, 6, none⟩ = some (.int .i64 F.kind) := by rw [cell_of_row w g 6 _ _ (0, 0) B.str]; rfl
theorem LB.c7 (B : LB w g S F fb fh bn bc at' ct) : w.cell? ⟨g, 7, none⟩ = some (.int .i64 F.after) := by rw [cell_of_row w g 7 _ _ (0, 0) B.str]; rfl
theorem LB.c8 (B : LB w g S F fb fh bn bc at' ct) : w.cell? ⟨g, 8, none⟩ = some (.bool F.dark) := by rw [cell_of_row w g 8 _ _ (0, 0) B.str]; rfl
theorem LB.fz (B : LB w g S F fb fh bn bc at' ct) (i : Nat) : w.frozen? ⟨g, i, none⟩ = false := frozen_of_row w g i _ _ B.str
theorem LAt.keep {T : Nat → Prop} (h : LAt w g S F) (k : Ch T w w') (hn : ∀ j, S j → ¬ T j) : LAt w' g S F := by
  obtain ⟨h0, h1, fb, fh, bn, bc, at', ct, B⟩ := h
  exact ⟨h0, h1, fb, fh, bn, bc, at', ct, B.ch k hn⟩
theorem LAt.below (h : LAt w g S F) (b : Below w.heap.size w w') : LAt w' g S F := h.keep (Ch.of_below b) (fun _ _ => id)
theorem LAt.lt (h : LAt w g S F) : ∀ k, S k → k < w.heap.size := by
  obtain ⟨h0, h1, fb, fh, bn, bc, at', ct, B⟩ := h
  exact B.lt
/-- The struct alone has turned. -/
theorem LB.scal (B : LB w g S F fb fh bn bc at' ct) (k : Ch (fun j => j = g) w w') (hstr : w'.heap[g]? = some (.cells (lfC F' bn bc at' ct) 139 (0, 0))) (e1 : F'.files = F.files) (e2 : F'.sure = F.sure) (e3 : F'.turns = F.turns) : LB w' g S F' fb fh bn bc at' ct := by
  have ed : dirF F' = dirF F := by unfold dirF; rw [e2, e3]
  refine ⟨B.own, fun j hj => Nat.lt_of_lt_of_le (B.lt j hj) k.size, hstr, ?_, ?_, B.ne, B.bnS, B.bcS, ?_, ?_, B.fbs, by rw [e1]; exact B.len, ?_, B.filesS, B.apart⟩
  · rw [ed]; exact B.names.ch k (B.names.isMap.ne B.cellsT)
  · rw [e2]; exact B.certain.ch k (B.certain.isMap.ne B.cellsT)
  · rw [e3]; exact OwnG.ch B.turns k (fun b hb => (OwnG.cellsT B.turns b hb).1.ne B.cellsT (by decide))
  · rw [e3]; exact B.turnsS
  · rw [e1]
    intro i h x h1 h2
    have m := B.files i h x h1 h2
    exact m.ch k (fun j hj => (ne_ty3 B.cellsT (m.kind hj) (by decide) (by decide) (by decide)).symm)
theorem nmV_some {fb : List Nat} {l : List Dn} {s : ByteArray} : (nmV fb l s).isSome = (fileD l s).isSome := by unfold nmV; rw [Option.isSome_map]
theorem names_mem {l : List Dn} (h : NamesD l) (s : ByteArray) : s ∈ l.map (·.nm) ↔ (nmV fb l s).isSome = true := by
  rw [nmV_some, List.mem_map]
  constructor
  · rintro ⟨d, hd, rfl⟩
    rw [fileD_at h hd]; rfl
  · intro q
    obtain ⟨f, hf⟩ := Option.isSome_iff_exists.1 q
    exact ⟨_, fileD_mem hf, rfl⟩
/-- A map of names has just as many. -/
theorem MapS.tightD {b n : Nat} {l : List Dn} (h : MapS w b n (nmV fb l)) (hl : NamesD l) : MapS w b l.length (nmV fb l) := by
  have := h.tight hl.once (names_mem hl)
  rwa [List.length_map] at this
/-- One file has turned. -/
theorem LB.step (B : LB w g S F fb fh bn bc at' ct) {k : Nat} {h h' : Fh} {x : Fi} (hk : fh[k]? = some h) (eb : h'.b = h.b) (m' : FlM w' h' k x) (hS : ∀ j, SFh h' j → SFh h j ∨ w.heap.size ≤ j) (c : Ch (SFh h) w w') :
    LB w' g (fun j => S j ∨ (w.heap.size ≤ j ∧ j < w'.heap.size)) { F with files := F.files.set k x } fb (fh.set k h') bn bc at' ct := by
  obtain ⟨x0, hx0, m⟩ := B.fileX hk
  have hkl := (List.getElem?_eq_some_iff.1 hk).1
  have hkf := (List.getElem?_eq_some_iff.1 hx0).1
  refine ⟨Or.inl B.own, ?_, ?_, ?_, ?_, B.ne, Or.inl B.bnS, Or.inl B.bcS, ?_, fun b hb => Or.inl (B.turnsS b hb), ?_, ?_, ?_, ?_, ?_⟩
  · rintro j (e | e)
    · exact Nat.lt_of_lt_of_le (B.lt j e) c.size
    · exact e.2
  · rw [c.block g (B.lt g B.own) (fun q => ne_ty3 B.cellsT (m.kind q) (by decide) (by decide) (by decide) rfl), B.str]
    unfold lfC
    dsimp only
    rw [List.length_set]
  · exact B.names.ch c (fun q => B.names.isMap.ne3 (m.kind q) rfl)
  · exact B.certain.ch c (fun q => B.certain.isMap.ne3 (m.kind q) rfl)
  · exact OwnG.ch B.turns c (fun b hb q => ne_ty3 (OwnG.cellsT B.turns b hb).1 (m.kind q) (by decide) (by decide) (by decide) rfl)
  · rw [List.map_set, eb, ← B.fbs]
    apply List.ext_getElem?
    intro i
    by_cases e : i = k
    · subst e
      rw [List.getElem?_set_self (by rw [List.length_map]; exact hkl), List.getElem?_map, hk]
      rfl
    · rw [List.getElem?_set_ne (Ne.symm e)]
  · dsimp only
    rw [List.length_set, List.length_set]
    exact B.len
  · intro i y z hi hz
    dsimp only at hz
    by_cases e : i = k
    · subst e
      rw [List.getElem?_set_self hkl] at hi
      rw [List.getElem?_set_self hkf] at hz
      obtain rfl := Option.some.inj hi
      obtain rfl := Option.some.inj hz
      exact m'
    · rw [List.getElem?_set_ne (Ne.symm e)] at hi hz
      exact (B.files i y z hi hz).ch c (fun j hj => B.apart i k y h j e hi hk hj)
  · intro i y j hi hj
    by_cases e : i = k
    · subst e
      rw [List.getElem?_set_self hkl] at hi
      obtain rfl := Option.some.inj hi
      rcases hS j hj with q | q
      · exact Or.inl (B.filesS i h j hk q)
      · exact Or.inr ⟨q, m'.lt hj⟩
    · rw [List.getElem?_set_ne (Ne.symm e)] at hi
      exact Or.inl (B.filesS i y j hi hj)
  · intro i i' y y' j hii hi hi' hj hj'
    by_cases e : i = k
    · subst e
      rw [List.getElem?_set_self hkl] at hi
      obtain rfl := Option.some.inj hi
      rw [List.getElem?_set_ne hii] at hi'
      rcases hS j hj with q | q
      · exact B.apart i i' h y' j hii hk hi' q hj'
      · have := B.lt j (B.filesS i' y' j hi' hj')
        omega
    · rw [List.getElem?_set_ne (Ne.symm e)] at hi
      by_cases e2 : i' = k
      · subst e2
        rw [List.getElem?_set_self hkl] at hi'
        obtain rfl := Option.some.inj hi'
        rcases hS j hj' with q | q
        · exact B.apart i i' y h j hii hi hk hj q
        · have := B.lt j (B.filesS i y j hi hj)
          omega
      · rw [List.getElem?_set_ne (Ne.symm e2)] at hi'
        exact B.apart i i' y y' j hii hi hi' hj hj'
end
section
variable {w : World} {g : Nat} {S : Nat → Prop} {F : Fs} {fb : List Nat} {fh : List Fh} {bn bc : Nat} {at' : Option Addr} {ct : Nat}
theorem LB.setN (B : LB w g S F fb fh bn bc at' ct) (v : Int) : LB (w.setCell ⟨g, 4, none⟩ (.int .i64 v)) g S { F with n := v } fb fh bn bc at' ct := B.scal (ch_set w g 4 _) (by rw [heap_setCell_same w g 4 _ _ _ B.str]; rfl) rfl rfl rfl
theorem LB.setArmed (B : LB w g S F fb fh bn bc at' ct) (v : Bool) : LB (w.setCell ⟨g, 5, none⟩ (.bool v)) g S { F with armed := v } fb fh bn bc at' ct := B.scal (ch_set w g 5 _) (by rw [heap_setCell_same w g 5 _ _ _ B.str]; rfl) rfl rfl rfl
theorem LB.setAfter (B : LB w g S F fb fh bn bc at' ct) (v : Int) : LB (w.setCell ⟨g, 7, none⟩ (.int .i64 v)) g S { F with after := v } fb fh bn bc at' ct := B.scal (ch_set w g 7 _) (by rw [heap_setCell_same w g 7 _ _ _ B.str]; rfl) rfl rfl rfl
theorem LB.setDark (B : LB w g S F fb fh bn bc at' ct) (v : Bool) : LB (w.setCell ⟨g, 8, none⟩ (.bool v)) g S { F with dark := v } fb fh bn bc at' ct := B.scal (ch_set w g 8 _) (by rw [heap_setCell_same w g 8 _ _ _ B.str]; rfl) rfl rfl rfl
end
/-- What a call meets. -/
def meetX (F : Fs) : Fs × Option Int :=
  if F.dark = true then (F, some 15)
  else if F.armed = false then (F, none)
  else if 0 < F.after then ({ F with after := F.after - 1 }, none)
  else if F.kind = 0 then ({ F with armed := false, dark := true }, some 15)
  else ({ F with armed := false }, some F.kind)
theorem call_meet (F : Fs) : callF F = meetX { F with n := F.n + 1 } := rfl
theorem meetX_cases (F : Fs) : (F.dark = true ∧ meetX F = (F, some 15)) ∨ (F.dark = false ∧ F.armed = false ∧ meetX F = (F, none)) ∨ (F.dark = false ∧ F.armed = true ∧ 0 < F.after ∧ meetX F = ({ F with after := F.after - 1 }, none)) ∨ (F.dark = false ∧ F.armed = true ∧ ¬ 0 < F.after ∧ F.kind = 0 ∧ meetX F = ({ F with armed := false, dark := true }, some 15)) ∨ (F.dark = false ∧ F.armed = true ∧ ¬ 0 < F.after ∧ ¬ F.kind = 0 ∧ meetX F = ({ F with armed := false }, some F.kind)) := by
  unfold meetX
  cases hd : F.dark with
  | true => left; simp
  | false =>
    right
    cases ha : F.armed with
    | false => left; simp
    | true =>
      right
      by_cases h : 0 < F.after
      · left; simp [h]
      · right
        by_cases hk : F.kind = 0
        · left; simp [h, hk]
        · right; simp [h, hk]

set_option maxHeartbeats 4000000 in
theorem meet_any (w : World) (g : Nat) (S : Nat → Prop) (F : Fs) (fb : List Nat) (fh : List Fh) (bn bc : Nat) (at' : Option Addr) (ct : Nat) (B : LB w g S F fb fh bn bc at' ct) (ha : 0 ≤ F.after ∧ F.after ≤ 9223372036854775807) :
    Calls Tryz.prog 222 #[.pointer (some ⟨g, 5, none⟩)] w fun e w' => e = .returned (.int .i64 ((meetX F).2.getD 0)) ∧ LB w' g S (meetX F).1 fb fh bn bc at' ct ∧ Ch (fun k => k = g) w w' := by
  have HP : Hid (∀ (G' : Fs) (o : Option Int) (u : World), meetX F = (G', o) → LB u g S G' fb fh bn bc at' ct → Ch (fun k => k = g) w u → (Ending.returned (.int .i64 (o.getD 0)) = .returned (.int .i64 ((meetX F).2.getD 0)) ∧ LB u g S (meetX F).1 fb fh bn bc at' ct ∧ Ch (fun k => k = g) w u)) := fun G' o u e hb hc => by
    rw [e]
    exact ⟨rfl, hb, hc⟩
  have c5 := B.c5
  have c6 := B.c6
  have c7 := B.c7
  have c8 := B.c8
  have f5 := B.fz 5
  have f7 := B.fz 7
  rcases meetX_cases F with ⟨q1, q⟩ | ⟨q1, q2, q⟩ | ⟨q1, q2, q3, q⟩ | ⟨q1, q2, q3, q4, q⟩ | ⟨q1, q2, q3, q4, q⟩
  · have HE := hide (HP.out _ _ w q B (Ch.refl _ _))
    rw [q1] at c8
    clear q HP B
    go_enter Tryz.func222, Tryz.ntmps222
    go_wp2
    go_ret
    exact HE.out
  · have HE := hide (HP.out _ _ w q B (Ch.refl _ _))
    rw [q1] at c8
    rw [q2] at c5
    clear q HP B
    go_enter Tryz.func222, Tryz.ntmps222
    go_wp2
    go_ret
    exact HE.out
  · have HE := hide (HP.out _ _ (w.setCell ⟨g, 7, none⟩ (.int .i64 (F.after - 1))) q (B.setAfter _) (ch_set w g 7 _))
    have hw : IntKind.i64.wrap (F.after - 1) = F.after - 1 := by rw [IntKind.wrap_i64]; omega
    rw [q1] at c8
    rw [q2] at c5
    clear q HP B
    go_enter Tryz.func222, Tryz.ntmps222
    go_wp2
    go_ret
    exact HE.out
  · obtain ⟨W2, hW2⟩ : ∃ W2, Hid (w.setCell ⟨g, 5, none⟩ (.bool false) = W2) := ⟨_, rfl⟩
    have B2 : Hid (LB W2 g S { F with armed := false } fb fh bn bc at' ct) := by rw [← hW2.out]; exact B.setArmed false
    have K2 : Hid (Ch (fun k => k = g) w W2) := by rw [← hW2.out]; exact ch_set w g 5 _
    have x6 := B2.out.c6
    have x8 := B2.out.c8
    have y8 := B2.out.fz 8
    dsimp only at x6 x8
    have HE := hide (HP.out _ _ (W2.setCell ⟨g, 8, none⟩ (.bool true)) q (B2.out.setDark true) (K2.out.trans (ch_set W2 g 8 _)))
    rw [q1] at c8
    rw [q2] at c5
    rw [q4] at x6
    clear q HP B B2
    go_enter Tryz.func222, Tryz.ntmps222
    go_upto_region 9 with fail
    rw [hW2.out]
    clear c5 c6 c7 c8
    go_wp2
    go_ret
    exact HE.out
  · obtain ⟨W2, hW2⟩ : ∃ W2, Hid (w.setCell ⟨g, 5, none⟩ (.bool false) = W2) := ⟨_, rfl⟩
    have B2 : Hid (LB W2 g S { F with armed := false } fb fh bn bc at' ct) := by rw [← hW2.out]; exact B.setArmed false
    have K2 : Hid (Ch (fun k => k = g) w W2) := by rw [← hW2.out]; exact ch_set w g 5 _
    have x6 := B2.out.c6
    dsimp only at x6
    have HE := hide (HP.out _ _ W2 q B2.out K2.out)
    have z4 : (F.kind != 0) = true := by simpa using q4
    rw [q1] at c8
    rw [q2] at c5
    clear q HP B B2
    go_enter Tryz.func222, Tryz.ntmps222
    go_upto_region 9 with fail
    rw [hW2.out]
    clear c5 c6 c7 c8
    go_wp2
    go_ret
    exact HE.out

set_option maxHeartbeats 2000000 in
theorem vbegin_any (w : World) (g : Nat) (S : Nat → Prop) (F : Fs) (fb : List Nat) (fh : List Fh) (bn bc : Nat) (at' : Option Addr) (ct m : Nat) (B : LB w g S F fb fh bn bc at' ct) (hV : GoodV F) (hL : Lim m F) (hm : m ≤ 1073741824) :
    Calls Tryz.prog 154 #[.pointer (some ⟨g, 0, none⟩)] w fun e w' => e = .returned (.int .i64 ((callF F).2.getD 0)) ∧ LB w' g S (callF F).1 fb fh bn bc at' ct ∧ Ch (fun k => k = g) w w' := by
  obtain ⟨W1, hW1⟩ : ∃ W1, Hid (w.setCell ⟨g, 4, none⟩ (.int .i64 (F.n + 1)) = W1) := ⟨_, rfl⟩
  have B1 : Hid (LB W1 g S { F with n := F.n + 1 } fb fh bn bc at' ct) := by rw [← hW1.out]; exact B.setN _
  have K1 : Hid (Ch (fun k => k = g) w W1) := by rw [← hW1.out]; exact ch_set w g 4 _
  have MT := hide (meet_any W1 g S _ fb fh bn bc at' ct B1.out hV.aft)
  rw [← call_meet] at MT
  have hn := hL.n
  have hw : IntKind.i64.wrap (F.n + 1) = F.n + 1 := by rw [IntKind.wrap_i64]; omega
  have c4 := B.c4
  have f4 := B.fz 4
  clear B B1 hV hL
  go_enter Tryz.func154, Tryz.ntmps154
  go_upto_region 2 with fail
  rw [hW1.out]
  clear c4 f4
  go_wp2_with fail
  with_reducible refine MT.out.mono ?_
  rintro e w2 ⟨rfl, h1, h2⟩
  have H1 := hide h1
  have H2 := hide h2
  clear h1 h2 MT
  go_wp2
  go_ret
  exact ⟨rfl, H1.out, K1.out.trans H2.out⟩

theorem isname_any (s : ByteArray) (w : World) (hs : s.size ≤ 9223372036854775807) : Calls Tryz.prog 165 #[.string s] w fun e w' => e = .returned (.bool (mayN s)) ∧ w' = w := by
  by_cases h1 : 1 ≤ s.size
  · by_cases h2 : s.size ≤ 64
    · rw [show mayN s = true by unfold mayN; simp [h1, h2]]
      have d1 : (1 : Int) ≤ (s.size : Int) := by omega
      have d2 : (s.size : Int) ≤ 64 := by omega
      go_enter Tryz.func165, Tryz.ntmps165
      go_wp2
      go_ret
      exact ⟨rfl, rfl⟩
    · rw [show mayN s = false by unfold mayN; simp [h2]]
      have d1 : (1 : Int) ≤ (s.size : Int) := by omega
      have d2 : ¬ (s.size : Int) ≤ 64 := by omega
      go_enter Tryz.func165, Tryz.ntmps165
      go_wp2
      go_ret
      exact ⟨rfl, rfl⟩
  · rw [show mayN s = false by unfold mayN; simp [h1]]
    have d1 : ¬ (1 : Int) ≤ (s.size : Int) := by omega
    go_enter Tryz.func165, Tryz.ntmps165
    go_wp2
    go_ret
    exact ⟨rfl, rfl⟩

theorem mayN_max {s : ByteArray} (h : mayN s = true) : s.size ≤ maxLen := by
  unfold mayN at h
  simp at h
  unfold maxLen
  omega
theorem zeroFl (w : World) : (zeroValue 175).run Tryz.prog w = .ok (.pointer none) w := by kernel_rfl
/-- A look at a name. -/
theorem look_name {w : World} {b n : Nat} {fb : List Nat} {l : List Dn} (h : MapS w b n (nmV fb l)) {s : ByteArray} (hs : s.size ≤ maxLen) :
    (Instr.lookup 134 (.map (some b)) (.string s) true).run Tryz.prog w = .ok (.tuple #[((fileD l s).map (ptrV fb)).getD (.pointer none), .bool (fileD l s).isSome]) w := by
  rw [h.look_ok Tryz.underlying134 (zeroFl w) hs, nmV_some]
  rfl
theorem look_name1 {w : World} {b n : Nat} {fb : List Nat} {l : List Dn} (h : MapS w b n (nmV fb l)) {s : ByteArray} (hs : s.size ≤ maxLen) :
    (Instr.lookup 134 (.map (some b)) (.string s) false).run Tryz.prog w = .ok (((fileD l s).map (ptrV fb)).getD (.pointer none)) w := by
  rw [h.look Tryz.underlying134 (zeroFl w) hs]
  rfl
/-- What find tells. -/
def findV (fb : List Nat) (F : Fs) (s : ByteArray) : Value := if mayN s = false then .tuple #[.pointer none, .int .i64 1] else match fileF F s with
  | none => .tuple #[.pointer none, .int .i64 3]
  | some k => .tuple #[ptrV fb k, .int .i64 0]

set_option maxHeartbeats 2000000 in
theorem lfind_any (w : World) (g : Nat) (S : Nat → Prop) (F : Fs) (fb : List Nat) (fh : List Fh) (bn bc : Nat) (at' : Option Addr) (ct : Nat) (s : ByteArray) (B : LB w g S F fb fh bn bc at' ct) (hs : s.size ≤ 9223372036854775807) :
    Calls Tryz.prog 155 #[.pointer (some ⟨g, 0, none⟩), .string s] w fun e w' => e = .returned (findV fb F s) ∧ w' = w := by
  have IN := hide (isname_any s w hs)
  cases hm : mayN s with
  | false =>
    have HE : Hid (findV fb F s = .tuple #[.pointer none, .int .i64 1]) := by show _ = _; unfold findV; rw [if_pos hm]
    rw [HE.out]
    clear B
    go_enter Tryz.func155, Tryz.ntmps155
    go_wp2_with fail
    with_reducible refine IN.out.mono ?_
    rintro e u ⟨rfl, rfl⟩
    rw [hm]
    go_wp2
    refine bodyPost_ret (v := .tuple #[.pointer none, .int .i64 1]) (by simp [results, Tryz.results155, go_sem]) rfl ?_
    exact ⟨rfl, rfl⟩
  | true =>
    have lk := look_name B.names (mayN_max hm)
    have c0 := B.c0
    have hE : findV fb F s = match fileF F s with
      | none => .tuple #[.pointer none, .int .i64 3]
      | some k => .tuple #[ptrV fb k, .int .i64 0] := by unfold findV; rw [if_neg (by rw [hm]; simp)]
    unfold fileF at hE
    clear B
    cases hf : fileD (dirF F) s with
    | none =>
      rw [hf] at lk hE
      dsimp only [Option.map_none, Option.getD_none, Option.isSome_none] at lk hE
      rw [hE]
      clear hE hf
      go_enter Tryz.func155, Tryz.ntmps155
      go_wp2_with fail
      with_reducible refine IN.out.mono ?_
      rintro e u ⟨rfl, hu⟩
      rw [hu, hm]
      clear hu
      go_wp2
      refine bodyPost_ret (v := .tuple #[.pointer none, .int .i64 3]) (by simp [results, Tryz.results155, go_sem]) rfl ?_
      exact ⟨rfl, rfl⟩
    | some k =>
      rw [hf] at lk hE
      dsimp only [Option.map_some, Option.getD_some, Option.isSome_some] at lk hE
      unfold ptrV at lk hE
      generalize fb.getD k 0 = pk at lk hE
      rw [hE]
      clear hE hf
      go_enter Tryz.func155, Tryz.ntmps155
      go_wp2_with fail
      with_reducible refine IN.out.mono ?_
      rintro e u ⟨rfl, hu⟩
      rw [hu, hm]
      clear hu
      go_wp2
      refine bodyPost_ret (v := .tuple #[.pointer (some ⟨pk, 0, none⟩), .int .i64 0]) (by simp [results, Tryz.results155, go_sem]) rfl ?_
      exact ⟨rfl, rfl⟩

theorem lnew_any (w : World) : Calls Tryz.prog 23 #[] w fun e w' => ∃ g, e = .returned (.pointer (some ⟨g, 0, none⟩)) ∧ MadeV LAt w w' g fs0 := by
  have hmm := @run_makeMap Tryz.prog
  go_enter Tryz.func23, Tryz.ntmps23
  go_wp2
  go_ret
  have s1 : (w.alloc (.map #[] 0)).heap.size = w.heap.size + 1 := by simp
  have s2 : ((w.alloc (.map #[] 0)).alloc (.map #[] 0)).heap.size = w.heap.size + 1 + 1 := by simp
  have m1 := mapS_new w
  have m2 := mapS_new (w.alloc (.map #[] 0))
  rw [s1] at m2
  have b1 : ∀ (u : World) (o : Obj), Below u.heap.size u (u.alloc o) := fun u o => (Below.refl _ _).alloc (Nat.le_refl _) _
  have n0 : ∀ v, MapS v w.heap.size 0 (fun _ => none) → MapS v w.heap.size 0 (nmV [] []) := fun v h => h.congr (fun s => rfl)
  have n1 := (m1.below (b1 _ (.map #[] 0))).below (b1 _ (.cells (lfC fs0 w.heap.size (w.heap.size + 1) none 0) 139))
  have n2 := m2.below (b1 _ (.cells (lfC fs0 w.heap.size (w.heap.size + 1) none 0) 139))
  refine ⟨w.heap.size + 1 + 1, by simp, fun k => w.heap.size ≤ k ∧ k ≤ w.heap.size + 1 + 1, ⟨good0, goodN0, [], [], w.heap.size, w.heap.size + 1, none, 0, ⟨⟨by omega, by omega⟩, fun k hk => by simp; omega, ?_, n0 _ n1, n2.congr (fun s => rfl), by omega, ⟨by omega, by omega⟩, ⟨by omega, by omega⟩, ownG_nil _ _, fun b hb => by simp [Value.ownBlock] at hb, rfl, rfl, fun i h x hi => by simp at hi, fun i h j hi => by simp at hi, fun i i' h h' j _ hi => by simp at hi⟩⟩, fun k hk => hk.1, bel_al (bel_al (bel_al (Below.refl _ _) (Nat.le_refl _) _) (Nat.le_refl _) _) (Nat.le_refl _) _⟩
  have := World.alloc_heap_new ((w.alloc (.map #[] 0)).alloc (.map #[] 0)) (.cells (lfC fs0 w.heap.size (w.heap.size + 1) none 0) 139)
  rwa [s2] at this
theorem nmV_give {fb : List Nat} {l : List Dn} {t : Tn} (ht : OkT1 l t) (hk : t.k = 0) (s : ByteArray) : updF (nmV fb l) t.nm (ptrV fb t.f) s = nmV fb (turnD l t) s := by
  unfold updF nmV
  rw [fileD_turn ht, if_pos hk]
  by_cases e : s = t.nm
  · rw [if_pos e, if_pos e]; rfl
  · rw [if_neg e, if_neg e]
theorem nmV_move {fb : List Nat} {l : List Dn} {t : Tn} (ht : OkT1 l t) (hk : t.k = 1) {f : Nat} (hf : fileD l t.nm = some f) (s : ByteArray) : updF (delF (nmV fb l) t.nm) t.to (ptrV fb f) s = nmV fb (turnD l t) s := by
  unfold updF delF nmV
  rw [fileD_turn ht, if_neg (show ¬ t.k = 0 by omega), if_pos hk, hf]
  by_cases e : s = t.to
  · rw [if_pos e, if_pos e]; rfl
  · rw [if_neg e, if_neg e]
    by_cases q : s = t.nm
    · rw [if_pos q, if_pos q]; rfl
    · rw [if_neg q, if_neg q]
theorem nmV_take {fb : List Nat} {l : List Dn} {t : Tn} (ht : OkT1 l t) (hk : t.k = 2) (s : ByteArray) : delF (nmV fb l) t.nm s = nmV fb (turnD l t) s := by
  unfold delF nmV
  rw [fileD_turn ht, if_neg (show ¬ t.k = 0 by omega), if_neg (show ¬ t.k = 1 by omega)]
  by_cases q : s = t.nm
  · rw [if_pos q, if_pos q]; rfl
  · rw [if_neg q, if_neg q]

set_option maxHeartbeats 4000000 in
theorem ldo_any (w : World) (b n : Nat) (fb : List Nat) (l : List Dn) (t : Tn) (h : MapS w b n (nmV fb l)) (ok : OkT1 l t) (hk : t.k ≤ 2) (hn : n < 1099511627776) :
    Calls Tryz.prog 104 #[.agg (tuV fb t).toArray, .map (some b)] w fun e w' => e = .returned (.tuple #[]) ∧ MapS w' b (n + 1) (nmV fb (turnD l t)) ∧ Ch (fun j => j = b) w w' := by
  obtain ⟨⟨hs1, hs2⟩, -⟩ := id ok
  have hm1 : t.nm.size ≤ maxLen := by unfold maxLen; omega
  have hm2 : t.to.size ≤ maxLen := by unfold maxLen; omega
  have hnm : n < maxLen := by unfold maxLen; omega
  obtain ⟨k, nm, to, f⟩ := t
  dsimp only at hk hs1 hs2 hm1 hm2
  have hk3 : k = 0 ∨ k = 1 ∨ k = 2 := by omega
  rcases hk3 with rfl | rfl | rfl
  · have e0 : tuV fb ⟨0, nm, to, f⟩ = [.int .i64 0, .string .empty, .string nm, .pointer (some ⟨fb.getD f 0, 0, none⟩)] := rfl
    rw [e0]
    obtain ⟨W, hW⟩ : ∃ W, Hid (w.alloc (.cells #[.int .i64 0, .string .empty, .string nm, .pointer (some ⟨fb.getD f 0, 0, none⟩)] 177) = W) := ⟨_, rfl⟩
    have LW : Hid (Below w.heap.size w W) := by rw [← hW.out]; exact (Below.refl _ _).alloc (Nat.le_refl _) _
    have MW := h.below LW.out
    obtain ⟨w1, st, m1, g1⟩ := MW.store Tryz.underlying134 hnm hm1 (ptrV fb f)
    have GO : Hid (MapS w1 b (n + 1) (nmV fb (turnD l ⟨0, nm, to, f⟩)) ∧ Ch (fun j => j = b) w w1) := ⟨m1.congr (nmV_give ok rfl), ((Ch.of_below LW.out).more (fun _ _ h => h.elim)).trans ((Ch.grown g1).more (fun j _ e => (Option.some.inj e).symm))⟩
    unfold ptrV at st
    generalize fb.getD f 0 = pk at *
    clear h ok MW m1 g1 e0
    go_enter Tryz.func104, Tryz.ntmps104
    go_upto_region 3 with fail
    rw [hW.out]
    have x2 : W.cell? ⟨w.heap.size, 2, none⟩ = some (.string nm) := by rw [← hW.out, World.cell?_alloc_mark]; rfl
    have x3 : W.cell? ⟨w.heap.size, 3, none⟩ = some (.pointer (some ⟨pk, 0, none⟩)) := by rw [← hW.out, World.cell?_alloc_mark]; rfl
    clear hW
    go_wp2
    go_end0
    exact ⟨rfl, GO.out⟩
  · have e0 : tuV fb ⟨1, nm, to, f⟩ = [.int .i64 1, .string nm, .string to, .pointer none] := rfl
    rw [e0]
    obtain ⟨W, hW⟩ : ∃ W, Hid (w.alloc (.cells #[.int .i64 1, .string nm, .string to, .pointer none] 177) = W) := ⟨_, rfl⟩
    have LW : Hid (Below w.heap.size w W) := by rw [← hW.out]; exact (Below.refl _ _).alloc (Nat.le_refl _) _
    have MW := h.below LW.out
    obtain ⟨z, hz⟩ := Option.isSome_iff_exists.1 (ok.2.2 rfl).2
    dsimp only at hz
    have lk := look_name1 MW hm1
    rw [hz] at lk
    dsimp only [Option.map_some, Option.getD_some] at lk
    have bs := MW.isMap
    obtain ⟨w1, dr, m1, g1⟩ := MW.drop Tryz.underlying134 hm1 0
    obtain ⟨w2, st, m2, g2⟩ := m1.store Tryz.underlying134 hnm hm2 (ptrV fb z)
    have GO : Hid (MapS w2 b (n + 1) (nmV fb (turnD l ⟨1, nm, to, f⟩)) ∧ Ch (fun j => j = b) w w2) := ⟨m2.congr (nmV_move ok rfl hz), (((Ch.of_below LW.out).more (fun _ _ h => h.elim)).trans ((Ch.grown g1).more (fun j _ e => (Option.some.inj e).symm))).trans ((Ch.grown g2).more (fun j _ e => (Option.some.inj e).symm))⟩
    have hWb : W.heap[w.heap.size]? = some (.cells #[.int .i64 1, .string nm, .string to, .pointer none] 177 (0, 0)) := by rw [← hW.out]; exact heap_alloc_new w _
    have x1 : W.cell? ⟨w.heap.size, 1, none⟩ = some (.string nm) := by rw [cell_of_row W w.heap.size 1 _ _ (0, 0) hWb]; rfl
    have y2 : w1.cell? ⟨w.heap.size, 2, none⟩ = some (.string to) := by
      have hb : w1.heap[w.heap.size]? = W.heap[w.heap.size]? := (Ch.grown g1).block _ (Array.getElem?_eq_some_iff.1 hWb).1 (fun e => by
        obtain rfl := Option.some.inj e
        exact bs.ne ⟨_, _, hWb⟩ rfl)
      rw [cell_of_row w1 w.heap.size 2 _ _ (0, 0) (hb.trans hWb)]; rfl
    unfold ptrV at lk st
    generalize fb.getD z 0 = pk at lk st
    clear h ok MW m1 g1 m2 g2 e0 hz bs hWb
    go_enter Tryz.func104, Tryz.ntmps104
    go_upto_region 5 with fail
    rw [hW.out]
    clear hW
    go_wp2
    go_end0
    exact ⟨rfl, GO.out⟩
  · have e0 : tuV fb ⟨2, nm, to, f⟩ = [.int .i64 2, .string nm, .string to, .pointer none] := rfl
    rw [e0]
    obtain ⟨W, hW⟩ : ∃ W, Hid (w.alloc (.cells #[.int .i64 2, .string nm, .string to, .pointer none] 177) = W) := ⟨_, rfl⟩
    have LW : Hid (Below w.heap.size w W) := by rw [← hW.out]; exact (Below.refl _ _).alloc (Nat.le_refl _) _
    have MW := h.below LW.out
    obtain ⟨w1, dr, m1, g1⟩ := MW.drop Tryz.underlying134 hm1 0
    have GO : Hid (MapS w1 b (n + 1) (nmV fb (turnD l ⟨2, nm, to, f⟩)) ∧ Ch (fun j => j = b) w w1) := ⟨(m1.congr (nmV_take ok rfl)).mono (by omega), ((Ch.of_below LW.out).more (fun _ _ h => h.elim)).trans ((Ch.grown g1).more (fun j _ e => (Option.some.inj e).symm))⟩
    have x1 : W.cell? ⟨w.heap.size, 1, none⟩ = some (.string nm) := by rw [← hW.out, World.cell?_alloc_mark]; rfl
    clear h ok MW m1 g1 e0
    go_enter Tryz.func104, Tryz.ntmps104
    go_upto_region 9 with fail
    rw [hW.out]
    clear hW
    go_wp2
    go_end0
    exact ⟨rfl, GO.out⟩
theorem Tryz.infoTu : (Tryz.prog.info? 177).map (fun i => (i.zero, i.size, i.bytes)) = some (some (.agg #[.int .i64 0, .string .empty, .string .empty, .pointer none]), 4, 48) := by kernel_rfl
theorem GoodV.turn {F : Fs} (h : GoodV F) {t : Tn} (ht : t.k ≤ 2 ∧ (t.k = 0 → t.f < F.files.length)) : GoodV { F with turns := F.turns ++ [t] } := by
  refine ⟨h.sure, fun x hx => ?_, h.cuts, h.byte, h.aft, h.knd⟩
  rcases List.mem_append.1 hx with e | e
  · exact h.turns x e
  · obtain rfl := List.mem_singleton.1 e
    exact ht
theorem dirF_snoc (F : Fs) (t : Tn) : dirF { F with turns := F.turns ++ [t] } = turnD (dirF F) t := by
  unfold dirF turnsD
  rw [List.foldl_append]
  rfl
/-- A turn more. -/
theorem LB.change {w wA u4 : World} {g : Nat} {S : Nat → Prop} {F : Fs} {fb : List Nat} {fh : List Fh} {bn bc : Nat} {at' : Option Addr} {ct : Nat} (B : LB w g S F fb fh bn bc at' ct) (hN : GoodN F) {t : Tn} (ht : OkT1 (dirF F) t) (kA : Ch (fun j => j = bn) w wA) {n : Nat} (mA : MapS wA bn n (nmV fb (turnD (dirF F) t)))
    {N g' c' : Nat} (hNT : F.turns.length = N) (o : OwnTu fb u4 0 (some ⟨g', 0, none⟩) (N + 1) c' (F.turns ++ [t])) (gr : Ch (fun j => (Value.slice at' N ct).ownBlock = some j) wA u4) (lies : (Value.slice at' N ct).ownBlock = some g' ∨ w.heap.size ≤ g') :
    LB (u4.setCell ⟨g, 2, none⟩ (.slice (some ⟨g', 0, none⟩) (N + 1) c')) g (fun j => S j ∨ (w.heap.size ≤ j ∧ j < u4.heap.size)) { F with turns := F.turns ++ [t] } fb fh bn bc (some ⟨g', 0, none⟩) c' ∧ Ch S w (u4.setCell ⟨g, 2, none⟩ (.slice (some ⟨g', 0, none⟩) (N + 1) c')) := by
  subst hNT
  have hl : (F.turns ++ [t]).length = F.turns.length + 1 := by simp
  rw [← hl] at o ⊢
  have hb : g' < u4.heap.size := (OwnG.cellsT o g' rfl).1.lt
  have hbn := B.names.isMap
  have k4 : Ch (fun j => j = bn ∨ (Value.slice at' F.turns.length ct).ownBlock = some j) w u4 := (kA.more (fun _ _ e => Or.inl e)).trans (gr.more (fun _ _ e => Or.inr e))
  have ks : Ch (fun j => j = g) u4 (u4.setCell ⟨g, 2, none⟩ (.slice (some ⟨g', 0, none⟩) (F.turns ++ [t]).length c')) := ch_set u4 g 2 _
  have hg4 : u4.heap[g]? = some (.cells (lfC F bn bc at' ct) 139 (0, 0)) := (k4.block g (B.lt g B.own) (fun e => by
    rcases e with e | e
    · exact hbn.ne B.cellsT e.symm
    · exact (OwnG.cellsT B.turns g e).1.ne B.cellsT (by decide) rfl)).trans B.str
  have cg4 : CellsT u4 g 139 := ⟨_, _, hg4⟩
  have kall : Ch (fun j => j = bn ∨ (Value.slice at' F.turns.length ct).ownBlock = some j ∨ j = g) w (u4.setCell ⟨g, 2, none⟩ (.slice (some ⟨g', 0, none⟩) (F.turns ++ [t]).length c')) := (k4.more (fun _ _ e => e.elim Or.inl (fun e => Or.inr (Or.inl e)))).trans (ks.more (fun _ _ e => Or.inr (Or.inr e)))
  refine ⟨⟨Or.inl B.own, ?_, ?_, ?_, ?_, B.ne, Or.inl B.bnS, Or.inl B.bcS, ?_, ?_, B.fbs, B.len, ?_, fun i h j hi hj => Or.inl (B.filesS i h j hi hj), B.apart⟩, kall.more (fun j _ e => ?_)⟩
  · rintro j (e | e)
    · exact Nat.lt_of_lt_of_le (B.lt j e) kall.size
    · exact Nat.lt_of_lt_of_le e.2 ks.size
  · rw [heap_setCell_same u4 g 2 _ _ _ hg4]
    rfl
  · rw [dirF_snoc]
    have m4 := (mA.ch gr (fun e => by
      have c1 := (OwnG.cellsT B.turns bn e).1
      exact hbn.ne c1 rfl)).ch ks (fun e => hbn.ne B.cellsT e)
    exact m4.tightD (hN.dir.turn ht)
  · exact B.certain.ch kall (fun e => by
      rcases e with e | e | e
      · exact B.ne e.symm
      · exact B.certain.isMap.ne (OwnG.cellsT B.turns bc e).1 rfl
      · exact B.certain.isMap.ne B.cellsT e)
  · exact OwnG.ch o ks (fun b hb => (OwnG.cellsT o b hb).1.ne cg4 (by decide))
  · intro b hb2
    simp [Value.ownBlock] at hb2
    subst hb2
    rcases lies with e | e
    · exact Or.inl (B.turnsS _ e)
    · exact Or.inr ⟨e, hb⟩
  · intro i h x hi hx
    have m := B.files i h x hi hx
    exact m.ch kall (fun j hj e => by
      rcases e with e | e | e
      · exact hbn.ne3 (m.kind hj) e.symm
      · exact ne_ty3 (OwnG.cellsT B.turns j e).1 (m.kind hj) (by decide) (by decide) (by decide) rfl
      · exact ne_ty3 B.cellsT (m.kind hj) (by decide) (by decide) (by decide) e.symm)
  · rcases e with e | e | e
    · exact e ▸ B.bnS
    · exact B.turnsS j e
    · exact e ▸ B.own
theorem tu_cells (w : World) (fb : List Nat) (t : Tn) (e : TypeId) : ∀ j u, (tuV fb t)[j]? = some u → (w.alloc (.cells (tuV fb t).toArray e)).cell? ((⟨w.heap.size, 0, none⟩ : Addr).add j) = some u := by
  intro j u h
  unfold tuV at h ⊢
  split at h
  · rename_i hk
    rw [if_pos hk]
    match j, h with
    | 0, h => simp at h; subst h; rw [Addr.add_lit, World.cell?_alloc_mark]; rfl
    | 1, h => simp at h; subst h; rw [Addr.add_lit, World.cell?_alloc_mark]; rfl
    | 2, h => simp at h; subst h; rw [Addr.add_lit, World.cell?_alloc_mark]; rfl
    | 3, h => simp at h; subst h; rw [Addr.add_lit, World.cell?_alloc_mark]; rfl
  · rename_i hk
    rw [if_neg hk]
    match j, h with
    | 0, h => simp at h; subst h; rw [Addr.add_lit, World.cell?_alloc_mark]; rfl
    | 1, h => simp at h; subst h; rw [Addr.add_lit, World.cell?_alloc_mark]; rfl
    | 2, h => simp at h; subst h; rw [Addr.add_lit, World.cell?_alloc_mark]; rfl
    | 3, h => simp at h; subst h; rw [Addr.add_lit, World.cell?_alloc_mark]; rfl
/-- A turn by its four words. -/
theorem tuV_four (fb : List Nat) (t : Tn) : ∃ (k : Int) (a b : ByteArray) (p : Option Addr), tuV fb t = [.int .i64 k, .string a, .string b, .pointer p] := by
  unfold tuV ptrV
  split
  · exact ⟨_, _, _, _, rfl⟩
  · exact ⟨_, _, _, _, rfl⟩

set_option maxHeartbeats 4000000 in
theorem lchange_any (w : World) (g : Nat) (S : Nat → Prop) (F : Fs) (fb : List Nat) (fh : List Fh) (bn bc : Nat) (at' : Option Addr) (ct m : Nat) (t : Tn) (B : LB w g S F fb fh bn bc at' ct) (hN : GoodN F) (hL : Lim m F) (hm : m ≤ 1073741825) (ht : OkT1 (dirF F) t) (hk : t.k ≤ 2) :
    Calls Tryz.prog 220 #[.pointer (some ⟨g, 0, none⟩), .agg (tuV fb t).toArray] w fun e w' => e = .returned (.tuple #[]) ∧ ∃ S' a' c', LB w' g S' { F with turns := F.turns ++ [t] } fb fh bn bc a' c' ∧ (∀ k, S' k → S k ∨ w.heap.size ≤ k) ∧ Ch S w w' := by
  obtain ⟨i1, hi1, hz10, hz11, hz12⟩ := info_parts Tryz.infoTu
  have hdl : (dirF F).length < 1099511627776 := by
    have := turnsD_len F.turns F.sure
    have h1 := hL.sure
    have h2 := hL.turns
    unfold dirF
    omega
  obtain ⟨NT, hNT⟩ : ∃ NT, Hid (F.turns.length = NT) := ⟨_, rfl⟩
  have hNTb : NT ≤ 1073741825 := by have := hL.turns; have := hNT.out; omega
  have OK := hide ht
  have HN := hide hN
  have RV := hide B
  have DO := hide (fun u (hu : MapS u bn (dirF F).length (nmV fb (dirF F))) => ldo_any u bn (dirF F).length fb (dirF F) t hu ht hk hdl)
  have OT := hide B.turns
  rw [hNT.out] at OT
  have x0 := B.c0
  have x2 := B.c2
  rw [hNT.out] at x2
  obtain ⟨W, hW⟩ : ∃ W, Hid (w.alloc (.cells (tuV fb t).toArray 177) = W) := ⟨_, rfl⟩
  have NC0 := hide (tu_cells w fb t 177)
  rw [hW.out] at NC0
  have LW : Hid (Below w.heap.size w W) := by rw [← hW.out]; exact (Below.refl _ _).alloc (Nat.le_refl _) _
  have hWb : Hid (W.heap[w.heap.size]? = some (.cells (tuV fb t).toArray 177 (0, 0))) := by rw [← hW.out]; exact heap_alloc_new w _
  have TL := hide (tuV_one1 fb t)
  have TLn := hide (tuV_len fb t)
  obtain ⟨tk, tf, tt, tp, e0⟩ := tuV_four fb t
  have E0 := hide e0
  rw [e0] at hWb hW NC0 DO
  have X0 : Hid (∀ u, Below w.heap.size w u → u.cell? ⟨g, 0, none⟩ = some (.map (some bn))) := fun u hu => (hu.cell (p := ⟨g, 0, none⟩) (World.block_lt_of_cell? w _ x0)).trans x0
  have hwW : Hid (w.heap.size < W.heap.size) := (Array.getElem?_eq_some_iff.1 hWb.out).1
  have KB : Hid (∀ u : World, u.heap[w.heap.size]? = W.heap[w.heap.size]? → u.cell? ⟨w.heap.size, 0, none⟩ = some (.int .i64 tk) ∧ u.cell? ⟨w.heap.size, 1, none⟩ = some (.string tf) ∧ u.cell? ⟨w.heap.size, 2, none⟩ = some (.string tt) ∧ u.cell? ⟨w.heap.size, 3, none⟩ = some (.pointer tp)) := fun u hu => by
    have e := hu.trans hWb.out
    exact ⟨by rw [cell_of_row u w.heap.size 0 _ _ (0, 0) e]; rfl, by rw [cell_of_row u w.heap.size 1 _ _ (0, 0) e]; rfl, by rw [cell_of_row u w.heap.size 2 _ _ (0, 0) e]; rfl, by rw [cell_of_row u w.heap.size 3 _ _ (0, 0) e]; rfl⟩
  have nb : Hid (w.heap.size ≠ bn) := fun e => by have := B.names.lt; omega
  have SB := hide (KB.out W rfl)
  have ng := hide (B.lt g B.own)
  have MW := hide (B.names.below LW.out)
  rw [e0]
  clear B hN hL ht hdl x0 e0
  go_enter Tryz.func220, Tryz.ntmps220
  go_upto_region 1 with fail
  rw [hW.out]
  clear hW
  have SW : W.cell? ⟨g, 0, none⟩ = some (.map (some bn)) ∧ (W.cell? ⟨w.heap.size, 0, none⟩ = some (.int .i64 tk) ∧ W.cell? ⟨w.heap.size, 1, none⟩ = some (.string tf) ∧ W.cell? ⟨w.heap.size, 2, none⟩ = some (.string tt) ∧ W.cell? ⟨w.heap.size, 3, none⟩ = some (.pointer tp)) := ⟨X0.out W LW.out, SB.out⟩
  refine wp_region_held_drew (S := fun u => u.cell? ⟨g, 0, none⟩ = some (.map (some bn)) ∧ (u.cell? ⟨w.heap.size, 0, none⟩ = some (.int .i64 tk) ∧ u.cell? ⟨w.heap.size, 1, none⟩ = some (.string tf) ∧ u.cell? ⟨w.heap.size, 2, none⟩ = some (.string tt) ∧ u.cell? ⟨w.heap.size, 3, none⟩ = some (.pointer tp))) (by kernel_rfl) SW (fun hHeld => ?_)
  refine held_tk 0 (some 4) rfl rfl ?_
  refine held_tk 1 (some 5) rfl rfl ?_
  refine held_tk 2 (some 6) rfl rfl ?_
  refine held_tk 3 (some 7) rfl rfl ?_
  refine held_tk 4 (some 8) rfl rfl ?_
  refine held_next (i := 5) (by kernel_rfl) rfl (by rfl) (fun K1 hK1 => ?_)
  go_simp
  with_reducible refine (DO.out _ MW.out.drew).mono ?_
  rintro e wA ⟨rfl, mA, kA⟩
  have KA : Hid (Ch (fun j => j = bn) w wA) := ((Ch.of_below LW.out.drew).more (fun _ _ h => h.elim)).trans kA
  have MA := hide mA
  have SzA : Hid (W.heap.size ≤ wA.heap.size) := kA.size
  have BA : Hid (wA.heap[w.heap.size]? = W.heap[w.heap.size]?) := kA.block _ hwW.out nb.out
  have CA := KB.out wA BA.out
  have XA : wA.cell? ⟨g, 0, none⟩ = some (.map (some bn)) := by
    have h := KA.out.block g ng.out (fun e => RV.out.names.isMap.ne RV.out.cellsT e.symm)
    rw [cell_of_row wA g 0 _ _ (0, 0) (h.trans RV.out.str)]; rfl
  clear mA kA DO MW
  go_wp2_with fail
  refine hK1.out _ _ ⟨XA, CA⟩ ?_
  clear hK1 hHeld XA SW
  refine wpAnyH_done (by kernel_rfl) ?_ _
  go_upto_region 2 with fail
  have OTA : Hid (OwnTu fb wA 0 at' NT ct F.turns) := OwnG.ch OT.out KA.out (fun b hb e => RV.out.names.isMap.ne (OwnG.cellsT OT.out b hb).1 e.symm)
  have y2 : wA.cell? ⟨g, 2, none⟩ = some (.slice at' NT ct) := by
    have h := KA.out.block g ng.out (fun e => RV.out.names.isMap.ne RV.out.cellsT e.symm)
    rw [cell_of_row wA g 2 _ _ (0, 0) (h.trans RV.out.str), ← hNT.out]; rfl
  have FG : Hid (wA.heap[g]? = some (.cells (lfC F bn bc at' ct) 139 (0, 0))) := (KA.out.block g ng.out (fun e => RV.out.names.isMap.ne RV.out.cellsT e.symm)).trans RV.out.str
  refine wp_region_held_drew (S := fun u => u.cell? ⟨w.heap.size, 0, none⟩ = some (.int .i64 tk) ∧ u.cell? ⟨w.heap.size, 1, none⟩ = some (.string tf) ∧ u.cell? ⟨w.heap.size, 2, none⟩ = some (.string tt) ∧ u.cell? ⟨w.heap.size, 3, none⟩ = some (.pointer tp)) (by kernel_rfl) CA (fun hHeld => ?_)
  refine held_tk 0 (some 10) rfl rfl ?_
  refine held_tk 1 (some 11) rfl rfl ?_
  refine held_tk 2 (some 12) rfl rfl ?_
  refine held_tk 3 (some 13) rfl rfl ?_
  refine held_tk 5 (some 15) rfl rfl ?_
  obtain ⟨u6, hu6⟩ : ∃ u6, Hid ((wA.alloc (.cells #[.int .i64 tk, .string tf, .string tt, .pointer tp] 177)).drew = u6) := ⟨_, rfl⟩
  have B4 : Hid (Below wA.heap.size wA u6) := by rw [← hu6.out]; exact (bel_al (Below.refl _ _) (Nat.le_refl _) _).drew
  have OT4 : Hid (OwnTu fb u6 0 at' NT ct F.turns) := OwnG.below OTA.out B4.out (Nat.le_refl _)
  have NC4 : Hid (∀ j u, (tuV fb t)[j]? = some u → u6.cell? ((⟨wA.heap.size, 0, none⟩ : Addr).add j) = some u) := by
    rw [← hu6.out]
    have := tu_cells wA fb t 177
    rw [E0.out] at this ⊢
    exact this
  have v2 : u6.cell? ⟨g, 2, none⟩ = some (.slice at' NT ct) := (B4.out.cell (p := ⟨g, 2, none⟩) (World.block_lt_of_cell? wA _ y2)).trans y2
  have KU : Hid (∀ u, Ch (fun j => (Value.slice at' NT ct).ownBlock = some j) wA u → (u.cell? ⟨w.heap.size, 0, none⟩ = some (.int .i64 tk) ∧ u.cell? ⟨w.heap.size, 1, none⟩ = some (.string tf) ∧ u.cell? ⟨w.heap.size, 2, none⟩ = some (.string tt) ∧ u.cell? ⟨w.heap.size, 3, none⟩ = some (.pointer tp)) ∧ u.cell? ⟨g, 2, none⟩ = some (.slice at' NT ct) ∧ u.frozen? ⟨g, 2, none⟩ = false) := fun u hu => by
    have h1 := hu.block w.heap.size (Nat.lt_of_lt_of_le hwW.out SzA.out) (fun e => by have := (OwnG.cellsT OT.out _ e).1.lt; omega)
    have h2 := hu.block g (Array.getElem?_eq_some_iff.1 FG.out).1 (fun e => (OwnG.cellsT OTA.out g e).1.ne ⟨_, _, FG.out⟩ (by decide) rfl)
    refine ⟨KB.out u (h1.trans BA.out), ?_, frozen_of_row u g 2 _ _ (h2.trans FG.out)⟩
    rw [cell_of_row u g 2 _ _ (0, 0) (h2.trans FG.out), ← hNT.out]; rfl
  have BU := (KU.out u6 ((Ch.of_below B4.out).more (fun _ _ h => h.elim))).1
  have FIN : Hid (∀ (gC cC : Nat) (wC : World), wC.ownsRow 0 177 4 (.slice (some ⟨gC, 0, none⟩) (NT + 1) cC) (NT + 1) (F.turns.flatMap (tuV fb) ++ tuV fb t) → Ch (fun j => (Value.slice at' NT ct).ownBlock = some j) wA wC → ((Value.slice at' NT ct).ownBlock = some gC ∨ w.heap.size ≤ gC) →
      ∃ S' a' c', LB (wC.setCell ⟨g, 2, none⟩ (.slice (some ⟨gC, 0, none⟩) (NT + 1) cC)) g S' { F with turns := F.turns ++ [t] } fb fh bn bc a' c' ∧ (∀ k, S' k → S k ∨ w.heap.size ≤ k) ∧ Ch S w (wC.setCell ⟨g, 2, none⟩ (.slice (some ⟨gC, 0, none⟩) (NT + 1) cC))) := fun gC cC wC oC kC lC => by
    obtain ⟨q1, q2⟩ := RV.out.change HN.out OK.out KA.out MA.out hNT.out (u4 := wC) (g' := gC) (c' := cC) (by
      show OwnG _ _ _ _ _ _ _ _ _
      unfold OwnG
      rw [List.flatMap_append, List.flatMap_cons, List.flatMap_nil, List.append_nil]
      exact oC) kC lC
    exact ⟨_, _, _, q1, fun k hk => hk.elim Or.inl (fun h => Or.inr h.1), q2⟩
  have SZA : Hid (w.heap.size ≤ wA.heap.size) := KA.out.size
  clear HN OK KA MA
  have CX := CA
  refine held_pair (i := 4) (j := 6) (by kernel_rfl) rfl (by rfl) rfl (by rfl) (fun K1 hK1 => ?_) (fun K1 hK1 => ?_)
  · go_simp
    refine hK1.out _ _ CX ?_
    clear hK1
    refine held_next (i := 6) (by kernel_rfl) rfl (by rfl) (fun K1 hK1 => ?_)
    go_simp
    rw [hu6.out]
    refine hK1.out _ _ BU ?_
    clear hK1
    refine held_next (i := 7) (by kernel_rfl) rfl (by rfl) (fun K1 hK1 => ?_)
    refine wp_append_lies _ (.tmp 14) (.tmp 16) 135 rfl 0 177 i1 (.agg #[.int .i64 0, .string .empty, .string .empty, .pointer none]) 4 48 Tryz.underlying135 hi1 hz10 hz11 hz12 rfl (by decide) (.slice at' NT ct) NT (F.turns.flatMap (tuV fb)) rfl OT4.out ⟨wA.heap.size, 0, none⟩ 1 1 (tuV fb t) rfl TLn.out NC4.out TL.out (by omega) (by unfold maxLen; omega) (by omega) (Nat.zero_le _) _ rfl ?_
    intro gC cC wC oC grC atC ltC
    have GR : Hid (Ch (fun j => (Value.slice at' NT ct).ownBlock = some j) wA wC) := ((Ch.of_below B4.out).more (fun _ _ h => h.elim)).trans (Ch.grown grC)
    have GRX := hide (FIN.out gC cC wC oC GR.out (by
      rcases atC with e | e
      · exact Or.inl e
      · exact Or.inr (by rw [e]; exact Nat.le_trans SZA.out B4.out.size)))
    obtain ⟨kc1, kc2, kc3⟩ := KU.out wC GR.out
    have KC3 := hide (KU.out wC GR.out).1
    have KS : Hid ((wC.setCell ⟨g, 2, none⟩ (.slice (some ⟨gC, 0, none⟩) (NT + 1) cC)).cell? ⟨w.heap.size, 0, none⟩ = some (.int .i64 tk) ∧ (wC.setCell ⟨g, 2, none⟩ (.slice (some ⟨gC, 0, none⟩) (NT + 1) cC)).cell? ⟨w.heap.size, 1, none⟩ = some (.string tf) ∧ (wC.setCell ⟨g, 2, none⟩ (.slice (some ⟨gC, 0, none⟩) (NT + 1) cC)).cell? ⟨w.heap.size, 2, none⟩ = some (.string tt) ∧ (wC.setCell ⟨g, 2, none⟩ (.slice (some ⟨gC, 0, none⟩) (NT + 1) cC)).cell? ⟨w.heap.size, 3, none⟩ = some (.pointer tp)) := by
      have hne : ∀ i j : Nat, (⟨g, i, none⟩ : Addr) ≠ ⟨w.heap.size, j, none⟩ := fun i j e => by have h1 : g = w.heap.size := congrArg Addr.block e; have := ng.out; omega
      refine ⟨?_, ?_, ?_, ?_⟩
      · rw [World.cell?_setCell_other _ _ _ _ (hne _ _)]; exact kc1.1
      · rw [World.cell?_setCell_other _ _ _ _ (hne _ _)]; exact kc1.2.1
      · rw [World.cell?_setCell_other _ _ _ _ (hne _ _)]; exact kc1.2.2.1
      · rw [World.cell?_setCell_other _ _ _ _ (hne _ _)]; exact kc1.2.2.2
    clear oC grC atC ltC GR FIN OT4 NC4 hu6
    go_simp
    refine hK1.out _ _ KC3.out ?_
    clear hK1
    refine held_tk 8 (some 18) rfl rfl ?_
    refine held_tk 9 (some 19) rfl rfl ?_
    refine held_next (i := 10) (by kernel_rfl) rfl (by rfl) (fun K1 hK1 => ?_)
    go_simp
    refine hK1.out _ _ KS.out ?_
    clear hK1 hHeld
    refine wpAnyH_done (by kernel_rfl) ?_ _
    go_wp2
    go_end0
    exact ⟨rfl, GRX.out⟩
  · go_simp
    rw [hu6.out]
    refine hK1.out _ _ BU ?_
    clear hK1
    refine held_next (i := 4) (by kernel_rfl) rfl (by rfl) (fun K1 hK1 => ?_)
    go_simp
    refine hK1.out _ _ BU ?_
    clear hK1
    refine held_next (i := 7) (by kernel_rfl) rfl (by rfl) (fun K1 hK1 => ?_)
    refine wp_append_lies _ (.tmp 14) (.tmp 16) 135 rfl 0 177 i1 (.agg #[.int .i64 0, .string .empty, .string .empty, .pointer none]) 4 48 Tryz.underlying135 hi1 hz10 hz11 hz12 rfl (by decide) (.slice at' NT ct) NT (F.turns.flatMap (tuV fb)) rfl OT4.out ⟨wA.heap.size, 0, none⟩ 1 1 (tuV fb t) rfl TLn.out NC4.out TL.out (by omega) (by unfold maxLen; omega) (by omega) (Nat.zero_le _) _ rfl ?_
    intro gC cC wC oC grC atC ltC
    have GR : Hid (Ch (fun j => (Value.slice at' NT ct).ownBlock = some j) wA wC) := ((Ch.of_below B4.out).more (fun _ _ h => h.elim)).trans (Ch.grown grC)
    have GRX := hide (FIN.out gC cC wC oC GR.out (by
      rcases atC with e | e
      · exact Or.inl e
      · exact Or.inr (by rw [e]; exact Nat.le_trans SZA.out B4.out.size)))
    obtain ⟨kc1, kc2, kc3⟩ := KU.out wC GR.out
    have KC3 := hide (KU.out wC GR.out).1
    have KS : Hid ((wC.setCell ⟨g, 2, none⟩ (.slice (some ⟨gC, 0, none⟩) (NT + 1) cC)).cell? ⟨w.heap.size, 0, none⟩ = some (.int .i64 tk) ∧ (wC.setCell ⟨g, 2, none⟩ (.slice (some ⟨gC, 0, none⟩) (NT + 1) cC)).cell? ⟨w.heap.size, 1, none⟩ = some (.string tf) ∧ (wC.setCell ⟨g, 2, none⟩ (.slice (some ⟨gC, 0, none⟩) (NT + 1) cC)).cell? ⟨w.heap.size, 2, none⟩ = some (.string tt) ∧ (wC.setCell ⟨g, 2, none⟩ (.slice (some ⟨gC, 0, none⟩) (NT + 1) cC)).cell? ⟨w.heap.size, 3, none⟩ = some (.pointer tp)) := by
      have hne : ∀ i j : Nat, (⟨g, i, none⟩ : Addr) ≠ ⟨w.heap.size, j, none⟩ := fun i j e => by have h1 : g = w.heap.size := congrArg Addr.block e; have := ng.out; omega
      refine ⟨?_, ?_, ?_, ?_⟩
      · rw [World.cell?_setCell_other _ _ _ _ (hne _ _)]; exact kc1.1
      · rw [World.cell?_setCell_other _ _ _ _ (hne _ _)]; exact kc1.2.1
      · rw [World.cell?_setCell_other _ _ _ _ (hne _ _)]; exact kc1.2.2.1
      · rw [World.cell?_setCell_other _ _ _ _ (hne _ _)]; exact kc1.2.2.2
    clear oC grC atC ltC GR FIN OT4 NC4 hu6
    go_simp
    refine hK1.out _ _ KC3.out ?_
    clear hK1
    refine held_tk 8 (some 18) rfl rfl ?_
    refine held_tk 9 (some 19) rfl rfl ?_
    refine held_next (i := 10) (by kernel_rfl) rfl (by rfl) (fun K1 hK1 => ?_)
    go_simp
    refine hK1.out _ _ KS.out ?_
    clear hK1 hHeld
    refine wpAnyH_done (by kernel_rfl) ?_ _
    go_wp2
    go_end0
    exact ⟨rfl, GRX.out⟩
theorem nmV_more {fb : List Nat} {l : List Dn} {m : Nat} (h : FilesIn m l) (hl : fb.length = m) (b : Nat) (s : ByteArray) : nmV fb l s = nmV (fb ++ [b]) l s := by
  unfold nmV
  cases hf : fileD l s with
  | none => rfl
  | some k =>
    have := fileD_in h hf
    simp only [Option.map_some]
    unfold ptrV
    rw [List.getD_eq_getElem?_getD, List.getD_eq_getElem?_getD, List.getElem?_append_left (by omega)]
theorem tuV_more {fb : List Nat} {t : Tn} {m : Nat} (h : t.k = 0 → t.f < m) (hl : fb.length = m) (b : Nat) : tuV fb t = tuV (fb ++ [b]) t := by
  unfold tuV
  split
  · rename_i hk
    have := h hk
    unfold ptrV
    rw [List.getD_eq_getElem?_getD, List.getD_eq_getElem?_getD, List.getElem?_append_left (by omega)]
  · rfl
/-- A file more. -/
theorem LB.born {w u : World} {g : Nat} {S : Nat → Prop} {F : Fs} {fb : List Nat} {fh : List Fh} {bn bc : Nat} {at' : Option Addr} {ct : Nat} (B : LB w g S F fb fh bn bc at' ct) (hV : GoodV F) {h : Fh} {x : Fi} (k : Ch (fun j => j = g) w u)
    (hstr : u.heap[g]? = some (.cells #[.map (some bn), .map (some bc), .slice at' F.turns.length ct, .int .i64 ((F.files.length : Int) + 1), .int .i64 F.n, .bool F.armed, .int .i64 F.kind, .int .i64 F.after, .bool F.dark] 139 (0, 0)))
    (mx : FlM u h F.files.length x) (hnew : ∀ j, SFh h j → ¬ S j) :
    LB u g (fun j => S j ∨ SFh h j) { F with files := F.files ++ [x] } (fb ++ [h.b]) (fh ++ [h]) bn bc at' ct := by
  have hfb : fb.length = F.files.length := by rw [← B.fbs, List.length_map, B.len]
  have hD : FilesIn F.files.length (dirF F) := hV.dir
  refine ⟨Or.inl B.own, ?_, ?_, ?_, ?_, B.ne, Or.inl B.bnS, Or.inl B.bcS, ?_, fun b hb => Or.inl (B.turnsS b hb), ?_, ?_, ?_, ?_, ?_⟩
  · rintro j (e | e)
    · exact Nat.lt_of_lt_of_le (B.lt j e) k.size
    · exact mx.lt e
  · rw [hstr]
    unfold lfC
    dsimp only
    rw [List.length_append]
    rfl
  · exact (B.names.ch k (B.names.isMap.ne B.cellsT)).congr (nmV_more hD hfb h.b)
  · exact (B.certain.ch k (B.certain.isMap.ne B.cellsT)).congr (nmV_more hV.sure hfb h.b)
  · have o := OwnG.ch B.turns k (fun b hb => (OwnG.cellsT B.turns b hb).1.ne B.cellsT (by decide))
    show OwnG _ _ _ _ _ _ _ _ _
    unfold OwnG at o ⊢
    rwa [show F.turns.flatMap (tuV fb) = F.turns.flatMap (tuV (fb ++ [h.b])) from by
      unfold List.flatMap
      rw [List.map_congr_left (fun t ht => tuV_more (hV.turns t ht).2 hfb h.b)]] at o
  · rw [List.map_append, B.fbs]; rfl
  · dsimp only
    rw [List.length_append, List.length_append, B.len]; rfl
  · intro i y z hi hz
    dsimp only at hz
    by_cases e : i < F.files.length
    · rw [List.getElem?_append_left (by rw [B.len]; exact e)] at hi
      rw [List.getElem?_append_left e] at hz
      have m := B.files i y z hi hz
      exact m.ch k (fun j hj => (ne_ty3 B.cellsT (m.kind hj) (by decide) (by decide) (by decide)).symm)
    · rw [List.getElem?_append_right (by rw [B.len]; omega), List.getElem?_singleton] at hi
      rw [List.getElem?_append_right (by omega), List.getElem?_singleton] at hz
      split at hz
      · rename_i q
        obtain rfl : i = F.files.length := by omega
        rw [if_pos (by rw [B.len]; omega)] at hi
        obtain rfl := Option.some.inj hi
        obtain rfl := Option.some.inj hz
        exact mx
      · cases hz
  · intro i y j hi hj
    by_cases e : i < fh.length
    · rw [List.getElem?_append_left e] at hi
      exact Or.inl (B.filesS i y j hi hj)
    · rw [List.getElem?_append_right (by omega), List.getElem?_singleton] at hi
      split at hi
      · obtain rfl := Option.some.inj hi
        exact Or.inr hj
      · cases hi
  · intro i i' y y' j hii hi hi' hj hj'
    by_cases e : i < fh.length
    · rw [List.getElem?_append_left e] at hi
      by_cases e2 : i' < fh.length
      · rw [List.getElem?_append_left e2] at hi'
        exact B.apart i i' y y' j hii hi hi' hj hj'
      · rw [List.getElem?_append_right (by omega), List.getElem?_singleton] at hi'
        split at hi'
        · obtain rfl := Option.some.inj hi'
          exact hnew j hj' (B.filesS i y j hi hj)
        · cases hi'
    · rw [List.getElem?_append_right (by omega), List.getElem?_singleton] at hi
      split at hi
      · obtain rfl := Option.some.inj hi
        by_cases e2 : i' < fh.length
        · rw [List.getElem?_append_left e2] at hi'
          exact hnew j hj (B.filesS i' y' j hi' hj')
        · rw [List.getElem?_append_right (by omega), List.getElem?_singleton] at hi'
          split at hi'
          · omega
          · cases hi'
      · cases hi

set_option maxHeartbeats 4000000 in
theorem lbear_any (w : World) (g : Nat) (S : Nat → Prop) (F : Fs) (fb : List Nat) (fh : List Fh) (bn bc : Nat) (at' : Option Addr) (ct m : Nat) (d : H3) (bs : List Int) (B : LB w g S F fb fh bn bc at' ct) (hV : GoodV F) (hL : Lim m F) (hm : m ≤ 1073741825) (hd : OwnVb w 0 d.1 d.2.1 d.2.2 bs) (hdS : ∀ j, (h3V d).ownBlock = some j → ¬ S j) :
    Calls Tryz.prog 167 #[.pointer (some ⟨g, 0, none⟩), .slice d.1 d.2.1 d.2.2] w fun e w' => ∃ h : Fh, e = .returned (.pointer (some ⟨h.b, 0, none⟩)) ∧ w.heap.size ≤ h.b ∧ LB w' g (fun j => S j ∨ SFh h j) { F with files := F.files ++ [⟨bs, []⟩] } (fb ++ [h.b]) (fh ++ [h]) bn bc at' ct ∧ (∀ j, SFh h j → w.heap.size ≤ j ∨ (h3V d).ownBlock = some j) ∧ Ch (fun j => j = g) w w' := by
  obtain ⟨da, dn, dc⟩ := d
  dsimp only at hd
  have c3 := B.c3
  have f3 := B.fz 3
  have hfl := hL.files
  obtain ⟨W1, hW1⟩ : ∃ W1, Hid (w.setCell ⟨g, 3, none⟩ (.int .i64 ((F.files.length : Int) + 1)) = W1) := ⟨_, rfl⟩
  have K1 : Hid (Ch (fun k => k = g) w W1) := by rw [← hW1.out]; exact ch_set w g 3 _
  have S1 : Hid (W1.heap[g]? = some (.cells #[.map (some bn), .map (some bc), .slice at' F.turns.length ct, .int .i64 ((F.files.length : Int) + 1), .int .i64 F.n, .bool F.armed, .int .i64 F.kind, .int .i64 F.after, .bool F.dark] 139 (0, 0))) := by
    rw [← hW1.out, heap_setCell_same w g 3 _ _ _ B.str]; rfl
  obtain ⟨k, hk⟩ : ∃ k, F.files.length = k := ⟨_, rfl⟩
  rw [hk] at c3 hW1 hfl
  have FIN : Hid (∀ u, u = W1.alloc (.cells #[.int .i64 (k : Int), .slice da dn dc, .slice none 0 0] 185) → ∃ h : Fh, (Ending.returned (.pointer (some ⟨W1.heap.size, 0, none⟩)) : Ending) = .returned (.pointer (some ⟨h.b, 0, none⟩)) ∧ w.heap.size ≤ h.b ∧ LB u g (fun j => S j ∨ SFh h j) { F with files := F.files ++ [⟨bs, []⟩] } (fb ++ [h.b]) (fh ++ [h]) bn bc at' ct ∧ (∀ j, SFh h j → w.heap.size ≤ j ∨ (h3V (da, dn, dc)).ownBlock = some j) ∧ Ch (fun j => j = g) w u) := fun u hu => by
    subst hk
    have kb : Below W1.heap.size W1 u := by rw [hu]; exact (Below.refl _ _).alloc (Nat.le_refl _) _
    have ku : Ch (fun j => j = g) w u := ch_bel K1.out (kb.mono K1.out.size)
    have hg1 := (Array.getElem?_eq_some_iff.1 S1.out).1
    have hd1 : OwnVb u 0 da dn dc bs := OwnG.ch hd ku (fun b hb => (OwnG.cellsT hd b hb).1.ne B.cellsT (by decide))
    have hb1 : u.heap[W1.heap.size]? = some (.cells #[.int .i64 (F.files.length : Int), .slice da dn dc, .slice none 0 0] 185 (0, 0)) := by rw [hu]; exact heap_alloc_new W1 _
    have mx : FlM u ⟨W1.heap.size, (da, dn, dc), (none, 0, 0), [], []⟩ F.files.length ⟨bs, []⟩ := ⟨hb1, hd1, Pd.nil, ownG_nil _ _, rfl, fun i q r hi => by simp at hi⟩
    have hsf : ∀ j, SFh ⟨W1.heap.size, (da, dn, dc), (none, 0, 0), [], []⟩ j → j = W1.heap.size ∨ (h3V (da, dn, dc)).ownBlock = some j := by
      rintro j (e | e | e | ⟨q, e, _⟩)
      · exact Or.inl e
      · exact Or.inr e
      · simp [h3V, Value.ownBlock] at e
      · simp at e
    refine ⟨⟨W1.heap.size, (da, dn, dc), (none, 0, 0), [], []⟩, rfl, K1.out.size, B.born hV ku ((kb.block g hg1).trans S1.out) mx (fun j hj => ?_), fun j hj => ?_, ku⟩
    · rcases hsf j hj with e | e
      · intro hS
        have := B.lt j hS
        have := K1.out.size
        omega
      · exact hdS j e
    · rcases hsf j hj with e | e
      · exact Or.inl (by have := K1.out.size; omega)
      · exact Or.inr e
  have hw : IntKind.i64.wrap ((k : Int) + 1) = (k : Int) + 1 := by rw [IntKind.wrap_i64]; omega
  clear B hV hL hd hdS K1 S1 hk
  go_enter Tryz.func167, Tryz.ntmps167
  go_upto_region 3 with fail
  rw [hW1.out]
  clear hW1 c3 f3
  go_wp2
  go_ret
  exact FIN.out _ rfl
theorem callF_err {F G : Fs} {e : Int} (h : callF F = (G, some e)) : (e != 0) = true := by
  rcases callF_cases F with ⟨_, q⟩ | ⟨_, _, q⟩ | ⟨_, _, _, q⟩ | ⟨_, _, _, _, q⟩ | ⟨_, _, _, h4, q⟩ <;> rw [q] at h <;> simp only [Prod.mk.injEq, Option.some.injEq, reduceCtorEq, and_false] at h
  · rw [← h.2]; rfl
  · rw [← h.2]; rfl
  · rw [← h.2]; simpa using h4
theorem GoodN.call {F : Fs} (h : GoodN F) : GoodN (callF F).1 := by
  obtain ⟨_, e2, e3, _⟩ := callF_same F
  exact h.like e2 e3
theorem Lim.call' {m : Nat} {F : Fs} (h : Lim m F) : Lim (m + 1) (callF F).1 := by
  obtain ⟨e1, e2, e3, e4⟩ := callF_same F
  refine ⟨by rw [e1]; have := h.files; omega, by rw [e2]; have := h.sure; omega, by rw [e3]; have := h.turns; omega, fun x hx => by rw [e1] at hx; have := h.each x hx; omega, by rw [e4]; have := h.n; omega⟩
theorem GoodV.more1 {G : Fs} (h : GoodV G) {x : Fi} (h1 : okUs x.sure x.us) (h2 : (∀ z ∈ x.sure, 0 ≤ z ∧ z ≤ 255) ∧ ∀ u ∈ x.us, (0 ≤ u.b ∧ u.b ≤ 255)) : GoodV { G with files := G.files ++ [x] } := by
  refine ⟨fun d hd => ?_, fun t ht => ?_, fun y hy => ?_, fun y hy => ?_, h.aft, h.knd⟩
  · have := h.sure d hd
    show d.f < (G.files ++ [x]).length
    rw [List.length_append]; simp; omega
  · obtain ⟨q1, q2⟩ := h.turns t ht
    refine ⟨q1, fun e => ?_⟩
    have := q2 e
    show t.f < (G.files ++ [x]).length
    rw [List.length_append]; simp; omega
  · rcases List.mem_append.1 hy with q | q
    · exact h.cuts y q
    · obtain rfl := List.mem_singleton.1 q; exact h1
  · rcases List.mem_append.1 hy with q | q
    · exact h.byte y q
    · obtain rfl := List.mem_singleton.1 q; exact h2
theorem stepL_same {w w' : World} {g : Nat} {S : Nat → Prop} {F : Fs} (h : LAt w' g S F) (k : Ch (fun j => j = g) w w') (ho : S g) : StepV LAt w w' g S F := ⟨S, h, fun _ hk => Or.inl hk, k.more (fun j _ e => e ▸ ho)⟩
theorem mayN_64 {s : ByteArray} (h : mayN s = true) : s.size ≤ 64 := by
  unfold mayN at h
  simp at h
  omega
theorem turn_give {G : Fs} (hV : GoodV G) {s : ByteArray} (hs : mayN s = true) : OkT1 (dirF G) ⟨0, s, ByteArray.empty, G.files.length⟩ :=
  ⟨⟨mayN_64 hs, Nat.zero_le _⟩, fun _ => ⟨hs, fun d hd => by have := hV.dir d hd; dsimp only; omega⟩, fun h => by simp at h⟩

set_option maxHeartbeats 8000000 in
theorem lcreate_any (g : Nat) (S : Nat → Prop) (F : Fs) (s : ByteArray) (m : Nat) (w : World) (hF : LAt w g S F) (hL : Lim m F) (hm : m < 1073741824) (hs : s.size ≤ 9223372036854775807) :
    Calls Tryz.prog 152 #[.pointer (some ⟨g, 0, none⟩), .string s] w fun e w' => e = .returned (.int .i64 (createF F s).2) ∧ StepV LAt w w' g S (createF F s).1 := by
  obtain ⟨hV, hN, fb, fh, bn, bc, at', ct, B⟩ := hF
  have CA := hide (vbegin_any w g S F fb fh bn bc at' ct m B hV hL (by omega))
  have LC := hide hL.call'
  have GV := hide hV.call
  have GN := hide hN.call
  have HG := hide B.own
  rcases hq : callF F with ⟨G, o⟩
  rw [hq] at CA LC GV GN
  dsimp only at CA LC GV GN
  have LA : Hid (∀ u, LB u g S G fb fh bn bc at' ct → LAt u g S G) := fun u hu => ⟨GV.out, GN.out, fb, fh, bn, bc, at', ct, hu⟩
  have HP : Hid (∀ (x : Fs × Int) (u : World), createF F s = x → StepV LAt w u g S x.1 → (Ending.returned (.int .i64 x.2) = .returned (.int .i64 (createF F s).2) ∧ StepV LAt w u g S (createF F s).1)) := fun x u e hu => by
    rw [e]
    exact ⟨rfl, hu⟩
  clear B hV hN hL
  cases o with
  | some e1 =>
    have ne := callF_err hq
    have HE : Hid (createF F s = (G, e1)) := by show _ = _; unfold createF; rw [hq]
    clear hq
    rw [Option.getD_some] at CA
    go_enter Tryz.func152, Tryz.ntmps152
    go_wp2_with fail
    with_reducible refine CA.out.mono ?_
    rintro e u1 ⟨rfl, h1, k1⟩
    have H1 := hide (HP.out _ _ HE.out (stepL_same (LA.out _ h1) k1 HG.out))
    clear h1 k1 CA HP
    go_wp2
    go_ret
    exact H1.out
  | none =>
    rw [Option.getD_none] at CA
    have IN := hide (fun u => isname_any s u hs)
    cases hm1 : mayN s with
    | false =>
      have HE : Hid (createF F s = (G, 1)) := by show _ = _; unfold createF; rw [hq]; dsimp only; rw [if_pos hm1]
      clear hq
      go_enter Tryz.func152, Tryz.ntmps152
      go_wp2_with fail
      with_reducible refine CA.out.mono ?_
      rintro e u1 ⟨rfl, h1, k1⟩
      have H1 := hide (HP.out _ _ HE.out (stepL_same (LA.out _ h1) k1 HG.out))
      clear h1 k1 CA HP
      go_wp2_with fail
      with_reducible refine (IN.out _).mono ?_
      rintro e u ⟨rfl, hu⟩
      rw [hu, hm1]
      clear hu
      go_wp2
      go_ret
      exact H1.out
    | true =>
      have hml := mayN_max hm1
      have HD : Hid (NamesD (dirF G)) := GN.out.dir
      have fi := fileD_isNone (dirF G) s
      by_cases hfull : (findD (dirF G) s).isNone = true ∧ 1024 ≤ (dirF G).length
      · have HE : Hid (createF F s = (G, 2)) := by show _ = _; unfold createF; rw [hq]; dsimp only; rw [if_neg (by rw [hm1]; simp), if_pos hfull]
        obtain ⟨hf1, hf2⟩ := hfull
        rw [fi] at hf1
        have hfn : fileD (dirF G) s = none := by simpa using hf1
        clear hq fi
        go_enter Tryz.func152, Tryz.ntmps152
        go_wp2_with fail
        with_reducible refine CA.out.mono ?_
        rintro e u1 ⟨rfl, h1, k1⟩
        have H1 := hide (HP.out _ _ HE.out (stepL_same (LA.out _ h1) k1 HG.out))
        have lk := look_name h1.names hml
        rw [hfn] at lk
        dsimp only [Option.map_none, Option.getD_none, Option.isSome_none] at lk
        have ln := fun ty => h1.names.len Tryz.underlying134 HD.out.once (names_mem HD.out) ty
        rw [List.length_map] at ln
        have c0 := h1.c0
        generalize (dirF G).length = dl at ln hf2
        have d1 : decide ((1024 : Int) ≤ (dl : Int)) = true := decide_eq_true (by omega)
        have d2 : decide (1024 ≤ dl) = true := decide_eq_true (by omega)
        have d3 : (1024 : Int) ≤ (dl : Int) := by omega
        clear h1 k1 CA HP hfn HD
        go_wp2_with fail
        with_reducible refine (IN.out _).mono ?_
        rintro e u ⟨rfl, hu⟩
        rw [hu, hm1]
        clear hu
        go_wp2
        go_ret
        exact H1.out
      · have HE : Hid (createF F s = ({ G with files := G.files ++ [emF], turns := G.turns ++ [⟨0, s, ByteArray.empty, G.files.length⟩] }, 0)) := by show _ = _; unfold createF; rw [hq]; dsimp only; rw [if_neg (by rw [hm1]; simp), if_neg hfull]
        have FIN : Hid (∀ (u1 u3 u4 : World) (h : Fh) (S' : Nat → Prop) (a' : Option Addr) (c' : Nat), Ch (fun j => j = g) w u1 → u1.heap.size ≤ h.b → (∀ j, SFh h j → u1.heap.size ≤ j ∨ (h3V (none, 0, 0)).ownBlock = some j) → Ch (fun j => j = g) u1 u3 → LB u4 g S' { G with files := G.files ++ [⟨[], []⟩], turns := G.turns ++ [⟨0, s, ByteArray.empty, G.files.length⟩] } (fb ++ [h.b]) (fh ++ [h]) bn bc a' c' → (∀ k, S' k → (S k ∨ SFh h k) ∨ u3.heap.size ≤ k) → Ch (fun j => S j ∨ SFh h j) u3 u4 → (Ending.returned (.int .i64 0) = .returned (.int .i64 (createF F s).2) ∧ StepV LAt w u4 g S (createF F s).1)) := fun u1 u3 u4 h S' a' c' k1 hb hsf k3 h4 hS' k4 => by
          refine HP.out _ _ HE.out ⟨S', ⟨?_, ?_, _, _, _, _, _, _, h4⟩, fun j hj => ?_, ?_⟩
          · exact (GV.out.more1 (x := emF) trivial ⟨fun z hz => by simp [emF] at hz, fun z hz => by simp [emF] at hz⟩).turn ⟨by simp, fun _ => by simp⟩
          · exact (GN.out.like (G := { G with files := G.files ++ [⟨[], []⟩] }) rfl rfl).push (turn_give GV.out hm1) _
          · have z1 := k1.size
            have z3 := k3.size
            rcases hS' j hj with (e | e) | e
            · exact Or.inl e
            · rcases hsf j e with e | e
              · exact Or.inr (by omega)
              · simp [h3V, Value.ownBlock] at e
            · exact Or.inr (by omega)
          · have z1 := k1.size
            have k13 : Ch S w u3 := (k1.trans k3).more (fun j _ e => e ▸ HG.out)
            refine ⟨k4.os.trans k13.os, k4.tape.trans k13.tape, k4.output.trans k13.output, Nat.le_trans k13.size k4.size, fun j hj hn => ?_⟩
            rw [k4.block j (Nat.lt_of_lt_of_le hj k13.size) (fun e => by
              rcases e with e | e
              · exact hn e
              · rcases hsf j e with e | e
                · omega
                · simp [h3V, Value.ownBlock] at e)]
            exact k13.block j hj hn
        have OKT := hide (turn_give GV.out hm1)
        have HFL : Hid (fb.length = G.files.length → (∀ b, (fb ++ [b]).getD G.files.length 0 = b)) := fun e b => by
          rw [List.getD_eq_getElem?_getD, List.getElem?_append_right (by omega), e, Nat.sub_self]; rfl
        have LC2 : Hid (Lim (m + 2) { G with files := G.files ++ [⟨[], []⟩] }) := by
          have q := LC.out
          refine ⟨by have := q.files; dsimp only; rw [List.length_append, List.length_singleton]; omega, by have := q.sure; dsimp only; omega, by have := q.turns; dsimp only; omega, fun x hx => ?_, by have := q.n; dsimp only; omega⟩
          rcases List.mem_append.1 hx with e | e
          · have := q.each x e; omega
          · obtain rfl := List.mem_singleton.1 e; simp
        have CHG : Hid (∀ (u : World) (h : Fh), LB u g (fun j => S j ∨ SFh h j) { G with files := G.files ++ [⟨[], []⟩] } (fb ++ [h.b]) (fh ++ [h]) bn bc at' ct → fb.length = G.files.length → Calls Tryz.prog 220 #[.pointer (some ⟨g, 0, none⟩), .agg #[.int .i64 0, .string (ByteArray.mk #[]), .string s, .pointer (some ⟨h.b, 0, none⟩)]] u fun e w' => e = .returned (.tuple #[]) ∧ ∃ S' a' c', LB w' g S' { G with files := G.files ++ [⟨[], []⟩], turns := G.turns ++ [⟨0, s, ByteArray.empty, G.files.length⟩] } (fb ++ [h.b]) (fh ++ [h]) bn bc a' c' ∧ (∀ k, S' k → (S k ∨ SFh h k) ∨ u.heap.size ≤ k) ∧ Ch (fun j => S j ∨ SFh h j) u w') := fun u h hu e => by
          have q := lchange_any u g _ _ _ _ bn bc at' ct (m + 2) ⟨0, s, ByteArray.empty, G.files.length⟩ hu (GN.out.like rfl rfl) LC2.out (by omega) OKT.out (by simp)
          have e2 : tuV (fb ++ [h.b]) ⟨0, s, ByteArray.empty, G.files.length⟩ = [.int .i64 0, .string .empty, .string s, .pointer (some ⟨h.b, 0, none⟩)] := by
            unfold tuV ptrV
            rw [if_pos rfl, HFL.out e]
          rw [e2] at q
          exact q
        clear hq HE HP LC2 OKT HFL
        cases hfn : fileD (dirF G) s with
        | some kk =>
          go_enter Tryz.func152, Tryz.ntmps152
          go_wp2_with fail
          with_reducible refine CA.out.mono ?_
          rintro e u1 ⟨rfl, h1, k1⟩
          have lk := look_name h1.names hml
          rw [hfn] at lk
          dsimp only [Option.map_some, Option.getD_some, Option.isSome_some] at lk
          unfold ptrV at lk
          generalize fb.getD kk 0 = pk at lk
          have c0 := h1.c0
          have K1 := hide k1
          have HFB : Hid (fb.length = G.files.length) := by show _ = _; rw [← h1.fbs, List.length_map, h1.len]
          have BE := hide (lbear_any u1 g S G fb fh bn bc at' ct (m + 1) (none, 0, 0) [] h1 GV.out LC.out (by omega) (ownG_nil _ _) (fun j hj => by simp [h3V, Value.ownBlock] at hj))
          clear h1 k1 CA fi hfull hfn HD GV GN LA
          go_wp2_with fail
          with_reducible refine (IN.out _).mono ?_
          rintro e u ⟨rfl, hu⟩
          rw [hu, hm1]
          clear hu
          go_wp2_with fail
          with_reducible refine BE.out.mono ?_
          rintro e u3 ⟨h, rfl, hb, h3, hsf, k3⟩
          have FI := hide (fun u4 S' a' c' => FIN.out u1 u3 u4 h S' a' c' K1.out hb hsf k3)
          have CH := hide (CHG.out u3 h h3 HFB.out)
          clear hb h3 hsf k3 BE FIN CHG
          obtain ⟨hb, hhb⟩ : ∃ hb, h.b = hb := ⟨_, rfl⟩
          rw [hhb] at CH ⊢
          go_wp2_with fail
          with_reducible refine CH.out.mono ?_
          rintro e u4 ⟨rfl, S', a', c', q1, q2, q3⟩
          have H4 := hide (FI.out u4 S' a' c' (by rw [hhb]; exact q1) q2 q3)
          clear q1 q2 q3 CH FI
          go_wp2
          go_ret
          exact H4.out
        | none =>
          have hlt : (dirF G).length < 1024 := by
            rw [fi, hfn] at hfull
            simp at hfull
            omega
          go_enter Tryz.func152, Tryz.ntmps152
          go_wp2_with fail
          with_reducible refine CA.out.mono ?_
          rintro e u1 ⟨rfl, h1, k1⟩
          have lk := look_name h1.names hml
          rw [hfn] at lk
          dsimp only [Option.map_none, Option.getD_none, Option.isSome_none] at lk
          have ln := fun ty => h1.names.len Tryz.underlying134 HD.out.once (names_mem HD.out) ty
          rw [List.length_map] at ln
          generalize (dirF G).length = dl at ln hlt
          have d1 : decide ((1024 : Int) ≤ (dl : Int)) = false := decide_eq_false (by omega)
          have d2 : decide (1024 ≤ dl) = false := decide_eq_false (by omega)
          have d3 : ¬ (1024 : Int) ≤ (dl : Int) := by omega
          have c0 := h1.c0
          have K1 := hide k1
          have HFB : Hid (fb.length = G.files.length) := by show _ = _; rw [← h1.fbs, List.length_map, h1.len]
          have BE := hide (lbear_any u1 g S G fb fh bn bc at' ct (m + 1) (none, 0, 0) [] h1 GV.out LC.out (by omega) (ownG_nil _ _) (fun j hj => by simp [h3V, Value.ownBlock] at hj))
          clear h1 k1 CA fi hfull hfn HD GV GN LA
          go_wp2_with fail
          with_reducible refine (IN.out _).mono ?_
          rintro e u ⟨rfl, hu⟩
          rw [hu, hm1]
          clear hu
          go_wp2_with fail
          with_reducible refine BE.out.mono ?_
          rintro e u3 ⟨h, rfl, hb, h3, hsf, k3⟩
          have FI := hide (fun u4 S' a' c' => FIN.out u1 u3 u4 h S' a' c' K1.out hb hsf k3)
          have CH := hide (CHG.out u3 h h3 HFB.out)
          clear hb h3 hsf k3 BE FIN CHG
          obtain ⟨hb, hhb⟩ : ∃ hb, h.b = hb := ⟨_, rfl⟩
          rw [hhb] at CH ⊢
          go_wp2_with fail
          with_reducible refine CH.out.mono ?_
          rintro e u4 ⟨rfl, S', a', c', q1, q2, q3⟩
          have H4 := hide (FI.out u4 S' a' c' (by rw [hhb]; exact q1) q2 q3)
          clear q1 q2 q3 CH FI
          go_wp2
          go_ret
          exact H4.out
theorem flat_by (zs : List Int) : zs.flatMap byV = zs.map (Value.int .u8) := by
  induction zs with
  | nil => rfl
  | cons z t ih => rw [List.flatMap_cons, ih]; rfl
/-- Bytes of the call's own are a row of bytes. -/
theorem ownB_row {w : World} {base n cap : Nat} {a : Option Addr} {zs : List Int} (h : OwnVb w base a n cap zs) (hn : n ≤ 281474976710656) (hz : ∀ z ∈ zs, 0 ≤ z ∧ z ≤ 255) : Row .u8 w a n zs := by
  have : Own 5 .u8 w base a n cap zs := by
    unfold OwnVb OwnG at h
    rw [flat_by] at h
    exact h
  exact this.row hn (fun z hz' => by have := hz z hz'; simp [Lit.wf, IntKind.min, IntKind.max, IntKind.signed, IntKind.bits]; omega)
theorem eqlB_nil (w : World) (a : Option Addr) (n c n' c' : Nat) : (binOp .eql 40 (.slice a n c) (.slice none n' c')).run Tryz.prog w = .ok (.bool a.isNone) w :=
  Lib.run_eql_slice_nil w _ _ a n c n' c' Tryz.underlying40

set_option maxHeartbeats 1000000 in
theorem clone8_any (a : Option Addr) (n cap : Nat) (zs : List Int) (w : World) (hr : Row .u8 w a n zs) (hn : n ≤ 1099511627776) (hc : a = none → cap = 0) :
    Calls Tryz.prog 94 #[.slice a n cap] w fun e w' => ∃ a' cap', e = .returned (.slice a' n cap') ∧ OwnVb w' w.heap.size a' n cap' zs ∧ Below w.heap.size w w' := by
  obtain ⟨i0, hi, hz0, hz1, hz2⟩ := info_parts Tryz.infoU8
  have hq := eqlB_nil
  have hl := hr.1
  cases a with
  | none =>
    have h0 := hr.nz rfl
    subst h0
    have hz : zs = [] := List.length_eq_zero_iff.1 hl
    subst hz
    go_enter Tryz.func94, Tryz.ntmps94
    go_wp2
    go_ret
    exact ⟨none, 0, rfl, ownG_nil _ _, Below.refl _ _⟩
  | some ad =>
    have HR := hide (fun o j u (hj : (zs.flatMap byV)[j]? = some u) => (hr.alloc o).cells j u (by rw [flat_by] at hj; exact hj))
    have HM : Hid (OwnVb (w.alloc (.cells #[] 5)) w.heap.size (some ⟨w.heap.size, 0, none⟩) 0 0 []) := World.ownsRow_made w #[] 0 (Nat.le_refl _) (Nat.zero_le _) rfl
    clear hr
    go_enter Tryz.func94, Tryz.ntmps94
    go_wp2_with (at_builtin; refine wpList_app_g byV_len (by decide) byV_one1 _ rfl _ _ 40 rfl w.heap.size i0 (.int .u8 0) 1 Tryz.underlying40 hi hz0 hz1 hz2 rfl (some ⟨w.heap.size, 0, none⟩) 0 0 [] rfl HM.out (some ad) n cap zs rfl hl (fun ad' e => by cases e; exact HR.out _) (fun e => by cases e) (by omega) (by omega) (by simp) ?_)
    intro a2 c2 w1 o1 g1
    have O1 : Hid (OwnVb w1 w.heap.size a2 n c2 zs) := by
      first
        | exact o1
        | (have := o1; simp only [Nat.zero_add, List.nil_append] at this; exact this)
    have B1 : Hid (Below w.heap.size w w1) := ((Below.refl _ w).alloc (Nat.le_refl _) _).grown g1 (by simp) (by intro k hk; simp [Value.ownBlock] at hk; omega)
    clear o1 g1 HR HM
    go_wp2
    go_ret
    exact ⟨a2, c2, by simp, O1.out, B1.out⟩

theorem pu_set0 : ∀ (l : List (Nat × H3)) (k : Nat) (q : Nat × H3) (n : Nat), l[k]? = some q → (l.flatMap puV).set (k * 2) (.int .i64 (n : Int)) = (l.set k (n, q.2)).flatMap puV
  | [], k, _, _, h => by simp at h
  | x :: t, 0, q, n, h => by
    simp at h
    subst h
    rfl
  | x :: t, k + 1, q, n, h => by
    rw [List.flatMap_cons, List.set_cons_succ, List.flatMap_cons, List.set_append_right _ _ (by rw [puV_len]; omega), puV_len, show (k + 1) * 2 - 2 = k * 2 by omega, pu_set0 t k q n (by simpa using h)]
section
variable {w u : World} {h : Fh} {k : Nat} {b su : List Int} {us : List Un}
/-- Other pending units. -/
theorem FlP.putPend (m : FlP w h k b su us) (c : Ch (fun j => (h3V h.p).ownBlock = some j) w u) {p' : H3} {hp' : List (Nat × H3)} {ps' : List Pu} {su' : List Int} {us' : List Un} (o : OwnP u 0 p'.1 p'.2.1 p'.2.2 hp') (hpd : Pd su' us' ps') (hlen : hp'.length = ps'.length)
    (he : ∀ (i : Nat) (q : Nat × H3) (r : Pu), hp'[i]? = some q → ps'[i]? = some r → q.1 = r.1 ∧ OwnVb u 0 q.2.1 q.2.2.1 q.2.2.2 r.2 ∧ ∀ j, (h3V q.2).ownBlock = some j → ¬ (h3V h.d).ownBlock = some j) : FlP (u.setCell ⟨h.b, 2, none⟩ (.slice p'.1 p'.2.1 p'.2.2)) { h with p := p', ps := ps', hp := hp' } k b su' us' := by
  have hu : u.heap[h.b]? = some (.cells #[.int .i64 (k : Int), .slice h.d.1 h.d.2.1 h.d.2.2, .slice h.p.1 h.p.2.1 h.p.2.2] 185 (0, 0)) := (c.block h.b (m.lt (Or.inl rfl)) (fun e => (OwnG.cellsT m.pend h.b e).1.ne m.cells (by decide) rfl)).trans m.str
  have cu : CellsT u h.b 185 := ⟨_, _, hu⟩
  have ks : Ch (fun j => j = h.b) u (u.setCell ⟨h.b, 2, none⟩ (.slice p'.1 p'.2.1 p'.2.2)) := ch_set u h.b 2 _
  have od := OwnG.ch m.data c (fun j hj e => (OwnG.cellsT m.pend j e).1.ne (OwnG.cellsT m.data j hj).1 (by decide) rfl)
  refine ⟨?_, OwnG.ch od ks (fun j hj => (OwnG.cellsT od j hj).1.ne cu (by decide)), hpd, OwnG.ch o ks (fun j hj => (OwnG.cellsT o j hj).1.ne cu (by decide)), hlen, fun i q r h1 h2 => ?_⟩
  · show (u.setCell ⟨h.b, 2, none⟩ _).heap[h.b]? = _
    rw [heap_setCell_same u h.b 2 _ _ _ hu]; rfl
  · obtain ⟨e1, e2, e3⟩ := he i q r h1 h2
    exact ⟨e1, OwnG.ch e2 ks (fun j hj => (OwnG.cellsT e2 j hj).1.ne cu (by decide)), e3⟩
/-- Other bytes. -/
theorem FlP.putData (m : FlP w h k b su us) (c : Ch (fun j => (h3V h.d).ownBlock = some j) w u) {d' : H3} {b' : List Int} (o : OwnVb u 0 d'.1 d'.2.1 d'.2.2 b') (hl : ∀ j, (h3V d').ownBlock = some j → (h3V h.d).ownBlock = some j ∨ w.heap.size ≤ j) : FlP (u.setCell ⟨h.b, 1, none⟩ (.slice d'.1 d'.2.1 d'.2.2)) { h with d := d' } k b' su us := by
  have hu : u.heap[h.b]? = some (.cells #[.int .i64 (k : Int), .slice h.d.1 h.d.2.1 h.d.2.2, .slice h.p.1 h.p.2.1 h.p.2.2] 185 (0, 0)) := (c.block h.b (m.lt (Or.inl rfl)) (fun e => (OwnG.cellsT m.data h.b e).1.ne m.cells (by decide) rfl)).trans m.str
  have cu : CellsT u h.b 185 := ⟨_, _, hu⟩
  have ks : Ch (fun j => j = h.b) u (u.setCell ⟨h.b, 1, none⟩ (.slice d'.1 d'.2.1 d'.2.2)) := ch_set u h.b 1 _
  have op := OwnG.ch m.pend c (fun j hj e => (OwnG.cellsT m.data j e).1.ne (OwnG.cellsT m.pend j hj).1 (by decide) rfl)
  refine ⟨?_, OwnG.ch o ks (fun j hj => (OwnG.cellsT o j hj).1.ne cu (by decide)), m.pd, OwnG.ch op ks (fun j hj => (OwnG.cellsT op j hj).1.ne cu (by decide)), m.len, fun i q r h1 h2 => ?_⟩
  · show (u.setCell ⟨h.b, 1, none⟩ _).heap[h.b]? = _
    rw [heap_setCell_same u h.b 1 _ _ _ hu]; rfl
  · obtain ⟨e1, e2, e3⟩ := m.each i q r h1 h2
    have e4 := OwnG.ch e2 c (fun j hj e => e3 j hj e)
    refine ⟨e1, OwnG.ch e4 ks (fun j hj => (OwnG.cellsT e4 j hj).1.ne cu (by decide)), fun j hj e => ?_⟩
    rcases hl j e with q' | q'
    · exact e3 j hj q'
    · have := (OwnG.cellsT e2 j hj).1.lt
      omega
/-- So many more in the last. -/
theorem FlP.bump (m : FlP w h k b su us) {gp L cp : Nat} (hp : h.p = (some ⟨gp, 0, none⟩, L + 1, cp)) {ps0 : List Pu} {p : Pu} (hps : h.ps = ps0 ++ [p]) {q : Nat × H3} (hq : h.hp[L]? = some q) (hpos : 0 < p.1) (zs : List Int) :
    FlP (w.setCell ⟨gp, L * 2, none⟩ (.int .i64 ((p.1 + zs.length : Nat) : Int))) { h with ps := ps0 ++ [(p.1 + zs.length, p.2)], hp := h.hp.set L (p.1 + zs.length, q.2) } k b su (us ++ moreU zs) := by
  have o := m.pend
  rw [hp] at o
  have hL := OwnG.len puV_len (by decide) o
  dsimp only at hL o
  have hlen := m.len
  rw [hps, List.length_append, List.length_singleton, hL] at hlen
  have hps0 : ps0.length = L := by omega
  have hob : (h3V h.p).ownBlock = some gp := by rw [hp]; rfl
  have cg := (OwnG.cellsT o gp rfl).1
  have ks : Ch (fun j => j = gp) w (w.setCell ⟨gp, L * 2, none⟩ (.int .i64 ((p.1 + zs.length : Nat) : Int))) := ch_set w gp _ _
  have hpd := m.pd
  rw [hps] at hpd
  refine ⟨(ks.block h.b (m.lt (Or.inl rfl)) (fun e => cg.ne m.cells (by decide) e.symm)).trans m.str, OwnG.ch m.data ks (fun j hj => (OwnG.cellsT m.data j hj).1.ne cg (by decide)), hpd.more hpos zs, ?_, ?_, fun i q' r h1 h2 => ?_⟩
  · dsimp only
    rw [hp]
    have q1 := (World.ownsRow.stored o (L * 2) (.int .i64 ((p.1 + zs.length : Nat) : Int))).1
    rw [pu_set0 h.hp L q _ hq] at q1
    exact q1
  · dsimp only
    rw [List.length_set, List.length_append, List.length_singleton, hL]
    omega
  · dsimp only at h1 h2
    by_cases e : i = L
    · subst e
      rw [List.getElem?_set_self (by omega)] at h1
      rw [List.getElem?_append_right (by omega), hps0, Nat.sub_self] at h2
      obtain rfl := Option.some.inj h1
      obtain rfl := Option.some.inj h2
      obtain ⟨-, e2, e3⟩ := m.each i q p hq (by rw [hps, List.getElem?_append_right (by omega), hps0, Nat.sub_self]; rfl)
      exact ⟨rfl, OwnG.ch e2 ks (fun j hj => (OwnG.cellsT e2 j hj).1.ne cg (by decide)), e3⟩
    · rw [List.getElem?_set_ne (Ne.symm e)] at h1
      have hil : i < L := by
        have := (List.getElem?_eq_some_iff.1 h1).1
        omega
      rw [List.getElem?_append_left (by omega)] at h2
      obtain ⟨e1, e2, e3⟩ := m.each i q' r h1 (by rw [hps, List.getElem?_append_left (by omega)]; exact h2)
      exact ⟨e1, OwnG.ch e2 ks (fun j hj => (OwnG.cellsT e2 j hj).1.ne cg (by decide)), e3⟩
end

set_option maxHeartbeats 1000000 in
theorem fsync_any (w : World) (h : Fh) (k : Nat) (b su : List Int) (us : List Un) (m : FlP w h k b su us) :
    Calls Tryz.prog 156 #[.pointer (some ⟨h.b, 0, none⟩)] w fun e w' => e = .returned (.tuple #[]) ∧ StepP w w' h k b b [] := by
  have FIN : Hid (StepP w (w.setCell ⟨h.b, 2, none⟩ (.slice none 0 0)) h k b b []) := by
    have q := m.putPend (u := w) (Ch.refl _ _) (p' := (none, 0, 0)) (hp' := []) (ps' := []) (su' := b) (us' := []) (ownG_nil _ _) Pd.nil rfl (fun i q r h1 => by simp at h1)
    refine ⟨{ h with p := (none, 0, 0), ps := [], hp := [] }, rfl, q, fun j hj => ?_, (ch_set w h.b 2 _).more (fun j _ e => Or.inl e)⟩
    rcases hj with e | e | e | ⟨q', e, _⟩
    · exact Or.inl (Or.inl e)
    · exact Or.inl (Or.inr (Or.inl e))
    · simp [h3V, Value.ownBlock] at e
    · simp at e
  have c2 := m.c2
  have f2 := m.fz 2
  generalize h.p = hp at *
  clear m
  go_enter Tryz.func156, Tryz.ntmps156
  go_wp2
  go_end0
  exact ⟨rfl, FIN.out⟩
end Go.Proofs.YtknghoecjobkiaaGreatDoor
