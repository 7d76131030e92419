/-
  Maps by texts in memory: what stands at each text, one text more, the texts that there are: laws, for every world.
  Conditions: as each theorem says.
-/
import Derived.Test.YthlkmjaflomflaaChK
import Derived.Test.YthlkmjaflomflaaLabK
import Derived.Test.YthlkmjaflomflaaRows
import Derived.Maps.OwnSet
import Derived.Sort.KeysCollected
import Derived.Sort.Walk0
namespace Go.Proofs.Ythlkmjaflomflaa
open Go.RowKit Go.Maps
set_option maxRecDepth 20000

abbrev keyS : Keyed Try.prog 9 := string_keyed Try.underlying9
/-- What stands at a text is told as it is. -/
def heldE (v : Value) : Option (DataW Value × List MemPlace) := some (.held v, [])
/-- A text as a key. -/
def kS (s : ByteArray) : Lit := .string s.data.toList
theorem kS_inj {s t : ByteArray} (h : kS s = kS t) : s = t := by
  unfold kS at h
  simp only [Lit.string.injEq] at h
  cases s with | mk x => cases t with | mk y => congr 1; exact Array.ext' h
theorem kS_list (s : ByteArray) : kS s = .string s.toList := by unfold kS; rw [ByteArray.toList_eq]
theorem keyOf_kS {s : ByteArray} (h : s.size ≤ maxLen) : keyOf Try.prog 9 (.string s) = some (kS s) := by
  have : s.data.size ≤ maxLen := h
  simp [keyOf, Try.underlying9, mapKey, kS]
  exact h
/-- What a map tells at each text. -/
structure ReadsS (D : DataW Value) (f : ByteArray → Option Value) : Prop where
  has : ∀ s, Maps.has D (kS s) = (f s).isSome
  at' : ∀ s v, f s = some v → ∀ z, D.atKey (kS s) z = .held v
abbrev MapD (w : World) (b n : Nat) (D : DataW Value) : Prop := w.ownsMap Try.prog 9 heldE b n D
/-- Block b is a map of at most n texts that tells these. -/
def MapS (w : World) (b n : Nat) (f : ByteArray → Option Value) : Prop := ∃ D, MapD w b n D ∧ ReadsS D f
/-- A block that is a map. -/
def MapB (w : World) (b : Nat) : Prop := ∃ es clock, w.heap[b]? = some (.map es clock)
theorem MapB.ne {w : World} {b g : Nat} {t : TypeId} (h : MapB w b) (k : CellsT w g t) : b ≠ g := by
  rintro rfl
  obtain ⟨_, _, h⟩ := h
  obtain ⟨_, _, k⟩ := k
  rw [h] at k
  cases k
def updF (f : ByteArray → Option Value) (s : ByteArray) (v : Value) : ByteArray → Option Value := fun t => if t = s then some v else f t
theorem ReadsS.put {D : DataW Value} {f : ByteArray → Option Value} (h : ReadsS D f) (hm : IsMap D) (s : ByteArray) (v : Value) : ReadsS (D.put (kS s) (.held v)) (updF f s v) := by
  refine ⟨fun t => ?_, fun t x ht z => ?_⟩
  · unfold updF
    by_cases e : t = s
    · subst e
      rw [if_pos rfl, has_put_same hm (k := kS t) ⟨⟩]
      rfl
    · rw [if_neg e, has_put_other (fun q => e (kS_inj q)), h.has]
  · unfold updF at ht
    by_cases e : t = s
    · subst e
      rw [if_pos rfl] at ht
      cases ht
      exact atKey_put_same hm (k := kS t) ⟨⟩ _ _
    · rw [if_neg e] at ht
      rw [atKey_put_other (fun q => e (kS_inj q))]
      exact h.at' t x ht z
section
variable {w w' : World} {b n : Nat} {f : ByteArray → Option Value}
theorem MapS.isMap (h : MapS w b n f) : MapB w b := by
  obtain ⟨D, ⟨es, clock, hb, _⟩, _⟩ := h
  exact ⟨es, clock, hb⟩
theorem MapS.lt (h : MapS w b n f) : b < w.heap.size := h.choose_spec.1.lt
theorem MapS.mono (h : MapS w b n f) {m : Nat} (hm : n ≤ m) : MapS w b m f := by
  obtain ⟨D, h1, h2⟩ := h
  exact ⟨D, h1.mono hm, h2⟩
theorem MapS.congr {f' : ByteArray → Option Value} (h : MapS w b n f) (e : ∀ s, f s = f' s) : MapS w b n f' := (funext e : f = f') ▸ h
theorem MapS.ch {S : Nat → Prop} (h : MapS w b n f) (k : Ch S w w') (hn : ¬ S b) : MapS w' b n f := by
  obtain ⟨D, h1, h2⟩ := h
  have hlt := h1.lt
  obtain ⟨es, clock, hb, r⟩ := h1
  exact ⟨D, ⟨es, clock, (k.block b hlt hn).trans hb, r⟩, h2⟩
theorem MapS.below (h : MapS w b n f) (k : Below w.heap.size w w') : MapS w' b n f := h.ch (Ch.of_below k) id
theorem MapS.drewN (h : MapS w b n f) (q : Nat) : MapS (w.drewN q) b n f := h
theorem MapS.drew (h : MapS w b n f) : MapS w.drew b n f := h
theorem mapS_new (w : World) : MapS (w.alloc (.map #[] 0)) w.heap.size 0 (fun _ => none) := ⟨_, World.ownsMap_made w _ _ _, fun s => rfl, fun s v h => by cases h⟩
/-- A look at a text. -/
theorem MapS.look {t e : TypeId} (h : MapS w b n f) (ht : Try.prog.underlying t = some (.map 9 e)) {z : Value} (hz : (zeroValue e).run Try.prog w = .ok z w) {s : ByteArray} (hs : s.size ≤ maxLen) :
    (Instr.lookup t (.map (some b)) (.string s) false).run Try.prog w = .ok ((f s).getD z) w := by
  obtain ⟨D, h1, h2⟩ := h
  obtain ⟨v, ps, hrun, hv⟩ := h1.lookup keyS ht hz (zd := .held z) (zp := []) rfl (keyOf_kS hs)
  rw [hrun]
  unfold heldE at hv
  simp only [Option.some.injEq, Prod.mk.injEq] at hv
  congr 1
  cases hf : f s with
  | none =>
    have := h2.has s
    rw [hf] at this
    rw [atKey_of_not_has this] at hv
    exact DataW.held.inj hv.1
  | some x =>
    rw [h2.at' s x hf] at hv
    exact DataW.held.inj hv.1
theorem MapS.look_ok {t e : TypeId} (h : MapS w b n f) (ht : Try.prog.underlying t = some (.map 9 e)) {z : Value} (hz : (zeroValue e).run Try.prog w = .ok z w) {s : ByteArray} (hs : s.size ≤ maxLen) :
    (Instr.lookup t (.map (some b)) (.string s) true).run Try.prog w = .ok (.tuple #[(f s).getD z, .bool (f s).isSome]) w := by
  obtain ⟨D, h1, h2⟩ := h
  obtain ⟨v, ps, hrun, hv⟩ := h1.look_ok keyS ht hz (zd := .held z) (zp := []) rfl (keyOf_kS hs)
  rw [hrun, h2.has s]
  unfold heldE at hv
  simp only [Option.some.injEq, Prod.mk.injEq] at hv
  have e : v = (f s).getD z := by
    cases hf : f s with
    | none =>
      have := h2.has s
      rw [hf] at this
      rw [atKey_of_not_has this] at hv
      exact DataW.held.inj hv.1
    | some x =>
      rw [h2.at' s x hf] at hv
      exact DataW.held.inj hv.1
  rw [e]
/-- One text more, or another thing at it. -/
theorem MapS.store {t e : TypeId} (h : MapS w b n f) (ht : Try.prog.underlying t = some (.map 9 e)) (hn : n < maxLen) {s : ByteArray} (hs : s.size ≤ maxLen) (v : Value) :
    ∃ w', (Instr.mapUpdate t (.map (some b)) (.string s) v).run Try.prog w = .ok () w' ∧ MapS w' b (n + 1) (updF f s v) ∧ w.grownBy w' (some b) := by
  obtain ⟨D, h1, h2⟩ := h
  obtain ⟨w', hrun, r1, r2⟩ := h1.update keyS ht hn (keyOf_kS hs) (val := v) (d := .held v) (ps := []) rfl
  exact ⟨w', hrun, ⟨_, r1, h2.put h1.isMap s v⟩, r2⟩
end
theorem look_none {t e : TypeId} {w : World} (ht : Try.prog.underlying t = some (.map 9 e)) {z : Value} (hz : (zeroValue e).run Try.prog w = .ok z w) {s : ByteArray} (hs : s.size ≤ maxLen) :
    (Instr.lookup t (.map none) (.string s) false).run Try.prog w = .ok z w := by
  have := Maps.look_nil (w := w) false keyS ht hz (keyOf_kS hs)
  simpa using this
/-- The texts that a map has. -/
theorem keys_mem {w : World} {b n : Nat} {D : DataW Value} (h : MapD w b n D) : (strKeys D).Nodup ∧ ∀ x, x ∈ strKeys D ↔ Maps.has D (.string x) = true := by
  obtain ⟨es, hD, hpw, _⟩ := h.entries keyS
  obtain ⟨es', hD', hko⟩ := h.keysOf
  obtain rfl : es = es' := by rw [hD] at hD'; simpa using hD'
  subst hD
  have hk : ∀ p ∈ es, ∃ x, p.1 = .string x := fun p hp => by
    obtain ⟨v, hv⟩ := hko p hp
    obtain ⟨x, _, hx, _⟩ := Maps.keyOf_str Try.underlying9 hv
    exact ⟨x, hx⟩
  refine ⟨?_, fun x => ?_⟩
  · show (es.map fun p => strOf p.1).Nodup
    refine List.pairwise_map.2 (hpw.imp_of_mem fun {p q} hp hq hne e => hne ?_)
    obtain ⟨u, hu⟩ := hk p hp
    obtain ⟨v, hv⟩ := hk q hq
    rw [hu, hv] at e ⊢
    exact congrArg Lit.string e
  · show x ∈ es.map (fun p => strOf p.1) ↔ _
    rw [has_eq, List.any_eq_true, List.mem_map]
    constructor
    · rintro ⟨p, hp, rfl⟩
      obtain ⟨u, hu⟩ := hk p hp
      exact ⟨p, hp, by rw [hu]; simp [Lit.sameKey, strOf]⟩
    · rintro ⟨p, hp, hs⟩
      obtain ⟨u, hu⟩ := hk p hp
      rw [hu] at hs
      exact ⟨p, hp, by rw [hu]; simpa [Lit.sameKey, strOf] using hs⟩
theorem bytes_le {x y : List UInt8} (h : Op.bytesLess x y = true) : x ≤ y := by
  rw [bytesLess_eq, decide_eq_true_eq] at h
  exact List.le_of_lt h
/-- Texts in order, each once, are the sorted texts of a map that has just these. -/
theorem sorted_keys {D : DataW Value} {ss l : List (List UInt8)} (hp : ss.Perm (strKeys D)) (hn : (strKeys D).Nodup) (hl : l.Pairwise (fun x y => Op.bytesLess x y = true)) (hm : ∀ x, x ∈ l ↔ x ∈ strKeys D) : ss.mergeSort (fun x y => decide (x ≤ y)) = l := by
  have hnd : l.Nodup := hl.imp (fun {x y} h e => by subst e; rw [bytesLess_eq, decide_eq_true_eq] at h; exact List.lt_irrefl x h)
  have hpl : ss.Perm l := hp.trans ((List.perm_ext_iff_of_nodup hn hnd).2 (fun x => (hm x).symm))
  have e := mergeSort_of_perm hpl
  rw [show ss.mergeSort (fun x y => decide (x ≤ y)) = ss.mergeSort leB from rfl, e]
  exact List.mergeSort_of_pairwise (hl.imp (fun h => by simp only [leB, decide_eq_true_eq]; exact bytes_le h))
end Go.Proofs.Ythlkmjaflomflaa
