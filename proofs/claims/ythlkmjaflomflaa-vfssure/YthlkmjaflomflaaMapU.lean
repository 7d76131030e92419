/-
  Maps by texts in memory: a text taken out, how many there are, a copy: laws, for every world.
  Conditions: as each theorem says.
-/
import Derived.Test.YthlkmjaflomflaaMapT
namespace Go.Proofs.Ythlkmjaflomflaa
open Go.RowKit Go.Maps
set_option maxRecDepth 20000
set_option linter.unusedVariables false

def delF (f : ByteArray → Option Value) (s : ByteArray) : ByteArray → Option Value := fun t => if t = s then none else f t
theorem ReadsS.del {D : DataW Value} {f : ByteArray → Option Value} (h : ReadsS D f) (s : ByteArray) : ReadsS (D.del (kS s)) (delF f s) := by
  refine ⟨fun t => ?_, fun t x ht z => ?_⟩
  · unfold delF
    by_cases e : t = s
    · subst e
      rw [if_pos rfl, has_del_same]
      rfl
    · rw [if_neg e, has_del_other (fun q => e (kS_inj q)), h.has]
  · unfold delF at ht
    by_cases e : t = s
    · subst e
      rw [if_pos rfl] at ht
      cases ht
    · rw [if_neg e] at ht
      rw [atKey_del_other (fun q => e (kS_inj q))]
      exact h.at' t x ht z
section
variable {w w' : World} {b n : Nat} {f : ByteArray → Option Value}
/-- A text taken out. -/
theorem MapS.drop {t e : TypeId} (h : MapS w b n f) (ht : Try.prog.underlying t = some (.map 9 e)) {s : ByteArray} (hs : s.size ≤ maxLen) (ty : TypeId) :
    ∃ w', (Builtin.delete_ #[t, 9] ty #[.map (some b), .string s]).run Try.prog w = .ok (.tuple #[]) w' ∧ MapS w' b n (delF f s) ∧ w.grownBy w' (some b) := by
  obtain ⟨D, h1, h2⟩ := h
  obtain ⟨w', hrun, r1, r2⟩ := h1.drop keyS ht (keyOf_kS hs) ty
  exact ⟨w', hrun, ⟨_, r1, h2.del s⟩, r2.grown⟩
theorem strKeys_len {D : DataW Value} (h : MapD w b n D) : (strKeys D).length = Maps.size D := by
  obtain ⟨es, hD, -⟩ := h.entries keyS
  subst hD
  show (es.map fun p => strOf p.1).length = es.length
  rw [List.length_map]
theorem ba_of' (x : List UInt8) : kS ⟨x.toArray⟩ = .string x := by unfold kS; rfl
theorem size_of {D : DataW Value} (h1 : MapD w b n D) (h2 : ReadsS D f) {L : List ByteArray} (hL : L.Nodup) (hm : ∀ s, s ∈ L ↔ (f s).isSome = true) : Maps.size D = L.length ∧ (strKeys D).Perm (L.map (·.toList)) := by
  obtain ⟨hn, hk⟩ := keys_mem h1
  have hp : (strKeys D).Perm (L.map (·.toList)) := by
    refine (List.perm_ext_iff_of_nodup hn (List.pairwise_map.2 (hL.imp (fun {x y} hne e => hne (ba_ext e))))).2 (fun x => ?_)
    rw [hk, ← ba_of', h2.has, ← hm, List.mem_map]
    constructor
    · intro hx
      exact ⟨_, hx, by rw [ByteArray.toList_eq]⟩
    · rintro ⟨y, hy, e⟩
      have : (⟨x.toArray⟩ : ByteArray) = y := by
        apply ba_ext
        rw [← e, ByteArray.toList_eq, ByteArray.toList_eq]
      rw [this]
      exact hy
  refine ⟨?_, hp⟩
  rw [← strKeys_len h1, hp.length_eq, List.length_map]
/-- It has just as many as there are. -/
theorem MapS.tight (h : MapS w b n f) {L : List ByteArray} (hL : L.Nodup) (hm : ∀ s, s ∈ L ↔ (f s).isSome = true) : MapS w b L.length f := by
  obtain ⟨D, h1, h2⟩ := h
  obtain ⟨e, -⟩ := size_of h1 h2 hL hm
  obtain ⟨es, clock, hb, F, _, hD⟩ := h1
  refine ⟨D, ⟨es, clock, hb, F, ?_, hD⟩, h2⟩
  rw [← e, hD]
  simp [Maps.size, length_sorted]
theorem MapS.len {t e : TypeId} (h : MapS w b n f) (ht : Try.prog.underlying t = some (.map 9 e)) {L : List ByteArray} (hL : L.Nodup) (hm : ∀ s, s ∈ L ↔ (f s).isSome = true) (ty : TypeId) :
    (Builtin.len_ #[t] ty #[.map (some b)]).run Try.prog w = .ok (.int .i64 (L.length : Int)) w := by
  obtain ⟨D, h1, h2⟩ := h
  obtain ⟨e, -⟩ := size_of h1 h2 hL hm
  rw [h1.len ht ty, e]
/-- A copy of its entries. -/
theorem MapS.copied (h : MapS w b n f) {es : Array MapEntry} {clock : Nat} (hb : w.heap[b]? = some (.map es clock)) : MapS (w.alloc (.map es clock)) w.heap.size n f := by
  obtain ⟨D, ⟨es', clock', hb', r⟩, h2⟩ := h
  rw [hb] at hb'
  simp only [Option.some.injEq, Obj.map.injEq] at hb'
  obtain ⟨rfl, rfl⟩ := hb'
  exact ⟨D, ⟨es, clock, World.alloc_heap_new w _, r⟩, h2⟩
end
end Go.Proofs.Ythlkmjaflomflaa
