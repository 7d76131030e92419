/-
  The law of layer 8 on fewer than 1024 unlike things, of any layer that keeps its contracts.
  Conditions: the contracts.
-/
import Derived.Test.YtlhiikibbppodaaKmvMa
namespace Go.Proofs.Ytlhiikibbppodaa
open Go.RowKit

/-- The sketch's list and what was seen: the same hashes. -/
structure SameK (L M : List Int) : Prop where
  up : Up L
  nd : M.Nodup
  mem : ∀ x, x ∈ L ↔ x ∈ M
  words : ∀ x ∈ M, W64 x
theorem SameK.len {L M : List Int} (h : SameK L M) : L.length = M.length := by
  have hn : L.Nodup := List.Pairwise.imp (fun hab => Int.ne_of_lt hab) h.up
  exact ((List.perm_ext_iff_of_nodup hn h.nd).2 h.mem).length_eq
theorem SameK.old {L M : List Int} (h : SameK L M) {x : Int} (hx : x ∈ M) (hl : M.length ≤ 1024) : SameK (hashK 1024 L x) M := by
  have e : hashK 1024 L x = L := by
    unfold hashK
    rw [insK_there h.up ((h.mem x).2 hx), List.take_of_length_le (by rw [h.len]; exact hl)]
  rw [e]; exact h
theorem SameK.more {L M : List Int} (h : SameK L M) {x : Int} (hx : x ∉ M) (hw : W64 x) (hl : M.length < 1024) : SameK (hashK 1024 L x) (M ++ [x]) := by
  have e : hashK 1024 L x = insK x L := by
    unfold hashK
    rw [List.take_of_length_le]
    rw [insK_len h.up, h.len]
    split <;> omega
  rw [e]
  refine ⟨up_insK h.up, ?_, fun y => ?_, ?_⟩
  · exact List.nodup_append.2 ⟨h.nd, by simp, fun a ha b hb => by simp at hb; subst hb; exact fun e => hx (e ▸ ha)⟩
  · rw [mem_insK, List.mem_append, h.mem]
    simp only [List.mem_singleton]
    exact or_comm
  · intro y hy
    rcases List.mem_append.1 hy with hy | hy
    · exact h.words y hy
    · simp at hy; subst hy; exact hw
theorem SameK.dist {L M : List Int} (h : SameK L M) (hl : M.length < 1024) : distK L = M.length := by
  have e := h.len
  unfold distK
  rw [if_pos (up_chk h.up (by omega) (fun x hx => h.words x ((h.mem x).1 hx))), if_pos (by omega), e]

/-- The sketch and the seen ones in memory. -/
structure FwK (At : World → Nat → (Nat → Prop) → List Int → Prop) (w W : World) (g : Nat) (L : List Int) (a : Option Addr) (n cap : Nat) (M : List Int) : Prop where
  low : Below w.heap.size w W
  sk : ∃ S, At W g S L ∧ (∀ k, S k → w.heap.size ≤ k) ∧ ∀ x, a = some x → ¬ S x.block
  own : OwnU W w.heap.size a n cap M
section
variable {At : World → Nat → (Nat → Prop) → List Int → Prop} {w W W' : World} {g : Nat} {L M : List Int} {a : Option Addr} {n cap : Nat}
theorem FwK.below (I : KmvI At) (h : FwK At w W g L a n cap M) (b : Below W.heap.size W W') : FwK At w W' g L a n cap M := by
  obtain ⟨S, h1, h2, h3⟩ := h.sk
  exact ⟨h.low.trans (b.mono h.low.size), ⟨S, I.below h1 b, h2, h3⟩, h.own.below b (Nat.le_refl _)⟩
theorem FwK.add (I : KmvI At) (h : FwK At w W g L a n cap M) (s : ByteArray) (hs : s.size ≤ 9223372036854775807) :
    Calls Try.prog 14 #[.pointer (some ⟨g, 0, none⟩), .string s] W fun e W' => e = .returned (.tuple #[]) ∧ FwK At w W' g (hashK 1024 L (fnvOf (numsOf s))) a n cap M := by
  obtain ⟨S, h1, h2, h3⟩ := h.sk
  refine (I.add g S L s W h1 hs).mono ?_
  rintro e W' ⟨rfl, S', s1, s2, s3⟩
  refine ⟨rfl, h.low.trans (s3.below h.low.size (fun k hk hs => by have := h2 k hs; omega)), ⟨S', s1, fun k hk => ?_, fun x hx hs => ?_⟩, row_ch h.own s3 (fun g' hg => ?_)⟩
  · rcases s2 k hk with h' | h'
    · exact h2 k h'
    · exact Nat.le_trans h.low.size h'
  · rcases s2 _ hs with h' | h'
    · exact h3 x hx h'
    · have := (own_lies h.own hx).2; omega
  · cases a with
    | none => simp [Value.ownBlock] at hg
    | some x =>
      have : x.block = g' := by simpa [Value.ownBlock] using hg
      rw [← this]; exact h3 x rfl
theorem FwK.push (I : KmvI At) {x : Int} {o : Obj} {g' cap' : Nat} (h : FwK At w W g L a n cap M) (h1 : W'.ownsRow w.heap.size 31 1 (.slice (some ⟨g', 0, none⟩) (n + 1) cap') (n + 1) (M.map (Value.int .u64) ++ [.int .u64 x])) (h2 : (W.alloc o).grownBy W' (Value.slice a n cap).ownBlock) (h3 : (Value.slice a n cap).ownBlock = some g' ∨ (W.alloc o).heap.size ≤ g') :
    FwK At w W' g L (some ⟨g', 0, none⟩) (n + 1) cap' (M ++ [x]) := by
  obtain ⟨S, s1, s2, s3⟩ := h.sk
  have hb : Below W.heap.size W (W.alloc o) := (Below.refl _ _).alloc (Nat.le_refl _) o
  have t1 := I.below s1 hb
  have hap : ∀ k, S k → ¬ (Value.slice a n cap).ownBlock = some k := by
    intro k hk he
    cases a with
    | none => simp [Value.ownBlock] at he
    | some y =>
      have : y.block = k := by simpa [Value.ownBlock] using he
      exact s3 y rfl (this ▸ hk)
  have hlow := h.low.trans (hb.mono h.low.size)
  refine ⟨hlow.trans ((Ch.grown h2).below hlow.size (fun k hk he => ?_)), ⟨S, I.keep t1 (Ch.grown h2) hap, s2, fun y hy hs => ?_⟩, ?_⟩
  · have := own_block h.own k he; omega
  · simp only [Option.some.injEq] at hy
    subst hy
    rcases h3 with h3 | h3
    · exact hap _ hs h3
    · have := I.lt t1 _ hs; simp only at this; omega
  · have e : M.map (Value.int .u64) ++ [.int .u64 x] = (M ++ [x]).map (Value.int .u64) := by simp
    rw [e] at h1; exact h1
theorem FwK.pool (h : FwK At w W g L a n cap M) : PoolK At w W [(g, L)] := by
  obtain ⟨S, s1, s2, _⟩ := h.sk
  exact ⟨[⟨g, S, L⟩], rfl, h.low, by simpa using s1, by simp, by simpa using s2⟩
end
theorem one_wordcell (w : World) (k : Int) (e : TypeId) (j : Nat) (u : Value) (h : [Value.int .u64 k][j]? = some u) : (w.alloc (.cells #[.int .u64 k] e)).cell? ((⟨w.heap.size, 0, none⟩ : Addr).add j) = some u := by
  match j, h with
  | 0, h => simp at h; subst h; rw [Addr.add_lit, World.cell?_alloc_mark]; rfl
end Go.Proofs.Ytlhiikibbppodaa
