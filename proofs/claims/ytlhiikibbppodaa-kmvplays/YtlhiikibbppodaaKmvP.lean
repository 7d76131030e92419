/-
  The law of layer 8 on any calls, of any layer that keeps its contracts.
  Conditions: the contracts.
-/
import Derived.Test.YtlhiikibbppodaaKmvTu
import Derived.Test.YtlhiikibbppodaaKmvMa
import Derived.Test.YtlhiikibbppodaaKmvO
namespace Go.Proofs.Ytlhiikibbppodaa
open Go.RowKit

/-- The law's own state: the sketch, the list that it is held against, blocks that must not turn. -/
structure PlK (At : World → Nat → (Nat → Prop) → List Int → Prop) (w W : World) (g : Nat) (hs : List Nat) (L : List Int) (a : Option Addr) (n cap : Nat) (M : List Int) : Prop where
  low : Below w.heap.size w W
  sk : ∃ S, At W g S L ∧ (∀ k, S k → w.heap.size ≤ k) ∧ (∀ x, a = some x → ¬ S x.block ∧ x.block < W.heap.size) ∧ ∀ k ∈ hs, ¬ S k ∧ k < W.heap.size
  row : Row .u64 W a n M
  room : n ≤ cap ∧ (a = none → cap = 0)

section
variable {At : World → Nat → (Nat → Prop) → List Int → Prop} {w W W' : World} {g : Nat} {hs : List Nat} {L M : List Int} {a : Option Addr} {n cap : Nat}
theorem row_chK {k : IntKind} {S : Nat → Prop} (h : Row k W a n M) (c : Ch S W W') (hn : ∀ x, a = some x → ¬ S x.block) : Row k W' a n M := by
  obtain ⟨h1, h2, h3, h4⟩ := h
  refine ⟨h1, h2, h3, ?_⟩
  rcases h4 with h4 | ⟨b, off, rfl, hc⟩
  · exact Or.inl h4
  · refine Or.inr ⟨b, off, rfl, fun i hi => ?_⟩
    have h5 := hc i hi
    have hlt : b < W.heap.size := World.block_lt_of_cell? W _ h5
    have hb := c.block b hlt (hn _ rfl)
    rw [← h5]
    simp only [World.cell?, hb]
theorem PlK.below (I : KmvI At) (h : PlK At w W g hs L a n cap M) (b : Below W.heap.size W W') : PlK At w W' g hs L a n cap M := by
  obtain ⟨S, h1, h2, h3, h4⟩ := h.sk
  exact ⟨h.low.trans (b.mono h.low.size), ⟨S, I.below h1 b, h2, fun x hx => ⟨(h3 x hx).1, Nat.lt_of_lt_of_le (h3 x hx).2 b.size⟩, fun k hk => ⟨(h4 k hk).1, Nat.lt_of_lt_of_le (h4 k hk).2 b.size⟩⟩, h.row.below b (Nat.le_refl _), h.room⟩
theorem PlK.held (h : PlK At w W g hs L a n cap M) (b : Below W.heap.size W W') {k : Nat} (hk : k ∈ hs) : W'.heap[k]? = W.heap[k]? := by
  obtain ⟨S, _, _, _, h4⟩ := h.sk
  exact b.block k (h4 k hk).2
theorem PlK.drop (h : PlK At w W g hs L a n cap M) : PlK At w W g [] L a n cap M := by
  obtain ⟨S, h1, h2, h3, _⟩ := h.sk
  exact ⟨h.low, ⟨S, h1, h2, h3, by simp⟩, h.row, h.room⟩
theorem PlK.alloc (I : KmvI At) (h : PlK At w W g hs L a n cap M) (o : Obj) : PlK At w (W.alloc o) g (W.heap.size :: hs) L a n cap M := by
  have b : Below W.heap.size W (W.alloc o) := (Below.refl _ _).alloc (Nat.le_refl _) o
  obtain ⟨S, h1, h2, h3, h4⟩ := h.sk
  have h' := h.below I b
  refine ⟨h'.low, ⟨S, I.below h1 b, h2, fun x hx => ⟨(h3 x hx).1, Nat.lt_of_lt_of_le (h3 x hx).2 b.size⟩, fun k hk => ?_⟩, h'.row, h'.room⟩
  rcases List.mem_cons.1 hk with rfl | hk
  · exact ⟨fun hs => by have := I.lt h1 _ hs; omega, by simp⟩
  · exact ⟨(h4 k hk).1, Nat.lt_of_lt_of_le (h4 k hk).2 b.size⟩
/-- What one call turns of the sketch. -/
theorem PlK.step (I : KmvI At) (h : PlK At w W g hs L a n cap M) {L' : List Int} : ∃ S, At W g S L ∧ (∀ x, a = some x → ¬ S x.block) ∧ (∀ k, S k → w.heap.size ≤ k ∧ k < W.heap.size) ∧ ∀ W', StepK At W W' g S L' → PlK At w W' g hs L' a n cap M ∧ ∀ k ∈ hs, W'.heap[k]? = W.heap[k]? := by
  obtain ⟨S, h1, h2, h3, h4⟩ := h.sk
  refine ⟨S, h1, fun x hx => (h3 x hx).1, fun k hk => ⟨h2 k hk, I.lt h1 k hk⟩, fun W' st => ?_⟩
  obtain ⟨S', s1, s2, s3⟩ := st
  refine ⟨⟨h.low.trans (s3.below h.low.size (fun k hk hs => by have := h2 k hs; omega)), ⟨S', s1, fun k hk => ?_, fun x hx => ⟨fun hs => ?_, Nat.lt_of_lt_of_le (h3 x hx).2 s3.size⟩, fun k hk => ⟨fun hs => ?_, Nat.lt_of_lt_of_le (h4 k hk).2 s3.size⟩⟩, row_chK h.row s3 (fun x hx => (h3 x hx).1), h.room⟩, fun k hk => s3.block k (h4 k hk).2 (h4 k hk).1⟩
  · rcases s2 k hk with h' | h'
    · exact h2 k h'
    · exact Nat.le_trans h.low.size h'
  · rcases s2 _ hs with h' | h'
    · exact (h3 x hx).1 h'
    · have := (h3 x hx).2; omega
  · rcases s2 _ hs with h' | h'
    · exact (h4 k hk).1 h'
    · have := (h4 k hk).2; omega
/-- The list that the reference hands back. -/
theorem PlK.back (I : KmvI At) (h : PlK At w W g hs L a n cap M) {e : Ending} {M' : List Int} (b : BackU W W' e a M') : ∃ a' c', e = .returned (.slice a' M'.length c') ∧ PlK At w W' g hs L a' M'.length c' M' := by
  obtain ⟨a', c', rfl, h1, h2, h3, h4, h5⟩ := b
  obtain ⟨S, s1, s2, s3, s4⟩ := h.sk
  refine ⟨a', c', rfl, h.low.trans (h4.mono h.low.size), ⟨S, I.below s1 h4, s2, fun x hx => ?_, fun k hk => ⟨(s4 k hk).1, Nat.lt_of_lt_of_le (s4 k hk).2 h4.size⟩⟩, h1, h2, h3⟩
  rcases h5 with rfl | h5
  · exact ⟨(s3 x hx).1, Nat.lt_of_lt_of_le (s3 x hx).2 h4.size⟩
  · exact ⟨fun hs => by have := I.lt s1 _ hs; have := (h5 x hx).1; omega, (h5 x hx).2⟩
theorem PlK.good (I : KmvI At) (h : PlK At w W g hs L a n cap M) : Up L ∧ L.length ≤ 1024 ∧ ∀ x ∈ L, W64 x := by
  obtain ⟨S, s1, _⟩ := h.sk
  exact I.good s1
theorem PlK.add (I : KmvI At) (h : PlK At w W g hs L a n cap M) (s : ByteArray) (hsz : s.size ≤ 9223372036854775807) :
    Calls Try.prog 14 #[.pointer (some ⟨g, 0, none⟩), .string s] W fun e W' => e = .returned (.tuple #[]) ∧ PlK At w W' g hs (hashK 1024 L (fnvOf (numsOf s))) a n cap M ∧ ∀ k ∈ hs, W'.heap[k]? = W.heap[k]? := by
  obtain ⟨S, h1, h2, h3, h4⟩ := h.step I (L' := hashK 1024 L (fnvOf (numsOf s)))
  refine (I.add g S L s W h1 hsz).mono ?_
  rintro e W' ⟨rfl, st⟩
  exact ⟨rfl, h4 W' st⟩
theorem PlK.hash (I : KmvI At) (h : PlK At w W g hs L a n cap M) {x : Int} (hx : W64 x) :
    Calls Try.prog 16 #[.pointer (some ⟨g, 0, none⟩), .int .u64 x] W fun e W' => e = .returned (.tuple #[]) ∧ PlK At w W' g hs (hashK 1024 L x) a n cap M ∧ ∀ k ∈ hs, W'.heap[k]? = W.heap[k]? := by
  obtain ⟨S, h1, h2, h3, h4⟩ := h.step I (L' := hashK 1024 L x)
  refine (I.hash g S L x W h1 hx).mono ?_
  rintro e W' ⟨rfl, st⟩
  exact ⟨rfl, h4 W' st⟩
/-- Numbers of a call's own are merged. -/
theorem PlK.merge (I : KmvI At) (IM : KmvIM At) {W0 : World} (h : PlK At w W0 g hs L a n cap M) (b : Below W0.heap.size W0 W) {x : Option Addr} {m c : Nat} {N : List Int} (o : OwnU W W0.heap.size x m c N) (hm : m ≤ 281474976710656) (hw : ∀ y ∈ N, W64 y) (hck : chkK N = true) :
    Calls Try.prog 18 #[.pointer (some ⟨g, 0, none⟩), .slice x m c] W fun e W' => e = .returned (.int .i64 0) ∧ PlK At w W' g hs (hashAll 1024 L N) a n cap M ∧ ∀ k ∈ hs, W'.heap[k]? = W.heap[k]? := by
  obtain ⟨S, s1, s2, s3, s4⟩ := h.sk
  have h' : ∀ W', StepK At W W' g S (hashAll 1024 L N) → PlK At w W' g hs (hashAll 1024 L N) a n cap M ∧ ∀ k ∈ hs, W'.heap[k]? = W.heap[k]? := by
    intro W' st
    have hb := h.below I b
    obtain ⟨S', t1, t2, t3⟩ := st
    have lo := hb.low
    refine ⟨⟨lo.trans (t3.below lo.size (fun k hk hs => by have := s2 k hs; omega)), ⟨S', t1, fun k hk => ?_, fun y hy => ⟨fun hs => ?_, Nat.lt_of_lt_of_le (s3 y hy).2 (Nat.le_trans b.size t3.size)⟩, fun k hk => ⟨fun hs => ?_, Nat.lt_of_lt_of_le (s4 k hk).2 (Nat.le_trans b.size t3.size)⟩⟩, row_chK hb.row t3 (fun y hy => (s3 y hy).1), hb.room⟩, fun k hk => t3.block k (Nat.lt_of_lt_of_le (s4 k hk).2 b.size) (s4 k hk).1⟩
    · rcases t2 k hk with h' | h'
      · exact s2 k h'
      · exact Nat.le_trans lo.size h'
    · rcases t2 _ hs with h' | h'
      · exact (s3 y hy).1 h'
      · have := (s3 y hy).2; have := b.size; omega
    · rcases t2 _ hs with h' | h'
      · exact (s4 k hk).1 h'
      · have := (s4 k hk).2; have := b.size; omega
  refine (IM.mergeOk g S L x m c N W (I.below s1 b) (OwnU.rowU o hm hw) (fun _ y hy hs => ?_) hck).mono ?_
  · have := (own_lies o hy).1
    have := I.lt s1 _ hs
    omega
  · rintro e W' ⟨rfl, st⟩
    exact ⟨rfl, h' W' st⟩
theorem PlK.mergeNo (I : KmvI At) (IM : KmvIM At) (h : PlK At w W g hs L a n cap M) {x : Option Addr} {m c : Nat} {N : List Int} (hr : Row .u64 W x m N) (hck : chkK N = false) :
    Calls Try.prog 18 #[.pointer (some ⟨g, 0, none⟩), .slice x m c] W fun e W' => e = .returned (.int .i64 5) ∧ PlK At w W' g hs L a n cap M ∧ ∀ k ∈ hs, W'.heap[k]? = W.heap[k]? := by
  obtain ⟨S, s1, _, _, _⟩ := h.sk
  refine (IM.mergeNo g S L x m c N W s1 hr hck).mono ?_
  rintro e W' ⟨rfl, b⟩
  exact ⟨rfl, h.below I b, fun k hk => h.held b hk⟩
end
end Go.Proofs.Ytlhiikibbppodaa
