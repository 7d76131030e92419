/-
  Several sketches side by side, none of which turns another.
  Conditions: as each theorem says.
-/
import Derived.Test.YtlhiikibbppodaaKmvI
namespace Go.Proofs.Ytlhiikibbppodaa
open Go.RowKit

/-- A sketch: where it lies, its blocks, its list. -/
structure Sk where
  g : Nat
  S : Nat → Prop
  l : List Int
/-- Sketches that were made since. -/
structure Pool (At : World → Nat → (Nat → Prop) → List Int → Prop) (w W : World) (ps : List Sk) : Prop where
  low : Below w.heap.size w W
  at' : ∀ p ∈ ps, At W p.g p.S p.l
  apart : ps.Pairwise (fun p q => ∀ k, p.S k → ¬ q.S k)
  new : ∀ p ∈ ps, ∀ k, p.S k → w.heap.size ≤ k
/-- .. of which the blocks are not told. -/
def PoolK (At : World → Nat → (Nat → Prop) → List Int → Prop) (w W : World) (qs : List (Nat × List Int)) : Prop := ∃ ps : List Sk, ps.map (fun p => (p.g, p.l)) = qs ∧ Pool At w W ps

section
variable {At : World → Nat → (Nat → Prop) → List Int → Prop}
theorem PoolK.nil {w W : World} (b : Below w.heap.size w W) : PoolK At w W [] := ⟨[], rfl, b, by simp, List.Pairwise.nil, by simp⟩
theorem PoolK.low {w W : World} {qs : List (Nat × List Int)} (h : PoolK At w W qs) : Below w.heap.size w W := by obtain ⟨_, _, h⟩ := h; exact h.low
theorem PoolK.below (I : KmvI At) {w W W' : World} {qs : List (Nat × List Int)} (h : PoolK At w W qs) (b : Below W.heap.size W W') : PoolK At w W' qs := by
  obtain ⟨ps, e, h⟩ := h
  exact ⟨ps, e, h.low.trans (b.mono h.low.size), fun p hp => I.below (h.at' p hp) b, h.apart, h.new⟩
theorem PoolK.made (I : KmvI At) {w W W' : World} {qs : List (Nat × List Int)} {g : Nat} {l : List Int} (h : PoolK At w W qs) (m : MadeK At W W' g l) : PoolK At w W' ((g, l) :: qs) := by
  obtain ⟨ps, e, h⟩ := h
  obtain ⟨S, m1, m2, m3⟩ := m
  refine ⟨⟨g, S, l⟩ :: ps, by simp [e], h.low.trans (m3.mono h.low.size), ?_, ?_, ?_⟩
  · intro p hp
    rcases List.mem_cons.1 hp with rfl | hp
    · exact m1
    · exact I.below (h.at' p hp) m3
  · refine List.pairwise_cons.2 ⟨fun p hp k hk hs => ?_, h.apart⟩
    have := m2 k hk
    have := I.lt (h.at' p hp) k hs
    omega
  · intro p hp k hk
    rcases List.mem_cons.1 hp with rfl | hp
    · exact Nat.le_trans h.low.size (m2 k hk)
    · exact h.new p hp k hk
theorem PoolK.has {w W : World} {q1 q2 : List (Nat × List Int)} {g : Nat} {l : List Int} (h : PoolK At w W (q1 ++ (g, l) :: q2)) :
    ∃ S, At W g S l ∧ ∀ k, S k → w.heap.size ≤ k := by
  obtain ⟨ps, e, h⟩ := h
  have hm : (g, l) ∈ ps.map (fun p => (p.g, p.l)) := by rw [e]; simp
  obtain ⟨p, hp, he⟩ := List.mem_map.1 hm
  simp only [Prod.mk.injEq] at he
  obtain ⟨rfl, rfl⟩ := he
  exact ⟨p.S, h.at' p hp, h.new p hp⟩
/-- .. all of whose blocks lie below N. -/
def PoolB (At : World → Nat → (Nat → Prop) → List Int → Prop) (w W : World) (N : Nat) (qs : List (Nat × List Int)) : Prop := ∃ ps : List Sk, ps.map (fun p => (p.g, p.l)) = qs ∧ Pool At w W ps ∧ ∀ p ∈ ps, ∀ k, p.S k → k < N
theorem PoolK.bound (I : KmvI At) {w W : World} {qs : List (Nat × List Int)} (h : PoolK At w W qs) : PoolB At w W W.heap.size qs := by
  obtain ⟨ps, e, h⟩ := h
  exact ⟨ps, e, h, fun p hp k hk => I.lt (h.at' p hp) k hk⟩
theorem PoolB.below (I : KmvI At) {w W W' : World} {N : Nat} {qs : List (Nat × List Int)} (h : PoolB At w W N qs) (b : Below W.heap.size W W') : PoolB At w W' N qs := by
  obtain ⟨ps, e, h, hN⟩ := h
  exact ⟨ps, e, ⟨h.low.trans (b.mono h.low.size), fun p hp => I.below (h.at' p hp) b, h.apart, h.new⟩, hN⟩
theorem PoolB.pool {w W : World} {N : Nat} {qs : List (Nat × List Int)} (h : PoolB At w W N qs) : PoolK At w W qs := by
  obtain ⟨ps, e, h, _⟩ := h
  exact ⟨ps, e, h⟩
/-- What one call turns of one sketch. -/
theorem PoolB.step (I : KmvI At) {w W : World} {N : Nat} {q1 q2 : List (Nat × List Int)} {g : Nat} {l l' : List Int} (h : PoolB At w W N (q1 ++ (g, l) :: q2)) :
    ∃ S, At W g S l ∧ (∀ k, S k → w.heap.size ≤ k ∧ k < N) ∧ ∀ W', StepK At W W' g S l' → PoolK At w W' (q1 ++ (g, l') :: q2) := by
  obtain ⟨ps, e, h, hN⟩ := h
  obtain ⟨p1, p2, rfl, e1, e2⟩ := List.map_eq_append_iff.1 e
  obtain ⟨p, p3, rfl, e3, e4⟩ := List.map_eq_cons_iff.1 e2
  simp only [Prod.mk.injEq] at e3
  obtain ⟨rfl, rfl⟩ := e3
  have hp : p ∈ p1 ++ p :: p3 := by simp
  refine ⟨p.S, h.at' p hp, fun k hk => ⟨h.new p hp k hk, hN p hp k hk⟩, fun W' st => ?_⟩
  obtain ⟨S', s1, s2, s3⟩ := st
  have ha := h.apart
  simp only [List.pairwise_append, List.pairwise_cons, List.mem_cons] at ha
  obtain ⟨a1, ⟨a2, a3⟩, a4⟩ := ha
  have hlow : Below w.heap.size w W' := h.low.trans (s3.below h.low.size (fun k hk hs => by have := h.new p hp k hs; omega))
  refine ⟨p1 ++ ⟨p.g, S', l'⟩ :: p3, by simp [e1, e4], hlow, ?_, ?_, ?_⟩
  · intro q hq
    rcases List.mem_append.1 hq with hq | hq
    · exact I.keep (h.at' q (by simp [hq])) s3 (fun k hk => a4 q hq p (Or.inl rfl) k hk)
    · rcases List.mem_cons.1 hq with rfl | hq
      · exact s1
      · exact I.keep (h.at' q (by simp [hq])) s3 (fun k hk hs => a2 q hq k hs hk)
  · simp only [List.pairwise_append, List.pairwise_cons, List.mem_cons]
    refine ⟨a1, ⟨fun q hq k hk hs => ?_, a3⟩, ?_⟩
    · rcases s2 k hk with h' | h'
      · exact a2 q hq k h' hs
      · have := I.lt (h.at' q (by simp [hq])) k hs; omega
    · rintro q hq r (rfl | hr) k hk hs
      · rcases s2 k hs with h' | h'
        · exact a4 q hq p (Or.inl rfl) k hk h'
        · have := I.lt (h.at' q (by simp [hq])) k hk; omega
      · exact a4 q hq r (Or.inr hr) k hk hs
  · intro q hq k hk
    rcases List.mem_append.1 hq with hq | hq
    · exact h.new q (by simp [hq]) k hk
    · rcases List.mem_cons.1 hq with rfl | hq
      · rcases s2 k hk with h' | h'
        · exact h.new p hp k h'
        · exact Nat.le_trans h.low.size h'
      · exact h.new q (by simp [hq]) k hk

theorem PoolK.from (I : KmvI At) {w W : World} {qs : List (Nat × List Int)} (h : PoolK At w W qs) {a : Option Addr} {n : Nat} (cap : Nat) {l : List Int} (hr : Row .u64 W a n l) (hck : chkK l = true) :
    Calls Try.prog 9 #[.slice a n cap] W fun e W' => ∃ g, e = .returned (.tuple #[.pointer (some ⟨g, 0, none⟩), .int .i64 0]) ∧ PoolK At w W' ((g, l) :: qs) := by
  refine (I.fromOk a n cap l W hr hck).mono ?_
  rintro e W' ⟨g, rfl, m⟩
  exact ⟨g, rfl, h.made I m⟩
theorem PoolK.hashes (I : KmvI At) {w W : World} (q1 q2 : List (Nat × List Int)) {g : Nat} {l : List Int} (h : PoolK At w W (q1 ++ (g, l) :: q2)) :
    Calls Try.prog 21 #[.pointer (some ⟨g, 0, none⟩)] W fun e W' => ∃ a c, e = .returned (.slice a l.length c) ∧ OwnU W' W.heap.size a l.length c l ∧ Row .u64 W' a l.length l ∧ Below W.heap.size W W' ∧ PoolB At w W' W.heap.size (q1 ++ (g, l) :: q2) := by
  obtain ⟨S, h1, h2⟩ := h.has
  obtain ⟨g1, g2, g3⟩ := I.good h1
  refine (I.hashes g S l W h1).mono ?_
  rintro e W' ⟨a, c, rfl, o, b⟩
  exact ⟨a, c, rfl, o, OwnU.rowU o (by omega) g3, b, (h.bound I).below I b⟩
end
end Go.Proofs.Ytlhiikibbppodaa
