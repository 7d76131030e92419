/-
  Both file systems side by side, apart: what each call does to the two; what a call of the laws asks of both, in plain words.
  Conditions: as each theorem says.
-/
import Derived.Test.YthlkmjaflomflaaGreatVfsLo
import Derived.Test.YthlkmjaflomflaaGreatVfsRc
namespace Go.Proofs.YthlkmjaflomflaaGreat
open Go.RowKit Go.Maps
set_option maxRecDepth 20000
set_option linter.unusedVariables false

/-- The landed one (F, at g, in the blocks S) and the document's (G, at h, in the blocks T), all from base on. -/
structure TwoA (base : Nat) (w u : World) (g h : Nat) (S T : Nat → Prop) (F G : Fs) : Prop where
  l : LAt u g S F
  r : RAt u h T G
  ls : ∀ k, S k → base ≤ k
  rs : ∀ k, T k → base ≤ k
  ap : ∀ k, S k → ¬ T k
  bel : Below base w u
  sz : base ≤ u.heap.size
section
variable {base : Nat} {w u v : World} {g h : Nat} {S T : Nat → Prop} {F G : Fs}
theorem TwoA.below (t : TwoA base w u g h S T F G) (b : Below u.heap.size u v) : TwoA base w v g h S T F G :=
  ⟨t.l.below b, t.r.below b, t.ls, t.rs, t.ap, t.bel.trans (b.mono t.sz), Nat.le_trans t.sz b.size⟩
/-- Blocks of neither have turned. -/
theorem TwoA.keep {C : Nat → Prop} (t : TwoA base w u g h S T F G) (k : Ch C u v) (hl : ∀ j, S j → ¬ C j) (hr : ∀ j, T j → ¬ C j) (hb : ∀ j, C j → base ≤ j) : TwoA base w v g h S T F G :=
  ⟨t.l.keep k hl, t.r.keep k hr, t.ls, t.rs, t.ap, t.bel.trans (k.below t.sz (fun j hj hc => by have := hb j hc; omega)), Nat.le_trans t.sz k.size⟩
theorem TwoA.left {X : Fs} (t : TwoA base w u g h S T F G) (s : StepV LAt u v g S X) : ∃ S', TwoA base w v g h S' T X G ∧ ∀ k, S' k → S k ∨ u.heap.size ≤ k := by
  obtain ⟨S', q1, q2, q3⟩ := s
  refine ⟨S', ⟨q1, t.r.keep q3 (fun j hj hs => t.ap j hs hj), fun k hk => ?_, t.rs, fun k hk ht => ?_, t.bel.trans (q3.below t.sz (fun j hj hs => by have := t.ls j hs; omega)), Nat.le_trans t.sz q3.size⟩, q2⟩
  · rcases q2 k hk with e | e
    · exact t.ls k e
    · exact Nat.le_trans t.sz e
  · rcases q2 k hk with e | e
    · exact t.ap k e ht
    · have := t.r.lt k ht
      omega
theorem TwoA.right {X : Fs} (t : TwoA base w u g h S T F G) (s : StepV RAt u v h T X) : ∃ T', TwoA base w v g h S T' F X ∧ ∀ k, T' k → T k ∨ u.heap.size ≤ k := by
  obtain ⟨T', q1, q2, q3⟩ := s
  refine ⟨T', ⟨t.l.keep q3 (fun j hj hs => t.ap j hj hs), q1, t.ls, fun k hk => ?_, fun k hk ht => ?_, t.bel.trans (q3.below t.sz (fun j hj hs => by have := t.rs j hs; omega)), Nat.le_trans t.sz q3.size⟩, q2⟩
  · rcases q2 k hk with e | e
    · exact t.rs k e
    · exact Nat.le_trans t.sz e
  · rcases q2 k ht with e | e
    · exact t.ap k hk e
    · have := t.l.lt k hk
      omega
end
/-- Both, somewhere from base on. -/
def TwoV (base : Nat) (w u : World) (g h : Nat) (F G : Fs) : Prop := ∃ S T, TwoA base w u g h S T F G
theorem TwoA.two {base : Nat} {w u : World} {g h : Nat} {S T : Nat → Prop} {F G : Fs} (t : TwoA base w u g h S T F G) : TwoV base w u g h F G := ⟨S, T, t⟩
section
variable {base : Nat} {w u v : World} {g h : Nat} {F G : Fs}
theorem TwoV.below (t : TwoV base w u g h F G) (b : Below u.heap.size u v) : TwoV base w v g h F G := by
  obtain ⟨S, T, q⟩ := t
  exact ⟨S, T, q.below b⟩
theorem TwoV.bel (t : TwoV base w u g h F G) : Below base w u := by
  obtain ⟨S, T, q⟩ := t
  exact q.bel
theorem TwoV.sz (t : TwoV base w u g h F G) : base ≤ u.heap.size := by
  obtain ⟨S, T, q⟩ := t
  exact q.sz
/-- Both made anew. -/
theorem two_made {u1 u2 : World} {g h : Nat} {F G : Fs} (b : Below base w u) (hb : base ≤ u.heap.size) (m1 : MadeV LAt u u1 g F) (m2 : MadeV RAt u1 u2 h G) : TwoV base w u2 g h F G := by
  obtain ⟨S, p1, p2, p3⟩ := m1
  obtain ⟨T, q1, q2, q3⟩ := m2
  have s1 := p3.size
  have s2 := q3.size
  refine ⟨S, T, p1.below q3, q1, fun k hk => Nat.le_trans hb (p2 k hk), fun k hk => by have := q2 k hk; omega, fun k hk ht => ?_, (b.trans (p3.mono hb)).trans (q3.mono (by omega)), by omega⟩
  have h1 := p1.lt k hk
  have h2 := q2 k ht
  omega
/-- The landed one anew, the document's as it was made behind it. -/
theorem two_anew {u1 : World} {X : Fs} {h' : Nat} (t : TwoV base w u g h F G) (m : MadeV RAt u u1 h' X) : TwoV base w u1 g h' F X := by
  obtain ⟨S, T, q⟩ := t
  obtain ⟨T', p1, p2, p3⟩ := m
  refine ⟨S, T', q.l.below p3, p1, q.ls, fun k hk => Nat.le_trans q.sz (p2 k hk), fun k hk ht => ?_, q.bel.trans (p3.mono q.sz), Nat.le_trans q.sz p3.size⟩
  have h1 := q.l.lt k hk
  have h2 := p2 k ht
  omega
end
/-- A call: its kind from 0 to 9, its two names, its number, what it is armed with, its bytes, its picks. -/
structure CallV where
  k : Nat
  s : ByteArray
  t : ByteArray
  n : Int
  e : Int
  data : List Int
  picks : List Int
/-- What it does. -/
def opF (F : Fs) (x : CallV) : Fs × Int :=
  if x.k = 0 then createF F x.s
  else if x.k = 1 ∨ x.k = 2 then appendF F x.s x.data
  else if x.k = 3 then cutF F x.s x.n
  else if x.k = 4 then syncF F x.s
  else if x.k = 5 then renameF F x.s x.t
  else if x.k = 6 then removeF F x.s
  else if x.k = 7 then syncdirF F
  else if x.k = 8 then armF F x.e x.n
  else (crashF F x.n x.picks, 0)
theorem opF_lim {m : Nat} {F : Fs} (h : LimB m F) (x : CallV) (hd : x.data.length ≤ 500) : LimB (m + 502) (opF F x).1 := by
  unfold opF
  split
  · exact (h.create _).mono (by omega)
  · split
    · exact (h.append _ _).mono (by omega)
    · split
      · exact (h.cut _ _).mono (by omega)
      · split
        · exact (h.sync _).mono (by omega)
        · split
          · exact (h.rename _ _).mono (by omega)
          · split
            · exact (h.remove _).mono (by omega)
            · split
              · exact h.syncdir.mono (by omega)
              · split
                · exact (h.arm _ _).mono (by omega)
                · exact (h.crash _ _).mono (by omega)
end Go.Proofs.YthlkmjaflomflaaGreat
