/-
  Matchers in memory: their five cells, their values and their kids, and which blocks they lie in. No function is named.
  Conditions: as each theorem says.
-/
import Derived.Test.YtpffhpnmbpjifaaGreatLabZa
import Derived.Test.YtpffhpnmbpjifaaGreatVintZa
namespace Go.Proofs.YtpffhpnmbpjifaaGreat
open Go.RowKit
set_option maxRecDepth 20000

/-- What a matcher's five cells hold. -/
structure Hm where
  op : Int
  nm : ByteArray
  vl : ByteArray
  va : Option Addr
  vn : Nat
  vc : Nat
  ka : Option Addr
  kn : Nat
  kc : Nat
def Hm.cells (h : Hm) : List Value := [.int .i64 h.op, .string h.nm, .string h.vl, .slice h.va h.vn h.vc, .slice h.ka h.kn h.kc]
def five (w : World) (b off : Nat) (h : Hm) : Prop := ∀ j v, h.cells[j]? = some v → w.cell? ⟨b, off + j, none⟩ = some v
/-- A row of texts, in one of these blocks. -/
def TxR (S : Nat → Prop) (w : World) (a : Option Addr) (n : Nat) (ss : List ByteArray) : Prop :=
  ss.length = n ∧ n * 16 ≤ 140737488355328 ∧ (∀ s ∈ ss, s.size ≤ 9223372036854775807) ∧
  (n = 0 ∨ ∃ b off, a = some ⟨b, off, none⟩ ∧ S b ∧ ∀ i, i < n → w.cell? ⟨b, off + i, none⟩ = some (.string (ss.getD i ByteArray.empty)))
/-- Cells as cells may be. -/
structure HmW (h : Hm) : Prop where
  op : (Lit.int .i64 h.op).wf = true
  nm : h.nm.size ≤ 9223372036854775807
  vl : h.vl.size ≤ 9223372036854775807
  vn : h.vn ≤ h.vc
  vz : h.va = none → h.vc = 0
  kn : h.kn * 88 ≤ 140737488355328
  kle : h.kn ≤ h.kc
  kz : h.ka = none → h.kc = 0

mutual
/-- Cells that show a matcher, all of it in these blocks. -/
def SeeM (S : Nat → Prop) (w : World) : Mt → Hm → Prop
  | .mk op nm vl vs ks, h => h.op = op ∧ h.nm = nm ∧ h.vl = vl ∧ HmW h ∧ TxR S w h.va h.vn vs ∧ ks.length = h.kn ∧ (h.kn = 0 ∨ ∃ b off, h.ka = some ⟨b, off, none⟩ ∧ S b ∧ SeeKs S w ks b off)
def SeeKs (S : Nat → Prop) (w : World) : List Mt → Nat → Nat → Prop
  | [], _, _ => True
  | k :: ks, b, off => (∃ h, five w b off h ∧ SeeM S w k h) ∧ SeeKs S w ks b (off + 5)
end
theorem seeKs_iff {S : Nat → Prop} {w : World} {ks : List Mt} {b off : Nat} : SeeKs S w ks b off ↔ ∀ i k, ks[i]? = some k → ∃ h, five w b (off + i * 5) h ∧ SeeM S w k h := by
  induction ks generalizing off with
  | nil => simp [SeeKs]
  | cons x t ih =>
    rw [SeeKs, ih]
    constructor
    · rintro ⟨h0, h1⟩ i k hi
      cases i with
      | zero =>
        simp only [List.getElem?_cons_zero, Option.some.injEq] at hi
        subst hi
        rw [Nat.zero_mul, Nat.add_zero]
        exact h0
      | succ i =>
        rw [List.getElem?_cons_succ] at hi
        obtain ⟨h, q1, q2⟩ := h1 i k hi
        exact ⟨h, by rw [show off + (i + 1) * 5 = off + 5 + i * 5 by omega]; exact q1, q2⟩
    · intro hh
      refine ⟨?_, fun i k hi => ?_⟩
      · have := hh 0 x rfl
        rw [Nat.zero_mul, Nat.add_zero] at this
        exact this
      · obtain ⟨h, q1, q2⟩ := hh (i + 1) k (by rw [List.getElem?_cons_succ]; exact hi)
        exact ⟨h, by rw [show off + 5 + i * 5 = off + (i + 1) * 5 by omega]; exact q1, q2⟩
theorem seeM_iff {S : Nat → Prop} {w : World} {m : Mt} {h : Hm} : SeeM S w m h ↔ h.op = m.op ∧ h.nm = m.nm ∧ h.vl = m.vl ∧ HmW h ∧ TxR S w h.va h.vn m.vs ∧ m.ks.length = h.kn ∧ (h.kn = 0 ∨ ∃ b off, h.ka = some ⟨b, off, none⟩ ∧ S b ∧ ∀ i k, m.ks[i]? = some k → ∃ h', five w b (off + i * 5) h' ∧ SeeM S w k h') := by
  cases m with
  | mk op nm vl vs ks =>
    rw [SeeM]
    simp only [seeKs_iff]
    exact Iff.rfl

section
variable {S : Nat → Prop} {w w' : World} {m : Mt} {h : Hm}
theorem five.lt {b off : Nat} (q : five w b off h) : b < w.heap.size := World.block_lt_of_cell? w _ (q 0 _ rfl)
theorem five.block {b off : Nat} (q : five w b off h) (e : w'.heap[b]? = w.heap[b]?) : five w' b off h := by
  intro j v hj
  have := q j v hj
  simp only [World.cell?] at this ⊢
  rw [e]
  exact this
/-- The five cells, one by one. -/
theorem five.all {b off : Nat} (q : five w b off h) : w.cell? ⟨b, off, none⟩ = some (.int .i64 h.op) ∧ w.cell? ⟨b, off + 1, none⟩ = some (.string h.nm) ∧ w.cell? ⟨b, off + 2, none⟩ = some (.string h.vl) ∧ w.cell? ⟨b, off + 3, none⟩ = some (.slice h.va h.vn h.vc) ∧ w.cell? ⟨b, off + 4, none⟩ = some (.slice h.ka h.kn h.kc) :=
  ⟨q 0 _ rfl, q 1 _ rfl, q 2 _ rfl, q 3 _ rfl, q 4 _ rfl⟩
theorem TxR.ch {C : Nat → Prop} {a : Option Addr} {n : Nat} {ss : List ByteArray} (q : TxR S w a n ss) (c : Ch C w w') (hn : ∀ k, S k → ¬ C k) : TxR S w' a n ss := by
  obtain ⟨h1, h2, h3, h4⟩ := q
  refine ⟨h1, h2, h3, ?_⟩
  rcases h4 with h4 | ⟨b, off, rfl, hs, hc⟩
  · exact Or.inl h4
  · by_cases h0 : n = 0
    · exact Or.inl h0
    · right
      have hlt : b < w.heap.size := World.block_lt_of_cell? w _ (hc 0 (by omega))
      refine ⟨b, off, rfl, hs, fun i hi => ?_⟩
      have := hc i hi
      simp only [World.cell?] at this ⊢
      rw [c.block b hlt (hn b hs)]
      exact this
theorem TxR.mono {S' : Nat → Prop} {a : Option Addr} {n : Nat} {ss : List ByteArray} (q : TxR S w a n ss) (hs : ∀ k, k < w.heap.size → S k → S' k) : TxR S' w a n ss := by
  obtain ⟨h1, h2, h3, h4⟩ := q
  refine ⟨h1, h2, h3, ?_⟩
  rcases h4 with h4 | ⟨b, off, rfl, hb, hc⟩
  · exact Or.inl h4
  · by_cases h0 : n = 0
    · exact Or.inl h0
    · exact Or.inr ⟨b, off, rfl, hs b (World.block_lt_of_cell? w _ (hc 0 (by omega))) hb, hc⟩
theorem SeeM.ch {C : Nat → Prop} (q : SeeM S w m h) (c : Ch C w w') (hn : ∀ k, S k → ¬ C k) : SeeM S w' m h := by
  refine Mt.ind (P := fun m => ∀ h, SeeM S w m h → SeeM S w' m h) ?_ m h q
  intro m ih h q
  rw [seeM_iff] at q ⊢
  obtain ⟨q1, q2, q3, q4, q5, q6, q7⟩ := q
  refine ⟨q1, q2, q3, q4, q5.ch c hn, q6, ?_⟩
  rcases q7 with q7 | ⟨b, off, hb, hs, hk⟩
  · exact Or.inl q7
  · right
    refine ⟨b, off, hb, hs, fun i k hi => ?_⟩
    obtain ⟨h', k1, k2⟩ := hk i k hi
    exact ⟨h', k1.block (c.block b k1.lt (hn b hs)), ih k (List.mem_of_getElem? hi) h' k2⟩
theorem SeeM.mono {S' : Nat → Prop} (q : SeeM S w m h) (hs : ∀ k, k < w.heap.size → S k → S' k) : SeeM S' w m h := by
  refine Mt.ind (P := fun m => ∀ h, SeeM S w m h → SeeM S' w m h) ?_ m h q
  intro m ih h q
  rw [seeM_iff] at q ⊢
  obtain ⟨q1, q2, q3, q4, q5, q6, q7⟩ := q
  refine ⟨q1, q2, q3, q4, q5.mono hs, q6, ?_⟩
  rcases q7 with q7 | ⟨b, off, hb, hsb, hk⟩
  · exact Or.inl q7
  · by_cases h0 : h.kn = 0
    · exact Or.inl h0
    · right
      have hx : m.ks[0]? = some m.ks[0] := List.getElem?_eq_getElem (by omega)
      obtain ⟨h0', k1, _⟩ := hk 0 _ hx
      refine ⟨b, off, hb, hs b k1.lt hsb, fun i k hi => ?_⟩
      obtain ⟨h', k1, k2⟩ := hk i k hi
      exact ⟨h', k1, ih k (List.mem_of_getElem? hi) h' k2⟩
theorem SeeM.below (q : SeeM S w m h) (hb : Below w.heap.size w w') : SeeM S w' m h := q.ch (Ch.of_below hb) (fun _ _ => id)
theorem SeeM.drew (q : SeeM S w m h) : SeeM S w.drew m h := q.below ((Below.refl _ _).drew)
theorem SeeM.drewN (q : SeeM S w m h) (j : Nat) : SeeM S (w.drewN j) m h := q.below (bel_drewN (Below.refl _ _) j)
theorem SeeM.alloc (q : SeeM S w m h) (o : Obj) : SeeM S (w.alloc o) m h := q.below ((Below.refl _ _).alloc (Nat.le_refl _) _)
/-- A kid's five cells, and that they show it. -/
theorem SeeM.kid (q : SeeM S w m h) {i : Nat} (hi : i < h.kn) : ∃ b off k h', h.ka = some ⟨b, off, none⟩ ∧ m.ks[i]? = some k ∧ S b ∧ five w b (off + i * 5) h' ∧ SeeM S w k h' := by
  rw [seeM_iff] at q
  obtain ⟨_, _, _, _, _, q6, q7⟩ := q
  rcases q7 with q7 | ⟨b, off, hb, hs, hk⟩
  · omega
  · have hx : m.ks[i]? = some m.ks[i] := List.getElem?_eq_getElem (by omega)
    obtain ⟨h', k1, k2⟩ := hk i _ hx
    exact ⟨b, off, _, h', hb, hx, hs, k1, k2⟩
/-- A value's cell. -/
theorem TxR.at' {a : Option Addr} {n : Nat} {ss : List ByteArray} (q : TxR S w a n ss) {i : Nat} (hi : i < n) : ∃ b off s, a = some ⟨b, off, none⟩ ∧ ss[i]? = some s ∧ s.size ≤ 9223372036854775807 ∧ S b ∧ w.cell? ⟨b, off + i, none⟩ = some (.string s) := by
  obtain ⟨h1, h2, h3, h4 | ⟨b, off, rfl, hs, hc⟩⟩ := q
  · omega
  · have hx : ss[i]? = some ss[i] := List.getElem?_eq_getElem (by omega)
    refine ⟨b, off, ss[i], rfl, hx, h3 _ (List.getElem_mem _), hs, ?_⟩
    rw [hc i hi, List.getD_eq_getElem?_getD, hx]
    rfl
theorem seeM_zero (S : Nat → Prop) (w : World) : SeeM S w zeroM ⟨0, .empty, .empty, none, 0, 0, none, 0, 0⟩ := by
  rw [seeM_iff]
  refine ⟨rfl, rfl, rfl, ⟨by decide, by decide, by decide, by decide, fun _ => rfl, by decide, by decide, fun _ => rfl⟩, ⟨rfl, by decide, ?_, Or.inl rfl⟩, rfl, Or.inl rfl⟩
  intro s hs
  cases hs
end
end Go.Proofs.YtpffhpnmbpjifaaGreat
