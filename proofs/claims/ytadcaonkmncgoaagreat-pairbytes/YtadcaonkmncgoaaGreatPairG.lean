/-
  The landed code's growing sketch: how it lies in memory (a struct, its counts, its hashes, its gauge), and what its four functions come to: contracts.
  Conditions: the growing sketch lies in memory; what is taken in may be a sketch and lies elsewhere.
-/
import Derived.Test.YtadcaonkmncgoaaGreatPairJ
import Derived.Test.YtadcaonkmncgoaaGreatHistAz
import Derived.Test.YtadcaonkmncgoaaGreatKmvNz
import Derived.Test.YtadcaonkmncgoaaGreatGaugeAz
import Derived.Deep.RegionHeld3
namespace Go.Proofs.YtadcaonkmncgoaaGreat
open Go.RowKit Go.Maps
set_option maxRecDepth 20000

theorem kadd_at (g b : Nat) (D : DataW Unit) (l : List Int) (s : ByteArray) (w : World) (H : KB w g b D l (l.getLastD 0)) (hl : l.length ≤ 1024) (hs : s.size ≤ 9223372036854775807) :
    Calls Tryz.prog 75 #[.pointer (some ⟨g, 0, none⟩), .string s] w fun e w' => e = .returned (.tuple #[]) ∧ (∃ D', KB w' g b D' (hashK 1024 l (fnvOf (numsOf s))) ((hashK 1024 l (fnvOf (numsOf s))).getLastD 0)) ∧ Ch (KS g b) w w' := by
  have OF := hide (fnvOf_any s w hs)
  have HA := hide (khash_any g b D l (fnvOf (numsOf s)) w H hl (fnvOf_word _))
  clear H
  generalize fnvOf (numsOf s) = h at *
  go_enter Tryz.func75, Tryz.ntmps75
  go_wp2_with fail
  refine OF.out.mono ?_
  rintro e w1 ⟨rfl, hw1⟩
  subst hw1
  go_wp2_with fail
  refine HA.out.mono ?_
  rintro e w2 ⟨rfl, K2, C2⟩
  have HK2 := hide K2
  have HC2 := hide C2
  clear K2 C2 HA OF
  go_wp2
  go_end0
  exact ⟨rfl, HK2.out, HC2.out⟩

/-- A growing sketch at block p: its counts at block g, its hashes at block k (their map at block b), its gauge beside. -/
structure Gr (w : World) (p g k b : Nat) (s : Sp) : Prop where
  str : w.heap[p]? = some (.cells #[.pointer (some ⟨g, 0, none⟩), .pointer (some ⟨k, 0, none⟩), .int .u64 s.g.n, .int .u64 s.g.nans, .int .u64 s.g.lo, .int .u64 s.g.hi] 102 (0, 0))
  hist : ∃ H, HistAt w g H ∧ spS H = s.hist
  keys : ∃ D, KB w k b D s.keys (s.keys.getLastD 0)
  few : s.keys.length ≤ 1024
  gw : GW s.g
  gc : chkG s.g = true
def GrS (p g k b : Nat) : Nat → Prop := fun x => x = p ∨ x = g ∨ x = k ∨ x = b
section
variable {w w' : World} {p g k b : Nat} {s : Sp}
theorem Gr.lt (q : Gr w p g k b s) : p < w.heap.size ∧ g < w.heap.size ∧ k < w.heap.size ∧ b < w.heap.size := by
  obtain ⟨H, hH, _⟩ := q.hist
  obtain ⟨D, hK⟩ := q.keys
  exact ⟨(Array.getElem?_eq_some_iff.1 q.str).1, hH.lt, hK.lt.1, hK.lt.2⟩
theorem Gr.ne (q : Gr w p g k b s) : p ≠ g ∧ p ≠ k ∧ p ≠ b ∧ g ≠ k ∧ g ≠ b ∧ k ≠ b := by
  obtain ⟨H, hH, _⟩ := q.hist
  obtain ⟨D, hK⟩ := q.keys
  have h1 := q.str
  have h2 := hH.heap
  have h3 := hK.str
  obtain ⟨es, clock, h4, _⟩ := hK.map
  refine ⟨?_, ?_, ?_, ?_, ?_, hK.ne⟩
  · rintro rfl; rw [h1] at h2; simp at h2
  · rintro rfl; rw [h1] at h3; simp at h3
  · rintro rfl; rw [h1] at h4; simp at h4
  · rintro rfl; rw [h2] at h3; simp at h3
  · rintro rfl; rw [h2] at h4; simp at h4
theorem Gr.ch {S : Nat → Prop} (q : Gr w p g k b s) (c : Ch S w w') (hp : ¬ S p) (hg : ¬ S g) (hk : ¬ S k) (hb : ¬ S b) : Gr w' p g k b s := by
  obtain ⟨H, hH, e⟩ := q.hist
  obtain ⟨D, hK⟩ := q.keys
  exact ⟨(c.block p q.lt.1 hp).trans q.str, ⟨H, hH.ch c hg, e⟩, ⟨D, hK.ch c hk hb⟩, q.few, q.gw, q.gc⟩
theorem Gr.below (q : Gr w p g k b s) (h : Below w.heap.size w w') : Gr w' p g k b s := q.ch (Ch.of_below h) (fun e => e) (fun e => e) (fun e => e) (fun e => e)
theorem Gr.alloc (q : Gr w p g k b s) (o : Obj) : Gr (w.alloc o) p g k b s := q.below ((Below.refl _ _).alloc (Nat.le_refl _) o)
theorem Gr.drewN (q : Gr w p g k b s) (n : Nat) : Gr (w.drewN n) p g k b s := q.below (bel_drewN (Below.refl _ _) n)
theorem Gr.drew (q : Gr w p g k b s) : Gr w.drew p g k b s := q.below (Below.refl _ _).drew
/-- What a walk reads of it. -/
theorem Gr.cells (q : Gr w p g k b s) : w.cell? ⟨p, 0, none⟩ = some (.pointer (some ⟨g, 0, none⟩)) ∧ w.cell? ⟨p, 1, none⟩ = some (.pointer (some ⟨k, 0, none⟩)) ∧ w.cell? ⟨p, 2, none⟩ = some (.int .u64 s.g.n) ∧ w.cell? ⟨p, 3, none⟩ = some (.int .u64 s.g.nans) ∧ w.cell? ⟨p, 4, none⟩ = some (.int .u64 s.g.lo) ∧ w.cell? ⟨p, 5, none⟩ = some (.int .u64 s.g.hi) := by
  have h := q.str
  exact ⟨by rw [cell_of_row w p 0 _ _ (0, 0) h]; rfl, by rw [cell_of_row w p 1 _ _ (0, 0) h]; rfl, by rw [cell_of_row w p 2 _ _ (0, 0) h]; rfl, by rw [cell_of_row w p 3 _ _ (0, 0) h]; rfl, by rw [cell_of_row w p 4 _ _ (0, 0) h]; rfl, by rw [cell_of_row w p 5 _ _ (0, 0) h]; rfl⟩
theorem Gr.fz (q : Gr w p g k b s) (i : Nat) : w.frozen? ⟨p, i, none⟩ = false := frozen_of_row w p i _ _ q.str
theorem Gr.ok (q : Gr w p g k b s) : Ok s := by
  obtain ⟨H, hH, e⟩ := q.hist
  obtain ⟨D, hK⟩ := q.keys
  exact ⟨by rw [← e]; exact good_spS hH.len hH.words, up_chk hK.set.up q.few hK.set.words, hK.set.words, q.gw, q.gc⟩
/-- The gauge written anew. -/
theorem Gr.setG (q : Gr w p g k b s) {z : Gz} (hw : GW z) (hc : chkG z = true) : Gr ((((w.setCell ⟨p, 2, none⟩ (.int .u64 z.n)).setCell ⟨p, 3, none⟩ (.int .u64 z.nans)).setCell ⟨p, 4, none⟩ (.int .u64 z.lo)).setCell ⟨p, 5, none⟩ (.int .u64 z.hi)) p g k b ⟨s.hist, s.keys, z⟩ := by
  have c : Ch (fun x => x = p) w ((((w.setCell ⟨p, 2, none⟩ (.int .u64 z.n)).setCell ⟨p, 3, none⟩ (.int .u64 z.nans)).setCell ⟨p, 4, none⟩ (.int .u64 z.lo)).setCell ⟨p, 5, none⟩ (.int .u64 z.hi)) := (((ch_set _ _ _ _).trans (ch_set _ _ _ _)).trans (ch_set _ _ _ _)).trans (ch_set _ _ _ _)
  obtain ⟨n1, n2, n3, n4, n5, n6⟩ := q.ne
  obtain ⟨H, hH, e⟩ := q.hist
  obtain ⟨D, hK⟩ := q.keys
  refine ⟨?_, ⟨H, hH.ch c (fun e => n1 e.symm), e⟩, ⟨D, hK.ch c (fun e => n2 e.symm) (fun e => n3 e.symm)⟩, q.few, hw, hc⟩
  have h2 := heap_setCell_same w p 2 _ _ (.int .u64 z.n) q.str
  have h3 := heap_setCell_same _ p 3 _ _ (.int .u64 z.nans) h2
  have h4 := heap_setCell_same _ p 4 _ _ (.int .u64 z.lo) h3
  have h5 := heap_setCell_same _ p 5 _ _ (.int .u64 z.hi) h4
  rw [h5]
  rfl
end

set_option maxHeartbeats 1000000 in
theorem begin_any (w : World) : Calls Tryz.prog 56 #[] w fun e w' => ∃ p g k b, e = .returned (.pointer (some ⟨p, 0, none⟩)) ∧ Gr w' p g k b zeroP ∧ (w.heap.size ≤ p ∧ w.heap.size ≤ g ∧ w.heap.size ≤ k ∧ w.heap.size ≤ b) ∧ Below w.heap.size w w' := by
  have C1 := hide (new_any w)
  have C2 := hide (fun W => knew_any W)
  go_enter Tryz.func56, Tryz.ntmps56
  go_wp2_with fail
  with_reducible refine C1.out.mono ?_
  rintro e w1 ⟨rfl, h1, b1⟩
  obtain ⟨g, hg⟩ : ∃ g, Hid (w.heap.size = g) := ⟨_, rfl⟩
  rw [hg.out] at h1
  rw [hg.out]
  have H1 := hide h1
  have L1 : Hid (Below w.heap.size w w1) := b1
  clear h1 b1 C1
  go_wp2_with fail
  with_reducible refine (C2.out _).mono ?_
  rintro e w2 ⟨k, b, D, rfl, h2, z1, z2, b2⟩
  have H2 := hide h2
  have H1' := hide (H1.out.below b2 H1.out.lt)
  have L2 : Hid (Below w.heap.size w w2) := bel_to L1.out (Nat.le_refl _) b2
  have Z : Hid (w1.heap.size ≤ k ∧ w1.heap.size ≤ b) := ⟨z1, z2⟩
  clear h2 b2 C2 z1 z2
  go_wp2
  go_ret
  have l1 := L1.out.size
  have l2 := L2.out.size
  have o := Z.out
  refine ⟨w2.heap.size, g, k, b, rfl, ⟨?_, ⟨H0, H1'.out.alloc _, spS_H0⟩, ⟨D, H2.out.below ((Below.refl _ _).alloc (Nat.le_refl _) _)⟩, by decide, g0W, chk0⟩, ⟨by omega, by rw [hg.out]; exact Nat.le_refl _, by omega, by omega⟩, L2.out.alloc L2.out.size _⟩
  exact World.alloc_heap_new w2 _

theorem see_hist {H : List Int} {w : World} {g : Nat} (h : HistAt w g H) {v : Int} (hv : W64 v) : spS (addH H v 1) = insS (bucketS v) 1 (spS H) := by
  obtain ⟨b0, b1⟩ := bucketS_range hv.1 hv.2
  unfold addH
  rw [spS_add h.len h.words b0 b1 ⟨by decide, by decide⟩]
  unfold addN
  rw [if_neg (by decide)]

/-- A growing sketch that a call made: what lay there before the call stays. -/
structure Gw (wb w : World) (p g k b : Nat) (s : Sp) : Prop where
  gr : Gr w p g k b s
  lo : wb.heap.size ≤ p ∧ wb.heap.size ≤ g ∧ wb.heap.size ≤ k ∧ wb.heap.size ≤ b
  low : Below wb.heap.size wb w
section
variable {wb w w' : World} {p g k b : Nat} {s : Sp}
theorem Gw.below (q : Gw wb w p g k b s) (h : Below w.heap.size w w') : Gw wb w' p g k b s := ⟨q.gr.below h, q.lo, bel_to q.low (Nat.le_refl _) h⟩
theorem Gw.alloc (q : Gw wb w p g k b s) (o : Obj) : Gw wb (w.alloc o) p g k b s := q.below ((Below.refl _ _).alloc (Nat.le_refl _) o)
theorem Gw.drew (q : Gw wb w p g k b s) : Gw wb w.drew p g k b s := q.below (Below.refl _ _).drew
theorem Gw.setH (q : Gw wb w p g k b s) {H : List Int} {l : Bks} (h : HistAt w' g H) (e : spS H = l) (c : Ch (fun x => x = g) w w') : Gw wb w' p g k b ⟨l, s.keys, s.g⟩ := by
  obtain ⟨n1, n2, n3, n4, n5, n6⟩ := q.gr.ne
  obtain ⟨D, hK⟩ := q.gr.keys
  have l1 := q.lo
  exact ⟨⟨(c.block p q.gr.lt.1 n1).trans q.gr.str, ⟨H, h, e⟩, ⟨D, hK.ch c (fun e => n4 e.symm) (fun e => n5 e.symm)⟩, q.gr.few, q.gr.gw, q.gr.gc⟩, q.lo, q.low.trans (c.below q.low.size (fun x hx e => by omega))⟩
theorem Gw.setK (q : Gw wb w p g k b s) {D : DataW Unit} {l : List Int} (h : KB w' k b D l (l.getLastD 0)) (hl : l.length ≤ 1024) (c : Ch (KS k b) w w') : Gw wb w' p g k b ⟨s.hist, l, s.g⟩ := by
  obtain ⟨n1, n2, n3, n4, n5, n6⟩ := q.gr.ne
  obtain ⟨H, hH, e⟩ := q.gr.hist
  have l1 := q.lo
  exact ⟨⟨(c.block p q.gr.lt.1 (fun e => e.elim n2 n3)).trans q.gr.str, ⟨H, hH.ch c (fun e => e.elim n4 n5), e⟩, ⟨D, h⟩, hl, q.gr.gw, q.gr.gc⟩, q.lo, q.low.trans (c.below q.low.size (fun x hx e => by rcases e with rfl | rfl <;> omega))⟩
theorem Gw.setG (q : Gw wb w p g k b s) {z : Gz} (hw : GW z) (hc : chkG z = true) : Gw wb ((((w.setCell ⟨p, 2, none⟩ (.int .u64 z.n)).setCell ⟨p, 3, none⟩ (.int .u64 z.nans)).setCell ⟨p, 4, none⟩ (.int .u64 z.lo)).setCell ⟨p, 5, none⟩ (.int .u64 z.hi)) p g k b ⟨s.hist, s.keys, z⟩ :=
  ⟨q.gr.setG hw hc, q.lo, (((q.low.setCell (p := ⟨p, 2, none⟩) q.lo.1 _).setCell (p := ⟨p, 3, none⟩) q.lo.1 _).setCell (p := ⟨p, 4, none⟩) q.lo.1 _).setCell (p := ⟨p, 5, none⟩) q.lo.1 _⟩
end
theorem cell_ch {S : Nat → Prop} {w w' : World} (c : Ch S w w') {x : Nat} (hx : x < w.heap.size) (hn : ¬ S x) (i : Nat) : w'.cell? ⟨x, i, none⟩ = w.cell? ⟨x, i, none⟩ := World.cell?_of_block (w := w) (c.block x hx hn)
/-- An observation in a box. -/
structure OBox (w : World) (x : Nat) (o : Ob) : Prop where
  lt : x < w.heap.size
  c0 : w.cell? ⟨x, 0, none⟩ = some (.int .u64 o.v)
  c1 : w.cell? ⟨x, 1, none⟩ = some (.string o.t)
  c2 : w.cell? ⟨x, 2, none⟩ = some (.int .u64 o.b)
theorem OBox.new (w : World) (t : TypeId) (o : Ob) : OBox (w.alloc (.cells #[.int .u64 o.v, .string o.t, .int .u64 o.b] t)) w.heap.size o := ⟨by simp [go_sem], by simp [go_sem], by simp [go_sem], by simp [go_sem]⟩
theorem OBox.ch {S : Nat → Prop} {w w' : World} {x : Nat} {o : Ob} (q : OBox w x o) (c : Ch S w w') (hn : ¬ S x) : OBox w' x o :=
  ⟨Nat.lt_of_lt_of_le q.lt c.size, (cell_ch c q.lt hn 0).trans q.c0, (cell_ch c q.lt hn 1).trans q.c1, (cell_ch c q.lt hn 2).trans q.c2⟩
theorem SBox.ch {S : Nat → Prop} {w w' : World} {x : Nat} {h : Hd} {g : Gz} (q : SBox w x h g) (c : Ch S w w') (hn : ¬ S x) : SBox w' x h g := by
  obtain ⟨l, ⟨c0, c1, c2, c3, c4, c5⟩, f⟩ := q
  exact ⟨Nat.lt_of_lt_of_le l c.size, ⟨(cell_ch c l hn 0).trans c0, (cell_ch c l hn 1).trans c1, (cell_ch c l hn 2).trans c2, (cell_ch c l hn 3).trans c3, (cell_ch c l hn 4).trans c4, (cell_ch c l hn 5).trans c5⟩, fun i => (World.frozen?_of_block (w := w) (c.block x l hn)).trans (f i)⟩
theorem ch_drew {S : Nat → Prop} {w w' : World} (c : Ch S w.drew w') : Ch S w w' := ⟨c.os, c.tape, c.output, c.size, c.block⟩

set_option maxHeartbeats 4000000 in
theorem see_any (wb : World) (p g k b : Nat) (s : Sp) (o : Ob) (w : World) (q : Gw wb w p g k b s) (ho : Word o.v ∧ Word o.b ∧ o.t.size ≤ 9223372036854775807) :
    Calls Tryz.prog 57 #[.pointer (some ⟨p, 0, none⟩), .agg #[.int .u64 o.v, .string o.t, .int .u64 o.b]] w fun e w' => e = .returned (.tuple #[]) ∧ Gw wb w' p g k b (addP s o) := by
  obtain ⟨w0, hw0⟩ : ∃ w0, Hid (w.alloc (.cells #[.int .u64 o.v, .string o.t, .int .u64 o.b] 69) = w0) := ⟨_, rfl⟩
  obtain ⟨x, hx⟩ : ∃ x, Hid (w.heap.size = x) := ⟨_, rfl⟩
  have Q0 : Hid (Gw wb w0 p g k b s) := by rw [← hw0.out]; exact q.alloc _
  have X0 : Hid (OBox w0 x o) := by rw [← hw0.out, ← hx.out]; exact OBox.new _ _ _
  have NX : Hid (x ≠ p ∧ x ≠ g ∧ x ≠ k ∧ x ≠ b) := by
    have := q.gr.lt
    rw [← hx.out]
    exact ⟨by omega, by omega, by omega, by omega⟩
  have NK : Hid (¬ KS k b x) := fun e => e.elim NX.out.2.2.1 NX.out.2.2.2
  obtain ⟨H, hH, eH⟩ := Q0.out.gr.hist
  have CH := hide (hadd_any g H o.v 1 w0.drew ho.1 ⟨by decide, by decide⟩ hH.drew)
  have EH := hide (see_hist hH ho.1)
  rw [eH] at EH
  have CK := hide (fun W D (K : KB W k b D s.keys (s.keys.getLastD 0)) => kadd_at k b D s.keys o.t W K Q0.out.gr.few ho.2.2)
  have CG := hide (fun W => gadd_any s.g o.b Q0.out.gr.gw ho.2.1 Q0.out.gr.gc W)
  have HG : Hid (GW (addG s.g o.b) ∧ chkG (addG s.g o.b) = true) := ⟨addG_word Q0.out.gr.gw ho.2.1, addG_chk Q0.out.gr.gw ho.2.1 Q0.out.gr.gc⟩
  unfold addP
  generalize addG s.g o.b = ag at *
  clear hH eH q ho
  go_enter Tryz.func57, Tryz.ntmps57
  go_upto_region 1 with fail
  rw [hw0.out, hx.out]
  clear hw0 hx
  have S0 : Hid (w0.drew.cell? ⟨p, 0, none⟩ = some (.pointer (some ⟨g, 0, none⟩)) ∧ w0.drew.cell? ⟨x, 0, none⟩ = some (.int .u64 o.v)) := ⟨Q0.out.gr.cells.1, X0.out.c0⟩
  go_region_held3 (fun w' => w'.cell? ⟨p, 0, none⟩ = some (.pointer (some ⟨g, 0, none⟩)) ∧ w'.cell? ⟨x, 0, none⟩ = some (.int .u64 o.v)) (first | with_reducible exact S0.out | with_reducible exact S1.out) (first
    | (go_at_call 74; with_reducible refine CH.out.mono ?_; rintro e w1 ⟨rfl, h1, b1⟩; have Q1 := hide (Q0.out.setH h1 EH.out (ch_drew b1)); have X1 := hide (X0.out.ch (ch_drew b1) NX.out.2.1); have S1 := hide (And.intro Q1.out.gr.cells.1 X1.out.c0)))
  clear h1 b1 S0 S1 Q0 X0 CH EH
  obtain ⟨D, hK⟩ := Q1.out.gr.keys
  have KD : Hid (KB w1.drew k b D s.keys (s.keys.getLastD 0)) := hK.drewN 1
  clear hK
  have S0 : Hid (w1.drew.cell? ⟨p, 1, none⟩ = some (.pointer (some ⟨k, 0, none⟩)) ∧ w1.drew.cell? ⟨x, 1, none⟩ = some (.string o.t)) := ⟨Q1.out.gr.cells.2.1, X1.out.c1⟩
  go_upto_region 2 with fail
  go_region_held3 (fun w' => w'.cell? ⟨p, 1, none⟩ = some (.pointer (some ⟨k, 0, none⟩)) ∧ w'.cell? ⟨x, 1, none⟩ = some (.string o.t)) (first | with_reducible exact S0.out | with_reducible exact S1.out) (first
    | (go_at_call 75; with_reducible refine (CK.out _ _ KD.out).mono ?_; rintro e w2 ⟨rfl, ⟨D2, h2⟩, b2⟩; have Q2 := hide (Q1.out.setK h2 (hashK_len _ _ _) (ch_drew b2)); have X2 := hide (X1.out.ch (ch_drew b2) NK.out); have S1 := hide (And.intro Q2.out.gr.cells.2.1 X2.out.c1)))
  clear h2 b2 S0 S1 Q1 X1 CK KD
  obtain ⟨c0, c1, c2, c3, c4, c5⟩ := Q2.out.gr.cells
  obtain ⟨_, x0, x1, x2⟩ := X2.out
  have QD := hide Q2.out.drew
  dsimp only at c2 c3 c4 c5
  go_upto_region 3 with fail
  go_region_with (
    go_at_call 76
    with_reducible refine (CG.out _).mono ?_
    rintro e w3 ⟨rfl, b3⟩
    have Q3 := hide (QD.out.below b3)
    clear c0 c1 c2 c3 c4 c5
    obtain ⟨c0, c1, c2, c3, c4, c5⟩ := Q3.out.gr.cells
    have f2 := Q3.out.gr.fz 2
    have f3 := Q3.out.gr.fz 3
    have f4 := Q3.out.gr.fz 4
    have f5 := Q3.out.gr.fz 5
    dsimp only at c2 c3 c4 c5)
  all_goals
    have QE := hide (Q3.out.setG HG.out.1 HG.out.2)
    go_wp2
    go_end0
    exact ⟨rfl, QE.out⟩

theorem row_blk {w : World} {x : Addr} {n : Nat} {l : List Int} (h : Row .u64 w (some x) n l) (hn : 0 < n) : x.block < w.heap.size := by
  obtain ⟨_, _, _, h0 | ⟨b, off, e, hc⟩⟩ := h
  · omega
  · simp only [Option.some.injEq] at e
    subst e
    exact World.block_lt_of_cell? w _ (hc 0 hn)

set_option maxHeartbeats 4000000 in
theorem psk_any (wb : World) (p g k b : Nat) (s : Sp) (w : World) (q : Gw wb w p g k b s) :
    Calls Tryz.prog 58 #[.pointer (some ⟨p, 0, none⟩)] w fun e w' => ∃ h, e = .returned (Value.agg #[.slice (Hd.a h) (Hd.n h) (Hd.c h), .slice (Hd.k h) (Hd.m h) (Hd.d h), .int .u64 (Gz.n s.g), .int .u64 (Gz.nans s.g), .int .u64 (Gz.lo s.g), .int .u64 (Gz.hi s.g)]) ∧ MadeP w' w.heap.size h s ∧ Below w.heap.size w w' := by
  have ok := q.gr.ok
  have few := q.gr.few
  have GF := hide (good_fit ok.h)
  have GS := hide (good_size ok.h)
  have KW := hide ok.w
  have GG := hide ok.g
  obtain ⟨w0, hw0⟩ : ∃ w0, Hid (w.alloc (.cells #[.slice none 0 0, .slice none 0 0, .int .u64 0, .int .u64 0, .int .u64 0, .int .u64 0] 28) = w0) := ⟨_, rfl⟩
  obtain ⟨x, hx⟩ : ∃ x, Hid (w.heap.size = x) := ⟨_, rfl⟩
  have Q0 : Hid (Gr w0 p g k b s) := by rw [← hw0.out]; exact q.gr.alloc _
  have A0 : Hid (SBox w0 x hd0 g0) := by rw [← hw0.out, ← hx.out]; exact SBox.new _ _ hd0 g0
  have NX : Hid (p ≠ x ∧ w.heap.size ≤ x) := by
    have := q.gr.lt
    rw [hx.out] at this
    exact ⟨by omega, by rw [hx.out]; exact Nat.le_refl _⟩
  have L0 : Hid (Below w.heap.size w w0) := by rw [← hw0.out]; exact (Below.refl _ _).alloc (Nat.le_refl _) _
  have QD := hide Q0.out.drew
  have AD := hide A0.out.drew
  have LD : Hid (Below w.heap.size w w0.drew) := L0.out.drew
  obtain ⟨H, hH, eH⟩ := QD.out.hist
  obtain ⟨D, hK⟩ := QD.out.keys
  have C1 := hide (hbuckets_any g H w0.drew hH)
  rw [eH] at C1
  have C2 := hide (fun W (L : Below w0.drew.heap.size w0.drew W) => hashes_any k b D s.keys _ W (hK.below L))
  obtain ⟨LH, hLH⟩ : ∃ n, Hid (s.hist.length = n) := ⟨_, rfl⟩
  obtain ⟨LK, hLK⟩ : ∃ n, Hid (s.keys.length = n) := ⟨_, rfl⟩
  rw [hLH.out] at C1 GS
  rw [hLK.out] at C2 few
  have KP : Hid (∀ (v : World) (a1 : Option Addr) (n1 : Nat) (a2 : Option Addr) (n2 : Nat), (v.cell? ⟨p, 0, none⟩ = some (.pointer (some ⟨g, 0, none⟩)) ∧ v.cell? ⟨p, 1, none⟩ = some (.pointer (some ⟨k, 0, none⟩)) ∧ v.cell? ⟨p, 2, none⟩ = some (.int .u64 s.g.n) ∧ v.cell? ⟨p, 3, none⟩ = some (.int .u64 s.g.nans) ∧ v.cell? ⟨p, 4, none⟩ = some (.int .u64 s.g.lo) ∧ v.cell? ⟨p, 5, none⟩ = some (.int .u64 s.g.hi)) →
      ((((((((v.setCell ⟨x, 0, none⟩ (.slice a1 LH n1)).setCell ⟨x, 1, none⟩ (.slice a2 LK n2)).setCell ⟨x, 2, none⟩ (.int .u64 s.g.n)).setCell ⟨x, 3, none⟩ (.int .u64 s.g.nans)).setCell ⟨x, 4, none⟩ (.int .u64 s.g.lo)).setCell ⟨x, 5, none⟩ (.int .u64 s.g.hi))).cell? ⟨p, 0, none⟩ = some (.pointer (some ⟨g, 0, none⟩)) ∧ ((((((v.setCell ⟨x, 0, none⟩ (.slice a1 LH n1)).setCell ⟨x, 1, none⟩ (.slice a2 LK n2)).setCell ⟨x, 2, none⟩ (.int .u64 s.g.n)).setCell ⟨x, 3, none⟩ (.int .u64 s.g.nans)).setCell ⟨x, 4, none⟩ (.int .u64 s.g.lo)).setCell ⟨x, 5, none⟩ (.int .u64 s.g.hi)).cell? ⟨p, 1, none⟩ = some (.pointer (some ⟨k, 0, none⟩)) ∧ ((((((v.setCell ⟨x, 0, none⟩ (.slice a1 LH n1)).setCell ⟨x, 1, none⟩ (.slice a2 LK n2)).setCell ⟨x, 2, none⟩ (.int .u64 s.g.n)).setCell ⟨x, 3, none⟩ (.int .u64 s.g.nans)).setCell ⟨x, 4, none⟩ (.int .u64 s.g.lo)).setCell ⟨x, 5, none⟩ (.int .u64 s.g.hi)).cell? ⟨p, 2, none⟩ = some (.int .u64 s.g.n) ∧ ((((((v.setCell ⟨x, 0, none⟩ (.slice a1 LH n1)).setCell ⟨x, 1, none⟩ (.slice a2 LK n2)).setCell ⟨x, 2, none⟩ (.int .u64 s.g.n)).setCell ⟨x, 3, none⟩ (.int .u64 s.g.nans)).setCell ⟨x, 4, none⟩ (.int .u64 s.g.lo)).setCell ⟨x, 5, none⟩ (.int .u64 s.g.hi)).cell? ⟨p, 3, none⟩ = some (.int .u64 s.g.nans) ∧ ((((((v.setCell ⟨x, 0, none⟩ (.slice a1 LH n1)).setCell ⟨x, 1, none⟩ (.slice a2 LK n2)).setCell ⟨x, 2, none⟩ (.int .u64 s.g.n)).setCell ⟨x, 3, none⟩ (.int .u64 s.g.nans)).setCell ⟨x, 4, none⟩ (.int .u64 s.g.lo)).setCell ⟨x, 5, none⟩ (.int .u64 s.g.hi)).cell? ⟨p, 4, none⟩ = some (.int .u64 s.g.lo) ∧ ((((((v.setCell ⟨x, 0, none⟩ (.slice a1 LH n1)).setCell ⟨x, 1, none⟩ (.slice a2 LK n2)).setCell ⟨x, 2, none⟩ (.int .u64 s.g.n)).setCell ⟨x, 3, none⟩ (.int .u64 s.g.nans)).setCell ⟨x, 4, none⟩ (.int .u64 s.g.lo)).setCell ⟨x, 5, none⟩ (.int .u64 s.g.hi)).cell? ⟨p, 5, none⟩ = some (.int .u64 s.g.hi))) := by
    intro v a1 n1 a2 n2 hv
    have hz : ∀ i, (put6 v x ⟨a1, LH, n1, a2, LK, n2⟩ s.g).cell? ⟨p, i, none⟩ = v.cell? ⟨p, i, none⟩ := by
      intro i
      refine World.cell?_of_block (w := v) ?_
      unfold put6
      rw [Below.heap_setCell _ _ _ p NX.out.1, Below.heap_setCell _ _ _ p NX.out.1, Below.heap_setCell _ _ _ p NX.out.1, Below.heap_setCell _ _ _ p NX.out.1, Below.heap_setCell _ _ _ p NX.out.1, Below.heap_setCell _ _ _ p NX.out.1]
    exact ⟨(hz 0).trans hv.1, (hz 1).trans hv.2.1, (hz 2).trans hv.2.2.1, (hz 3).trans hv.2.2.2.1, (hz 4).trans hv.2.2.2.2.1, (hz 5).trans hv.2.2.2.2.2⟩
  clear ok q hH hK eH Q0 A0 L0
  go_enter Tryz.func58, Tryz.ntmps58
  go_upto_region 1 with fail
  rw [hw0.out, hx.out]
  clear hw0 hx
  have S0 := hide QD.out.cells
  go_region_held3 (fun w' => w'.cell? ⟨p, 0, none⟩ = some (.pointer (some ⟨g, 0, none⟩)) ∧ w'.cell? ⟨p, 1, none⟩ = some (.pointer (some ⟨k, 0, none⟩)) ∧ w'.cell? ⟨p, 2, none⟩ = some (.int .u64 s.g.n) ∧ w'.cell? ⟨p, 3, none⟩ = some (.int .u64 s.g.nans) ∧ w'.cell? ⟨p, 4, none⟩ = some (.int .u64 s.g.lo) ∧ w'.cell? ⟨p, 5, none⟩ = some (.int .u64 s.g.hi)) (first | with_reducible exact KP.out _ _ _ _ _ (by assumption) | with_reducible exact S0.out | with_reducible exact S1.out | with_reducible exact S2.out) (first
    | (go_at_call 77; with_reducible refine C1.out.mono ?_; rintro e v1 ⟨a1, n1, rfl, o1, b1⟩; have O1 := hide o1; have B1 := hide b1; have S1 := hide (QD.out.below b1).cells; have A1 := hide (AD.out.below b1 AD.out.lt))
    | (go_at_call 78; with_reducible refine (C2.out _ B1.out).mono ?_; rintro e v2 ⟨a2, n2, rfl, o2, b2⟩; have O2 := hide (O1.out.below b2 (Nat.le_refl _)); have U2 := hide o2; have S2 := hide ((QD.out.below B1.out).below b2).cells; have A2 := hide (A1.out.below b2 A1.out.lt); have B2 := hide (bel_to (bel_to LD.out (Nat.le_refl _) B1.out) (Nat.le_refl _) b2); obtain ⟨_, ⟨d0, d1, d2, d3, d4, d5⟩, df⟩ := A2.out; have f0 := df 0; have f1 := df 1; have f2 := df 2; have f3 := df 3; have f4 := df 4; have f5 := df 5; clear df; dsimp only [hd0, g0] at d0 d1 d2 d3 d4 d5))
  have F := hide (A2.out.put ⟨a1, LH, n1, a2, LK, n2⟩ s.g)
  have zs : Hid (x < w0.drew.heap.size ∧ w0.drew.heap.size ≤ v1.heap.size ∧ w.heap.size ≤ w0.drew.heap.size) := ⟨AD.out.lt, b1.size, LD.out.size⟩
  have M := hide (made_of (w := put6 v2 x ⟨a1, LH, n1, a2, LK, n2⟩ s.g) (base := w0.drew.heap.size) (h := ⟨a1, LH, n1, a2, LK, n2⟩) (s := s) (ownb_put O2.out zs.out.1 _ _) (Own.mono (ownu_put U2.out (Nat.lt_of_lt_of_le zs.out.1 zs.out.2.1) _ _) zs.out.2.1) GF.out KW.out GG.out (by have := GS.out; show LH * 16 ≤ _; omega) (by show LK * 8 ≤ _; omega))
  have L3 := hide (below_put B2.out NX.out.2 ⟨a1, LH, n1, a2, LK, n2⟩ s.g)
  go_wp2
  obtain ⟨_, ⟨e0, e1, e2, e3, e4, e5⟩, _⟩ := F.out
  unfold put6 at e0 e1 e2 e3 e4 e5
  dsimp only at e0 e1 e2 e3 e4 e5
  exact bodyPost_ret (v := .agg #[.slice a1 LH n1, .slice a2 LK n2, .int .u64 s.g.n, .int .u64 s.g.nans, .int .u64 s.g.lo, .int .u64 s.g.hi]) (by simp [results, Tryz.results58, go_sem, e0, e1, e2, e3, e4, e5]) rfl ⟨⟨a1, LH, n1, a2, LK, n2⟩, rfl, ⟨M.out.oh.mono zs.out.2.2, Own.mono M.out.ok zs.out.2.2, M.out.see⟩, L3.out⟩
end Go.Proofs.YtadcaonkmncgoaaGreat
