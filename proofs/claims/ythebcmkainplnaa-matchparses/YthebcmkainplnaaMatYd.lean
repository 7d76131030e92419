/-
  What the document's reader of a matcher's text has in memory, further: where it starts, where it has gone bad, the values that grow (written by gen/matyd.gen.py).
  Conditions: as each theorem says.
-/
import Derived.Test.YthebcmkainplnaaMatYc
namespace Go.Proofs.Ythebcmkainplnaa
open Go.RowKit
set_option maxRecDepth 20000

/-- Behind a kid: the end, or a comma and more. -/
def lxC (f left : Nat) (l : List UInt8) : Option (List Mt × List UInt8 × Nat) := match tks [41] l with
  | some r => some ([], r, left)
  | none => match tks [44] l with
    | some r => lxT f left r
    | none => none
theorem lxT_step (f left : Nat) (l : List UInt8) : lxT (f + 1) left l = match lxM f left l with
    | none => none
    | some q => (lxC f q.2.2 q.2.1).map (fun z => (q.1 :: z.1, z.2)) := by
  rw [lxT]
  cases lxM f left l with
  | none => rfl
  | some q =>
    simp only
    unfold lxC
    cases tks [41] q.2.1 with
    | some r => rfl
    | none =>
      simp only
      cases tks [44] q.2.1 <;> rfl
/-- Behind a value: the end, or a comma and more. -/
def lxVC (f : Nat) (l : List UInt8) : Option (List ByteArray × List UInt8) := match tks [41] l with
  | some r => some ([], r)
  | none => match tks [44] l with
    | some r => lxV f r
    | none => none
theorem lxV_step (f : Nat) (l : List UInt8) : lxV (f + 1) l = match vaL l with
    | none => none
    | some q => (lxVC f q.2).map (fun z => (bar q.1 :: z.1, z.2)) := by
  rw [lxV]
  cases vaL l with
  | none => rfl
  | some q =>
    simp only
    unfold lxVC
    cases tks [41] q.2 with
    | some r => rfl
    | none =>
      simp only
      cases tks [44] q.2 <;> rfl
theorem rs_start {w W V : World} {g g2 k n : Nat} {s : ByteArray} (h : SB w g s k false) (hb : BX w g2 n) (hgg : g ≠ g2) (hW : w.alloc (.cells #[.int .i64 0, .string ⟨#[]⟩, .string ⟨#[]⟩, .slice none 0 0, .slice none 0 0] 25) = W) (hV : W.setCell ⟨g2, 0, none⟩ (.int .i64 ((n : Int) + 1)) = V) : RS w V g g2 s k false (n + 1) := by
  have h1 := h.lt
  have h2 := hb.lt
  have cs := ch_set W g2 0 (.int .i64 ((n : Int) + 1))
  have sW : W.heap.size = w.heap.size + 1 := by rw [← hW]; simp
  have bW : ∀ b, b < w.heap.size → W.heap[b]? = w.heap[b]? := fun b hb => by rw [← hW]; exact Below.heap_alloc _ _ _ hb
  have cW : Ch (fun b => b = g ∨ b = g2) w W := by rw [← hW]; exact (Ch.refl _ w).alloc _
  rw [← hV]
  refine ⟨(h.keep (bW g h1)).keep (cs.block g (by omega) hgg), (hb.block (bW g2 h2)).set _, ?_, cW.trans (cs.more (fun _ _ e => Or.inr e)), h1, h2, hgg⟩
  have b0 : BoxM W w.heap.size hm0 := by rw [← hW]; exact BoxM.zero w
  exact b0.block (cs.block _ b0.lt (by omega))
theorem RS.spoil {w u : World} {g g2 k n : Nat} {s : ByteArray} {b : Bool} (h : RS w u g g2 s k b n) : RS w (u.setCell ⟨g, 2, none⟩ (.bool true)) g g2 s k true n := h.to (ch_set u g 2 (.bool true)) h.sb.spoil
/-- Gone bad. -/
theorem rf_bad {w u : World} {g g2 k n0 : Nat} {s : ByteArray} (c : Ch (fun b => b = g ∨ b = g2) w u) (q : SB u g s k true) (hg : g < w.heap.size) (hk : k ≤ s.size) (h : Hm) : RfP none g g2 n0 s w (.returned (.agg #[.int .i64 h.op, .string h.nm, .string h.vl, .slice h.va h.vn h.vc, .slice h.ka h.kn h.kc])) (put5 u w.heap.size h) :=
  ⟨ch_box2 c (Nat.le_refl _), h, k, rfl, hk, q.keep ((ch_put5 u w.heap.size h).block g q.lt (by omega))⟩
/-- Kids, gone bad. -/
structure KdB (w u : World) (g g2 : Nat) (s : ByteArray) (k gm : Nat) (op : Int) (a : Option Addr) (j c : Nat) (hs : List Hm) : Prop where
  q : KdQ w u g g2 gm op a j c hs
  sb : SB u g s k true
  gt : w.heap.size < gm
  lt : g < w.heap.size
theorem KdB.to {w u v : World} {g g2 k k' gm j c : Nat} {s : ByteArray} {op : Int} {a : Option Addr} {hs : List Hm} (h : KdB w u g g2 s k gm op a j c hs) (cc : Ch (fun x => x = g) u v) (q : SB v g s k' true) : KdB w v g g2 s k' gm op a j c hs := by
  have hlt := h.lt
  have hgt := h.gt
  exact ⟨⟨h.q.box.block (cc.block _ h.q.box.lt (by omega)), h.q.mb.block (cc.block _ h.q.mb.lt (by omega)), h.q.own.ch cc (fun b hb e => by have := (h.q.own.block b hb).1; omega), h.q.ch.trans (cc.more (fun _ _ e => Or.inl e)), by have := h.q.big; have := cc.size; omega⟩, q, hgt, hlt⟩
theorem KdR.bad {w u v : World} {g g2 k k' n gm j c : Nat} {s : ByteArray} {op : Int} {a : Option Addr} {ks : List Mt} {hs : List Hm} (h : KdR w u g g2 s k n gm op a j c ks hs) (cc : Ch (fun x => x = g) u v) (q : SB v g s k' true) : KdB w v g g2 s k' gm op a j c hs :=
  ⟨h.rest (cc.more (fun _ _ e => Or.inl e)), q, h.gt, h.rs.lt.1⟩
/-- A kid that could not be read is kept with the others. -/
theorem KdQ.bad {w v v4 : World} {g g2 k gm j c g' c' : Nat} {s : ByteArray} {op : Int} {a : Option Addr} {hs : List Hm} {h' : Hm} (h : KdQ w v g g2 gm op a j c hs) (hgt : w.heap.size < gm) (hlt : g < w.heap.size) (q : SB v g s k true) (o : OwnM v4 (gm + 1) (some ⟨g', 0, none⟩) (j + 1) c' (hs ++ [h'])) (c4 : Ch (fun b => (Value.slice a j c).ownBlock = some b) v v4) :
    KdB w (v4.setCell ⟨gm, 4, none⟩ (.slice (some ⟨g', 0, none⟩) (j + 1) c')) g g2 s k gm op (some ⟨g', 0, none⟩) (j + 1) c' (hs ++ [h']) := by
  have cs := ch_set v4 gm 4 (.slice (some ⟨g', 0, none⟩) (j + 1) c')
  have hne : ∀ b, (Value.slice a j c).ownBlock = some b → gm + 1 ≤ b := fun b hb => (h.own.block b hb).1
  have q4 := q.keep (c4.block g q.lt (fun e => by have := hne g e; omega))
  exact ⟨h.push hgt o c4, q4.keep (cs.block g q4.lt (by omega)), hgt, hlt⟩
/-- Values read so far, in the box at gm. -/
structure VaR (w u : World) (g g2 : Nat) (s : ByteArray) (k : Nat) (bad : Bool) (n gm : Nat) (nm : ByteArray) (a : Option Addr) (j c : Nat) (ss : List ByteArray) : Prop where
  rs : RS w u g g2 s k bad n
  mb : BoxM u gm ⟨4, nm, ⟨#[]⟩, a, j, c, none, 0, 0⟩
  own : u.ownsRow (gm + 1) 9 1 (.slice a j c) j (ss.map Value.string)
  fit : ∀ x ∈ ss, x.size ≤ 20000
  len : ss.length = j
  gt : w.heap.size < gm
theorem VaR.to {w u v : World} {g g2 k k' n gm j c : Nat} {s nm : ByteArray} {b b' : Bool} {a : Option Addr} {ss : List ByteArray} (h : VaR w u g g2 s k b n gm nm a j c ss) (cc : Ch (fun x => x = g) u v) (q : SB v g s k' b') : VaR w v g g2 s k' b' n gm nm a j c ss := by
  have hlt := h.rs.lt
  have hgt := h.gt
  exact ⟨h.rs.to cc q, h.mb.block (cc.block _ h.mb.lt (by omega)), row_ch h.own cc (fun b hb e => by have := (row_cells h.own hb).2; omega), h.fit, h.len, hgt⟩
theorem VaR.start {w u v : World} {g g2 k n : Nat} {s nm : ByteArray} {b : Bool} (h : RS w u g g2 s k b n) (hv : u.alloc (.cells #[.int .i64 4, .string nm, .string ⟨#[]⟩, .slice none 0 0, .slice none 0 0] 25) = v) : VaR w v g g2 s k b n u.heap.size nm none 0 0 [] := by
  have hb : Below u.heap.size u v := by rw [← hv]; exact (Below.refl _ _).alloc (Nat.le_refl _) _
  refine ⟨h.bel hb, ?_, World.ownsRow_nil _ _ _ _, fun x hx => (by cases hx), rfl, h.box.lt⟩
  rw [← hv]
  exact boxM_new u ⟨4, nm, ⟨#[]⟩, none, 0, 0, none, 0, 0⟩
theorem VaR.push {w u v4 : World} {g g2 k n gm j c g' c' : Nat} {s nm x : ByteArray} {b : Bool} {a : Option Addr} {ss : List ByteArray} (h : VaR w u g g2 s k b n gm nm a j c ss) (hx : x.size ≤ 20000)
    (o : v4.ownsRow (gm + 1) 9 1 (.slice (some ⟨g', 0, none⟩) (j + 1) c') (j + 1) (ss.map Value.string ++ [Value.string x])) (gr : (u.alloc (.cells #[.string x] 9)).grownBy v4 (Value.slice a j c).ownBlock) :
    VaR w (v4.setCell ⟨gm, 3, none⟩ (.slice (some ⟨g', 0, none⟩) (j + 1) c')) g g2 s k b n gm nm (some ⟨g', 0, none⟩) (j + 1) c' (ss ++ [x]) := by
  have hlt := h.rs.lt
  have hgt := h.gt
  have hne : ∀ b, (Value.slice a j c).ownBlock = some b → gm + 1 ≤ b := fun b hb => (row_cells h.own hb).2
  have c4 : Ch (fun b => (Value.slice a j c).ownBlock = some b) (u.alloc (.cells #[.string x] 9)) v4 := Ch.grown gr
  have cs := ch_set v4 gm 3 (.slice (some ⟨g', 0, none⟩) (j + 1) c')
  have sz : (u.alloc (.cells #[.string x] 9)).heap.size = u.heap.size + 1 := by simp
  have s4 := c4.size
  have old : ∀ y, y < u.heap.size → y < gm + 1 → v4.heap[y]? = u.heap[y]? := fun y hy hg => by
    rw [c4.block y (by omega) (fun e => by have := hne y e; omega)]
    exact Below.heap_alloc _ _ _ hy
  have new : ∀ y, y < u.heap.size → y < gm → (v4.setCell ⟨gm, 3, none⟩ (.slice (some ⟨g', 0, none⟩) (j + 1) c')).heap[y]? = u.heap[y]? := fun y hy hg => by
    rw [cs.block y (by omega) (by omega)]
    exact old y hy (by omega)
  refine ⟨⟨h.rs.sb.keep (new g h.rs.sb.lt (by omega)), h.rs.cnt.block (new g2 h.rs.cnt.lt (by omega)), h.rs.box.block (new _ h.rs.box.lt hgt), ?_, hlt⟩, (h.mb.block (old gm h.mb.lt (by omega))).vals _ _ _, ?_, ?_, by simp [h.len], hgt⟩
  · refine ⟨cs.os.trans (c4.os.trans h.rs.ch.os), cs.tape.trans (c4.tape.trans h.rs.ch.tape), cs.output.trans (c4.output.trans h.rs.ch.output), by have := h.rs.ch.size; have := cs.size; omega, fun y hy hn => ?_⟩
    rw [new y (by have := h.rs.ch.size; omega) (by omega)]
    exact h.rs.ch.block y hy hn
  · rw [List.map_append]
    exact row_ch o cs (fun b hb e => by have := (row_cells o hb).2; omega)
  · intro y hy
    rcases List.mem_append.1 hy with hy | hy
    · exact h.fit y hy
    · obtain rfl := List.mem_singleton.1 hy
      exact hx
theorem VaR.fin {w u : World} {g g2 k n gm j c : Nat} {s nm : ByteArray} {b : Bool} {a : Option Addr} {ss : List ByteArray} (h : VaR w u g g2 s k b n gm nm a j c ss) (hj : j ≤ 17) (hnm : nm.size ≤ 20000) : SeeM (fun b => w.heap.size + 1 ≤ b) u (.mk 4 nm .empty ss []) ⟨4, nm, ⟨#[]⟩, a, j, c, none, 0, 0⟩ := by
  have hl := h.len
  have hgt := h.gt
  have h3 : ∀ x ∈ ss, x.size ≤ 9223372036854775807 := fun x hx => by have := h.fit x hx; omega
  have key : TxR (fun b => w.heap.size + 1 ≤ b) u a j ss ∧ j ≤ c ∧ (a = none → c = 0) := by
    rcases id h.own.2 with ⟨h1, h2⟩ | ⟨b, c', cur, h1, h2, _, h4, _⟩
    · simp only [Value.slice.injEq] at h1
      exact ⟨⟨hl, by omega, h3, Or.inl h2⟩, by omega, fun _ => h1.2.2⟩
    · simp only [Value.slice.injEq, true_and] at h1
      obtain ⟨rfl, rfl⟩ := h1
      refine ⟨⟨hl, by omega, h3, Or.inr ⟨b, 0, rfl, by omega, fun i hi => ?_⟩⟩, h4, fun e => by cases e⟩
      rw [Nat.zero_add, h.own.cellAt i (by omega), List.getElem?_map, List.getD_eq_getElem?_getD, List.getElem?_eq_getElem (by omega)]
      rfl
  exact vals_see (by decide) (by omega) (by decide) key.1 key.2.1 key.2.2
theorem must_bad {g : Nat} {s : ByteArray} {k : Nat} {c : UInt8} {u : World} (h : SB u g s (if isS s k true c then k + 1 else k) (!isS s k true c)) : SB u g s k true := by
  rw [is_bad] at h
  exact h
end Go.Proofs.Ythebcmkainplnaa
