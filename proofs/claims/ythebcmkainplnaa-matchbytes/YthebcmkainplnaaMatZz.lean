/-
  What the document's reader of a matcher's bytes has in memory: the reader, the count, the boxes, the lists that grow; its Num, Text, Count, whether it has gone bad or not. The document's reader of a matcher's bytes (got): plain words on its answers; where it is left at once (written by gen/matzk.gen.py). The document's reader of a matcher's bytes (got: matchers without kids or values): contracts, for every world (written by gen/matzk.gen.py). The document's reader of a matcher's bytes (got: values): a contract, for every world (written by gen/matzk.gen.py). The document's reader of a matcher's bytes (got: kids): contracts, for every world (written by gen/matzk.gen.py). The document's reader of a matcher's bytes (got, whole; Get): contracts, for every world (written by gen/matzk.gen.py). The law MatchBytes, walked: the bytes of a matcher that may be are the document's, and come back as that matcher; any bytes are read as the document reads them; the document's examples hold (written by gen/matzp.gen.py).
  Conditions: as each theorem says; the reader and the count lie in blocks of their own; the reader's bytes lie in memory older than itself; the arguments came in.
-/
import Derived.Test.YthebcmkainplnaaMatZy
import Derived.Test.YthebcmkainplnaaMatT
import Derived.Test.YthebcmkainplnaaMatLz
import Derived.Test.YthebcmkainplnaaMatJ
import Derived.Test.YthebcmkainplnaaMatS
import Derived.Test.YthebcmkainplnaaVintR
import Derived.Laws.Concat
import Derived.Deep.RegionWith
import Derived.Deep.DrawnRows
import Derived.Deep.DeepCutAuto
namespace Go.Proofs.Ythebcmkainplnaa
open Go.RowKit
set_option maxRecDepth 20000

/-- The document's reader: all went well so far (its place, how many were counted), or it has gone bad. -/
def Rdr (u : World) (g g2 : Nat) (a : Option Addr) (N cap : Nat) (zs : List Int) : Option (Int × Nat) → Prop
  | none => ∃ p', RB u g a N cap p' true
  | some (p, n) => RB u g a N cap p false ∧ BX u g2 n ∧ (Lit.int .i64 p).wf = true ∧ N ≤ cap ∧ ∃ w0 : World, Row .u8 w0 a N zs ∧ w0.heap.size ≤ g ∧ Below w0.heap.size w0 u
section
variable {u v : World} {g g2 N cap : Nat} {a : Option Addr} {zs : List Int} {st st' : Option (Int × Nat)}
theorem Rdr.cells (h : Rdr u g g2 a N cap zs st) : g < u.heap.size ∧ u.cell? ⟨g, 2, none⟩ = some (.bool st.isNone) ∧ ∀ o, u.frozen? ⟨g, o, none⟩ = false := by
  cases st with
  | none =>
    obtain ⟨p', h⟩ := h
    exact ⟨h.lt', h.cell.2.2.1, h.cell.2.2.2⟩
  | some r =>
    obtain ⟨h, -⟩ := h
    exact ⟨h.lt', h.cell.2.2.1, h.cell.2.2.2⟩
theorem RB.keep {p : Int} {bad : Bool} (h : RB u g a N cap p bad) (e : v.heap[g]? = u.heap[g]?) : RB v g a N cap p bad := by
  unfold RB at *
  rw [e]
  exact h
theorem Rdr.ch {C : Nat → Prop} (h : Rdr u g g2 a N cap zs st) (c : Ch C u v) (hC : ∀ k, C k → g < k ∧ g2 < k) : Rdr v g g2 a N cap zs st := by
  have e := c.block g h.cells.1 (fun e => Nat.lt_irrefl _ (hC g e).1)
  cases st with
  | none =>
    obtain ⟨p', h⟩ := h
    exact ⟨p', h.keep e⟩
  | some r =>
    obtain ⟨h1, h2, h3, h4, w0, r1, r2, r3⟩ := h
    exact ⟨h1.keep e, h2.block (c.block g2 h2.lt (fun e => Nat.lt_irrefl _ (hC g2 e).2)), h3, h4, w0, r1, r2, r3.trans (c.below r3.size (fun k hk e => by have := (hC k e).1; omega))⟩
theorem only_ch (h : Only g u v) : Ch (fun k => k = g) u v := ⟨h.os, h.tape, h.output, by rw [h.size]; exact Nat.le_refl _, fun k _ hn => h.block k hn⟩
theorem Rdr.bad {q : Int} (b : RB v g a N cap q true) : Rdr v g g2 a N cap zs none := ⟨q, b⟩
theorem Rdr.step {p q : Int} {n : Nat} (h : Rdr u g g2 a N cap zs (some (p, n))) (o : Only g u v) (b : RB v g a N cap q false) (hq : (Lit.int .i64 q).wf = true) (hg : g < g2) : Rdr v g g2 a N cap zs (some (q, n)) := by
  obtain ⟨h1, h2, h3, h4, w0, r1, r2, r3⟩ := h
  exact ⟨b, h2.block (o.block g2 (by omega)), hq, h4, w0, r1, r2, r3.trans ((only_ch o).below r3.size (fun k hk e => by omega))⟩
theorem Rdr.row {p : Int} {n : Nat} (h : Rdr u g g2 a N cap zs (some (p, n))) : Row .u8 u a N zs := by
  obtain ⟨h1, h2, h3, h4, w0, r1, r2, r3⟩ := h
  exact r1.below r3 (Nat.le_refl _)
end
/-- What Num, Text, Count tell, and how the reader stands behind it. -/
def nuR (zs : List Int) : Option (Int × Nat) → Int × Option (Int × Nat)
  | none => (0, none)
  | some (p, n) => match getS zs p with
    | none => (0, none)
    | some r => (r.1, some (r.2, n))
def teR (zs : List Int) (most : Int) : Option (Int × Nat) → ByteArray × Option (Int × Nat)
  | none => (.empty, none)
  | some (p, n) => match textS zs p most with
    | none => (.empty, none)
    | some r => (strOfNums r.1, some (r.2, n))
def coR (zs : List Int) (most : Int) : Option (Int × Nat) → Int × Option (Int × Nat)
  | none => (0, none)
  | some (p, n) => match sizeS zs p most with
    | none => (0, none)
    | some r => (r.1, some (r.2, n))
section
variable {u : World} {g g2 N cap : Nat} {a : Option Addr} {zs : List Int} {st : Option (Int × Nat)}
theorem rd_num (h : Rdr u g g2 a N cap zs st) (hg : g < g2) :
    Calls Try.prog 77 #[.pointer (some ⟨g, 0, none⟩)] u fun e v => e = .returned (.int .u64 (nuR zs st).1) ∧ Only g u v ∧ Rdr v g g2 a N cap zs (nuR zs st).2 := by
  cases st with
  | none =>
    obtain ⟨p', h⟩ := h
    refine (numbad_any g a N cap p' u h).mono ?_
    rintro e v ⟨rfl, o, b⟩
    exact ⟨rfl, o, p', b⟩
  | some r =>
    obtain ⟨p, n⟩ := r
    have hr := h.row
    have h' := h
    obtain ⟨h1, h2, h3, h4, w0, r1, r2, r3⟩ := h
    refine (num_any p g a N cap zs w0 u h3 r1 r2 r3 h1).mono ?_
    intro e v q
    unfold NumP at q
    cases hs : getS zs p with
    | none =>
      rw [hs] at q
      obtain ⟨o, rfl, p', b⟩ := q
      simp only [nuR, hs]
      exact ⟨trivial, o, p', b⟩
    | some r =>
      obtain ⟨v', q'⟩ := r
      rw [hs] at q
      obtain ⟨o, rfl, b⟩ := q
      simp only [nuR, hs]
      exact ⟨trivial, o, h'.step o b (getS_wf hr hs).2.2 hg⟩
theorem rd_text (most : Int) (hm : (Lit.int .i64 most).wf = true) (h : Rdr u g g2 a N cap zs st) (hg : g < g2) :
    Calls Try.prog 78 #[.pointer (some ⟨g, 0, none⟩), .int .i64 most] u fun e v => e = .returned (.string (teR zs most st).1) ∧ Only g u v ∧ Rdr v g g2 a N cap zs (teR zs most st).2 := by
  cases st with
  | none =>
    obtain ⟨p', h⟩ := h
    refine (textbad_any most g a N cap p' u h).mono ?_
    rintro e v ⟨rfl, o, b⟩
    exact ⟨rfl, o, p', b⟩
  | some r =>
    obtain ⟨p, n⟩ := r
    have hr := h.row
    have h' := h
    obtain ⟨h1, h2, h3, h4, w0, r1, r2, r3⟩ := h
    refine (rtext_any p most g a N cap zs w0 u h3 hm h4 r1 r2 r3 h1).mono ?_
    intro e v q
    unfold TextP at q
    cases hs : textS zs p most with
    | none =>
      rw [hs] at q
      obtain ⟨o, rfl, p', b⟩ := q
      simp only [teR, hs]
      exact ⟨trivial, o, p', b⟩
    | some r =>
      obtain ⟨v', q'⟩ := r
      rw [hs] at q
      obtain ⟨o, rfl, b⟩ := q
      simp only [teR, hs]
      exact ⟨trivial, o, h'.step o b (textS_wf hr hs).2.2 hg⟩
set_option maxHeartbeats 2000000 in
theorem countbad_any (most : Int) (p : Int) (h : RB u g a N cap p true) :
    Calls Try.prog 79 #[.pointer (some ⟨g, 0, none⟩), .int .i64 most] u fun e v => e = .returned (.int .i64 0) ∧ Only g u v ∧ RB v g a N cap p true := by
  have NB := hide (numbad_any g a N cap p u h)
  clear h
  go_enter Try.func79, Try.ntmps79
  go_wp2_with fail
  refine NB.out.mono ?_
  rintro e x ⟨rfl, k, hrb⟩
  obtain ⟨_, _, d2, df⟩ := hrb.cell
  have df2 := df 2
  have RS := hide hrb.drew.spoil
  have OS := hide (k.drew.setCell 2 (.bool true))
  clear df k hrb NB
  go_wp2
  go_region
  go_wp2
  go_ret
  exact ⟨rfl, OS.out, RS.out⟩
theorem rd_count (most : Int) (hm : (Lit.int .i64 most).wf = true) (h : Rdr u g g2 a N cap zs st) (hg : g < g2) :
    Calls Try.prog 79 #[.pointer (some ⟨g, 0, none⟩), .int .i64 most] u fun e v => e = .returned (.int .i64 (coR zs most st).1) ∧ Only g u v ∧ Rdr v g g2 a N cap zs (coR zs most st).2 := by
  cases st with
  | none =>
    obtain ⟨p', h⟩ := h
    refine (countbad_any most p' h).mono ?_
    rintro e v ⟨rfl, o, b⟩
    exact ⟨rfl, o, p', b⟩
  | some r =>
    obtain ⟨p, n⟩ := r
    have hr := h.row
    have h' := h
    obtain ⟨h1, h2, h3, h4, w0, r1, r2, r3⟩ := h
    refine (rcount_any p most g a N cap zs w0 u h3 hm h4 r1 r2 r3 h1).mono ?_
    intro e v q
    unfold CountP at q
    cases hs : sizeS zs p most with
    | none =>
      rw [hs] at q
      obtain ⟨o, rfl, p', b⟩ := q
      simp only [coR, hs]
      exact ⟨trivial, o, p', b⟩
    | some r =>
      obtain ⟨v', q'⟩ := r
      rw [hs] at q
      obtain ⟨o, rfl, b⟩ := q
      simp only [coR, hs]
      obtain ⟨e1, -, -, -, -⟩ := sizeS_some hr.bytes hs
      exact ⟨trivial, o, h'.step o b (getS_wf hr e1).2.2 hg⟩
end
/-- While it reads: the reader, the result's box. -/
structure G0 (w u : World) (g g2 : Nat) (a : Option Addr) (N cap : Nat) (zs : List Int) (st : Option (Int × Nat)) : Prop where
  rd : Rdr u g g2 a N cap zs st
  box : BoxM u w.heap.size hm0
  ch : Ch (fun b => b = g ∨ b = g2) w u
  lt : g < g2 ∧ g2 < w.heap.size
section
variable {w u v : World} {g g2 N cap gm : Nat} {a : Option Addr} {zs : List Int} {st st' : Option (Int × Nat)} {h : Hm}
theorem G0.lo (D : G0 w u g g2 a N cap zs st) (c : Ch (fun b => b = g ∨ b = g2) u v) (r : Rdr v g g2 a N cap zs st') : G0 w v g g2 a N cap zs st' := by
  have := D.lt
  exact ⟨r, D.box.block (c.block _ D.box.lt (by omega)), D.ch.trans c, D.lt⟩
theorem G0.hi {C : Nat → Prop} (D : G0 w u g g2 a N cap zs st) (c : Ch C u v) (hC : ∀ k, C k → w.heap.size < k) : G0 w v g g2 a N cap zs st := by
  have hl := D.lt
  refine ⟨D.rd.ch c (fun k e => by have := hC k e; omega), D.box.block (c.block _ D.box.lt (fun e => Nat.lt_irrefl _ (hC _ e))), ?_, hl⟩
  refine ⟨c.os.trans D.ch.os, c.tape.trans D.ch.tape, c.output.trans D.ch.output, Nat.le_trans D.ch.size c.size, fun k hk hn => ?_⟩
  rw [c.block k (Nat.lt_of_lt_of_le hk D.ch.size) (fun e => by have := hC k e; omega)]
  exact D.ch.block k hk hn
theorem only_two (h : Only g u v) : Ch (fun b => b = g ∨ b = g2) u v := (only_ch h).more (fun _ _ e => Or.inl e)
theorem ch_low {C : Nat → Prop} {B : Nat} (b : Below B u v) (hC : ∀ k, B ≤ k → C k) : Ch C u v :=
  ⟨b.os, b.tape, b.output, b.size, fun k _ hn => b.block k (by by_cases h : k < B; exact h; exact absurd (hC k (by omega)) hn)⟩
theorem G0.spoil (D : G0 w u g g2 a N cap zs st) : G0 w (u.setCell ⟨g, 2, none⟩ (.bool true)) g g2 a N cap zs none := by
  refine D.lo ((ch_set u g 2 (.bool true)).more (fun _ _ e => Or.inl e)) ?_
  cases st with
  | none =>
    obtain ⟨p', h⟩ := D.rd
    exact ⟨p', h.spoil⟩
  | some r =>
    obtain ⟨h, -⟩ := D.rd
    exact ⟨_, h.spoil⟩
/-- And the matcher's own box, at gm. -/
structure GS (w u : World) (g g2 : Nat) (a : Option Addr) (N cap : Nat) (zs : List Int) (st : Option (Int × Nat)) (gm : Nat) (h : Hm) : Prop where
  g0 : G0 w u g g2 a N cap zs st
  mb : BoxM u gm h
  gt : w.heap.size < gm
theorem GS.lo (D : GS w u g g2 a N cap zs st gm h) (c : Ch (fun b => b = g ∨ b = g2) u v) (r : Rdr v g g2 a N cap zs st') : GS w v g g2 a N cap zs st' gm h := by
  have := D.g0.lt
  have := D.gt
  exact ⟨D.g0.lo c r, D.mb.block (c.block _ D.mb.lt (by omega)), D.gt⟩
theorem GS.turn {h' : Hm} {o : Nat} {x : Value} (D : GS w u g g2 a N cap zs st gm h) (b : BoxM (u.setCell ⟨gm, o, none⟩ x) gm h') : GS w (u.setCell ⟨gm, o, none⟩ x) g g2 a N cap zs st gm h' :=
  ⟨D.g0.hi (ch_set u gm o x) (fun k e => by have := D.gt; omega), b, D.gt⟩
theorem GS.start {v' : World} (D : G0 w u g g2 a N cap zs st) {op : Int} (hv : u.alloc (.cells #[.int .i64 op, .string ⟨#[]⟩, .string ⟨#[]⟩, .slice none 0 0, .slice none 0 0] 25) = v') : GS w v' g g2 a N cap zs st u.heap.size ⟨op, ⟨#[]⟩, ⟨#[]⟩, none, 0, 0, none, 0, 0⟩ := by
  have hb := D.box.lt
  refine ⟨?_, ?_, hb⟩
  · rw [← hv]
    exact D.hi (C := fun b => u.heap.size ≤ b) (ch_low ((Below.refl _ _).alloc (Nat.le_refl _) _) (fun _ => id)) (fun k e => by omega)
  · rw [← hv]
    exact boxM_new u ⟨op, ⟨#[]⟩, ⟨#[]⟩, none, 0, 0, none, 0, 0⟩
end
/-- What got tells. -/
def GoP (res : Option (Mt × Int × Nat)) (g g2 n : Nat) (a : Option Addr) (N cap : Nat) (zs : List Int) (w : World) (e : Ending) (w' : World) : Prop :=
  Ch (fun b => b = g ∨ b = g2) w w' ∧ ∃ (h : Hm) (st : Option (Int × Nat)), e = .returned (.agg #[.int .i64 h.op, .string h.nm, .string h.vl, .slice h.va h.vn h.vc, .slice h.ka h.kn h.kc]) ∧ Rdr w' g g2 a N cap zs st ∧ match res with
  | none => st = none
  | some (m, q, left) => SeeM (fun b => w.heap.size ≤ b) w' m h ∧ ∃ n' : Nat, st = some (q, n') ∧ n' ≤ 64 ∧ 64 - n' = left ∧ n < n'
def RdG (f : Nat) : Prop := ∀ (g g2 n : Nat) (a : Option Addr) (N cap : Nat) (zs : List Int) (p : Int) (d : Nat) (w : World), Rdr w g g2 a N cap zs (some (p, n)) → g < g2 → n ≤ 64 → d ≤ 9 → 3 * (64 - n) + 1 ≤ f →
    Calls Try.prog 46 #[.pointer (some ⟨g, 0, none⟩), .pointer (some ⟨g2, 0, none⟩), .int .i64 (d : Int)] w fun e w' => GoP (gtM zs true f (64 - n) d p) g g2 n a N cap zs w e w'
section
variable {w u v : World} {g g2 N cap gm n : Nat} {a : Option Addr} {zs : List Int} {st : Option (Int × Nat)} {h : Hm}
theorem G0.fin (D : G0 w u g g2 a N cap zs st) {res : Option (Mt × Int × Nat)} (hr : match res with
  | none => st = none
  | some (m, q, left) => SeeM (fun b => w.heap.size + 1 ≤ b) u m h ∧ ∃ n' : Nat, st = some (q, n') ∧ n' ≤ 64 ∧ 64 - n' = left ∧ n < n') :
    GoP res g g2 n a N cap zs w (.returned (.agg #[.int .i64 h.op, .string h.nm, .string h.vl, .slice h.va h.vn h.vc, .slice h.ka h.kn h.kc])) (put5 u w.heap.size h) := by
  have hl := D.lt
  have c5 := ch_put5 u w.heap.size h
  refine ⟨⟨c5.os.trans D.ch.os, c5.tape.trans D.ch.tape, c5.output.trans D.ch.output, Nat.le_trans D.ch.size c5.size, fun b hb hn => ?_⟩, h, st, rfl, D.rd.ch c5 (fun k e => by omega), ?_⟩
  · rw [c5.block b (Nat.lt_of_lt_of_le hb D.ch.size) (by omega)]
    exact D.ch.block b hb hn
  · cases res with
    | none => exact hr
    | some r =>
      obtain ⟨m, q, left⟩ := r
      exact ⟨see_box hr.1 rfl, hr.2⟩
end
/-- Values read so far. -/
structure GV (w u : World) (g g2 : Nat) (a : Option Addr) (N cap : Nat) (zs : List Int) (st : Option (Int × Nat)) (gm : Nat) (nm : ByteArray) (sa : Option Addr) (j sc : Nat) (ss : List ByteArray) : Prop where
  gs : GS w u g g2 a N cap zs st gm ⟨4, nm, ⟨#[]⟩, sa, j, sc, none, 0, 0⟩
  own : u.ownsRow (gm + 1) 9 1 (.slice sa j sc) j (ss.map Value.string)
  fit : ∀ x ∈ ss, x.size ≤ 64
section
variable {w u v v4 : World} {g g2 N cap gm j sc g' c' : Nat} {a sa : Option Addr} {zs : List Int} {st st' : Option (Int × Nat)} {nm x : ByteArray} {ss : List ByteArray}
theorem GV.start (D : GS w u g g2 a N cap zs st gm ⟨4, nm, ⟨#[]⟩, none, 0, 0, none, 0, 0⟩) : GV w u g g2 a N cap zs st gm nm none 0 0 [] := ⟨D, World.ownsRow_nil _ _ _ _, fun x hx => (by cases hx)⟩
theorem GV.lo (D : GV w u g g2 a N cap zs st gm nm sa j sc ss) (c : Ch (fun b => b = g ∨ b = g2) u v) (r : Rdr v g g2 a N cap zs st') : GV w v g g2 a N cap zs st' gm nm sa j sc ss := by
  have := D.gs.g0.lt
  have := D.gs.gt
  exact ⟨D.gs.lo c r, row_ch D.own c (fun b hb e => by have := (row_cells D.own hb).2; omega), D.fit⟩
theorem GV.push (D : GV w u g g2 a N cap zs st gm nm sa j sc ss) (hx : x.size ≤ 64)
    (o : v4.ownsRow (gm + 1) 9 1 (.slice (some ⟨g', 0, none⟩) (j + 1) c') (j + 1) (ss.map Value.string ++ [Value.string x])) (gr : (u.alloc (.cells #[.string x] 9)).grownBy v4 (Value.slice sa j sc).ownBlock) :
    GV w (v4.setCell ⟨gm, 3, none⟩ (.slice (some ⟨g', 0, none⟩) (j + 1) c')) g g2 a N cap zs st gm nm (some ⟨g', 0, none⟩) (j + 1) c' (ss ++ [x]) ∧ BoxM v4 gm ⟨4, nm, ⟨#[]⟩, sa, j, sc, none, 0, 0⟩ := by
  have hgt := D.gs.gt
  have hne : ∀ b, (Value.slice sa j sc).ownBlock = some b → gm + 1 ≤ b := fun b hb => (row_cells D.own hb).2
  have c4 : Ch (fun b => (Value.slice sa j sc).ownBlock = some b) (u.alloc (.cells #[.string x] 9)) v4 := Ch.grown gr
  have hm := D.gs.mb.lt
  have cA : Ch (fun b => gm < b) u (u.alloc (.cells #[.string x] 9)) := ch_low ((Below.refl _ _).alloc (Nat.le_refl _) _) (fun k hk => by omega)
  have c5 : Ch (fun b => gm < b) u v4 := cA.trans (c4.more (fun k _ e => by have := hne k e; omega))
  have cs := ch_set v4 gm 3 (.slice (some ⟨g', 0, none⟩) (j + 1) c')
  have mb : BoxM v4 gm ⟨4, nm, ⟨#[]⟩, sa, j, sc, none, 0, 0⟩ := D.gs.mb.block (c5.block gm hm (Nat.lt_irrefl _))
  refine ⟨⟨⟨D.gs.g0.hi ((c5.more (fun k _ e => by omega)).trans (cs.more (fun k _ e => by omega)) : Ch (fun b => gm ≤ b) u _) (fun k e => by omega), mb.vals _ _ _, hgt⟩, ?_, ?_⟩, mb⟩
  · rw [List.map_append]
    exact row_ch o cs (fun b hb e => by have := (row_cells o hb).2; omega)
  · intro y hy
    rcases List.mem_append.1 hy with hy | hy
    · exact D.fit y hy
    · obtain rfl := List.mem_singleton.1 hy
      exact hx
theorem GV.fin (D : GV w u g g2 a N cap zs st gm nm sa j sc ss) (hj : j ≤ 17) (hnm : nm.size ≤ 9223372036854775807) : SeeM (fun b => w.heap.size + 1 ≤ b) u (.mk 4 nm .empty ss []) ⟨4, nm, ⟨#[]⟩, sa, j, sc, none, 0, 0⟩ := by
  have hl : ss.length = j := by have := D.own.1; simpa using this
  have hgt := D.gs.gt
  have h3 : ∀ x ∈ ss, x.size ≤ 9223372036854775807 := fun x hx => by have := D.fit x hx; omega
  have key : TxR (fun b => w.heap.size + 1 ≤ b) u sa j ss ∧ j ≤ sc ∧ (sa = none → sc = 0) := by
    rcases id D.own.2 with ⟨h1, h2⟩ | ⟨b, c', cur, h1, h2, _, h4, _⟩
    · simp only [Value.slice.injEq] at h1
      exact ⟨⟨hl, by omega, h3, Or.inl h2⟩, by omega, fun _ => h1.2.2⟩
    · simp only [Value.slice.injEq, true_and] at h1
      obtain ⟨rfl, rfl⟩ := h1
      refine ⟨⟨hl, by omega, h3, Or.inr ⟨b, 0, rfl, by omega, fun i hi => ?_⟩⟩, h4, fun e => by cases e⟩
      rw [Nat.zero_add, D.own.cellAt i (by omega), List.getElem?_map, List.getD_eq_getElem?_getD, List.getElem?_eq_getElem (by omega)]
      rfl
  exact vals_see (by decide) hnm (by decide) key.1 key.2.1 key.2.2
end
/-- Kids read so far (none told where the reader has gone bad). -/
structure GK (w u : World) (g g2 : Nat) (a : Option Addr) (N cap : Nat) (zs : List Int) (st : Option (Int × Nat)) (gm : Nat) (op : Int) (ka : Option Addr) (j kc : Nat) (ks : List Mt) (hs : List Hm) : Prop where
  gs : GS w u g g2 a N cap zs st gm ⟨op, ⟨#[]⟩, ⟨#[]⟩, none, 0, 0, ka, j, kc⟩
  own : OwnM u (gm + 1) ka j kc hs
  see : ∀ (i : Nat) (kd : Mt) (hd : Hm), ks[i]? = some kd → hs[i]? = some hd → SeeM (fun b => gm + 1 ≤ b ∧ (Value.slice ka j kc).ownBlock ≠ some b) u kd hd
  len : st ≠ none → ks.length = j
section
variable {w u v vb v4 : World} {g g2 N cap gm j kc g' c' : Nat} {a ka : Option Addr} {zs : List Int} {st st' : Option (Int × Nat)} {op : Int} {ks : List Mt} {hs : List Hm} {kd : Mt} {h' : Hm}
theorem GK.start (D : GS w u g g2 a N cap zs st gm ⟨op, ⟨#[]⟩, ⟨#[]⟩, none, 0, 0, none, 0, 0⟩) : GK w u g g2 a N cap zs st gm op none 0 0 [] [] := ⟨D, ownM_nil _ _, fun i kd hd h1 _ => by simp at h1, fun _ => rfl⟩
theorem GK.ne (D : GK w u g g2 a N cap zs st gm op ka j kc ks hs) : ∀ b, (Value.slice ka j kc).ownBlock = some b → gm + 1 ≤ b := fun b hb => (D.own.block b hb).1
/-- What a kid's reading leaves of the rest. -/
theorem GK.rest (D : GK w u g g2 a N cap zs st gm op ka j kc ks hs) (cc : Ch (fun x => x = g ∨ x = g2) u v) (b : Below v.heap.size v vb) : OwnM vb (gm + 1) ka j kc hs ∧ BoxM vb gm ⟨op, ⟨#[]⟩, ⟨#[]⟩, none, 0, 0, ka, j, kc⟩ ∧ gm + 1 ≤ vb.heap.size := by
  have hl := D.gs.g0.lt
  have hgt := D.gs.gt
  have m1 : BoxM v gm ⟨op, ⟨#[]⟩, ⟨#[]⟩, none, 0, 0, ka, j, kc⟩ := D.gs.mb.block (cc.block _ D.gs.mb.lt (by omega))
  have m2 := m1.block (b.block _ m1.lt)
  exact ⟨(D.own.ch cc (fun b hb e => by have := D.ne b hb; omega)).below b (Nat.le_refl _), m2, m2.lt⟩
/-- One kid more: of a reader that stands as st' behind it. -/
theorem GK.push {ks' : List Mt} (D : GK w u g g2 a N cap zs st gm op ka j kc ks hs) (cc : Ch (fun x => x = g ∨ x = g2) u v) (b : Below v.heap.size v vb) (r : Rdr v g g2 a N cap zs st')
    (hk : ks' = [] ∧ st' = none ∨ ks' = ks ++ [kd] ∧ st ≠ none ∧ SeeM (fun b => u.heap.size ≤ b) v kd h')
    (o : OwnM v4 (gm + 1) (some ⟨g', 0, none⟩) (j + 1) c' (hs ++ [h'])) (c4 : Ch (fun b => (Value.slice ka j kc).ownBlock = some b) vb v4) (hg : (Value.slice ka j kc).ownBlock = some g' ∨ vb.heap.size ≤ g') :
    GK w (v4.setCell ⟨gm, 4, none⟩ (.slice (some ⟨g', 0, none⟩) (j + 1) c')) g g2 a N cap zs st' gm op (some ⟨g', 0, none⟩) (j + 1) c' ks' (hs ++ [h']) ∧ BoxM v4 gm ⟨op, ⟨#[]⟩, ⟨#[]⟩, none, 0, 0, ka, j, kc⟩ := by
  have hlt := D.gs.g0.lt
  have hgt := D.gs.gt
  have hne := D.ne
  have hl := D.own.len
  have hv : gm < v.heap.size := Nat.lt_of_lt_of_le D.gs.mb.lt cc.size
  obtain ⟨-, mvb, -⟩ := D.rest cc b
  have G1 := D.gs.g0.lo cc r
  have cb : Ch (fun b => gm < b) v vb := ch_low b (fun k hk => by omega)
  have c5 : Ch (fun b => gm < b) v v4 := cb.trans (c4.more (fun k _ e => by have := hne k e; omega))
  have cs := ch_set v4 gm 4 (.slice (some ⟨g', 0, none⟩) (j + 1) c')
  have mb : BoxM v4 gm ⟨op, ⟨#[]⟩, ⟨#[]⟩, none, 0, 0, ka, j, kc⟩ := mvb.block (c4.block gm mvb.lt (fun e => by have := hne _ e; omega))
  refine ⟨⟨⟨G1.hi ((c5.more (fun k _ e => by omega)).trans (cs.more (fun k _ e => by omega)) : Ch (fun b => gm ≤ b) v _) (fun k e => by omega), mb.kids _ _ _, hgt⟩, o.ch cs (fun b hb e => by have := (o.block b hb).1; omega), fun i kd' hd h1 h2 => ?_, fun hn => ?_⟩, mb⟩
  · rcases hk with ⟨rfl, -⟩ | ⟨rfl, hs0, se⟩
    · simp at h1
    · have hkl := D.len hs0
      by_cases hi : i < j
      · rw [List.getElem?_append_left (by omega)] at h1 h2
        have s1 := (D.see i kd' hd h1 h2).ch cc (fun b hb e => by omega)
        exact ((see_pushed (s1.below b) (fun b _ hb => hb) c4 hg).ch cs (fun b hb e => by omega))
      · have hi2 : i < (hs ++ [h']).length := (List.getElem?_eq_some_iff.1 h2).1
        simp only [List.length_append, List.length_cons, List.length_nil] at hi2
        have : i = j := by omega
        subst this
        rw [List.getElem?_append_right (by omega), hl] at h2
        rw [List.getElem?_append_right (by omega), hkl] at h1
        simp at h1 h2
        subst h1 h2
        have hug : gm < u.heap.size := D.gs.mb.lt
        refine ((see_pushed (se.below b) (fun b _ hb => ⟨by omega, fun e => ?_⟩) c4 hg).ch cs (fun b hb e => by omega))
        have := (D.own.block b e).2
        omega
  · rcases hk with ⟨-, e⟩ | ⟨rfl, hs0, -⟩
    · exact absurd e hn
    · simp [D.len hs0]
theorem GK.fin (D : GK w u g g2 a N cap zs st gm op ka j kc ks hs) (hst : st ≠ none) (hj : j ≤ 64) (ho : (Lit.int .i64 op).wf = true) : SeeM (fun b => w.heap.size + 1 ≤ b) u (.mk op .empty .empty [] ks) ⟨op, ⟨#[]⟩, ⟨#[]⟩, none, 0, 0, ka, j, kc⟩ := by
  have hgt := D.gs.gt
  have hcap := D.own.capped
  have hkl := D.len hst
  rw [seeM_iff]
  refine ⟨rfl, rfl, rfl, ⟨ho, by show (0 : Nat) ≤ _; decide, by show (0 : Nat) ≤ _; decide, Nat.le_refl _, fun _ => rfl, by show j * 88 ≤ _; omega, hcap.1, fun e => (hcap.2 e).2⟩, ⟨rfl, by show (0 : Nat) * 16 ≤ _; omega, fun x hx => (by cases hx), Or.inl rfl⟩, hkl, ?_⟩
  by_cases h0 : j = 0
  · exact Or.inl h0
  · right
    have hl := D.own.len
    have hx : hs[0]? = some hs[0] := List.getElem?_eq_getElem (by omega)
    obtain ⟨b, hb, hob, -⟩ := D.own.kid hx
    refine ⟨b, 0, hb, by have := D.ne b hob; omega, fun i kd hi => ?_⟩
    have hlt : i < ks.length := (List.getElem?_eq_some_iff.1 hi).1
    have hy : hs[i]? = some hs[i] := List.getElem?_eq_getElem (by omega)
    obtain ⟨b2, hb2, -, f2⟩ := D.own.kid hy
    rw [hb] at hb2
    simp only [Option.some.injEq, Addr.mk.injEq, and_true] at hb2
    subst hb2
    exact ⟨hs[i], f2, (D.see i kd _ hi hy).mono (fun b _ hb => by omega)⟩
end
end Go.Proofs.Ythebcmkainplnaa

namespace Go.Proofs.Ythebcmkainplnaa
open Go.RowKit
set_option maxRecDepth 20000

theorem g0_start {w W V : World} {g g2 n N cap : Nat} {a : Option Addr} {zs : List Int} {p : Int} (h : Rdr w g g2 a N cap zs (some (p, n))) (hg : g < g2) (hW : w.alloc (.cells #[.int .i64 0, .string ⟨#[]⟩, .string ⟨#[]⟩, .slice none 0 0, .slice none 0 0] 25) = W) (hV : W.setCell ⟨g2, 0, none⟩ (.int .i64 ((n : Int) + 1)) = V) : G0 w V g g2 a N cap zs (some (p, n + 1)) := by
  obtain ⟨h1, h2, h3, h4, w0, r1, r2, r3⟩ := h
  have l1 := h1.lt'
  have l2 := h2.lt
  have bl : Below w.heap.size w W := by rw [← hW]; exact (Below.refl _ _).alloc (Nat.le_refl _) _
  have cs := ch_set W g2 0 (.int .i64 ((n : Int) + 1))
  have sW : W.heap.size = w.heap.size + 1 := by rw [← hW]; simp
  have b0 : BoxM W w.heap.size hm0 := by rw [← hW]; exact BoxM.zero w
  have cw : Ch (fun b => b = g ∨ b = g2) w W := (Ch.of_below bl).more (fun _ _ => False.elim)
  rw [← hV]
  refine ⟨⟨(h1.keep (bl.block g l1)).keep (cs.block g (by omega) (by omega)), (h2.block (bl.block g2 l2)).set _, h3, h4, w0, r1, r2, (r3.trans (bl.mono r3.size)).trans (cs.below (by have := r3.size; omega) (fun k hk e => by omega))⟩, b0.block (cs.block _ b0.lt (by omega)), cw.trans (cs.more (fun _ _ e => Or.inr e)), hg, l2⟩
/-- The reader has gone bad, or so many were counted. -/
def stN (n : Nat) (st : Option (Int × Nat)) : Prop := st = none ∨ ∃ p, st = some (p, n)
theorem te_stN {zs : List Int} {most : Int} {n : Nat} {st : Option (Int × Nat)} (h : stN n st) : stN n (teR zs most st).2 := by
  rcases h with rfl | ⟨p, rfl⟩
  · exact Or.inl rfl
  · cases hs : textS zs p most with
    | none => exact Or.inl (by simp only [teR, hs])
    | some r => exact Or.inr ⟨r.2, by simp only [teR, hs]⟩
theorem co_stN {zs : List Int} {most : Int} {n : Nat} {st : Option (Int × Nat)} (h : stN n st) : stN n (coR zs most st).2 := by
  rcases h with rfl | ⟨p, rfl⟩
  · exact Or.inl rfl
  · cases hs : sizeS zs p most with
    | none => exact Or.inl (by simp only [coR, hs])
    | some r => exact Or.inr ⟨r.2, by simp only [coR, hs]⟩
theorem te_size {zs : List Int} {most : Int} {st : Option (Int × Nat)} (hz : Bytes8 zs) (hm : 0 ≤ most) : ((teR zs most st).1.size : Int) ≤ most := by
  cases st with
  | none => exact hm
  | some r =>
    obtain ⟨p, n⟩ := r
    cases hs : textS zs p most with
    | none => simp only [teR, hs]; exact hm
    | some r =>
      simp only [teR, hs]
      exact textS_size hz hs
theorem co_size {zs : List Int} {most : Int} {st : Option (Int × Nat)} (hz : Bytes8 zs) (hm : 0 ≤ most) : 0 ≤ (coR zs most st).1 ∧ (coR zs most st).1 ≤ most := by
  cases st with
  | none => exact ⟨Int.le_refl _, hm⟩
  | some r =>
    obtain ⟨p, n⟩ := r
    cases hs : sizeS zs p most with
    | none => simp only [coR, hs]; exact ⟨Int.le_refl _, hm⟩
    | some r =>
      simp only [coR, hs]
      obtain ⟨-, h1, h2, -⟩ := sizeS_some (v := r.1) (fr := r.2) hz hs
      exact ⟨h1, h2⟩
/-- Two texts read, and what is told of them. -/
theorem leaf_end {zs : List Int} {p : Int} {n left : Nat} {op : Int} {s1 s2 : ByteArray} {st1 st2 : Option (Int × Nat)} {ans : Option (Mt × Int × Nat)} (h1 : teR zs 32 (some (p, n)) = (s1, st1)) (h2 : teR zs 64 st1 = (s2, st2))
    (h : (match textS zs p 32 with
      | none => none
      | some n => match textS zs n.2 64 with
        | none => none
        | some v => some (.mk op (strOfNums n.1) (strOfNums v.1) [] [], v.2, left)) = ans) : (ans = none ∧ st2 = none) ∨ ∃ q, ans = some (.mk op s1 s2 [] [], q, left) ∧ st2 = some (q, n) := by
  cases e1 : textS zs p 32 with
  | none =>
    simp only [teR, e1, Prod.mk.injEq] at h1
    obtain ⟨-, rfl⟩ := h1
    simp only [teR, Prod.mk.injEq] at h2
    rw [e1] at h
    exact Or.inl ⟨h.symm, h2.2.symm⟩
  | some r =>
    simp only [teR, e1, Prod.mk.injEq] at h1
    obtain ⟨rfl, rfl⟩ := h1
    rw [e1] at h
    simp only at h
    cases e2 : textS zs r.2 64 with
    | none =>
      simp only [teR, e2, Prod.mk.injEq] at h2
      rw [e2] at h
      exact Or.inl ⟨h.symm, h2.2.symm⟩
    | some r2 =>
      simp only [teR, e2, Prod.mk.injEq] at h2
      obtain ⟨rfl, rfl⟩ := h2
      rw [e2] at h
      exact Or.inr ⟨r2.2, h.symm, rfl⟩
/-- Values still to be read, and what is told then. -/
def anV (zs : List Int) (s1 : ByteArray) (left : Nat) (ss : List ByteArray) (c : Nat) : Option (Int × Nat) → Option (Mt × Int × Nat)
  | none => none
  | some (p, _) => (gtV zs c p).map fun x => (.mk 4 s1 .empty (ss ++ x.1) [], x.2, left)
theorem anV_step (zs : List Int) (s1 : ByteArray) (left : Nat) (ss : List ByteArray) (c : Nat) (st : Option (Int × Nat)) : anV zs s1 left ss (c + 1) st = anV zs s1 left (ss ++ [(teR zs 64 st).1]) c (teR zs 64 st).2 := by
  cases st with
  | none => rfl
  | some r =>
    obtain ⟨p, n⟩ := r
    cases hs : textS zs p 64 with
    | none => simp only [anV, teR, gtV, hs, Option.map_none]
    | some r =>
      simp only [anV, teR, gtV, hs, Option.map_map]
      congr 1
      funext x
      simp
theorem among_start {zs : List Int} {p : Int} {n left : Nat} {s1 : ByteArray} {st1 st2 : Option (Int × Nat)} {cn : Int} {ans : Option (Mt × Int × Nat)} (h1 : teR zs 32 (some (p, n)) = (s1, st1)) (h2 : coR zs 16 st1 = (cn, st2))
    (h : (match textS zs p 32 with
      | none => none
      | some n => match cntZ zs true n.2 16 with
        | none => none
        | some c => (gtV zs c.1.toNat c.2).map fun x => (.mk 4 (strOfNums n.1) .empty x.1 [], x.2, left)) = ans) : ans = anV zs s1 left [] cn.toNat st2 := by
  cases e1 : textS zs p 32 with
  | none =>
    simp only [teR, e1, Prod.mk.injEq] at h1
    obtain ⟨-, rfl⟩ := h1
    simp only [coR, Prod.mk.injEq] at h2
    rw [e1] at h
    rw [← h2.2]
    exact h.symm
  | some r =>
    simp only [teR, e1, Prod.mk.injEq] at h1
    obtain ⟨rfl, rfl⟩ := h1
    rw [e1] at h
    simp only at h
    unfold cntZ at h
    rw [if_pos rfl] at h
    cases e2 : sizeS zs r.2 16 with
    | none =>
      simp only [coR, e2, Prod.mk.injEq] at h2
      rw [e2] at h
      rw [← h2.2]
      exact h.symm
    | some r2 =>
      simp only [coR, e2, Prod.mk.injEq] at h2
      obtain ⟨rfl, rfl⟩ := h2
      rw [e2] at h
      exact h.symm
/-- Kids still to be read, and what is told then. -/
def anK (zs : List Int) (op : Int) (d F : Nat) (ks : List Mt) (c : Nat) : Option (Int × Nat) → Option (Mt × Int × Nat)
  | none => none
  | some (p, n) => (gtK zs true F (64 - n) d c p).map fun z => (.mk op .empty .empty [] (ks ++ z.1), z.2)
theorem kids_start {zs : List Int} {p : Int} {n left d f : Nat} {op : Int} {st2 : Option (Int × Nat)} {cn : Int} {ans : Option (Mt × Int × Nat)} (hl : 64 - n = left) (h2 : coR zs 64 (some (p, n)) = (cn, st2))
    (h : (match cntZ zs true p 64 with
      | none => none
      | some c => (gtK zs true f left d c.1.toNat c.2).map fun x => (.mk op .empty .empty [] x.1, x.2)) = ans) : ans = anK zs op d f [] cn.toNat st2 := by
  unfold cntZ at h
  rw [if_pos rfl] at h
  cases e2 : sizeS zs p 64 with
  | none =>
    simp only [coR, e2, Prod.mk.injEq] at h2
    rw [e2] at h
    rw [← h2.2]
    exact h.symm
  | some r2 =>
    simp only [coR, e2, Prod.mk.injEq] at h2
    obtain ⟨rfl, rfl⟩ := h2
    rw [e2] at h
    simp only [anK, hl]
    exact h.symm
/-- A kid's reading, and what is told then. -/
theorem kid_step {zs : List Int} {op : Int} {d F c n n2 : Nat} {p2 : Int} {ks : List Mt} {ans : Option (Mt × Int × Nat)} {g g2 : Nat} {a : Option Addr} {N cap : Nat} {u v : World} {e : Ending} (hn : n ≤ n2)
    (h : ans = anK zs op d (F + 1) ks (c + 1) (some (p2, n2))) (q : GoP (gtM zs true F (64 - n2) d p2) g g2 n2 a N cap zs u e v) :
    Ch (fun b => b = g ∨ b = g2) u v ∧ ∃ (h : Hm) (st : Option (Int × Nat)) (ks' : List Mt) (kd : Mt), e = .returned (.agg #[.int .i64 h.op, .string h.nm, .string h.vl, .slice h.va h.vn h.vc, .slice h.ka h.kn h.kc]) ∧ Rdr v g g2 a N cap zs st ∧
      (ks' = [] ∧ st = none ∨ ks' = ks ++ [kd] ∧ some (p2, n2) ≠ none ∧ SeeM (fun b => u.heap.size ≤ b) v kd h) ∧ ans = anK zs op d F ks' c st ∧ (st = none ∨ ∃ q n', st = some (q, n') ∧ n' ≤ 64 ∧ n < n' ∧ n2 < n') := by
  obtain ⟨c1, h0, st, rfl, r, m⟩ := q
  refine ⟨c1, h0, st, ?_⟩
  cases hu : gtM zs true F (64 - n2) d p2 with
  | none =>
    rw [hu] at m
    have m' : st = none := m
    subst m'
    refine ⟨[], zeroM, rfl, r, Or.inl ⟨rfl, rfl⟩, ?_, Or.inl rfl⟩
    rw [h]
    simp only [anK, gtK, hu, Option.map_none]
  | some x =>
    obtain ⟨m2, q, left2⟩ := x
    rw [hu] at m
    obtain ⟨se, n', rfl, h1, h2, h3⟩ : SeeM (fun b => u.heap.size ≤ b) v m2 h0 ∧ ∃ n' : Nat, st = some (q, n') ∧ n' ≤ 64 ∧ 64 - n' = left2 ∧ n2 < n' := m
    refine ⟨ks ++ [m2], m2, rfl, r, Or.inr ⟨rfl, by simp, se⟩, ?_, Or.inr ⟨q, n', rfl, h1, by omega, h3⟩⟩
    rw [h]
    simp only [anK, gtK, hu, h2, Option.map_map]
    congr 1
    funext z
    simp
theorem bad_cell {u : World} {g g2 N cap : Nat} {a : Option Addr} {zs : List Int} (h : Rdr u g g2 a N cap zs none) : u.cell? ⟨g, 2, none⟩ = some (.bool true) := h.cells.2.1
theorem good_cell {u : World} {g g2 N cap : Nat} {a : Option Addr} {zs : List Int} {r : Int × Nat} (h : Rdr u g g2 a N cap zs (some r)) : u.cell? ⟨g, 2, none⟩ = some (.bool false) := h.cells.2.1

set_option maxHeartbeats 4000000 in
theorem got_over (f g g2 n : Nat) (a : Option Addr) (N cap : Nat) (zs : List Int) (p : Int) (d : Nat) (w : World) (h : Rdr w g g2 a N cap zs (some (p, n))) (hg : g < g2) (hn : n ≤ 64) (hd : d ≤ 9) (hb : n = 64 ∨ d = 9) :
    Calls Try.prog 46 #[.pointer (some ⟨g, 0, none⟩), .pointer (some ⟨g2, 0, none⟩), .int .i64 (d : Int)] w fun e w' => GoP (gtM zs true (f + 1) (64 - n) d p) g g2 n a N cap zs w e w' := by
  obtain ⟨W, hW⟩ : ∃ W, Hid (w.alloc (.cells #[.int .i64 0, .string ⟨#[]⟩, .string ⟨#[]⟩, .slice none 0 0, .slice none 0 0] 25) = W) := ⟨_, rfl⟩
  obtain ⟨V, hV⟩ : ∃ V, Hid (W.setCell ⟨g2, 0, none⟩ (.int .i64 ((n : Int) + 1)) = V) := ⟨_, rfl⟩
  have D0 := hide (g0_start h hg hW.out hV.out)
  have HB8 : Hid (Bytes8 zs) := h.row.bytes
  have hlt := D0.out.lt
  have bx : Hid (BX W g2 n) := by rw [← hW.out]; exact h.2.1.block (Below.heap_alloc _ _ _ h.2.1.lt)
  obtain ⟨b0, b1⟩ := bx.out.cell
  obtain ⟨a0, a1⟩ := D0.out.rd.2.1.cell
  rw [show ((n + 1 : Nat) : Int) = (n : Int) + 1 from rfl] at a0
  obtain ⟨-, s2, sf⟩ := D0.out.rd.cells
  have sf2 := sf 2
  obtain ⟨ans, HA⟩ : ∃ ans, Hid (gtM zs true (f + 1) (64 - n) d p = ans) := ⟨_, rfl⟩
  rw [HA.out]
  clear h bx sf
  have HF : Hid (none = ans) := by
    rw [← HA.out]
    show none = _
    cases hq : 64 - n with
    | zero => rw [gtM]
    | succ l => rw [gtM, if_pos ⟨rfl, by omega⟩]
  obtain ⟨U, hU⟩ : ∃ U, Hid (V.setCell ⟨g, 2, none⟩ (.bool true) = U) := ⟨_, rfl⟩
  have D1 := hide D0.out.spoil
  rw [hU.out] at D1
  have K1 := hide (rd_num D1.out.rd hg)
  rw [show nuR zs none = (0, none) from rfl] at K1
  dsimp only at K1
  clear HA
  have t12 : (64 : Int) < (n : Int) + 1 ∨ ¬ (64 : Int) < (n : Int) + 1 ∧ (8 : Int) < (d : Int) := by omega
  clear hb
  rcases t12 with t1 | ⟨t1, t2⟩
  · skip
    go_enter Try.func46, Try.ntmps46
    go_upto_region 1 with fail
    rw [hW.out]
    go_upto_region 2 with fail
    rw [hV.out]
    clear hW hV b0 b1
    go_upto_region 4 with fail
    rw [hU.out]
    clear hU s2 sf2 a0 a1
    go_wp2_with fail
    with_reducible refine K1.out.mono ?_
    rintro e u1 ⟨rfl, o1, r1⟩
    have D2 := hide (D1.out.lo (only_two o1) r1)
    clear o1 r1 K1 D1 D0
    have t3 := bad_cell D2.out.rd
    obtain ⟨-, t2, tf⟩ := D2.out.rd.cells
    have tf2 := tf 2
    dsimp only [Option.isNone] at t2
    obtain ⟨U9, hU9⟩ : ∃ U9, Hid (u1.setCell ⟨g, 2, none⟩ (.bool true) = U9) := ⟨_, rfl⟩
    have D9 := hide D2.out.spoil
    rw [hU9.out] at D9
    clear tf
    go_upto_region 7 with fail
    rw [hU9.out]
    clear hU9 t2 tf2
    have DN : Hid (GoP ans g g2 n a N cap zs w (.returned (.agg #[.int .i64 0, .string ⟨#[]⟩, .string ⟨#[]⟩, .slice none 0 0, .slice none 0 0])) (put5 U9 w.heap.size ⟨0, ⟨#[]⟩, ⟨#[]⟩, none, 0, 0, none, 0, 0⟩)) := by
      rw [← HF.out]
      exact D9.out.fin (h := ⟨0, ⟨#[]⟩, ⟨#[]⟩, none, 0, 0, none, 0, 0⟩) (res := none) rfl
    obtain ⟨d0, d1, d2, d3, d4, df⟩ := D9.out.box.all
    have f10 := df 0
    have f11 := df 1
    have f12 := df 2
    have f13 := df 3
    have f14 := df 4
    dsimp only [hm0] at d0 d1 d2 d3 d4
    have FP := hide (D9.out.box.put ⟨0, ⟨#[]⟩, ⟨#[]⟩, none, 0, 0, none, 0, 0⟩)
    clear df
    go_wp2
    obtain ⟨x0, x1, x2, x3, x4, _⟩ := FP.out.all
    unfold put5 at x0 x1 x2 x3 x4
    dsimp only at x0 x1 x2 x3 x4
    exact bodyPost_ret (v := .agg #[.int .i64 0, .string ⟨#[]⟩, .string ⟨#[]⟩, .slice none 0 0, .slice none 0 0]) (by simp [results, Try.results46, go_sem, x0, x1, x2, x3, x4]) rfl DN.out
  · skip
    go_enter Try.func46, Try.ntmps46
    go_upto_region 1 with fail
    rw [hW.out]
    go_upto_region 2 with fail
    rw [hV.out]
    clear hW hV b0 b1
    go_upto_region 4 with fail
    rw [hU.out]
    clear hU s2 sf2 a0 a1
    go_wp2_with fail
    with_reducible refine K1.out.mono ?_
    rintro e u1 ⟨rfl, o1, r1⟩
    have D2 := hide (D1.out.lo (only_two o1) r1)
    clear o1 r1 K1 D1 D0
    have t3 := bad_cell D2.out.rd
    obtain ⟨-, t2, tf⟩ := D2.out.rd.cells
    have tf2 := tf 2
    dsimp only [Option.isNone] at t2
    obtain ⟨U9, hU9⟩ : ∃ U9, Hid (u1.setCell ⟨g, 2, none⟩ (.bool true) = U9) := ⟨_, rfl⟩
    have D9 := hide D2.out.spoil
    rw [hU9.out] at D9
    clear tf
    go_upto_region 7 with fail
    rw [hU9.out]
    clear hU9 t2 tf2
    have DN : Hid (GoP ans g g2 n a N cap zs w (.returned (.agg #[.int .i64 0, .string ⟨#[]⟩, .string ⟨#[]⟩, .slice none 0 0, .slice none 0 0])) (put5 U9 w.heap.size ⟨0, ⟨#[]⟩, ⟨#[]⟩, none, 0, 0, none, 0, 0⟩)) := by
      rw [← HF.out]
      exact D9.out.fin (h := ⟨0, ⟨#[]⟩, ⟨#[]⟩, none, 0, 0, none, 0, 0⟩) (res := none) rfl
    obtain ⟨d0, d1, d2, d3, d4, df⟩ := D9.out.box.all
    have f10 := df 0
    have f11 := df 1
    have f12 := df 2
    have f13 := df 3
    have f14 := df 4
    dsimp only [hm0] at d0 d1 d2 d3 d4
    have FP := hide (D9.out.box.put ⟨0, ⟨#[]⟩, ⟨#[]⟩, none, 0, 0, none, 0, 0⟩)
    clear df
    go_wp2
    obtain ⟨x0, x1, x2, x3, x4, _⟩ := FP.out.all
    unfold put5 at x0 x1 x2 x3 x4
    dsimp only at x0 x1 x2 x3 x4
    exact bodyPost_ret (v := .agg #[.int .i64 0, .string ⟨#[]⟩, .string ⟨#[]⟩, .slice none 0 0, .slice none 0 0]) (by simp [results, Try.results46, go_sem, x0, x1, x2, x3, x4]) rfl DN.out

set_option maxHeartbeats 4000000 in
theorem got_none (f g g2 n : Nat) (a : Option Addr) (N cap : Nat) (zs : List Int) (p : Int) (d : Nat) (w : World) (h : Rdr w g g2 a N cap zs (some (p, n))) (hg : g < g2) (hn : n < 64) (hd : d ≤ 8) (hgs : getS zs p = none) :
    Calls Try.prog 46 #[.pointer (some ⟨g, 0, none⟩), .pointer (some ⟨g2, 0, none⟩), .int .i64 (d : Int)] w fun e w' => GoP (gtM zs true (f + 1) (64 - n) d p) g g2 n a N cap zs w e w' := by
  obtain ⟨W, hW⟩ : ∃ W, Hid (w.alloc (.cells #[.int .i64 0, .string ⟨#[]⟩, .string ⟨#[]⟩, .slice none 0 0, .slice none 0 0] 25) = W) := ⟨_, rfl⟩
  obtain ⟨V, hV⟩ : ∃ V, Hid (W.setCell ⟨g2, 0, none⟩ (.int .i64 ((n : Int) + 1)) = V) := ⟨_, rfl⟩
  have D0 := hide (g0_start h hg hW.out hV.out)
  have HB8 : Hid (Bytes8 zs) := h.row.bytes
  have hlt := D0.out.lt
  have bx : Hid (BX W g2 n) := by rw [← hW.out]; exact h.2.1.block (Below.heap_alloc _ _ _ h.2.1.lt)
  obtain ⟨b0, b1⟩ := bx.out.cell
  obtain ⟨a0, a1⟩ := D0.out.rd.2.1.cell
  rw [show ((n + 1 : Nat) : Int) = (n : Int) + 1 from rfl] at a0
  obtain ⟨-, s2, sf⟩ := D0.out.rd.cells
  have sf2 := sf 2
  obtain ⟨ans, HA⟩ : ∃ ans, Hid (gtM zs true (f + 1) (64 - n) d p = ans) := ⟨_, rfl⟩
  rw [HA.out]
  clear h bx sf
  have HF : Hid (none = ans) := by
    rw [← HA.out, show 64 - n = (63 - n) + 1 by omega, gtM, if_neg (by omega), hgs]
    exact rfl
  have K1 := hide (rd_num D0.out.rd hg)
  rw [show nuR zs (some (p, n + 1)) = (0, none) by simp only [nuR, hgs]] at K1
  dsimp only at K1
  clear HA
  have t1 : ¬ (64 : Int) < (n : Int) + 1 := by omega
  have t2 : ¬ (8 : Int) < (d : Int) := by omega
  go_enter Try.func46, Try.ntmps46
  go_upto_region 1 with fail
  rw [hW.out]
  go_upto_region 2 with fail
  rw [hV.out]
  clear hW hV b0 b1
  go_wp2_with fail
  with_reducible refine K1.out.mono ?_
  rintro e u1 ⟨rfl, o1, r1⟩
  have D2 := hide (D0.out.lo (only_two o1) r1)
  clear o1 r1 K1 D0 s2 sf2 a0 a1
  have t3 := bad_cell D2.out.rd
  obtain ⟨-, t2, tf⟩ := D2.out.rd.cells
  have tf2 := tf 2
  dsimp only [Option.isNone] at t2
  obtain ⟨U9, hU9⟩ : ∃ U9, Hid (u1.setCell ⟨g, 2, none⟩ (.bool true) = U9) := ⟨_, rfl⟩
  have D9 := hide D2.out.spoil
  rw [hU9.out] at D9
  clear tf
  go_upto_region 7 with fail
  rw [hU9.out]
  clear hU9 t2 tf2
  have DN : Hid (GoP ans g g2 n a N cap zs w (.returned (.agg #[.int .i64 0, .string ⟨#[]⟩, .string ⟨#[]⟩, .slice none 0 0, .slice none 0 0])) (put5 U9 w.heap.size ⟨0, ⟨#[]⟩, ⟨#[]⟩, none, 0, 0, none, 0, 0⟩)) := by
    rw [← HF.out]
    exact D9.out.fin (h := ⟨0, ⟨#[]⟩, ⟨#[]⟩, none, 0, 0, none, 0, 0⟩) (res := none) rfl
  obtain ⟨d0, d1, d2, d3, d4, df⟩ := D9.out.box.all
  have f10 := df 0
  have f11 := df 1
  have f12 := df 2
  have f13 := df 3
  have f14 := df 4
  dsimp only [hm0] at d0 d1 d2 d3 d4
  have FP := hide (D9.out.box.put ⟨0, ⟨#[]⟩, ⟨#[]⟩, none, 0, 0, none, 0, 0⟩)
  clear df
  go_wp2
  obtain ⟨x0, x1, x2, x3, x4, _⟩ := FP.out.all
  unfold put5 at x0 x1 x2 x3 x4
  dsimp only at x0 x1 x2 x3 x4
  exact bodyPost_ret (v := .agg #[.int .i64 0, .string ⟨#[]⟩, .string ⟨#[]⟩, .slice none 0 0, .slice none 0 0]) (by simp [results, Try.results46, go_sem, x0, x1, x2, x3, x4]) rfl DN.out

set_option maxHeartbeats 4000000 in
theorem got_great (f g g2 n : Nat) (a : Option Addr) (N cap : Nat) (zs : List Int) (p : Int) (d : Nat) (w : World) (h : Rdr w g g2 a N cap zs (some (p, n))) (hg : g < g2) (hn : n < 64) (hd : d ≤ 8) (v p1 : Int) (hgs : getS zs p = some (v, p1)) (hv : 7 < v) :
    Calls Try.prog 46 #[.pointer (some ⟨g, 0, none⟩), .pointer (some ⟨g2, 0, none⟩), .int .i64 (d : Int)] w fun e w' => GoP (gtM zs true (f + 1) (64 - n) d p) g g2 n a N cap zs w e w' := by
  obtain ⟨W, hW⟩ : ∃ W, Hid (w.alloc (.cells #[.int .i64 0, .string ⟨#[]⟩, .string ⟨#[]⟩, .slice none 0 0, .slice none 0 0] 25) = W) := ⟨_, rfl⟩
  obtain ⟨V, hV⟩ : ∃ V, Hid (W.setCell ⟨g2, 0, none⟩ (.int .i64 ((n : Int) + 1)) = V) := ⟨_, rfl⟩
  have D0 := hide (g0_start h hg hW.out hV.out)
  have HB8 : Hid (Bytes8 zs) := h.row.bytes
  have hlt := D0.out.lt
  have bx : Hid (BX W g2 n) := by rw [← hW.out]; exact h.2.1.block (Below.heap_alloc _ _ _ h.2.1.lt)
  obtain ⟨b0, b1⟩ := bx.out.cell
  obtain ⟨a0, a1⟩ := D0.out.rd.2.1.cell
  rw [show ((n + 1 : Nat) : Int) = (n : Int) + 1 from rfl] at a0
  obtain ⟨-, s2, sf⟩ := D0.out.rd.cells
  have sf2 := sf 2
  obtain ⟨ans, HA⟩ : ∃ ans, Hid (gtM zs true (f + 1) (64 - n) d p = ans) := ⟨_, rfl⟩
  rw [HA.out]
  clear h bx sf
  have HF : Hid (none = ans) := by
    rw [← HA.out, show 64 - n = (63 - n) + 1 by omega, gtM, if_neg (by omega), hgs]
    simp only
    rw [if_pos hv]
    exact rfl
  have K1 := hide (rd_num D0.out.rd hg)
  rw [show nuR zs (some (p, n + 1)) = (v, some (p1, n + 1)) by simp only [nuR, hgs]] at K1
  dsimp only at K1
  clear HA
  have t1 : ¬ (64 : Int) < (n : Int) + 1 := by omega
  have t2 : ¬ (8 : Int) < (d : Int) := by omega
  go_enter Try.func46, Try.ntmps46
  go_upto_region 1 with fail
  rw [hW.out]
  go_upto_region 2 with fail
  rw [hV.out]
  clear hW hV b0 b1
  go_wp2_with fail
  with_reducible refine K1.out.mono ?_
  rintro e u1 ⟨rfl, o1, r1⟩
  have D2 := hide (D0.out.lo (only_two o1) r1)
  clear o1 r1 K1 D0 s2 sf2 a0 a1
  have t3 := good_cell D2.out.rd
  obtain ⟨-, t2, tf⟩ := D2.out.rd.cells
  have tf2 := tf 2
  dsimp only [Option.isNone] at t2
  obtain ⟨U9, hU9⟩ : ∃ U9, Hid (u1.setCell ⟨g, 2, none⟩ (.bool true) = U9) := ⟨_, rfl⟩
  have D9 := hide D2.out.spoil
  rw [hU9.out] at D9
  clear tf
  go_upto_region 7 with fail
  rw [hU9.out]
  clear hU9 t2 tf2
  have DN : Hid (GoP ans g g2 n a N cap zs w (.returned (.agg #[.int .i64 0, .string ⟨#[]⟩, .string ⟨#[]⟩, .slice none 0 0, .slice none 0 0])) (put5 U9 w.heap.size ⟨0, ⟨#[]⟩, ⟨#[]⟩, none, 0, 0, none, 0, 0⟩)) := by
    rw [← HF.out]
    exact D9.out.fin (h := ⟨0, ⟨#[]⟩, ⟨#[]⟩, none, 0, 0, none, 0, 0⟩) (res := none) rfl
  obtain ⟨d0, d1, d2, d3, d4, df⟩ := D9.out.box.all
  have f10 := df 0
  have f11 := df 1
  have f12 := df 2
  have f13 := df 3
  have f14 := df 4
  dsimp only [hm0] at d0 d1 d2 d3 d4
  have FP := hide (D9.out.box.put ⟨0, ⟨#[]⟩, ⟨#[]⟩, none, 0, 0, none, 0, 0⟩)
  clear df
  go_wp2
  obtain ⟨x0, x1, x2, x3, x4, _⟩ := FP.out.all
  unfold put5 at x0 x1 x2 x3 x4
  dsimp only at x0 x1 x2 x3 x4
  exact bodyPost_ret (v := .agg #[.int .i64 0, .string ⟨#[]⟩, .string ⟨#[]⟩, .slice none 0 0, .slice none 0 0]) (by simp [results, Try.results46, go_sem, x0, x1, x2, x3, x4]) rfl DN.out
end Go.Proofs.Ythebcmkainplnaa

namespace Go.Proofs.Ythebcmkainplnaa
open Go.RowKit
set_option maxRecDepth 20000

set_option maxHeartbeats 8000000 in
theorem got_0 (f g g2 n : Nat) (a : Option Addr) (N cap : Nat) (zs : List Int) (p : Int) (d : Nat) (w : World) (h : Rdr w g g2 a N cap zs (some (p, n))) (hg : g < g2) (hn : n < 64) (hd : d ≤ 8) (p1 : Int) (hgs : getS zs p = some (0, p1)) :
    Calls Try.prog 46 #[.pointer (some ⟨g, 0, none⟩), .pointer (some ⟨g2, 0, none⟩), .int .i64 (d : Int)] w fun e w' => GoP (gtM zs true (f + 1) (64 - n) d p) g g2 n a N cap zs w e w' := by
  obtain ⟨W, hW⟩ : ∃ W, Hid (w.alloc (.cells #[.int .i64 0, .string ⟨#[]⟩, .string ⟨#[]⟩, .slice none 0 0, .slice none 0 0] 25) = W) := ⟨_, rfl⟩
  obtain ⟨V, hV⟩ : ∃ V, Hid (W.setCell ⟨g2, 0, none⟩ (.int .i64 ((n : Int) + 1)) = V) := ⟨_, rfl⟩
  have D0 := hide (g0_start h hg hW.out hV.out)
  have HB8 : Hid (Bytes8 zs) := h.row.bytes
  have hlt := D0.out.lt
  have bx : Hid (BX W g2 n) := by rw [← hW.out]; exact h.2.1.block (Below.heap_alloc _ _ _ h.2.1.lt)
  obtain ⟨b0, b1⟩ := bx.out.cell
  obtain ⟨a0, a1⟩ := D0.out.rd.2.1.cell
  rw [show ((n + 1 : Nat) : Int) = (n : Int) + 1 from rfl] at a0
  obtain ⟨-, s2, sf⟩ := D0.out.rd.cells
  have sf2 := sf 2
  obtain ⟨ans, HA⟩ : ∃ ans, Hid (gtM zs true (f + 1) (64 - n) d p = ans) := ⟨_, rfl⟩
  rw [HA.out]
  clear h bx sf
  obtain ⟨left, hleft⟩ : ∃ left, 64 - n = left + 1 := ⟨64 - n - 1, by omega⟩
  have hl2 : 64 - (n + 1) = left := by omega
  rw [hleft, gtM, if_neg (by omega), hgs] at HA
  simp only at HA
  rw [if_neg (by decide), if_neg (by decide), if_neg (by decide), if_neg (by decide), if_neg (by decide)] at HA
  have K1 := hide (rd_num D0.out.rd hg)
  rw [show nuR zs (some (p, n + 1)) = (0, some (p1, n + 1)) by simp only [nuR, hgs]] at K1
  dsimp only at K1
  clear hgs
  have t1 : ¬ (64 : Int) < (n : Int) + 1 := by omega
  have t2 : ¬ (8 : Int) < (d : Int) := by omega
  go_enter Try.func46, Try.ntmps46
  go_upto_region 1 with fail
  rw [hW.out]
  go_upto_region 2 with fail
  rw [hV.out]
  clear hW hV b0 b1
  go_wp2_with fail
  with_reducible refine K1.out.mono ?_
  rintro e u1 ⟨rfl, o1, r1⟩
  have D2 := hide (D0.out.lo (only_two o1) r1)
  clear o1 r1 K1 D0 s2 sf2 a0 a1
  have t3 := good_cell D2.out.rd
  obtain ⟨u3, hu3⟩ : ∃ u3, Hid (u1.alloc (.cells #[.int .i64 0, .string ⟨#[]⟩, .string ⟨#[]⟩, .slice none 0 0, .slice none 0 0] 25) = u3) := ⟨_, rfl⟩
  have D3 := hide (GS.start D2.out hu3.out)
  go_upto_region 9 with fail
  rw [hu3.out]
  clear hu3 t3 D2
  generalize u1.heap.size = gm at *
  obtain ⟨m0, m1, m2, m3, m4, _⟩ := D3.out.mb.all
  dsimp only at m0 m1 m2 m3 m4
  go_upto_region 10 with fail
  clear m0 m1 m2 m3 m4
  have DN : Hid (GoP ans g g2 n a N cap zs w (.returned (.agg #[.int .i64 0, .string ⟨#[]⟩, .string ⟨#[]⟩, .slice none 0 0, .slice none 0 0])) (put5 u3 w.heap.size ⟨0, ⟨#[]⟩, ⟨#[]⟩, none, 0, 0, none, 0, 0⟩)) := by
    rw [← HA.out]
    exact D3.out.g0.fin (h := ⟨0, ⟨#[]⟩, ⟨#[]⟩, none, 0, 0, none, 0, 0⟩) (res := some (.mk 0 .empty .empty [] [], p1, left)) ⟨leaf_see _ _ (by decide) (by decide) (by decide), n + 1, rfl, by omega, hl2, by omega⟩
  obtain ⟨d0, d1, d2, d3, d4, df⟩ := D3.out.g0.box.all
  obtain ⟨m0, m1, m2, m3, m4, _⟩ := D3.out.mb.all
  have f10 := df 0
  have f11 := df 1
  have f12 := df 2
  have f13 := df 3
  have f14 := df 4
  dsimp only [hm0] at d0 d1 d2 d3 d4 m0 m1 m2 m3 m4
  have FP := hide (D3.out.g0.box.put ⟨0, ⟨#[]⟩, ⟨#[]⟩, none, 0, 0, none, 0, 0⟩)
  clear df
  go_wp2
  obtain ⟨x0, x1, x2, x3, x4, _⟩ := FP.out.all
  unfold put5 at x0 x1 x2 x3 x4
  dsimp only at x0 x1 x2 x3 x4
  exact bodyPost_ret (v := .agg #[.int .i64 0, .string ⟨#[]⟩, .string ⟨#[]⟩, .slice none 0 0, .slice none 0 0]) (by simp [results, Try.results46, go_sem, x0, x1, x2, x3, x4]) rfl DN.out

set_option maxHeartbeats 8000000 in
theorem got_1 (f g g2 n : Nat) (a : Option Addr) (N cap : Nat) (zs : List Int) (p : Int) (d : Nat) (w : World) (h : Rdr w g g2 a N cap zs (some (p, n))) (hg : g < g2) (hn : n < 64) (hd : d ≤ 8) (p1 : Int) (hgs : getS zs p = some (1, p1)) :
    Calls Try.prog 46 #[.pointer (some ⟨g, 0, none⟩), .pointer (some ⟨g2, 0, none⟩), .int .i64 (d : Int)] w fun e w' => GoP (gtM zs true (f + 1) (64 - n) d p) g g2 n a N cap zs w e w' := by
  obtain ⟨W, hW⟩ : ∃ W, Hid (w.alloc (.cells #[.int .i64 0, .string ⟨#[]⟩, .string ⟨#[]⟩, .slice none 0 0, .slice none 0 0] 25) = W) := ⟨_, rfl⟩
  obtain ⟨V, hV⟩ : ∃ V, Hid (W.setCell ⟨g2, 0, none⟩ (.int .i64 ((n : Int) + 1)) = V) := ⟨_, rfl⟩
  have D0 := hide (g0_start h hg hW.out hV.out)
  have HB8 : Hid (Bytes8 zs) := h.row.bytes
  have hlt := D0.out.lt
  have bx : Hid (BX W g2 n) := by rw [← hW.out]; exact h.2.1.block (Below.heap_alloc _ _ _ h.2.1.lt)
  obtain ⟨b0, b1⟩ := bx.out.cell
  obtain ⟨a0, a1⟩ := D0.out.rd.2.1.cell
  rw [show ((n + 1 : Nat) : Int) = (n : Int) + 1 from rfl] at a0
  obtain ⟨-, s2, sf⟩ := D0.out.rd.cells
  have sf2 := sf 2
  obtain ⟨ans, HA⟩ : ∃ ans, Hid (gtM zs true (f + 1) (64 - n) d p = ans) := ⟨_, rfl⟩
  rw [HA.out]
  clear h bx sf
  obtain ⟨left, hleft⟩ : ∃ left, 64 - n = left + 1 := ⟨64 - n - 1, by omega⟩
  have hl2 : 64 - (n + 1) = left := by omega
  rw [hleft, gtM, if_neg (by omega), hgs] at HA
  simp only at HA
  rw [if_neg (by decide), if_pos (by decide)] at HA
  have K1 := hide (rd_num D0.out.rd hg)
  rw [show nuR zs (some (p, n + 1)) = (1, some (p1, n + 1)) by simp only [nuR, hgs]] at K1
  dsimp only at K1
  clear hgs
  have t1 : ¬ (64 : Int) < (n : Int) + 1 := by omega
  have t2 : ¬ (8 : Int) < (d : Int) := by omega
  go_enter Try.func46, Try.ntmps46
  go_upto_region 1 with fail
  rw [hW.out]
  go_upto_region 2 with fail
  rw [hV.out]
  clear hW hV b0 b1
  go_wp2_with fail
  with_reducible refine K1.out.mono ?_
  rintro e u1 ⟨rfl, o1, r1⟩
  have D2 := hide (D0.out.lo (only_two o1) r1)
  clear o1 r1 K1 D0 s2 sf2 a0 a1
  have t3 := good_cell D2.out.rd
  obtain ⟨u3, hu3⟩ : ∃ u3, Hid (u1.alloc (.cells #[.int .i64 1, .string ⟨#[]⟩, .string ⟨#[]⟩, .slice none 0 0, .slice none 0 0] 25) = u3) := ⟨_, rfl⟩
  have D3 := hide (GS.start D2.out hu3.out)
  go_upto_region 9 with fail
  rw [hu3.out]
  clear hu3 t3 D2
  generalize u1.heap.size = gm at *
  obtain ⟨m0, m1, m2, m3, m4, _⟩ := D3.out.mb.all
  dsimp only at m0 m1 m2 m3 m4
  go_upto_region 10 with fail
  clear m0 m1 m2 m3 m4
  obtain ⟨⟨s1, st1⟩, Hs1⟩ : ∃ r, Hid (teR zs 32 (some (p1, n + 1)) = r) := ⟨_, rfl⟩
  have hzs1 := te_size (zs := zs) (most := 32) (st := (some (p1, n + 1))) HB8.out (by decide)
  rw [Hs1.out] at hzs1
  dsimp only at hzs1
  have Ks1 := hide (rd_text 32 (by decide) D3.out.g0.rd hg)
  rw [Hs1.out] at Ks1
  dsimp only at Ks1
  go_wp2_with fail
  with_reducible refine Ks1.out.mono ?_
  rintro e v1a ⟨rfl, o1, r1⟩
  have D4a := hide (D3.out.lo (only_two o1) r1)
  obtain ⟨m0, m1, m2, m3, m4, mf⟩ := D4a.out.mb.all
  have mf1 := mf 1
  dsimp only at m0 m1 m2 m3 m4
  obtain ⟨v1, huv1⟩ : ∃ v, Hid (v1a.setCell ⟨gm, 1, none⟩ (.string s1) = v) := ⟨_, rfl⟩
  have D4 : Hid (GS w v1 g g2 a N cap zs st1 gm ⟨1, s1, ⟨#[]⟩, none, 0, 0, none, 0, 0⟩) := by
    rw [← huv1.out]
    exact D4a.out.turn (D4a.out.mb.name s1)
  clear o1 r1 Ks1 D3 mf
  go_upto_region 14 with fail
  rw [huv1.out]
  clear huv1 D4a m0 m1 m2 m3 m4 mf1
  obtain ⟨⟨s2, st2⟩, Hs2⟩ : ∃ r, Hid (teR zs 64 st1 = r) := ⟨_, rfl⟩
  have hzs2 := te_size (zs := zs) (most := 64) (st := st1) HB8.out (by decide)
  rw [Hs2.out] at hzs2
  dsimp only at hzs2
  have Ks2 := hide (rd_text 64 (by decide) D4.out.g0.rd hg)
  rw [Hs2.out] at Ks2
  dsimp only at Ks2
  go_wp2_with fail
  with_reducible refine Ks2.out.mono ?_
  rintro e v2a ⟨rfl, o1, r1⟩
  have D5a := hide (D4.out.lo (only_two o1) r1)
  obtain ⟨m0, m1, m2, m3, m4, mf⟩ := D5a.out.mb.all
  have mf2 := mf 2
  dsimp only at m0 m1 m2 m3 m4
  obtain ⟨v2, huv2⟩ : ∃ v, Hid (v2a.setCell ⟨gm, 2, none⟩ (.string s2) = v) := ⟨_, rfl⟩
  have D5 : Hid (GS w v2 g g2 a N cap zs st2 gm ⟨1, s1, s2, none, 0, 0, none, 0, 0⟩) := by
    rw [← huv2.out]
    exact D5a.out.turn (D5a.out.mb.value s2)
  clear o1 r1 Ks2 D4 mf
  go_upto_region 34 with fail
  rw [huv2.out]
  clear huv2 D5a m0 m1 m2 m3 m4 mf2
  have DN : Hid (GoP ans g g2 n a N cap zs w (.returned (.agg #[.int .i64 1, .string s1, .string s2, .slice none 0 0, .slice none 0 0])) (put5 v2 w.heap.size ⟨1, s1, s2, none, 0, 0, none, 0, 0⟩)) := by
    rcases leaf_end Hs1.out Hs2.out HA.out with ⟨e1, e2⟩ | ⟨q, e1, e2⟩
    · rw [e1]
      exact D5.out.g0.fin (h := ⟨1, s1, s2, none, 0, 0, none, 0, 0⟩) (res := none) e2
    · rw [e1]
      exact D5.out.g0.fin (h := ⟨1, s1, s2, none, 0, 0, none, 0, 0⟩) (res := some _) ⟨leaf_see _ _ (by decide) (by omega) (by omega), n + 1, e2, by omega, hl2, by omega⟩
  obtain ⟨d0, d1, d2, d3, d4, df⟩ := D5.out.g0.box.all
  obtain ⟨m0, m1, m2, m3, m4, _⟩ := D5.out.mb.all
  have f10 := df 0
  have f11 := df 1
  have f12 := df 2
  have f13 := df 3
  have f14 := df 4
  dsimp only [hm0] at d0 d1 d2 d3 d4 m0 m1 m2 m3 m4
  have FP := hide (D5.out.g0.box.put ⟨1, s1, s2, none, 0, 0, none, 0, 0⟩)
  clear df
  go_wp2
  obtain ⟨x0, x1, x2, x3, x4, _⟩ := FP.out.all
  unfold put5 at x0 x1 x2 x3 x4
  dsimp only at x0 x1 x2 x3 x4
  exact bodyPost_ret (v := .agg #[.int .i64 1, .string s1, .string s2, .slice none 0 0, .slice none 0 0]) (by simp [results, Try.results46, go_sem, x0, x1, x2, x3, x4]) rfl DN.out

set_option maxHeartbeats 8000000 in
theorem got_2 (f g g2 n : Nat) (a : Option Addr) (N cap : Nat) (zs : List Int) (p : Int) (d : Nat) (w : World) (h : Rdr w g g2 a N cap zs (some (p, n))) (hg : g < g2) (hn : n < 64) (hd : d ≤ 8) (p1 : Int) (hgs : getS zs p = some (2, p1)) :
    Calls Try.prog 46 #[.pointer (some ⟨g, 0, none⟩), .pointer (some ⟨g2, 0, none⟩), .int .i64 (d : Int)] w fun e w' => GoP (gtM zs true (f + 1) (64 - n) d p) g g2 n a N cap zs w e w' := by
  obtain ⟨W, hW⟩ : ∃ W, Hid (w.alloc (.cells #[.int .i64 0, .string ⟨#[]⟩, .string ⟨#[]⟩, .slice none 0 0, .slice none 0 0] 25) = W) := ⟨_, rfl⟩
  obtain ⟨V, hV⟩ : ∃ V, Hid (W.setCell ⟨g2, 0, none⟩ (.int .i64 ((n : Int) + 1)) = V) := ⟨_, rfl⟩
  have D0 := hide (g0_start h hg hW.out hV.out)
  have HB8 : Hid (Bytes8 zs) := h.row.bytes
  have hlt := D0.out.lt
  have bx : Hid (BX W g2 n) := by rw [← hW.out]; exact h.2.1.block (Below.heap_alloc _ _ _ h.2.1.lt)
  obtain ⟨b0, b1⟩ := bx.out.cell
  obtain ⟨a0, a1⟩ := D0.out.rd.2.1.cell
  rw [show ((n + 1 : Nat) : Int) = (n : Int) + 1 from rfl] at a0
  obtain ⟨-, s2, sf⟩ := D0.out.rd.cells
  have sf2 := sf 2
  obtain ⟨ans, HA⟩ : ∃ ans, Hid (gtM zs true (f + 1) (64 - n) d p = ans) := ⟨_, rfl⟩
  rw [HA.out]
  clear h bx sf
  obtain ⟨left, hleft⟩ : ∃ left, 64 - n = left + 1 := ⟨64 - n - 1, by omega⟩
  have hl2 : 64 - (n + 1) = left := by omega
  rw [hleft, gtM, if_neg (by omega), hgs] at HA
  simp only at HA
  rw [if_neg (by decide), if_pos (by decide)] at HA
  have K1 := hide (rd_num D0.out.rd hg)
  rw [show nuR zs (some (p, n + 1)) = (2, some (p1, n + 1)) by simp only [nuR, hgs]] at K1
  dsimp only at K1
  clear hgs
  have t1 : ¬ (64 : Int) < (n : Int) + 1 := by omega
  have t2 : ¬ (8 : Int) < (d : Int) := by omega
  go_enter Try.func46, Try.ntmps46
  go_upto_region 1 with fail
  rw [hW.out]
  go_upto_region 2 with fail
  rw [hV.out]
  clear hW hV b0 b1
  go_wp2_with fail
  with_reducible refine K1.out.mono ?_
  rintro e u1 ⟨rfl, o1, r1⟩
  have D2 := hide (D0.out.lo (only_two o1) r1)
  clear o1 r1 K1 D0 s2 sf2 a0 a1
  have t3 := good_cell D2.out.rd
  obtain ⟨u3, hu3⟩ : ∃ u3, Hid (u1.alloc (.cells #[.int .i64 2, .string ⟨#[]⟩, .string ⟨#[]⟩, .slice none 0 0, .slice none 0 0] 25) = u3) := ⟨_, rfl⟩
  have D3 := hide (GS.start D2.out hu3.out)
  go_upto_region 9 with fail
  rw [hu3.out]
  clear hu3 t3 D2
  generalize u1.heap.size = gm at *
  obtain ⟨m0, m1, m2, m3, m4, _⟩ := D3.out.mb.all
  dsimp only at m0 m1 m2 m3 m4
  go_upto_region 10 with fail
  clear m0 m1 m2 m3 m4
  obtain ⟨⟨s1, st1⟩, Hs1⟩ : ∃ r, Hid (teR zs 32 (some (p1, n + 1)) = r) := ⟨_, rfl⟩
  have hzs1 := te_size (zs := zs) (most := 32) (st := (some (p1, n + 1))) HB8.out (by decide)
  rw [Hs1.out] at hzs1
  dsimp only at hzs1
  have Ks1 := hide (rd_text 32 (by decide) D3.out.g0.rd hg)
  rw [Hs1.out] at Ks1
  dsimp only at Ks1
  go_wp2_with fail
  with_reducible refine Ks1.out.mono ?_
  rintro e v1a ⟨rfl, o1, r1⟩
  have D4a := hide (D3.out.lo (only_two o1) r1)
  obtain ⟨m0, m1, m2, m3, m4, mf⟩ := D4a.out.mb.all
  have mf1 := mf 1
  dsimp only at m0 m1 m2 m3 m4
  obtain ⟨v1, huv1⟩ : ∃ v, Hid (v1a.setCell ⟨gm, 1, none⟩ (.string s1) = v) := ⟨_, rfl⟩
  have D4 : Hid (GS w v1 g g2 a N cap zs st1 gm ⟨2, s1, ⟨#[]⟩, none, 0, 0, none, 0, 0⟩) := by
    rw [← huv1.out]
    exact D4a.out.turn (D4a.out.mb.name s1)
  clear o1 r1 Ks1 D3 mf
  go_upto_region 14 with fail
  rw [huv1.out]
  clear huv1 D4a m0 m1 m2 m3 m4 mf1
  obtain ⟨⟨s2, st2⟩, Hs2⟩ : ∃ r, Hid (teR zs 64 st1 = r) := ⟨_, rfl⟩
  have hzs2 := te_size (zs := zs) (most := 64) (st := st1) HB8.out (by decide)
  rw [Hs2.out] at hzs2
  dsimp only at hzs2
  have Ks2 := hide (rd_text 64 (by decide) D4.out.g0.rd hg)
  rw [Hs2.out] at Ks2
  dsimp only at Ks2
  go_wp2_with fail
  with_reducible refine Ks2.out.mono ?_
  rintro e v2a ⟨rfl, o1, r1⟩
  have D5a := hide (D4.out.lo (only_two o1) r1)
  obtain ⟨m0, m1, m2, m3, m4, mf⟩ := D5a.out.mb.all
  have mf2 := mf 2
  dsimp only at m0 m1 m2 m3 m4
  obtain ⟨v2, huv2⟩ : ∃ v, Hid (v2a.setCell ⟨gm, 2, none⟩ (.string s2) = v) := ⟨_, rfl⟩
  have D5 : Hid (GS w v2 g g2 a N cap zs st2 gm ⟨2, s1, s2, none, 0, 0, none, 0, 0⟩) := by
    rw [← huv2.out]
    exact D5a.out.turn (D5a.out.mb.value s2)
  clear o1 r1 Ks2 D4 mf
  go_upto_region 34 with fail
  rw [huv2.out]
  clear huv2 D5a m0 m1 m2 m3 m4 mf2
  have DN : Hid (GoP ans g g2 n a N cap zs w (.returned (.agg #[.int .i64 2, .string s1, .string s2, .slice none 0 0, .slice none 0 0])) (put5 v2 w.heap.size ⟨2, s1, s2, none, 0, 0, none, 0, 0⟩)) := by
    rcases leaf_end Hs1.out Hs2.out HA.out with ⟨e1, e2⟩ | ⟨q, e1, e2⟩
    · rw [e1]
      exact D5.out.g0.fin (h := ⟨2, s1, s2, none, 0, 0, none, 0, 0⟩) (res := none) e2
    · rw [e1]
      exact D5.out.g0.fin (h := ⟨2, s1, s2, none, 0, 0, none, 0, 0⟩) (res := some _) ⟨leaf_see _ _ (by decide) (by omega) (by omega), n + 1, e2, by omega, hl2, by omega⟩
  obtain ⟨d0, d1, d2, d3, d4, df⟩ := D5.out.g0.box.all
  obtain ⟨m0, m1, m2, m3, m4, _⟩ := D5.out.mb.all
  have f10 := df 0
  have f11 := df 1
  have f12 := df 2
  have f13 := df 3
  have f14 := df 4
  dsimp only [hm0] at d0 d1 d2 d3 d4 m0 m1 m2 m3 m4
  have FP := hide (D5.out.g0.box.put ⟨2, s1, s2, none, 0, 0, none, 0, 0⟩)
  clear df
  go_wp2
  obtain ⟨x0, x1, x2, x3, x4, _⟩ := FP.out.all
  unfold put5 at x0 x1 x2 x3 x4
  dsimp only at x0 x1 x2 x3 x4
  exact bodyPost_ret (v := .agg #[.int .i64 2, .string s1, .string s2, .slice none 0 0, .slice none 0 0]) (by simp [results, Try.results46, go_sem, x0, x1, x2, x3, x4]) rfl DN.out

set_option maxHeartbeats 8000000 in
theorem got_3 (f g g2 n : Nat) (a : Option Addr) (N cap : Nat) (zs : List Int) (p : Int) (d : Nat) (w : World) (h : Rdr w g g2 a N cap zs (some (p, n))) (hg : g < g2) (hn : n < 64) (hd : d ≤ 8) (p1 : Int) (hgs : getS zs p = some (3, p1)) :
    Calls Try.prog 46 #[.pointer (some ⟨g, 0, none⟩), .pointer (some ⟨g2, 0, none⟩), .int .i64 (d : Int)] w fun e w' => GoP (gtM zs true (f + 1) (64 - n) d p) g g2 n a N cap zs w e w' := by
  obtain ⟨W, hW⟩ : ∃ W, Hid (w.alloc (.cells #[.int .i64 0, .string ⟨#[]⟩, .string ⟨#[]⟩, .slice none 0 0, .slice none 0 0] 25) = W) := ⟨_, rfl⟩
  obtain ⟨V, hV⟩ : ∃ V, Hid (W.setCell ⟨g2, 0, none⟩ (.int .i64 ((n : Int) + 1)) = V) := ⟨_, rfl⟩
  have D0 := hide (g0_start h hg hW.out hV.out)
  have HB8 : Hid (Bytes8 zs) := h.row.bytes
  have hlt := D0.out.lt
  have bx : Hid (BX W g2 n) := by rw [← hW.out]; exact h.2.1.block (Below.heap_alloc _ _ _ h.2.1.lt)
  obtain ⟨b0, b1⟩ := bx.out.cell
  obtain ⟨a0, a1⟩ := D0.out.rd.2.1.cell
  rw [show ((n + 1 : Nat) : Int) = (n : Int) + 1 from rfl] at a0
  obtain ⟨-, s2, sf⟩ := D0.out.rd.cells
  have sf2 := sf 2
  obtain ⟨ans, HA⟩ : ∃ ans, Hid (gtM zs true (f + 1) (64 - n) d p = ans) := ⟨_, rfl⟩
  rw [HA.out]
  clear h bx sf
  obtain ⟨left, hleft⟩ : ∃ left, 64 - n = left + 1 := ⟨64 - n - 1, by omega⟩
  have hl2 : 64 - (n + 1) = left := by omega
  rw [hleft, gtM, if_neg (by omega), hgs] at HA
  simp only at HA
  rw [if_neg (by decide), if_pos (by decide)] at HA
  have K1 := hide (rd_num D0.out.rd hg)
  rw [show nuR zs (some (p, n + 1)) = (3, some (p1, n + 1)) by simp only [nuR, hgs]] at K1
  dsimp only at K1
  clear hgs
  have t1 : ¬ (64 : Int) < (n : Int) + 1 := by omega
  have t2 : ¬ (8 : Int) < (d : Int) := by omega
  go_enter Try.func46, Try.ntmps46
  go_upto_region 1 with fail
  rw [hW.out]
  go_upto_region 2 with fail
  rw [hV.out]
  clear hW hV b0 b1
  go_wp2_with fail
  with_reducible refine K1.out.mono ?_
  rintro e u1 ⟨rfl, o1, r1⟩
  have D2 := hide (D0.out.lo (only_two o1) r1)
  clear o1 r1 K1 D0 s2 sf2 a0 a1
  have t3 := good_cell D2.out.rd
  obtain ⟨u3, hu3⟩ : ∃ u3, Hid (u1.alloc (.cells #[.int .i64 3, .string ⟨#[]⟩, .string ⟨#[]⟩, .slice none 0 0, .slice none 0 0] 25) = u3) := ⟨_, rfl⟩
  have D3 := hide (GS.start D2.out hu3.out)
  go_upto_region 9 with fail
  rw [hu3.out]
  clear hu3 t3 D2
  generalize u1.heap.size = gm at *
  obtain ⟨m0, m1, m2, m3, m4, _⟩ := D3.out.mb.all
  dsimp only at m0 m1 m2 m3 m4
  go_upto_region 10 with fail
  clear m0 m1 m2 m3 m4
  obtain ⟨⟨s1, st1⟩, Hs1⟩ : ∃ r, Hid (teR zs 32 (some (p1, n + 1)) = r) := ⟨_, rfl⟩
  have hzs1 := te_size (zs := zs) (most := 32) (st := (some (p1, n + 1))) HB8.out (by decide)
  rw [Hs1.out] at hzs1
  dsimp only at hzs1
  have Ks1 := hide (rd_text 32 (by decide) D3.out.g0.rd hg)
  rw [Hs1.out] at Ks1
  dsimp only at Ks1
  go_wp2_with fail
  with_reducible refine Ks1.out.mono ?_
  rintro e v1a ⟨rfl, o1, r1⟩
  have D4a := hide (D3.out.lo (only_two o1) r1)
  obtain ⟨m0, m1, m2, m3, m4, mf⟩ := D4a.out.mb.all
  have mf1 := mf 1
  dsimp only at m0 m1 m2 m3 m4
  obtain ⟨v1, huv1⟩ : ∃ v, Hid (v1a.setCell ⟨gm, 1, none⟩ (.string s1) = v) := ⟨_, rfl⟩
  have D4 : Hid (GS w v1 g g2 a N cap zs st1 gm ⟨3, s1, ⟨#[]⟩, none, 0, 0, none, 0, 0⟩) := by
    rw [← huv1.out]
    exact D4a.out.turn (D4a.out.mb.name s1)
  clear o1 r1 Ks1 D3 mf
  go_upto_region 14 with fail
  rw [huv1.out]
  clear huv1 D4a m0 m1 m2 m3 m4 mf1
  obtain ⟨⟨s2, st2⟩, Hs2⟩ : ∃ r, Hid (teR zs 64 st1 = r) := ⟨_, rfl⟩
  have hzs2 := te_size (zs := zs) (most := 64) (st := st1) HB8.out (by decide)
  rw [Hs2.out] at hzs2
  dsimp only at hzs2
  have Ks2 := hide (rd_text 64 (by decide) D4.out.g0.rd hg)
  rw [Hs2.out] at Ks2
  dsimp only at Ks2
  go_wp2_with fail
  with_reducible refine Ks2.out.mono ?_
  rintro e v2a ⟨rfl, o1, r1⟩
  have D5a := hide (D4.out.lo (only_two o1) r1)
  obtain ⟨m0, m1, m2, m3, m4, mf⟩ := D5a.out.mb.all
  have mf2 := mf 2
  dsimp only at m0 m1 m2 m3 m4
  obtain ⟨v2, huv2⟩ : ∃ v, Hid (v2a.setCell ⟨gm, 2, none⟩ (.string s2) = v) := ⟨_, rfl⟩
  have D5 : Hid (GS w v2 g g2 a N cap zs st2 gm ⟨3, s1, s2, none, 0, 0, none, 0, 0⟩) := by
    rw [← huv2.out]
    exact D5a.out.turn (D5a.out.mb.value s2)
  clear o1 r1 Ks2 D4 mf
  go_upto_region 34 with fail
  rw [huv2.out]
  clear huv2 D5a m0 m1 m2 m3 m4 mf2
  have DN : Hid (GoP ans g g2 n a N cap zs w (.returned (.agg #[.int .i64 3, .string s1, .string s2, .slice none 0 0, .slice none 0 0])) (put5 v2 w.heap.size ⟨3, s1, s2, none, 0, 0, none, 0, 0⟩)) := by
    rcases leaf_end Hs1.out Hs2.out HA.out with ⟨e1, e2⟩ | ⟨q, e1, e2⟩
    · rw [e1]
      exact D5.out.g0.fin (h := ⟨3, s1, s2, none, 0, 0, none, 0, 0⟩) (res := none) e2
    · rw [e1]
      exact D5.out.g0.fin (h := ⟨3, s1, s2, none, 0, 0, none, 0, 0⟩) (res := some _) ⟨leaf_see _ _ (by decide) (by omega) (by omega), n + 1, e2, by omega, hl2, by omega⟩
  obtain ⟨d0, d1, d2, d3, d4, df⟩ := D5.out.g0.box.all
  obtain ⟨m0, m1, m2, m3, m4, _⟩ := D5.out.mb.all
  have f10 := df 0
  have f11 := df 1
  have f12 := df 2
  have f13 := df 3
  have f14 := df 4
  dsimp only [hm0] at d0 d1 d2 d3 d4 m0 m1 m2 m3 m4
  have FP := hide (D5.out.g0.box.put ⟨3, s1, s2, none, 0, 0, none, 0, 0⟩)
  clear df
  go_wp2
  obtain ⟨x0, x1, x2, x3, x4, _⟩ := FP.out.all
  unfold put5 at x0 x1 x2 x3 x4
  dsimp only at x0 x1 x2 x3 x4
  exact bodyPost_ret (v := .agg #[.int .i64 3, .string s1, .string s2, .slice none 0 0, .slice none 0 0]) (by simp [results, Try.results46, go_sem, x0, x1, x2, x3, x4]) rfl DN.out

end Go.Proofs.Ythebcmkainplnaa

namespace Go.Proofs.Ythebcmkainplnaa
open Go.RowKit
set_option maxRecDepth 20000

set_option maxHeartbeats 16000000 in
theorem got_4 (f g g2 n : Nat) (a : Option Addr) (N cap : Nat) (zs : List Int) (p : Int) (d : Nat) (w : World) (h : Rdr w g g2 a N cap zs (some (p, n))) (hg : g < g2) (hn : n < 64) (hd : d ≤ 8) (p1 : Int) (hgs : getS zs p = some (4, p1)) :
    Calls Try.prog 46 #[.pointer (some ⟨g, 0, none⟩), .pointer (some ⟨g2, 0, none⟩), .int .i64 (d : Int)] w fun e w' => GoP (gtM zs true (f + 1) (64 - n) d p) g g2 n a N cap zs w e w' := by
  obtain ⟨W, hW⟩ : ∃ W, Hid (w.alloc (.cells #[.int .i64 0, .string ⟨#[]⟩, .string ⟨#[]⟩, .slice none 0 0, .slice none 0 0] 25) = W) := ⟨_, rfl⟩
  obtain ⟨V, hV⟩ : ∃ V, Hid (W.setCell ⟨g2, 0, none⟩ (.int .i64 ((n : Int) + 1)) = V) := ⟨_, rfl⟩
  have D0 := hide (g0_start h hg hW.out hV.out)
  have HB8 : Hid (Bytes8 zs) := h.row.bytes
  have hlt := D0.out.lt
  have bx : Hid (BX W g2 n) := by rw [← hW.out]; exact h.2.1.block (Below.heap_alloc _ _ _ h.2.1.lt)
  obtain ⟨b0, b1⟩ := bx.out.cell
  obtain ⟨a0, a1⟩ := D0.out.rd.2.1.cell
  rw [show ((n + 1 : Nat) : Int) = (n : Int) + 1 from rfl] at a0
  obtain ⟨-, s2, sf⟩ := D0.out.rd.cells
  have sf2 := sf 2
  obtain ⟨ans, HA⟩ : ∃ ans, Hid (gtM zs true (f + 1) (64 - n) d p = ans) := ⟨_, rfl⟩
  rw [HA.out]
  clear h bx sf
  obtain ⟨left, hleft⟩ : ∃ left, 64 - n = left + 1 := ⟨64 - n - 1, by omega⟩
  have hl2 : 64 - (n + 1) = left := by omega
  rw [hleft, gtM, if_neg (by omega), hgs] at HA
  simp only at HA
  rw [if_neg (by decide), if_neg (by decide), if_pos trivial] at HA
  have K1 := hide (rd_num D0.out.rd hg)
  rw [show nuR zs (some (p, n + 1)) = (4, some (p1, n + 1)) by simp only [nuR, hgs]] at K1
  dsimp only at K1
  clear hgs
  have t1 : ¬ (64 : Int) < (n : Int) + 1 := by omega
  have t2 : ¬ (8 : Int) < (d : Int) := by omega
  go_enter Try.func46, Try.ntmps46
  go_upto_region 1 with fail
  rw [hW.out]
  go_upto_region 2 with fail
  rw [hV.out]
  clear hW hV b0 b1
  go_wp2_with fail
  with_reducible refine K1.out.mono ?_
  rintro e u1 ⟨rfl, o1, r1⟩
  have D2 := hide (D0.out.lo (only_two o1) r1)
  clear o1 r1 K1 D0 s2 sf2 a0 a1
  have t3 := good_cell D2.out.rd
  obtain ⟨u3, hu3⟩ : ∃ u3, Hid (u1.alloc (.cells #[.int .i64 4, .string ⟨#[]⟩, .string ⟨#[]⟩, .slice none 0 0, .slice none 0 0] 25) = u3) := ⟨_, rfl⟩
  have D3 := hide (GS.start D2.out hu3.out)
  go_upto_region 9 with fail
  rw [hu3.out]
  clear hu3 t3 D2
  generalize u1.heap.size = gm at *
  obtain ⟨m0, m1, m2, m3, m4, _⟩ := D3.out.mb.all
  dsimp only at m0 m1 m2 m3 m4
  go_upto_region 10 with fail
  clear m0 m1 m2 m3 m4
  obtain ⟨⟨s1, st1⟩, Hs1⟩ : ∃ r, Hid (teR zs 32 (some (p1, n + 1)) = r) := ⟨_, rfl⟩
  have hzs1 := te_size (zs := zs) (most := 32) (st := (some (p1, n + 1))) HB8.out (by decide)
  rw [Hs1.out] at hzs1
  dsimp only at hzs1
  have Ks1 := hide (rd_text 32 (by decide) D3.out.g0.rd hg)
  rw [Hs1.out] at Ks1
  dsimp only at Ks1
  go_wp2_with fail
  with_reducible refine Ks1.out.mono ?_
  rintro e v1a ⟨rfl, o1, r1⟩
  have D4a := hide (D3.out.lo (only_two o1) r1)
  obtain ⟨m0, m1, m2, m3, m4, mf⟩ := D4a.out.mb.all
  have mf1 := mf 1
  dsimp only at m0 m1 m2 m3 m4
  obtain ⟨v1, huv1⟩ : ∃ v, Hid (v1a.setCell ⟨gm, 1, none⟩ (.string s1) = v) := ⟨_, rfl⟩
  have D4 : Hid (GS w v1 g g2 a N cap zs st1 gm ⟨4, s1, ⟨#[]⟩, none, 0, 0, none, 0, 0⟩) := by
    rw [← huv1.out]
    exact D4a.out.turn (D4a.out.mb.name s1)
  clear o1 r1 Ks1 D3 mf
  go_upto_region 17 with fail
  rw [huv1.out]
  clear huv1 D4a m0 m1 m2 m3 m4 mf1
  obtain ⟨⟨cz, st2⟩, Hcn⟩ : ∃ r, Hid (coR zs 16 st1 = r) := ⟨_, rfl⟩
  obtain ⟨hc0, hc1⟩ := co_size (zs := zs) (most := 16) (st := st1) HB8.out (by decide)
  rw [Hcn.out] at hc0 hc1
  dsimp only at hc0 hc1
  have KC := hide (rd_count 16 (by decide) D4.out.g0.rd hg)
  rw [Hcn.out] at KC
  dsimp only at KC
  obtain ⟨cn, rfl⟩ := Int.eq_ofNat_of_zero_le hc0
  have hcn : cn ≤ 16 := by omega
  clear hc0 hc1
  go_wp2_with fail
  with_reducible refine KC.out.mono ?_
  rintro e v2 ⟨rfl, o1, r1⟩
  have D5 := hide (D4.out.lo (only_two o1) r1)
  clear o1 r1 KC D4
  have HI0 : Hid (ans = anV zs s1 left [] (cn - 0) st2) := by
    have := among_start Hs1.out Hcn.out HA.out
    rwa [Int.toNat_natCast] at this
  have SN0 : Hid (stN (n + 1) st2) := by
    have h1 := te_stN (zs := zs) (most := 32) (Or.inr ⟨p1, rfl⟩ : stN (n + 1) (some (p1, n + 1)))
    rw [Hs1.out] at h1
    have h2 := co_stN (zs := zs) (most := 16) h1
    dsimp only at h2
    rw [Hcn.out] at h2
    exact h2
  have V0 := hide (GV.start D5.out)
  clear D5 HA Hcn Hs1
  obtain ⟨i7, hj7, hy0, hy1, hy2⟩ := info_parts Try.infoS
  go_wp2
  go_loopw [10] (fun i wr => ∃ (k : Nat) (st : Option (Int × Nat)) (sa : Option Addr) (sc : Nat) (ss : List ByteArray), k ≤ cn ∧ i = .int .i64 k ∧ Hid (GV w wr g g2 a N cap zs st gm s1 sa k sc ss) ∧ Hid (ans = anV zs s1 left ss (cn - k) st) ∧ Hid (stN (n + 1) st)) (fun i _ => cn - (intOf i).toNat)
  case atStart => exact ⟨0, st2, none, 0, [], by omega, rfl, V0, HI0, SN0⟩
  case round =>
    clear V0 HI0 SN0
    obtain ⟨k, st, sa, sc, ss, hk, rfl, GVV, HI, SN⟩ := hrel
    obtain ⟨u, rfl⟩ : ∃ u, u = wr := ⟨wr, rfl⟩
    rcases SN.out with rfl | ⟨p2, rfl⟩
    · have t3 := bad_cell GVV.out.gs.g0.rd
      have HGS := hide GVV.out.gs
      have i1 : (k : Int) < (cn : Int) ∨ ¬ (k : Int) < (cn : Int) := by omega
      rcases i1 with i1 | i1
      · skip
        have DN : Hid (GoP ans g g2 n a N cap zs w (.returned (.agg #[.int .i64 4, .string s1, .string ⟨#[]⟩, .slice sa k sc, .slice none 0 0])) (put5 u w.heap.size ⟨4, s1, ⟨#[]⟩, sa, k, sc, none, 0, 0⟩)) := by
          rw [HI.out]
          exact HGS.out.g0.fin (h := ⟨4, s1, ⟨#[]⟩, sa, k, sc, none, 0, 0⟩) (res := none) rfl
        obtain ⟨d0, d1, d2, d3, d4, df⟩ := HGS.out.g0.box.all
        obtain ⟨m0, m1, m2, m3, m4, _⟩ := HGS.out.mb.all
        have f10 := df 0
        have f11 := df 1
        have f12 := df 2
        have f13 := df 3
        have f14 := df 4
        dsimp only [hm0] at d0 d1 d2 d3 d4 m0 m1 m2 m3 m4
        have FP := hide (HGS.out.g0.box.put ⟨4, s1, ⟨#[]⟩, sa, k, sc, none, 0, 0⟩)
        clear df
        go_wp2
        obtain ⟨x0, x1, x2, x3, x4, _⟩ := FP.out.all
        unfold put5 at x0 x1 x2 x3 x4
        dsimp only at x0 x1 x2 x3 x4
        exact bodyPost_ret (v := .agg #[.int .i64 4, .string s1, .string ⟨#[]⟩, .slice sa k sc, .slice none 0 0]) (by simp [results, Try.results46, go_sem, x0, x1, x2, x3, x4]) rfl DN.out
      · skip
        have DN : Hid (GoP ans g g2 n a N cap zs w (.returned (.agg #[.int .i64 4, .string s1, .string ⟨#[]⟩, .slice sa k sc, .slice none 0 0])) (put5 u w.heap.size ⟨4, s1, ⟨#[]⟩, sa, k, sc, none, 0, 0⟩)) := by
          rw [HI.out]
          exact HGS.out.g0.fin (h := ⟨4, s1, ⟨#[]⟩, sa, k, sc, none, 0, 0⟩) (res := none) rfl
        obtain ⟨d0, d1, d2, d3, d4, df⟩ := HGS.out.g0.box.all
        obtain ⟨m0, m1, m2, m3, m4, _⟩ := HGS.out.mb.all
        have f10 := df 0
        have f11 := df 1
        have f12 := df 2
        have f13 := df 3
        have f14 := df 4
        dsimp only [hm0] at d0 d1 d2 d3 d4 m0 m1 m2 m3 m4
        have FP := hide (HGS.out.g0.box.put ⟨4, s1, ⟨#[]⟩, sa, k, sc, none, 0, 0⟩)
        clear df
        go_wp2
        obtain ⟨x0, x1, x2, x3, x4, _⟩ := FP.out.all
        unfold put5 at x0 x1 x2 x3 x4
        dsimp only at x0 x1 x2 x3 x4
        exact bodyPost_ret (v := .agg #[.int .i64 4, .string s1, .string ⟨#[]⟩, .slice sa k sc, .slice none 0 0]) (by simp [results, Try.results46, go_sem, x0, x1, x2, x3, x4]) rfl DN.out
    · have t3 := good_cell GVV.out.gs.g0.rd
      by_cases hlt : k < cn
      · have i1 : (k : Int) < (cn : Int) := by omega
        obtain ⟨⟨x, st5⟩, Hx⟩ : ∃ r, Hid (teR zs 64 (some (p2, n + 1)) = r) := ⟨_, rfl⟩
        have hx := te_size (zs := zs) (most := 64) (st := some (p2, n + 1)) HB8.out (by decide)
        rw [Hx.out] at hx
        dsimp only at hx
        have HI3 : Hid (ans = anV zs s1 left (ss ++ [x]) (cn - (k + 1)) st5) := by
          have e := anV_step zs s1 left ss (cn - (k + 1)) (some (p2, n + 1))
          rw [Hx.out] at e
          rw [HI.out, show cn - k = cn - (k + 1) + 1 by omega]
          exact e
        have SN3 : Hid (stN (n + 1) st5) := by
          have h1 := te_stN (zs := zs) (most := 64) SN.out
          rw [Hx.out] at h1
          exact h1
        have KX := hide (rd_text 64 (by decide) GVV.out.gs.g0.rd hg)
        rw [Hx.out] at KX
        dsimp only at KX
        go_wp2_with fail
        with_reducible refine KX.out.mono ?_
        rintro e u6 ⟨rfl, o1, r1⟩
        have G6 := hide (GVV.out.lo (only_two o1) r1)
        clear o1 r1 KX GVV HI SN Hx t3
        have hx2 : x.size ≤ 64 := by omega
        have O6 : Hid ((u6.alloc (.cells #[.string x] 9)).ownsRow (gm + 1) 9 1 (.slice sa k sc) k (ss.map Value.string)) := row_ch G6.out.own (Ch.of_below ((Below.refl _ _).alloc (Nat.le_refl _) _)) (fun _ _ => id)
        have HBS : Hid (gm + 1 ≤ (u6.alloc (.cells #[.string x] 9)).heap.size) := by
          have := G6.out.gs.mb.lt
          show _ ≤ _
          simp
          omega
        obtain ⟨m0, m1, m2, m3, m4, _⟩ := G6.out.gs.mb.all
        dsimp only at m0 m1 m2 m3 m4
        go_wp2_with (at_builtin; refine wpList_push _ rfl _ _ 22 rfl (gm + 1) 9 i7 (.string .empty) 16 Try.underlying22 hj7 hy0 hy1 hy2 rfl sa k sc (ss.map Value.string) rfl O6.out ⟨u6.heap.size, 0, none⟩ 1 (.string x) rfl (one_strcell u6 x _) rfl (by unfold maxLen; omega) (by omega) HBS.out ?_)
        intro g' c' w4 o4 gr4 _
        obtain ⟨g7, mb4⟩ := G6.out.push hx2 o4 gr4
        have G7 := hide g7
        have M4 := hide mb4
        obtain ⟨z0, z1, z2, z3, z4, zf⟩ := M4.out.all
        have zf3 := zf 3
        dsimp only at z0 z1 z2 z3 z4
        obtain ⟨u9, hu9⟩ : ∃ u9, Hid (w4.setCell ⟨gm, 3, none⟩ (.slice (some ⟨g', 0, none⟩) (k + 1) c') = u9) := ⟨_, rfl⟩
        rw [hu9.out] at G7
        clear o4 gr4 O6 HBS G6 g7 mb4 M4 zf m0 m1 m2 m3 m4
        go_upto_region 20 with fail
        rw [hu9.out]
        clear hu9 z0 z1 z2 z3 z4 zf3
        go_wp2
        go_roundw
        case rel => exact ⟨k + 1, st5, _, c', _, by omega, by go_num, G7, HI3, SN3⟩
        case measure => simp [intOf]; omega
      · have i1 : ¬ (k : Int) < (cn : Int) := by omega
        have HGS := hide GVV.out.gs
        have HF : Hid (some (.mk 4 s1 .empty ss [], p2, left) = ans) := by
          show _ = _
          rw [HI.out, show cn - k = 0 by omega]
          simp only [anV, gtV, Option.map_some, List.append_nil]
        have DN : Hid (GoP ans g g2 n a N cap zs w (.returned (.agg #[.int .i64 4, .string s1, .string ⟨#[]⟩, .slice sa k sc, .slice none 0 0])) (put5 u w.heap.size ⟨4, s1, ⟨#[]⟩, sa, k, sc, none, 0, 0⟩)) := by
          rw [← HF.out]
          exact HGS.out.g0.fin (h := ⟨4, s1, ⟨#[]⟩, sa, k, sc, none, 0, 0⟩) (res := some _) ⟨GVV.out.fin (by omega) (by omega), n + 1, rfl, by omega, hl2, by omega⟩
        obtain ⟨d0, d1, d2, d3, d4, df⟩ := HGS.out.g0.box.all
        obtain ⟨m0, m1, m2, m3, m4, _⟩ := HGS.out.mb.all
        have f10 := df 0
        have f11 := df 1
        have f12 := df 2
        have f13 := df 3
        have f14 := df 4
        dsimp only [hm0] at d0 d1 d2 d3 d4 m0 m1 m2 m3 m4
        have FP := hide (HGS.out.g0.box.put ⟨4, s1, ⟨#[]⟩, sa, k, sc, none, 0, 0⟩)
        clear df
        go_wp2
        obtain ⟨x0, x1, x2, x3, x4, _⟩ := FP.out.all
        unfold put5 at x0 x1 x2 x3 x4
        dsimp only at x0 x1 x2 x3 x4
        exact bodyPost_ret (v := .agg #[.int .i64 4, .string s1, .string ⟨#[]⟩, .slice sa k sc, .slice none 0 0]) (by simp [results, Try.results46, go_sem, x0, x1, x2, x3, x4]) rfl DN.out
end Go.Proofs.Ythebcmkainplnaa

namespace Go.Proofs.Ythebcmkainplnaa
open Go.RowKit
set_option maxRecDepth 20000

set_option maxHeartbeats 16000000 in
theorem got_5 (f g g2 n : Nat) (a : Option Addr) (N cap : Nat) (zs : List Int) (p : Int) (d : Nat) (w : World) (h : Rdr w g g2 a N cap zs (some (p, n))) (hg : g < g2) (hn : n < 64) (hd : d ≤ 8) (p1 : Int) (IH : ∀ F, F < f + 1 → RdG F) (hf : 3 * (64 - n) + 1 ≤ f + 1) (hgs : getS zs p = some (5, p1)) :
    Calls Try.prog 46 #[.pointer (some ⟨g, 0, none⟩), .pointer (some ⟨g2, 0, none⟩), .int .i64 (d : Int)] w fun e w' => GoP (gtM zs true (f + 1) (64 - n) d p) g g2 n a N cap zs w e w' := by
  obtain ⟨W, hW⟩ : ∃ W, Hid (w.alloc (.cells #[.int .i64 0, .string ⟨#[]⟩, .string ⟨#[]⟩, .slice none 0 0, .slice none 0 0] 25) = W) := ⟨_, rfl⟩
  obtain ⟨V, hV⟩ : ∃ V, Hid (W.setCell ⟨g2, 0, none⟩ (.int .i64 ((n : Int) + 1)) = V) := ⟨_, rfl⟩
  have D0 := hide (g0_start h hg hW.out hV.out)
  have HB8 : Hid (Bytes8 zs) := h.row.bytes
  have hlt := D0.out.lt
  have bx : Hid (BX W g2 n) := by rw [← hW.out]; exact h.2.1.block (Below.heap_alloc _ _ _ h.2.1.lt)
  obtain ⟨b0, b1⟩ := bx.out.cell
  obtain ⟨a0, a1⟩ := D0.out.rd.2.1.cell
  rw [show ((n + 1 : Nat) : Int) = (n : Int) + 1 from rfl] at a0
  obtain ⟨-, s2, sf⟩ := D0.out.rd.cells
  have sf2 := sf 2
  obtain ⟨ans, HA⟩ : ∃ ans, Hid (gtM zs true (f + 1) (64 - n) d p = ans) := ⟨_, rfl⟩
  rw [HA.out]
  clear h bx sf
  obtain ⟨left, hleft⟩ : ∃ left, 64 - n = left + 1 := ⟨64 - n - 1, by omega⟩
  have hl2 : 64 - (n + 1) = left := by omega
  rw [hleft, gtM, if_neg (by omega), hgs] at HA
  simp only at HA
  rw [if_neg (by decide), if_neg (by decide), if_neg (by decide), if_pos (by decide)] at HA
  have K1 := hide (rd_num D0.out.rd hg)
  rw [show nuR zs (some (p, n + 1)) = (5, some (p1, n + 1)) by simp only [nuR, hgs]] at K1
  dsimp only at K1
  clear hgs
  have t1 : ¬ (64 : Int) < (n : Int) + 1 := by omega
  have t2 : ¬ (8 : Int) < (d : Int) := by omega
  go_enter Try.func46, Try.ntmps46
  go_upto_region 1 with fail
  rw [hW.out]
  go_upto_region 2 with fail
  rw [hV.out]
  clear hW hV b0 b1
  go_wp2_with fail
  with_reducible refine K1.out.mono ?_
  rintro e u1 ⟨rfl, o1, r1⟩
  have D2 := hide (D0.out.lo (only_two o1) r1)
  clear o1 r1 K1 D0 s2 sf2 a0 a1
  have t3 := good_cell D2.out.rd
  obtain ⟨u3, hu3⟩ : ∃ u3, Hid (u1.alloc (.cells #[.int .i64 5, .string ⟨#[]⟩, .string ⟨#[]⟩, .slice none 0 0, .slice none 0 0] 25) = u3) := ⟨_, rfl⟩
  have D3 := hide (GS.start D2.out hu3.out)
  go_upto_region 9 with fail
  rw [hu3.out]
  clear hu3 t3 D2
  generalize u1.heap.size = gm at *
  obtain ⟨m0, m1, m2, m3, m4, _⟩ := D3.out.mb.all
  dsimp only at m0 m1 m2 m3 m4
  go_upto_region 10 with fail
  clear m0 m1 m2 m3 m4
  have MT := hide (fun F (hF : F < f + 1) (n : Nat) (p : Int) u (q : Rdr u g g2 a N cap zs (some (p, n))) (hn : n ≤ 64) (h3 : 3 * (64 - n) + 1 ≤ F) => IH F hF g g2 n a N cap zs p (d + 1) u q hg hn (by omega) h3)
  rw [show ((d + 1 : Nat) : Int) = (d : Int) + 1 from rfl] at MT
  clear IH
  obtain ⟨i0, hi, hz0, hz1, hz2⟩ := info_parts Try.infoM
  obtain ⟨⟨cz, st2⟩, Hcn⟩ : ∃ r, Hid (coR zs 64 (some (p1, n + 1)) = r) := ⟨_, rfl⟩
  obtain ⟨hc0, hc1⟩ := co_size (zs := zs) (most := 64) (st := (some (p1, n + 1))) HB8.out (by decide)
  rw [Hcn.out] at hc0 hc1
  dsimp only at hc0 hc1
  have KC := hide (rd_count 64 (by decide) D3.out.g0.rd hg)
  rw [Hcn.out] at KC
  dsimp only at KC
  obtain ⟨cn, rfl⟩ := Int.eq_ofNat_of_zero_le hc0
  have hcn : cn ≤ 64 := by omega
  clear hc0 hc1
  go_wp2_with fail
  with_reducible refine KC.out.mono ?_
  rintro e v2 ⟨rfl, o1, r1⟩
  have D5 := hide (D3.out.lo (only_two o1) r1)
  clear o1 r1 KC D3
  have HI0 : Hid (ans = anK zs 5 (d + 1) f [] (cn - 0) st2) := by
    have := kids_start hl2 Hcn.out HA.out
    rwa [Int.toNat_natCast] at this
  have SN0 : Hid (st2 = none ∨ ∃ q n', st2 = some (q, n') ∧ n' ≤ 64 ∧ n < n' ∧ 3 * (64 - n') + 2 ≤ f) := by
    have h2 := co_stN (zs := zs) (most := 64) (Or.inr ⟨p1, rfl⟩ : stN (n + 1) (some (p1, n + 1)))
    rw [Hcn.out] at h2
    rcases h2 with e | ⟨q, e⟩
    · exact Or.inl e
    · exact Or.inr ⟨q, n + 1, e, by omega, by omega, by omega⟩
  have V0 := hide (GK.start D5.out)
  clear D5 HA Hcn
  go_wp2
  go_loopw [13] (fun i wr => ∃ (k F : Nat) (st : Option (Int × Nat)) (ka : Option Addr) (kc : Nat) (ks : List Mt) (hs' : List Hm), k ≤ cn ∧ F ≤ f ∧ i = .int .i64 k ∧ Hid (GK w wr g g2 a N cap zs st gm 5 ka k kc ks hs') ∧ Hid (ans = anK zs 5 (d + 1) F ks (cn - k) st) ∧ Hid (st = none ∨ ∃ q n', st = some (q, n') ∧ n' ≤ 64 ∧ n < n' ∧ 3 * (64 - n') + 2 ≤ F)) (fun i _ => cn - (intOf i).toNat)
  case atStart => exact ⟨0, f, st2, none, 0, [], [], by omega, Nat.le_refl _, rfl, V0, HI0, SN0⟩
  case round =>
    clear V0 HI0 SN0
    obtain ⟨k, F, st, ka, kc, ks, hs', hk, hFf, rfl, GKK, HI, SN⟩ := hrel
    obtain ⟨u, rfl⟩ : ∃ u, u = wr := ⟨wr, rfl⟩
    rcases SN.out with rfl | ⟨p2, n2, rfl, hn2, hnn2, hF⟩
    · have t3 := bad_cell GKK.out.gs.g0.rd
      have HGS := hide GKK.out.gs
      have i1 : (k : Int) < (cn : Int) ∨ ¬ (k : Int) < (cn : Int) := by omega
      rcases i1 with i1 | i1
      · skip
        have DN : Hid (GoP ans g g2 n a N cap zs w (.returned (.agg #[.int .i64 5, .string ⟨#[]⟩, .string ⟨#[]⟩, .slice none 0 0, .slice ka k kc])) (put5 u w.heap.size ⟨5, ⟨#[]⟩, ⟨#[]⟩, none, 0, 0, ka, k, kc⟩)) := by
          rw [HI.out]
          exact HGS.out.g0.fin (h := ⟨5, ⟨#[]⟩, ⟨#[]⟩, none, 0, 0, ka, k, kc⟩) (res := none) rfl
        obtain ⟨d0, d1, d2, d3, d4, df⟩ := HGS.out.g0.box.all
        obtain ⟨m0, m1, m2, m3, m4, _⟩ := HGS.out.mb.all
        have f10 := df 0
        have f11 := df 1
        have f12 := df 2
        have f13 := df 3
        have f14 := df 4
        dsimp only [hm0] at d0 d1 d2 d3 d4 m0 m1 m2 m3 m4
        have FP := hide (HGS.out.g0.box.put ⟨5, ⟨#[]⟩, ⟨#[]⟩, none, 0, 0, ka, k, kc⟩)
        clear df
        go_wp2
        obtain ⟨x0, x1, x2, x3, x4, _⟩ := FP.out.all
        unfold put5 at x0 x1 x2 x3 x4
        dsimp only at x0 x1 x2 x3 x4
        exact bodyPost_ret (v := .agg #[.int .i64 5, .string ⟨#[]⟩, .string ⟨#[]⟩, .slice none 0 0, .slice ka k kc]) (by simp [results, Try.results46, go_sem, x0, x1, x2, x3, x4]) rfl DN.out
      · skip
        have DN : Hid (GoP ans g g2 n a N cap zs w (.returned (.agg #[.int .i64 5, .string ⟨#[]⟩, .string ⟨#[]⟩, .slice none 0 0, .slice ka k kc])) (put5 u w.heap.size ⟨5, ⟨#[]⟩, ⟨#[]⟩, none, 0, 0, ka, k, kc⟩)) := by
          rw [HI.out]
          exact HGS.out.g0.fin (h := ⟨5, ⟨#[]⟩, ⟨#[]⟩, none, 0, 0, ka, k, kc⟩) (res := none) rfl
        obtain ⟨d0, d1, d2, d3, d4, df⟩ := HGS.out.g0.box.all
        obtain ⟨m0, m1, m2, m3, m4, _⟩ := HGS.out.mb.all
        have f10 := df 0
        have f11 := df 1
        have f12 := df 2
        have f13 := df 3
        have f14 := df 4
        dsimp only [hm0] at d0 d1 d2 d3 d4 m0 m1 m2 m3 m4
        have FP := hide (HGS.out.g0.box.put ⟨5, ⟨#[]⟩, ⟨#[]⟩, none, 0, 0, ka, k, kc⟩)
        clear df
        go_wp2
        obtain ⟨x0, x1, x2, x3, x4, _⟩ := FP.out.all
        unfold put5 at x0 x1 x2 x3 x4
        dsimp only at x0 x1 x2 x3 x4
        exact bodyPost_ret (v := .agg #[.int .i64 5, .string ⟨#[]⟩, .string ⟨#[]⟩, .slice none 0 0, .slice ka k kc]) (by simp [results, Try.results46, go_sem, x0, x1, x2, x3, x4]) rfl DN.out
    · have t3 := good_cell GKK.out.gs.g0.rd
      by_cases hlt : k < cn
      · have i1 : (k : Int) < (cn : Int) := by omega
        obtain ⟨F, rfl⟩ : ∃ F', F = F' + 1 := ⟨F - 1, by omega⟩
        rw [show cn - k = cn - (k + 1) + 1 by omega] at HI
        have V5 := hide (MT.out F (by omega) n2 p2 u GKK.out.gs.g0.rd hn2 (by omega))
        go_wp2_with fail
        with_reducible refine V5.out.mono ?_
        intro e u6 q6
        obtain ⟨c6, h6, st6, ks6, kd6, rfl, r6, pk6, hi6, sn6⟩ := kid_step (n := n) (by omega) HI.out q6
        have HI3 : Hid (ans = anK zs 5 (d + 1) F ks6 (cn - (k + 1)) st6) := hi6
        have SN3 : Hid (st6 = none ∨ ∃ q n', st6 = some (q, n') ∧ n' ≤ 64 ∧ n < n' ∧ 3 * (64 - n') + 2 ≤ F) := by
          rcases sn6 with e | ⟨q, n6, e, x1, x2, x3⟩
          · exact Or.inl e
          · exact Or.inr ⟨q, n6, e, x1, x2, by omega⟩
        clear hi6 sn6 q6 HI SN t3
        obtain ⟨op2, nm2, vl2, va2, vn2, vc2, ka2, kn2, kc2⟩ := h6
        dsimp only
        obtain ⟨u7, hu7⟩ : ∃ u7, Hid ((u6.alloc (.cells #[.int .i64 op2, .string nm2, .string vl2, .slice va2 vn2 vc2, .slice ka2 kn2 kc2] 25)) = u7) := ⟨_, rfl⟩
        have A7 : Hid (Below u6.heap.size u6 u7) := by rw [← hu7.out]; exact (Below.refl _ _).alloc (Nat.le_refl _) _
        have X7 : Hid (BoxM u7 u6.heap.size ⟨op2, nm2, vl2, va2, vn2, vc2, ka2, kn2, kc2⟩) := by rw [← hu7.out]; exact boxM_new u6 ⟨op2, nm2, vl2, va2, vn2, vc2, ka2, kn2, kc2⟩
        have Q7 := hide (GKK.out.rest c6 A7.out)
        obtain ⟨u8, hu8⟩ : ∃ u8, Hid ((u7.alloc (.cells #[.int .i64 op2, .string nm2, .string vl2, .slice va2 vn2 vc2, .slice ka2 kn2 kc2] 25)) = u8) := ⟨_, rfl⟩
        have A8 : Hid (Below u7.heap.size u7 u8) := by rw [← hu8.out]; exact (Below.refl _ _).alloc (Nat.le_refl _) _
        have B8 : Hid (Below u6.heap.size u6 u8) := bel_to A7.out (Nat.le_refl _) A8.out
        have Q8 := hide (GKK.out.rest c6 B8.out)
        have HCC : Hid (∀ jj v, (Hm.cells ⟨op2, nm2, vl2, va2, vn2, vc2, ka2, kn2, kc2⟩)[jj]? = some v → u8.cell? ((⟨u7.heap.size, 0, none⟩ : Addr).add jj) = some v) := by
          intro jj v hv
          rw [Addr.add_lit, ← hu8.out]
          exact five_new u7 ⟨op2, nm2, vl2, va2, vn2, vc2, ka2, kn2, kc2⟩ _ jj v hv
        have C6 := hide c6
        have R6 := hide r6
        have P6 := hide pk6
        obtain ⟨m0, m1, m2', m3, m4, _⟩ := Q7.out.2.1.all
        obtain ⟨y0, y1, y2, y3, y4, _⟩ := X7.out.all
        dsimp only at m0 m1 m2' m3 m4 y0 y1 y2 y3 y4
        clear c6 r6 pk6 V5
        go_upto_region 30 with fail
        rw [hu7.out]
        clear hu7
        rw [← hu8.out] at Q8 HCC B8
        go_wp2_with (at_builtin; refine wpList_pushM _ rfl _ _ 23 rfl (gm + 1) i0 Try.underlying23 hi hz0 hz1 hz2 ka k kc hs' rfl Q8.out.1 ⟨u7.heap.size, 0, none⟩ 1 ⟨op2, nm2, vl2, va2, vn2, vc2, ka2, kn2, kc2⟩ rfl HCC.out (by omega) Q8.out.2.2 ?_)
        intro g' c' w4 o4 ch4 _ wh4
        obtain ⟨g7, mb4⟩ := GKK.out.push C6.out B8.out R6.out P6.out o4 ch4 (wh4.imp id (fun hh => by simp; omega))
        have G7 := hide g7
        have M4 := hide mb4
        obtain ⟨z0, z1, z2, z3, z4, zf⟩ := M4.out.all
        have zf4 := zf 4
        dsimp only at z0 z1 z2 z3 z4
        obtain ⟨u9, hu9⟩ : ∃ u9, Hid (w4.setCell ⟨gm, 4, none⟩ (.slice (some ⟨g', 0, none⟩) (k + 1) c') = u9) := ⟨_, rfl⟩
        rw [hu9.out] at G7
        clear o4 ch4 wh4 HCC g7 mb4 M4 zf m0 m1 m2' m3 m4 y0 y1 y2 y3 y4 Q7 Q8 X7 A7 A8 B8 C6 R6 P6 hu8
        clear GKK
        go_upto_region 28 with fail
        rw [hu9.out]
        clear hu9 z0 z1 z2 z3 z4 zf4
        go_wp2
        go_roundw
        case rel => exact ⟨k + 1, F, st6, _, c', ks6, _, by omega, by omega, by go_num, G7, HI3, SN3⟩
        case measure => simp [intOf]; omega
      · have i1 : ¬ (k : Int) < (cn : Int) := by omega
        have HGS := hide GKK.out.gs
        have HF : Hid (some (.mk 5 .empty .empty [] ks, p2, 64 - n2) = ans) := by
          obtain ⟨F, rfl⟩ : ∃ F', F = F' + 1 := ⟨F - 1, by omega⟩
          show _ = _
          rw [HI.out, show cn - k = 0 by omega]
          simp only [anK, gtK, Option.map_some, List.append_nil]
        have DN : Hid (GoP ans g g2 n a N cap zs w (.returned (.agg #[.int .i64 5, .string ⟨#[]⟩, .string ⟨#[]⟩, .slice none 0 0, .slice ka k kc])) (put5 u w.heap.size ⟨5, ⟨#[]⟩, ⟨#[]⟩, none, 0, 0, ka, k, kc⟩)) := by
          rw [← HF.out]
          exact HGS.out.g0.fin (h := ⟨5, ⟨#[]⟩, ⟨#[]⟩, none, 0, 0, ka, k, kc⟩) (res := some _) ⟨GKK.out.fin (by simp) (by omega) (by decide), n2, rfl, hn2, rfl, hnn2⟩
        obtain ⟨d0, d1, d2, d3, d4, df⟩ := HGS.out.g0.box.all
        obtain ⟨m0, m1, m2, m3, m4, _⟩ := HGS.out.mb.all
        have f10 := df 0
        have f11 := df 1
        have f12 := df 2
        have f13 := df 3
        have f14 := df 4
        dsimp only [hm0] at d0 d1 d2 d3 d4 m0 m1 m2 m3 m4
        have FP := hide (HGS.out.g0.box.put ⟨5, ⟨#[]⟩, ⟨#[]⟩, none, 0, 0, ka, k, kc⟩)
        clear df
        go_wp2
        obtain ⟨x0, x1, x2, x3, x4, _⟩ := FP.out.all
        unfold put5 at x0 x1 x2 x3 x4
        dsimp only at x0 x1 x2 x3 x4
        exact bodyPost_ret (v := .agg #[.int .i64 5, .string ⟨#[]⟩, .string ⟨#[]⟩, .slice none 0 0, .slice ka k kc]) (by simp [results, Try.results46, go_sem, x0, x1, x2, x3, x4]) rfl DN.out

set_option maxHeartbeats 16000000 in
theorem got_6 (f g g2 n : Nat) (a : Option Addr) (N cap : Nat) (zs : List Int) (p : Int) (d : Nat) (w : World) (h : Rdr w g g2 a N cap zs (some (p, n))) (hg : g < g2) (hn : n < 64) (hd : d ≤ 8) (p1 : Int) (IH : ∀ F, F < f + 1 → RdG F) (hf : 3 * (64 - n) + 1 ≤ f + 1) (hgs : getS zs p = some (6, p1)) :
    Calls Try.prog 46 #[.pointer (some ⟨g, 0, none⟩), .pointer (some ⟨g2, 0, none⟩), .int .i64 (d : Int)] w fun e w' => GoP (gtM zs true (f + 1) (64 - n) d p) g g2 n a N cap zs w e w' := by
  obtain ⟨W, hW⟩ : ∃ W, Hid (w.alloc (.cells #[.int .i64 0, .string ⟨#[]⟩, .string ⟨#[]⟩, .slice none 0 0, .slice none 0 0] 25) = W) := ⟨_, rfl⟩
  obtain ⟨V, hV⟩ : ∃ V, Hid (W.setCell ⟨g2, 0, none⟩ (.int .i64 ((n : Int) + 1)) = V) := ⟨_, rfl⟩
  have D0 := hide (g0_start h hg hW.out hV.out)
  have HB8 : Hid (Bytes8 zs) := h.row.bytes
  have hlt := D0.out.lt
  have bx : Hid (BX W g2 n) := by rw [← hW.out]; exact h.2.1.block (Below.heap_alloc _ _ _ h.2.1.lt)
  obtain ⟨b0, b1⟩ := bx.out.cell
  obtain ⟨a0, a1⟩ := D0.out.rd.2.1.cell
  rw [show ((n + 1 : Nat) : Int) = (n : Int) + 1 from rfl] at a0
  obtain ⟨-, s2, sf⟩ := D0.out.rd.cells
  have sf2 := sf 2
  obtain ⟨ans, HA⟩ : ∃ ans, Hid (gtM zs true (f + 1) (64 - n) d p = ans) := ⟨_, rfl⟩
  rw [HA.out]
  clear h bx sf
  obtain ⟨left, hleft⟩ : ∃ left, 64 - n = left + 1 := ⟨64 - n - 1, by omega⟩
  have hl2 : 64 - (n + 1) = left := by omega
  rw [hleft, gtM, if_neg (by omega), hgs] at HA
  simp only at HA
  rw [if_neg (by decide), if_neg (by decide), if_neg (by decide), if_pos (by decide)] at HA
  have K1 := hide (rd_num D0.out.rd hg)
  rw [show nuR zs (some (p, n + 1)) = (6, some (p1, n + 1)) by simp only [nuR, hgs]] at K1
  dsimp only at K1
  clear hgs
  have t1 : ¬ (64 : Int) < (n : Int) + 1 := by omega
  have t2 : ¬ (8 : Int) < (d : Int) := by omega
  go_enter Try.func46, Try.ntmps46
  go_upto_region 1 with fail
  rw [hW.out]
  go_upto_region 2 with fail
  rw [hV.out]
  clear hW hV b0 b1
  go_wp2_with fail
  with_reducible refine K1.out.mono ?_
  rintro e u1 ⟨rfl, o1, r1⟩
  have D2 := hide (D0.out.lo (only_two o1) r1)
  clear o1 r1 K1 D0 s2 sf2 a0 a1
  have t3 := good_cell D2.out.rd
  obtain ⟨u3, hu3⟩ : ∃ u3, Hid (u1.alloc (.cells #[.int .i64 6, .string ⟨#[]⟩, .string ⟨#[]⟩, .slice none 0 0, .slice none 0 0] 25) = u3) := ⟨_, rfl⟩
  have D3 := hide (GS.start D2.out hu3.out)
  go_upto_region 9 with fail
  rw [hu3.out]
  clear hu3 t3 D2
  generalize u1.heap.size = gm at *
  obtain ⟨m0, m1, m2, m3, m4, _⟩ := D3.out.mb.all
  dsimp only at m0 m1 m2 m3 m4
  go_upto_region 10 with fail
  clear m0 m1 m2 m3 m4
  have MT := hide (fun F (hF : F < f + 1) (n : Nat) (p : Int) u (q : Rdr u g g2 a N cap zs (some (p, n))) (hn : n ≤ 64) (h3 : 3 * (64 - n) + 1 ≤ F) => IH F hF g g2 n a N cap zs p (d + 1) u q hg hn (by omega) h3)
  rw [show ((d + 1 : Nat) : Int) = (d : Int) + 1 from rfl] at MT
  clear IH
  obtain ⟨i0, hi, hz0, hz1, hz2⟩ := info_parts Try.infoM
  obtain ⟨⟨cz, st2⟩, Hcn⟩ : ∃ r, Hid (coR zs 64 (some (p1, n + 1)) = r) := ⟨_, rfl⟩
  obtain ⟨hc0, hc1⟩ := co_size (zs := zs) (most := 64) (st := (some (p1, n + 1))) HB8.out (by decide)
  rw [Hcn.out] at hc0 hc1
  dsimp only at hc0 hc1
  have KC := hide (rd_count 64 (by decide) D3.out.g0.rd hg)
  rw [Hcn.out] at KC
  dsimp only at KC
  obtain ⟨cn, rfl⟩ := Int.eq_ofNat_of_zero_le hc0
  have hcn : cn ≤ 64 := by omega
  clear hc0 hc1
  go_wp2_with fail
  with_reducible refine KC.out.mono ?_
  rintro e v2 ⟨rfl, o1, r1⟩
  have D5 := hide (D3.out.lo (only_two o1) r1)
  clear o1 r1 KC D3
  have HI0 : Hid (ans = anK zs 6 (d + 1) f [] (cn - 0) st2) := by
    have := kids_start hl2 Hcn.out HA.out
    rwa [Int.toNat_natCast] at this
  have SN0 : Hid (st2 = none ∨ ∃ q n', st2 = some (q, n') ∧ n' ≤ 64 ∧ n < n' ∧ 3 * (64 - n') + 2 ≤ f) := by
    have h2 := co_stN (zs := zs) (most := 64) (Or.inr ⟨p1, rfl⟩ : stN (n + 1) (some (p1, n + 1)))
    rw [Hcn.out] at h2
    rcases h2 with e | ⟨q, e⟩
    · exact Or.inl e
    · exact Or.inr ⟨q, n + 1, e, by omega, by omega, by omega⟩
  have V0 := hide (GK.start D5.out)
  clear D5 HA Hcn
  go_wp2
  go_loopw [13] (fun i wr => ∃ (k F : Nat) (st : Option (Int × Nat)) (ka : Option Addr) (kc : Nat) (ks : List Mt) (hs' : List Hm), k ≤ cn ∧ F ≤ f ∧ i = .int .i64 k ∧ Hid (GK w wr g g2 a N cap zs st gm 6 ka k kc ks hs') ∧ Hid (ans = anK zs 6 (d + 1) F ks (cn - k) st) ∧ Hid (st = none ∨ ∃ q n', st = some (q, n') ∧ n' ≤ 64 ∧ n < n' ∧ 3 * (64 - n') + 2 ≤ F)) (fun i _ => cn - (intOf i).toNat)
  case atStart => exact ⟨0, f, st2, none, 0, [], [], by omega, Nat.le_refl _, rfl, V0, HI0, SN0⟩
  case round =>
    clear V0 HI0 SN0
    obtain ⟨k, F, st, ka, kc, ks, hs', hk, hFf, rfl, GKK, HI, SN⟩ := hrel
    obtain ⟨u, rfl⟩ : ∃ u, u = wr := ⟨wr, rfl⟩
    rcases SN.out with rfl | ⟨p2, n2, rfl, hn2, hnn2, hF⟩
    · have t3 := bad_cell GKK.out.gs.g0.rd
      have HGS := hide GKK.out.gs
      have i1 : (k : Int) < (cn : Int) ∨ ¬ (k : Int) < (cn : Int) := by omega
      rcases i1 with i1 | i1
      · skip
        have DN : Hid (GoP ans g g2 n a N cap zs w (.returned (.agg #[.int .i64 6, .string ⟨#[]⟩, .string ⟨#[]⟩, .slice none 0 0, .slice ka k kc])) (put5 u w.heap.size ⟨6, ⟨#[]⟩, ⟨#[]⟩, none, 0, 0, ka, k, kc⟩)) := by
          rw [HI.out]
          exact HGS.out.g0.fin (h := ⟨6, ⟨#[]⟩, ⟨#[]⟩, none, 0, 0, ka, k, kc⟩) (res := none) rfl
        obtain ⟨d0, d1, d2, d3, d4, df⟩ := HGS.out.g0.box.all
        obtain ⟨m0, m1, m2, m3, m4, _⟩ := HGS.out.mb.all
        have f10 := df 0
        have f11 := df 1
        have f12 := df 2
        have f13 := df 3
        have f14 := df 4
        dsimp only [hm0] at d0 d1 d2 d3 d4 m0 m1 m2 m3 m4
        have FP := hide (HGS.out.g0.box.put ⟨6, ⟨#[]⟩, ⟨#[]⟩, none, 0, 0, ka, k, kc⟩)
        clear df
        go_wp2
        obtain ⟨x0, x1, x2, x3, x4, _⟩ := FP.out.all
        unfold put5 at x0 x1 x2 x3 x4
        dsimp only at x0 x1 x2 x3 x4
        exact bodyPost_ret (v := .agg #[.int .i64 6, .string ⟨#[]⟩, .string ⟨#[]⟩, .slice none 0 0, .slice ka k kc]) (by simp [results, Try.results46, go_sem, x0, x1, x2, x3, x4]) rfl DN.out
      · skip
        have DN : Hid (GoP ans g g2 n a N cap zs w (.returned (.agg #[.int .i64 6, .string ⟨#[]⟩, .string ⟨#[]⟩, .slice none 0 0, .slice ka k kc])) (put5 u w.heap.size ⟨6, ⟨#[]⟩, ⟨#[]⟩, none, 0, 0, ka, k, kc⟩)) := by
          rw [HI.out]
          exact HGS.out.g0.fin (h := ⟨6, ⟨#[]⟩, ⟨#[]⟩, none, 0, 0, ka, k, kc⟩) (res := none) rfl
        obtain ⟨d0, d1, d2, d3, d4, df⟩ := HGS.out.g0.box.all
        obtain ⟨m0, m1, m2, m3, m4, _⟩ := HGS.out.mb.all
        have f10 := df 0
        have f11 := df 1
        have f12 := df 2
        have f13 := df 3
        have f14 := df 4
        dsimp only [hm0] at d0 d1 d2 d3 d4 m0 m1 m2 m3 m4
        have FP := hide (HGS.out.g0.box.put ⟨6, ⟨#[]⟩, ⟨#[]⟩, none, 0, 0, ka, k, kc⟩)
        clear df
        go_wp2
        obtain ⟨x0, x1, x2, x3, x4, _⟩ := FP.out.all
        unfold put5 at x0 x1 x2 x3 x4
        dsimp only at x0 x1 x2 x3 x4
        exact bodyPost_ret (v := .agg #[.int .i64 6, .string ⟨#[]⟩, .string ⟨#[]⟩, .slice none 0 0, .slice ka k kc]) (by simp [results, Try.results46, go_sem, x0, x1, x2, x3, x4]) rfl DN.out
    · have t3 := good_cell GKK.out.gs.g0.rd
      by_cases hlt : k < cn
      · have i1 : (k : Int) < (cn : Int) := by omega
        obtain ⟨F, rfl⟩ : ∃ F', F = F' + 1 := ⟨F - 1, by omega⟩
        rw [show cn - k = cn - (k + 1) + 1 by omega] at HI
        have V5 := hide (MT.out F (by omega) n2 p2 u GKK.out.gs.g0.rd hn2 (by omega))
        go_wp2_with fail
        with_reducible refine V5.out.mono ?_
        intro e u6 q6
        obtain ⟨c6, h6, st6, ks6, kd6, rfl, r6, pk6, hi6, sn6⟩ := kid_step (n := n) (by omega) HI.out q6
        have HI3 : Hid (ans = anK zs 6 (d + 1) F ks6 (cn - (k + 1)) st6) := hi6
        have SN3 : Hid (st6 = none ∨ ∃ q n', st6 = some (q, n') ∧ n' ≤ 64 ∧ n < n' ∧ 3 * (64 - n') + 2 ≤ F) := by
          rcases sn6 with e | ⟨q, n6, e, x1, x2, x3⟩
          · exact Or.inl e
          · exact Or.inr ⟨q, n6, e, x1, x2, by omega⟩
        clear hi6 sn6 q6 HI SN t3
        obtain ⟨op2, nm2, vl2, va2, vn2, vc2, ka2, kn2, kc2⟩ := h6
        dsimp only
        obtain ⟨u7, hu7⟩ : ∃ u7, Hid ((u6.alloc (.cells #[.int .i64 op2, .string nm2, .string vl2, .slice va2 vn2 vc2, .slice ka2 kn2 kc2] 25)) = u7) := ⟨_, rfl⟩
        have A7 : Hid (Below u6.heap.size u6 u7) := by rw [← hu7.out]; exact (Below.refl _ _).alloc (Nat.le_refl _) _
        have X7 : Hid (BoxM u7 u6.heap.size ⟨op2, nm2, vl2, va2, vn2, vc2, ka2, kn2, kc2⟩) := by rw [← hu7.out]; exact boxM_new u6 ⟨op2, nm2, vl2, va2, vn2, vc2, ka2, kn2, kc2⟩
        have Q7 := hide (GKK.out.rest c6 A7.out)
        obtain ⟨u8, hu8⟩ : ∃ u8, Hid ((u7.alloc (.cells #[.int .i64 op2, .string nm2, .string vl2, .slice va2 vn2 vc2, .slice ka2 kn2 kc2] 25)) = u8) := ⟨_, rfl⟩
        have A8 : Hid (Below u7.heap.size u7 u8) := by rw [← hu8.out]; exact (Below.refl _ _).alloc (Nat.le_refl _) _
        have B8 : Hid (Below u6.heap.size u6 u8) := bel_to A7.out (Nat.le_refl _) A8.out
        have Q8 := hide (GKK.out.rest c6 B8.out)
        have HCC : Hid (∀ jj v, (Hm.cells ⟨op2, nm2, vl2, va2, vn2, vc2, ka2, kn2, kc2⟩)[jj]? = some v → u8.cell? ((⟨u7.heap.size, 0, none⟩ : Addr).add jj) = some v) := by
          intro jj v hv
          rw [Addr.add_lit, ← hu8.out]
          exact five_new u7 ⟨op2, nm2, vl2, va2, vn2, vc2, ka2, kn2, kc2⟩ _ jj v hv
        have C6 := hide c6
        have R6 := hide r6
        have P6 := hide pk6
        obtain ⟨m0, m1, m2', m3, m4, _⟩ := Q7.out.2.1.all
        obtain ⟨y0, y1, y2, y3, y4, _⟩ := X7.out.all
        dsimp only at m0 m1 m2' m3 m4 y0 y1 y2 y3 y4
        clear c6 r6 pk6 V5
        go_upto_region 30 with fail
        rw [hu7.out]
        clear hu7
        rw [← hu8.out] at Q8 HCC B8
        go_wp2_with (at_builtin; refine wpList_pushM _ rfl _ _ 23 rfl (gm + 1) i0 Try.underlying23 hi hz0 hz1 hz2 ka k kc hs' rfl Q8.out.1 ⟨u7.heap.size, 0, none⟩ 1 ⟨op2, nm2, vl2, va2, vn2, vc2, ka2, kn2, kc2⟩ rfl HCC.out (by omega) Q8.out.2.2 ?_)
        intro g' c' w4 o4 ch4 _ wh4
        obtain ⟨g7, mb4⟩ := GKK.out.push C6.out B8.out R6.out P6.out o4 ch4 (wh4.imp id (fun hh => by simp; omega))
        have G7 := hide g7
        have M4 := hide mb4
        obtain ⟨z0, z1, z2, z3, z4, zf⟩ := M4.out.all
        have zf4 := zf 4
        dsimp only at z0 z1 z2 z3 z4
        obtain ⟨u9, hu9⟩ : ∃ u9, Hid (w4.setCell ⟨gm, 4, none⟩ (.slice (some ⟨g', 0, none⟩) (k + 1) c') = u9) := ⟨_, rfl⟩
        rw [hu9.out] at G7
        clear o4 ch4 wh4 HCC g7 mb4 M4 zf m0 m1 m2' m3 m4 y0 y1 y2 y3 y4 Q7 Q8 X7 A7 A8 B8 C6 R6 P6 hu8
        clear GKK
        go_upto_region 28 with fail
        rw [hu9.out]
        clear hu9 z0 z1 z2 z3 z4 zf4
        go_wp2
        go_roundw
        case rel => exact ⟨k + 1, F, st6, _, c', ks6, _, by omega, by omega, by go_num, G7, HI3, SN3⟩
        case measure => simp [intOf]; omega
      · have i1 : ¬ (k : Int) < (cn : Int) := by omega
        have HGS := hide GKK.out.gs
        have HF : Hid (some (.mk 6 .empty .empty [] ks, p2, 64 - n2) = ans) := by
          obtain ⟨F, rfl⟩ : ∃ F', F = F' + 1 := ⟨F - 1, by omega⟩
          show _ = _
          rw [HI.out, show cn - k = 0 by omega]
          simp only [anK, gtK, Option.map_some, List.append_nil]
        have DN : Hid (GoP ans g g2 n a N cap zs w (.returned (.agg #[.int .i64 6, .string ⟨#[]⟩, .string ⟨#[]⟩, .slice none 0 0, .slice ka k kc])) (put5 u w.heap.size ⟨6, ⟨#[]⟩, ⟨#[]⟩, none, 0, 0, ka, k, kc⟩)) := by
          rw [← HF.out]
          exact HGS.out.g0.fin (h := ⟨6, ⟨#[]⟩, ⟨#[]⟩, none, 0, 0, ka, k, kc⟩) (res := some _) ⟨GKK.out.fin (by simp) (by omega) (by decide), n2, rfl, hn2, rfl, hnn2⟩
        obtain ⟨d0, d1, d2, d3, d4, df⟩ := HGS.out.g0.box.all
        obtain ⟨m0, m1, m2, m3, m4, _⟩ := HGS.out.mb.all
        have f10 := df 0
        have f11 := df 1
        have f12 := df 2
        have f13 := df 3
        have f14 := df 4
        dsimp only [hm0] at d0 d1 d2 d3 d4 m0 m1 m2 m3 m4
        have FP := hide (HGS.out.g0.box.put ⟨6, ⟨#[]⟩, ⟨#[]⟩, none, 0, 0, ka, k, kc⟩)
        clear df
        go_wp2
        obtain ⟨x0, x1, x2, x3, x4, _⟩ := FP.out.all
        unfold put5 at x0 x1 x2 x3 x4
        dsimp only at x0 x1 x2 x3 x4
        exact bodyPost_ret (v := .agg #[.int .i64 6, .string ⟨#[]⟩, .string ⟨#[]⟩, .slice none 0 0, .slice ka k kc]) (by simp [results, Try.results46, go_sem, x0, x1, x2, x3, x4]) rfl DN.out

end Go.Proofs.Ythebcmkainplnaa

namespace Go.Proofs.Ythebcmkainplnaa
open Go.RowKit
set_option maxRecDepth 20000

set_option maxHeartbeats 16000000 in
theorem got_7 (f g g2 n : Nat) (a : Option Addr) (N cap : Nat) (zs : List Int) (p : Int) (d : Nat) (w : World) (h : Rdr w g g2 a N cap zs (some (p, n))) (hg : g < g2) (hn : n < 64) (hd : d ≤ 8) (p1 : Int) (IH : ∀ F, F < f + 1 → RdG F) (hf : 3 * (64 - n) + 1 ≤ f + 1) (hgs : getS zs p = some (7, p1)) :
    Calls Try.prog 46 #[.pointer (some ⟨g, 0, none⟩), .pointer (some ⟨g2, 0, none⟩), .int .i64 (d : Int)] w fun e w' => GoP (gtM zs true (f + 1) (64 - n) d p) g g2 n a N cap zs w e w' := by
  obtain ⟨W, hW⟩ : ∃ W, Hid (w.alloc (.cells #[.int .i64 0, .string ⟨#[]⟩, .string ⟨#[]⟩, .slice none 0 0, .slice none 0 0] 25) = W) := ⟨_, rfl⟩
  obtain ⟨V, hV⟩ : ∃ V, Hid (W.setCell ⟨g2, 0, none⟩ (.int .i64 ((n : Int) + 1)) = V) := ⟨_, rfl⟩
  have D0 := hide (g0_start h hg hW.out hV.out)
  have HB8 : Hid (Bytes8 zs) := h.row.bytes
  have hlt := D0.out.lt
  have bx : Hid (BX W g2 n) := by rw [← hW.out]; exact h.2.1.block (Below.heap_alloc _ _ _ h.2.1.lt)
  obtain ⟨b0, b1⟩ := bx.out.cell
  obtain ⟨a0, a1⟩ := D0.out.rd.2.1.cell
  rw [show ((n + 1 : Nat) : Int) = (n : Int) + 1 from rfl] at a0
  obtain ⟨-, s2, sf⟩ := D0.out.rd.cells
  have sf2 := sf 2
  obtain ⟨ans, HA⟩ : ∃ ans, Hid (gtM zs true (f + 1) (64 - n) d p = ans) := ⟨_, rfl⟩
  rw [HA.out]
  clear h bx sf
  obtain ⟨left, hleft⟩ : ∃ left, 64 - n = left + 1 := ⟨64 - n - 1, by omega⟩
  have hl2 : 64 - (n + 1) = left := by omega
  rw [hleft, gtM, if_neg (by omega), hgs] at HA
  simp only at HA
  rw [if_neg (by decide), if_neg (by decide), if_neg (by decide), if_neg (by decide), if_pos trivial] at HA
  have K1 := hide (rd_num D0.out.rd hg)
  rw [show nuR zs (some (p, n + 1)) = (7, some (p1, n + 1)) by simp only [nuR, hgs]] at K1
  dsimp only at K1
  clear hgs
  have t1 : ¬ (64 : Int) < (n : Int) + 1 := by omega
  have t2 : ¬ (8 : Int) < (d : Int) := by omega
  go_enter Try.func46, Try.ntmps46
  go_upto_region 1 with fail
  rw [hW.out]
  go_upto_region 2 with fail
  rw [hV.out]
  clear hW hV b0 b1
  go_wp2_with fail
  with_reducible refine K1.out.mono ?_
  rintro e u1 ⟨rfl, o1, r1⟩
  have D2 := hide (D0.out.lo (only_two o1) r1)
  clear o1 r1 K1 D0 s2 sf2 a0 a1
  have t3 := good_cell D2.out.rd
  obtain ⟨u3, hu3⟩ : ∃ u3, Hid (u1.alloc (.cells #[.int .i64 7, .string ⟨#[]⟩, .string ⟨#[]⟩, .slice none 0 0, .slice none 0 0] 25) = u3) := ⟨_, rfl⟩
  have D3 := hide (GS.start D2.out hu3.out)
  go_upto_region 9 with fail
  rw [hu3.out]
  clear hu3 t3 D2
  generalize u1.heap.size = gm at *
  obtain ⟨m0, m1, m2, m3, m4, _⟩ := D3.out.mb.all
  dsimp only at m0 m1 m2 m3 m4
  go_upto_region 10 with fail
  clear m0 m1 m2 m3 m4
  obtain ⟨F, hF⟩ : ∃ F, f = F + 1 := ⟨f - 1, by omega⟩
  have V5 := hide (IH F (by omega) g g2 (n + 1) a N cap zs p1 (d + 1) u3 D3.out.g0.rd hg (by omega) (by omega) (by omega))
  rw [show ((d + 1 : Nat) : Int) = (d : Int) + 1 from rfl] at V5
  clear IH
  have HI : Hid (ans = anK zs 7 (d + 1) (F + 1) [] (0 + 1) (some (p1, n + 1))) := by
    show _ = _
    rw [← HA.out, ← hF]
    simp only [anK, hl2]
    rfl
  have GKK := hide (GK.start D3.out)
  obtain ⟨i0, hi, hz0, hz1, hz2⟩ := info_parts Try.infoM
  go_wp2_with fail
  with_reducible refine V5.out.mono ?_
  intro e u6 q6
  obtain ⟨c6, h6, st6, ks6, kd6, rfl, r6, pk6, hi6, sn6⟩ := kid_step (n := n) (by omega) HI.out q6
  have HI3 : Hid (ans = anK zs 7 (d + 1) F ks6 0 st6) := hi6
  have SN3 := hide sn6
  clear hi6 sn6 q6 HI HA
  obtain ⟨op2, nm2, vl2, va2, vn2, vc2, ka2, kn2, kc2⟩ := h6
  dsimp only
  obtain ⟨u7, hu7⟩ : ∃ u7, Hid ((u6.alloc (.cells #[.int .i64 op2, .string nm2, .string vl2, .slice va2 vn2 vc2, .slice ka2 kn2 kc2] 25)) = u7) := ⟨_, rfl⟩
  have A7 : Hid (Below u6.heap.size u6 u7) := by rw [← hu7.out]; exact (Below.refl _ _).alloc (Nat.le_refl _) _
  have X7 : Hid (BoxM u7 u6.heap.size ⟨op2, nm2, vl2, va2, vn2, vc2, ka2, kn2, kc2⟩) := by rw [← hu7.out]; exact boxM_new u6 ⟨op2, nm2, vl2, va2, vn2, vc2, ka2, kn2, kc2⟩
  have Q7 := hide (GKK.out.rest c6 A7.out)
  obtain ⟨u8, hu8⟩ : ∃ u8, Hid ((u7.alloc (.cells #[.int .i64 op2, .string nm2, .string vl2, .slice va2 vn2 vc2, .slice ka2 kn2 kc2] 25)) = u8) := ⟨_, rfl⟩
  have A8 : Hid (Below u7.heap.size u7 u8) := by rw [← hu8.out]; exact (Below.refl _ _).alloc (Nat.le_refl _) _
  have B8 : Hid (Below u6.heap.size u6 u8) := bel_to A7.out (Nat.le_refl _) A8.out
  have Q8 := hide (GKK.out.rest c6 B8.out)
  have HCC : Hid (∀ jj v, (Hm.cells ⟨op2, nm2, vl2, va2, vn2, vc2, ka2, kn2, kc2⟩)[jj]? = some v → u8.cell? ((⟨u7.heap.size, 0, none⟩ : Addr).add jj) = some v) := by
    intro jj v hv
    rw [Addr.add_lit, ← hu8.out]
    exact five_new u7 ⟨op2, nm2, vl2, va2, vn2, vc2, ka2, kn2, kc2⟩ _ jj v hv
  have C6 := hide c6
  have R6 := hide r6
  have P6 := hide pk6
  obtain ⟨m0, m1, m2', m3, m4, _⟩ := Q7.out.2.1.all
  obtain ⟨y0, y1, y2, y3, y4, _⟩ := X7.out.all
  dsimp only at m0 m1 m2' m3 m4 y0 y1 y2 y3 y4
  clear c6 r6 pk6 V5
  go_upto_region 33 with fail
  rw [hu7.out]
  clear hu7
  rw [← hu8.out] at Q8 HCC B8
  go_wp2_with (at_builtin; refine wpList_pushM _ rfl _ _ 23 rfl (gm + 1) i0 Try.underlying23 hi hz0 hz1 hz2 none 0 0 [] rfl Q8.out.1 ⟨u7.heap.size, 0, none⟩ 1 ⟨op2, nm2, vl2, va2, vn2, vc2, ka2, kn2, kc2⟩ rfl HCC.out (by omega) Q8.out.2.2 ?_)
  intro g' c' w4 o4 ch4 _ wh4
  obtain ⟨g7, mb4⟩ := GKK.out.push C6.out B8.out R6.out P6.out o4 ch4 (wh4.imp id (fun hh => by simp; omega))
  have G7 := hide g7
  have M4 := hide mb4
  obtain ⟨z0, z1, z2, z3, z4, zf⟩ := M4.out.all
  have zf4 := zf 4
  dsimp only at z0 z1 z2 z3 z4
  obtain ⟨u9, hu9⟩ : ∃ u9, Hid (w4.setCell ⟨gm, 4, none⟩ (.slice (some ⟨g', 0, none⟩) (0 + 1) c') = u9) := ⟨_, rfl⟩
  rw [hu9.out] at G7
  clear o4 ch4 wh4 HCC g7 mb4 M4 zf m0 m1 m2' m3 m4 y0 y1 y2 y3 y4 Q7 Q8 X7 A7 A8 B8 C6 R6 P6 hu8
  clear GKK D3
  go_upto_region 34 with fail
  rw [hu9.out]
  clear hu9 z0 z1 z2 z3 z4 zf4
  have HGS := hide G7.out.gs
  have DN : Hid (GoP ans g g2 n a N cap zs w (.returned (.agg #[.int .i64 7, .string ⟨#[]⟩, .string ⟨#[]⟩, .slice none 0 0, .slice (some ⟨g', 0, none⟩) (0 + 1) c'])) (put5 u9 w.heap.size ⟨7, ⟨#[]⟩, ⟨#[]⟩, none, 0, 0, (some ⟨g', 0, none⟩), (0 + 1), c'⟩)) := by
    rcases SN3.out with e | ⟨q, n6, e, x1, x2, x3⟩
    · rw [HI3.out, e]
      exact HGS.out.g0.fin (h := ⟨7, ⟨#[]⟩, ⟨#[]⟩, none, 0, 0, (some ⟨g', 0, none⟩), (0 + 1), c'⟩) (res := none) e
    · have HF : some (.mk 7 .empty .empty [] ks6, q, 64 - n6) = ans := by
        obtain ⟨F, rfl⟩ : ∃ F', F = F' + 1 := ⟨F - 1, by omega⟩
        rw [HI3.out, e]
        simp only [anK, gtK, Option.map_some, List.append_nil]
      rw [← HF]
      exact HGS.out.g0.fin (h := ⟨7, ⟨#[]⟩, ⟨#[]⟩, none, 0, 0, (some ⟨g', 0, none⟩), (0 + 1), c'⟩) (res := some _) ⟨G7.out.fin (by rw [e]; simp) (by omega) (by decide), n6, e, x1, rfl, x2⟩
  obtain ⟨d0, d1, d2, d3, d4, df⟩ := HGS.out.g0.box.all
  obtain ⟨m0, m1, m2, m3, m4, _⟩ := HGS.out.mb.all
  have f10 := df 0
  have f11 := df 1
  have f12 := df 2
  have f13 := df 3
  have f14 := df 4
  dsimp only [hm0] at d0 d1 d2 d3 d4 m0 m1 m2 m3 m4
  have FP := hide (HGS.out.g0.box.put ⟨7, ⟨#[]⟩, ⟨#[]⟩, none, 0, 0, (some ⟨g', 0, none⟩), (0 + 1), c'⟩)
  clear df
  go_wp2
  obtain ⟨x0, x1, x2, x3, x4, _⟩ := FP.out.all
  unfold put5 at x0 x1 x2 x3 x4
  dsimp only at x0 x1 x2 x3 x4
  exact bodyPost_ret (v := .agg #[.int .i64 7, .string ⟨#[]⟩, .string ⟨#[]⟩, .slice none 0 0, .slice (some ⟨g', 0, none⟩) (0 + 1) c']) (by simp [results, Try.results46, go_sem, x0, x1, x2, x3, x4]) rfl DN.out

theorem got_of (f : Nat) (IH : ∀ F, F < f → RdG F) : RdG f := by
  intro g g2 n a N cap zs p d w h hg hn hd hf
  obtain ⟨f, rfl⟩ : ∃ f', f = f' + 1 := ⟨f - 1, by omega⟩
  by_cases hb : n = 64 ∨ d = 9
  · exact got_over f g g2 n a N cap zs p d w h hg hn hd hb
  · have hn' : n < 64 := by omega
    have hd' : d ≤ 8 := by omega
    cases hgs : getS zs p with
    | none => exact got_none f g g2 n a N cap zs p d w h hg hn' hd' hgs
    | some r =>
      obtain ⟨v, p1⟩ := r
      have hv0 := (getS_lt h.row.bytes hgs).1
      by_cases h7 : 7 < v
      · exact got_great f g g2 n a N cap zs p d w h hg hn' hd' v p1 hgs h7
      · have hcs : v = 0 ∨ v = 1 ∨ v = 2 ∨ v = 3 ∨ v = 4 ∨ v = 5 ∨ v = 6 ∨ v = 7 := by omega
        rcases hcs with rfl | rfl | rfl | rfl | rfl | rfl | rfl | rfl
        · exact got_0 f g g2 n a N cap zs p d w h hg hn' hd' p1 hgs
        · exact got_1 f g g2 n a N cap zs p d w h hg hn' hd' p1 hgs
        · exact got_2 f g g2 n a N cap zs p d w h hg hn' hd' p1 hgs
        · exact got_3 f g g2 n a N cap zs p d w h hg hn' hd' p1 hgs
        · exact got_4 f g g2 n a N cap zs p d w h hg hn' hd' p1 hgs
        · exact got_5 f g g2 n a N cap zs p d w h hg hn' hd' p1 IH hf hgs
        · exact got_6 f g g2 n a N cap zs p d w h hg hn' hd' p1 IH hf hgs
        · exact got_7 f g g2 n a N cap zs p d w h hg hn' hd' p1 IH hf hgs
theorem got_any (f : Nat) : RdG f := by
  induction f using Nat.strongRecOn with
  | _ f ih => exact got_of f ih
/-- What the document's Get leaves. -/
def RgP (res : Option (Mt × Int)) (g : Nat) (a : Option Addr) (N cap : Nat) (w : World) (e : Ending) (w' : World) : Prop :=
  Ch (fun b => b = g) w w' ∧ ∃ h : Hm, e = .returned (.agg #[.int .i64 h.op, .string h.nm, .string h.vl, .slice h.va h.vn h.vc, .slice h.ka h.kn h.kc]) ∧ match res with
  | none => ∃ p', RB w' g a N cap p' true
  | some (m, q) => RB w' g a N cap q false ∧ SeeM (fun b => w.heap.size ≤ b) w' m h

set_option maxHeartbeats 8000000 in
theorem rget_any (p : Int) (g : Nat) (a : Option Addr) (N cap : Nat) (zs : List Int) (w0 w : World) (hp : (Lit.int .i64 p).wf = true) (hc : N ≤ cap) (hr : Row .u8 w0 a N zs) (hg : w0.heap.size ≤ g) (hb : Below w0.heap.size w0 w) (hrb : RB w g a N cap p false) :
    Calls Try.prog 26 #[.pointer (some ⟨g, 0, none⟩)] w fun e w' => RgP (getZ zs true p) g a N cap w e w' := by
  have hgw := hrb.lt'
  obtain ⟨W, hW⟩ : ∃ W, Hid (w.alloc (.cells #[.int .i64 0, .string ⟨#[]⟩, .string ⟨#[]⟩, .slice none 0 0, .slice none 0 0] 25) = W) := ⟨_, rfl⟩
  have LW : Hid (Below w.heap.size w W) := by rw [← hW.out]; exact (Below.refl _ _).alloc (Nat.le_refl _) _
  have B0 : Hid (BoxM W w.heap.size hm0) := by rw [← hW.out]; exact BoxM.zero w
  have SZ : Hid (W.heap.size = w.heap.size + 1) := by rw [← hW.out]; show _ = _; simp
  obtain ⟨W2, hW2⟩ : ∃ W2, Hid (W.alloc (.cells #[.int .i64 0] 3) = W2) := ⟨_, rfl⟩
  have L2 : Hid (Below w.heap.size w W2) := by rw [← hW2.out]; exact bel_al LW.out (Nat.le_refl _) _
  have B2 : Hid (BoxM W2 w.heap.size hm0) := by rw [← hW2.out]; exact B0.out.block (Below.heap_alloc _ _ _ B0.out.lt)
  have SZ2 : Hid (w.heap.size + 2 ≤ W2.heap.size) := by rw [← hW2.out]; show _ ≤ _; have := SZ.out; simp; omega
  have R2 : Hid (Rdr W2 g (w.heap.size + 1) a N cap zs (some (p, 0))) := by
    refine ⟨hrb.keep (L2.out.block g hgw), ?_, hp, hc, w0, hr, hg, hb.trans (L2.out.mono hb.size)⟩
    rw [← hW2.out]
    have := bx_new W 0
    rwa [SZ.out] at this
  have GT := hide (got_any 300 g (w.heap.size + 1) 0 a N cap zs p 1 W2 R2.out (by omega) (by decide) (by decide) (by decide))
  rw [show 64 - 0 = 64 from rfl, show ((1 : Nat) : Int) = 1 from rfl] at GT
  obtain ⟨ans, HA⟩ : ∃ ans, Hid (getZ zs true p = ans) := ⟨_, rfl⟩
  rw [HA.out]
  unfold getZ at HA
  have Z0 : Hid (∀ u h', Ch (fun b => b = g) w u → Ch (fun b => b = g) w (put5 u w.heap.size h')) := fun u h' hc => ch_box hc (Nat.le_refl _)
  have BD : Hid (∀ (u : World) (p' : Int), Ch (fun b => b = g) w u → BoxM u w.heap.size hm0 → RB u g a N cap p' true → none = ans → RgP ans g a N cap w (.returned (.agg #[.int .i64 0, .string ⟨#[]⟩, .string ⟨#[]⟩, .slice none 0 0, .slice none 0 0])) (put5 u w.heap.size hm0)) := fun u p' c b r e => by
    rw [← e]
    exact ⟨Z0.out u hm0 c, hm0, rfl, p', r.keep ((ch_put5 u w.heap.size hm0).block g r.lt' (by omega))⟩
  clear hrb hp hr hb
  rw [← SZ.out] at GT
  go_enter Try.func26, Try.ntmps26
  go_upto_region 1 with fail
  rw [hW.out]
  clear hW
  go_upto_region 2 with fail
  rw [hW2.out]
  clear hW2
  go_wp2_with fail
  with_reducible refine GT.out.mono ?_
  rw [SZ.out]
  rintro e u1 ⟨c1, h1, st, rfl, r1, m1⟩
  obtain ⟨op1, nm1, vl1, va1, vn1, vc1, ka1, kn1, kc1⟩ := h1
  dsimp only
  have C1 : Hid (Ch (fun b => b = g) w u1) := by
    refine ⟨c1.os.trans L2.out.os, c1.tape.trans L2.out.tape, c1.output.trans L2.out.output, Nat.le_trans L2.out.size c1.size, fun k hk hn => ?_⟩
    rw [c1.block k (Nat.lt_of_lt_of_le hk L2.out.size) (by omega)]
    exact L2.out.block k hk
  have BX1 := hide (B2.out.block (c1.block _ B2.out.lt (by omega)))
  obtain ⟨u2, hu2⟩ : ∃ u2, Hid (u1.alloc (.cells #[.int .i64 op1, .string nm1, .string vl1, .slice va1 vn1 vc1, .slice ka1 kn1 kc1] 25) = u2) := ⟨_, rfl⟩
  have A2 : Hid (Below u1.heap.size u1 u2) := by rw [← hu2.out]; exact (Below.refl _ _).alloc (Nat.le_refl _) _
  have X2 : Hid (BoxM u2 u1.heap.size ⟨op1, nm1, vl1, va1, vn1, vc1, ka1, kn1, kc1⟩) := by rw [← hu2.out]; exact boxM_new u1 ⟨op1, nm1, vl1, va1, vn1, vc1, ka1, kn1, kc1⟩
  have BX2 := hide (BX1.out.block (A2.out.block _ BX1.out.lt))
  have C2 := hide (ch_too C1.out A2.out)
  have SU : Hid (w.heap.size + 2 ≤ u1.heap.size) := Nat.le_trans SZ2.out c1.size
  clear c1 L2 B2 B0 LW R2 BX1 C1
  go_upto_region 3 with fail
  rw [hu2.out]
  clear hu2
  cases hu : gtM zs true 300 64 1 p with
  | none =>
    rw [hu] at m1 HA
    have m1' : st = none := m1
    subst m1'
    obtain ⟨p', rb1⟩ := r1
    have RB2 := hide (rb1.keep (A2.out.block g rb1.lt'))
    obtain ⟨U9, hU9⟩ : ∃ U9, Hid (u2.setCell ⟨g, 2, none⟩ (.bool true) = U9) := ⟨_, rfl⟩
    have DN : Hid (RgP ans g a N cap w (.returned (.agg #[.int .i64 0, .string ⟨#[]⟩, .string ⟨#[]⟩, .slice none 0 0, .slice none 0 0])) (put5 U9 w.heap.size hm0)) := by
      rw [← hU9.out]
      have cs := ch_set u2 g 2 (.bool true)
      exact BD.out _ p' (C2.out.trans cs) (BX2.out.block (cs.block _ BX2.out.lt (by omega))) RB2.out.spoil HA.out
    have BX9 : Hid (BoxM U9 w.heap.size hm0) := by rw [← hU9.out]; exact BX2.out.block ((ch_set u2 g 2 (.bool true)).block _ BX2.out.lt (by omega))
    obtain ⟨_, _, t2, tf⟩ := RB2.out.cell
    have tf2 := tf 2
    clear tf hu m1 rb1 GT BD BX2 C2 X2 A2 RB2
    go_upto_region 5 with fail
    rw [hU9.out]
    clear hU9 t2 tf2
    obtain ⟨d0, d1, d2, d3, d4, df⟩ := BX9.out.all
    have f10 := df 0
    have f11 := df 1
    have f12 := df 2
    have f13 := df 3
    have f14 := df 4
    dsimp only [hm0] at d0 d1 d2 d3 d4
    have FP := hide (BX9.out.put hm0)
    clear df
    go_wp2
    obtain ⟨x0, x1, x2, x3, x4, _⟩ := FP.out.all
    unfold put5 at x0 x1 x2 x3 x4
    dsimp only [hm0] at x0 x1 x2 x3 x4
    exact bodyPost_ret (v := .agg #[.int .i64 0, .string ⟨#[]⟩, .string ⟨#[]⟩, .slice none 0 0, .slice none 0 0]) (by simp [results, Try.results26, go_sem, x0, x1, x2, x3, x4]) rfl DN.out
  | some x =>
    obtain ⟨m, q, left⟩ := x
    rw [hu] at m1 HA
    simp only at HA
    obtain ⟨se, n', rfl, -, -, -⟩ : SeeM (fun b => W2.heap.size ≤ b) u1 m ⟨op1, nm1, vl1, va1, vn1, vc1, ka1, kn1, kc1⟩ ∧ ∃ n' : Nat, st = some (q, n') ∧ n' ≤ 64 ∧ 64 - n' = left ∧ 0 < n' := m1
    obtain ⟨rb1, -⟩ := r1
    have RB2 := hide (rb1.keep (A2.out.block g rb1.lt'))
    have SE2 := hide (se.below A2.out)
    have CK := hide (refchkM_any _ m _ u2 SE2.out)
    dsimp only at CK
    obtain ⟨_, _, t2, tf⟩ := RB2.out.cell
    obtain ⟨y0, y1, y2, y3, y4, _⟩ := X2.out.all
    dsimp only at y0 y1 y2 y3 y4
    clear hu se rb1 GT tf
    go_wp2_with fail
    with_reducible refine CK.out.mono ?_
    rintro e u3 ⟨rfl, b3⟩
    have RB3 := hide (RB2.out.keep (b3.block g RB2.out.lt'))
    have SE3 := hide (SE2.out.below b3)
    have BX3 := hide (BX2.out.block (b3.block _ BX2.out.lt))
    have X3 := hide (X2.out.block (b3.block _ X2.out.lt))
    have C3 := hide (ch_too C2.out b3)
    clear b3 CK t2 y0 y1 y2 y3 y4 X2 BX2 C2 SE2 RB2 A2
    cases hc : chkM m with
    | false =>
      obtain ⟨U9, hU9⟩ : ∃ U9, Hid (u3.setCell ⟨g, 2, none⟩ (.bool true) = U9) := ⟨_, rfl⟩
      have DN : Hid (RgP ans g a N cap w (.returned (.agg #[.int .i64 0, .string ⟨#[]⟩, .string ⟨#[]⟩, .slice none 0 0, .slice none 0 0])) (put5 U9 w.heap.size hm0)) := by
        rw [← hU9.out]
        have cs := ch_set u3 g 2 (.bool true)
        exact BD.out _ q (C3.out.trans cs) (BX3.out.block (cs.block _ BX3.out.lt (by omega))) RB3.out.spoil (by rw [← HA.out, hc]; rfl)
      have BX9 : Hid (BoxM U9 w.heap.size hm0) := by rw [← hU9.out]; exact BX3.out.block ((ch_set u3 g 2 (.bool true)).block _ BX3.out.lt (by omega))
      obtain ⟨_, _, t2, tf⟩ := RB3.out.cell
      have tf2 := tf 2
      clear tf BD BX3 C3 X3 RB3 SE3
      go_upto_region 5 with fail
      rw [hU9.out]
      clear hU9 t2 tf2
      obtain ⟨d0, d1, d2, d3, d4, df⟩ := BX9.out.all
      have f10 := df 0
      have f11 := df 1
      have f12 := df 2
      have f13 := df 3
      have f14 := df 4
      dsimp only [hm0] at d0 d1 d2 d3 d4
      have FP := hide (BX9.out.put hm0)
      clear df
      go_wp2
      obtain ⟨x0, x1, x2, x3, x4, _⟩ := FP.out.all
      unfold put5 at x0 x1 x2 x3 x4
      dsimp only [hm0] at x0 x1 x2 x3 x4
      exact bodyPost_ret (v := .agg #[.int .i64 0, .string ⟨#[]⟩, .string ⟨#[]⟩, .slice none 0 0, .slice none 0 0]) (by simp [results, Try.results26, go_sem, x0, x1, x2, x3, x4]) rfl DN.out
    | true =>
      have DN : Hid (RgP ans g a N cap w (.returned (.agg #[.int .i64 op1, .string nm1, .string vl1, .slice va1 vn1 vc1, .slice ka1 kn1 kc1])) (put5 u3 w.heap.size ⟨op1, nm1, vl1, va1, vn1, vc1, ka1, kn1, kc1⟩)) := by
        have HF : some (m, q) = ans := by rw [← HA.out, hc]; rfl
        rw [← HF]
        have c5 := ch_put5 u3 w.heap.size ⟨op1, nm1, vl1, va1, vn1, vc1, ka1, kn1, kc1⟩
        exact ⟨Z0.out _ _ C3.out, ⟨op1, nm1, vl1, va1, vn1, vc1, ka1, kn1, kc1⟩, rfl, RB3.out.keep (c5.block g RB3.out.lt' (by omega)), (SE3.out.ch c5 (fun b hb e => by have := SZ2.out; omega)).mono (fun b _ hb => by have := SZ2.out; omega)⟩
      obtain ⟨y0, y1, y2, y3, y4, _⟩ := X3.out.all
      dsimp only at y0 y1 y2 y3 y4
      obtain ⟨d0, d1, d2, d3, d4, df⟩ := BX3.out.all
      have f10 := df 0
      have f11 := df 1
      have f12 := df 2
      have f13 := df 3
      have f14 := df 4
      dsimp only [hm0] at d0 d1 d2 d3 d4
      have FP := hide (BX3.out.put ⟨op1, nm1, vl1, va1, vn1, vc1, ka1, kn1, kc1⟩)
      clear df BD
      go_wp2
      obtain ⟨x0, x1, x2, x3, x4, _⟩ := FP.out.all
      unfold put5 at x0 x1 x2 x3 x4
      dsimp only at x0 x1 x2 x3 x4
      exact bodyPost_ret (v := .agg #[.int .i64 op1, .string nm1, .string vl1, .slice va1 vn1 vc1, .slice ka1 kn1 kc1]) (by simp [results, Try.results26, go_sem, x0, x1, x2, x3, x4]) rfl DN.out

end Go.Proofs.Ythebcmkainplnaa

namespace Go.Proofs.Ythebcmkainplnaa
open Go.RowKit
set_option maxRecDepth 20000

section
variable {P : Program} {ops : Array Oper} {Q : Exit → Act → World → Prop} {md : Region.Mode} {S : World → Prop}
/-- A call in a region that draws its order: what holds from then on is told behind the call. -/
theorem held_callM {i : Nat} {o : Oper} {fuel : Nat} {listed : Array Bool} {a : Act} {w : World} (hr : Region.ready md ops listed = [i]) (ho : ops[i]? = some o) (hw : Region.wanted o (yielded ops a.tmps) = true)
    (h : ∀ K' : Act → World → Prop, Shut (∀ (S2 : World → Prop) a w, (∀ w, S2 w → S w) → S2 w → wpAnyH P md ops Q S2 fuel (listed.setIfInBounds i true) a w → K' a w) → Oper.wp P o a w K' Q) : wpAnyH P md ops Q S (fuel + 1) listed a w := by
  refine wpAnyH_all hr (by simp) ?_
  intro j hj
  have : j = i := by simpa using hj
  subst this
  unfold wpOp
  simp only [ho]
  rw [if_pos hw]
  refine Or.inl (h _ ?_)
  intro S2 a' w' hi hS h'
  exact ⟨hi _ hS, held_mono hi _ _ _ _ h'⟩
end
/-- The reader, made last, alone has turned: what was there before stays. -/
theorem chM_old {W X : World} {o : Obj} (c : Ch (fun k => k = W.heap.size) (W.alloc o) X) : Below W.heap.size W X :=
  ⟨c.os, c.tape, c.output, Nat.le_trans (by simp) c.size, fun k hk => (c.block k (by simp; omega) (by omega)).trans (Below.heap_alloc W o k hk)⟩
theorem BoxM.five {w : World} {g : Nat} {op : Int} {nm vl : ByteArray} {va : Option Addr} {vn vc : Nat} {ka : Option Addr} {kn kc : Nat} (h : BoxM w g ⟨op, nm, vl, va, vn, vc, ka, kn, kc⟩) : w.cell? ⟨g, 0, none⟩ = some (.int .i64 op) ∧ w.cell? ⟨g, 1, none⟩ = some (.string nm) ∧ w.cell? ⟨g, 2, none⟩ = some (.string vl) ∧ w.cell? ⟨g, 3, none⟩ = some (.slice va vn vc) ∧ w.cell? ⟨g, 4, none⟩ = some (.slice ka kn kc) := ⟨h.all.1, h.all.2.1, h.all.2.2.1, h.all.2.2.2.1, h.all.2.2.2.2.1⟩

set_option maxRecDepth 100000 in
set_option maxHeartbeats 16000000 in
theorem bytesM_any (m : Mt) (h : Hm) (a : Option Addr) (n cap : Nat) (bs : List Int) (p : Int) (w : World) (q : SeeM (fun _ => True) w m h) (hcap : n ≤ cap) (hn47 : n ≤ 140737488351232) (hnil : a = none → cap = 0) (hr : Row .u8 w a n bs) (wp : (Lit.int .i64 p).wf = true) :
    Calls Try.prog 7 #[.agg #[.int .i64 h.op, .string h.nm, .string h.vl, .slice h.va h.vn h.vc, .slice h.ka h.kn h.kc], .slice a n cap, .int .i64 p] w fun e w' => e = .returned (.bool true) ∧ Below w.heap.size w w' := by
  obtain ⟨op, nm, vl, va, vn, vc, ka, kn, kc⟩ := h
  dsimp only
  have HZ : Hid (Bytes8 bs) := hr.bytes
  have R := hide hr
  have HL := hide hr.1
  have HN := hide hnil
  obtain ⟨W, hW⟩ : ∃ W, Hid (w.alloc (.cells #[.int .i64 op, .string nm, .string vl, .slice va vn vc, .slice ka kn kc] 25) = W) := ⟨_, rfl⟩
  have LW : Hid (Below w.heap.size w W) := by rw [← hW.out]; exact (Below.refl _ _).alloc (Nat.le_refl _) _
  have B : Hid (BoxM W w.heap.size ⟨op, nm, vl, va, vn, vc, ka, kn, kc⟩) := by rw [← hW.out]; exact boxM_new w ⟨op, nm, vl, va, vn, vc, ka, kn, kc⟩
  have T1 := hide (tinyT_any (fun _ => True) m _ W (q.below LW.out))
  have T2 := hide (fun u (hu : Below w.heap.size w u) => refchkM_any (fun _ => True) m ⟨op, nm, vl, va, vn, vc, ka, kn, kc⟩ u (q.below hu))
  dsimp only at T1 T2
  have AW := hide awakeM_any
  obtain ⟨b0, b1, b2, b3, b4, _⟩ := B.out.all
  dsimp only at b0 b1 b2 b3 b4
  have HQ := hide q
  clear q hr hnil
  go_enter Try.func7, Try.ntmps7
  go_upto_region 1 with fail
  rw [hW.out]
  clear hW
  go_wp2_with fail
  with_reducible refine T1.out.mono ?_
  rintro e v1 ⟨rfl, k1⟩
  have L1 : Hid (Below w.heap.size w v1) := bel_to LW.out (Nat.le_refl _) k1
  have B1 := hide (B.out.block (k1.block _ B.out.lt))
  clear T1 k1 b0 b1 b2 b3 b4 B LW
  obtain ⟨b0, b1, b2, b3, b4, _⟩ := B1.out.all
  dsimp only at b0 b1 b2 b3 b4
  cases ht : tinyM m with
  | false =>
    go_wp2_with fail
    with_reducible refine (AW.out _).mono ?_
    rintro e v2 ⟨rfl, k2⟩
    have L2 := hide (bel_to L1.out (Nat.le_refl _) k2)
    clear k2
    go_wp2
    go_ret
    exact ⟨rfl, L2.out⟩
  | true =>
    go_wp2_with fail
    with_reducible refine (T2.out _ L1.out).mono ?_
    rintro e v2 ⟨rfl, k2⟩
    have L2 := hide (bel_to L1.out (Nat.le_refl _) k2)
    have B2 := hide (B1.out.block (k2.block _ B1.out.lt))
    clear T2 k2 b0 b1 b2 b3 b4 B1 L1
    go_upto_if 21 with fail
    go_cut [7] (fun _ wx => Hid (Below w.heap.size w wx))
    case first =>
      by_cases hc : chkM m = true
      · rw [hc]
        have TM := hide (fun u (hu : Below w.heap.size w u) => copyM_any (fun _ => True) m ⟨op, nm, vl, va, vn, vc, ka, kn, kc⟩ u (HQ.out.below hu) ht)
        have ok := okM_of hc
        have hpl := ok.putlen
        have HV := hide (put_b8 m ok)
        have BX : Hid (Bytes8 (bs ++ putB m)) := Bytes8.append HZ.out HV.out
        obtain ⟨NL, HNL⟩ : ∃ NL, Hid (n + (putB m).length = NL) := ⟨_, rfl⟩
        have hNL := HNL.out
        have hNLs : NL ≤ 140737488371232 := by omega
        have BE : Hid (getZ (bs ++ putB m) false (n : Int) = some (m, (NL : Int))) := by
          have e := getZ_back hc bs []
          rw [List.append_nil, HL.out, HNL.out] at e
          exact e
        have PT := hide (fun S h2 u x c (q2 : SeeM S u m h2) (r : Row .u8 u x n bs) => putM_any S m h2 x n c bs u q2 hc (by omega) r)
        rw [HNL.out] at PT
        have PP := hide (fun u (hu : Below w.heap.size w u) => rput_any m (fun _ => True) ⟨op, nm, vl, va, vn, vc, ka, kn, kc⟩ u (HQ.out.below hu) ok)
        have SM := hide (fun S h2 u (q2 : SeeM S u m h2) (hu : Below w.heap.size w u) => same_any m S h2 m (fun _ => True) ⟨op, nm, vl, va, vn, vc, ka, kn, kc⟩ u q2 (HQ.out.below hu))
        rw [sameB_self] at SM
        dsimp only at TM PP SM
        clear hNL ok hc ht
        have C1 := hide (fun u (hu : Below w.heap.size w u) => bytes_any a n cap bs u (R.out.below hu (Nat.le_refl _)) HN.out (by omega))
        go_upto_region 4 with fail
        have B2D : Hid (BoxM v2.drew w.heap.size ⟨op, nm, vl, va, vn, vc, ka, kn, kc⟩) := B2.out.block rfl
        have L2D : Hid (Below w.heap.size w v2.drew) := L2.out.drew
        refine wp_region_held_drew (S := fun w' => w'.cell? ⟨w.heap.size, 0, none⟩ = some (.int .i64 op) ∧ w'.cell? ⟨w.heap.size, 1, none⟩ = some (.string nm) ∧ w'.cell? ⟨w.heap.size, 2, none⟩ = some (.string vl) ∧ w'.cell? ⟨w.heap.size, 3, none⟩ = some (.slice va vn vc) ∧ w'.cell? ⟨w.heap.size, 4, none⟩ = some (.slice ka kn kc)) (by kernel_rfl) B2D.out.five (fun hHeld => ?_)
        refine held_take (i := 0) (d := (some 22)) (v := ?_) rfl rfl (by kernel_rfl) (by kernel_rfl) (by kernel_rfl) (fun _ _ _ h => h) (Or.inl ⟨by rfl, ?_⟩) (by first | assumption | rfl | trivial) ?_
        rotate_left 1
        · (intro w hSw; (try dsimp only at hSw); (try subst hSw); go_simp; try with_reducible rfl)
        simp only [Act.put, List.setIfInBounds_toArray, List.set_cons_zero, List.set_cons_succ]
        refine held_take (i := 2) (d := (some 24)) (v := ?_) rfl rfl (by kernel_rfl) (by kernel_rfl) (by kernel_rfl) (fun _ _ _ h => h) (Or.inl ⟨by rfl, ?_⟩) (by first | assumption | rfl | trivial) ?_
        rotate_left 1
        · (intro w hSw; (try dsimp only at hSw); (try subst hSw); go_simp; try with_reducible rfl)
        simp only [Act.put, List.setIfInBounds_toArray, List.set_cons_zero, List.set_cons_succ]
        clear hHeld B2 L2
        refine held_next (i := 1) (by kernel_rfl) rfl (by rfl) (fun K hK => ?_)
        go_simp
        with_reducible refine (C1.out _ L2D.out).mono ?_
        rintro e u1 ⟨a1, e1, rfl, o1, k1⟩
        have K2 := hide (bel_to L2D.out (Nat.le_refl _) k1)
        have B3 := hide (B2D.out.block (k1.block _ B2D.out.lt))
        have O1 := hide (o1.row (by omega) (fits_wf HZ.out))
        clear o1 k1 C1 B2D L2D
        have hS := B3.out.five
        go_wp2_with fail
        refine hK.out _ _ hS ?_
        clear hK hS
        refine held_next (i := 3) (by kernel_rfl) rfl (by rfl) (fun K hK => ?_)
        go_simp
        with_reducible refine (TM.out _ K2.out).mono ?_
        rintro e u2 ⟨⟨op2, nm2, vl2, va2, vn2, vc2, ka2, kn2, kc2⟩, rfl, s2, k2⟩
        dsimp only
        have K3 := hide (bel_to K2.out (Nat.le_refl _) k2)
        have B4 := hide (B3.out.block (k2.block _ B3.out.lt))
        have O2 := hide (O1.out.below k2 (Nat.le_refl _))
        have S2 := hide s2
        clear s2 k2 TM B3 K2 O1
        have hS := B4.out.five
        go_wp2_with fail
        refine hK.out _ _ hS ?_
        clear hK hS
        have C3 := hide (PT.out _ ⟨op2, nm2, vl2, va2, vn2, vc2, ka2, kn2, kc2⟩ u2 a1 e1 S2.out O2.out)
        dsimp only at C3
        refine held_next (i := 4) (by kernel_rfl) rfl (by rfl) (fun K hK => ?_)
        go_simp
        with_reducible refine C3.out.mono ?_
        rintro e u3 ⟨a3, e3, rfl, o3, k3⟩
        have K4 := hide (bel_to K3.out (Nat.le_refl _) k3)
        have B5 := hide (B4.out.block (k3.block _ B4.out.lt))
        have p3 := o3.capped.1
        have R3 := hide (o3.row (by omega) (fits_wf BX.out))
        clear o3 k3 C3 PT B4 K3 S2 O2
        have hS := B5.out.five
        go_wp2_with fail
        refine hK.out _ _ hS ?_
        clear hK
        refine held_take (i := 5) (d := (some 7)) (v := ?_) rfl rfl (by kernel_rfl) (by kernel_rfl) (by kernel_rfl) (fun _ _ _ h => h) (Or.inl ⟨by rfl, ?_⟩) (by first | assumption | rfl | trivial) ?_
        rotate_left 1
        · (intro w hSw; (try dsimp only at hSw); (try subst hSw); go_simp; try with_reducible rfl)
        simp only [Act.put, List.setIfInBounds_toArray, List.set_cons_zero, List.set_cons_succ]
        refine wpAnyH_done (by kernel_rfl) ?_ _
        clear hS
        have G1 := hide (getM_any a3 NL e3 (bs ++ putB m) (n : Int) u3 (i64_wf (by omega) (by omega)) p3 R3.out)
        rw [BE.out] at G1
        clear BE
        go_wp2_with fail
        with_reducible refine G1.out.mono ?_
        rintro e u4 ⟨k4, g4⟩
        obtain ⟨⟨op4, nm4, vl4, va4, vn4, vc4, ka4, kn4, kc4⟩, rfl, s4⟩ : ∃ h : Hm, e = .returned (.tuple #[.agg #[.int .i64 h.op, .string h.nm, .string h.vl, .slice h.va h.vn h.vc, .slice h.ka h.kn h.kc], .int .i64 (NL : Int), .bool true]) ∧ SeeM (fun b => u3.heap.size ≤ b) u4 m h := g4
        dsimp only
        obtain ⟨u5, hu5⟩ : ∃ u5, Hid (u4.alloc (.cells #[.int .i64 op4, .string nm4, .string vl4, .slice va4 vn4 vc4, .slice ka4 kn4 kc4] 25) = u5) := ⟨_, rfl⟩
        have A5 : Hid (Below u4.heap.size u4 u5) := by rw [← hu5.out]; exact (Below.refl _ _).alloc (Nat.le_refl _) _
        have Y5 : Hid (BoxM u5 u4.heap.size ⟨op4, nm4, vl4, va4, vn4, vc4, ka4, kn4, kc4⟩) := by rw [← hu5.out]; exact boxM_new u4 ⟨op4, nm4, vl4, va4, vn4, vc4, ka4, kn4, kc4⟩
        have K5' := hide (bel_to K4.out (Nat.le_refl _) k4)
        have K5 := hide (bel_to K5'.out (Nat.le_refl _) A5.out)
        have B6' := hide (B5.out.block (k4.block _ B5.out.lt))
        have B6 := hide (B6'.out.block (A5.out.block _ B6'.out.lt))
        have R5 := hide ((R3.out.below k4 (Nat.le_refl _)).below A5.out (Nat.le_refl _))
        have RB5 := hide (R.out.below K5.out (Nat.le_refl _))
        have S5 := hide (s4.below A5.out)
        clear k4 s4 G1 K4 K5' B5 B6' R3 A5
        go_upto_region 6 with fail
        rw [hu5.out]
        clear hu5
        generalize u4.heap.size = gy at *
        have F1 := hide (fun w' (x : Row .u8 w' a3 NL (bs ++ putB m)) => row_string (cap := e3) x)
        have F2 := hide (fun w' (x : Row .u8 w' a n bs) => row_string (cap := cap) x)
        obtain ⟨L, HLL⟩ : ∃ L, Hid ((putB m).length = L) := ⟨_, rfl⟩
        rw [HLL.out] at hpl
        have F3 := hide (fun w' base a' c' (x : Mine w' base a' L c' (putB m)) => row_string (cap := c') (x.row (by omega) (fits_wf HV.out)))
        have hadd := add_str bs (putB m) (by rw [HL.out, HLL.out]; omega)
        generalize strOfNums (bs ++ putB m) = X at F1 hadd
        generalize strOfNums bs = X1 at F2 hadd
        generalize strOfNums (putB m) = X2 at F3 hadd
        have tq : ((NL : Int) != (NL : Int)) = false := by simp
        have R5D := hide R5.out.drew
        have RB5D := hide RB5.out.drew
        have B6D : Hid (BoxM u5.drew w.heap.size ⟨op, nm, vl, va, vn, vc, ka, kn, kc⟩) := B6.out.block rfl
        have Y5D : Hid (BoxM u5.drew gy ⟨op4, nm4, vl4, va4, vn4, vc4, ka4, kn4, kc4⟩) := Y5.out.block rfl
        have K5D : Hid (Below w.heap.size w u5.drew) := K5.out.drew
        have S5D := hide S5.out.drew
        clear R5 RB5 B6 Y5 K5 S5
        refine wp_region_held_drew (S := fun w' => (convert 38 9 (.slice a3 NL e3)).run Try.prog w' = .ok (.string X) w' ∧ (convert 38 9 (.slice a n cap)).run Try.prog w' = .ok (.string X1) w' ∧ (w'.cell? ⟨w.heap.size, 0, none⟩ = some (.int .i64 op) ∧ w'.cell? ⟨w.heap.size, 1, none⟩ = some (.string nm) ∧ w'.cell? ⟨w.heap.size, 2, none⟩ = some (.string vl) ∧ w'.cell? ⟨w.heap.size, 3, none⟩ = some (.slice va vn vc) ∧ w'.cell? ⟨w.heap.size, 4, none⟩ = some (.slice ka kn kc)) ∧ (w'.cell? ⟨gy, 0, none⟩ = some (.int .i64 op4) ∧ w'.cell? ⟨gy, 1, none⟩ = some (.string nm4) ∧ w'.cell? ⟨gy, 2, none⟩ = some (.string vl4) ∧ w'.cell? ⟨gy, 3, none⟩ = some (.slice va4 vn4 vc4) ∧ w'.cell? ⟨gy, 4, none⟩ = some (.slice ka4 kn4 kc4))) (by kernel_rfl) ⟨F1.out _ R5D.out, F2.out _ RB5D.out, B6D.out.five, Y5D.out.five⟩ (fun hHeld => ?_)
        refine held_take (i := 0) (d := (some 35)) (v := ?_) rfl rfl (by kernel_rfl) (by kernel_rfl) (by kernel_rfl) (fun _ _ _ h => h) (Or.inl ⟨by rfl, ?_⟩) (by first | assumption | rfl | trivial) ?_
        rotate_left 1
        · (intro w hSw; (try dsimp only at hSw); (try subst hSw); go_simp; try with_reducible rfl)
        simp only [Act.put, List.setIfInBounds_toArray, List.set_cons_zero, List.set_cons_succ]
        refine held_take (i := 1) (d := (some 36)) (v := ?_) rfl rfl (by kernel_rfl) (by kernel_rfl) (by kernel_rfl) (fun _ _ _ h => h) (Or.inl ⟨by rfl, ?_⟩) (by first | assumption | rfl | trivial) ?_
        rotate_left 1
        · (intro w hSw; (try dsimp only at hSw); (try subst hSw); go_simp; try with_reducible rfl)
        simp only [Act.put, List.setIfInBounds_toArray, List.set_cons_zero, List.set_cons_succ]
        refine held_take (i := 2) (d := (some 37)) (v := ?_) rfl rfl (by kernel_rfl) (by kernel_rfl) (by kernel_rfl) (fun _ _ _ h => h) (Or.inl ⟨by rfl, ?_⟩) (by first | assumption | rfl | trivial) ?_
        rotate_left 1
        · (intro w hSw; (try dsimp only at hSw); (try subst hSw); go_simp; try with_reducible rfl)
        simp only [Act.put, List.setIfInBounds_toArray, List.set_cons_zero, List.set_cons_succ]
        refine held_take (i := 3) (d := (some 38)) (v := ?_) rfl rfl (by kernel_rfl) (by kernel_rfl) (by kernel_rfl) (fun _ _ _ h => h) (Or.inl ⟨by rfl, ?_⟩) (by first | assumption | rfl | trivial) ?_
        rotate_left 1
        · (intro w hSw; (try dsimp only at hSw); (try subst hSw); go_simp; try with_reducible rfl)
        simp only [Act.put, List.setIfInBounds_toArray, List.set_cons_zero, List.set_cons_succ]
        refine held_take (i := 4) (d := (some 39)) (v := ?_) rfl rfl (by kernel_rfl) (by kernel_rfl) (by kernel_rfl) (fun _ _ _ h => h) (Or.inl ⟨by rfl, ?_⟩) (by first | assumption | rfl | trivial) ?_
        rotate_left 1
        · (intro w hSw; (try dsimp only at hSw); (try subst hSw); go_simp; try with_reducible rfl)
        simp only [Act.put, List.setIfInBounds_toArray, List.set_cons_zero, List.set_cons_succ]
        refine held_callM (i := 5) (by kernel_rfl) rfl (by rfl) (fun K hK => ?_)
        go_simp
        with_reducible refine (PP.out _ K5D.out).mono ?_
        rintro e x7 ⟨a7, L7, e7, rfl, hL7, o7, k7⟩
        obtain rfl : L = L7 := by rw [← hL7]; exact HLL.out.symm
        have R7 := hide (R5D.out.below k7 (Nat.le_refl _))
        have RB7 := hide (RB5D.out.below k7 (Nat.le_refl _))
        have B7 := hide (B6D.out.block (k7.block _ B6D.out.lt))
        have Y7 := hide (Y5D.out.block (k7.block _ Y5D.out.lt))
        have S7 := hide (S5D.out.below k7)
        have K7 := hide (bel_to K5D.out (Nat.le_refl _) k7)
        have O7 := hide o7
        have hS7 : (convert 38 9 (.slice a3 NL e3)).run Try.prog x7 = .ok (.string X) x7 ∧ (convert 38 9 (.slice a n cap)).run Try.prog x7 = .ok (.string X1) x7 ∧ (x7.cell? ⟨w.heap.size, 0, none⟩ = some (.int .i64 op) ∧ x7.cell? ⟨w.heap.size, 1, none⟩ = some (.string nm) ∧ x7.cell? ⟨w.heap.size, 2, none⟩ = some (.string vl) ∧ x7.cell? ⟨w.heap.size, 3, none⟩ = some (.slice va vn vc) ∧ x7.cell? ⟨w.heap.size, 4, none⟩ = some (.slice ka kn kc)) ∧ (x7.cell? ⟨gy, 0, none⟩ = some (.int .i64 op4) ∧ x7.cell? ⟨gy, 1, none⟩ = some (.string nm4) ∧ x7.cell? ⟨gy, 2, none⟩ = some (.string vl4) ∧ x7.cell? ⟨gy, 3, none⟩ = some (.slice va4 vn4 vc4) ∧ x7.cell? ⟨gy, 4, none⟩ = some (.slice ka4 kn4 kc4)) ∧ (convert 38 9 (.slice a7 L e7)).run Try.prog x7 = .ok (.string X2) x7 := ⟨F1.out _ R7.out, F2.out _ RB7.out, B7.out.five, Y7.out.five, F3.out _ _ _ _ o7⟩
        clear o7 k7 hL7 PP hHeld R5D RB5D B6D Y5D S5D K5D
        go_wp2_with fail
        refine hK.out (fun w' => (convert 38 9 (.slice a3 NL e3)).run Try.prog w' = .ok (.string X) w' ∧ (convert 38 9 (.slice a n cap)).run Try.prog w' = .ok (.string X1) w' ∧ (w'.cell? ⟨w.heap.size, 0, none⟩ = some (.int .i64 op) ∧ w'.cell? ⟨w.heap.size, 1, none⟩ = some (.string nm) ∧ w'.cell? ⟨w.heap.size, 2, none⟩ = some (.string vl) ∧ w'.cell? ⟨w.heap.size, 3, none⟩ = some (.slice va vn vc) ∧ w'.cell? ⟨w.heap.size, 4, none⟩ = some (.slice ka kn kc)) ∧ (w'.cell? ⟨gy, 0, none⟩ = some (.int .i64 op4) ∧ w'.cell? ⟨gy, 1, none⟩ = some (.string nm4) ∧ w'.cell? ⟨gy, 2, none⟩ = some (.string vl4) ∧ w'.cell? ⟨gy, 3, none⟩ = some (.slice va4 vn4 vc4) ∧ w'.cell? ⟨gy, 4, none⟩ = some (.slice ka4 kn4 kc4)) ∧ (convert 38 9 (.slice a7 L e7)).run Try.prog w' = .ok (.string X2) w') _ _ (fun _ h => ⟨h.1, h.2.1, h.2.2.1, h.2.2.2.1⟩) hS7 ?_
        clear hK
        refine held_take (i := 6) (d := (some 41)) (v := ?_) rfl rfl (by kernel_rfl) (by kernel_rfl) (by kernel_rfl) (fun _ _ _ h => h) (Or.inl ⟨by rfl, ?_⟩) (by first | assumption | rfl | trivial) ?_
        rotate_left 1
        · (intro w hSw; (try dsimp only at hSw); (try subst hSw); go_simp; try with_reducible rfl)
        simp only [Act.put, List.setIfInBounds_toArray, List.set_cons_zero, List.set_cons_succ]
        refine held_take (i := 7) (d := (some 42)) (v := ?_) rfl rfl (by kernel_rfl) (by kernel_rfl) (by kernel_rfl) (fun _ _ _ h => h) (Or.inl ⟨by rfl, ?_⟩) (by first | assumption | rfl | trivial) ?_
        rotate_left 1
        · (intro w hSw; (try dsimp only at hSw); (try subst hSw); go_simp; try with_reducible rfl)
        simp only [Act.put, List.setIfInBounds_toArray, List.set_cons_zero, List.set_cons_succ]
        refine held_take (i := 8) (d := (some 43)) (v := ?_) rfl rfl (by kernel_rfl) (by kernel_rfl) (by kernel_rfl) (fun _ _ _ h => h) (Or.inl ⟨by rfl, ?_⟩) (by first | assumption | rfl | trivial) ?_
        rotate_left 1
        · (intro w hSw; (try dsimp only at hSw); (try subst hSw); go_simp; try with_reducible rfl)
        simp only [Act.put, List.setIfInBounds_toArray, List.set_cons_zero, List.set_cons_succ]
        refine held_take (i := 9) (d := (some 44)) (v := ?_) rfl rfl (by kernel_rfl) (by kernel_rfl) (by kernel_rfl) (fun _ _ _ h => h) (Or.inl ⟨by rfl, ?_⟩) (by first | assumption | rfl | trivial) ?_
        rotate_left 1
        · (intro w hSw; (try dsimp only at hSw); (try subst hSw); go_simp; try with_reducible rfl)
        simp only [Act.put, List.setIfInBounds_toArray, List.set_cons_zero, List.set_cons_succ]
        refine held_take (i := 10) (d := (some 45)) (v := ?_) rfl rfl (by kernel_rfl) (by kernel_rfl) (by kernel_rfl) (fun _ _ _ h => h) (Or.inl ⟨by rfl, ?_⟩) (by first | assumption | rfl | trivial) ?_
        rotate_left 1
        · (intro w hSw; (try dsimp only at hSw); (try subst hSw); go_simp; try with_reducible rfl)
        simp only [Act.put, List.setIfInBounds_toArray, List.set_cons_zero, List.set_cons_succ]
        refine held_take (i := 11) (d := (some 46)) (v := ?_) rfl rfl (by kernel_rfl) (by kernel_rfl) (by kernel_rfl) (fun _ _ _ h => h) (Or.inl ⟨by rfl, ?_⟩) (by first | assumption | rfl | trivial) ?_
        rotate_left 1
        · (intro w hSw; (try dsimp only at hSw); (try subst hSw); go_simp; try with_reducible rfl)
        simp only [Act.put, List.setIfInBounds_toArray, List.set_cons_zero, List.set_cons_succ]
        have Z7 := hide (SM.out _ ⟨op4, nm4, vl4, va4, vn4, vc4, ka4, kn4, kc4⟩ x7 S7.out K7.out)
        dsimp only at Z7
        refine held_next (i := 12) (by kernel_rfl) rfl (by rfl) (fun K hK => ?_)
        go_simp
        with_reducible refine Z7.out.mono ?_
        rintro e x8 ⟨rfl, k8⟩
        have hS8 : (convert 38 9 (.slice a3 NL e3)).run Try.prog x8 = .ok (.string X) x8 ∧ (convert 38 9 (.slice a n cap)).run Try.prog x8 = .ok (.string X1) x8 ∧ (x8.cell? ⟨w.heap.size, 0, none⟩ = some (.int .i64 op) ∧ x8.cell? ⟨w.heap.size, 1, none⟩ = some (.string nm) ∧ x8.cell? ⟨w.heap.size, 2, none⟩ = some (.string vl) ∧ x8.cell? ⟨w.heap.size, 3, none⟩ = some (.slice va vn vc) ∧ x8.cell? ⟨w.heap.size, 4, none⟩ = some (.slice ka kn kc)) ∧ (x8.cell? ⟨gy, 0, none⟩ = some (.int .i64 op4) ∧ x8.cell? ⟨gy, 1, none⟩ = some (.string nm4) ∧ x8.cell? ⟨gy, 2, none⟩ = some (.string vl4) ∧ x8.cell? ⟨gy, 3, none⟩ = some (.slice va4 vn4 vc4) ∧ x8.cell? ⟨gy, 4, none⟩ = some (.slice ka4 kn4 kc4)) ∧ (convert 38 9 (.slice a7 L e7)).run Try.prog x8 = .ok (.string X2) x8 := ⟨F1.out _ (R7.out.below k8 (Nat.le_refl _)), F2.out _ (RB7.out.below k8 (Nat.le_refl _)), (B7.out.block (k8.block _ B7.out.lt)).five, (Y7.out.block (k8.block _ Y7.out.lt)).five, F3.out _ _ _ _ (O7.out.below k8 (Nat.le_refl _))⟩
        have K8 : Hid (Below w.heap.size w x8) := bel_to K7.out (Nat.le_refl _) k8
        clear hS7
        go_wp2_with fail
        refine hK.out _ _ hS8 ?_
        clear hK k8 SM hadd R7 RB7 B7 Y7 S7 O7 K7 Z7
        refine held_take (i := 13) (d := (some 48)) (v := ?_) rfl rfl (by kernel_rfl) (by kernel_rfl) (by kernel_rfl) (fun _ _ _ h => h) (Or.inl ⟨by rfl, ?_⟩) (by first | assumption | rfl | trivial) ?_
        rotate_left 1
        · (intro w hSw; (try dsimp only at hSw); (try subst hSw); go_simp; try with_reducible rfl)
        simp only [Act.put, List.setIfInBounds_toArray, List.set_cons_zero, List.set_cons_succ]
        refine held_take (i := 14) (d := (some 49)) (v := ?_) rfl rfl (by kernel_rfl) (by kernel_rfl) (by kernel_rfl) (fun _ _ _ h => h) (Or.inl ⟨by rfl, ?_⟩) (by first | assumption | rfl | trivial) ?_
        rotate_left 1
        · (intro w hSw; (try dsimp only at hSw); (try subst hSw); go_simp; try with_reducible rfl)
        simp only [Act.put, List.setIfInBounds_toArray, List.set_cons_zero, List.set_cons_succ]
        refine held_take (i := 15) (d := (some 50)) (v := ?_) rfl rfl (by kernel_rfl) (by kernel_rfl) (by kernel_rfl) (fun _ _ _ h => h) (Or.inl ⟨by rfl, ?_⟩) (by first | assumption | rfl | trivial) ?_
        rotate_left 1
        · (intro w hSw; (try dsimp only at hSw); (try subst hSw); go_simp; try with_reducible rfl)
        simp only [Act.put, List.setIfInBounds_toArray, List.set_cons_zero, List.set_cons_succ]
        refine held_take (i := 16) (d := (some 51)) (v := ?_) rfl rfl (by kernel_rfl) (by kernel_rfl) (by kernel_rfl) (fun _ _ _ h => h) (Or.inl ⟨by rfl, ?_⟩) (by first | assumption | rfl | trivial) ?_
        rotate_left 1
        · (intro w hSw; (try dsimp only at hSw); (try subst hSw); go_simp; try with_reducible rfl)
        simp only [Act.put, List.setIfInBounds_toArray, List.set_cons_zero, List.set_cons_succ]
        refine held_take (i := 17) (d := (some 52)) (v := ?_) rfl rfl (by kernel_rfl) (by kernel_rfl) (by kernel_rfl) (fun _ _ _ h => h) (Or.inl ⟨by rfl, ?_⟩) (by first | assumption | rfl | trivial) ?_
        rotate_left 1
        · (intro w hSw; (try dsimp only at hSw); (try subst hSw); go_simp; try with_reducible rfl)
        simp only [Act.put, List.setIfInBounds_toArray, List.set_cons_zero, List.set_cons_succ]
        refine held_take (i := 18) (d := (some 53)) (v := ?_) rfl rfl (by kernel_rfl) (by kernel_rfl) (by kernel_rfl) (fun _ _ _ h => h) (Or.inl ⟨by rfl, ?_⟩) (by first | assumption | rfl | trivial) ?_
        rotate_left 1
        · (intro w hSw; (try dsimp only at hSw); (try subst hSw); go_simp; try with_reducible rfl)
        simp only [Act.put, List.setIfInBounds_toArray, List.set_cons_zero, List.set_cons_succ]
        refine held_take (i := 19) (d := (some 54)) (v := ?_) rfl rfl (by kernel_rfl) (by kernel_rfl) (by kernel_rfl) (fun _ _ _ h => h) (Or.inl ⟨by rfl, ?_⟩) (by first | assumption | rfl | trivial) ?_
        rotate_left 1
        · (intro w hSw; (try dsimp only at hSw); (try subst hSw); go_simp; try with_reducible rfl)
        simp only [Act.put, List.setIfInBounds_toArray, List.set_cons_zero, List.set_cons_succ]
        refine held_take (i := 20) (d := (some 55)) (v := ?_) rfl rfl (by kernel_rfl) (by kernel_rfl) (by kernel_rfl) (fun _ _ _ h => h) (Or.inl ⟨by rfl, ?_⟩) (by first | assumption | rfl | trivial) ?_
        rotate_left 1
        · (intro w hSw; (try dsimp only at hSw); (try subst hSw); go_simp; try with_reducible rfl)
        simp only [Act.put, List.setIfInBounds_toArray, List.set_cons_zero, List.set_cons_succ]
        refine held_take (i := 21) (d := (some 56)) (v := ?_) rfl rfl (by kernel_rfl) (by kernel_rfl) (by kernel_rfl) (fun _ _ _ h => h) (Or.inl ⟨by rfl, ?_⟩) (by first | assumption | rfl | trivial) ?_
        rotate_left 1
        · (intro w hSw; (try dsimp only at hSw); (try subst hSw); go_simp; try with_reducible rfl)
        simp only [Act.put, List.setIfInBounds_toArray, List.set_cons_zero, List.set_cons_succ]
        refine held_take (i := 22) (d := (some 57)) (v := ?_) rfl rfl (by kernel_rfl) (by kernel_rfl) (by kernel_rfl) (fun _ _ _ h => h) (Or.inl ⟨by rfl, ?_⟩) (by first | assumption | rfl | trivial) ?_
        rotate_left 1
        · (intro w hSw; (try dsimp only at hSw); (try subst hSw); go_simp; try with_reducible rfl)
        simp only [Act.put, List.setIfInBounds_toArray, List.set_cons_zero, List.set_cons_succ]
        refine held_take (i := 23) (d := (some 58)) (v := ?_) rfl rfl (by kernel_rfl) (by kernel_rfl) (by kernel_rfl) (fun _ _ _ h => h) (Or.inl ⟨by rfl, ?_⟩) (by first | assumption | rfl | trivial) ?_
        rotate_left 1
        · (intro w hSw; (try dsimp only at hSw); (try subst hSw); go_simp; try with_reducible rfl)
        simp only [Act.put, List.setIfInBounds_toArray, List.set_cons_zero, List.set_cons_succ]
        refine held_take (i := 24) (d := (some 59)) (v := ?_) rfl rfl (by kernel_rfl) (by kernel_rfl) (by kernel_rfl) (fun _ _ _ h => h) (Or.inl ⟨by rfl, ?_⟩) (by first | assumption | rfl | trivial) ?_
        rotate_left 1
        · (intro w hSw; (try dsimp only at hSw); (try subst hSw); go_simp; try with_reducible rfl)
        simp only [Act.put, List.setIfInBounds_toArray, List.set_cons_zero, List.set_cons_succ]
        refine wpAnyH_done (by kernel_rfl) ?_ _
        clear hS8
        go_wp2
        go_meet
        case rel => exact K8.out
      · rw [show chkM m = false by simpa using hc]
        go_wp2
        go_meet
        case rel => exact L2.out
    case rest =>
      have RBc := hide (R.out.below hcut.out (Nat.le_refl _))
      have Kc := hcut
      clear L2 hcut B2 ht
      have C5 := hide (bytes_any a n cap bs wc RBc.out HN.out (by omega))
      go_wp2_with fail
      with_reducible refine C5.out.mono ?_
      rintro e x6 ⟨a6, e6, rfl, o6, k6⟩
      have p6 := o6.capped.1
      have C6 := hide (getM_any a6 n e6 bs p x6 wp p6 (o6.row (by omega) (fits_wf HZ.out)))
      have K6 : Hid (Below w.heap.size w x6) := bel_to Kc.out (Nat.le_refl _) k6
      clear o6 k6 C5 RBc Kc
      have NN := hide (fun (W : World) (K : Below w.heap.size w W) => rget_any p W.heap.size a n cap bs w (W.alloc (.cells #[.slice a n cap, .int .i64 p, .bool false] 46)) wp hcap R.out K.size (K.alloc K.size _) (rb_new W a n cap p))
      rw [getZ_one HZ.out] at NN
      cases hgg : getZ bs false p with
      | none =>
        rw [hgg] at C6 NN
        clear hgg wp
        go_wp2_with fail
        with_reducible refine C6.out.mono ?_
        rintro e x7 ⟨k7, g7⟩
        obtain rfl : e = .returned (.tuple #[.agg #[.int .i64 0, .string ⟨#[]⟩, .string ⟨#[]⟩, .slice none 0 0, .slice none 0 0], .int .i64 0, .bool false]) := g7
        obtain ⟨x8, hx8⟩ : ∃ x8, Hid (x7.alloc (.cells #[.int .i64 0, .string ⟨#[]⟩, .string ⟨#[]⟩, .slice none 0 0, .slice none 0 0] 25) = x8) := ⟨_, rfl⟩
        have A8 : Hid (Below x7.heap.size x7 x8) := by rw [← hx8.out]; exact (Below.refl _ _).alloc (Nat.le_refl _) _
        have Y8 : Hid (BoxM x8 x7.heap.size hm0) := by rw [← hx8.out]; exact boxM_new x7 hm0
        have K8 : Hid (Below w.heap.size w x8) := bel_to (bel_to K6.out (Nat.le_refl _) k7) (Nat.le_refl _) A8.out
        clear k7 C6 K6 A8
        go_upto_region 9 with fail
        rw [hx8.out]
        clear hx8
        have N8 := hide (NN.out x8 K8.out)
        clear NN
        generalize x7.heap.size = gy at *
        go_wp2_with fail
        with_reducible refine N8.out.mono ?_
        rintro e x9 ⟨k9, ⟨op9, nm9, vl9, va9, vn9, vc9, ka9, kn9, kc9⟩, rfl, p9, hrb⟩
        dsimp only
        obtain ⟨x10, hx10⟩ : ∃ x10, Hid (x9.alloc (.cells #[.int .i64 op9, .string nm9, .string vl9, .slice va9 vn9 vc9, .slice ka9 kn9 kc9] 25) = x10) := ⟨_, rfl⟩
        have A10 : Hid (Below x9.heap.size x9 x10) := by rw [← hx10.out]; exact (Below.refl _ _).alloc (Nat.le_refl _) _
        have B9 := chM_old k9
        have K10 : Hid (Below w.heap.size w x10) := bel_to (bel_to K8.out (Nat.le_refl _) B9) (Nat.le_refl _) A10.out
        have Y9 := hide (Y8.out.block (B9.block _ Y8.out.lt))
        have Y10 := hide (Y9.out.block (A10.out.block _ Y9.out.lt))
        have RB10 := hide (hrb.keep (A10.out.block _ hrb.lt'))
        clear k9 hrb N8 B9 Y8 Y9 K8 A10
        go_upto_region 11 with fail
        rw [hx10.out]
        clear hx10
        obtain ⟨_, d1, d2, _⟩ := RB10.out.cell
        obtain ⟨y0, y1, y2, y3, y4, _⟩ := Y10.out.all
        dsimp only [hm0] at y0 y1 y2 y3 y4
        have SM := hide (same_any zeroM (fun _ => True) hm0 zeroM (fun _ => True) hm0 x10 (seeM_zero _ _) (seeM_zero _ _))
        rw [sameB_self] at SM
        dsimp only [hm0] at SM
        clear RB10 Y10
        go_wp2_with fail
        with_reducible refine SM.out.mono ?_
        rintro e x11 ⟨rfl, k11⟩
        have K11 : Hid (Below w.heap.size w x11) := bel_to K10.out (Nat.le_refl _) k11
        clear k11 d1 d2 y0 y1 y2 y3 y4 SM K10
        go_wp2_with fail
        with_reducible refine (AW.out _).mono ?_
        rintro e x12 ⟨rfl, k12⟩
        have K12 := hide (bel_to K11.out (Nat.le_refl _) k12)
        clear k12
        go_wp2
        go_ret
        exact ⟨rfl, K12.out⟩
      | some r =>
        obtain ⟨t, nx⟩ := r
        rw [hgg] at C6 NN
        clear hgg wp
        have tx : (nx == nx) = true := by simp
        go_wp2_with fail
        with_reducible refine C6.out.mono ?_
        rintro e x7 ⟨k7, g7⟩
        obtain ⟨⟨op4, nm4, vl4, va4, vn4, vc4, ka4, kn4, kc4⟩, rfl, s7⟩ : ∃ h : Hm, e = .returned (.tuple #[.agg #[.int .i64 h.op, .string h.nm, .string h.vl, .slice h.va h.vn h.vc, .slice h.ka h.kn h.kc], .int .i64 nx, .bool true]) ∧ SeeM (fun b => x6.heap.size ≤ b) x7 t h := g7
        dsimp only
        obtain ⟨x8, hx8⟩ : ∃ x8, Hid (x7.alloc (.cells #[.int .i64 op4, .string nm4, .string vl4, .slice va4 vn4 vc4, .slice ka4 kn4 kc4] 25) = x8) := ⟨_, rfl⟩
        have A8 : Hid (Below x7.heap.size x7 x8) := by rw [← hx8.out]; exact (Below.refl _ _).alloc (Nat.le_refl _) _
        have Y8 : Hid (BoxM x8 x7.heap.size ⟨op4, nm4, vl4, va4, vn4, vc4, ka4, kn4, kc4⟩) := by rw [← hx8.out]; exact boxM_new x7 ⟨op4, nm4, vl4, va4, vn4, vc4, ka4, kn4, kc4⟩
        have K8 : Hid (Below w.heap.size w x8) := bel_to (bel_to K6.out (Nat.le_refl _) k7) (Nat.le_refl _) A8.out
        have S8 := hide (s7.below A8.out)
        clear k7 s7 C6 K6 A8
        go_upto_region 9 with fail
        rw [hx8.out]
        clear hx8
        have N8 := hide (NN.out x8 K8.out)
        clear NN
        generalize x7.heap.size = gy at *
        go_wp2_with fail
        with_reducible refine N8.out.mono ?_
        rintro e x9 ⟨k9, ⟨op9, nm9, vl9, va9, vn9, vc9, ka9, kn9, kc9⟩, rfl, hrb, s9⟩
        dsimp only
        obtain ⟨x10, hx10⟩ : ∃ x10, Hid (x9.alloc (.cells #[.int .i64 op9, .string nm9, .string vl9, .slice va9 vn9 vc9, .slice ka9 kn9 kc9] 25) = x10) := ⟨_, rfl⟩
        have A10 : Hid (Below x9.heap.size x9 x10) := by rw [← hx10.out]; exact (Below.refl _ _).alloc (Nat.le_refl _) _
        have Z10 : Hid (BoxM x10 x9.heap.size ⟨op9, nm9, vl9, va9, vn9, vc9, ka9, kn9, kc9⟩) := by rw [← hx10.out]; exact boxM_new x9 ⟨op9, nm9, vl9, va9, vn9, vc9, ka9, kn9, kc9⟩
        have B9 := chM_old k9
        have K10 : Hid (Below w.heap.size w x10) := bel_to (bel_to K8.out (Nat.le_refl _) B9) (Nat.le_refl _) A10.out
        have Y9 := hide (Y8.out.block (B9.block _ Y8.out.lt))
        have Y10 := hide (Y9.out.block (A10.out.block _ Y9.out.lt))
        have RB10 := hide (hrb.keep (A10.out.block _ hrb.lt'))
        have SM := hide (same_any t _ ⟨op4, nm4, vl4, va4, vn4, vc4, ka4, kn4, kc4⟩ t _ ⟨op9, nm9, vl9, va9, vn9, vc9, ka9, kn9, kc9⟩ x10 ((S8.out.below B9).below A10.out) (s9.below A10.out))
        rw [sameB_self] at SM
        dsimp only at SM
        clear k9 hrb s9 N8 B9 Y8 Y9 K8 A10 S8
        go_upto_region 11 with fail
        rw [hx10.out]
        clear hx10
        generalize x9.heap.size = gz at *
        obtain ⟨_, d1, d2, _⟩ := RB10.out.cell
        obtain ⟨y0, y1, y2, y3, y4, _⟩ := Y10.out.all
        obtain ⟨z0, z1, z2, z3, z4, _⟩ := Z10.out.all
        dsimp only at y0 y1 y2 y3 y4 z0 z1 z2 z3 z4
        go_wp2_with fail
        with_reducible refine SM.out.mono ?_
        rintro e x11 ⟨rfl, k11⟩
        have K11 : Hid (Below w.heap.size w x11) := bel_to K10.out (Nat.le_refl _) k11
        obtain ⟨_, f1, f2, _⟩ := (RB10.out.keep (k11.block _ RB10.out.lt')).cell
        clear k11 d1 d2 y0 y1 y2 y3 y4 z0 z1 z2 z3 z4 SM K10 RB10 Y10 Z10
        go_wp2_with fail
        with_reducible refine (AW.out _).mono ?_
        rintro e x12 ⟨rfl, k12⟩
        have K12 := hide (bel_to K11.out (Nat.le_refl _) k12)
        clear k12
        go_wp2
        go_ret
        exact ⟨rfl, K12.out⟩
end Go.Proofs.Ythebcmkainplnaa
