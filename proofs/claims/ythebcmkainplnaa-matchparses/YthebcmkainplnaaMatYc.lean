/-
  What the document's reader of a matcher's text has in memory: the reader, the count, the boxes, the lists that grow; what its calls leave of it.
  Conditions: as each theorem says.
-/
import Derived.Test.YthebcmkainplnaaMatYa
import Derived.Test.YthebcmkainplnaaLabHv
import Derived.Test.YthebcmkainplnaaMatTz
import Derived.Test.YthebcmkainplnaaMatT
namespace Go.Proofs.Ythebcmkainplnaa
open Go.RowKit
set_option maxRecDepth 20000

theorem is_yes {s : ByteArray} {k : Nat} {c : UInt8} (h : isS s k false c = true) : tks [c] (s.toList.drop k) = some (s.toList.drop (k + 1)) ∧ k + 1 ≤ s.size := by
  unfold isS at h
  simp only [Bool.not_false, Bool.true_and, beq_iff_eq] at h
  have hl : k < s.toList.length := (List.getElem?_eq_some_iff.1 h).1
  rw [ba_len] at hl
  have e : s.toList.drop k = c :: s.toList.drop (k + 1) := by
    rw [drop_byte s k hl]
    have := byte_at s k hl
    rw [h] at this
    simp only [Option.some.injEq] at this
    rw [← this]
  rw [e]
  exact ⟨tks_one c _, hl⟩
theorem is_no {s : ByteArray} {k : Nat} {c : UInt8} (h : isS s k false c = false) : tks [c] (s.toList.drop k) = none := by
  unfold isS at h
  simp only [Bool.not_false, Bool.true_and, beq_eq_false_iff_ne] at h
  cases hd : s.toList.drop k with
  | nil => rfl
  | cons x t =>
    refine tks_no (fun e => h ?_) _ _
    have := congrArg List.head? hd
    rw [List.head?_drop] at this
    rw [this, e]
    rfl
theorem is_bad (s : ByteArray) (k : Nat) (c : UInt8) : isS s k true c = false := rfl
theorem val_va {s : ByteArray} {k : Nat} : valR s k false = vaL (s.toList.drop k) := by
  unfold valR vaL
  cases h : isS s k false 34 with
  | true => rw [(is_yes h).1]; rfl
  | false => rw [is_no h]; rfl
theorem val_bad (s : ByteArray) (k : Nat) : valR s k true = none := rfl
theorem nmE_in (s : ByteArray) (j : Nat) (hj : j ≤ s.size) : nmE s j ≤ s.size := by
  unfold nmE
  have : ((s.toList.drop j).takeWhile nmS).length ≤ (s.toList.drop j).length := List.IsPrefix.length_le (List.takeWhile_prefix _)
  rw [List.length_drop, ba_len] at this
  omega
theorem nmE_is (s : ByteArray) (j : Nat) : s.extract j (nmE s j) = bar ((s.toList.drop j).takeWhile nmS) ∧ s.toList.drop (nmE s j) = (s.toList.drop j).drop ((s.toList.drop j).takeWhile nmS).length := by
  unfold nmE
  constructor
  · refine ba_ext ?_
    rw [bar_list, ByteArray.toList_eq, ByteArray.data_extract, Array.toList_extract, List.extract_eq_take_drop, ← ByteArray.toList_eq, Nat.add_sub_cancel_left]
    exact (List.prefix_iff_eq_take.1 (List.takeWhile_prefix _)).symm
  · rw [List.drop_drop]
/-- The reader, the count, the result's box. -/
structure RS (w u : World) (g g2 : Nat) (s : ByteArray) (k : Nat) (bad : Bool) (n : Nat) : Prop where
  sb : SB u g s k bad
  cnt : BX u g2 n
  box : BoxM u w.heap.size hm0
  ch : Ch (fun b => b = g ∨ b = g2) w u
  lt : g < w.heap.size ∧ g2 < w.heap.size ∧ g ≠ g2
theorem RS.to {w u v : World} {g g2 k k' n : Nat} {s : ByteArray} {b b' : Bool} (h : RS w u g g2 s k b n) (c : Ch (fun x => x = g) u v) (q : SB v g s k' b') : RS w v g g2 s k' b' n := by
  obtain ⟨l1, l2, l3⟩ := h.lt
  exact ⟨q, h.cnt.block (c.block _ h.cnt.lt (fun e => l3 e.symm)), h.box.block (c.block _ h.box.lt (by omega)), h.ch.trans (c.more (fun _ _ e => Or.inl e)), h.lt⟩
theorem RS.bel {w u v : World} {g g2 k n : Nat} {s : ByteArray} {b : Bool} (h : RS w u g g2 s k b n) (c : Below u.heap.size u v) : RS w v g g2 s k b n :=
  h.to ((Ch.of_below c).more (fun _ _ => False.elim)) (h.sb.keep (c.block g h.sb.lt))
/-- What read tells. -/
def RfP (res : Option (Mt × List UInt8 × Nat)) (g g2 n : Nat) (s : ByteArray) (w : World) (e : Ending) (w' : World) : Prop :=
  Ch (fun b => b = g ∨ b = g2) w w' ∧ ∃ (h : Hm) (k' : Nat), e = .returned (.agg #[.int .i64 h.op, .string h.nm, .string h.vl, .slice h.va h.vn h.vc, .slice h.ka h.kn h.kc]) ∧ k' ≤ s.size ∧ match res with
  | none => SB w' g s k' true
  | some (m, r, left) => SB w' g s k' false ∧ s.toList.drop k' = r ∧ SeeM (fun b => w.heap.size ≤ b) w' m h ∧ ∃ n' : Nat, BX w' g2 n' ∧ n' ≤ 64 ∧ 64 - n' = left ∧ n < n'
def RdF (f : Nat) : Prop := ∀ (g g2 n : Nat) (s : ByteArray) (k : Nat) (w : World), SB w g s k false → BX w g2 n → g ≠ g2 → k ≤ s.size → s.size ≤ 20000 → n ≤ 64 → 3 * (64 - n) + 1 ≤ f →
    Calls Try.prog 39 #[.pointer (some ⟨g, 0, none⟩), .pointer (some ⟨g2, 0, none⟩)] w fun e w' => RfP (lxM f (64 - n) (s.toList.drop k)) g g2 n s w e w'
/-- What is written into the result's box leaves the rest. -/
theorem ch_box2 {g g2 B : Nat} {w v : World} {h : Hm} (c : Ch (fun b => b = g ∨ b = g2) w v) (hB : w.heap.size ≤ B) : Ch (fun b => b = g ∨ b = g2) w (put5 v B h) := by
  have c5 := ch_put5 v B h
  refine ⟨c5.os.trans c.os, c5.tape.trans c.tape, c5.output.trans c.output, Nat.le_trans c.size c5.size, fun b hb hn => ?_⟩
  rw [c5.block b (Nat.lt_of_lt_of_le hb c.size) (by omega)]
  exact c.block b hb hn
theorem rf_none {w u : World} {g g2 k n n0 : Nat} {s : ByteArray} (q : RS w u g g2 s k true n) (hk : k ≤ s.size) (h : Hm) : RfP none g g2 n0 s w (.returned (.agg #[.int .i64 h.op, .string h.nm, .string h.vl, .slice h.va h.vn h.vc, .slice h.ka h.kn h.kc])) (put5 u w.heap.size h) :=
  ⟨ch_box2 q.ch (Nat.le_refl _), h, k, rfl, hk, q.sb.keep ((ch_put5 u w.heap.size h).block g q.sb.lt (by have := q.lt; omega))⟩
theorem rf_some {w u : World} {g g2 k n n0 : Nat} {s : ByteArray} {m : Mt} {r : List UInt8} {left : Nat} {h : Hm} (q : RS w u g g2 s k false n) (hk : k ≤ s.size) (hr : s.toList.drop k = r) (se : SeeM (fun b => w.heap.size + 1 ≤ b) u m h) (hn : n ≤ 64) (hl : 64 - n = left) (hn0 : n0 < n) : RfP (some (m, r, left)) g g2 n0 s w (.returned (.agg #[.int .i64 h.op, .string h.nm, .string h.vl, .slice h.va h.vn h.vc, .slice h.ka h.kn h.kc])) (put5 u w.heap.size h) := by
  have hlt := q.lt
  have c5 := ch_put5 u w.heap.size h
  exact ⟨ch_box2 q.ch (Nat.le_refl _), h, k, rfl, hk, q.sb.keep (c5.block g q.sb.lt (by omega)), hr, see_box se rfl, n, q.cnt.block (c5.block g2 q.cnt.lt (by omega)), hn, hl, hn0⟩
/-- Kids read so far, in the box at gm. -/
structure KdR (w u : World) (g g2 : Nat) (s : ByteArray) (k n gm : Nat) (op : Int) (a : Option Addr) (j c : Nat) (ks : List Mt) (hs : List Hm) : Prop where
  rs : RS w u g g2 s k false n
  mb : BoxM u gm ⟨op, ⟨#[]⟩, ⟨#[]⟩, none, 0, 0, a, j, c⟩
  own : OwnM u (gm + 1) a j c hs
  see : ∀ (i : Nat) (kd : Mt) (hd : Hm), ks[i]? = some kd → hs[i]? = some hd → SeeM (fun b => gm + 1 ≤ b ∧ (Value.slice a j c).ownBlock ≠ some b) u kd hd
  len : ks.length = j
  few : j ≤ n
  gt : w.heap.size < gm
theorem KdR.ne {w u : World} {g g2 k n gm j c : Nat} {s : ByteArray} {op : Int} {a : Option Addr} {ks : List Mt} {hs : List Hm} (h : KdR w u g g2 s k n gm op a j c ks hs) : ∀ b, (Value.slice a j c).ownBlock = some b → gm + 1 ≤ b := fun b hb => (h.own.block b hb).1
theorem KdR.to {w u v : World} {g g2 k k' n gm j c : Nat} {s : ByteArray} {op : Int} {a : Option Addr} {ks : List Mt} {hs : List Hm} (h : KdR w u g g2 s k n gm op a j c ks hs) (cc : Ch (fun x => x = g) u v) (q : SB v g s k' false) : KdR w v g g2 s k' n gm op a j c ks hs := by
  have hlt := h.rs.lt
  have hgt := h.gt
  exact ⟨h.rs.to cc q, h.mb.block (cc.block _ h.mb.lt (by omega)), h.own.ch cc (fun b hb e => by have := h.ne b hb; omega), fun i kd hd h1 h2 => (h.see i kd hd h1 h2).ch cc (fun b hb e => by omega), h.len, h.few, hgt⟩
theorem KdR.start {w u v : World} {g g2 k n : Nat} {s : ByteArray} {op : Int} (h : RS w u g g2 s k false n) (hv : u.alloc (.cells #[.int .i64 op, .string ⟨#[]⟩, .string ⟨#[]⟩, .slice none 0 0, .slice none 0 0] 25) = v) : KdR w v g g2 s k n u.heap.size op none 0 0 [] [] := by
  have hb : Below u.heap.size u v := by rw [← hv]; exact (Below.refl _ _).alloc (Nat.le_refl _) _
  refine ⟨h.bel hb, ?_, ownM_nil _ _, fun i kd hd h1 _ => by simp at h1, rfl, Nat.zero_le _, h.box.lt⟩
  rw [← hv]
  exact boxM_new u ⟨op, ⟨#[]⟩, ⟨#[]⟩, none, 0, 0, none, 0, 0⟩
theorem KdR.fin {w u : World} {g g2 k n gm j c : Nat} {s : ByteArray} {op : Int} {a : Option Addr} {ks : List Mt} {hs : List Hm} (h : KdR w u g g2 s k n gm op a j c ks hs) (hn : n ≤ 64) (ho : (Lit.int .i64 op).wf = true) : SeeM (fun b => w.heap.size + 1 ≤ b) u (.mk op .empty .empty [] ks) ⟨op, ⟨#[]⟩, ⟨#[]⟩, none, 0, 0, a, j, c⟩ := by
  have hf := h.few
  have hgt := h.gt
  have hcap := h.own.capped
  rw [seeM_iff]
  refine ⟨rfl, rfl, rfl, ⟨ho, by show (0 : Nat) ≤ _; decide, by show (0 : Nat) ≤ _; decide, Nat.le_refl _, fun _ => rfl, by show j * 88 ≤ _; omega, hcap.1, fun e => (hcap.2 e).2⟩, ⟨rfl, by show (0 : Nat) * 16 ≤ _; omega, fun x hx => (by cases hx), Or.inl rfl⟩, h.len, ?_⟩
  by_cases h0 : j = 0
  · exact Or.inl h0
  · right
    have hl := h.own.len
    have hkl := h.len
    have hx : hs[0]? = some hs[0] := List.getElem?_eq_getElem (by omega)
    obtain ⟨b, hb, hob, -⟩ := h.own.kid hx
    refine ⟨b, 0, hb, by have := h.ne b hob; omega, fun i kd hi => ?_⟩
    have hlt : i < ks.length := (List.getElem?_eq_some_iff.1 hi).1
    have hy : hs[i]? = some hs[i] := List.getElem?_eq_getElem (by omega)
    obtain ⟨b2, hb2, -, f2⟩ := h.own.kid hy
    rw [hb] at hb2
    simp only [Option.some.injEq, Addr.mk.injEq, and_true] at hb2
    subst hb2
    exact ⟨hs[i], f2, (h.see i kd _ hi hy).mono (fun b _ hb => by omega)⟩
/-- What a kid's reading leaves of the rest: the result's box, the kids' box, the kids' row. -/
structure KdQ (w v : World) (g g2 gm : Nat) (op : Int) (a : Option Addr) (j c : Nat) (hs : List Hm) : Prop where
  box : BoxM v w.heap.size hm0
  mb : BoxM v gm ⟨op, ⟨#[]⟩, ⟨#[]⟩, none, 0, 0, a, j, c⟩
  own : OwnM v (gm + 1) a j c hs
  ch : Ch (fun b => b = g ∨ b = g2) w v
  big : gm + 1 ≤ v.heap.size
theorem KdR.rest {w u v : World} {g g2 k n gm j c : Nat} {s : ByteArray} {op : Int} {a : Option Addr} {ks : List Mt} {hs : List Hm} (h : KdR w u g g2 s k n gm op a j c ks hs) (cc : Ch (fun x => x = g ∨ x = g2) u v) : KdQ w v g g2 gm op a j c hs := by
  have hlt := h.rs.lt
  have hgt := h.gt
  exact ⟨h.rs.box.block (cc.block _ h.rs.box.lt (by omega)), h.mb.block (cc.block _ h.mb.lt (by omega)), h.own.ch cc (fun b hb e => by have := h.ne b hb; omega), h.rs.ch.trans cc, by have := h.mb.lt; have := cc.size; omega⟩
theorem KdQ.bel {w v v' : World} {g g2 gm j c : Nat} {op : Int} {a : Option Addr} {hs : List Hm} (h : KdQ w v g g2 gm op a j c hs) (b : Below v.heap.size v v') : KdQ w v' g g2 gm op a j c hs :=
  ⟨h.box.block (b.block _ h.box.lt), h.mb.block (b.block _ h.mb.lt), h.own.below b (Nat.le_refl _), h.ch.trans ((Ch.of_below b).more (fun _ _ => False.elim)), Nat.le_trans h.big b.size⟩
/-- The kids' row has grown by one, and the kids' box says so. -/
theorem KdQ.push {w v v4 : World} {g g2 gm j c g' c' : Nat} {op : Int} {a : Option Addr} {hs : List Hm} {h' : Hm} (h : KdQ w v g g2 gm op a j c hs) (hgt : w.heap.size < gm) (o : OwnM v4 (gm + 1) (some ⟨g', 0, none⟩) (j + 1) c' (hs ++ [h'])) (c4 : Ch (fun b => (Value.slice a j c).ownBlock = some b) v v4) :
    KdQ w (v4.setCell ⟨gm, 4, none⟩ (.slice (some ⟨g', 0, none⟩) (j + 1) c')) g g2 gm op (some ⟨g', 0, none⟩) (j + 1) c' (hs ++ [h']) := by
  have hne : ∀ b, (Value.slice a j c).ownBlock = some b → gm + 1 ≤ b := fun b hb => (h.own.block b hb).1
  have cs := ch_set v4 gm 4 (.slice (some ⟨g', 0, none⟩) (j + 1) c')
  refine ⟨(h.box.block (c4.block _ h.box.lt (fun e => by have := hne _ e; omega))).block (cs.block _ (by have := h.box.lt; have := c4.size; omega) (by omega)), (h.mb.block (c4.block _ h.mb.lt (fun e => by have := hne _ e; omega))).kids _ _ _, o.ch cs (fun b hb e => by have := (o.block b hb).1; omega), ?_, by have := h.big; have := c4.size; have := cs.size; omega⟩
  refine ⟨cs.os.trans (c4.os.trans h.ch.os), cs.tape.trans (c4.tape.trans h.ch.tape), cs.output.trans (c4.output.trans h.ch.output), Nat.le_trans h.ch.size (Nat.le_trans c4.size cs.size), fun b hb hn => ?_⟩
  rw [cs.block b (Nat.lt_of_lt_of_le hb (Nat.le_trans h.ch.size c4.size)) (by omega), c4.block b (Nat.lt_of_lt_of_le hb h.ch.size) (fun e => by have := hne b e; omega)]
  exact h.ch.block b hb hn
/-- One kid more. -/
theorem KdR.push {w u v vb v4 : World} {g g2 k k' n n' gm j c g' c' : Nat} {s : ByteArray} {op : Int} {a : Option Addr} {ks : List Mt} {hs : List Hm} {kd : Mt} {h' : Hm} (h : KdR w u g g2 s k n gm op a j c ks hs) (cc : Ch (fun x => x = g ∨ x = g2) u v) (b : Below v.heap.size v vb) (q : SB v g s k' false) (cn : BX v g2 n') (hn : n < n') (se : SeeM (fun b => u.heap.size ≤ b) v kd h')
    (o : OwnM v4 (gm + 1) (some ⟨g', 0, none⟩) (j + 1) c' (hs ++ [h'])) (c4 : Ch (fun b => (Value.slice a j c).ownBlock = some b) vb v4) (hg : (Value.slice a j c).ownBlock = some g' ∨ vb.heap.size ≤ g') :
    KdR w (v4.setCell ⟨gm, 4, none⟩ (.slice (some ⟨g', 0, none⟩) (j + 1) c')) g g2 s k' n' gm op (some ⟨g', 0, none⟩) (j + 1) c' (ks ++ [kd]) (hs ++ [h']) := by
  have hlt := h.rs.lt
  have hgt := h.gt
  have hne := h.ne
  have hl := h.own.len
  have hkl := h.len
  have hfew := h.few
  have Q := ((h.rest cc).bel b).push hgt o c4
  have cs := ch_set v4 gm 4 (.slice (some ⟨g', 0, none⟩) (j + 1) c')
  have hvb : v.heap.size ≤ vb.heap.size := b.size
  have old : ∀ x, x < v.heap.size → x ≠ gm → (Value.slice a j c).ownBlock ≠ some x → (v4.setCell ⟨gm, 4, none⟩ (.slice (some ⟨g', 0, none⟩) (j + 1) c')).heap[x]? = v.heap[x]? := fun x hx h1 h2 => by
    rw [cs.block x (Nat.lt_of_lt_of_le hx (Nat.le_trans hvb c4.size)) h1, c4.block x (Nat.lt_of_lt_of_le hx hvb) h2]
    exact b.block x hx
  refine ⟨⟨q.keep (old g q.lt (by omega) (fun e => by have := hne _ e; omega)), cn.block (old g2 cn.lt (by omega) (fun e => by have := hne _ e; omega)), Q.box, Q.ch, hlt⟩, Q.mb, Q.own, fun i kd' hd h1 h2 => ?_, by simp [hkl], by omega, hgt⟩
  by_cases hi : i < j
  · rw [List.getElem?_append_left (by omega)] at h1 h2
    have s1 := (h.see i kd' hd h1 h2).ch cc (fun b hb e => by omega)
    exact ((see_pushed (s1.below b) (fun b _ hb => hb) c4 hg).ch cs (fun b hb e => by omega))
  · have hi2 : i < (hs ++ [h']).length := (List.getElem?_eq_some_iff.1 h2).1
    simp only [List.length_append, List.length_cons, List.length_nil] at hi2
    have : i = j := by omega
    subst this
    rw [List.getElem?_append_right (by omega), hl] at h2
    rw [List.getElem?_append_right (by omega), hkl] at h1
    simp at h1 h2
    subst h1 h2
    have hug : gm < u.heap.size := h.mb.lt
    refine ((see_pushed (se.below b) (fun b _ hb => ⟨by omega, fun e => ?_⟩) c4 hg).ch cs (fun b hb e => by omega))
    have := (h.own.block b e).2
    omega
end Go.Proofs.Ythebcmkainplnaa
