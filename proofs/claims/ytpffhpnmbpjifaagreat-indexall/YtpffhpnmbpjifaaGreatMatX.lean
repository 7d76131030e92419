/-
  The laws' own copy of a matcher: a contract, for every world: all of it lies in new memory.
  Conditions: the matcher is small (Tiny).
-/
import Derived.Test.YtpffhpnmbpjifaaGreatMatR
import Derived.Test.YtpffhpnmbpjifaaGreatMatT
namespace Go.Proofs.YtpffhpnmbpjifaaGreat
open Go.RowKit
set_option maxRecDepth 20000

/-- A matcher's box. -/
def BoxM (w : World) (g : Nat) (h : Hm) : Prop := w.heap[g]? = some (.cells #[.int .i64 h.op, .string h.nm, .string h.vl, .slice h.va h.vn h.vc, .slice h.ka h.kn h.kc] 26 (0, 0))
def put5 (w : World) (g : Nat) (h : Hm) : World := ((((w.setCell ⟨g, 0, none⟩ (.int .i64 h.op)).setCell ⟨g, 1, none⟩ (.string h.nm)).setCell ⟨g, 2, none⟩ (.string h.vl)).setCell ⟨g, 3, none⟩ (.slice h.va h.vn h.vc)).setCell ⟨g, 4, none⟩ (.slice h.ka h.kn h.kc)
section
variable {w w' : World} {g : Nat} {h : Hm}
theorem BoxM.all (q : BoxM w g h) : w.cell? ⟨g, 0, none⟩ = some (.int .i64 h.op) ∧ w.cell? ⟨g, 1, none⟩ = some (.string h.nm) ∧ w.cell? ⟨g, 2, none⟩ = some (.string h.vl) ∧ w.cell? ⟨g, 3, none⟩ = some (.slice h.va h.vn h.vc) ∧ w.cell? ⟨g, 4, none⟩ = some (.slice h.ka h.kn h.kc) ∧ ∀ o, w.frozen? ⟨g, o, none⟩ = false := by
  unfold BoxM at q
  exact ⟨by simp [World.cell?, q], by simp [World.cell?, q], by simp [World.cell?, q], by simp [World.cell?, q], by simp [World.cell?, q], fun o => by simp [World.frozen?, q]⟩
theorem BoxM.lt (q : BoxM w g h) : g < w.heap.size := by
  unfold BoxM at q
  exact (Array.getElem?_eq_some_iff.1 q).1
theorem BoxM.block (q : BoxM w g h) (e : w'.heap[g]? = w.heap[g]?) : BoxM w' g h := by
  unfold BoxM at *
  rw [e]; exact q
theorem BoxM.vals (q : BoxM w g h) (a : Option Addr) (n c : Nat) : BoxM (w.setCell ⟨g, 3, none⟩ (.slice a n c)) g ⟨h.op, h.nm, h.vl, a, n, c, h.ka, h.kn, h.kc⟩ := by
  unfold BoxM at *
  simp [World.setCell, Array.getElem?_modify, q]
theorem BoxM.kids (q : BoxM w g h) (a : Option Addr) (n c : Nat) : BoxM (w.setCell ⟨g, 4, none⟩ (.slice a n c)) g ⟨h.op, h.nm, h.vl, h.va, h.vn, h.vc, a, n, c⟩ := by
  unfold BoxM at *
  simp [World.setCell, Array.getElem?_modify, q]
theorem BoxM.put {h' : Hm} (q : BoxM w g h') (h : Hm) : BoxM (put5 w g h) g h := by
  unfold BoxM put5 at *
  simp [World.setCell, Array.getElem?_modify, q]
theorem boxM_new (w : World) (h : Hm) : BoxM (w.alloc (.cells #[.int .i64 h.op, .string h.nm, .string h.vl, .slice h.va h.vn h.vc, .slice h.ka h.kn h.kc] 26)) w.heap.size h := heap_alloc_new w _
theorem ch_put5 (w : World) (g : Nat) (h : Hm) : Ch (fun k => k = g) w (put5 w g h) :=
  ((((ch_set w g 0 _).trans (ch_set _ g 1 _)).trans (ch_set _ g 2 _)).trans (ch_set _ g 3 _)).trans (ch_set _ g 4 _)
end
/-- The row's own block may have turned, or it lies anew: a matcher apart from it stays, apart from it. -/
theorem see_pushed {S : Nat → Prop} {w w' : World} {m : Mt} {h : Hm} {B g' : Nat} {own : Option Nat} (q : SeeM S w m h) (hs : ∀ b, b < w.heap.size → S b → B ≤ b ∧ own ≠ some b) (c : Ch (fun k => own = some k) w w') (hg : own = some g' ∨ w.heap.size ≤ g') :
    SeeM (fun b => B ≤ b ∧ some g' ≠ some b) w' m h := by
  have q1 : SeeM (fun b => (B ≤ b ∧ own ≠ some b) ∧ some g' ≠ some b) w m h := q.mono fun b hb hS => by
    have h1 := hs b hb hS
    refine ⟨h1, fun e => ?_⟩
    simp only [Option.some.injEq] at e
    subst e
    rcases hg with hg | hg
    · exact h1.2 hg
    · omega
  exact (q1.ch c (fun k hk => hk.1.2)).mono (fun b _ hb => ⟨hb.1.1, hb.2⟩)
theorem tx_pushed {S : Nat → Prop} {w w' : World} {a : Option Addr} {n : Nat} {ss : List ByteArray} {B g' : Nat} {own : Option Nat} (q : TxR S w a n ss) (hs : ∀ b, b < w.heap.size → S b → B ≤ b ∧ own ≠ some b) (c : Ch (fun k => own = some k) w w') (hg : own = some g' ∨ w.heap.size ≤ g') :
    TxR (fun b => B ≤ b ∧ some g' ≠ some b) w' a n ss := by
  have q1 : TxR (fun b => (B ≤ b ∧ own ≠ some b) ∧ some g' ≠ some b) w a n ss := q.mono fun b hb hS => by
    have h1 := hs b hb hS
    refine ⟨h1, fun e => ?_⟩
    simp only [Option.some.injEq] at e
    subst e
    rcases hg with hg | hg
    · exact h1.2 hg
    · omega
  have q2 := q1.ch c (fun k hk => hk.1.2)
  exact q2.mono (fun b _ hb => ⟨hb.1.1, hb.2⟩)
theorem tinyKs_mem : ∀ {ks : List Mt} {d n n' : Nat}, tinyKs ks d n = some n' → ∀ k ∈ ks, ∃ a b, tinyF k d a = some b
  | x :: t, d, n, n', h, k, hk => by
    rw [tinyKs] at h
    cases hx : tinyF x d n with
    | none => rw [hx] at h; cases h
    | some y =>
      rw [hx] at h
      rcases List.mem_cons.1 hk with rfl | hk
      · exact ⟨n, y, hx⟩
      · exact tinyKs_mem h k hk
theorem tinyF_some {m : Mt} {d n n' : Nat} (h : tinyF m d n = some n') : d ≤ 11 ∧ m.vs.length ≤ 40 ∧ tinyKs m.ks (d + 1) (n + 1) = some n' := by
  rw [tinyF_eq] at h
  split at h
  · cases h
  · exact ⟨by omega, by omega, h⟩
theorem tinyKs_len : ∀ {ks : List Mt} {d n n' : Nat}, tinyKs ks d n = some n' → n + ks.length ≤ n'
  | [], d, n, n', h => by simp [tinyKs] at h; simp; omega
  | x :: t, d, n, n', h => by
    rw [tinyKs] at h
    cases hx : tinyF x d n with
    | none => rw [hx] at h; cases h
    | some y =>
      rw [hx] at h
      have h1 := tiny_up x d n y hx
      have h2 := tinyKs_len h
      simp only [List.length_cons]
      omega
/-- Its kids as they are copied, so far. -/
structure Cop (w wr : World) (m : Mt) (h1 h0 : Hm) (j : Nat) (ar : Option Addr) (cr : Nat) (hs : List Hm) : Prop where
  own : OwnM wr (w.heap.size + 2) ar j cr hs
  see : ∀ (i : Nat) (kd : Mt) (hd : Hm), m.ks[i]? = some kd → hs[i]? = some hd → SeeM (fun b => w.heap.size + 2 ≤ b ∧ (Value.slice ar j cr).ownBlock ≠ some b) wr kd hd
  box : BoxM wr w.heap.size h1
  res : BoxM wr (w.heap.size + 1) h0
  tx : TxR (fun b => w.heap.size + 2 ≤ b ∧ (Value.slice ar j cr).ownBlock ≠ some b) wr h1.va h1.vn m.vs
  low : Below w.heap.size w wr
  size : w.heap.size + 2 ≤ wr.heap.size
/-- One more. -/
theorem Cop.push {w wr w2 w4 : World} {m kd : Mt} {h1 h0 h' : Hm} {j : Nat} {ar : Option Addr} {cr g' c' : Nat} {hs : List Hm} {t : TypeId} (q : Cop w wr m h1 h0 j ar cr hs) (hk : m.ks[j]? = some kd) (s : SeeM (fun b => wr.heap.size ≤ b) w2 kd h') (b : Below wr.heap.size wr w2)
    (o4 : OwnM w4 (w.heap.size + 2) (some ⟨g', 0, none⟩) (j + 1) c' (hs ++ [h'])) (ch4 : Ch (fun k => (Value.slice ar j cr).ownBlock = some k) (w2.alloc (.cells #[.int .i64 h'.op, .string h'.nm, .string h'.vl, .slice h'.va h'.vn h'.vc, .slice h'.ka h'.kn h'.kc] t)) w4)
    (hg : (Value.slice ar j cr).ownBlock = some g' ∨ (w2.alloc (.cells #[.int .i64 h'.op, .string h'.nm, .string h'.vl, .slice h'.va h'.vn h'.vc, .slice h'.ka h'.kn h'.kc] t)).heap.size ≤ g') : Cop w w4 m h1 h0 (j + 1) (some ⟨g', 0, none⟩) c' (hs ++ [h']) := by
  have hl := q.own.len
  have hsz := b.size
  have b3 : Below wr.heap.size wr (w2.alloc (.cells #[.int .i64 h'.op, .string h'.nm, .string h'.vl, .slice h'.va h'.vn h'.vc, .slice h'.ka h'.kn h'.kc] t)) := b.alloc hsz _
  have hbl : ∀ k, k < w.heap.size + 2 → w4.heap[k]? = wr.heap[k]? := fun k hk => by
    have hq := q.size
    rw [ch4.block k (by simp; omega) (fun e => by have := (q.own.block k e).1; omega)]
    exact b3.block k (by omega)
  refine ⟨o4, fun i kd' hd h1' h2' => ?_, q.box.block (hbl _ (by omega)), q.res.block (hbl _ (by omega)), tx_pushed ((q.tx.ch (Ch.of_below b3) (fun _ _ => id))) (fun b _ hb => hb) ch4 hg, ?_, ?_⟩
  · by_cases hi : i < j
    · rw [List.getElem?_append_left (by omega)] at h2'
      exact see_pushed ((q.see i kd' hd h1' h2').below b3) (fun b _ hb => hb) ch4 hg
    · have hi2 : i < (hs ++ [h']).length := (List.getElem?_eq_some_iff.1 h2').1
      simp only [List.length_append, List.length_cons, List.length_nil] at hi2
      have : i = j := by omega
      subst this
      rw [List.getElem?_append_right (by omega), hl] at h2'
      simp at h2'
      subst h2'
      rw [hk] at h1'
      simp only [Option.some.injEq] at h1'
      subst h1'
      refine see_pushed (s.alloc _) (fun b _ hb => ⟨by have := q.size; omega, fun e => ?_⟩) ch4 hg
      have := (q.own.block b e).2
      omega
  · exact ⟨ch4.os.trans (b3.os.trans q.low.os), ch4.tape.trans (b3.tape.trans q.low.tape), ch4.output.trans (b3.output.trans q.low.output), Nat.le_trans q.low.size (Nat.le_trans b3.size ch4.size), fun k hk => (hbl k (by omega)).trans (q.low.block k hk)⟩
  · exact Nat.le_trans q.size (Nat.le_trans b3.size ch4.size)
/-- All of them: the copy shows the matcher. -/
theorem Cop.done {w wr : World} {m : Mt} {h h1 h0 : Hm} {ar : Option Addr} {cr : Nat} {hs : List Hm} (q : Cop w wr m h1 h0 h.kn ar cr hs) (hw : HmW h) (e1 : h.op = m.op) (e2 : h.nm = m.nm) (e3 : h.vl = m.vl) (ek : m.ks.length = h.kn)
    (p1 : h1.op = h.op) (p2 : h1.nm = h.nm) (p3 : h1.vl = h.vl) (p5 : h1.vn ≤ h1.vc) (p6 : h1.va = none → h1.vc = 0) :
    SeeM (fun b => w.heap.size ≤ b) (put5 (wr.setCell ⟨w.heap.size, 4, none⟩ (.slice ar h.kn cr)) (w.heap.size + 1) ⟨h1.op, h1.nm, h1.vl, h1.va, h1.vn, h1.vc, ar, h.kn, cr⟩) m ⟨h1.op, h1.nm, h1.vl, h1.va, h1.vn, h1.vc, ar, h.kn, cr⟩ ∧
    Below w.heap.size w (put5 (wr.setCell ⟨w.heap.size, 4, none⟩ (.slice ar h.kn cr)) (w.heap.size + 1) ⟨h1.op, h1.nm, h1.vl, h1.va, h1.vn, h1.vc, ar, h.kn, cr⟩) := by
  have c : Ch (fun k => k < w.heap.size + 2 ∧ w.heap.size ≤ k) wr (put5 (wr.setCell ⟨w.heap.size, 4, none⟩ (.slice ar h.kn cr)) (w.heap.size + 1) ⟨h1.op, h1.nm, h1.vl, h1.va, h1.vn, h1.vc, ar, h.kn, cr⟩) :=
    ((ch_set wr w.heap.size 4 _).more (fun k _ e => by omega)).trans ((ch_put5 _ (w.heap.size + 1) _).more (fun k _ e => by omega))
  refine ⟨?_, ?_⟩
  · rw [seeM_iff]
    refine ⟨p1.trans e1, p2.trans e2, p3.trans e3, ⟨by show (Lit.int .i64 h1.op).wf = true; rw [p1]; exact hw.op, by show h1.nm.size ≤ _; rw [p2]; exact hw.nm, by show h1.vl.size ≤ _; rw [p3]; exact hw.vl, p5, p6, hw.kn, q.own.capped.1, fun e => (q.own.capped.2 e).2⟩, (q.tx.ch c (fun k hk => by omega)).mono (fun b _ hb => by omega), ek, ?_⟩
    by_cases h0' : h.kn = 0
    · exact Or.inl h0'
    · right
      have hl := q.own.len
      have hx : hs[0]? = some hs[0] := List.getElem?_eq_getElem (by omega)
      obtain ⟨g, rfl, hob, _⟩ := q.own.kid hx
      refine ⟨g, 0, rfl, by have := (q.own.block g hob).1; omega, fun i kd hi => ?_⟩
      have hlt : i < m.ks.length := (List.getElem?_eq_some_iff.1 hi).1
      have hy : hs[i]? = some hs[i] := List.getElem?_eq_getElem (by omega)
      obtain ⟨g2, e2', hob2, f2⟩ := q.own.kid hy
      have : g2 = g := by
        rw [hob] at hob2
        simpa using hob2.symm
      subst this
      refine ⟨hs[i], f2.block (c.block g2 f2.lt (by have := (q.own.block g2 hob).1; omega)), ?_⟩
      exact ((q.see i kd _ hi hy).ch c (fun k hk => by omega)).mono (fun b _ hb => by omega)
  · exact ⟨c.os.trans q.low.os, c.tape.trans q.low.tape, c.output.trans q.low.output, Nat.le_trans q.low.size c.size, fun k hk => (c.block k (Nat.lt_of_lt_of_le hk q.low.size) (by omega)).trans (q.low.block k hk)⟩
/-- What the copy is. -/
def CopyP (m : Mt) (w w' : World) (e : Ending) : Prop := ∃ h : Hm, e = .returned (.agg #[.int .i64 h.op, .string h.nm, .string h.vl, .slice h.va h.vn h.vc, .slice h.ka h.kn h.kc]) ∧ SeeM (fun b => w.heap.size ≤ b) w' m h ∧ Below w.heap.size w w'
def hm0 : Hm := ⟨0, ⟨#[]⟩, ⟨#[]⟩, none, 0, 0, none, 0, 0⟩

set_option maxHeartbeats 4000000 in
theorem matcher_any (m : Mt) : ∀ (S : Nat → Prop) (h : Hm) (d n n' : Nat) (w : World), SeeM S w m h → tinyF m d n = some n' →
    Calls Tryz.prog 25 #[.agg #[.int .i64 h.op, .string h.nm, .string h.vl, .slice h.va h.vn h.vc, .slice h.ka h.kn h.kc], .int .i64 d] w fun e w' => CopyP m w w' e := by
  refine Mt.ind (P := fun m => ∀ (S : Nat → Prop) (h : Hm) (d n n' : Nat) (w : World), SeeM S w m h → tinyF m d n = some n' →
    Calls Tryz.prog 25 #[.agg #[.int .i64 h.op, .string h.nm, .string h.vl, .slice h.va h.vn h.vc, .slice h.ka h.kn h.kc], .int .i64 d] w fun e w' => CopyP m w w' e) ?_ m
  intro m ih S h d n n' w q ht
  obtain ⟨op, nm, vl, va, vn, vc, ka, kn, kc⟩ := h
  have IH := hide ih
  obtain ⟨e1, e2, e3, hw, hv, hk, -⟩ := seeM_iff.1 q
  dsimp only at e1 e2 e3 hv hk ⊢
  obtain ⟨hd, hvl, hks⟩ := tinyF_some ht
  have hkl := tinyKs_len hks
  have hn2 := tiny_le m d n n' ht
  have hvn : vn ≤ 40 := by rw [← hv.1]; exact hvl
  have hkn : kn ≤ 200 := by omega
  have HKS := hide hks
  have HQ := hide q
  have HE := hide (And.intro e1 (And.intro e2 (And.intro e3 (And.intro hk hw))))
  obtain ⟨i0, hi, hz0, hz1, hz2⟩ := info_parts Tryz.infoM
  obtain ⟨i1, hj, hy0, hy1, hy2⟩ := info_parts Tryz.infoS
  obtain ⟨W0, hW⟩ : ∃ W0, Hid ((w.alloc (.cells #[.int .i64 op, .string nm, .string vl, .slice va vn vc, .slice ka kn kc] 26)).alloc (.cells #[.int .i64 0, .string ⟨#[]⟩, .string ⟨#[]⟩, .slice none 0 0, .slice none 0 0] 26) = W0) := ⟨_, rfl⟩
  have SZ0 : Hid (W0.heap.size = w.heap.size + 2) := by rw [← hW.out]; show _ = _; simp
  have B : Hid (BoxM W0 w.heap.size ⟨op, nm, vl, va, vn, vc, ka, kn, kc⟩) := by
    rw [← hW.out]
    exact (boxM_new w ⟨op, nm, vl, va, vn, vc, ka, kn, kc⟩).block (Below.heap_alloc _ _ _ (by simp))
  have A : Hid (BoxM W0 (w.heap.size + 1) hm0) := by
    rw [← hW.out]
    have := boxM_new (w.alloc (.cells #[.int .i64 op, .string nm, .string vl, .slice va vn vc, .slice ka kn kc] 26)) hm0
    rwa [show (w.alloc (.cells #[.int .i64 op, .string nm, .string vl, .slice va vn vc, .slice ka kn kc] 26)).heap.size = w.heap.size + 1 by simp] at this
  have L : Hid (Below w.heap.size w W0) := by rw [← hW.out]; exact ((Below.refl _ _).alloc (Nat.le_refl _) _).alloc (by simp) _
  have HV := hide (hv.ch (Ch.of_below L.out) (fun _ _ => id))
  have HVZ : Hid (va = none → vc = 0) := hw.vz
  clear ih q ht e1 e2 e3 hw hv hk hvl hks hkl hn2
  obtain ⟨k, hk⟩ : ∃ k, Hid (w.heap.size = k) := ⟨_, rfl⟩
  obtain ⟨b0, b1, b2, b3, b4, bf⟩ := B.out.all
  dsimp only at b0 b1 b2 b3 b4
  go_enter Tryz.func25, Tryz.ntmps25
  go_upto_region 1 with fail
  rw [hW.out]
  clear hW
  go_wp2_with (at_builtin; refine wpList_copy_texts _ rfl _ _ 23 rfl i1 Tryz.underlying23 hj hy0 hy1 hy2 rfl S va vn vc m.vs rfl HV.out HVZ.out ?_)
  intro a1 c1 w1 t1 hc1 hz1' bw1
  rw [SZ0.out] at t1 bw1
  have B1 := hide (B.out.block (bw1.block w.heap.size (by omega)))
  have A1 := hide (A.out.block (bw1.block (w.heap.size + 1) (by omega)))
  clear b0 b1 b2 b3 b4 bf
  obtain ⟨b0, b1, b2, b3, b4, bf⟩ := B1.out.all
  have bf3 := bf 3
  dsimp only at b0 b1 b2 b3 b4
  have C0 : Hid (Cop w (w1.setCell ⟨w.heap.size, 3, none⟩ (.slice a1 vn c1)) m ⟨op, nm, vl, a1, vn, c1, ka, kn, kc⟩ hm0 0 none 0 []) := by
    refine ⟨ownM_nil _ _, fun i kd hd _ h => by simp at h, B1.out.vals a1 vn c1, A1.out.block (Below.heap_setCell _ _ _ _ (by show w.heap.size + 1 ≠ w.heap.size; omega)), ?_, ?_, ?_⟩
    · exact (t1.ch (ch_set w1 w.heap.size 3 _) (fun k hk e => by omega)).mono (fun b _ hb => ⟨hb, by simp [Value.ownBlock]⟩)
    · exact (bel_to L.out (Nat.le_refl _) (by rw [SZ0.out]; exact bw1)).setCell (p := ⟨w.heap.size, 3, none⟩) (Nat.le_refl _) _
    · have := bw1.size
      have e := SZ0.out
      rw [e] at this
      simpa [World.setCell] using this
  have HCN : Hid (vn ≤ c1 ∧ (a1 = none → c1 = 0)) := ⟨hc1, hz1'⟩
  clear t1 bw1 hc1 hz1' B A L HV HVZ B1 A1 SZ0 hj hy0 hy1 hy2
  go_upto_region 2 with fail
  generalize w1.setCell ⟨w.heap.size, 3, none⟩ (.slice a1 vn c1) = u1 at C0 ⊢
  clear b0 b1 b2 b3 b4 bf bf3
  go_wp2
  go_loopw [5, 6] (fun x i wr => ∃ (j : Nat) (ar : Option Addr) (cr : Nat) (hs : List Hm), j ≤ kn ∧ i = .int .i64 j ∧ x = .slice ar j cr ∧ Hid (Cop w wr m ⟨op, nm, vl, a1, vn, c1, ka, kn, kc⟩ hm0 j ar cr hs)) (fun _ i _ => kn - (intOf i).toNat)
  case atStart => exact ⟨0, none, 0, [], by omega, rfl, rfl, C0⟩
  case round =>
    obtain ⟨j, ar, cr, hs, hj, rfl, rfl, HC⟩ := hrel
    obtain ⟨u, rfl⟩ : ∃ u, u = wr := ⟨wr, rfl⟩
    clear C0
    obtain ⟨b0, b1, b2, b3, b4, bf⟩ := HC.out.box.all
    dsimp only at b0 b1 b2 b3 b4
    have d1 : (d : Int) < 12 := by omega
    by_cases hlt : j < kn
    · obtain ⟨b, off, kd, h', e, hkd, -, q5, qk⟩ := (HQ.out.below HC.out.low).kid hlt
      obtain ⟨op', nm', vl', va', vn', vc', ka', kn', kc'⟩ := h'
      dsimp only at e
      subst e
      obtain ⟨g0, g1, g2, g3, g4⟩ := q5.all
      dsimp only at g0 g1 g2 g3 g4
      have i1 : (0 : Int) ≤ (j : Int) := by omega
      have i2 : (j : Int) < (kn : Int) := by omega
      have HX := hide hkd
      obtain ⟨x1, x2, hx⟩ := tinyKs_mem HKS.out kd (List.mem_of_getElem? hkd)
      have T := hide (IH.out kd (List.mem_of_getElem? hkd) S _ (d + 1) x1 x2 u qk hx)
      rw [show ((d + 1 : Nat) : Int) = (d : Int) + 1 from rfl] at T
      dsimp only at T
      clear hkd q5 qk hx
      go_wp2_with fail
      with_reducible refine T.out.mono ?_
      rintro e w2 ⟨⟨op2, nm2, vl2, va2, vn2, vc2, ka2, kn2, kc2⟩, rfl, s2, bw2⟩
      dsimp only
      have hsz2 := bw2.size
      have O3 : Hid (OwnM (w2.alloc (.cells #[.int .i64 op2, .string nm2, .string vl2, .slice va2 vn2 vc2, .slice ka2 kn2 kc2] 26)) (w.heap.size + 2) ar j cr hs) := (HC.out.own.below bw2 (Nat.le_refl _)).alloc _
      have HCC : Hid (∀ jj v, (Hm.cells ⟨op2, nm2, vl2, va2, vn2, vc2, ka2, kn2, kc2⟩)[jj]? = some v → (w2.alloc (.cells #[.int .i64 op2, .string nm2, .string vl2, .slice va2 vn2 vc2, .slice ka2 kn2 kc2] 26)).cell? ((⟨w2.heap.size, 0, none⟩ : Addr).add jj) = some v) := by
        intro jj v hv
        rw [Addr.add_lit]
        exact five_new w2 ⟨op2, nm2, vl2, va2, vn2, vc2, ka2, kn2, kc2⟩ _ jj v hv
      have HBS : Hid (w.heap.size + 2 ≤ (w2.alloc (.cells #[.int .i64 op2, .string nm2, .string vl2, .slice va2 vn2 vc2, .slice ka2 kn2 kc2] 26)).heap.size) := by
        have := HC.out.size
        show _ ≤ _
        simp
        omega
      have S2 := hide s2
      have BW2 := hide bw2
      clear s2 bw2 T g0 g1 g2 g3 g4 b0 b1 b2 b3 b4 bf hsz2
      go_wp2_with (at_builtin; refine wpList_pushM _ rfl _ _ 24 rfl (w.heap.size + 2) i0 Tryz.underlying24 hi hz0 hz1 hz2 ar j cr hs rfl O3.out ⟨w2.heap.size, 0, none⟩ 1 ⟨op2, nm2, vl2, va2, vn2, vc2, ka2, kn2, kc2⟩ rfl HCC.out (by omega) HBS.out ?_)
      intro g' c' w4 o4 ch4 _ wh4
      have C4 := hide (HC.out.push HX.out S2.out BW2.out o4 ch4 (wh4.imp id (fun hh => by simp; omega)))
      clear o4 ch4 wh4 O3 HCC HBS S2 BW2 HC
      go_wp2
      go_roundw
      case rel => exact ⟨j + 1, _, c', _, by omega, by go_num, rfl, C4⟩
      case measure => simp [intOf]; omega
    · obtain ⟨j0, hj0⟩ : ∃ j0, j0 = j := ⟨j, rfl⟩
      have : kn = j0 := by omega
      subst this
      subst hj0
      have DN : Hid _ := HC.out.done (h := ⟨op, nm, vl, va, vn, vc, ka, kn, kc⟩) HE.out.2.2.2.2 HE.out.1 HE.out.2.1 HE.out.2.2.1 HE.out.2.2.2.1 rfl rfl rfl HCN.out.1 HCN.out.2
      dsimp only at DN
      have B5 := hide (HC.out.box.kids ar kn cr)
      have A5 : Hid (BoxM (u.setCell ⟨w.heap.size, 4, none⟩ (.slice ar kn cr)) (w.heap.size + 1) hm0) := HC.out.res.block (Below.heap_setCell _ _ _ _ (by show w.heap.size + 1 ≠ w.heap.size; omega))
      have bf4 := bf 4
      clear bf IH HQ HKS
      go_upto_region 8 with fail
      generalize u.setCell ⟨w.heap.size, 4, none⟩ (.slice ar kn cr) = u5 at DN B5 A5 ⊢
      clear b0 b1 b2 b3 b4 bf4
      obtain ⟨c0, c1', c2, c3, c4, _⟩ := B5.out.all
      obtain ⟨d0, d1', d2, d3, d4, df⟩ := A5.out.all
      have f0 := df 0
      have f1 := df 1
      have f2 := df 2
      have f3 := df 3
      have f4 := df 4
      dsimp only [hm0] at c0 c1' c2 c3 c4 d0 d1' d2 d3 d4
      have F := hide (A5.out.put ⟨op, nm, vl, a1, vn, c1, ar, kn, cr⟩)
      clear df
      go_wp2
      obtain ⟨e0, e1, e2, e3, e4, _⟩ := F.out.all
      unfold put5 at e0 e1 e2 e3 e4
      dsimp only at e0 e1 e2 e3 e4
      exact bodyPost_ret (v := .agg #[.int .i64 op, .string nm, .string vl, .slice a1 vn c1, .slice ar kn cr]) (by simp [results, Tryz.results25, go_sem, e0, e1, e2, e3, e4]) rfl ⟨⟨op, nm, vl, a1, vn, c1, ar, kn, cr⟩, rfl, DN.out⟩
end Go.Proofs.YtpffhpnmbpjifaaGreat
