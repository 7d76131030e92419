/-
  The laws' own copy of a sketch, and the document's own two put together: contracts, for every world: the lists lie in new memory.
  Conditions: the sketches lie in memory; put together: both may be ones.
-/
import Derived.Test.YtadcaonkmncgoaaPairR
namespace Go.Proofs.Ytadcaonkmncgoaa
open Go.RowKit
set_option maxRecDepth 20000

theorem OwnB.set {w : World} {base n cap : Nat} {a : Option Addr} {l : Bks} (h : OwnB w base a n cap l) {b : Nat} (hb : b < base) (o : Nat) (v : Value) : OwnB (w.setCell ⟨b, o, none⟩ v) base a n cap l :=
  h.ch (ch_set w b o v) (fun g hg e => by have := h.block g hg; omega)
theorem OwnU.set {w : World} {base n cap : Nat} {a : Option Addr} {l : List Int} (h : OwnU w base a n cap l) {b : Nat} (hb : b < base) (o : Nat) (v : Value) : OwnU (w.setCell ⟨b, o, none⟩ v) base a n cap l :=
  row_ch h (ch_set w b o v) (fun g hg e => by have := own_block h g hg; omega)
section
variable {w : World} {b : Nat} {h : Hd} {g : Gz}
theorem SBox.seth (q : SBox w b h g) (a : Option Addr) (n c : Nat) : SBox (w.setCell ⟨b, 0, none⟩ (.slice a n c)) b ⟨a, n, c, h.k, h.m, h.d⟩ g := by
  obtain ⟨l, ⟨c0, c1, c2, c3, c4, c5⟩, f⟩ := q
  exact ⟨by simp [go_sem, l], ⟨by simp [go_sem, c0], by simp [go_sem, c1], by simp [go_sem, c2], by simp [go_sem, c3], by simp [go_sem, c4], by simp [go_sem, c5]⟩, fun i => by simp [go_sem, f]⟩
theorem SBox.setk (q : SBox w b h g) (a : Option Addr) (n c : Nat) : SBox (w.setCell ⟨b, 1, none⟩ (.slice a n c)) b ⟨h.a, h.n, h.c, a, n, c⟩ g := by
  obtain ⟨l, ⟨c0, c1, c2, c3, c4, c5⟩, f⟩ := q
  exact ⟨by simp [go_sem, l], ⟨by simp [go_sem, c0], by simp [go_sem, c1], by simp [go_sem, c2], by simp [go_sem, c3], by simp [go_sem, c4], by simp [go_sem, c5]⟩, fun i => by simp [go_sem, f]⟩
theorem SBox.far (q : SBox w b h g) {p : Addr} (hp : p.block ≠ b) (v : Value) : SBox (w.setCell p v) b h g := by
  obtain ⟨l, ⟨c0, c1, c2, c3, c4, c5⟩, f⟩ := q
  have c : ∀ i, (w.setCell p v).cell? ⟨b, i, none⟩ = w.cell? ⟨b, i, none⟩ := fun i => World.cell?_of_block (w := w) (Below.heap_setCell w p v b (Ne.symm hp))
  have e : ∀ i, (w.setCell p v).frozen? ⟨b, i, none⟩ = w.frozen? ⟨b, i, none⟩ := fun i => World.frozen?_of_block (w := w) (Below.heap_setCell w p v b (Ne.symm hp))
  exact ⟨by simpa using l, ⟨(c 0).trans c0, (c 1).trans c1, (c 2).trans c2, (c 3).trans c3, (c 4).trans c4, (c 5).trans c5⟩, fun i => (e i).trans (f i)⟩
end
/-- Six cells written. -/
def put6 (w : World) (b : Nat) (h : Hd) (g : Gz) : World :=
  (((((w.setCell ⟨b, 0, none⟩ (.slice h.a h.n h.c)).setCell ⟨b, 1, none⟩ (.slice h.k h.m h.d)).setCell ⟨b, 2, none⟩ (.int .u64 g.n)).setCell ⟨b, 3, none⟩ (.int .u64 g.nans)).setCell ⟨b, 4, none⟩ (.int .u64 g.lo)).setCell ⟨b, 5, none⟩ (.int .u64 g.hi)
section
variable {w w0 : World} {b base B : Nat} {h h' : Hd} {g g' : Gz}
theorem SBox.put (q : SBox w b h' g') (h : Hd) (g : Gz) : SBox (put6 w b h g) b h g := by
  obtain ⟨l, ⟨c0, c1, c2, c3, c4, c5⟩, f⟩ := q
  exact ⟨by simp [put6, go_sem, l], ⟨by simp [put6, go_sem, c0], by simp [put6, go_sem, c1], by simp [put6, go_sem, c2], by simp [put6, go_sem, c3], by simp [put6, go_sem, c4], by simp [put6, go_sem, c5]⟩, fun i => by simp [put6, go_sem, f]⟩
theorem below_put (q : Below B w0 w) (hB : B ≤ b) (h : Hd) (g : Gz) : Below B w0 (put6 w b h g) :=
  (((((q.setCell (p := ⟨b, 0, none⟩) hB _).setCell (p := ⟨b, 1, none⟩) hB _).setCell (p := ⟨b, 2, none⟩) hB _).setCell (p := ⟨b, 3, none⟩) hB _).setCell (p := ⟨b, 4, none⟩) hB _).setCell (p := ⟨b, 5, none⟩) hB _
theorem ownb_put {a : Option Addr} {n c : Nat} {l : Bks} (q : OwnB w base a n c l) (hb : b < base) (h : Hd) (g : Gz) : OwnB (put6 w b h g) base a n c l :=
  (((((q.set hb 0 _).set hb 1 _).set hb 2 _).set hb 3 _).set hb 4 _).set hb 5 _
theorem ownu_put {a : Option Addr} {n c : Nat} {l : List Int} (q : OwnU w base a n c l) (hb : b < base) (h : Hd) (g : Gz) : OwnU (put6 w b h g) base a n c l :=
  OwnU.set (OwnU.set (OwnU.set (OwnU.set (OwnU.set (OwnU.set q hb 0 _) hb 1 _) hb 2 _) hb 3 _) hb 4 _) hb 5 _
/-- A sketch made of two lists of the call's own. -/
theorem made_of {s : Sp} (oh : OwnB w base h.a h.n h.c s.hist) (ok : OwnU w base h.k h.m h.d s.keys) (hf : ∀ x ∈ s.hist, fitB x) (hw : ∀ x ∈ s.keys, W64 x) (hg : GW s.g) (sh : h.n * 16 ≤ 140737488355328) (sk : h.m * 8 ≤ 140737488355328) : MadeP w base h s :=
  ⟨oh, ok, oh.row (by omega) hf, OwnU.rowU ok (by omega) hw, hg, oh.capped.1, (Own.capped ok).1, fun x => (oh.capped.2 x).2, (Own.capped ok).2, sh, sk⟩
end

set_option maxHeartbeats 2000000 in
theorem sketch_any (h : Hd) (s : Sp) (w : World) (q : SeeP w h s) :
    Calls Try.prog 14 #[(Value.agg #[.slice (Hd.a h) (Hd.n h) (Hd.c h), .slice (Hd.k h) (Hd.m h) (Hd.d h), .int .u64 (Gz.n s.g), .int .u64 (Gz.nans s.g), .int .u64 (Gz.lo s.g), .int .u64 (Gz.hi s.g)])] w fun e w' => ∃ h2, e = .returned (Value.agg #[.slice (Hd.a h2) (Hd.n h2) (Hd.c h2), .slice (Hd.k h2) (Hd.m h2) (Hd.d h2), .int .u64 (Gz.n s.g), .int .u64 (Gz.nans s.g), .int .u64 (Gz.lo s.g), .int .u64 (Gz.hi s.g)]) ∧ MadeP w' w.heap.size h2 s ∧ Below w.heap.size w w' := by
  obtain ⟨w0, hw0⟩ : ∃ w0, Hid ((w.alloc (.cells #[.slice h.a h.n h.c, .slice h.k h.m h.d, .int .u64 s.g.n, .int .u64 s.g.nans, .int .u64 s.g.lo, .int .u64 s.g.hi] 30)).alloc (.cells #[.slice none 0 0, .slice none 0 0, .int .u64 0, .int .u64 0, .int .u64 0, .int .u64 0] 30) = w0) := ⟨_, rfl⟩
  have B : Hid (SBox w0 w.heap.size h s.g) := by rw [← hw0.out]; exact (SBox.new w _ _ _).alloc _
  have A : Hid (SBox w0 (w.heap.size + 1) hd0 g0) := by
    rw [← hw0.out]
    have := SBox.new (w.alloc (.cells #[.slice h.a h.n h.c, .slice h.k h.m h.d, .int .u64 s.g.n, .int .u64 s.g.nans, .int .u64 s.g.lo, .int .u64 s.g.hi] 30)) 30 hd0 g0
    rwa [size_al] at this
  have L : Hid (Below w.heap.size w w0) := by rw [← hw0.out]; exact bel2 _ _ _
  have Q := hide q
  have C1 := hide (fun W (x : SeeP W h s) => buckets_any h.a h.n h.c s.hist W x.rh x.nh x.sh)
  have C2 := hide (fun W (x : SeeP W h s) => numsK_any h.k h.m h.d s.keys W x.rk x.nk x.sk)
  obtain ⟨k, hk⟩ : ∃ k, Hid (w.heap.size = k) := ⟨_, rfl⟩
  obtain ⟨k', hk'⟩ : ∃ k', Hid (k + 1 = k') := ⟨_, rfl⟩
  rw [hk.out] at B A
  rw [hk'.out] at A
  have ZA : Hid (k < w0.heap.size ∧ k' < w0.heap.size ∧ w.heap.size ≤ k ∧ w.heap.size ≤ k' ∧ k ≠ k') := ⟨B.out.lt, A.out.lt, by rw [hk.out]; exact Nat.le_refl _, by rw [← hk'.out, hk.out]; omega, by rw [← hk'.out]; omega⟩
  clear q
  obtain ⟨_, ⟨c0, c1, c2, c3, c4, c5⟩, bf⟩ := B.out
  go_enter Try.func14, Try.ntmps14
  go_upto_region 1 with fail
  rw [hw0.out, hk.out, hk'.out]
  clear hw0
  go_wp2_with fail
  with_reducible refine (C1.out _ (Q.out.below L.out (Nat.le_refl _))).mono ?_
  rintro e v1 ⟨a1, n1, rfl, o1, b1⟩
  have B1 := hide (B.out.below b1 ZA.out.1)
  have A1 := hide ((A.out.below b1 ZA.out.2.1).far (p := ⟨k, 0, none⟩) ZA.out.2.2.2.2 (.slice a1 h.n n1))
  have B2 := hide (B1.out.seth a1 h.n n1)
  have O1 := hide (o1.set ZA.out.1 0 (.slice a1 h.n n1))
  have L1 : Hid (Below w.heap.size w (v1.setCell ⟨k, 0, none⟩ (.slice a1 h.n n1))) := (bel_to L.out (Nat.le_refl _) b1).setCell (p := ⟨k, 0, none⟩) ZA.out.2.2.1 _
  have Z1 : Hid (w0.heap.size ≤ (v1.setCell ⟨k, 0, none⟩ (.slice a1 h.n n1)).heap.size) := by
    have := b1.size
    show _ ≤ _
    simpa [World.setCell] using this
  clear c0 c1 c2 c3 c4 c5 bf o1 b1 C1 A B L
  obtain ⟨_, ⟨c0, c1, c2, c3, c4, c5⟩, bf⟩ := B1.out
  have bf0 := bf 0
  go_upto_region 2 with fail
  generalize v1.setCell ⟨k, 0, none⟩ (.slice a1 h.n n1) = u1 at A1 B2 O1 L1 Z1 ⊢
  clear c0 c1 c2 c3 c4 c5 bf bf0 B1
  obtain ⟨_, ⟨c0, c1, c2, c3, c4, c5⟩, _⟩ := B2.out
  dsimp only at c0 c1 c2 c3 c4 c5
  go_wp2_with fail
  with_reducible refine (C2.out _ (Q.out.below L1.out (Nat.le_refl _))).mono ?_
  rintro e v2 ⟨a2, n2, rfl, o2, b2⟩
  have B3 := hide (B2.out.below b2 (Nat.lt_of_lt_of_le ZA.out.1 Z1.out))
  have A3 := hide ((A1.out.below b2 (Nat.lt_of_lt_of_le ZA.out.2.1 Z1.out)).far (p := ⟨k, 1, none⟩) ZA.out.2.2.2.2 (.slice a2 h.m n2))
  have B4 := hide (B3.out.setk a2 h.m n2)
  have O3 := hide ((O1.out.below b2 (Nat.le_refl _)).set ZA.out.1 1 (.slice a2 h.m n2))
  have O4 := hide (OwnU.set (b := k) o2 (Nat.lt_of_lt_of_le ZA.out.1 Z1.out) 1 (.slice a2 h.m n2))
  have L2 : Hid (Below w.heap.size w (v2.setCell ⟨k, 1, none⟩ (.slice a2 h.m n2))) := (bel_to L1.out (Nat.le_refl _) b2).setCell (p := ⟨k, 1, none⟩) ZA.out.2.2.1 _
  clear c0 c1 c2 c3 c4 c5 o2 b2 C2 A1 B2 L1 O1
  obtain ⟨_, ⟨c0, c1, c2, c3, c4, c5⟩, bf⟩ := B3.out
  have bf1 := bf 1
  dsimp only at c0 c1 c2 c3 c4 c5
  go_upto_region 3 with fail
  generalize v2.setCell ⟨k, 1, none⟩ (.slice a2 h.m n2) = u2 at A3 B4 O3 O4 L2 ⊢
  clear c0 c1 c2 c3 c4 c5 bf bf1 B3
  obtain ⟨_, ⟨c0, c1, c2, c3, c4, c5⟩, _⟩ := B4.out
  obtain ⟨_, ⟨d0, d1, d2, d3, d4, d5⟩, df⟩ := A3.out
  have f0 := df 0
  have f1 := df 1
  have f2 := df 2
  have f3 := df 3
  have f4 := df 4
  have f5 := df 5
  dsimp only [hd0, g0] at c0 c1 c2 c3 c4 c5 d0 d1 d2 d3 d4 d5
  have F := hide (A3.out.put ⟨a1, h.n, n1, a2, h.m, n2⟩ s.g)
  have M : Hid (MadeP (put6 u2 k' ⟨a1, h.n, n1, a2, h.m, n2⟩ s.g) w.heap.size ⟨a1, h.n, n1, a2, h.m, n2⟩ s) :=
    made_of ((ownb_put O3.out ZA.out.2.1 _ _).mono (Nat.le_trans ZA.out.2.2.1 (Nat.le_of_lt ZA.out.1))) (Own.mono (ownu_put O4.out (Nat.lt_of_lt_of_le ZA.out.2.1 Z1.out) _ _) (Nat.le_trans (Nat.le_trans ZA.out.2.2.1 (Nat.le_of_lt ZA.out.1)) Z1.out)) Q.out.rh.2.2.1 Q.out.rk.words Q.out.g Q.out.sh Q.out.sk
  have L3 := hide (below_put L2.out ZA.out.2.2.2.1 ⟨a1, h.n, n1, a2, h.m, n2⟩ s.g)
  clear df
  go_wp2
  obtain ⟨_, ⟨e0, e1, e2, e3, e4, e5⟩, _⟩ := F.out
  unfold put6 at e0 e1 e2 e3 e4 e5
  dsimp only at e0 e1 e2 e3 e4 e5
  exact bodyPost_ret (v := .agg #[.slice a1 h.n n1, .slice a2 h.m n2, .int .u64 s.g.n, .int .u64 s.g.nans, .int .u64 s.g.lo, .int .u64 s.g.hi]) (by simp [results, Try.results14, go_sem, e0, e1, e2, e3, e4, e5]) rfl ⟨⟨a1, h.n, n1, a2, h.m, n2⟩, rfl, M.out, L3.out⟩
end Go.Proofs.Ytadcaonkmncgoaa
