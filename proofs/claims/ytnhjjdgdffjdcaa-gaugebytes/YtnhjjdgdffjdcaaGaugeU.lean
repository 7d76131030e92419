/-
  The document's reader of a gauge: a contract, for every world: what is older than the reader stays.
  Conditions: the reader's bytes lie in memory older than itself; the place is a number of 64 bits.
-/
import Derived.Test.YtnhjjdgdffjdcaaGaugeF
import Derived.Test.YtnhjjdgdffjdcaaGaugeR
namespace Go.Proofs.Ytnhjjdgdffjdcaa
open Go.RowKit

theorem GBox.block {w w' : World} {k : Nat} {n m lo hi : Int} (h : GBox w k n m lo hi) (hs : w.heap.size ≤ w'.heap.size) (hk : w'.heap[k]? = w.heap[k]?) : GBox w' k n m lo hi := by
  have c : ∀ i, w'.cell? ⟨k, i, none⟩ = w.cell? ⟨k, i, none⟩ := fun i => World.cell?_of_block (w := w) hk
  have f : ∀ i, w'.frozen? ⟨k, i, none⟩ = w.frozen? ⟨k, i, none⟩ := fun i => World.frozen?_of_block (w := w) hk
  exact ⟨Nat.lt_of_lt_of_le h.lt hs, (c 0).trans h.c0, (c 1).trans h.c1, (c 2).trans h.c2, (c 3).trans h.c3, (f 0).trans h.f0, (f 1).trans h.f1, (f 2).trans h.f2, (f 3).trans h.f3⟩
section
variable {w : World} {k : Nat} {n m lo hi : Int}
theorem GBox.set0 (h : GBox w k n m lo hi) (v : Int) : GBox (w.setCell ⟨k, 0, none⟩ (.int .u64 v)) k v m lo hi := by
  obtain ⟨l, c0, c1, c2, c3, f0, f1, f2, f3⟩ := h
  exact ⟨by simp [go_sem, l], by simp [go_sem, c0], by simp [go_sem, c1], by simp [go_sem, c2], by simp [go_sem, c3], by simp [go_sem, f0], by simp [go_sem, f1], by simp [go_sem, f2], by simp [go_sem, f3]⟩
theorem GBox.set1 (h : GBox w k n m lo hi) (v : Int) : GBox (w.setCell ⟨k, 1, none⟩ (.int .u64 v)) k n v lo hi := by
  obtain ⟨l, c0, c1, c2, c3, f0, f1, f2, f3⟩ := h
  exact ⟨by simp [go_sem, l], by simp [go_sem, c0], by simp [go_sem, c1], by simp [go_sem, c2], by simp [go_sem, c3], by simp [go_sem, f0], by simp [go_sem, f1], by simp [go_sem, f2], by simp [go_sem, f3]⟩
theorem GBox.set2 (h : GBox w k n m lo hi) (v : Int) : GBox (w.setCell ⟨k, 2, none⟩ (.int .u64 v)) k n m v hi := by
  obtain ⟨l, c0, c1, c2, c3, f0, f1, f2, f3⟩ := h
  exact ⟨by simp [go_sem, l], by simp [go_sem, c0], by simp [go_sem, c1], by simp [go_sem, c2], by simp [go_sem, c3], by simp [go_sem, f0], by simp [go_sem, f1], by simp [go_sem, f2], by simp [go_sem, f3]⟩
theorem GBox.set3 (h : GBox w k n m lo hi) (v : Int) : GBox (w.setCell ⟨k, 3, none⟩ (.int .u64 v)) k n m lo v := by
  obtain ⟨l, c0, c1, c2, c3, f0, f1, f2, f3⟩ := h
  exact ⟨by simp [go_sem, l], by simp [go_sem, c0], by simp [go_sem, c1], by simp [go_sem, c2], by simp [go_sem, c3], by simp [go_sem, f0], by simp [go_sem, f1], by simp [go_sem, f2], by simp [go_sem, f3]⟩
end
theorem RB.block {w w' : World} {g : Nat} {a : Option Addr} {n cap : Nat} {p : Int} {bad : Bool} (h : RB w g a n cap p bad) (hk : w'.heap[g]? = w.heap[g]?) : RB w' g a n cap p bad := hk.trans h

/-- The reader, the answer's block, the gauge's block; what is older than the reader is as it was. -/
structure Rd (w W : World) (g A V : Nat) (a : Option Addr) (n cap : Nat) (p : Int) (bad : Bool) (x : Gz) : Prop where
  rb : RB W g a n cap p bad
  ba : GBox W A 0 0 0 0
  bv : GBox W V x.n x.nans x.lo x.hi
  low : Below g w W
  ga : g < A
  gv : g < V
  ne : A ≠ V
section
variable {w W W' : World} {g A V : Nat} {a : Option Addr} {n cap : Nat} {p p' : Int} {bad bad' : Bool} {x : Gz}
theorem Rd.only (h : Rd w W g A V a n cap p bad x) (o : Only g W W') (hrb : RB W' g a n cap p' bad') : Rd w W' g A V a n cap p' bad' x :=
  have hs : W.heap.size ≤ W'.heap.size := Nat.le_of_eq o.size.symm
  ⟨hrb, h.ba.block hs (o.block _ (by have := h.ga; omega)), h.bv.block hs (o.block _ (by have := h.gv; omega)), h.low.trans (o.below (Nat.le_refl _)), h.ga, h.gv, h.ne⟩
theorem Rd.below (h : Rd w W g A V a n cap p bad x) (b : Below W.heap.size W W') : Rd w W' g A V a n cap p bad x :=
  ⟨h.rb.block (b.block _ h.rb.lt'), h.ba.below b h.ba.lt, h.bv.below b h.bv.lt, h.low.trans (b.mono (Nat.le_of_lt h.rb.lt')), h.ga, h.gv, h.ne⟩
theorem Rd.spoil (h : Rd w W g A V a n cap p bad x) : Rd w (W.setCell ⟨g, 2, none⟩ (.bool true)) g A V a n cap p true x :=
  ⟨h.rb.spoil, h.ba.far (p := ⟨g, 2, none⟩) (by have := h.ga; show g ≠ A; omega) _, h.bv.far (p := ⟨g, 2, none⟩) (by have := h.gv; show g ≠ V; omega) _, h.low.setCell (p := ⟨g, 2, none⟩) (Nat.le_refl _) _, h.ga, h.gv, h.ne⟩
theorem Rd.put (h : Rd w W g A V a n cap p bad x) (i : Nat) (v : Int) {y : Gz} (hy : GBox (W.setCell ⟨V, i, none⟩ (.int .u64 v)) V y.n y.nans y.lo y.hi) : Rd w (W.setCell ⟨V, i, none⟩ (.int .u64 v)) g A V a n cap p bad y :=
  ⟨h.rb.block (Below.heap_setCell W _ _ g (by have := h.gv; show g ≠ V; omega)), h.ba.far (p := ⟨V, i, none⟩) (fun e => h.ne e.symm) _, hy, h.low.setCell (p := ⟨V, i, none⟩) (by have := h.gv; show g ≤ V; omega) _, h.ga, h.gv, h.ne⟩
theorem Rd.num (h : Rd w W g A V a n cap p bad x) (v : Int) : Rd w (W.setCell ⟨V, 0, none⟩ (.int .u64 v)) g A V a n cap p bad ⟨v, x.nans, x.lo, x.hi⟩ := h.put 0 v (h.bv.set0 v)
theorem Rd.nans (h : Rd w W g A V a n cap p bad x) (v : Int) : Rd w (W.setCell ⟨V, 1, none⟩ (.int .u64 v)) g A V a n cap p bad ⟨x.n, v, x.lo, x.hi⟩ := h.put 1 v (h.bv.set1 v)
theorem Rd.lo (h : Rd w W g A V a n cap p bad x) (v : Int) : Rd w (W.setCell ⟨V, 2, none⟩ (.int .u64 v)) g A V a n cap p bad ⟨x.n, x.nans, v, x.hi⟩ := h.put 2 v (h.bv.set2 v)
theorem Rd.hi (h : Rd w W g A V a n cap p bad x) (v : Int) : Rd w (W.setCell ⟨V, 3, none⟩ (.int .u64 v)) g A V a n cap p bad ⟨x.n, x.nans, x.lo, v⟩ := h.put 3 v (h.bv.set3 v)
/-- The answer is written. -/
theorem Rd.ans (h : Rd w W g A V a n cap p bad x) (y : Gz) :
    let W' := (((W.setCell ⟨A, 0, none⟩ (.int .u64 y.n)).setCell ⟨A, 1, none⟩ (.int .u64 y.nans)).setCell ⟨A, 2, none⟩ (.int .u64 y.lo)).setCell ⟨A, 3, none⟩ (.int .u64 y.hi)
    GBox W' A y.n y.nans y.lo y.hi ∧ RB W' g a n cap p bad ∧ Below g w W' := by
  have hg : g ≠ A := by have := h.ga; omega
  refine ⟨h.ba.set y.n y.nans y.lo y.hi, h.rb.block ?_, bel_set4 h.low (Nat.le_of_lt h.ga) _ _ _ _⟩
  rw [Below.heap_setCell _ _ _ g hg, Below.heap_setCell _ _ _ g hg, Below.heap_setCell _ _ _ g hg, Below.heap_setCell _ _ _ g hg]
end

theorem gw_none {m : Int} (h : Word m) : GW ⟨0, m, 0, 0⟩ := ⟨w0, h, w0, w0⟩
/-- What the reader's Get of a gauge leaves. -/
def GotP (g : Nat) (a : Option Addr) (n cap : Nat) (r : Option (Gz × Int)) (w w' : World) (e : Ending) : Prop :=
  Below g w w' ∧ match r with
  | none => e = .returned (.agg #[.int .u64 0, .int .u64 0, .int .u64 0, .int .u64 0]) ∧ ∃ p', RB w' g a n cap p' true
  | some q => e = .returned (Value.agg #[.int .u64 (Gz.n q.1), .int .u64 (Gz.nans q.1), .int .u64 (Gz.lo q.1), .int .u64 (Gz.hi q.1)]) ∧ RB w' g a n cap q.2 false

theorem rd_new (w : World) (t : TypeId) {g : Nat} {a : Option Addr} {n cap : Nat} {p : Int} (h : RB w g a n cap p false) :
    Rd w ((w.alloc (.cells #[.int .u64 0, .int .u64 0, .int .u64 0, .int .u64 0] t)).alloc (.cells #[.int .u64 0, .int .u64 0, .int .u64 0, .int .u64 0] t)) g w.heap.size (w.heap.size + 1) a n cap p false g0 := by
  have hl := h.lt'
  have b := bel2 w (.cells #[.int .u64 0, .int .u64 0, .int .u64 0, .int .u64 0] t) (.cells #[.int .u64 0, .int .u64 0, .int .u64 0, .int .u64 0] t)
  exact ⟨h.block (b.block _ hl), (GBox.new w t 0 0 0 0).alloc _, GBox.new2 w _ t 0 0 0 0, b.mono (Nat.le_of_lt hl), hl, by omega, by omega⟩

set_option maxHeartbeats 4000000 in
theorem refgget_any (p : Int) (g : Nat) (a : Option Addr) (n cap : Nat) (zs : List Int) (w0 w : World) (hp : (Lit.int .i64 p).wf = true) (hr : Row .u8 w0 a n zs) (hg : w0.heap.size ≤ g) (hb : Below w0.heap.size w0 w) (hrb : RB w g a n cap p false) :
    Calls Try.prog 20 #[.pointer (some ⟨g, 0, none⟩)] w fun e w' => GotP g a n cap (getG zs p) w w' e := by
  have hl := hr.1
  have hn := hr.2.1
  have hzb : Bytes8 zs := hr.bytes
  obtain ⟨A, hA⟩ : ∃ A, Hid (w.heap.size = A) := ⟨_, rfl⟩
  obtain ⟨V, hV⟩ : ∃ V, Hid (A + 1 = V) := ⟨_, rfl⟩
  have H0 := hide (rd_new w 24 hrb)
  rw [hA.out] at H0
  rw [hV.out] at H0
  dsimp only [g0] at H0
  have BL : Hid (∀ W, Below g w W → Below w0.heap.size w0 W) := fun W h => hb.trans (h.mono hg)
  have NOK : Hid (∀ (p : Int) (x : Gz) (m q : Int), (Lit.int .i64 p).wf = true → getS zs p = some (m, q) → ∀ W, Rd w W g A V a n cap p false x → Calls Try.prog 40 #[.pointer (some ⟨g, 0, none⟩)] W fun e W' => e = .returned (.int .u64 m) ∧ Rd w W' g A V a n cap q false x) := by
    intro p x m q hp e W h
    refine (num_any p g a n cap zs w0 W hp hr hg (BL.out _ h.low) h.rb).mono ?_
    intro en W' hN
    rw [e] at hN
    exact ⟨hN.2.1, h.only hN.1 hN.2.2⟩
  have NNO : Hid (∀ (p : Int) (x : Gz), (Lit.int .i64 p).wf = true → getS zs p = none → ∀ W, Rd w W g A V a n cap p false x → Calls Try.prog 40 #[.pointer (some ⟨g, 0, none⟩)] W fun e W' => e = .returned (.int .u64 0) ∧ ∃ p', Rd w W' g A V a n cap p' true x) := by
    intro p x hp e W h
    refine (num_any p g a n cap zs w0 W hp hr hg (BL.out _ h.low) h.rb).mono ?_
    intro en W' hN
    rw [e] at hN
    obtain ⟨h1, h2, p', h3⟩ := hN
    exact ⟨h2, p', h.only h1 h3⟩
  have NBD : Hid (∀ (p : Int) (x : Gz) W, Rd w W g A V a n cap p true x → Calls Try.prog 40 #[.pointer (some ⟨g, 0, none⟩)] W fun e W' => e = .returned (.int .u64 0) ∧ Rd w W' g A V a n cap p true x) := by
    intro p x W h
    refine (numbad_any g a n cap p W h.rb).mono ?_
    rintro en W' ⟨h1, h2, h3⟩
    exact ⟨h1, h.only h2 h3⟩
  have FBD : Hid (∀ (p : Int) (x : Gz) W, Rd w W g A V a n cap p true x → Calls Try.prog 41 #[.pointer (some ⟨g, 0, none⟩)] W fun e W' => e = .returned (.int .u64 0) ∧ Rd w W' g A V a n cap p true x) := by
    intro p x W h
    refine (fixbad_any g a n cap p W h.rb).mono ?_
    rintro en W' ⟨h1, h2, h3⟩
    exact ⟨h1, h.only h2 h3⟩
  have FNO : Hid (∀ (t : Nat) (x : Gz), t ≤ n → (n : Int) - (t : Int) < 8 → ∀ W, Rd w W g A V a n cap (t : Int) false x → Calls Try.prog 41 #[.pointer (some ⟨g, 0, none⟩)] W fun e W' => e = .returned (.int .u64 0) ∧ Rd w W' g A V a n cap (t : Int) true x) := by
    intro t x ht h8 W h
    refine (fixno_any g a n cap t W hn ht h8 h.rb).mono ?_
    rintro en W' ⟨h1, h2, h3⟩
    exact ⟨h1, h.only h2 h3⟩
  have FOK : Hid (∀ (t : Nat) (x : Gz), t + 8 ≤ n → ∀ W, Rd w W g A V a n cap (t : Int) false x → Calls Try.prog 41 #[.pointer (some ⟨g, 0, none⟩)] W fun e W' => e = .returned (.int .u64 (n8 zs t 8)) ∧ Rd w W' g A V a n cap ((t + 8 : Nat) : Int) false x) := by
    intro t x h8 W h
    refine (fixok_any g a n cap t zs w0 W hr hg (BL.out _ h.low) h8 h.rb).mono ?_
    rintro en W' ⟨h1, h2, h3⟩
    exact ⟨h1, h.only h2 h3⟩
  have CHK : Hid (∀ (q : Int) (x : Gz), GW x → ∀ W, Rd w W g A V a n cap q false x → Calls Try.prog 10 #[(Value.agg #[.int .u64 (Gz.n x), .int .u64 (Gz.nans x), .int .u64 (Gz.lo x), .int .u64 (Gz.hi x)])] W fun e W' => e = .returned (.bool (chkG x)) ∧ Rd w W' g A V a n cap q false x) := by
    intro q x hx W h
    refine (refgchk_any x hx W).mono ?_
    rintro en W' ⟨h1, h2⟩
    exact ⟨h1, h.below h2⟩
  clear hr hb hrb BL
  cases e1 : getS zs p with
  | none =>
    have F := hide (getG_no1 e1)
    rw [F.out]
    unfold GotP
    have N1 := hide (fun W h => NNO.out p ⟨0, 0, 0, 0⟩ hp e1 W h)
    clear e1 hp
    go_enter Try.func20, Try.ntmps20
    go_wp2_with fail
    rw [hA.out]
    rw [hV.out]
    with_reducible refine (N1.out _ H0.out).mono ?_
    rintro e W1 ⟨rfl, p', h⟩
    have K1 := hide h
    have H1 := hide (h.nans 0)
    dsimp only at H1
    clear h
    obtain ⟨_, v0, v1, v2, v3, y0, y1, y2, y3⟩ := K1.out.bv
    obtain ⟨_, a0, a1, a2, a3, x0, x1, x2, x3⟩ := K1.out.ba
    obtain ⟨r0, r1, r2, rf⟩ := K1.out.rb.cell
    have rf2 := rf 2
    clear rf
    go_wp2_with fail
    clear v0 v1 v2 v3 y0 y1 y2 y3 a0 a1 a2 a3 x0 x1 x2 x3 r0 r1 r2 rf2
    with_reducible refine (NBD.out _ _ _ H1.out).mono ?_
    rintro e W2 ⟨rfl, h⟩
    have K2 := hide h
    have H2 := hide (h.num 0)
    dsimp only at H2
    clear h
    obtain ⟨_, v0, v1, v2, v3, y0, y1, y2, y3⟩ := K2.out.bv
    obtain ⟨_, a0, a1, a2, a3, x0, x1, x2, x3⟩ := K2.out.ba
    obtain ⟨r0, r1, r2, rf⟩ := K2.out.rb.cell
    have rf2 := rf 2
    clear rf
    go_upto_region 4 with fail
    generalize W2.setCell ⟨V, 0, none⟩ (.int .u64 0) = U2 at H2 ⊢
    clear v0 v1 v2 v3 y0 y1 y2 y3 a0 a1 a2 a3 x0 x1 x2 x3 r0 r1 r2 rf2
    obtain ⟨_, v0, v1, v2, v3, y0, y1, y2, y3⟩ := H2.out.bv
    obtain ⟨_, a0, a1, a2, a3, x0, x1, x2, x3⟩ := H2.out.ba
    obtain ⟨r0, r1, r2, rf⟩ := H2.out.rb.cell
    have rf2 := rf 2
    clear rf
    have HP := hide H2.out.spoil
    go_upto_region 9 with fail
    generalize U2.setCell ⟨g, 2, none⟩ (.bool true) = Y at HP ⊢
    clear v0 v1 v2 v3 y0 y1 y2 y3 a0 a1 a2 a3 x0 x1 x2 x3 r0 r1 r2 rf2
    obtain ⟨_, a0, a1, a2, a3, x0, x1, x2, x3⟩ := HP.out.ba
    have HS := hide (HP.out.ans g0)
    dsimp only [g0] at HS
    go_wp2
    exact bodyPost_ret (v := .agg #[.int .u64 0, .int .u64 0, .int .u64 0, .int .u64 0]) (by simp [results, Try.results20, go_sem, HS.out.1.c0, HS.out.1.c1, HS.out.1.c2, HS.out.1.c3]) rfl ⟨HS.out.2.2, rfl, _, HS.out.2.1⟩
  | some q =>
    obtain ⟨m, q⟩ := q
    obtain ⟨hm, k1, hpk, hk1, hq, hkq, _⟩ := getS_some hzb e1
    obtain ⟨t, ht⟩ : ∃ t, k1 + (putS m).length = t := ⟨_, rfl⟩
    rw [ht] at hq hkq
    have hqw : (Lit.int .i64 q).wf = true := by rw [hq]; exact i64_wf (by omega) (by omega)
    have N1 := hide (fun W h => NOK.out p ⟨0, 0, 0, 0⟩ m q hp e1 W h)
    clear hpk hk1 hq hkq ht
    cases e2 : getS zs q with
    | none =>
      have F := hide (getG_no2 e1 e2)
      rw [F.out]
      unfold GotP
      have N2 := hide (fun W h => NNO.out q ⟨0, m, 0, 0⟩ hqw e2 W h)
      clear e1 e2 hp hqw
      go_enter Try.func20, Try.ntmps20
      go_wp2_with fail
      rw [hA.out]
      rw [hV.out]
      with_reducible refine (N1.out _ H0.out).mono ?_
      rintro e W1 ⟨rfl, h⟩
      have K1 := hide h
      have H1 := hide (h.nans m)
      dsimp only at H1
      clear h
      obtain ⟨_, v0, v1, v2, v3, y0, y1, y2, y3⟩ := K1.out.bv
      obtain ⟨_, a0, a1, a2, a3, x0, x1, x2, x3⟩ := K1.out.ba
      obtain ⟨r0, r1, r2, rf⟩ := K1.out.rb.cell
      have rf2 := rf 2
      clear rf
      go_wp2_with fail
      clear v0 v1 v2 v3 y0 y1 y2 y3 a0 a1 a2 a3 x0 x1 x2 x3 r0 r1 r2 rf2
      with_reducible refine (N2.out _ H1.out).mono ?_
      rintro e W2 ⟨rfl, p', h⟩
      have K2 := hide h
      have H2 := hide (h.num 0)
      dsimp only at H2
      clear h
      obtain ⟨_, v0, v1, v2, v3, y0, y1, y2, y3⟩ := K2.out.bv
      obtain ⟨_, a0, a1, a2, a3, x0, x1, x2, x3⟩ := K2.out.ba
      obtain ⟨r0, r1, r2, rf⟩ := K2.out.rb.cell
      have rf2 := rf 2
      clear rf
      go_upto_region 4 with fail
      generalize W2.setCell ⟨V, 0, none⟩ (.int .u64 0) = U2 at H2 ⊢
      clear v0 v1 v2 v3 y0 y1 y2 y3 a0 a1 a2 a3 x0 x1 x2 x3 r0 r1 r2 rf2
      obtain ⟨_, v0, v1, v2, v3, y0, y1, y2, y3⟩ := H2.out.bv
      obtain ⟨_, a0, a1, a2, a3, x0, x1, x2, x3⟩ := H2.out.ba
      obtain ⟨r0, r1, r2, rf⟩ := H2.out.rb.cell
      have rf2 := rf 2
      clear rf
      have HP := hide H2.out.spoil
      go_upto_region 9 with fail
      generalize U2.setCell ⟨g, 2, none⟩ (.bool true) = Y at HP ⊢
      clear v0 v1 v2 v3 y0 y1 y2 y3 a0 a1 a2 a3 x0 x1 x2 x3 r0 r1 r2 rf2
      obtain ⟨_, a0, a1, a2, a3, x0, x1, x2, x3⟩ := HP.out.ba
      have HS := hide (HP.out.ans g0)
      dsimp only [g0] at HS
      go_wp2
      exact bodyPost_ret (v := .agg #[.int .u64 0, .int .u64 0, .int .u64 0, .int .u64 0]) (by simp [results, Try.results20, go_sem, HS.out.1.c0, HS.out.1.c1, HS.out.1.c2, HS.out.1.c3]) rfl ⟨HS.out.2.2, rfl, _, HS.out.2.1⟩
    | some r =>
      obtain ⟨x, r⟩ := r
      obtain ⟨hx, k2, hqk, hk2, hr2, hkr, _⟩ := getS_some hzb e2
      obtain ⟨u, hu⟩ : ∃ u, k2 + (putS x).length = u := ⟨_, rfl⟩
      rw [hu] at hr2 hkr
      have F := hide (getG_two e1 e2)
      have N2 := hide (fun W h => NOK.out q ⟨0, m, 0, 0⟩ x r hqw e2 W h)
      subst hr2
      rw [Int.toNat_natCast] at F
      have hun : u ≤ n := by omega
      clear e1 e2 hp hqw hqk hk2 hkr hu
      by_cases hx0 : x = 0
      · subst hx0
        have C := hide (fun W h => CHK.out (u : Int) ⟨0, m, 0, 0⟩ (gw_none hm) W h)
        rw [chk_of_none rfl rfl rfl] at C
        rw [if_pos rfl] at F
        rw [F.out]
        unfold GotP
        clear F
        go_enter Try.func20, Try.ntmps20
        go_wp2_with fail
        rw [hA.out]
        rw [hV.out]
        with_reducible refine (N1.out _ H0.out).mono ?_
        rintro e W1 ⟨rfl, h⟩
        have K1 := hide h
        have H1 := hide (h.nans m)
        dsimp only at H1
        clear h
        obtain ⟨_, v0, v1, v2, v3, y0, y1, y2, y3⟩ := K1.out.bv
        obtain ⟨_, a0, a1, a2, a3, x0, x1, x2, x3⟩ := K1.out.ba
        obtain ⟨r0, r1, r2, rf⟩ := K1.out.rb.cell
        have rf2 := rf 2
        clear rf
        go_wp2_with fail
        clear v0 v1 v2 v3 y0 y1 y2 y3 a0 a1 a2 a3 x0 x1 x2 x3 r0 r1 r2 rf2
        with_reducible refine (N2.out _ H1.out).mono ?_
        rintro e W2 ⟨rfl, h⟩
        have K2 := hide h
        have H2 := hide (h.num 0)
        dsimp only at H2
        clear h
        obtain ⟨_, v0, v1, v2, v3, y0, y1, y2, y3⟩ := K2.out.bv
        obtain ⟨_, a0, a1, a2, a3, x0, x1, x2, x3⟩ := K2.out.ba
        obtain ⟨r0, r1, r2, rf⟩ := K2.out.rb.cell
        have rf2 := rf 2
        clear rf
        go_upto_region 4 with fail
        generalize W2.setCell ⟨V, 0, none⟩ (.int .u64 0) = U2 at H2 ⊢
        clear v0 v1 v2 v3 y0 y1 y2 y3 a0 a1 a2 a3 x0 x1 x2 x3 r0 r1 r2 rf2
        obtain ⟨_, v0, v1, v2, v3, y0, y1, y2, y3⟩ := H2.out.bv
        obtain ⟨_, a0, a1, a2, a3, x0, x1, x2, x3⟩ := H2.out.ba
        obtain ⟨r0, r1, r2, rf⟩ := H2.out.rb.cell
        have rf2 := rf 2
        clear rf
        go_wp2_with fail
        clear v0 v1 v2 v3 y0 y1 y2 y3 a0 a1 a2 a3 x0 x1 x2 x3 r0 r1 r2 rf2
        with_reducible refine (C.out _ H2.out).mono ?_
        rintro e W3 ⟨rfl, h⟩
        have H3 := hide h
        clear h
        obtain ⟨_, v0, v1, v2, v3, y0, y1, y2, y3⟩ := H3.out.bv
        obtain ⟨_, a0, a1, a2, a3, x0, x1, x2, x3⟩ := H3.out.ba
        obtain ⟨r0, r1, r2, rf⟩ := H3.out.rb.cell
        have rf2 := rf 2
        clear rf
        have HS := hide (H3.out.ans ⟨0, m, 0, 0⟩)
        dsimp only at HS
        go_wp2
        exact bodyPost_ret (v := .agg #[.int .u64 0, .int .u64 m, .int .u64 0, .int .u64 0]) (by simp [results, Try.results20, go_sem, HS.out.1.c0, HS.out.1.c1, HS.out.1.c2, HS.out.1.c3]) rfl ⟨HS.out.2.2, rfl, HS.out.2.1⟩
      · rw [if_neg hx0, hl] at F
        have ix : 0 < x := by have := hx.1; omega
        by_cases h8 : (n : Int) - (u : Int) < 8
        · rw [if_pos (by omega)] at F
          rw [F.out]
          unfold GotP
          have T1 := hide (fun W h => FNO.out u ⟨x, m, 0, 0⟩ hun h8 W h)
          clear F hx0 h8
          go_enter Try.func20, Try.ntmps20
          go_wp2_with fail
          rw [hA.out]
          rw [hV.out]
          with_reducible refine (N1.out _ H0.out).mono ?_
          rintro e W1 ⟨rfl, h⟩
          have K1 := hide h
          have H1 := hide (h.nans m)
          dsimp only at H1
          clear h
          obtain ⟨_, v0, v1, v2, v3, y0, y1, y2, y3⟩ := K1.out.bv
          obtain ⟨_, a0, a1, a2, a3, x0, x1, x2, x3⟩ := K1.out.ba
          obtain ⟨r0, r1, r2, rf⟩ := K1.out.rb.cell
          have rf2 := rf 2
          clear rf
          go_wp2_with fail
          clear v0 v1 v2 v3 y0 y1 y2 y3 a0 a1 a2 a3 x0 x1 x2 x3 r0 r1 r2 rf2
          with_reducible refine (N2.out _ H1.out).mono ?_
          rintro e W2 ⟨rfl, h⟩
          have K2 := hide h
          have H2 := hide (h.num x)
          dsimp only at H2
          clear h
          obtain ⟨_, v0, v1, v2, v3, y0, y1, y2, y3⟩ := K2.out.bv
          obtain ⟨_, a0, a1, a2, a3, x0, x1, x2, x3⟩ := K2.out.ba
          obtain ⟨r0, r1, r2, rf⟩ := K2.out.rb.cell
          have rf2 := rf 2
          clear rf
          go_upto_region 4 with fail
          generalize W2.setCell ⟨V, 0, none⟩ (.int .u64 x) = U2 at H2 ⊢
          clear v0 v1 v2 v3 y0 y1 y2 y3 a0 a1 a2 a3 x0 x1 x2 x3 r0 r1 r2 rf2
          obtain ⟨_, v0, v1, v2, v3, y0, y1, y2, y3⟩ := H2.out.bv
          obtain ⟨_, a0, a1, a2, a3, x0, x1, x2, x3⟩ := H2.out.ba
          obtain ⟨r0, r1, r2, rf⟩ := H2.out.rb.cell
          have rf2 := rf 2
          clear rf
          go_wp2_with fail
          clear v0 v1 v2 v3 y0 y1 y2 y3 a0 a1 a2 a3 x0 x1 x2 x3 r0 r1 r2 rf2
          with_reducible refine (T1.out _ H2.out).mono ?_
          rintro e W3 ⟨rfl, h⟩
          have K3 := hide h
          have H3 := hide (h.lo 0)
          dsimp only at H3
          clear h
          obtain ⟨_, v0, v1, v2, v3, y0, y1, y2, y3⟩ := K3.out.bv
          obtain ⟨_, a0, a1, a2, a3, x0, x1, x2, x3⟩ := K3.out.ba
          obtain ⟨r0, r1, r2, rf⟩ := K3.out.rb.cell
          have rf2 := rf 2
          clear rf
          go_wp2_with fail
          clear v0 v1 v2 v3 y0 y1 y2 y3 a0 a1 a2 a3 x0 x1 x2 x3 r0 r1 r2 rf2
          with_reducible refine (FBD.out _ _ _ H3.out).mono ?_
          rintro e W4 ⟨rfl, h⟩
          have K4 := hide h
          have H4 := hide (h.hi 0)
          dsimp only at H4
          clear h
          obtain ⟨_, v0, v1, v2, v3, y0, y1, y2, y3⟩ := K4.out.bv
          obtain ⟨_, a0, a1, a2, a3, x0, x1, x2, x3⟩ := K4.out.ba
          obtain ⟨r0, r1, r2, rf⟩ := K4.out.rb.cell
          have rf2 := rf 2
          clear rf
          go_upto_region 7 with fail
          generalize W4.setCell ⟨V, 3, none⟩ (.int .u64 0) = U4 at H4 ⊢
          clear v0 v1 v2 v3 y0 y1 y2 y3 a0 a1 a2 a3 x0 x1 x2 x3 r0 r1 r2 rf2
          obtain ⟨_, v0, v1, v2, v3, y0, y1, y2, y3⟩ := H4.out.bv
          obtain ⟨_, a0, a1, a2, a3, x0, x1, x2, x3⟩ := H4.out.ba
          obtain ⟨r0, r1, r2, rf⟩ := H4.out.rb.cell
          have rf2 := rf 2
          clear rf
          have HP := hide H4.out.spoil
          go_upto_region 9 with fail
          generalize U4.setCell ⟨g, 2, none⟩ (.bool true) = Y at HP ⊢
          clear v0 v1 v2 v3 y0 y1 y2 y3 a0 a1 a2 a3 x0 x1 x2 x3 r0 r1 r2 rf2
          obtain ⟨_, a0, a1, a2, a3, x0, x1, x2, x3⟩ := HP.out.ba
          have HS := hide (HP.out.ans g0)
          dsimp only [g0] at HS
          go_wp2
          exact bodyPost_ret (v := .agg #[.int .u64 0, .int .u64 0, .int .u64 0, .int .u64 0]) (by simp [results, Try.results20, go_sem, HS.out.1.c0, HS.out.1.c1, HS.out.1.c2, HS.out.1.c3]) rfl ⟨HS.out.2.2, rfl, _, HS.out.2.1⟩
        · have T1 := hide (fun W h => FOK.out u ⟨x, m, 0, 0⟩ (by omega) W h)
          by_cases h16 : (n : Int) - (u : Int) < 16
          · rw [if_pos h16] at F
            rw [F.out]
            unfold GotP
            have T2 := hide (fun W h => FNO.out (u + 8) ⟨x, m, n8 zs u 8, 0⟩ (by omega) (by omega) W h)
            generalize n8 zs u 8 = lo at *
            clear F hx0 h8 h16
            go_enter Try.func20, Try.ntmps20
            go_wp2_with fail
            rw [hA.out]
            rw [hV.out]
            with_reducible refine (N1.out _ H0.out).mono ?_
            rintro e W1 ⟨rfl, h⟩
            have K1 := hide h
            have H1 := hide (h.nans m)
            dsimp only at H1
            clear h
            obtain ⟨_, v0, v1, v2, v3, y0, y1, y2, y3⟩ := K1.out.bv
            obtain ⟨_, a0, a1, a2, a3, x0, x1, x2, x3⟩ := K1.out.ba
            obtain ⟨r0, r1, r2, rf⟩ := K1.out.rb.cell
            have rf2 := rf 2
            clear rf
            go_wp2_with fail
            clear v0 v1 v2 v3 y0 y1 y2 y3 a0 a1 a2 a3 x0 x1 x2 x3 r0 r1 r2 rf2
            with_reducible refine (N2.out _ H1.out).mono ?_
            rintro e W2 ⟨rfl, h⟩
            have K2 := hide h
            have H2 := hide (h.num x)
            dsimp only at H2
            clear h
            obtain ⟨_, v0, v1, v2, v3, y0, y1, y2, y3⟩ := K2.out.bv
            obtain ⟨_, a0, a1, a2, a3, x0, x1, x2, x3⟩ := K2.out.ba
            obtain ⟨r0, r1, r2, rf⟩ := K2.out.rb.cell
            have rf2 := rf 2
            clear rf
            go_upto_region 4 with fail
            generalize W2.setCell ⟨V, 0, none⟩ (.int .u64 x) = U2 at H2 ⊢
            clear v0 v1 v2 v3 y0 y1 y2 y3 a0 a1 a2 a3 x0 x1 x2 x3 r0 r1 r2 rf2
            obtain ⟨_, v0, v1, v2, v3, y0, y1, y2, y3⟩ := H2.out.bv
            obtain ⟨_, a0, a1, a2, a3, x0, x1, x2, x3⟩ := H2.out.ba
            obtain ⟨r0, r1, r2, rf⟩ := H2.out.rb.cell
            have rf2 := rf 2
            clear rf
            go_wp2_with fail
            clear v0 v1 v2 v3 y0 y1 y2 y3 a0 a1 a2 a3 x0 x1 x2 x3 r0 r1 r2 rf2
            with_reducible refine (T1.out _ H2.out).mono ?_
            rintro e W3 ⟨rfl, h⟩
            have K3 := hide h
            have H3 := hide (h.lo lo)
            dsimp only at H3
            clear h
            obtain ⟨_, v0, v1, v2, v3, y0, y1, y2, y3⟩ := K3.out.bv
            obtain ⟨_, a0, a1, a2, a3, x0, x1, x2, x3⟩ := K3.out.ba
            obtain ⟨r0, r1, r2, rf⟩ := K3.out.rb.cell
            have rf2 := rf 2
            clear rf
            go_wp2_with fail
            clear v0 v1 v2 v3 y0 y1 y2 y3 a0 a1 a2 a3 x0 x1 x2 x3 r0 r1 r2 rf2
            with_reducible refine (T2.out _ H3.out).mono ?_
            rintro e W4 ⟨rfl, h⟩
            have K4 := hide h
            have H4 := hide (h.hi 0)
            dsimp only at H4
            clear h
            obtain ⟨_, v0, v1, v2, v3, y0, y1, y2, y3⟩ := K4.out.bv
            obtain ⟨_, a0, a1, a2, a3, x0, x1, x2, x3⟩ := K4.out.ba
            obtain ⟨r0, r1, r2, rf⟩ := K4.out.rb.cell
            have rf2 := rf 2
            clear rf
            go_upto_region 7 with fail
            generalize W4.setCell ⟨V, 3, none⟩ (.int .u64 0) = U4 at H4 ⊢
            clear v0 v1 v2 v3 y0 y1 y2 y3 a0 a1 a2 a3 x0 x1 x2 x3 r0 r1 r2 rf2
            obtain ⟨_, v0, v1, v2, v3, y0, y1, y2, y3⟩ := H4.out.bv
            obtain ⟨_, a0, a1, a2, a3, x0, x1, x2, x3⟩ := H4.out.ba
            obtain ⟨r0, r1, r2, rf⟩ := H4.out.rb.cell
            have rf2 := rf 2
            clear rf
            have HP := hide H4.out.spoil
            go_upto_region 9 with fail
            generalize U4.setCell ⟨g, 2, none⟩ (.bool true) = Y at HP ⊢
            clear v0 v1 v2 v3 y0 y1 y2 y3 a0 a1 a2 a3 x0 x1 x2 x3 r0 r1 r2 rf2
            obtain ⟨_, a0, a1, a2, a3, x0, x1, x2, x3⟩ := HP.out.ba
            have HS := hide (HP.out.ans g0)
            dsimp only [g0] at HS
            go_wp2
            exact bodyPost_ret (v := .agg #[.int .u64 0, .int .u64 0, .int .u64 0, .int .u64 0]) (by simp [results, Try.results20, go_sem, HS.out.1.c0, HS.out.1.c1, HS.out.1.c2, HS.out.1.c3]) rfl ⟨HS.out.2.2, rfl, _, HS.out.2.1⟩
          · rw [if_neg h16] at F
            have T2 := hide (fun W h => FOK.out (u + 8) ⟨x, m, n8 zs u 8, 0⟩ (by omega) W h)
            have C := hide (fun W h => CHK.out ((u + 8 + 8 : Nat) : Int) ⟨x, m, n8 zs u 8, n8 zs (u + 8) 8⟩ ⟨hx, hm, n8_word hzb u, n8_word hzb (u + 8)⟩ W h)
            generalize n8 zs u 8 = lo at *
            generalize n8 zs (u + 8) 8 = hi at *
            clear hx0 h8 h16
            cases ec : chkG ⟨x, m, lo, hi⟩
            · rw [ec] at C F
              rw [if_neg (by decide)] at F
              rw [F.out]
              unfold GotP
              clear F ec
              go_enter Try.func20, Try.ntmps20
              go_wp2_with fail
              rw [hA.out]
              rw [hV.out]
              with_reducible refine (N1.out _ H0.out).mono ?_
              rintro e W1 ⟨rfl, h⟩
              have K1 := hide h
              have H1 := hide (h.nans m)
              dsimp only at H1
              clear h
              obtain ⟨_, v0, v1, v2, v3, y0, y1, y2, y3⟩ := K1.out.bv
              obtain ⟨_, a0, a1, a2, a3, x0, x1, x2, x3⟩ := K1.out.ba
              obtain ⟨r0, r1, r2, rf⟩ := K1.out.rb.cell
              have rf2 := rf 2
              clear rf
              go_wp2_with fail
              clear v0 v1 v2 v3 y0 y1 y2 y3 a0 a1 a2 a3 x0 x1 x2 x3 r0 r1 r2 rf2
              with_reducible refine (N2.out _ H1.out).mono ?_
              rintro e W2 ⟨rfl, h⟩
              have K2 := hide h
              have H2 := hide (h.num x)
              dsimp only at H2
              clear h
              obtain ⟨_, v0, v1, v2, v3, y0, y1, y2, y3⟩ := K2.out.bv
              obtain ⟨_, a0, a1, a2, a3, x0, x1, x2, x3⟩ := K2.out.ba
              obtain ⟨r0, r1, r2, rf⟩ := K2.out.rb.cell
              have rf2 := rf 2
              clear rf
              go_upto_region 4 with fail
              generalize W2.setCell ⟨V, 0, none⟩ (.int .u64 x) = U2 at H2 ⊢
              clear v0 v1 v2 v3 y0 y1 y2 y3 a0 a1 a2 a3 x0 x1 x2 x3 r0 r1 r2 rf2
              obtain ⟨_, v0, v1, v2, v3, y0, y1, y2, y3⟩ := H2.out.bv
              obtain ⟨_, a0, a1, a2, a3, x0, x1, x2, x3⟩ := H2.out.ba
              obtain ⟨r0, r1, r2, rf⟩ := H2.out.rb.cell
              have rf2 := rf 2
              clear rf
              go_wp2_with fail
              clear v0 v1 v2 v3 y0 y1 y2 y3 a0 a1 a2 a3 x0 x1 x2 x3 r0 r1 r2 rf2
              with_reducible refine (T1.out _ H2.out).mono ?_
              rintro e W3 ⟨rfl, h⟩
              have K3 := hide h
              have H3 := hide (h.lo lo)
              dsimp only at H3
              clear h
              obtain ⟨_, v0, v1, v2, v3, y0, y1, y2, y3⟩ := K3.out.bv
              obtain ⟨_, a0, a1, a2, a3, x0, x1, x2, x3⟩ := K3.out.ba
              obtain ⟨r0, r1, r2, rf⟩ := K3.out.rb.cell
              have rf2 := rf 2
              clear rf
              go_wp2_with fail
              clear v0 v1 v2 v3 y0 y1 y2 y3 a0 a1 a2 a3 x0 x1 x2 x3 r0 r1 r2 rf2
              with_reducible refine (T2.out _ H3.out).mono ?_
              rintro e W4 ⟨rfl, h⟩
              have K4 := hide h
              have H4 := hide (h.hi hi)
              dsimp only at H4
              clear h
              obtain ⟨_, v0, v1, v2, v3, y0, y1, y2, y3⟩ := K4.out.bv
              obtain ⟨_, a0, a1, a2, a3, x0, x1, x2, x3⟩ := K4.out.ba
              obtain ⟨r0, r1, r2, rf⟩ := K4.out.rb.cell
              have rf2 := rf 2
              clear rf
              go_upto_region 7 with fail
              generalize W4.setCell ⟨V, 3, none⟩ (.int .u64 hi) = U4 at H4 ⊢
              clear v0 v1 v2 v3 y0 y1 y2 y3 a0 a1 a2 a3 x0 x1 x2 x3 r0 r1 r2 rf2
              obtain ⟨_, v0, v1, v2, v3, y0, y1, y2, y3⟩ := H4.out.bv
              obtain ⟨_, a0, a1, a2, a3, x0, x1, x2, x3⟩ := H4.out.ba
              obtain ⟨r0, r1, r2, rf⟩ := H4.out.rb.cell
              have rf2 := rf 2
              clear rf
              go_wp2_with fail
              clear v0 v1 v2 v3 y0 y1 y2 y3 a0 a1 a2 a3 x0 x1 x2 x3 r0 r1 r2 rf2
              with_reducible refine (C.out _ H4.out).mono ?_
              rintro e W5 ⟨rfl, h⟩
              have H5 := hide h
              clear h
              obtain ⟨_, v0, v1, v2, v3, y0, y1, y2, y3⟩ := H5.out.bv
              obtain ⟨_, a0, a1, a2, a3, x0, x1, x2, x3⟩ := H5.out.ba
              obtain ⟨r0, r1, r2, rf⟩ := H5.out.rb.cell
              have rf2 := rf 2
              clear rf
              have HP := hide H5.out.spoil
              go_upto_region 9 with fail
              generalize W5.setCell ⟨g, 2, none⟩ (.bool true) = Y at HP ⊢
              clear v0 v1 v2 v3 y0 y1 y2 y3 a0 a1 a2 a3 x0 x1 x2 x3 r0 r1 r2 rf2
              obtain ⟨_, a0, a1, a2, a3, x0, x1, x2, x3⟩ := HP.out.ba
              have HS := hide (HP.out.ans g0)
              dsimp only [g0] at HS
              go_wp2
              exact bodyPost_ret (v := .agg #[.int .u64 0, .int .u64 0, .int .u64 0, .int .u64 0]) (by simp [results, Try.results20, go_sem, HS.out.1.c0, HS.out.1.c1, HS.out.1.c2, HS.out.1.c3]) rfl ⟨HS.out.2.2, rfl, _, HS.out.2.1⟩
            · rw [ec] at C F
              rw [if_pos rfl] at F
              rw [F.out]
              unfold GotP
              clear F ec
              go_enter Try.func20, Try.ntmps20
              go_wp2_with fail
              rw [hA.out]
              rw [hV.out]
              with_reducible refine (N1.out _ H0.out).mono ?_
              rintro e W1 ⟨rfl, h⟩
              have K1 := hide h
              have H1 := hide (h.nans m)
              dsimp only at H1
              clear h
              obtain ⟨_, v0, v1, v2, v3, y0, y1, y2, y3⟩ := K1.out.bv
              obtain ⟨_, a0, a1, a2, a3, x0, x1, x2, x3⟩ := K1.out.ba
              obtain ⟨r0, r1, r2, rf⟩ := K1.out.rb.cell
              have rf2 := rf 2
              clear rf
              go_wp2_with fail
              clear v0 v1 v2 v3 y0 y1 y2 y3 a0 a1 a2 a3 x0 x1 x2 x3 r0 r1 r2 rf2
              with_reducible refine (N2.out _ H1.out).mono ?_
              rintro e W2 ⟨rfl, h⟩
              have K2 := hide h
              have H2 := hide (h.num x)
              dsimp only at H2
              clear h
              obtain ⟨_, v0, v1, v2, v3, y0, y1, y2, y3⟩ := K2.out.bv
              obtain ⟨_, a0, a1, a2, a3, x0, x1, x2, x3⟩ := K2.out.ba
              obtain ⟨r0, r1, r2, rf⟩ := K2.out.rb.cell
              have rf2 := rf 2
              clear rf
              go_upto_region 4 with fail
              generalize W2.setCell ⟨V, 0, none⟩ (.int .u64 x) = U2 at H2 ⊢
              clear v0 v1 v2 v3 y0 y1 y2 y3 a0 a1 a2 a3 x0 x1 x2 x3 r0 r1 r2 rf2
              obtain ⟨_, v0, v1, v2, v3, y0, y1, y2, y3⟩ := H2.out.bv
              obtain ⟨_, a0, a1, a2, a3, x0, x1, x2, x3⟩ := H2.out.ba
              obtain ⟨r0, r1, r2, rf⟩ := H2.out.rb.cell
              have rf2 := rf 2
              clear rf
              go_wp2_with fail
              clear v0 v1 v2 v3 y0 y1 y2 y3 a0 a1 a2 a3 x0 x1 x2 x3 r0 r1 r2 rf2
              with_reducible refine (T1.out _ H2.out).mono ?_
              rintro e W3 ⟨rfl, h⟩
              have K3 := hide h
              have H3 := hide (h.lo lo)
              dsimp only at H3
              clear h
              obtain ⟨_, v0, v1, v2, v3, y0, y1, y2, y3⟩ := K3.out.bv
              obtain ⟨_, a0, a1, a2, a3, x0, x1, x2, x3⟩ := K3.out.ba
              obtain ⟨r0, r1, r2, rf⟩ := K3.out.rb.cell
              have rf2 := rf 2
              clear rf
              go_wp2_with fail
              clear v0 v1 v2 v3 y0 y1 y2 y3 a0 a1 a2 a3 x0 x1 x2 x3 r0 r1 r2 rf2
              with_reducible refine (T2.out _ H3.out).mono ?_
              rintro e W4 ⟨rfl, h⟩
              have K4 := hide h
              have H4 := hide (h.hi hi)
              dsimp only at H4
              clear h
              obtain ⟨_, v0, v1, v2, v3, y0, y1, y2, y3⟩ := K4.out.bv
              obtain ⟨_, a0, a1, a2, a3, x0, x1, x2, x3⟩ := K4.out.ba
              obtain ⟨r0, r1, r2, rf⟩ := K4.out.rb.cell
              have rf2 := rf 2
              clear rf
              go_upto_region 7 with fail
              generalize W4.setCell ⟨V, 3, none⟩ (.int .u64 hi) = U4 at H4 ⊢
              clear v0 v1 v2 v3 y0 y1 y2 y3 a0 a1 a2 a3 x0 x1 x2 x3 r0 r1 r2 rf2
              obtain ⟨_, v0, v1, v2, v3, y0, y1, y2, y3⟩ := H4.out.bv
              obtain ⟨_, a0, a1, a2, a3, x0, x1, x2, x3⟩ := H4.out.ba
              obtain ⟨r0, r1, r2, rf⟩ := H4.out.rb.cell
              have rf2 := rf 2
              clear rf
              go_wp2_with fail
              clear v0 v1 v2 v3 y0 y1 y2 y3 a0 a1 a2 a3 x0 x1 x2 x3 r0 r1 r2 rf2
              with_reducible refine (C.out _ H4.out).mono ?_
              rintro e W5 ⟨rfl, h⟩
              have H5 := hide h
              clear h
              obtain ⟨_, v0, v1, v2, v3, y0, y1, y2, y3⟩ := H5.out.bv
              obtain ⟨_, a0, a1, a2, a3, x0, x1, x2, x3⟩ := H5.out.ba
              obtain ⟨r0, r1, r2, rf⟩ := H5.out.rb.cell
              have rf2 := rf 2
              clear rf
              have HS := hide (H5.out.ans ⟨x, m, lo, hi⟩)
              dsimp only at HS
              go_wp2
              exact bodyPost_ret (v := .agg #[.int .u64 x, .int .u64 m, .int .u64 lo, .int .u64 hi]) (by simp [results, Try.results20, go_sem, HS.out.1.c0, HS.out.1.c1, HS.out.1.c2, HS.out.1.c3]) rfl ⟨HS.out.2.2, rfl, HS.out.2.1⟩
end Go.Proofs.Ytnhjjdgdffjdcaa
