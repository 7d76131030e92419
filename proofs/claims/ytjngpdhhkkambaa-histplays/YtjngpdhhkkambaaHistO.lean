/-
  What the law's shell hands on of a slice of calls (a kind, two words, a slice of buckets each) that came in.
  Conditions: none.
-/
import Derived.Test.YtjngpdhhkkambaaHistW
import Derived.SizedLaws
namespace Go.Proofs.Ytjngpdhhkkambaa
open Go.RowKit Go.ChangeShapes Go.Deep

/-- A call. -/
structure OpD where
  kind : Int
  v : Int
  n : Int
  la : Option Addr
  ll : Nat
  lc : Nat
  l : Bks
/-- A call of nothing. -/
def OpD.nil : OpD := ⟨0, 0, 0, none, 0, 0, []⟩
/-- Its four cells from a place on. -/
def OpAt (w : World) (b off : Nat) (x : OpD) : Prop :=
  w.cell? ⟨b, off, none⟩ = some (.int .i64 x.kind) ∧ w.cell? ⟨b, off + 1, none⟩ = some (.int .u64 x.v) ∧ w.cell? ⟨b, off + 2, none⟩ = some (.int .u64 x.n) ∧ w.cell? ⟨b, off + 3, none⟩ = some (.slice x.la x.ll x.lc)
/-- What the walk is told of a slice of calls. -/
def IsOps (w : World) (a : Option Addr) (len cap : Nat) (xs : List OpD) : Prop :=
  cap * 48 ≤ 140737488351232 ∧ len ≤ cap ∧ (a = none → len = 0 ∧ cap = 0) ∧ xs.length = len ∧ (∀ x ∈ xs, (Lit.int .i64 x.kind).wf = true ∧ (Lit.int .u64 x.v).wf = true ∧ (Lit.int .u64 x.n).wf = true ∧ IsBks w x.la x.ll x.lc x.l) ∧
  (len = 0 ∨ ∃ b off, a = some ⟨b, off, none⟩ ∧ ∀ i, i < len → OpAt w b (off + i * 4) (xs.getD i OpD.nil))

theorem ops_fields : ∃ f0 f1 f2 f3 : Field, Try.prog.underlying 38 = some (.struct #[f0, f1, f2, f3]) ∧ f0.offset = 0 ∧ f1.offset = 1 ∧ f2.offset = 2 ∧ f3.offset = 3 ∧ f0.type = 3 ∧ f1.type = 22 ∧ f2.type = 22 ∧ f3.type = 29 := by
  rw [Try.underlying38]
  exact ⟨_, _, _, _, rfl, rfl, rfl, rfl, rfl, rfl, rfl, rfl, rfl⟩

theorem weights_all {H : Type} {P : Program} {e : TypeId} {l : List (DataW H)} {d : DataW H} (hd : d ∈ l) {n : Nat} (hn : n ∈ d.weights P e) : n ∈ DataW.weightsAll P e l := by
  induction l with
  | nil => cases hd
  | cons x r ih =>
    simp only [DataW.weightsAll, List.mem_append]
    rcases List.mem_cons.1 hd with rfl | h
    · exact Or.inl hn
    · exact Or.inr (ih h)
/-- The reach of a slice of buckets inside a call. -/
theorem sized_op {H : Type} {ts : List TypeId} {ds : List (DataW H)} (h : (DataW.weightsEach Try.prog ts ds).all (· ≤ reachBytes) = true) {j : Nat} {elems spare e' sp' : List (DataW H)} {d0 d1 d2 : DataW H}
    (ht : ts[j]? = some 30) (hd : ds[j]? = some (.slice elems spare)) (hx : DataW.agg [d0, d1, d2, .slice e' sp'] ∈ elems) : (e'.length + sp'.length) * 16 ≤ 140737488351232 := by
  obtain ⟨f0, f1, f2, f3, hu, _, _, _, _, t0, t1, t2, t3⟩ := ops_fields
  have hm : (e'.length + sp'.length) * 16 ∈ (DataW.agg [d0, d1, d2, .slice e' sp']).weights Try.prog 38 := by
    simp only [DataW.weights, hu, List.map_cons, List.map_nil, DataW.weightsEach, List.mem_append, t3]
    right; right; right; left
    simp only [Try.underlying29]
    rw [show Try.prog.bytesOf 62 = 16 from by kernel_rfl]
    exact List.mem_cons_self ..
  have h2 : (e'.length + sp'.length) * 16 ≤ reachBytes := by
    refine of_decide_eq_true (List.all_eq_true.1 h _ (DataW.weights_mem_each ht hd _ ?_))
    simp only [DataW.weights, Try.underlying30, List.mem_cons, List.mem_append]
    exact Or.inr (Or.inl (weights_all hx hm))
  simpa only [reachBytes] using h2

theorem ops_open {H : Type} {enc : TypeId × Value → H} {W : World} {fuel : Nat} {a : Option Addr} {len cap : Nat} {x : DataW H × List MemPlace} {ts : List TypeId} {ds : List (DataW H)} (h : (DataW.weightsEach Try.prog ts ds).all (· ≤ reachBytes) = true) {j : Nat} (ht : ts[j]? = some 30) (hd : ds[j]? = some x.1)
    (hf : DataW.trod enc Try.prog W 0 (fun _ => true) true fuel 30 [.slice a len cap] = some x) : ∃ xs, IsOps W a len cap xs := by
  obtain ⟨f0, f1, f2, f3, hu, o0, o1, o2, o3, t0, t1, t2, t3⟩ := ops_fields
  rcases open_slice Try.underlying30 hf with ⟨hcs, _⟩ | ⟨ad, l', c', m, n, D, Pl, hcs, _, hl, _, hm, rfl, hx⟩
  · simp at hcs
    obtain ⟨rfl, rfl, rfl⟩ := hcs
    exact ⟨[], by decide, by decide, fun _ => ⟨rfl, rfl⟩, rfl, by simp, Or.inl rfl⟩
  · simp at hcs
    obtain ⟨rfl, rfl, rfl⟩ := hcs
    simp only [if_true] at hm
    subst hm
    have hsz := sized_slice h (j := j) (t := 30) (e := 38) ht hd Try.underlying30
    rw [show Try.prog.bytesOf 38 = 48 from by kernel_rfl] at hsz
    simp only [List.length_map, List.length_range, reachBytes] at hsz
    have each : ∀ i, i < len → ∃ y : OpD, (∀ k v, [Value.int .i64 y.kind, .int .u64 y.v, .int .u64 y.n, .slice y.la y.ll y.lc][k]? = some v → W.cell? (ad.add (i * 4 + k)) = some v) ∧ (Lit.int .i64 y.kind).wf = true ∧ (Lit.int .u64 y.v).wf = true ∧ (Lit.int .u64 y.n).wf = true ∧ IsBks W y.la y.ll y.lc y.l := by
      intro i hi
      obtain ⟨cs', h1, h2⟩ := hx i (by omega)
      rw [show Try.prog.cellsOf 38 = 4 from by kernel_rfl] at h1
      obtain ⟨_, hlen, hcell⟩ := World.cells?_some h1
      obtain ⟨ys, k, _, hxy, _, hxl, hfl⟩ := DataW.trod_struct hu h2
      match ys, hxl, cs', hlen with
      | [y0, y1, y2, y3], _, [v0, v1, v2, v3], _ =>
        have g0 := hfl 0 f0 rfl
        have g1 := hfl 1 f1 rfl
        have g2 := hfl 2 f2 rfl
        have g3 := hfl 3 f3 rfl
        rw [o0, t0, show Try.prog.cellsOf 3 = 1 from by kernel_rfl] at g0
        rw [o1, t1, show Try.prog.cellsOf 22 = 1 from by kernel_rfl] at g1
        rw [o2, t2, show Try.prog.cellsOf 22 = 1 from by kernel_rfl] at g2
        rw [o3, t3, show Try.prog.cellsOf 29 = 1 from by kernel_rfl] at g3
        simp at g0 g1 g2 g3
        obtain ⟨z0, e0, _, w0⟩ := DataW.trod_int Try.underlying3 g0
        obtain ⟨z1, e1, _, w1⟩ := DataW.trod_int Try.underlying22 g1
        obtain ⟨z2, e2, _, w2⟩ := DataW.trod_int Try.underlying22 g2
        simp at e0 e1 e2
        have hD : D i = .agg [y0.1, y1.1, y2.1, y3.1] := by
          simp only [Prod.mk.injEq] at hxy
          simpa using hxy.1
        have hmem : DataW.agg [y0.1, y1.1, y2.1, y3.1] ∈ (List.range len).map D := List.mem_map.2 ⟨i, List.mem_range.2 hi, hD⟩
        have hsl : ∃ la ll lc, v3 = .slice la ll lc := by
          rcases open_slice Try.underlying29 g3 with ⟨hc3, _⟩ | ⟨_, _, _, _, _, _, _, hc3, _⟩
          · simp at hc3; exact ⟨_, _, _, hc3⟩
          · simp at hc3; exact ⟨_, _, _, hc3⟩
        obtain ⟨la, ll, lc, rfl⟩ := hsl
        have hcells : ∀ k v, [v0, v1, v2, Value.slice la ll lc][k]? = some v → W.cell? (ad.add (i * 4 + k)) = some v := by
          intro k v hv
          have hk : k < 4 := (List.getElem?_eq_some_iff.1 hv).1
          have := hcell k (by omega)
          rw [add_add] at this
          rw [this, hv]
        rw [e0, e1, e2] at hcells
        rcases bks_trod g3 with ⟨rfl, rfl, rfl⟩ | ⟨ad', l, elems, spare, rfl, hl', h1', h2', hd', hm', hc'⟩
        · have hb0 : IsBks W none 0 0 [] := ⟨by decide, by decide, fun _ => ⟨rfl, rfl⟩, rfl, by decide, by simp, Or.inl rfl⟩
          exact ⟨⟨z0, z1, z2, none, 0, 0, []⟩, hcells, w0, w1, w2, hb0⟩
        · simp only [if_true] at hm'
          rw [hd'] at hmem
          have hs' := sized_op h ht hd hmem
          rw [hm'] at hs'
          have hb1 : IsBks W (some ad') ll lc l := ⟨hs', hl', fun h => by simp at h, bks_row h1' (by omega) h2' hc'⟩
          exact ⟨⟨z0, z1, z2, some ad', ll, lc, l⟩, hcells, w0, w1, w2, hb1⟩
    have hall : ∀ k, k ≤ len → ∃ xs : List OpD, xs.length = k ∧ (∀ x ∈ xs, (Lit.int .i64 x.kind).wf = true ∧ (Lit.int .u64 x.v).wf = true ∧ (Lit.int .u64 x.n).wf = true ∧ IsBks W x.la x.ll x.lc x.l) ∧ ∀ i, i < k → ∀ q v, [Value.int .i64 (xs.getD i OpD.nil).kind, .int .u64 (xs.getD i OpD.nil).v, .int .u64 (xs.getD i OpD.nil).n, .slice (xs.getD i OpD.nil).la (xs.getD i OpD.nil).ll (xs.getD i OpD.nil).lc][q]? = some v → W.cell? (ad.add (i * 4 + q)) = some v := by
      intro k
      induction k with
      | zero => intro _; exact ⟨[], rfl, by simp, fun i hi => by omega⟩
      | succ k ih =>
        intro hk
        obtain ⟨xs, h1, h2, h3⟩ := ih (by omega)
        obtain ⟨y, g1, g2⟩ := each k (by omega)
        refine ⟨xs ++ [y], by simp [h1], ?_, fun i hi => ?_⟩
        · intro z hz
          rcases List.mem_append.1 hz with hz | hz
          · exact h2 z hz
          · simp at hz; subst hz; exact g2
        · by_cases hik : i < k
          · have e : (xs ++ [y]).getD i OpD.nil = xs.getD i OpD.nil := by
              rw [List.getD_eq_getElem?_getD, List.getElem?_append_left (by omega), ← List.getD_eq_getElem?_getD]
            rw [e]; exact h3 i hik
          · have : i = k := by omega
            subst this
            have e : (xs ++ [y]).getD i OpD.nil = y := by
              rw [List.getD_eq_getElem?_getD, List.getElem?_append_right (by omega), h1]
              simp
            rw [e]; exact g1
    obtain ⟨xs, h1, h2, h3⟩ := hall len (Nat.le_refl _)
    refine ⟨xs, by omega, hl, fun h => by simp at h, h1, h2, ?_⟩
    by_cases h0 : len = 0
    · exact Or.inl h0
    · right
      obtain ⟨b, off, spot⟩ := ad
      have hs : spot = none := by simpa [Addr.add] using World.cell?_spot (h3 0 (by omega) 0 _ rfl)
      subst hs
      refine ⟨b, off, rfl, fun i hi => ?_⟩
      have c0 := h3 i hi 0 _ rfl
      have c1 := h3 i hi 1 _ rfl
      have c2 := h3 i hi 2 _ rfl
      have c3 := h3 i hi 3 _ rfl
      rw [Addr.add_lit] at c0 c1 c2 c3
      exact ⟨c0, c1, c2, c3⟩
end Go.Proofs.Ytjngpdhhkkambaa
