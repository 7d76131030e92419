/-
  What the law's shell hands on of a slice of calls (a kind, a text, a word, a slice of words each) that came in.
  Conditions: none.
-/
import Derived.Test.YtlhiikibbppodaaKmvA
import Derived.ChangeSlices
import Derived.ChangeArms
import Derived.Deep.SlicePairs
import Derived.OpenShut
import Derived.SizedLaws
namespace Go.Proofs.Ytlhiikibbppodaa
open Go.RowKit Go.ChangeShapes Go.Deep

/-- A call. -/
structure OpK where
  kind : Int
  s : ByteArray
  h : Int
  la : Option Addr
  ll : Nat
  lc : Nat
  l : List Int
/-- A call of nothing. -/
def OpK.nil : OpK := ⟨0, .empty, 0, none, 0, 0, []⟩
/-- Its four cells from a place on. -/
def OpAtK (w : World) (b off : Nat) (x : OpK) : Prop :=
  w.cell? ⟨b, off, none⟩ = some (.int .i64 x.kind) ∧ w.cell? ⟨b, off + 1, none⟩ = some (.string x.s) ∧ w.cell? ⟨b, off + 2, none⟩ = some (.int .u64 x.h) ∧ w.cell? ⟨b, off + 3, none⟩ = some (.slice x.la x.ll x.lc)
/-- What the walk is told of a slice of calls. -/
def IsOpsK (w : World) (a : Option Addr) (len cap : Nat) (xs : List OpK) : Prop :=
  cap * 56 ≤ 140737488351232 ∧ len ≤ cap ∧ (a = none → len = 0 ∧ cap = 0) ∧ xs.length = len ∧ (∀ x ∈ xs, (Lit.int .i64 x.kind).wf = true ∧ x.s.size ≤ maxLen ∧ (Lit.int .u64 x.h).wf = true ∧ IsRow .u64 w x.la x.ll x.lc x.l) ∧
  (len = 0 ∨ ∃ b off, a = some ⟨b, off, none⟩ ∧ ∀ i, i < len → OpAtK w b (off + i * 4) (xs.getD i OpK.nil))

theorem opsK_fields : ∃ f0 f1 f2 f3 : Field, Try.prog.underlying 33 = some (.struct #[f0, f1, f2, f3]) ∧ f0.offset = 0 ∧ f1.offset = 1 ∧ f2.offset = 2 ∧ f3.offset = 3 ∧ f0.type = 3 ∧ f1.type = 9 ∧ f2.type = 31 ∧ f3.type = 22 := by
  rw [Try.underlying33]
  exact ⟨_, _, _, _, rfl, rfl, rfl, rfl, rfl, rfl, rfl, rfl, rfl⟩

theorem weights_allK {H : Type} {P : Program} {e : TypeId} {l : List (DataW H)} {d : DataW H} (hd : d ∈ l) {n : Nat} (hn : n ∈ d.weights P e) : n ∈ DataW.weightsAll P e l := by
  induction l with
  | nil => cases hd
  | cons x r ih =>
    simp only [DataW.weightsAll, List.mem_append]
    rcases List.mem_cons.1 hd with rfl | h
    · exact Or.inl hn
    · exact Or.inr (ih h)
/-- The reach of a slice of words inside a call. -/
theorem sized_opK {H : Type} {ts : List TypeId} {ds : List (DataW H)} (h : (DataW.weightsEach Try.prog ts ds).all (· ≤ reachBytes) = true) {j : Nat} {elems spare e' sp' : List (DataW H)} {d0 d1 d2 : DataW H}
    (ht : ts[j]? = some 23) (hd : ds[j]? = some (.slice elems spare)) (hx : DataW.agg [d0, d1, d2, .slice e' sp'] ∈ elems) : (e'.length + sp'.length) * 8 ≤ 140737488351232 := by
  obtain ⟨f0, f1, f2, f3, hu, _, _, _, _, t0, t1, t2, t3⟩ := opsK_fields
  have hm : (e'.length + sp'.length) * 8 ∈ (DataW.agg [d0, d1, d2, .slice e' sp']).weights Try.prog 33 := by
    simp only [DataW.weights, hu, List.map_cons, List.map_nil, DataW.weightsEach, List.mem_append, t3]
    right; right; right; left
    simp only [Try.underlying22]
    rw [show Try.prog.bytesOf 31 = 8 from by kernel_rfl]
    exact List.mem_cons_self ..
  have h2 : (e'.length + sp'.length) * 8 ≤ reachBytes := by
    refine of_decide_eq_true (List.all_eq_true.1 h _ (DataW.weights_mem_each ht hd _ ?_))
    simp only [DataW.weights, Try.underlying23, List.mem_cons, List.mem_append]
    exact Or.inr (Or.inl (weights_allK hx hm))
  simpa only [reachBytes] using h2

set_option maxRecDepth 20000 in
theorem opsK_open {H : Type} {enc : TypeId × Value → H} {W : World} {fuel : Nat} {a : Option Addr} {len cap : Nat} {x : DataW H × List MemPlace} {ts : List TypeId} {ds : List (DataW H)} (h : (DataW.weightsEach Try.prog ts ds).all (· ≤ reachBytes) = true) {j : Nat} (ht : ts[j]? = some 23) (hd : ds[j]? = some x.1)
    (hf : DataW.trod enc Try.prog W 0 (fun _ => true) true fuel 23 [.slice a len cap] = some x) : ∃ xs, IsOpsK W a len cap xs := by
  obtain ⟨f0, f1, f2, f3, hu, o0, o1, o2, o3, t0, t1, t2, t3⟩ := opsK_fields
  rcases open_slice Try.underlying23 hf with ⟨hcs, _⟩ | ⟨ad, l', c', m, n, D, Pl, hcs, _, hl, _, hm, rfl, hx⟩
  · simp at hcs
    obtain ⟨rfl, rfl, rfl⟩ := hcs
    exact ⟨[], by decide, by decide, fun _ => ⟨rfl, rfl⟩, rfl, by simp, Or.inl rfl⟩
  · simp at hcs
    obtain ⟨rfl, rfl, rfl⟩ := hcs
    simp only [if_true] at hm
    subst hm
    have hsz := sized_slice h (j := j) (t := 23) (e := 33) ht hd Try.underlying23
    rw [show Try.prog.bytesOf 33 = 56 from by kernel_rfl] at hsz
    simp only [List.length_map, List.length_range, reachBytes] at hsz
    have each : ∀ i, i < len → ∃ y : OpK, (∀ k v, [Value.int .i64 y.kind, .string y.s, .int .u64 y.h, .slice y.la y.ll y.lc][k]? = some v → W.cell? (ad.add (i * 4 + k)) = some v) ∧ (Lit.int .i64 y.kind).wf = true ∧ y.s.size ≤ maxLen ∧ (Lit.int .u64 y.h).wf = true ∧ IsRow .u64 W y.la y.ll y.lc y.l := by
      intro i hi
      obtain ⟨cs', h1, h2⟩ := hx i (by omega)
      rw [show Try.prog.cellsOf 33 = 4 from by kernel_rfl] at h1
      obtain ⟨_, hlen, hcell⟩ := World.cells?_some h1
      obtain ⟨ys, k, _, hxy, _, hxl, hfl⟩ := DataW.trod_struct hu h2
      match ys, hxl, cs', hlen with
      | [y0, y1, y2, y3], _, [v0, v1, v2, v3], _ =>
        have g0 := hfl 0 f0 rfl
        have g1 := hfl 1 f1 rfl
        have g2 := hfl 2 f2 rfl
        have g3 := hfl 3 f3 rfl
        rw [o0, t0, show Try.prog.cellsOf 3 = 1 from by kernel_rfl] at g0
        rw [o1, t1, show Try.prog.cellsOf 9 = 1 from by kernel_rfl] at g1
        rw [o2, t2, show Try.prog.cellsOf 31 = 1 from by kernel_rfl] at g2
        rw [o3, t3, show Try.prog.cellsOf 22 = 1 from by kernel_rfl] at g3
        simp at g0 g1 g2 g3
        obtain ⟨z0, e0, _, w0⟩ := DataW.trod_int Try.underlying3 g0
        obtain ⟨z1, e1, _, w1⟩ := DataW.trod_string Try.underlying9 g1
        obtain ⟨z2, e2, _, w2⟩ := DataW.trod_int Try.underlying31 g2
        simp at e0 e1 e2
        have hD : D i = .agg [y0.1, y1.1, y2.1, y3.1] := by
          simp only [Prod.mk.injEq] at hxy
          simpa using hxy.1
        have hmem : DataW.agg [y0.1, y1.1, y2.1, y3.1] ∈ (List.range len).map D := List.mem_map.2 ⟨i, List.mem_range.2 hi, hD⟩
        have hsl : ∃ la ll lc, v3 = .slice la ll lc := by
          rcases open_slice Try.underlying22 g3 with ⟨hc3, _⟩ | ⟨_, _, _, _, _, _, _, hc3, _⟩
          · simp at hc3; exact ⟨_, _, _, hc3⟩
          · simp at hc3; exact ⟨_, _, _, hc3⟩
        obtain ⟨la, ll, lc, rfl⟩ := hsl
        have hcells : ∀ k v, [v0, v1, v2, Value.slice la ll lc][k]? = some v → W.cell? (ad.add (i * 4 + k)) = some v := by
          intro k v hv
          have hk : k < 4 := (List.getElem?_eq_some_iff.1 hv).1
          have := hcell k (by omega)
          rw [add_add] at this
          rw [this, hv]
        rw [e0, e1, e2] at hcells
        rcases open_ints Try.underlying22 Try.underlying31 (by kernel_rfl) g3 with ⟨hc3, _⟩ | ⟨x', l', c', zs, hc3, _, hl', hm', hz', hx', hcell', hwz⟩
        · simp at hc3
          obtain ⟨rfl, rfl, rfl⟩ := hc3
          have hb0 : IsRow .u64 W none 0 0 [] := ⟨by decide, .inl ⟨rfl, rfl, rfl, rfl⟩⟩
          exact ⟨⟨z0, z1, z2, none, 0, 0, []⟩, hcells, w0, w1, w2, hb0⟩
        · simp at hc3
          obtain ⟨rfl, rfl, rfl⟩ := hc3
          have hd' := congrArg Prod.fst hx'
          simp only at hd'
          rw [hd'] at hmem
          have hs' := sized_opK h ht hd hmem
          simp only [lits, List.length_map, List.length_take, List.length_drop] at hs'
          have hzc : zs.length = lc := by simpa using hz'
          have hb1 : IsRow .u64 W (some x') ll lc zs := ⟨by show lc * 8 ≤ _; omega, .inr ⟨_, rfl, hl', hm', hzc, hcell', hwz⟩⟩
          exact ⟨⟨z0, z1, z2, some x', ll, lc, zs⟩, hcells, w0, w1, w2, hb1⟩
    have hall : ∀ k, k ≤ len → ∃ xs : List OpK, xs.length = k ∧ (∀ x ∈ xs, (Lit.int .i64 x.kind).wf = true ∧ x.s.size ≤ maxLen ∧ (Lit.int .u64 x.h).wf = true ∧ IsRow .u64 W x.la x.ll x.lc x.l) ∧ ∀ i, i < k → ∀ q v, [Value.int .i64 (xs.getD i OpK.nil).kind, .string (xs.getD i OpK.nil).s, .int .u64 (xs.getD i OpK.nil).h, .slice (xs.getD i OpK.nil).la (xs.getD i OpK.nil).ll (xs.getD i OpK.nil).lc][q]? = some v → W.cell? (ad.add (i * 4 + q)) = some v := by
      intro k
      induction k with
      | zero => intro _; exact ⟨[], rfl, by simp, fun i hi => by omega⟩
      | succ k ih =>
        intro hk
        obtain ⟨xs, h1, h2, h3⟩ := ih (by omega)
        obtain ⟨y, g1, g2⟩ := each k (by omega)
        refine ⟨xs ++ [y], by simp [h1], ?_, fun i hi => ?_⟩
        · intro z hz
          rcases List.mem_append.1 hz with hz | hz
          · exact h2 z hz
          · simp at hz; subst hz; exact g2
        · by_cases hik : i < k
          · have e : (xs ++ [y]).getD i OpK.nil = xs.getD i OpK.nil := by
              rw [List.getD_eq_getElem?_getD, List.getElem?_append_left (by omega), ← List.getD_eq_getElem?_getD]
            rw [e]; exact h3 i hik
          · have : i = k := by omega
            subst this
            have e : (xs ++ [y]).getD i OpK.nil = y := by
              rw [List.getD_eq_getElem?_getD, List.getElem?_append_right (by omega), h1]
              simp
            rw [e]; exact g1
    obtain ⟨xs, h1, h2, h3⟩ := hall len (Nat.le_refl _)
    refine ⟨xs, by omega, hl, fun h => by simp at h, h1, h2, ?_⟩
    by_cases h0 : len = 0
    · exact Or.inl h0
    · right
      obtain ⟨b, off, spot⟩ := ad
      have hs : spot = none := by simpa [Addr.add] using World.cell?_spot (h3 0 (by omega) 0 _ rfl)
      subst hs
      refine ⟨b, off, rfl, fun i hi => ?_⟩
      have c0 := h3 i hi 0 _ rfl
      have c1 := h3 i hi 1 _ rfl
      have c2 := h3 i hi 2 _ rfl
      have c3 := h3 i hi 3 _ rfl
      rw [Addr.add_lit] at c0 c1 c2 c3
      exact ⟨c0, c1, c2, c3⟩
end Go.Proofs.Ytlhiikibbppodaa
