/-
  What the law's shell hands on of a slice of calls (four numbers, bytes, numbers each), and of a slice of slices of bytes, that came in (written by gen/vfsv.gen.py).
  Conditions: none.
-/
import Derived.Test.YthlkmjaflomflaaGreatVfsDm
import Derived.ChangeSlices
import Derived.ChangeArms
import Derived.Deep.SlicePairs
import Derived.OpenShut
import Derived.SizedLaws
import Derived.Lib.SmallJoins
import Derived.Deep.Strs
namespace Go.Proofs.YthlkmjaflomflaaGreat
open Go.RowKit Go.ChangeShapes Go.WideShapes Go.Deep Go.Joins
set_option maxRecDepth 20000
set_option linter.unusedVariables false

theorem weightsAll_inV {H : Type} {P : Program} {e : TypeId} : ∀ {l : List (DataW H)} {d : DataW H}, d ∈ l → ∀ n ∈ d.weights P e, n ∈ DataW.weightsAll P e l
  | y :: r, d, h, n, hn => by
    simp only [DataW.weightsAll, List.mem_append]
    rcases List.mem_cons.1 h with rfl | h
    · exact Or.inl hn
    · exact Or.inr (weightsAll_inV h n hn)
theorem i64s16_is {H : Type} {enc : TypeId × Value → H} {W : World} {fuel : Nat} {v : Value} {x : DataW H × List MemPlace} (hf : DataW.trod enc Tryz.prog W 0 (fun _ => true) true fuel 34 [v] = some x)
    (hw : ∀ n ∈ x.1.weights Tryz.prog 34, n ≤ reachBytes) : ∃ a len cap zs, v = .slice a len cap ∧ IsRow .i64 W a len cap zs ∧ cap * 8 ≤ 140737488351232 := by
  rcases open_ints Tryz.underlying34 Tryz.underlying3 (by kernel_rfl) hf with ⟨hcs, _⟩ | ⟨ad, l, c, zs, hcs, _, hl, hm, hz, hx, hcell, hwz⟩
  · exact ⟨none, 0, 0, [], by simpa using hcs, ⟨by decide, .inl ⟨rfl, rfl, rfl, rfl⟩⟩, by decide⟩
  · have hd := congrArg Prod.fst hx
    simp only at hd
    have hs := hw _ (by rw [hd]; simp only [DataW.weights, Tryz.underlying34]; exact List.mem_cons_self ..)
    rw [show Tryz.prog.bytesOf 3 = 8 from by kernel_rfl] at hs
    simp only [lits, List.length_map, List.length_take, List.length_drop, reachBytes] at hs
    have hzc : zs.length = c := by simpa using hz
    exact ⟨_, l, c, zs, by simpa using hcs, ⟨by show c * 1 ≤ _; omega, .inr ⟨_, rfl, hl, hm, hzc, hcell, hwz⟩⟩, by omega⟩
theorem u8s16_is {H : Type} {enc : TypeId × Value → H} {W : World} {fuel : Nat} {v : Value} {x : DataW H × List MemPlace} (hf : DataW.trod enc Tryz.prog W 0 (fun _ => true) true fuel 33 [v] = some x)
    (hw : ∀ n ∈ x.1.weights Tryz.prog 33, n ≤ reachBytes) : ∃ a len cap zs, v = .slice a len cap ∧ IsRow .u8 W a len cap zs ∧ cap * 1 ≤ 140737488351232 := by
  rcases open_ints Tryz.underlying33 Tryz.underlying5 (by kernel_rfl) hf with ⟨hcs, _⟩ | ⟨ad, l, c, zs, hcs, _, hl, hm, hz, hx, hcell, hwz⟩
  · exact ⟨none, 0, 0, [], by simpa using hcs, ⟨by decide, .inl ⟨rfl, rfl, rfl, rfl⟩⟩, by decide⟩
  · have hd := congrArg Prod.fst hx
    simp only at hd
    have hs := hw _ (by rw [hd]; simp only [DataW.weights, Tryz.underlying33]; exact List.mem_cons_self ..)
    rw [show Tryz.prog.bytesOf 5 = 1 from by kernel_rfl] at hs
    simp only [lits, List.length_map, List.length_take, List.length_drop, reachBytes] at hs
    have hzc : zs.length = c := by simpa using hz
    exact ⟨_, l, c, zs, by simpa using hcs, ⟨by show c * 1 ≤ _; omega, .inr ⟨_, rfl, hl, hm, hzc, hcell, hwz⟩⟩, by omega⟩

/-- A call. -/
structure OpV where
  k : Int
  a : Int
  b : Int
  n : Int
  d : H3
  p : H3
  data : List Int
  picks : List Int
def OpV.nil : OpV := ⟨0, 0, 0, 0, (none, 0, 0), (none, 0, 0), [], []⟩
def opVV (x : OpV) : List Value := [.int .i64 x.k, .int .i64 x.a, .int .i64 x.b, .int .i64 x.n, .slice x.d.1 x.d.2.1 x.d.2.2, .slice x.p.1 x.p.2.1 x.p.2.2]
/-- A slice of numbers that may be read. -/
structure SlN (k : IntKind) (w : World) (h : H3) (zs : List Int) : Prop where
  row : Row k w h.1 h.2.1 zs
  cap : h.2.1 ≤ h.2.2
  nil : h.1 = none → h.2.2 = 0
theorem SlN.below {k : IntKind} {w w' : World} {h : H3} {zs : List Int} {B : Nat} (s : SlN k w h zs) (b : Below B w w') (hB : w.heap.size ≤ B) : SlN k w' h zs := ⟨s.row.below b hB, s.cap, s.nil⟩
/-- Its numbers fit, its rows may be read. -/
structure OpW (w : World) (x : OpV) : Prop where
  k : (Lit.int .i64 x.k).wf = true
  a : (Lit.int .i64 x.a).wf = true
  b : (Lit.int .i64 x.b).wf = true
  n : (Lit.int .i64 x.n).wf = true
  data : SlN .u8 w x.d x.data
  picks : SlN .i64 w x.p x.picks
  pmax : x.p.2.1 ≤ 17592186044416
theorem OpW.below {w w' : World} {x : OpV} {B : Nat} (s : OpW w x) (b : Below B w w') (hB : w.heap.size ≤ B) : OpW w' x := ⟨s.k, s.a, s.b, s.n, s.data.below b hB, s.picks.below b hB, s.pmax⟩
/-- A slice of n calls. -/
structure RowOp (w : World) (a : Option Addr) (n : Nat) (xs : List OpV) : Prop where
  len : xs.length = n
  each : ∀ x ∈ xs, OpW w x
  cells : n = 0 ∨ ∃ b off, a = some ⟨b, off, none⟩ ∧ ∀ i x, xs[i]? = some x → ∀ j v, (opVV x)[j]? = some v → w.cell? ⟨b, off + i * 6 + j, none⟩ = some v
theorem RowOp.below {w w' : World} {a : Option Addr} {n : Nat} {xs : List OpV} {B : Nat} (s : RowOp w a n xs) (b : Below B w w') (hB : w.heap.size ≤ B) : RowOp w' a n xs := by
  refine ⟨s.len, fun x hx => (s.each x hx).below b hB, ?_⟩
  rcases s.cells with e | ⟨g, off, e, hc⟩
  · exact Or.inl e
  · refine Or.inr ⟨g, off, e, fun i x hi j v hj => ?_⟩
    have c := hc i x hi j v hj
    exact (b.cell (p := ⟨g, off + i * 6 + j, none⟩) (Nat.lt_of_lt_of_le (World.block_lt_of_cell? w _ c) hB)).trans c
/-- What the walk is told of a slice of calls. -/
def IsOpsV (w : World) (a : Option Addr) (len cap : Nat) (xs : List OpV) : Prop := len ≤ cap ∧ (a = none → len = 0 ∧ cap = 0) ∧ len * 80 ≤ 140737488355328 ∧ RowOp w a len xs
theorem slN_of {k : IntKind} {w : World} {a : Option Addr} {n cap : Nat} {zs : List Int} (h : IsRow k w a n cap zs) : SlN k w (a, n, cap) (zs.take n) := by
  obtain ⟨h1, -, h3, h4⟩ := row_of h
  exact ⟨h4, h1, h3⟩
section
variable {H : Type} {enc : TypeId × Value → H} {W : World}
theorem opV_trod {fuel : Nat} {cs : List Value} {x : DataW H × List MemPlace} (hl : cs.length = 6) (hf : DataW.trod enc Tryz.prog W 0 (fun _ => true) true fuel 36 cs = some x)
    (hw : ∀ n ∈ x.1.weights Tryz.prog 36, n ≤ reachBytes) : ∃ y : OpV, cs = opVV y ∧ OpW W y := by
  obtain ⟨f0, f1, f2, f3, f4, f5, hu, o0, o1, o2, o3, o4, o5, t0, t1, t2, t3, t4, t5⟩ : ∃ f0 f1 f2 f3 f4 f5 : Field, Tryz.prog.underlying 36 = some (.struct #[f0, f1, f2, f3, f4, f5]) ∧ f0.offset = 0 ∧ f1.offset = 1 ∧ f2.offset = 2 ∧ f3.offset = 3 ∧ f4.offset = 4 ∧ f5.offset = 5 ∧ f0.type = 3 ∧ f1.type = 3 ∧ f2.type = 3 ∧ f3.type = 3 ∧ f4.type = 33 ∧ f5.type = 34 := by
    rw [Tryz.underlying36]
    exact ⟨_, _, _, _, _, _, rfl, rfl, rfl, rfl, rfl, rfl, rfl, rfl, rfl, rfl, rfl, rfl, rfl⟩
  obtain ⟨ys, k, _, hxy, _, hxl, hfl⟩ := DataW.trod_struct hu hf
  match ys, hxl, cs, hl with
  | [y0, y1, y2, y3, y4, y5], _, [v0, v1, v2, v3, v4, v5], _ =>
    have g0 := hfl 0 f0 rfl
    have g1 := hfl 1 f1 rfl
    have g2 := hfl 2 f2 rfl
    have g3 := hfl 3 f3 rfl
    have g4 := hfl 4 f4 rfl
    have g5 := hfl 5 f5 rfl
    rw [o0, t0, show Tryz.prog.cellsOf 3 = 1 from by kernel_rfl] at g0
    rw [o1, t1, show Tryz.prog.cellsOf 3 = 1 from by kernel_rfl] at g1
    rw [o2, t2, show Tryz.prog.cellsOf 3 = 1 from by kernel_rfl] at g2
    rw [o3, t3, show Tryz.prog.cellsOf 3 = 1 from by kernel_rfl] at g3
    rw [o4, t4, show Tryz.prog.cellsOf 33 = 1 from by kernel_rfl] at g4
    rw [o5, t5, show Tryz.prog.cellsOf 34 = 1 from by kernel_rfl] at g5
    simp at g0 g1 g2 g3 g4 g5
    obtain ⟨z0, e0, _, w0⟩ := DataW.trod_int Tryz.underlying3 g0
    obtain ⟨z1, e1, _, w1⟩ := DataW.trod_int Tryz.underlying3 g1
    obtain ⟨z2, e2, _, w2⟩ := DataW.trod_int Tryz.underlying3 g2
    obtain ⟨z3, e3, _, w3⟩ := DataW.trod_int Tryz.underlying3 g3
    simp at e0 e1 e2 e3
    have hD : x.1 = .agg [y0.1, y1.1, y2.1, y3.1, y4.1, y5.1] := by
      have := congrArg Prod.fst hxy
      simpa using this
    have hwe : ∀ m ∈ DataW.weightsEach Tryz.prog [3, 3, 3, 3, 33, 34] [y0.1, y1.1, y2.1, y3.1, y4.1, y5.1], m ≤ reachBytes := by
      intro m hm
      refine hw m ?_
      rw [hD]
      simp only [DataW.weights, hu, List.map_cons, List.map_nil, t0, t1, t2, t3, t4, t5]
      exact hm
    obtain ⟨a4, n4, c4, s4, e4, q4, -⟩ := u8s16_is g4 (fun m hm => hwe m (DataW.weights_mem_each (j := 4) rfl rfl m hm))
    obtain ⟨a5, n5, c5, s5, e5, q5, q6⟩ := i64s16_is g5 (fun m hm => hwe m (DataW.weights_mem_each (j := 5) rfl rfl m hm))
    subst e0 e1 e2 e3 e4 e5
    refine ⟨⟨z0, z1, z2, z3, (a4, n4, c4), (a5, n5, c5), s4.take n4, s5.take n5⟩, rfl, w0, w1, w2, w3, slN_of q4, slN_of q5, ?_⟩
    have h1 := (row_of q5).1
    show n5 ≤ _
    omega
theorem opsV_open {fuel : Nat} {a : Option Addr} {len cap : Nat} {x : DataW H × List MemPlace} {ts : List TypeId} {ds : List (DataW H)} (h : (DataW.weightsEach Tryz.prog ts ds).all (· ≤ reachBytes) = true) {j : Nat} (ht : ts[j]? = some 22) (hd : ds[j]? = some x.1)
    (hf : DataW.trod enc Tryz.prog W 0 (fun _ => true) true fuel 22 [.slice a len cap] = some x) : ∃ L, IsOpsV W a len cap L := by
  rcases open_slice Tryz.underlying22 hf with ⟨hcs, _⟩ | ⟨ad, l', c', m, n, D, Pl, hcs, _, hl, _, hm, rfl, hx⟩
  · simp at hcs
    obtain ⟨rfl, rfl, rfl⟩ := hcs
    exact ⟨[], by decide, fun _ => ⟨rfl, rfl⟩, by decide, rfl, by simp, Or.inl rfl⟩
  · simp at hcs
    obtain ⟨rfl, rfl, rfl⟩ := hcs
    simp only [if_true] at hm
    subst hm
    have hsz := sized_slice h (j := j) (t := 22) (e := 36) ht hd Tryz.underlying22
    rw [show Tryz.prog.bytesOf 36 = 80 from by kernel_rfl] at hsz
    simp only [List.length_map, List.length_range, reachBytes] at hsz
    have hwt : ∀ i, i < len → ∀ q ∈ (D i).weights Tryz.prog 36, q ≤ reachBytes := by
      intro i hi q hq
      have h1 := List.all_eq_true.1 h q (DataW.weights_mem_each ht hd q (by
        simp only [DataW.weights, Tryz.underlying22, List.mem_cons, List.mem_append]
        exact Or.inr (Or.inl (weightsAll_inV (List.mem_map.2 ⟨i, List.mem_range.2 hi, rfl⟩) q hq))))
      simpa using h1
    have each : ∀ i, i < len → ∃ y : OpV, (∀ k v, (opVV y)[k]? = some v → W.cell? (ad.add (i * 6 + k)) = some v) ∧ OpW W y := by
      intro i hi
      obtain ⟨cs', h1, h2⟩ := hx i (by omega)
      rw [show Tryz.prog.cellsOf 36 = 6 from by kernel_rfl] at h1
      obtain ⟨_, hlen, hcell⟩ := World.cells?_some h1
      obtain ⟨y, rfl, hs⟩ := opV_trod hlen h2 (hwt i hi)
      refine ⟨y, fun k v hv => ?_, hs⟩
      have hk : k < 6 := by have := (List.getElem?_eq_some_iff.1 hv).1; rw [hlen] at this; exact this
      have := hcell k (by omega)
      rw [add_add] at this
      rw [this, hv]
    have hall : ∀ k, k ≤ len → ∃ L : List OpV, L.length = k ∧ (∀ x ∈ L, OpW W x) ∧ ∀ i y, L[i]? = some y → ∀ q v, (opVV y)[q]? = some v → W.cell? (ad.add (i * 6 + q)) = some v := by
      intro k
      induction k with
      | zero => intro _; exact ⟨[], rfl, by simp, fun i y hi => by simp at hi⟩
      | succ k ih =>
        intro hk
        obtain ⟨L, h1, h2, h3⟩ := ih (by omega)
        obtain ⟨y, g1, g2⟩ := each k (by omega)
        refine ⟨L ++ [y], by simp [h1], ?_, fun i z hi => ?_⟩
        · intro z hz
          rcases List.mem_append.1 hz with hz | hz
          · exact h2 z hz
          · rw [List.mem_singleton.1 hz]; exact g2
        · by_cases hik : i < k
          · rw [List.getElem?_append_left (by omega)] at hi
            exact h3 i z hi
          · have hi2 : i < (L ++ [y]).length := (List.getElem?_eq_some_iff.1 hi).1
            simp only [List.length_append, List.length_cons, List.length_nil] at hi2
            have : i = k := by omega
            subst this
            rw [List.getElem?_append_right (by omega), h1] at hi
            simp at hi
            subst hi
            exact g1
    obtain ⟨L, h1, h2, h3⟩ := hall len (Nat.le_refl _)
    refine ⟨L, hl, fun h => by simp at h, by omega, h1, h2, ?_⟩
    by_cases h0 : len = 0
    · exact Or.inl h0
    · right
      obtain ⟨b, off, spot⟩ := ad
      have hs : spot = none := by
        have := h3 0 _ (List.getElem?_eq_getElem (show 0 < L.length by omega)) 0 _ rfl
        simpa [Addr.add] using World.cell?_spot this
      subst hs
      refine ⟨b, off, rfl, fun i y hi q v hv => ?_⟩
      have c0 := h3 i y hi q v hv
      rw [Addr.add_lit] at c0
      rw [Nat.add_assoc]
      exact c0
/-- A slice of slices of bytes that came in. -/
def IsBB (w : World) (a : Option Addr) (len cap : Nat) (x : List H3 × List (List Int)) : Prop := len ≤ cap ∧ (a = none → len = 0 ∧ cap = 0) ∧ len * 24 ≤ 140737488355328 ∧ RowBB w a len x.1 x.2
theorem byss_open {fuel : Nat} {a : Option Addr} {len cap : Nat} {x : DataW H × List MemPlace} {ts : List TypeId} {ds : List (DataW H)} (h : (DataW.weightsEach Tryz.prog ts ds).all (· ≤ reachBytes) = true) {j : Nat} (ht : ts[j]? = some 42) (hd : ds[j]? = some x.1)
    (hf : DataW.trod enc Tryz.prog W 0 (fun _ => true) true fuel 42 [.slice a len cap] = some x) : ∃ L, IsBB W a len cap L := by
  rcases open_slice Tryz.underlying42 hf with ⟨hcs, _⟩ | ⟨ad, l', c', m, n, D, Pl, hcs, _, hl, _, hm, rfl, hx⟩
  · simp at hcs
    obtain ⟨rfl, rfl, rfl⟩ := hcs
    exact ⟨([], []), by decide, fun _ => ⟨rfl, rfl⟩, by decide, rfl, rfl, Or.inl rfl, fun i h d hi => by simp at hi⟩
  · simp at hcs
    obtain ⟨rfl, rfl, rfl⟩ := hcs
    simp only [if_true] at hm
    subst hm
    have hsz := sized_slice h (j := j) (t := 42) (e := 33) ht hd Tryz.underlying42
    rw [show Tryz.prog.bytesOf 33 = 24 from by kernel_rfl] at hsz
    simp only [List.length_map, List.length_range, reachBytes] at hsz
    have hwt : ∀ i, i < len → ∀ q ∈ (D i).weights Tryz.prog 33, q ≤ reachBytes := by
      intro i hi q hq
      have h1 := List.all_eq_true.1 h q (DataW.weights_mem_each ht hd q (by
        simp only [DataW.weights, Tryz.underlying42, List.mem_cons, List.mem_append]
        exact Or.inr (Or.inl (weightsAll_inV (List.mem_map.2 ⟨i, List.mem_range.2 hi, rfl⟩) q hq))))
      simpa using h1
    have each : ∀ i, i < len → ∃ (h : H3) (zs : List Int), W.cell? (ad.add i) = some (.slice h.1 h.2.1 h.2.2) ∧ SlN .u8 W h zs := by
      intro i hi
      obtain ⟨cs', h1, h2⟩ := hx i (by omega)
      rw [show Tryz.prog.cellsOf 33 = 1 from by kernel_rfl] at h1
      obtain ⟨_, hlen, hcell⟩ := World.cells?_some h1
      match cs', hlen with
      | [v], _ =>
        obtain ⟨a', n', c', zs, rfl, hr, -⟩ := u8s16_is h2 (hwt i hi)
        refine ⟨(a', n', c'), zs.take n', ?_, slN_of hr⟩
        have := hcell 0 (by omega)
        simpa [Addr.add] using this
    have hall : ∀ k, k ≤ len → ∃ (L : List H3) (ds : List (List Int)), L.length = k ∧ ds.length = k ∧ (∀ (i : Nat) (h : H3), L[i]? = some h → W.cell? (ad.add i) = some (.slice h.1 h.2.1 h.2.2)) ∧ ∀ (i : Nat) (h : H3) (d : List Int), L[i]? = some h → ds[i]? = some d → SlN .u8 W h d := by
      intro k
      induction k with
      | zero => intro _; exact ⟨[], [], rfl, rfl, fun i y hi => by simp at hi, fun i y d hi => by simp at hi⟩
      | succ k ih =>
        intro hk
        obtain ⟨L, ds, h1, h1', h2, h3⟩ := ih (by omega)
        obtain ⟨y, zs, g1, g2⟩ := each k (by omega)
        refine ⟨L ++ [y], ds ++ [zs], by simp [h1], by simp [h1'], fun i z hi => ?_, fun i z d hi hd => ?_⟩
        · by_cases hik : i < k
          · rw [List.getElem?_append_left (by omega)] at hi
            exact h2 i z hi
          · have hi2 : i < (L ++ [y]).length := (List.getElem?_eq_some_iff.1 hi).1
            simp only [List.length_append, List.length_cons, List.length_nil] at hi2
            have : i = k := by omega
            subst this
            rw [List.getElem?_append_right (by omega), h1] at hi
            simp at hi
            subst hi
            exact g1
        · by_cases hik : i < k
          · rw [List.getElem?_append_left (by omega)] at hi hd
            exact h3 i z d hi hd
          · have hi2 : i < (L ++ [y]).length := (List.getElem?_eq_some_iff.1 hi).1
            simp only [List.length_append, List.length_cons, List.length_nil] at hi2
            have : i = k := by omega
            subst this
            rw [List.getElem?_append_right (by omega), h1] at hi
            rw [List.getElem?_append_right (by omega), h1'] at hd
            simp at hi hd
            subst hi hd
            exact g2
    obtain ⟨L, dd, h1, h1', h2, h3⟩ := hall len (Nat.le_refl _)
    refine ⟨(L, dd), hl, fun h => by simp at h, by omega, h1', h1, ?_, fun i h d hi hd => ⟨(h3 i h d hi hd).row, (h3 i h d hi hd).cap, (h3 i h d hi hd).nil⟩⟩
    by_cases h0 : len = 0
    · exact Or.inl h0
    · right
      obtain ⟨b, off, spot⟩ := ad
      have hs : spot = none := by
        have := h2 0 _ (List.getElem?_eq_getElem (show 0 < L.length by omega))
        simpa [Addr.add] using World.cell?_spot this
      subst hs
      refine ⟨b, off, rfl, fun i y hi => ?_⟩
      have c0 := h2 i y hi
      rw [Addr.add_lit] at c0
      exact c0
end
end Go.Proofs.YthlkmjaflomflaaGreat
