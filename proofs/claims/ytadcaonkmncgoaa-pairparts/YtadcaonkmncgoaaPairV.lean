/-
  What the law's shell hands on of a slice of observations that came in.
  Conditions: none.
-/
import Derived.Test.YtadcaonkmncgoaaPairI
import Derived.ChangeSlices
import Derived.ChangeArms
import Derived.Deep.SlicePairs
import Derived.OpenShut
import Derived.SizedLaws
namespace Go.Proofs.Ytadcaonkmncgoaa
open Go.RowKit Go.ChangeShapes Go.Deep
set_option maxRecDepth 20000

/-- What the walk is told of a slice of observations. -/
def IsObs (w : World) (a : Option Addr) (len cap : Nat) (l : List Ob) : Prop := cap * 32 ≤ 140737488351232 ∧ len ≤ cap ∧ (a = none → len = 0 ∧ cap = 0) ∧ RowO w a len l

theorem obs_fields : ∃ f0 f1 f2 : Field, Try.prog.underlying 46 = some (.struct #[f0, f1, f2]) ∧ f0.offset = 0 ∧ f1.offset = 1 ∧ f2.offset = 2 ∧ f0.type = 26 ∧ f1.type = 9 ∧ f2.type = 26 := by
  rw [Try.underlying46]
  exact ⟨_, _, _, rfl, rfl, rfl, rfl, rfl, rfl, rfl⟩

theorem obs_open {H : Type} {enc : TypeId × Value → H} {W : World} {fuel : Nat} {a : Option Addr} {len cap : Nat} {x : DataW H × List MemPlace} {ts : List TypeId} {ds : List (DataW H)} (h : (DataW.weightsEach Try.prog ts ds).all (· ≤ reachBytes) = true) {j : Nat} (ht : ts[j]? = some 22) (hd : ds[j]? = some x.1)
    (hf : DataW.trod enc Try.prog W 0 (fun _ => true) true fuel 22 [.slice a len cap] = some x) : ∃ xs, IsObs W a len cap xs := by
  obtain ⟨f0, f1, f2, hu, o0, o1, o2, t0, t1, t2⟩ := obs_fields
  rcases open_slice Try.underlying22 hf with ⟨hcs, _⟩ | ⟨ad, l', c', m, n, D, Pl, hcs, _, hl, _, hm, rfl, hx⟩
  · simp at hcs
    obtain ⟨rfl, rfl, rfl⟩ := hcs
    exact ⟨[], by decide, by decide, fun _ => ⟨rfl, rfl⟩, rfl, by decide, by simp, Or.inl rfl⟩
  · simp at hcs
    obtain ⟨rfl, rfl, rfl⟩ := hcs
    simp only [if_true] at hm
    subst hm
    have hsz := sized_slice h (j := j) (t := 22) (e := 46) ht hd Try.underlying22
    rw [show Try.prog.bytesOf 46 = 32 from by kernel_rfl] at hsz
    simp only [List.length_map, List.length_range, reachBytes] at hsz
    have each : ∀ i, i < len → ∃ y : Ob, (∀ k v, [Value.int .u64 y.v, .string y.t, .int .u64 y.b][k]? = some v → W.cell? (ad.add (i * 3 + k)) = some v) ∧ Word y.v ∧ Word y.b ∧ y.t.size ≤ 9223372036854775807 := by
      intro i hi
      obtain ⟨cs', h1, h2⟩ := hx i (by omega)
      rw [show Try.prog.cellsOf 46 = 3 from by kernel_rfl] at h1
      obtain ⟨_, hlen, hcell⟩ := World.cells?_some h1
      obtain ⟨ys, k, _, hxy, _, hxl, hfl⟩ := DataW.trod_struct hu h2
      match ys, hxl, cs', hlen with
      | [y0, y1, y2], _, [v0, v1, v2], _ =>
        have g0 := hfl 0 f0 rfl
        have g1 := hfl 1 f1 rfl
        have g2 := hfl 2 f2 rfl
        rw [o0, t0, show Try.prog.cellsOf 26 = 1 from by kernel_rfl] at g0
        rw [o1, t1, show Try.prog.cellsOf 9 = 1 from by kernel_rfl] at g1
        rw [o2, t2, show Try.prog.cellsOf 26 = 1 from by kernel_rfl] at g2
        simp at g0 g1 g2
        obtain ⟨z0, e0, _, w0⟩ := DataW.trod_int Try.underlying26 g0
        obtain ⟨z1, e1, _, w1⟩ := DataW.trod_string Try.underlying9 g1
        obtain ⟨z2, e2, _, w2⟩ := DataW.trod_int Try.underlying26 g2
        simp at e0 e1 e2
        have hcells : ∀ k v, [v0, v1, v2][k]? = some v → W.cell? (ad.add (i * 3 + k)) = some v := by
          intro k v hv
          have hk : k < 3 := (List.getElem?_eq_some_iff.1 hv).1
          have := hcell k (by omega)
          rw [add_add] at this
          rw [this, hv]
        rw [e0, e1, e2] at hcells
        exact ⟨⟨z0, z1, z2⟩, hcells, word_of_wf w0, word_of_wf w2, by have : z1.size ≤ maxLen := w1; unfold maxLen at this; show z1.size ≤ _; omega⟩
    have hall : ∀ k, k ≤ len → ∃ xs : List Ob, xs.length = k ∧ (∀ o ∈ xs, Word o.v ∧ Word o.b ∧ o.t.size ≤ 9223372036854775807) ∧ ∀ i, i < k → ∀ q v, [Value.int .u64 (xs.getD i ob0).v, .string (xs.getD i ob0).t, .int .u64 (xs.getD i ob0).b][q]? = some v → W.cell? (ad.add (i * 3 + q)) = some v := by
      intro k
      induction k with
      | zero => intro _; exact ⟨[], rfl, by simp, fun i hi => by omega⟩
      | succ k ih =>
        intro hk
        obtain ⟨xs, h1, h2, h3⟩ := ih (by omega)
        obtain ⟨y, g1, g2⟩ := each k (by omega)
        refine ⟨xs ++ [y], by simp [h1], ?_, fun i hi => ?_⟩
        · intro z hz
          rcases List.mem_append.1 hz with hz | hz
          · exact h2 z hz
          · simp at hz; subst hz; exact g2
        · by_cases hik : i < k
          · have e : (xs ++ [y]).getD i ob0 = xs.getD i ob0 := by
              rw [List.getD_eq_getElem?_getD, List.getElem?_append_left (by omega), ← List.getD_eq_getElem?_getD]
            rw [e]; exact h3 i hik
          · have : i = k := by omega
            subst this
            have e : (xs ++ [y]).getD i ob0 = y := by
              rw [List.getD_eq_getElem?_getD, List.getElem?_append_right (by omega), h1]
              simp
            rw [e]; exact g1
    obtain ⟨xs, h1, h2, h3⟩ := hall len (Nat.le_refl _)
    refine ⟨xs, by omega, hl, fun h => by simp at h, h1, by omega, h2, ?_⟩
    by_cases h0 : len = 0
    · exact Or.inl h0
    · right
      obtain ⟨b, off, spot⟩ := ad
      have hs : spot = none := by simpa [Addr.add] using World.cell?_spot (h3 0 (by omega) 0 _ rfl)
      subst hs
      refine ⟨b, off, rfl, fun i hi => ?_⟩
      have c0 := h3 i hi 0 _ rfl
      have c1 := h3 i hi 1 _ rfl
      have c2 := h3 i hi 2 _ rfl
      rw [Addr.add_lit] at c0 c1 c2
      exact ⟨c0, c1, c2⟩
end Go.Proofs.Ytadcaonkmncgoaa
