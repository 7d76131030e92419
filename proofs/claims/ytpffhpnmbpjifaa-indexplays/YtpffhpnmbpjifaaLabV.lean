/-
  What the law's shell hands on of a slice of labels that came in.
  Conditions: none.
-/
import Derived.Test.YtpffhpnmbpjifaaLabI
import Derived.ChangeSlices
import Derived.ChangeArms
import Derived.Deep.SlicePairs
import Derived.OpenShut
import Derived.SizedLaws
namespace Go.Proofs.Ytpffhpnmbpjifaa
open Go.RowKit Go.ChangeShapes Go.Deep
set_option maxRecDepth 20000

/-- What the walk is told of a slice of labels. -/
def IsLabs (w : World) (a : Option Addr) (len cap : Nat) (l : List Lb) : Prop := cap * 32 ≤ 140737488351232 ∧ len ≤ cap ∧ (a = none → len = 0 ∧ cap = 0) ∧ RowL w a len l

theorem labs_fields : ∃ f0 f1 : Field, Try.prog.underlying 41 = some (.struct #[f0, f1]) ∧ f0.offset = 0 ∧ f1.offset = 1 ∧ f0.type = 9 ∧ f1.type = 9 := by
  rw [Try.underlying41]
  exact ⟨_, _, rfl, rfl, rfl, rfl, rfl⟩

theorem labs_open {H : Type} {enc : TypeId × Value → H} {W : World} {fuel : Nat} {a : Option Addr} {len cap : Nat} {x : DataW H × List MemPlace} {ts : List TypeId} {ds : List (DataW H)} (h : (DataW.weightsEach Try.prog ts ds).all (· ≤ reachBytes) = true) {j : Nat} (ht : ts[j]? = some 23) (hd : ds[j]? = some x.1)
    (hf : DataW.trod enc Try.prog W 0 (fun _ => true) true fuel 23 [.slice a len cap] = some x) : ∃ xs, IsLabs W a len cap xs := by
  obtain ⟨f0, f1, hu, o0, o1, t0, t1⟩ := labs_fields
  rcases open_slice Try.underlying23 hf with ⟨hcs, _⟩ | ⟨ad, l', c', m, n, D, Pl, hcs, _, hl, _, hm, rfl, hx⟩
  · simp at hcs
    obtain ⟨rfl, rfl, rfl⟩ := hcs
    exact ⟨[], by decide, by decide, fun _ => ⟨rfl, rfl⟩, rfl, by decide, by simp, Or.inl rfl⟩
  · simp at hcs
    obtain ⟨rfl, rfl, rfl⟩ := hcs
    simp only [if_true] at hm
    subst hm
    have hsz := sized_slice h (j := j) (t := 23) (e := 41) ht hd Try.underlying23
    rw [show Try.prog.bytesOf 41 = 32 from by kernel_rfl] at hsz
    simp only [List.length_map, List.length_range, reachBytes] at hsz
    have each : ∀ i, i < len → ∃ y : Lb, (∀ k v, [Value.string y.1, .string y.2][k]? = some v → W.cell? (ad.add (i * 2 + k)) = some v) ∧ LbW y := by
      intro i hi
      obtain ⟨cs', h1, h2⟩ := hx i (by omega)
      rw [show Try.prog.cellsOf 41 = 2 from by kernel_rfl] at h1
      obtain ⟨_, hlen, hcell⟩ := World.cells?_some h1
      obtain ⟨ys, k, _, hxy, _, hxl, hfl⟩ := DataW.trod_struct hu h2
      match ys, hxl, cs', hlen with
      | [y0, y1], _, [v0, v1], _ =>
        have g0 := hfl 0 f0 rfl
        have g1 := hfl 1 f1 rfl
        rw [o0, t0, show Try.prog.cellsOf 9 = 1 from by kernel_rfl] at g0
        rw [o1, t1, show Try.prog.cellsOf 9 = 1 from by kernel_rfl] at g1
        simp at g0 g1
        obtain ⟨z0, e0, _, w0⟩ := DataW.trod_string Try.underlying9 g0
        obtain ⟨z1, e1, _, w1⟩ := DataW.trod_string Try.underlying9 g1
        simp at e0 e1
        have hcells : ∀ k v, [v0, v1][k]? = some v → W.cell? (ad.add (i * 2 + k)) = some v := by
          intro k v hv
          have hk : k < 2 := (List.getElem?_eq_some_iff.1 hv).1
          have := hcell k (by omega)
          rw [add_add] at this
          rw [this, hv]
        rw [e0, e1] at hcells
        exact ⟨(z0, z1), hcells, by have : z0.size ≤ maxLen := w0; unfold maxLen at this; show z0.size ≤ _; omega, by have : z1.size ≤ maxLen := w1; unfold maxLen at this; show z1.size ≤ _; omega⟩
    have hall : ∀ k, k ≤ len → ∃ xs : List Lb, xs.length = k ∧ (∀ o ∈ xs, LbW o) ∧ ∀ i x, xs[i]? = some x → ∀ q v, [Value.string x.1, .string x.2][q]? = some v → W.cell? (ad.add (i * 2 + q)) = some v := by
      intro k
      induction k with
      | zero => intro _; exact ⟨[], rfl, by simp, fun i x hi => by simp at hi⟩
      | succ k ih =>
        intro hk
        obtain ⟨xs, h1, h2, h3⟩ := ih (by omega)
        obtain ⟨y, g1, g2⟩ := each k (by omega)
        refine ⟨xs ++ [y], by simp [h1], ?_, fun i x hi => ?_⟩
        · intro z hz
          rcases List.mem_append.1 hz with hz | hz
          · exact h2 z hz
          · simp at hz; subst hz; exact g2
        · by_cases hik : i < k
          · rw [List.getElem?_append_left (by omega)] at hi
            exact h3 i x hi
          · have hlt : i < (xs ++ [y]).length := (List.getElem?_eq_some_iff.1 hi).1
            simp [h1] at hlt
            have : i = k := by omega
            subst this
            rw [List.getElem?_append_right (by omega), h1] at hi
            simp at hi
            subst hi
            exact g1
    obtain ⟨xs, h1, h2, h3⟩ := hall len (Nat.le_refl _)
    refine ⟨xs, by omega, hl, fun h => by simp at h, h1, by omega, h2, ?_⟩
    by_cases h0 : len = 0
    · exact Or.inl h0
    · right
      obtain ⟨b, off, spot⟩ := ad
      have hs : spot = none := by simpa [Addr.add] using World.cell?_spot (h3 0 _ (List.getElem?_eq_getElem (by omega)) 0 _ rfl)
      subst hs
      refine ⟨b, off, rfl, fun i x hi => ?_⟩
      have c0 := h3 i x hi 0 _ rfl
      have c1 := h3 i x hi 1 _ rfl
      rw [Addr.add_lit] at c0 c1
      exact ⟨c0, c1⟩
end Go.Proofs.Ytpffhpnmbpjifaa
