/-
  What the law's shell hands on of a slice of buckets that came in.
  Conditions: none.
-/
import Derived.Test.YtadcaonkmncgoaaGreatHistB
import Derived.Deep.SlicePairs
import Derived.OpenShut
namespace Go.Proofs.YtadcaonkmncgoaaGreat
open Go.RowKit Go.ChangeShapes Go.Deep
set_option maxRecDepth 20000

/-- What the walk is told of a slice of buckets. -/
def IsBks (w : World) (a : Option Addr) (len cap : Nat) (l : Bks) : Prop := cap * 16 ≤ 140737488351232 ∧ len ≤ cap ∧ (a = none → len = 0 ∧ cap = 0) ∧ RowB w a len l

theorem bks_fields : ∃ f0 f1 : Field, Tryz.prog.underlying 63 = some (.struct #[f0, f1]) ∧ f0.offset = 0 ∧ f1.offset = 1 ∧ f0.type = 3 ∧ f1.type = 24 := by
  rw [Tryz.underlying63]
  exact ⟨_, _, rfl, rfl, rfl, rfl, rfl⟩

theorem bks_trod {H : Type} {enc : TypeId × Value → H} {W : World} {base : Nat} {sp : Nat → Bool} {held : Bool} {fuel : Nat} {a : Option Addr} {len cap : Nat} {x : DataW H × List MemPlace} (hf : DataW.trod enc Tryz.prog W base sp held fuel 22 [.slice a len cap] = some x) :
    (a = none ∧ len = 0 ∧ cap = 0) ∨ ∃ (ad : Addr) (l : Bks) (elems spare : List (DataW H)), a = some ad ∧ len ≤ cap ∧ l.length = len ∧ (∀ y ∈ l, fitB y) ∧ x.1 = .slice elems spare ∧ elems.length + spare.length = (if sp ad.block then cap else len) ∧
      ∀ i, i < len → W.cell? (ad.add (i * 2)) = some (.int .i64 (l.getD i (0, 0)).1) ∧ W.cell? (ad.add (i * 2 + 1)) = some (.int .u64 (l.getD i (0, 0)).2) := by
  obtain ⟨f0, f1, hu, o0, o1, t0, t1⟩ := bks_fields
  rcases open_slice_pairs Tryz.underlying22 hu (by kernel_rfl) o0 o1 (by rw [t0]; kernel_rfl) (by rw [t1]; kernel_rfl) hf with ⟨hcs, _⟩ | ⟨ad, l', c', m, n, V0, V1, D0, D1, P0, P1, hcs, _, hl, _, hm, rfl, hx⟩
  · left
    simp at hcs
    exact hcs
  · right
    simp at hcs
    obtain ⟨rfl, rfl, rfl⟩ := hcs
    have hlm : len ≤ m := by rw [hm]; split <;> omega
    have each : ∀ i, i < len → ∃ z y : Int, V0 i = .int .i64 z ∧ V1 i = .int .u64 y ∧ fitB (z, y) := by
      intro i hi
      obtain ⟨_, _, h3, h4⟩ := hx i (by omega)
      rw [t0] at h3
      rw [t1] at h4
      obtain ⟨z, e1, _, w1⟩ := DataW.trod_int Tryz.underlying3 h3
      obtain ⟨y, e2, _, w2⟩ := DataW.trod_int Tryz.underlying24 h4
      exact ⟨z, y, by simpa using e1, by simpa using e2, w1, w2⟩
    have hl2 : ∃ l : Bks, l.length = len ∧ (∀ y ∈ l, fitB y) ∧ ∀ i, i < len → V0 i = .int .i64 (l.getD i (0, 0)).1 ∧ V1 i = .int .u64 (l.getD i (0, 0)).2 := by
      clear hx hlm hl hm hf
      induction len with
      | zero => exact ⟨[], rfl, by simp, fun i hi => by omega⟩
      | succ k ih =>
        obtain ⟨l, h1, h2, h3⟩ := ih (fun i hi => each i (by omega))
        obtain ⟨z, y, e1, e2, e3⟩ := each k (by omega)
        refine ⟨l ++ [(z, y)], by simp [h1], ?_, fun i hi => ?_⟩
        · intro v hv
          rcases List.mem_append.1 hv with h | h
          · exact h2 v h
          · simp at h; subst h; exact e3
        · by_cases hk : i < k
          · rw [List.getD_eq_getElem?_getD, List.getElem?_append_left (by omega), ← List.getD_eq_getElem?_getD]
            exact h3 i hk
          · have : i = k := by omega
            subst this
            rw [List.getD_eq_getElem?_getD, List.getElem?_append_right (by omega), h1]
            simp [e1, e2]
    obtain ⟨l, h1, h2, h3⟩ := hl2
    refine ⟨ad, l, _, _, rfl, hl, h1, h2, rfl, ?_, fun i hi => ?_⟩
    · simp only [List.length_map, List.length_range]
      rw [← hm]; omega
    · obtain ⟨c0, c1, _, _⟩ := hx i (by omega)
      obtain ⟨e0, e1⟩ := h3 i hi
      rw [c0, c1, e0, e1]
      exact ⟨rfl, rfl⟩

theorem bks_row {W : World} {ad : Addr} {len : Nat} {l : Bks} (h1 : l.length = len) (hn : len ≤ 17592186044416) (h2 : ∀ y ∈ l, fitB y)
    (h : ∀ i, i < len → W.cell? (ad.add (i * 2)) = some (.int .i64 (l.getD i (0, 0)).1) ∧ W.cell? (ad.add (i * 2 + 1)) = some (.int .u64 (l.getD i (0, 0)).2)) : RowB W (some ad) len l := by
  refine ⟨h1, hn, h2, ?_⟩
  by_cases h0 : len = 0
  · exact Or.inl h0
  · right
    obtain ⟨b, off, spot⟩ := ad
    have hs : spot = none := by simpa [Addr.add] using World.cell?_spot (h 0 (by omega)).1
    subst hs
    refine ⟨b, off, rfl, fun i hi => ?_⟩
    have := h i hi
    rw [Addr.add_lit, Addr.add_lit] at this
    exact this
end Go.Proofs.YtadcaonkmncgoaaGreat
