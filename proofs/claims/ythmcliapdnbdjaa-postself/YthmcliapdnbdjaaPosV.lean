/-
  What the law's shell hands on of a slice of lists of numbers that came in.
  Conditions: none.
-/
import Derived.Test.YthmcliapdnbdjaaPosM
import Derived.ChangeSlices
import Derived.ChangeArms
import Derived.Deep.SlicePairs
import Derived.OpenShut
import Derived.SizedLaws
import Derived.Lib.SmallJoins
import Derived.Deep.Strs
namespace Go.Proofs.Ythmcliapdnbdjaa
open Go.RowKit Go.ChangeShapes Go.WideShapes Go.Deep Go.Joins
set_option maxRecDepth 20000

theorem ints_cells : Try.prog.cellsOf 22 = 1 := by kernel_rfl
theorem int_bytes : Try.prog.bytesOf 3 = 8 := by kernel_rfl
theorem ints_bytes : Try.prog.bytesOf 22 = 24 := by kernel_rfl
/-- A slice of lists that came in. -/
def IsII (w : World) (a : Option Addr) (len cap : Nat) (ls : List (List Int)) : Prop := len ≤ cap ∧ (a = none → cap = 0) ∧ RowII w a len ls
theorem sli_of {w : World} {a : Option Addr} {n cap : Nat} {zs : List Int} (h : IsRow .i64 w a n cap zs) : SlI w a n cap (zs.take n) := by
  obtain ⟨h1, -, h3, h4⟩ := row_of h
  exact ⟨h4, h1, h3⟩
section
variable {H : Type} {enc : TypeId × Value → H} {W : World}
theorem ints_is {fuel : Nat} {v : Value} {x : DataW H × List MemPlace} (hf : DataW.trod enc Try.prog W 0 (fun _ => true) true fuel 22 [v] = some x)
    (hw : ∀ n ∈ x.1.weights Try.prog 22, n ≤ reachBytes) : ∃ a len cap zs, v = .slice a len cap ∧ IsRow .i64 W a len cap zs := by
  rcases open_ints Try.underlying22 Try.underlying3 (by kernel_rfl) hf with ⟨hcs, _⟩ | ⟨ad, l, c, zs, hcs, _, hl, hm, hz, hx, hcell, hwz⟩
  · exact ⟨none, 0, 0, [], by simpa using hcs, by decide, .inl ⟨rfl, rfl, rfl, rfl⟩⟩
  · have hd := congrArg Prod.fst hx
    simp only at hd
    have hs := hw _ (by rw [hd]; simp only [DataW.weights, Try.underlying22]; exact List.mem_cons_self ..)
    rw [int_bytes] at hs
    simp only [lits, List.length_map, List.length_take, List.length_drop, reachBytes] at hs
    have hzc : zs.length = c := by simpa using hz
    exact ⟨_, l, c, zs, by simpa using hcs, by show c * 1 ≤ _; omega, .inr ⟨_, rfl, hl, hm, hzc, hcell, hwz⟩⟩
theorem weightsAll_inI {P : Program} {e : TypeId} : ∀ {l : List (DataW H)} {d : DataW H}, d ∈ l → ∀ n ∈ d.weights P e, n ∈ DataW.weightsAll P e l
  | y :: r, d, h, n, hn => by
    simp only [DataW.weightsAll, List.mem_append]
    rcases List.mem_cons.1 h with rfl | h
    · exact Or.inl hn
    · exact Or.inr (weightsAll_inI h n hn)
theorem intss_open {fuel : Nat} {a : Option Addr} {len cap : Nat} {x : DataW H × List MemPlace} {ts : List TypeId} {ds : List (DataW H)} (h : (DataW.weightsEach Try.prog ts ds).all (· ≤ reachBytes) = true) {j : Nat} (ht : ts[j]? = some 31) (hd : ds[j]? = some x.1)
    (hf : DataW.trod enc Try.prog W 0 (fun _ => true) true fuel 31 [.slice a len cap] = some x) : ∃ ls, IsII W a len cap ls := by
  rcases open_slice Try.underlying31 hf with ⟨hcs, _⟩ | ⟨ad, l', c', m, n, D, Pl, hcs, _, hl, _, hm, rfl, hx⟩
  · simp at hcs
    obtain ⟨rfl, rfl, rfl⟩ := hcs
    exact ⟨[], by decide, fun _ => rfl, rfl, by decide, Or.inl rfl⟩
  · simp at hcs
    obtain ⟨rfl, rfl, rfl⟩ := hcs
    simp only [if_true] at hm
    subst hm
    have hsz := sized_slice h (j := j) (t := 31) (e := 22) ht hd Try.underlying31
    rw [ints_bytes] at hsz
    simp only [List.length_map, List.length_range, reachBytes] at hsz
    have hwt : ∀ i, i < len → ∀ q ∈ (D i).weights Try.prog 22, q ≤ reachBytes := by
      intro i hi q hq
      have h1 := List.all_eq_true.1 h q (DataW.weights_mem_each ht hd q (by
        simp only [DataW.weights, Try.underlying31, List.mem_cons, List.mem_append]
        exact Or.inr (Or.inl (weightsAll_inI (List.mem_map.2 ⟨i, List.mem_range.2 hi, rfl⟩) q hq))))
      simpa using h1
    have each : ∀ i, i < len → ∃ (l : List Int) (a' : Option Addr) (n' c' : Nat), W.cell? (ad.add i) = some (.slice a' n' c') ∧ SlI W a' n' c' l := by
      intro i hi
      obtain ⟨cs', h1, h2⟩ := hx i (by omega)
      rw [ints_cells] at h1
      obtain ⟨_, hlen, hcell⟩ := World.cells?_some h1
      match cs', hlen with
      | [v], _ =>
        obtain ⟨a', n', c', zs, rfl, hr⟩ := ints_is h2 (hwt i hi)
        refine ⟨zs.take n', a', n', c', ?_, sli_of hr⟩
        have := hcell 0 (by omega)
        simpa [Addr.add] using this
    have hall : ∀ k, k ≤ len → ∃ ls : List (List Int), ls.length = k ∧ ∀ i, i < k → ∃ a' n' c', W.cell? (ad.add i) = some (.slice a' n' c') ∧ SlI W a' n' c' (ls.getD i []) := by
      intro k
      induction k with
      | zero => intro _; exact ⟨[], rfl, fun i hi => by omega⟩
      | succ k ih =>
        intro hk
        obtain ⟨ls, h1, h2⟩ := ih (by omega)
        obtain ⟨l, a', n', c', g1, g2⟩ := each k (by omega)
        refine ⟨ls ++ [l], by simp [h1], fun i hi => ?_⟩
        by_cases hik : i < k
        · obtain ⟨a2, n2, c2, q1, q2⟩ := h2 i hik
          refine ⟨a2, n2, c2, q1, ?_⟩
          rw [List.getD_eq_getElem?_getD, List.getElem?_append_left (by omega), ← List.getD_eq_getElem?_getD]
          exact q2
        · have : i = k := by omega
          subst this
          refine ⟨a', n', c', g1, ?_⟩
          rw [List.getD_eq_getElem?_getD, List.getElem?_append_right (by omega), h1]
          simpa using g2
    obtain ⟨ls, h1, h2⟩ := hall len (Nat.le_refl _)
    refine ⟨ls, hl, fun h => by simp at h, h1, by omega, ?_⟩
    by_cases h0 : len = 0
    · exact Or.inl h0
    · right
      obtain ⟨b, off, spot⟩ := ad
      have hs : spot = none := by
        obtain ⟨a', n', c', q1, _⟩ := h2 0 (by omega)
        simpa [Addr.add] using World.cell?_spot q1
      subst hs
      refine ⟨b, off, rfl, fun i hi => ?_⟩
      obtain ⟨a', n', c', q1, q2⟩ := h2 i hi
      rw [Addr.add_lit] at q1
      exact ⟨a', n', c', q1, q2⟩
end
end Go.Proofs.Ythmcliapdnbdjaa
