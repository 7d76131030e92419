/-
  What the law's shell hands on of a slice of slices of labels that came in.
  Conditions: none.
-/
import Derived.Test.YtpffhpnmbpjifaaGreatIdxM
import Derived.Test.YtpffhpnmbpjifaaGreatLabZb
import Derived.ChangeSlices
import Derived.ChangeArms
import Derived.Deep.SlicePairs
import Derived.OpenShut
import Derived.SizedLaws
import Derived.Lib.SmallJoins
import Derived.Deep.Strs
namespace Go.Proofs.YtpffhpnmbpjifaaGreat
open Go.RowKit Go.ChangeShapes Go.WideShapes Go.Deep Go.Joins
set_option maxRecDepth 20000

theorem labs_cells : Tryz.prog.cellsOf 42 = 1 := by kernel_rfl
theorem labs_bytes : Tryz.prog.bytesOf 42 = 24 := by kernel_rfl
/-- A slice of slices of labels that came in. -/
def IsLL (w : World) (a : Option Addr) (len cap : Nat) (ls : Lx) : Prop := len ≤ cap ∧ (a = none → cap = 0) ∧ RowLL w a len ls
section
variable {H : Type} {enc : TypeId × Value → H} {W : World}
theorem weightsAll_inL {P : Program} {e : TypeId} : ∀ {l : List (DataW H)} {d : DataW H}, d ∈ l → ∀ n ∈ d.weights P e, n ∈ DataW.weightsAll P e l
  | y :: r, d, h, n, hn => by
    simp only [DataW.weightsAll, List.mem_append]
    rcases List.mem_cons.1 h with rfl | h
    · exact Or.inl hn
    · exact Or.inr (weightsAll_inL h n hn)
theorem labss_open {fuel : Nat} {a : Option Addr} {len cap : Nat} {x : DataW H × List MemPlace} {ts : List TypeId} {ds : List (DataW H)} (h : (DataW.weightsEach Tryz.prog ts ds).all (· ≤ reachBytes) = true) {j : Nat} (ht : ts[j]? = some 22) (hd : ds[j]? = some x.1)
    (hf : DataW.trod enc Tryz.prog W 0 (fun _ => true) true fuel 22 [.slice a len cap] = some x) : ∃ ls, IsLL W a len cap ls := by
  rcases open_slice Tryz.underlying22 hf with ⟨hcs, _⟩ | ⟨ad, l', c', m, n, D, Pl, hcs, _, hl, _, hm, rfl, hx⟩
  · simp at hcs
    obtain ⟨rfl, rfl, rfl⟩ := hcs
    exact ⟨[], by decide, fun _ => rfl, rfl, by decide, Or.inl rfl⟩
  · simp at hcs
    obtain ⟨rfl, rfl, rfl⟩ := hcs
    simp only [if_true] at hm
    subst hm
    have hsz := sized_slice h (j := j) (t := 22) (e := 42) ht hd Tryz.underlying22
    rw [labs_bytes] at hsz
    simp only [List.length_map, List.length_range, reachBytes] at hsz
    have hwt : ∀ i, i < len → ∀ q ∈ (D i).weights Tryz.prog 42, q ≤ reachBytes := by
      intro i hi q hq
      have h1 := List.all_eq_true.1 h q (DataW.weights_mem_each ht hd q (by
        simp only [DataW.weights, Tryz.underlying22, List.mem_cons, List.mem_append]
        exact Or.inr (Or.inl (weightsAll_inL (List.mem_map.2 ⟨i, List.mem_range.2 hi, rfl⟩) q hq))))
      simpa using h1
    have each : ∀ i, i < len → ∃ (l : List Lb) (h : Hl), W.cell? (ad.add i) = some (hlV h) ∧ SlL W h l := by
      intro i hi
      obtain ⟨cs', h1, h2⟩ := hx i (by omega)
      rw [labs_cells] at h1
      obtain ⟨_, hlen, hcell⟩ := World.cells?_some h1
      match cs', hlen with
      | [v], _ =>
        obtain ⟨a', n', c', rfl⟩ : ∃ a' n' c', v = .slice a' n' c' := by
          rcases open_slice Tryz.underlying42 h2 with ⟨hcs, _⟩ | ⟨ad', l', c', m, n, D', Pl', hcs, _⟩
          · exact ⟨none, 0, 0, by simpa using hcs⟩
          · exact ⟨_, _, _, by simpa using hcs⟩
        obtain ⟨xs, hr⟩ := labs_open (ts := [42]) (ds := [D i]) (j := 0) (by
          simp only [DataW.weightsEach, List.append_nil]
          rw [List.all_eq_true]
          intro q hq
          simpa using hwt i hi q hq) rfl rfl h2
        refine ⟨xs, (a', n', c'), ?_, hr.2.2.2, hr.2.1, fun e => (hr.2.2.1 e).2⟩
        have := hcell 0 (by omega)
        show W.cell? (ad.add i) = some (.slice a' n' c')
        simpa [Addr.add] using this
    have hall : ∀ k, k ≤ len → ∃ ls : Lx, ls.length = k ∧ ∀ (i : Nat) (l : List Lb), ls[i]? = some l → ∃ h : Hl, W.cell? (ad.add i) = some (hlV h) ∧ SlL W h l := by
      intro k
      induction k with
      | zero => intro _; exact ⟨[], rfl, fun i l hi => by simp at hi⟩
      | succ k ih =>
        intro hk
        obtain ⟨ls, h1, h2⟩ := ih (by omega)
        obtain ⟨l, h, g1, g2⟩ := each k (by omega)
        refine ⟨ls ++ [l], by rw [List.length_append, h1]; rfl, fun i l' hi => ?_⟩
        by_cases hik : i < k
        · rw [List.getElem?_append_left (by omega)] at hi
          exact h2 i l' hi
        · have hlt : i < (ls ++ [l]).length := (List.getElem?_eq_some_iff.1 hi).1
          have : i = k := by rw [List.length_append, h1] at hlt; simp at hlt; omega
          subst this
          rw [List.getElem?_append_right (by omega), h1, Nat.sub_self] at hi
          simp at hi
          subst hi
          exact ⟨h, g1, g2⟩
    obtain ⟨ls, h1, h2⟩ := hall len (Nat.le_refl _)
    refine ⟨ls, hl, fun h => by simp at h, h1, by omega, ?_⟩
    by_cases h0 : len = 0
    · exact Or.inl h0
    · right
      obtain ⟨b, off, spot⟩ := ad
      have hs : spot = none := by
        obtain ⟨h, q1, _⟩ := h2 0 _ (List.getElem?_eq_getElem (by omega))
        simpa [Addr.add] using World.cell?_spot q1
      subst hs
      refine ⟨b, off, rfl, fun i l hi => ?_⟩
      obtain ⟨h, q1, q2⟩ := h2 i l hi
      rw [Addr.add_lit] at q1
      exact ⟨h, q1, q2⟩
end
end Go.Proofs.YtpffhpnmbpjifaaGreat
