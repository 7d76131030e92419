/-
  What the law's shell hands on of a matcher that came in by value: its cells show a matcher.
  Conditions: none.
-/
import Derived.Test.YtpffhpnmbpjifaaGreatMatM
import Derived.Test.YtpffhpnmbpjifaaGreatLabZb
import Derived.ChangeSlices
import Derived.ChangeArms
import Derived.Deep.Slices
import Derived.Deep.Strs
import Derived.OpenShut
import Derived.SizedLaws
namespace Go.Proofs.YtpffhpnmbpjifaaGreat
open Go.RowKit Go.ChangeShapes Go.WideShapes Go.Deep
set_option maxRecDepth 20000

theorem mat_fields : ∃ f0 f1 f2 f3 f4 : Field, Tryz.prog.underlying 26 = some (.struct #[f0, f1, f2, f3, f4]) ∧ (f0.offset = 0 ∧ f1.offset = 1 ∧ f2.offset = 2 ∧ f3.offset = 3 ∧ f4.offset = 4) ∧ f0.type = 3 ∧ f1.type = 9 ∧ f2.type = 9 ∧ f3.type = 23 ∧ f4.type = 24 := by
  rw [Tryz.underlying26]
  exact ⟨_, _, _, _, _, rfl, ⟨rfl, rfl, rfl, rfl, rfl⟩, rfl, rfl, rfl, rfl, rfl⟩
theorem mat_cells : Tryz.prog.cellsOf 26 = 5 := by kernel_rfl
theorem mats_cells : Tryz.prog.cellsOf 24 = 1 := by kernel_rfl
theorem mat_bytes : Tryz.prog.bytesOf 26 = 88 := by kernel_rfl
theorem strs_cells : Tryz.prog.cellsOf 23 = 1 := by kernel_rfl
theorem str_cells : Tryz.prog.cellsOf 9 = 1 := by kernel_rfl
theorem str_bytes : Tryz.prog.bytesOf 9 = 16 := by kernel_rfl
theorem int_cells : Tryz.prog.cellsOf 3 = 1 := by kernel_rfl
theorem weightsAll_mem {H : Type} {P : Program} {e : TypeId} : ∀ {l : List (DataW H)} {d : DataW H}, d ∈ l → ∀ n ∈ d.weights P e, n ∈ DataW.weightsAll P e l
  | d' :: l, d, h, n, hn => by
    rw [DataW.weightsAll, List.mem_append]
    rcases List.mem_cons.1 h with rfl | h
    · exact Or.inl hn
    · exact Or.inr (weightsAll_mem h n hn)

section
variable {H : Type} {enc : TypeId × Value → H} {W : World} {base : Nat} {held : Bool}
theorem strs_see {fuel : Nat} {v : Value} {x : DataW H × List MemPlace} (hf : DataW.trod enc Tryz.prog W base (fun _ => true) held fuel 23 [v] = some x)
    (hw : ∀ n ∈ x.1.weights Tryz.prog 23, n ≤ reachBytes) : ∃ a len cap ss, v = .slice a len cap ∧ TxR (fun _ => True) W a len ss ∧ len ≤ cap ∧ (a = none → cap = 0) := by
  rcases open_strs Tryz.underlying23 Tryz.underlying9 str_cells hf with ⟨hcs, _⟩ | ⟨a, len, cap, m, Sx, hcs, _, hl, _, hm, rfl, hx⟩
  · refine ⟨none, 0, 0, [], by simpa using hcs, ⟨rfl, by decide, ?_, Or.inl rfl⟩, Nat.le_refl _, fun _ => rfl⟩
    intro s hs
    cases hs
  · simp only [if_true] at hm
    subst hm
    have hs := hw _ (by simp only [DataW.weights, Tryz.underlying23]; exact List.mem_cons_self ..)
    rw [str_bytes] at hs
    simp only [List.length_map, List.length_range, reachBytes] at hs
    refine ⟨some a, len, m, (List.range len).map Sx, by simpa using hcs, ⟨by simp, by omega, ?_, ?_⟩, hl, fun h => by simp at h⟩
    · intro s hs'
      obtain ⟨i, hi, rfl⟩ := List.mem_map.1 hs'
      have h1 : (Sx i).size ≤ maxLen := (hx i (by have := List.mem_range.1 hi; omega)).2
      unfold maxLen at h1
      omega
    · by_cases h0 : len = 0
      · exact Or.inl h0
      · right
        obtain ⟨b, off, spot⟩ := a
        have hsp : spot = none := by simpa [Addr.add] using World.cell?_spot (hx 0 (by omega)).1
        subst hsp
        refine ⟨b, off, rfl, trivial, fun i hi => ?_⟩
        have := (hx i (by omega)).1
        rw [Addr.add_lit] at this
        rw [this, List.getD_eq_getElem?_getD, List.getElem?_map, List.getElem?_range hi]
        rfl

theorem mt_trod (k : Nat) : ∀ {fuel : Nat} {cs : List Value} {x : DataW H × List MemPlace}, SizeOf.sizeOf x.1 ≤ k → cs.length = 5 → DataW.trod enc Tryz.prog W base (fun _ => true) held fuel 26 cs = some x →
    (∀ n ∈ x.1.weights Tryz.prog 26, n ≤ reachBytes) → ∃ (h : Hm) (m : Mt), cs = h.cells ∧ SeeM (fun _ => True) W m h := by
  induction k with
  | zero =>
    intro fuel cs x hz hl hf hw
    obtain ⟨f0, f1, f2, f3, f4, hu, -⟩ := mat_fields
    obtain ⟨ys, n, -, rfl, -⟩ := DataW.trod_struct hu hf
    simp at hz
  | succ k ih =>
    intro fuel cs x hz hl hf hw
    obtain ⟨f0, f1, f2, f3, f4, hu, ⟨o0, o1, o2, o3, o4⟩, t0, t1, t2, t3, t4⟩ := mat_fields
    obtain ⟨ys, n, -, rfl, -, hyl, hfl⟩ := DataW.trod_struct hu hf
    match ys, hyl, cs, hl with
    | [y0, y1, y2, y3, y4], _, [v0, v1, v2, v3, v4], _ =>
      have g0 := hfl 0 f0 rfl
      have g1 := hfl 1 f1 rfl
      have g2 := hfl 2 f2 rfl
      have g3 := hfl 3 f3 rfl
      have g4 := hfl 4 f4 rfl
      rw [o0, t0, int_cells] at g0
      rw [o1, t1, str_cells] at g1
      rw [o2, t2, str_cells] at g2
      rw [o3, t3, strs_cells] at g3
      rw [o4, t4, mats_cells] at g4
      simp at g0 g1 g2 g3 g4
      have hwe : ∀ m ∈ DataW.weightsEach Tryz.prog [3, 9, 9, 23, 24] [y0.1, y1.1, y2.1, y3.1, y4.1], m ≤ reachBytes := by
        intro m hm
        refine hw m ?_
        simp only [DataW.weights, hu, List.map_cons, List.map_nil, t0, t1, t2, t3, t4]
        exact hm
      obtain ⟨op, e0, -, w0⟩ := DataW.trod_int Tryz.underlying3 g0
      obtain ⟨nm, e1, -, w1⟩ := DataW.trod_string Tryz.underlying9 g1
      obtain ⟨vl, e2, -, w2⟩ := DataW.trod_string Tryz.underlying9 g2
      simp at e0 e1 e2
      subst e0 e1 e2
      unfold maxLen at w1 w2
      obtain ⟨va, vn, vc, vs, rfl, hv, hv1, hv2⟩ := strs_see g3 (fun m hm => hwe m (DataW.weights_mem_each (j := 3) rfl rfl m hm))
      have hw4 : ∀ m ∈ y4.1.weights Tryz.prog 24, m ≤ reachBytes := fun m hm => hwe m (DataW.weights_mem_each (j := 4) rfl rfl m hm)
      rcases open_slice Tryz.underlying24 g4 with ⟨hcs, _⟩ | ⟨ad, len, cap, m, n', D, Pl, hcs, _, hl', _, hm, hy4, hx⟩
      · simp at hcs
        subst hcs
        refine ⟨⟨op, nm, vl, va, vn, vc, none, 0, 0⟩, .mk op nm vl vs [], rfl, seeM_iff.2 ⟨rfl, rfl, rfl, ⟨w0, by show nm.size ≤ _; omega, by show vl.size ≤ _; omega, hv1, hv2, by show 0 * 88 ≤ _; omega, Nat.le_refl _, fun _ => rfl⟩, hv, rfl, Or.inl rfl⟩⟩
      · simp at hcs
        subst hcs
        simp only [if_true] at hm
        subst hm
        rw [mat_cells] at hx
        have hd : y4.1 = .slice ((List.range len).map D) ((List.range (m - len)).map fun j => D (len + j)) := congrArg Prod.fst hy4
        have hs := hw4 _ (by rw [hd]; simp only [DataW.weights, Tryz.underlying24]; exact List.mem_cons_self ..)
        rw [mat_bytes] at hs
        simp only [List.length_map, List.length_range, reachBytes] at hs
        have each : ∀ i, i < len → ∃ (h : Hm) (kd : Mt), (∀ j v, h.cells[j]? = some v → W.cell? (ad.add (i * 5 + j)) = some v) ∧ SeeM (fun _ => True) W kd h := by
          intro i hi
          obtain ⟨cs', h1, h2⟩ := hx i (by omega)
          obtain ⟨_, hlen, hcell⟩ := World.cells?_some h1
          have hmem : D i ∈ (List.range len).map D := List.mem_map.2 ⟨i, List.mem_range.2 hi, rfl⟩
          have hsz : SizeOf.sizeOf (D i) ≤ k := by
            have q1 := List.sizeOf_lt_of_mem hmem
            have q2 : SizeOf.sizeOf y4.1 = 1 + SizeOf.sizeOf ((List.range len).map D) + SizeOf.sizeOf ((List.range (m - len)).map fun j => D (len + j)) := by rw [hd, DataW.slice.sizeOf_spec]
            simp at hz
            omega
          obtain ⟨h', kd, e5, s5⟩ := ih (x := (D i, Pl i)) hsz hlen h2 (fun q hq => hw4 q (by
            rw [hd]
            simp only [DataW.weights, Tryz.underlying24, List.mem_cons, List.mem_append]
            exact Or.inr (Or.inl (weightsAll_mem hmem q hq))))
          refine ⟨h', kd, fun j v hj => ?_, s5⟩
          have hj5 : j < 5 := by
            have := (List.getElem?_eq_some_iff.1 hj).1
            exact this
          have := hcell j (by omega)
          rw [add_add] at this
          rw [this, e5, hj]
        have hall : ∀ q, q ≤ len → ∃ ks : List Mt, ks.length = q ∧ ∀ i kd, ks[i]? = some kd → ∃ h : Hm, (∀ j v, h.cells[j]? = some v → W.cell? (ad.add (i * 5 + j)) = some v) ∧ SeeM (fun _ => True) W kd h := by
          intro q
          induction q with
          | zero => intro _; exact ⟨[], rfl, fun i kd hi => by simp at hi⟩
          | succ q ihq =>
            intro hq
            obtain ⟨ks, h1, h2⟩ := ihq (by omega)
            obtain ⟨h', kd', p1, p2⟩ := each q (by omega)
            refine ⟨ks ++ [kd'], by simp [h1], fun i kd hi => ?_⟩
            by_cases hiq : i < q
            · rw [List.getElem?_append_left (by omega)] at hi
              exact h2 i kd hi
            · have hi2 : i < (ks ++ [kd']).length := (List.getElem?_eq_some_iff.1 hi).1
              simp only [List.length_append, List.length_cons, List.length_nil] at hi2
              have : i = q := by omega
              subst this
              rw [List.getElem?_append_right (by omega), h1] at hi
              simp at hi
              subst hi
              exact ⟨h', p1, p2⟩
        obtain ⟨ks, h1, h2⟩ := hall len (Nat.le_refl _)
        refine ⟨⟨op, nm, vl, va, vn, vc, some ad, len, m⟩, .mk op nm vl vs ks, rfl, seeM_iff.2 ⟨rfl, rfl, rfl, ⟨w0, by show nm.size ≤ _; omega, by show vl.size ≤ _; omega, hv1, hv2, by show len * 88 ≤ _; omega, hl', fun h => by simp at h⟩, hv, h1, ?_⟩⟩
        by_cases h0 : len = 0
        · exact Or.inl h0
        · right
          obtain ⟨b, off, spot⟩ := ad
          have hx0 : ks[0]? = some ks[0] := List.getElem?_eq_getElem (by omega)
          obtain ⟨hh, p1, _⟩ := h2 0 _ hx0
          have hsp : spot = none := by simpa [Addr.add] using World.cell?_spot (p1 0 _ rfl)
          subst hsp
          refine ⟨b, off, rfl, trivial, fun i kd hi => ?_⟩
          obtain ⟨h', q1, q2⟩ := h2 i kd hi
          refine ⟨h', fun j v hj => ?_, q2⟩
          have := q1 j v hj
          rw [Addr.add_lit] at this
          rw [show off + i * 5 + j = off + (i * 5 + j) by omega]
          exact this

theorem mt_open {r : Reach} {b0 : Nat} {v : Value} {d : DataW H} {p : List MemPlace} (hv : Value.okWide Tryz.prog W r b0 26 v) (h : DataW.Trod enc Tryz.prog W base (fun _ => true) held 26 v d p)
    (hw : ∀ n ∈ d.weights Tryz.prog 26, n ≤ reachBytes) :
    ∃ (h : Hm) (m : Mt), v = .agg #[.int .i64 h.op, .string h.nm, .string h.vl, .slice h.va h.vn h.vc, .slice h.ka h.kn h.kc] ∧ SeeM (fun _ => True) W m h := by
  obtain ⟨f0, f1, f2, f3, f4, hu, -⟩ := mat_fields
  obtain ⟨cs, rfl, hsz⟩ := okWide_struct hu hv
  rw [mat_cells] at hsz
  obtain ⟨cs⟩ := cs
  obtain ⟨fuel, hf⟩ := h
  obtain ⟨h', m, e, s⟩ := mt_trod (SizeOf.sizeOf d) (x := (d, p)) (Nat.le_refl _) hsz hf hw
  refine ⟨h', m, ?_, s⟩
  simp only at e
  rw [e]
  rfl
end
end Go.Proofs.YtpffhpnmbpjifaaGreat
