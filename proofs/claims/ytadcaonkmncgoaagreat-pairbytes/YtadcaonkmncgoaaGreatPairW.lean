/-
  What the law's shell hands on of a sketch that came in by value: its two slices and its gauge.
  Conditions: none.
-/
import Derived.Test.YtadcaonkmncgoaaGreatHistW
import Derived.Test.YtadcaonkmncgoaaGreatVintA
import Derived.Test.YtadcaonkmncgoaaGreatGaugeAz
import Derived.Lib.SmallJoins
import Derived.SizedLaws
import Derived.Deep.Strs
namespace Go.Proofs.YtadcaonkmncgoaaGreat
open Go.RowKit Go.ChangeShapes Go.WideShapes Go.Deep Go.Joins
set_option maxRecDepth 20000

theorem ske_fields : ∃ f0 f1 f2 : Field, Tryz.prog.underlying 28 = some (.struct #[f0, f1, f2]) ∧ f0.offset = 0 ∧ f1.offset = 1 ∧ f2.offset = 2 ∧ f0.type = 22 ∧ f1.type = 23 ∧ f2.type = 26 := by
  rw [Tryz.underlying28]
  exact ⟨_, _, _, rfl, rfl, rfl, rfl, rfl, rfl, rfl⟩
theorem gau_fields : ∃ f0 f1 f2 f3 : Field, Tryz.prog.underlying 26 = some (.struct #[f0, f1, f2, f3]) ∧ f0.offset = 0 ∧ f1.offset = 1 ∧ f2.offset = 2 ∧ f3.offset = 3 ∧ f0.type = 24 ∧ f1.type = 24 ∧ f2.type = 24 ∧ f3.type = 24 := by
  rw [Tryz.underlying26]
  exact ⟨_, _, _, _, rfl, rfl, rfl, rfl, rfl, rfl, rfl, rfl, rfl⟩
theorem ske_cells : Tryz.prog.cellsOf 28 = 6 := by kernel_rfl
theorem bks_cells : Tryz.prog.cellsOf 22 = 1 := by kernel_rfl
theorem u64s_cells : Tryz.prog.cellsOf 23 = 1 := by kernel_rfl
theorem gau_cells : Tryz.prog.cellsOf 26 = 4 := by kernel_rfl
theorem u64_cells : Tryz.prog.cellsOf 24 = 1 := by kernel_rfl
theorem bk_bytes : Tryz.prog.bytesOf 63 = 16 := by kernel_rfl
theorem u64_bytes : Tryz.prog.bytesOf 24 = 8 := by kernel_rfl

section
variable {H : Type} {enc : TypeId × Value → H} {W : World} {base : Nat} {held : Bool}

theorem bks_form {fuel : Nat} {v : Value} {x : DataW H × List MemPlace} (hf : DataW.trod enc Tryz.prog W base (fun _ => true) held fuel 22 [v] = some x) : ∃ a len cap, v = .slice a len cap := by
  obtain ⟨f0, f1, hu, o0, o1, t0, t1⟩ := bks_fields
  rcases open_slice_pairs Tryz.underlying22 hu (by kernel_rfl) o0 o1 (by rw [t0]; kernel_rfl) (by rw [t1]; kernel_rfl) hf with ⟨hcs, _⟩ | ⟨ad, l', c', m, n, V0, V1, D0, D1, P0, P1, hcs, _⟩
  · exact ⟨none, 0, 0, by simpa using hcs⟩
  · exact ⟨some ad, l', c', by simpa using hcs⟩

theorem bks_is {fuel : Nat} {a : Option Addr} {len cap : Nat} {x : DataW H × List MemPlace} (hf : DataW.trod enc Tryz.prog W base (fun _ => true) held fuel 22 [.slice a len cap] = some x)
    (hw : ∀ n ∈ x.1.weights Tryz.prog 22, n ≤ reachBytes) : ∃ l, IsBks W a len cap l := by
  rcases bks_trod hf with ⟨rfl, rfl, rfl⟩ | ⟨ad, l, elems, spare, rfl, hl, h1, h2, hd, hm, hc⟩
  · exact ⟨[], by decide, by decide, fun _ => ⟨rfl, rfl⟩, rfl, by decide, by simp, Or.inl rfl⟩
  · have hs := hw ((elems.length + spare.length) * Tryz.prog.bytesOf 63) (by rw [hd]; simp [DataW.weights, Tryz.underlying22])
    rw [bk_bytes, hm] at hs
    simp only [if_true, reachBytes] at hs
    exact ⟨l, by omega, hl, fun h => by simp at h, bks_row h1 (by omega) h2 hc⟩

theorem u64s_is {fuel : Nat} {v : Value} {x : DataW H × List MemPlace} (hf : DataW.trod enc Tryz.prog W base (fun _ => true) held fuel 23 [v] = some x)
    (hw : ∀ n ∈ x.1.weights Tryz.prog 23, n ≤ reachBytes) : ∃ a len cap zs, v = .slice a len cap ∧ IsRow .u64 W a len cap zs := by
  rcases open_ints Tryz.underlying23 Tryz.underlying24 (by kernel_rfl) hf with ⟨hcs, _⟩ | ⟨ad, l, c, zs, hcs, _, hl, hm, hz, hx, hcell, hwz⟩
  · exact ⟨none, 0, 0, [], by simpa using hcs, by decide, .inl ⟨rfl, rfl, rfl, rfl⟩⟩
  · have hd := congrArg Prod.fst hx
    simp only at hd
    have hs := hw _ (by rw [hd]; simp only [DataW.weights, Tryz.underlying23]; exact List.mem_cons_self ..)
    rw [u64_bytes] at hs
    simp only [lits, List.length_map, List.length_take, List.length_drop, reachBytes] at hs
    have hzc : zs.length = c := by simpa using hz
    exact ⟨_, l, c, zs, by simpa using hcs, by show c * 8 ≤ _; omega, .inr ⟨_, rfl, hl, hm, hzc, hcell, hwz⟩⟩

theorem ske_open {r : Reach} {b0 : Nat} {v : Value} {d : DataW H} {p : List MemPlace} (hv : Value.okWide Tryz.prog W r b0 28 v) (h : DataW.Trod enc Tryz.prog W base (fun _ => true) held 28 v d p)
    (hw : ∀ n ∈ d.weights Tryz.prog 28, n ≤ reachBytes) :
    ∃ (ah : Option Addr) (nh ch : Nat) (hs : Bks) (ak : Option Addr) (nk ck : Nat) (ks : List Int) (g : Gz), v = .agg #[.slice ah nh ch, .slice ak nk ck, .int .u64 g.n, .int .u64 g.nans, .int .u64 g.lo, .int .u64 g.hi] ∧ IsBks W ah nh ch hs ∧ IsRow .u64 W ak nk ck ks ∧ GW g := by
  obtain ⟨f0, f1, f2, hu, o0, o1, o2, t0, t1, t2⟩ := ske_fields
  obtain ⟨cs, rfl, hsz⟩ := okWide_struct hu hv
  rw [ske_cells] at hsz
  obtain ⟨cs⟩ := cs
  match cs, hsz with
  | [c0, c1, c2, c3, c4, c5], _ =>
    obtain ⟨fuel, hf⟩ := h
    obtain ⟨y0, y1, y2, n, hx, _, h0, h1, h2⟩ := trod_struct3 hu hf
    rw [t0, o0, bks_cells] at h0
    rw [t1, o1, u64s_cells] at h1
    rw [t2, o2, gau_cells] at h2
    simp only [Value.cells, List.drop_zero, List.drop_succ_cons, List.take_succ_cons, List.take_zero] at h0 h1 h2
    simp only [Prod.mk.injEq] at hx
    obtain ⟨rfl, rfl⟩ := hx
    have hwe : ∀ m ∈ DataW.weightsEach Tryz.prog [22, 23, 26] [y0.1, y1.1, y2.1], m ≤ reachBytes := by
      intro m hm
      refine hw m ?_
      simp only [DataW.weights, hu, List.map_cons, List.map_nil, t0, t1, t2]
      exact hm
    obtain ⟨ah, nh, ch, rfl⟩ := bks_form h0
    obtain ⟨hs, w0'⟩ := bks_is h0 (fun m hm => hwe m (DataW.weights_mem_each (j := 0) rfl rfl m hm))
    obtain ⟨ak, nk, ck, ks, rfl, w1'⟩ := u64s_is h1 (fun m hm => hwe m (DataW.weights_mem_each (j := 1) rfl rfl m hm))
    obtain ⟨g0, g1, g2, g3, hg, q0, q1, q2, q3, s0, s1, s2, s3⟩ := gau_fields
    obtain ⟨z0, z1, z2, z3, m, _, _, e0, e1, e2, e3⟩ := trod_struct4 hg h2
    rw [s0, q0, u64_cells] at e0
    rw [s1, q1, u64_cells] at e1
    rw [s2, q2, u64_cells] at e2
    rw [s3, q3, u64_cells] at e3
    simp only [List.drop_zero, List.drop_succ_cons, List.take_succ_cons, List.take_zero] at e0 e1 e2 e3
    obtain ⟨x0, d0, -, v0⟩ := DataW.trod_int Tryz.underlying24 e0
    obtain ⟨x1, d1, -, v1⟩ := DataW.trod_int Tryz.underlying24 e1
    obtain ⟨x2, d2, -, v2⟩ := DataW.trod_int Tryz.underlying24 e2
    obtain ⟨x3, d3, -, v3⟩ := DataW.trod_int Tryz.underlying24 e3
    simp only [List.cons.injEq, and_true] at d0 d1 d2 d3
    subst d0 d1 d2 d3
    exact ⟨ah, nh, ch, hs, ak, nk, ck, ks, ⟨x0, x1, x2, x3⟩, rfl, w0', w1', word_of_wf v0, word_of_wf v1, word_of_wf v2, word_of_wf v3⟩
end
end Go.Proofs.YtadcaonkmncgoaaGreat
