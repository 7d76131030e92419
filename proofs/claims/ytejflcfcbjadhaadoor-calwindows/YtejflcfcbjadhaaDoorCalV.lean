/-
  What a law's shell hands on: a config that came in by value; the table of slots in its variable, as the row lists it.
  Conditions: none.
-/
import Derived.Test.YtejflcfcbjadhaaDoorCalM
import Derived.Lib.SmallJoins
import Derived.Lib.LaidTab
import Derived.Laws.IdiomArrays
import Derived.SizedLaws
import Derived.LaidMore
namespace Go.Proofs.YtejflcfcbjadhaaDoor
open Go.RowKit Go.ChangeShapes Go.WideShapes Go.Joins
set_option maxRecDepth 20000

/-- What the rows list. -/
def laidC : List (String × DataW Unit) := [("varve/cal.sizes", Rows.laid_varve_cal_sizes)]
theorem gSizes : Tryd.prog.globalNamed "varve/cal.sizes" = some 0 := by kernel_rfl
theorem tSizes : (Tryd.prog.globals[0]?).map (·.type) = some 22 := by kernel_rfl
theorem int_cells : Tryd.prog.cellsOf 3 = 1 := by kernel_rfl
theorem arr_cells : Tryd.prog.cellsOf 22 = 4 := by kernel_rfl
theorem conf_cells : Tryd.prog.cellsOf 24 = 5 := by kernel_rfl
/-- The door's own heap meets the condition. -/
theorem doorC_met (os : Os) (args : Array Value) : laidMetH Tryd.prog laidC ((World.doorLaid Tryd.prog 400 os).forCall (fun _ _ => 0) ⟨#[], args, []⟩).memory :=
  laidMetH_of_parts3 (fuel := 8) (laidMet_of_run' 8 (by kernel_rfl) (by kernel_rfl)) (by kernel_rfl) (by kernel_rfl)
theorem tab_of_laid {W : World} (h : laidMetH Tryd.prog laidC W) : TbW W := by
  rw [MakeChecks.laidMetH_plain _ _ _ (by kernel_rfl)] at h
  have hT : Lib.TabIs Tryd.prog W "varve/cal.sizes" .i64 [1, 6, 360, 8640] := Lib.tabIs_of_head gSizes tSizes Tryd.underlying22 Tryd.underlying3 int_cells arr_cells h
  exact ⟨hT.cell gSizes 0 (by decide), hT.cell gSizes 1 (by decide), hT.cell gSizes 2 (by decide), hT.cell gSizes 3 (by decide)⟩
theorem conf_fields : ∃ f0 f1 : Field, Tryd.prog.underlying 24 = some (.struct #[f0, f1]) ∧ f0.offset = 0 ∧ f1.offset = 1 ∧ f0.type = 3 ∧ f1.type = 22 := by
  rw [Tryd.underlying24]
  exact ⟨_, _, rfl, rfl, rfl, rfl, rfl⟩
section
variable {H : Type} {enc : TypeId × Value → H} {W : World} {base : Nat} {held : Bool}
theorem conf_open {r : Reach} {b0 : Nat} {v : Value} {d : DataW H} {p : List MemPlace} (hv : Value.okWide Tryd.prog W r b0 24 v) (h : DataW.Trod enc Tryd.prog W base (fun _ => true) held 24 v d p) :
    ∃ c : Cf, v = cfV c ∧ CfW c := by
  obtain ⟨f0, f1, hu, o0, o1, t0, t1⟩ := conf_fields
  obtain ⟨cs, rfl, hsz⟩ := okWide_struct hu hv
  rw [conf_cells] at hsz
  obtain ⟨cs⟩ := cs
  match cs, hsz with
  | [c0, c1, c2, c3, c4], _ =>
    obtain ⟨fuel, hf⟩ := h
    obtain ⟨y0, y1, n, hx, _, h0, h1⟩ := trod_struct2 hu hf
    rw [t0, o0, int_cells] at h0
    rw [t1, o1, arr_cells] at h1
    simp only [Value.cells, List.drop_zero, List.drop_succ_cons, List.take_succ_cons, List.take_zero] at h0 h1
    obtain ⟨z0, z1, z2, z3, m, _, e0, e1, e2, e3⟩ := trod_array4 Tryd.underlying22 int_cells h1
    obtain ⟨a, q, -, wa⟩ := DataW.trod_int Tryd.underlying3 h0
    obtain rfl : c0 = .int .i64 a := by simpa using q
    obtain ⟨k0, q, -, w0⟩ := DataW.trod_int Tryd.underlying3 e0
    obtain rfl : c1 = .int .i64 k0 := by simpa using q
    obtain ⟨k1, q, -, w1⟩ := DataW.trod_int Tryd.underlying3 e1
    obtain rfl : c2 = .int .i64 k1 := by simpa using q
    obtain ⟨k2, q, -, w2⟩ := DataW.trod_int Tryd.underlying3 e2
    obtain rfl : c3 = .int .i64 k2 := by simpa using q
    obtain ⟨k3, q, -, w3⟩ := DataW.trod_int Tryd.underlying3 e3
    obtain rfl : c4 = .int .i64 k3 := by simpa using q
    exact ⟨⟨a, k0, k1, k2, k3⟩, rfl, ⟨wa, w0, w1, w2, w3⟩⟩
end
end Go.Proofs.YtejflcfcbjadhaaDoor
