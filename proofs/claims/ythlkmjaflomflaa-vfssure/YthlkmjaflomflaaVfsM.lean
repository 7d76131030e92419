/-
  The document's names, turns and units in rows; find, without: contracts, for every world.
  Conditions: as each theorem says.
-/
import Derived.Test.YthlkmjaflomflaaGenK
import Derived.Test.YthlkmjaflomflaaVfsK
import Derived.Test.YthlkmjaflomflaaWldK
import Derived.Test.YthlkmjaflomflaaRows
import Derived.WalkKit
import Derived.WalkMore
import Derived.OwnWalk
namespace Go.Proofs.Ythlkmjaflomflaa
open Go.RowKit
set_option maxRecDepth 20000
set_option linter.unusedVariables false

/-- How each lies in its cells. -/
def dnV (d : Dn) : List Value := [.string d.nm, .int .i64 (d.f : Int)]
def unV (u : Un) : List Value := [.int .u8 u.b, .bool u.cut, .int .i64 u.n]
def tnV (t : Tn) : List Value := [.int .i64 (t.k : Int), .string t.nm, .string t.to, .int .i64 (t.f : Int)]
theorem dnV_len (d : Dn) : (dnV d).length = 2 := rfl
theorem unV_len (u : Un) : (unV u).length = 3 := rfl
theorem tnV_len (t : Tn) : (tnV t).length = 4 := rfl
theorem dnV_one (l : List Dn) : ∀ u ∈ l.flatMap dnV, u.oneCell' = true := by
  intro u hu
  rw [List.mem_flatMap] at hu
  obtain ⟨x, -, hx⟩ := hu
  simp [dnV] at hx
  rcases hx with rfl | rfl <;> rfl
theorem unV_one (l : List Un) : ∀ u ∈ l.flatMap unV, u.oneCell' = true := by
  intro u hu
  rw [List.mem_flatMap] at hu
  obtain ⟨x, -, hx⟩ := hu
  simp [unV] at hx
  rcases hx with rfl | rfl | rfl <;> rfl
theorem tnV_one (l : List Tn) : ∀ u ∈ l.flatMap tnV, u.oneCell' = true := by
  intro u hu
  rw [List.mem_flatMap] at hu
  obtain ⟨x, -, hx⟩ := hu
  simp [tnV] at hx
  rcases hx with rfl | rfl | rfl | rfl <;> rfl
/-- The place of a name, -1 where there is none. -/
def findI (l : List Dn) (s : ByteArray) : Int := match findD l s with
  | some k => (k : Int)
  | none => -1
theorem neq_ba {x s : ByteArray} (h : ¬ x = s) : (x.toList == s.toList) = false := by rw [ba_eq]; exact decide_eq_false h
theorem eq_ba {x s : ByteArray} (h : x = s) : (x.toList == s.toList) = true := by rw [ba_eq]; exact decide_eq_true h

theorem dn_cells (w : World) (d : Dn) (e : TypeId) : ∀ j u, (dnV d)[j]? = some u → (w.alloc (.cells #[.string d.nm, .int .i64 (d.f : Int)] e)).cell? ((⟨w.heap.size, 0, none⟩ : Addr).add j) = some u := by
  intro j u h
  match j, h with
  | 0, h => simp [dnV] at h; subst h; rw [Addr.add_lit, World.cell?_alloc_mark]; rfl
  | 1, h => simp [dnV] at h; subst h; rw [Addr.add_lit, World.cell?_alloc_mark]; rfl
theorem flat_one {α : Type} (fl : α → List Value) (x : α) : [x].flatMap fl = fl x := by simp
theorem wout_take {l : List Dn} {s : ByteArray} {k : Nat} {d : Dn} (h : l[k]? = some d) : wout (l.take (k + 1)) s = wout (l.take k) s ++ (if d.nm = s then [] else [d]) := by
  obtain ⟨hk, e⟩ := List.getElem?_eq_some_iff.1 h
  unfold wout
  rw [List.take_succ_eq_append_getElem hk, List.filter_append, e]
  congr 1
  by_cases g : d.nm = s
  · rw [if_pos g]; simp [g]
  · rw [if_neg g]; simp [g]

end Go.Proofs.Ythlkmjaflomflaa
