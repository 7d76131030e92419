/-
  The document's file system: its names in order (List): a contract, for every world.
  Conditions: the file system lies in memory; as the theorem says.
-/
import Derived.Test.YthlkmjaflomflaaGreatVfsS
namespace Go.Proofs.YthlkmjaflomflaaGreat
open Go.RowKit
set_option maxRecDepth 20000
set_option linter.unusedVariables false

theorem slice_toS (a : Option Addr) (n cap k : Nat) (hk : k ≤ cap) (w : World) :
    (Instr.slice 41 (.slice a n cap) none (some (.int .i64 (k : Int))) none).run Tryz.prog w = .ok (.slice a k cap) w := by
  rw [run_slice_h (P := Tryz.prog) w 41 a n cap Tryz.underlying41 .i64 (k : Int) (by omega) (by omega)]
  have hs : (sizeOf (Tryz.prog.elem 41)).run Tryz.prog w = .ok 1 w := by kernel_rfl
  rw [hs]
  simp only [Result.andThen, sliced, Int.toNat_natCast, Nat.zero_mul, Nat.sub_zero]
  cases a with
  | none => simp
  | some x => simp [Addr.add]
theorem slice_fromS (a : Option Addr) (n cap k : Nat) (hk : k ≤ n) (w : World) :
    (Instr.slice 41 (.slice a n cap) (some (.int .i64 (k : Int))) none none).run Tryz.prog w = .ok (.slice (if cap = k then a else a.map (·.add k)) (n - k) (cap - k)) w := by
  rw [run_slice_l (P := Tryz.prog) w 41 a n cap Tryz.underlying41 .i64 (k : Int) (by omega) (by omega)]
  have hs : (sizeOf (Tryz.prog.elem 41)).run Tryz.prog w = .ok 1 w := by kernel_rfl
  rw [hs]
  simp only [Result.andThen, sliced, Int.toNat_natCast, Nat.mul_one]
/-- What stands behind, as it is handed to append. -/
theorem OwnS.fromCells {w : World} {base n cap k : Nat} {a : Option Addr} {l : List ByteArray} (h : OwnS w base a n cap l) (hk : k ≤ n) :
    (∀ ad, (if cap = k then a else a.map (·.add k)) = some ad → ∀ j u, ((l.drop k).flatMap stV)[j]? = some u → w.cell? (ad.add j) = some u) ∧ ((if cap = k then a else a.map (·.add k)) = none → n - k = 0 ∧ cap - k = 0) ∧ (l.drop k).length = n - k := by
  have hl := OwnG.len stV_len (by decide) h
  have hc := OwnG.capped h
  have hd : (l.drop k).length = n - k := by rw [List.length_drop, hl]
  refine ⟨?_, ?_, hd⟩
  · intro ad ha j u hj
    by_cases e : cap = k
    · have : l.drop k = [] := List.drop_eq_nil_of_le (by omega)
      rw [this] at hj
      simp at hj
    · rw [if_neg e] at ha
      cases ha0 : a with
      | none => rw [ha0] at ha; simp at ha
      | some x =>
        rw [ha0] at ha
        simp at ha
        subst ha
        have h2 := OwnG.cellsAll h x ha0 (k + j) u (by
          have e3 : l.flatMap stV = (l.take k).flatMap stV ++ (l.drop k).flatMap stV := by rw [← List.flatMap_append, List.take_append_drop]
          rw [e3, List.getElem?_append_right (by rw [flatG_len stV_len, List.length_take]; omega), flatG_len stV_len, List.length_take, show k + j - min k l.length * 1 = j by omega]
          exact hj)
        rw [Addr.add_add] at *
        exact h2
  · intro hn
    by_cases e : cap = k
    · rw [if_pos e] at hn
      have := hc.2 hn
      omega
    · rw [if_neg e] at hn
      cases ha0 : a with
      | none => have := hc.2 ha0; omega
      | some x => rw [ha0] at hn; simp at hn
theorem listD_take {l : List Dn} {k : Nat} {d : Dn} (h : l[k]? = some d) : listD (l.take (k + 1)) = insN (listD (l.take k)) d.nm := by
  obtain ⟨hk, e⟩ := List.getElem?_eq_some_iff.1 h
  unfold listD
  rw [List.take_succ_eq_append_getElem hk, List.foldl_append, e]
  rfl
end Go.Proofs.YthlkmjaflomflaaGreat
