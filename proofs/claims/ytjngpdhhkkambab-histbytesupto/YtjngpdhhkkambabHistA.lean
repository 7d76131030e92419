/-
  A histogram's counts in memory: how they are read, written, cleared; what hist.New comes to.
  Conditions: as each theorem says.
-/
import Derived.Test.YtjngpdhhkkambabChK
import Derived.Test.YtjngpdhhkkambabHistM
import Derived.Test.YtjngpdhhkkambabRows
import Derived.Lib.SliceRun
import Derived.Laws.Tables
namespace Go.Proofs.Ytjngpdhhkkambab
open Go.RowKit

/-- Counts as cells of memory. -/
def arrV (H : List Int) : Array Value := (H.map (Value.int .u64)).toArray
/-- A histogram that lies at block g. -/
structure HistAt (w : World) (g : Nat) (H : List Int) : Prop where
  heap : w.heap[g]? = some (.cells (arrV H) 71 (0, 0))
  len : H.length = 7424
  words : WordsH H

theorem arrV_get (H : List Int) (i : Nat) (h : i < H.length) : (arrV H)[i]? = some (.int .u64 (H.getD i 0)) := by
  unfold arrV
  rw [List.getElem?_toArray, List.getElem?_map, List.getElem?_eq_getElem h, List.getD_eq_getElem?_getD, List.getElem?_eq_getElem h]
  rfl
theorem arrV_set (H : List Int) (i : Nat) (v : Int) : (arrV H).setIfInBounds i (.int .u64 v) = arrV (H.set i v) := by
  unfold arrV
  rw [List.setIfInBounds_toArray, List.map_set]
theorem HistAt.lt {w : World} {g : Nat} {H : List Int} (h : HistAt w g H) : g < w.heap.size := (Array.getElem?_eq_some_iff.1 h.heap).1
theorem HistAt.cell {w : World} {g : Nat} {H : List Int} (h : HistAt w g H) {i : Nat} (hi : i < 7424) : w.cell? ⟨g, i, none⟩ = some (.int .u64 (H.getD i 0)) := by
  rw [cell_of_row w g i _ _ (0, 0) h.heap]
  exact arrV_get H i (by rw [h.len]; exact hi)
theorem HistAt.frozen {w : World} {g : Nat} {H : List Int} (h : HistAt w g H) (i : Nat) : w.frozen? ⟨g, i, none⟩ = false := frozen_of_row w g i _ _ h.heap
theorem HistAt.set {w : World} {g : Nat} {H : List Int} (h : HistAt w g H) (i : Nat) {v : Int} (hv : 0 ≤ v ∧ v < 18446744073709551616) : HistAt (w.setCell ⟨g, i, none⟩ (.int .u64 v)) g (H.set i v) :=
  ⟨by rw [heap_setCell_same w g i _ _ _ h.heap, arrV_set], by rw [List.length_set]; exact h.len, words_set h.words i hv⟩
theorem HistAt.below {B : Nat} {w w' : World} {g : Nat} {H : List Int} (h : HistAt w g H) (hb : Below B w w') (hg : g < B) : HistAt w' g H := ⟨(hb.block g hg).trans h.heap, h.len, h.words⟩
theorem HistAt.ch {S : Nat → Prop} {w w' : World} {g : Nat} {H : List Int} (h : HistAt w g H) (c : Ch S w w') (hn : ¬ S g) : HistAt w' g H := ⟨(c.block g h.lt hn).trans h.heap, h.len, h.words⟩
theorem HistAt.drew {w : World} {g : Nat} {H : List Int} (h : HistAt w g H) : HistAt w.drew g H := ⟨h.heap, h.len, h.words⟩
theorem HistAt.alloc {w : World} {g : Nat} {H : List Int} (h : HistAt w g H) (o : Obj) : HistAt (w.alloc o) g H := h.below ((Below.refl w.heap.size w).alloc (Nat.le_refl _) o) h.lt
theorem HistAt.getD {w : World} {g : Nat} {H : List Int} (h : HistAt w g H) (i : Nat) : 0 ≤ H.getD i 0 ∧ H.getD i 0 < 18446744073709551616 := by
  have := atH_word h.words (i : Int)
  unfold atH at this
  rwa [if_neg (by omega), Int.toNat_natCast] at this
theorem getD_atH {H : List Int} (i : Nat) : H.getD i 0 = atH H (i : Int) := by
  unfold atH
  rw [if_neg (by omega), Int.toNat_natCast]

/-- Counts written one behind the other. -/
def putAt : List Int → Nat → List Int → List Int
  | H, _, [] => H
  | H, o, v :: r => putAt (H.set o v) (o + 1) r
theorem putAt_eq (H : List Int) (o : Nat) (l : List Int) (h : o + l.length ≤ H.length) : putAt H o l = H.take o ++ l ++ H.drop (o + l.length) := by
  induction l generalizing H o with
  | nil => simp [putAt]
  | cons v r ih =>
    simp only [List.length_cons] at h
    rw [putAt, ih _ _ (by rw [List.length_set]; omega)]
    have h1 : (H.set o v).take (o + 1) = H.take o ++ [v] := by
      rw [List.take_succ_eq_append_getElem (by rw [List.length_set]; omega), List.take_set_of_le (by omega), List.getElem_set_self]
    have h2 : (H.set o v).drop (o + 1 + r.length) = H.drop (o + (v :: r).length) := by
      rw [List.drop_set_of_lt (by omega)]
      congr 1
      simp only [List.length_cons]; omega
    rw [h1, h2]
    simp
theorem putAt_all {H l : List Int} (h : l.length = H.length) : putAt H 0 l = l := by
  rw [putAt_eq H 0 l (by omega)]
  simp [h]
theorem HistAt.setCells {w : World} {g : Nat} {H : List Int} (h : HistAt w g H) (o : Nat) {l : List Int} (hl : WordsH l) : HistAt (w.setCells g o (l.map (Value.int .u64))) g (putAt H o l) := by
  induction l generalizing w H o with
  | nil => exact h
  | cons v r ih => exact ih (h.set o (hl v (List.mem_cons_self ..))) (o + 1) (fun x hx => hl x (List.mem_cons_of_mem _ hx))
theorem below_cells {B : Nat} {a w : World} {g : Nat} (hg : B ≤ g) (h : Below B a w) (vs : List Value) (o : Nat) : Below B a (w.setCells g o vs) := by
  induction vs generalizing w o with
  | nil => exact h
  | cons v r ih => exact ih (h.setCell (p := ⟨g, o, none⟩) hg v) (o + 1)

set_option maxRecDepth 100000 in
theorem zero_hist (w : World) : (zeroValue 71).run Try.prog w = .ok (.agg (arrV H0)) w := by kernel_rfl
/-- A new variable of a type whose nought has many cells. -/
theorem wpList_alloc0 {P : Program} {w : World} {ops : Array Oper} {rest : List Oper} {o : Oper} {a : Act} {Q : Exit → Act → World → Prop} (hgd : o.guard = none) (t : TypeId)
    (ho : o.op = .alloc t) {Z : Array Value} (hb : ∀ w, (zeroValue t).run P w = .ok (.agg Z) w)
    (h : wpList P ops Q rest (a.put o.dst (.pointer (some ⟨w.heap.size, 0, none⟩))) (w.alloc (.cells Z t))) : wpList P ops Q (o :: rest) a w := by
  refine wpList_plain hgd fun K hK => ?_
  unfold Oper.wp
  simp [execOp, ho, Instr.alloc, hb, newVar, newRow, Value.cells, Result.andThen]
  exact hK _ _ h
theorem hist_made (w : World) {Z : Array Value} (hZ : arrV H0 = Z) : HistAt (w.alloc (.cells Z 71)) w.heap.size H0 := by
  subst hZ
  exact ⟨World.alloc_heap_new w _, H0_len, H0_words⟩
/-- 'clear' of all counts. -/
theorem run_clear_all {w : World} {g : Nat} {H : List Int} (h : HistAt w g H) (ty : TypeId) (c : Nat) :
    (Builtin.clear_ #[56] ty #[.slice (some ⟨g, 0, none⟩) 7424 c]).run Try.prog w = .ok (.tuple #[]) (w.setCells g 0 (H0.map (Value.int .u64))) := by
  have hz : ∀ w, (zeroValue 39).run Try.prog w = .ok (.int .u64 0) w := fun w => by kernel_rfl
  have e : H0.map (Value.int .u64) = List.replicate 7424 (.int .u64 0) := by unfold H0; rw [List.map_replicate]
  rw [e]
  refine Lib.run_clear_slice w _ _ ty _ Try.underlying56 hz rfl rfl g 0 7424 c (by omega) (fun j hj => ?_) (fun j _ => ?_)
  · rw [Nat.zero_add, h.cell hj]; rfl
  · rw [Nat.zero_add]; exact h.frozen j

set_option maxHeartbeats 1000000 in
theorem new_any (w : World) : Calls Try.prog 18 #[] w fun e w' => e = .returned (.pointer (some ⟨w.heap.size, 0, none⟩)) ∧ HistAt w' w.heap.size H0 ∧ Below w.heap.size w w' := by
  have HB : Hid (∀ w, (zeroValue 71).run Try.prog w = .ok (.agg (arrV H0)) w) := zero_hist
  obtain ⟨Z, HZ⟩ : ∃ Z, Hid (arrV H0 = Z) := ⟨_, rfl⟩
  rw [HZ.out] at HB
  have h1 := hist_made w HZ.out
  have hcl := run_clear_all h1 0 7424
  have HF : Hid (HistAt ((w.alloc (.cells Z 71)).setCells w.heap.size 0 (H0.map (Value.int .u64))) w.heap.size H0) := by
    have := h1.setCells 0 H0_words
    rwa [putAt_all rfl] at this
  have HW : Hid (Below w.heap.size w ((w.alloc (.cells Z 71)).setCells w.heap.size 0 (H0.map (Value.int .u64)))) := below_cells (Nat.le_refl _) (bel_al (Below.refl _ _) (Nat.le_refl _) _) _ _
  clear h1
  generalize H0.map (Value.int .u64) = Y at *
  go_enter Try.func18, Try.ntmps18
  go_wp2_with (refine wpList_alloc0 rfl _ rfl HB.out ?_)
  go_ret
  exact ⟨rfl, HF.out, HW.out⟩
end Go.Proofs.Ytjngpdhhkkambab
