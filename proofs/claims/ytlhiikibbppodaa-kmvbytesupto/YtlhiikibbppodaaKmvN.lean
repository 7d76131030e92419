/-
  A sketch in memory: a map that reads as a rising list, and its greatest word beside it; what one word more, one word less make of both.
  Conditions: as each theorem says.
-/
import Derived.Test.YtlhiikibbppodaaSortL
namespace Go.Proofs.Ytlhiikibbppodaa
open Go.RowKit Go.Maps

theorem last_mem {l : List Int} (h : l ≠ []) : l.getLastD 0 ∈ l := by
  rw [List.getLastD_eq_getLast?, List.getLast?_eq_some_getLast h]
  exact List.getLast_mem h
theorem insK_ne {h : Int} {l : List Int} : insK h l ≠ [] := fun e => by
  have : h ∈ insK h l := mem_insK.2 (Or.inl rfl)
  rw [e] at this
  cases this
theorem last_insK {h : Int} {l : List Int} (hl : Up l) (h0 : 0 ≤ h) : (insK h l).getLastD 0 = max (l.getLastD 0) h := by
  have hm := last_mem (insK_ne (h := h) (l := l))
  have h1 := up_last (up_insK (h := h) hl) (mem_insK.2 (Or.inl rfl))
  by_cases e : l = []
  · subst e
    simp [insK]
    omega
  · have h2 := up_last (up_insK (h := h) hl) (mem_insK.2 (Or.inr (last_mem e)))
    rcases mem_insK.1 hm with h3 | h3
    · omega
    · have h4 := up_last hl h3
      omega
theorem insK_above {h : Int} {l : List Int} (ha : ∀ x ∈ l, x < h) : insK h l = l ++ [h] := by
  induction l with
  | nil => rfl
  | cons x t ih =>
    have hx := ha x (List.mem_cons_self ..)
    rw [insK, if_neg (by omega), if_neg (by omega), ih (fun y hy => ha y (List.mem_cons_of_mem _ hy)), List.cons_append]
/-- A word that is not below the last of n changes nothing. -/
theorem hashK_beyond {n : Nat} {h : Int} {l : List Int} (hl : Up l) (hn : l.length = n) (hp : 0 < n) (hh : l.getLastD 0 ≤ h) : hashK n l h = l := by
  unfold hashK
  have hne : l ≠ [] := fun e => by subst e; simp at hn; omega
  by_cases e : h = l.getLastD 0
  · rw [insK_there hl (e ▸ last_mem hne), ← hn, List.take_length]
  · rw [insK_above (fun x hx => by have := up_last hl hx; omega), ← hn, List.take_left']
    rfl
theorem hashAll_beyond {n : Nat} {l m : List Int} (hl : Up l) (hn : l.length = n) (hp : 0 < n) (hm : ∀ x ∈ m, l.getLastD 0 ≤ x) : hashAll n l m = l := by
  unfold hashAll
  induction m with
  | nil => rfl
  | cons x t ih => rw [List.foldl_cons, hashK_beyond hl hn hp (hm x (List.mem_cons_self ..))]; exact ih (fun y hy => hm y (List.mem_cons_of_mem _ hy))
theorem hashAll_append (n : Nat) (l a b : List Int) : hashAll n l (a ++ b) = hashAll n (hashAll n l a) b := by
  unfold hashAll
  rw [List.foldl_append]
theorem last_take {l : List Int} (hl : Up l) {n : Nat} (hn : 0 < n) (hne : l ≠ []) : (l.take n).getLastD 0 ≤ l.getLastD 0 := by
  have hne2 : l.take n ≠ [] := fun e => by
    have h1 : (l.take n).length = 0 := by rw [e]; rfl
    rw [List.length_take] at h1
    have : 0 < l.length := List.length_pos_iff.2 hne
    omega
  exact up_last hl (List.mem_of_mem_take (last_mem hne2))
theorem last_split {l : List Int} {n : Nat} (h : l.length = n + 1) : l = l.take n ++ [l.getLastD 0] := by
  have hne : l ≠ [] := fun e => by subst e; simp at h
  rw [drop_last h]
  rw [List.getLastD_eq_getLast?, List.getLast?_eq_some_getLast hne]
  exact (List.dropLast_concat_getLast hne).symm
theorem last_get {l : List Int} (h : 0 < l.length) : l.getLastD 0 = l.getD (l.length - 1) 0 := by
  have hne : l ≠ [] := List.length_pos_iff.1 h
  rw [List.getLastD_eq_getLast?, List.getLast?_eq_getElem?, List.getD_eq_getElem?_getD]

theorem wfU {x : Int} (h : W64 x) : keyOf Try.prog 31 (.int .u64 x) = some (.int .u64 x) := keyOf_int_mk Try.underlying31 (wf_of_u64 h)
theorem litne {x y : Int} (h : x ≠ y) : Lit.int .u64 x ≠ Lit.int .u64 y := fun e => h (by cases e; rfl)
theorem IsSetU.put {D : DataW Unit} {l : List Int} (h : IsSetU D l) (ht : Tidy D) {x : Int} (hx : W64 x) (d : DataW Unit) : IsSetU (D.put (.int .u64 x) d) (insK x l) := by
  have hm : IsMap D := by obtain ⟨es, rfl, _⟩ := ht; exact ⟨es, rfl⟩
  refine ⟨up_insK h.up, words_insK hx h.words, fun y hy => ?_, ?_⟩
  · rw [mem_insK]
    by_cases e : y = x
    · subst e
      rw [has_put_same (k := .int .u64 y) hm trivial]
      simp
    · rw [has_put_other (litne e), ← h.mem y hy]
      simp [e]
  · rw [size_put ht, insK_len h.up, h.size]
    by_cases e : x ∈ l
    · rw [if_pos e, if_pos ((h.mem x hx).1 e)]
    · rw [if_neg e, if_neg (fun e' => e ((h.mem x hx).2 e'))]
theorem IsSetU.del {D : DataW Unit} {p s : List Int} {x : Int} (h : IsSetU D (p ++ x :: s)) (ht : Tidy D) : IsSetU (D.del (.int .u64 x)) (p ++ s) := by
  have hup := h.up
  have hx : W64 x := h.words x (by simp)
  have hnp : ∀ y ∈ p, y < x := fun y hy => by
    unfold Up at hup
    exact (List.pairwise_append.1 hup).2.2 y hy x (List.mem_cons_self ..)
  have hns : ∀ y ∈ s, x < y := fun y hy => by
    unfold Up at hup
    exact (List.pairwise_cons.1 (List.pairwise_append.1 hup).2.1).1 y hy
  refine ⟨?_, fun y hy => h.words y ?_, fun y hy => ?_, ?_⟩
  · unfold Up at hup ⊢
    have h1 := List.pairwise_append.1 hup
    exact List.pairwise_append.2 ⟨h1.1, (List.pairwise_cons.1 h1.2.1).2, fun a ha b hb => h1.2.2 a ha b (List.mem_cons_of_mem _ hb)⟩
  · rcases List.mem_append.1 hy with h1 | h1
    · exact List.mem_append.2 (Or.inl h1)
    · exact List.mem_append.2 (Or.inr (List.mem_cons_of_mem _ h1))
  · by_cases e : y = x
    · subst e
      rw [has_del_same]
      refine ⟨fun hy' => ?_, fun e => Bool.noConfusion e⟩
      rcases List.mem_append.1 hy' with h1 | h1
      · have := hnp y h1; omega
      · have := hns y h1; omega
    · rw [has_del_other (litne e), ← h.mem y hy]
      simp [e]
  · have := size_del (k := .int .u64 x) ht
    rw [if_pos ((h.mem x hx).1 (by simp)), h.size] at this
    simp only [List.length_append, List.length_cons] at this ⊢
    omega
theorem isSet_nil : IsSetU (.map []) [] := ⟨List.Pairwise.nil, by simp, fun x _ => by simp [Maps.has], rfl⟩

/-- A map's bound may be brought down to how many there are. -/
theorem mapU_low {w : World} {b n : Nat} {D : DataW Unit} (h : MapU w b n D) {m : Nat} (hm : Maps.size D ≤ m) : MapU w b m D := by
  obtain ⟨es, clock, hb, F, hs, hD⟩ := h
  refine ⟨es, clock, hb, F, ?_, hD⟩
  have e : Maps.size D = es.size := by rw [hD]; simp [Maps.size, length_sorted]
  omega

/-- A sketch at block g, its map at block b; 'top' stands beside. -/
structure KB (w : World) (g b : Nat) (D : DataW Unit) (l : List Int) (top : Int) : Prop where
  str : w.heap[g]? = some (.cells #[.map (some b), .int .u64 top] 69 (0, 0))
  map : MapU w b 1048576 D
  set : IsSetU D l
  len : l.length ≤ 100000
section
variable {w w' : World} {g b : Nat} {D : DataW Unit} {l : List Int} {top : Int}
theorem KB.lt (h : KB w g b D l top) : g < w.heap.size ∧ b < w.heap.size := ⟨(Array.getElem?_eq_some_iff.1 h.str).1, h.map.lt⟩
theorem KB.ne (h : KB w g b D l top) : g ≠ b := by
  rintro rfl
  obtain ⟨es, clock, hb, _⟩ := h.map
  rw [h.str] at hb
  simp at hb
theorem KB.c0 (h : KB w g b D l top) : w.cell? ⟨g, 0, none⟩ = some (.map (some b)) := by
  rw [cell_of_row w g 0 _ _ (0, 0) h.str]; rfl
theorem KB.c1 (h : KB w g b D l top) : w.cell? ⟨g, 1, none⟩ = some (.int .u64 top) := by
  rw [cell_of_row w g 1 _ _ (0, 0) h.str]; rfl
theorem KB.fz (h : KB w g b D l top) (i : Nat) : w.frozen? ⟨g, i, none⟩ = false := frozen_of_row w g i _ _ h.str
theorem KB.ch {S : Nat → Prop} (h : KB w g b D l top) (k : Ch S w w') (h1 : ¬ S g) (h2 : ¬ S b) : KB w' g b D l top := by
  obtain ⟨es, clock, hb, r⟩ := h.map
  exact ⟨(k.block g h.lt.1 h1).trans h.str, ⟨es, clock, (k.block b h.lt.2 h2).trans hb, r⟩, h.set, h.len⟩
theorem KB.below (h : KB w g b D l top) (k : Below w.heap.size w w') : KB w' g b D l top := h.ch (Ch.of_below k) (fun e => e) (fun e => e)
theorem KB.drewN (h : KB w g b D l top) (q : Nat) : KB (w.drewN q) g b D l top := ⟨h.str, h.map, h.set, h.len⟩
theorem KB.setTop (h : KB w g b D l top) (t : Int) : KB (w.setCell ⟨g, 1, none⟩ (.int .u64 t)) g b D l t := by
  refine ⟨?_, h.map.setCell (fun e => h.ne e.symm) _, h.set, h.len⟩
  rw [heap_setCell_same w g 1 _ _ _ h.str]
  rfl
theorem KB.tidy (h : KB w g b D l top) : Tidy D := h.map.tidy keyU
theorem KB.put (h : KB w g b D l top) {x : Int} (hx : W64 x) (hl : (insK x l).length ≤ 100000) {d : DataW Unit} (hm : MapU w' b (1048576 + 1) (D.put (.int .u64 x) d)) (hg : w.grownBy w' (some b)) : KB w' g b (D.put (.int .u64 x) d) (insK x l) top := by
  have hs := h.set.put h.tidy hx d
  refine ⟨(hg.block g h.lt.1 (fun e => h.ne (by cases e; rfl))).trans h.str, mapU_low hm (by rw [hs.size]; omega), hs, hl⟩
theorem KB.del {p s : List Int} {x : Int} (h : KB w g b D (p ++ x :: s) top) (hm : MapU w' b 1048576 (D.del (.int .u64 x))) (hg : w.grownBy w' (some b)) : KB w' g b (D.del (.int .u64 x)) (p ++ s) top := by
  have hl := h.len
  refine ⟨(hg.block g h.lt.1 (fun e => h.ne (by cases e; rfl))).trans h.str, hm, h.set.del h.tidy, ?_⟩
  simp only [List.length_append, List.length_cons] at hl ⊢
  omega
end
/-- The blocks of a sketch. -/
def KS (g b : Nat) : Nat → Prop := fun k => k = g ∨ k = b
/-- A sketch that shows a list. -/
def AtK (w : World) (g : Nat) (S : Nat → Prop) (l : List Int) : Prop := ∃ b D, S = KS g b ∧ KB w g b D l (l.getLastD 0) ∧ l.length ≤ 1024
theorem ch_grownK {w w' : World} {g b : Nat} (h : w.grownBy w' (some b)) : Ch (KS g b) w w' := (Ch.grown h).more (fun _ _ e => Or.inr (by cases e; rfl))
theorem ch_setK (w : World) (g b i : Nat) (v : Value) : Ch (KS g b) w (w.setCell ⟨g, i, none⟩ v) := (ch_set w g i v).more (fun _ _ e => Or.inl e)
end Go.Proofs.Ytlhiikibbppodaa
