/-
  Observations put into sketches, in plain words: one more is put together with the sketch of one; observations cut anywhere, in any order, come to the same; of none none.
  Conditions: the observations' numbers are words of 64 bits.
-/
import Derived.Test.YtadcaonkmncgoaaPairJ
namespace Go.Proofs.Ytadcaonkmncgoaa
open Go.RowKit
set_option maxRecDepth 20000

def ObW (o : Ob) : Prop := Word o.v ∧ Word o.b ∧ o.t.size ≤ 9223372036854775807
theorem insS_mrg {k c : Int} (h0 : 0 ≤ k) (h1 : k ≤ 7423) (hc : 0 < c ∧ c < 18446744073709551616) {l : Bks} (h : Good l) : insS k c l = mrg l [(k, c)] := by
  have g1 : Good [(k, c)] := by
    refine ⟨?_, fun x hx => ?_⟩
    · show checkF (-1) [(k, c)] = true
      rw [checkF_cons]
      exact ⟨by omega, h1, hc.1, rfl⟩
    · rw [List.mem_singleton.1 hx]; exact ⟨Int.le_of_lt hc.1, hc.2⟩
  have g2 : Good (insS k c l) := by
    have := h.add h0 h1 ⟨Int.le_of_lt hc.1, hc.2⟩
    unfold addN at this
    rwa [if_neg (by omega)] at this
  refine g2.ext (h.mrg g1) (fun i => ?_)
  rw [h.get g1, insS_get hc.2 h.check]
  have e : getN [(k, c)] i = if i = k then c else 0 := by
    simp only [getN]
    by_cases e : i = k
    · subst e; simp
    · rw [if_neg e, if_neg (fun x => e x.symm)]
  rw [e]
  by_cases e : i = k
  · rw [if_pos e, if_pos e, e]
  · rw [if_neg e, if_neg e]
    have := h.word i
    unfold satS
    split <;> omega
theorem insS_ne (k c : Int) (l : Bks) : insS k c l ≠ [] := by
  cases l with
  | nil => simp [insS]
  | cons x t => obtain ⟨j, d⟩ := x; rw [insS]; split; · simp
                split <;> simp

theorem Ok.one {o : Ob} (h : ObW o) : Ok (addP zeroP o) := by
  obtain ⟨b0, b1⟩ := bucketS_range h.1.1 h.1.2
  refine ⟨?_, ?_, ?_, addG_word g0W h.2.1, addG_chk g0W h.2.1 chk0⟩
  · show Good (insS (bucketS o.v) 1 [])
    have := Good.nil.add b0 b1 (c := 1) ⟨by decide, by decide⟩
    exact this
  · exact up_chk (hashK_up List.Pairwise.nil) (hashK_len _ _ _) (fun x hx => by rw [List.mem_singleton.1 (List.mem_of_mem_take hx)]; exact fnvOf_word _)
  · intro x hx
    rw [List.mem_singleton.1 (List.mem_of_mem_take hx)]
    exact fnvOf_word _
theorem addP_merge {s : Sp} (a : Ok s) {o : Ob} (h : ObW o) : addP s o = mergeP s (addP zeroP o) := by
  obtain ⟨b0, b1⟩ := bucketS_range h.1.1 h.1.2
  refine Sp.ext' (insS_mrg b0 b1 ⟨by decide, by decide⟩ a.h) ?_ ?_
  · show (insK _ s.keys).take 1024 = (uni s.keys ([_].take 1024)).take 1024
    rfl
  · show addG s.g o.b = mergeG s.g (addG g0 o.b)
    rw [addG_g0 h.2.1]; rfl
theorem Ok.add {s : Sp} (a : Ok s) {o : Ob} (h : ObW o) : Ok (addP s o) := by rw [addP_merge a h]; exact a.merge (Ok.one h)
theorem Ok.adds {s : Sp} (a : Ok s) {l : List Ob} (h : ∀ o ∈ l, ObW o) : Ok (l.foldl addP s) := by
  induction l generalizing s with
  | nil => exact a
  | cons o t ih => exact ih (a.add (h o (List.mem_cons_self ..))) (fun x hx => h x (List.mem_cons_of_mem _ hx))
theorem Ok.of {l : List Ob} (h : ∀ o ∈ l, ObW o) : Ok (ofP l) := ok_zero.adds h
theorem adds_merge {s : Sp} (a : Ok s) {l : List Ob} (h : ∀ o ∈ l, ObW o) : l.foldl addP s = mergeP s (ofP l) := by
  unfold ofP
  induction l generalizing s with
  | nil => exact (merge_zero a).symm
  | cons o t ih =>
    have ho := h o (List.mem_cons_self ..)
    have ht := fun x hx => h x (List.mem_cons_of_mem o hx)
    rw [List.foldl_cons, List.foldl_cons, ih (a.add ho) ht, ih (Ok.one ho) ht, addP_merge a ho]
    exact mergeP_group a (Ok.one ho) (Ok.of ht)
theorem ofP_append {l m : List Ob} (h : ∀ o ∈ l, ObW o) (k : ∀ o ∈ m, ObW o) : ofP (l ++ m) = mergeP (ofP l) (ofP m) := by
  show (l ++ m).foldl addP zeroP = _
  rw [List.foldl_append]
  exact adds_merge (Ok.of h) k
theorem ofP_turn {l m : List Ob} (h : ∀ o ∈ l, ObW o) (k : ∀ o ∈ m, ObW o) : ofP (l ++ m) = ofP (m ++ l) := by
  rw [ofP_append h k, ofP_append k h]
  exact mergeP_turn (Ok.of h) (Ok.of k)
/-- Cut anywhere, the two parts summed up the other way round. -/
theorem ofP_cut {l : List Ob} (h : ∀ o ∈ l, ObW o) (k : Nat) : sumP [ofP (l.drop k), ofP (l.take k)] = ofP l := by
  have h1 : ∀ o ∈ l.take k, ObW o := fun o ho => h o (List.mem_of_mem_take ho)
  have h2 : ∀ o ∈ l.drop k, ObW o := fun o ho => h o (List.mem_of_mem_drop ho)
  show mergeP (mergeP zeroP (ofP (l.drop k))) (ofP (l.take k)) = ofP l
  rw [zero_merge (Ok.of h2), ← ofP_append h2 h1, ofP_turn h2 h1, List.take_append_drop]
theorem ofP_round {l : List Ob} (h : ∀ o ∈ l, ObW o) (k : Nat) : ofP (l.drop k ++ l.take k) = ofP l := by
  rw [ofP_turn (fun o ho => h o (List.mem_of_mem_drop ho)) (fun o ho => h o (List.mem_of_mem_take ho)), List.take_append_drop]
theorem emptyP_of (l : List Ob) : emptyP (ofP l) = decide (l.length = 0) := by
  rcases List.eq_nil_or_concat l with rfl | ⟨t, o, rfl⟩
  · decide
  · have e : (ofP (t.concat o)).hist ≠ [] := by
      show ((t.concat o).foldl addP zeroP).hist ≠ []
      rw [List.concat_eq_append, List.foldl_append]
      exact insS_ne _ _ _
    have e2 : decide ((ofP (t.concat o)).hist.length = 0) = false := decide_eq_false (fun x => e (List.length_eq_zero_iff.1 x))
    unfold emptyP
    rw [e2]
    simp
end Go.Proofs.Ytadcaonkmncgoaa
