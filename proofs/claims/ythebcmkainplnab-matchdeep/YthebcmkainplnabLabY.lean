/-
  The document's text of labels (Quoted, Text): contracts, for every world.
  Conditions: the labels lie in memory.
-/
import Derived.Test.YthebcmkainplnabLabR
namespace Go.Proofs.Ythebcmkainplnab
open Go.RowKit
set_option maxRecDepth 20000

theorem ba_app (a b : ByteArray) : (a ++ b).toList = a.toList ++ b.toList := by
  rw [ByteArray.toList_eq, ByteArray.toList_eq, ByteArray.toList_eq, ByteArray.data_append, Array.toList_append]
theorem ba_ext1 (s : ByteArray) (k : Nat) (h : k < s.size) : (s.extract k (k + 1)).toList = [s[k]'h] := by
  have h' : k < s.data.toList.length := by rw [Array.length_toList]; exact h
  rw [ByteArray.toList_eq, ByteArray.data_extract, Array.toList_extract, List.extract_eq_take_drop, show k + 1 - k = 1 by omega, List.drop_eq_getElem_cons h']
  rfl
theorem lit34 : (⟨#[34]⟩ : ByteArray).toList = [34] := by decide +kernel
theorem lit92 : (⟨#[92]⟩ : ByteArray).toList = [92] := by decide +kernel
theorem litX : (⟨#[92, 120]⟩ : ByteArray).toList = [92, 120] := by decide +kernel
def dgsB : ByteArray := ⟨#[48, 49, 50, 51, 52, 53, 54, 55, 56, 57, 97, 98, 99, 100, 101, 102]⟩
theorem dig_at (k : Nat) (h : k < 16) : (dgsB.extract k (k + 1)).toList = [hxD k] := by
  have : ∀ k, k < 16 → (dgsB.extract k (k + 1)).toList = [hxD k] := by decide +kernel
  exact this k h
theorem take_step {α : Type} {l : List α} {k : Nat} {x : α} (hx : l[k]? = some x) : l.take (k + 1) = l.take k ++ [x] := by
  rw [List.take_add_one, hx]
  rfl
theorem yqb_len (c : UInt8) : (qb c).length ≤ 4 := by
  unfold qb
  split
  · exact (show 2 ≤ 4 by decide)
  · split
    · exact Nat.le_refl 4
    · exact (show 1 ≤ 4 by decide)
theorem quo_len (v : List UInt8) : (v.flatMap qb).length ≤ 4 * v.length := by
  induction v with
  | nil => exact Nat.le_refl 0
  | cons c t ih =>
    rw [List.flatMap_cons, List.length_append, List.length_cons]
    have := yqb_len c
    omega
theorem nameB_len {s : ByteArray} (h : nameB s = true) : 1 ≤ s.size ∧ s.size ≤ 32 := by
  unfold nameB at h
  simp only [Bool.and_eq_true, decide_eq_true_eq] at h
  exact h.2
theorem ylab_len {x : Lb} (h1 : nameB x.1 = true) (h2 : x.2.size ≤ 64) : 1 ≤ (labB x).length ∧ (labB x).length ≤ 291 := by
  have h3 := nameB_len h1
  have h4 := quo_len x.2.toList
  unfold labB quoB
  simp only [List.length_append, List.length_cons, List.length_nil, ba_len] at h4 ⊢
  omega
theorem yrest_len : ∀ {l : List Lb}, (∀ x ∈ l, (labB x).length ≤ 291) → (restB l).length ≤ 292 * l.length
  | [], _ => Nat.le_refl 0
  | x :: t, h => by
    have h1 := h x (List.mem_cons_self ..)
    have h2 := yrest_len (l := t) (fun y hy => h y (List.mem_cons_of_mem _ hy))
    rw [restB]
    simp only [List.length_cons, List.length_append]
    omega
theorem ytext_len {l : List Lb} (h : chkL l = true) (k : Nat) : (textB (l.take k)).length ≤ 2400 := by
  obtain ⟨h1, h2, h3⟩ := chkL_parts h
  have h4 : ∀ x ∈ l.take k, (labB x).length ≤ 291 := fun x hx => (ylab_len (h3 x (List.mem_of_mem_take hx)).1 (h3 x (List.mem_of_mem_take hx)).2.2).2
  have h5 : (l.take k).length ≤ 8 := by rw [List.length_take]; omega
  generalize l.take k = m at h4 h5 ⊢
  cases m with
  | nil => exact Nat.zero_le _
  | cons x t =>
    have h6 := h4 x (List.mem_cons_self ..)
    have h7 := yrest_len (l := t) (fun y hy => h4 y (List.mem_cons_of_mem _ hy))
    rw [textB, List.length_append]
    simp only [List.length_cons] at h5
    omega
theorem textL_size {l : List Lb} (h : chkL l = true) : 1 ≤ (textL l).size ∧ (textL l).size ≤ 2400 := by
  obtain ⟨h1, h2, h3⟩ := chkL_parts h
  have h0 := ytext_len h l.length
  rw [List.take_length] at h0
  rw [← ba_len, textL_list]
  refine ⟨?_, h0⟩
  cases l with
  | nil => simp at h1
  | cons x t =>
    have h4 := ylab_len (h3 x (List.mem_cons_self ..)).1 (h3 x (List.mem_cons_self ..)).2.2
    rw [textB, List.length_append]
    omega
/-- What stands behind k bytes of a value, as it is written. -/
def QuoAt (s : ByteArray) (k : Nat) (t : ByteArray) : Prop := t.toList = 34 :: (s.toList.take k).flatMap qb
theorem QuoAt.size {s t : ByteArray} {k : Nat} (h : QuoAt s k t) : t.size ≤ 1 + 4 * k := by
  have h1 := congrArg List.length h
  have h2 := quo_len (s.toList.take k)
  rw [ba_len, List.length_cons] at h1
  rw [List.length_take] at h2
  omega
theorem quoAt_step {s t u : ByteArray} {k : Nat} (hk : k < s.size) (h : QuoAt s k t) (hu : u.toList = qb (s[k]'hk)) : QuoAt s (k + 1) (t ++ u) := by
  have hx : s.toList[k]? = some (s[k]'hk) := by
    rw [ByteArray.toList_eq, Array.getElem?_toList]
    exact Array.getElem?_eq_getElem hk
  unfold QuoAt at h ⊢
  rw [ba_app, h, hu, take_step hx, List.flatMap_append]
  simp

theorem quiet_lab2 {P : Program} {f : Nat} {args : Array Value} {v : Value} {wr : World} {q x : Nat} (h : ∀ w, Calls P f args w (fun e w' => e = .returned v ∧ ∃ n, w' = w.drewN n)) : Calls P f args (wr.drewN (q + x)) fun e w' => e = .returned v ∧ ∃ n, w' = wr.drewN (q + n) :=
  (h _).mono fun e w' ⟨he, n, hw⟩ => ⟨he, x + n, by rw [hw, World.drewN_drewN, Nat.add_assoc]⟩
theorem lit44 : (⟨#[44]⟩ : ByteArray).toList = [44] := by decide +kernel
theorem lit61 : (⟨#[61]⟩ : ByteArray).toList = [61] := by decide +kernel
theorem quo_list (v : List UInt8) : (⟨(quoB v).toArray⟩ : ByteArray).toList = quoB v := ByteArray.toList_mk _
theorem textAt_step {l : List Lb} {k : Nat} {x : Lb} {t : ByteArray} (hx : l[k]? = some x) (h : t.toList = textB (l.take k)) (h0 : k ≠ 0) : (t ++ ⟨#[44]⟩ ++ x.1 ++ ⟨#[61]⟩ ++ (⟨(quoB x.2.toList).toArray⟩ : ByteArray)).toList = textB (l.take (k + 1)) := by
  have hl : k < l.length := (List.getElem?_eq_some_iff.1 hx).1
  rw [take_step hx, textB_snoc (fun e => by
    have := congrArg List.length e
    rw [List.length_take, List.length_nil] at this
    omega), ba_app, ba_app, ba_app, ba_app, lit44, lit61, h, quo_list]
  unfold labB
  simp [List.append_assoc]
theorem textAt_first {l : List Lb} {x : Lb} {t : ByteArray} (hx : l[0]? = some x) (h : t.toList = textB (l.take 0)) : (t ++ x.1 ++ ⟨#[61]⟩ ++ (⟨(quoB x.2.toList).toArray⟩ : ByteArray)).toList = textB (l.take 1) := by
  rw [take_step hx, ba_app, ba_app, ba_app, lit61, h, quo_list]
  simp [textB, restB, labB]

end Go.Proofs.Ythebcmkainplnab
