/-
  Where the frames of bytes begin, their bodies as texts; of frames one behind the other: plain lists.
  Conditions: as each theorem says.
-/
import Derived.Test.YtbpmmeagpefglaaFrameJ
import Derived.Test.YtbpmmeagpefglaaFrameP
namespace Go.Proofs.Ytbpmmeagpefglaa
open Go.RowKit

/-- Where each frame begins. -/
def startsFrom : Nat → List (Nat × Nat) → List Int
  | _, [] => []
  | k, p :: t => (k : Int) :: startsFrom (p.1 + p.2) t
def startsOf (l : List (Nat × Nat)) : List Int := startsFrom 0 l
def endFrom (k : Nat) (l : List (Nat × Nat)) : Nat := match l.getLast? with
  | none => k
  | some p => p.1 + p.2
theorem startsFrom_snoc (l : List (Nat × Nat)) (p : Nat × Nat) (k : Nat) : startsFrom k (l ++ [p]) = startsFrom k l ++ [(endFrom k l : Int)] := by
  induction l generalizing k with
  | nil => rfl
  | cons q t ih =>
    rw [List.cons_append, startsFrom, ih, startsFrom, List.cons_append]
    congr 3
    cases t with
    | nil => rfl
    | cons r t =>
      obtain ⟨x, hx⟩ : ∃ x, (r :: t).getLast? = some x := ⟨_, List.getLast?_eq_some_getLast (by simp)⟩
      unfold endFrom; rw [List.getLast?_cons_cons, hx]
theorem startsOf_snoc (l : List (Nat × Nat)) (p : Nat × Nat) : startsOf (l ++ [p]) = startsOf l ++ [(endOf l : Int)] := startsFrom_snoc l p 0
theorem startsFrom_len (l : List (Nat × Nat)) (k : Nat) : (startsFrom k l).length = l.length := by
  induction l generalizing k with
  | nil => rfl
  | cons q t ih => rw [startsFrom, List.length_cons, ih, List.length_cons]
theorem startsOf_len (l : List (Nat × Nat)) : (startsOf l).length = l.length := startsFrom_len l 0
/-- The bodies as texts. -/
def textsS (zs : List Int) (l : List (Nat × Nat)) : List ByteArray := l.map fun p => strOfNums ((zs.drop p.1).take p.2)
theorem textsS_snoc (zs : List Int) (l : List (Nat × Nat)) (p : Nat × Nat) : textsS zs (l ++ [p]) = textsS zs l ++ [strOfNums ((zs.drop p.1).take p.2)] := by simp [textsS]
theorem textsS_len (zs : List Int) (l : List (Nat × Nat)) : (textsS zs l).length = l.length := by simp [textsS]

theorem startsFrom_pos (gs : List (List Int)) (k j : Nat) (hj : j < gs.length) : (startsFrom k (posS k gs)).getD j 0 = ((k + (laidS (gs.take j)).length : Nat) : Int) := by
  induction gs generalizing k j with
  | nil => simp at hj
  | cons r t ih =>
    rw [posS, startsFrom]
    have e : k + (putS (r.length : Int)).length + 4 + r.length = k + (frameS r).length := by rw [frameS_len]; omega
    rw [e]
    cases j with
    | zero => simp [laidS]
    | succ j => rw [List.getD_cons_succ, ih _ j (by simpa using hj), List.take_succ_cons, laidS_cons, List.length_append, Nat.add_assoc]
theorem starts_pos (gs : List (List Int)) (j : Nat) (hj : j < gs.length) : (startsOf (posS 0 gs)).getD j 0 = ((laidS (gs.take j)).length : Int) := by
  have := startsFrom_pos gs 0 j hj
  rwa [Nat.zero_add] at this
theorem texts_pos (gs : List (List Int)) (xs ys : List Int) : textsS (xs ++ (laidS gs ++ ys)) (posS xs.length gs) = gs.map strOfNums := by
  induction gs generalizing xs with
  | nil => rfl
  | cons r t ih =>
    have e : xs ++ (laidS (r :: t) ++ ys) = (xs ++ frameS r) ++ (laidS t ++ ys) := by rw [laidS_cons]; simp
    have hl : xs.length + (frameS r).length = (xs ++ frameS r).length := by rw [List.length_append]
    have hb : ((xs ++ (laidS (r :: t) ++ ys)).drop (xs.length + (putS (r.length : Int)).length + 4)).take r.length = r := by
      have e2 : xs ++ (laidS (r :: t) ++ ys) = (xs ++ (putS (r.length : Int) ++ sumB r)) ++ (r ++ (laidS t ++ ys)) := by rw [laidS_cons]; unfold frameS; simp
      have hl2 : xs.length + (putS (r.length : Int)).length + 4 = (xs ++ (putS (r.length : Int) ++ sumB r)).length := by rw [List.length_append, List.length_append, sumB_len, Nat.add_assoc]
      rw [e2, hl2, List.drop_left, List.take_left]
    have ih' := ih (xs ++ frameS r)
    rw [← e, ← hl] at ih'
    rw [posS, List.map_cons]
    unfold textsS at ih' ⊢
    rw [List.map_cons, ih', hb]
theorem endOf_pos (gs : List (List Int)) : endOf (posS 0 gs) = (laidS gs).length := by
  rcases List.eq_nil_or_concat gs with rfl | ⟨l, s, rfl⟩
  · rfl
  · rw [List.concat_eq_append, posS_snoc, endOf_snoc, laidS_append, laidS_cons, List.length_append, List.length_append, frameS_len]
    simp [laidS]
    omega

/-- Frames, and behind them what is none: those that are told. -/
theorem told (gs : List (List Int)) (hg : Good gs) (ys : List Int) (hno : findS (laidS gs ++ ys) ((laidS gs).length : Int) = none) :
    framesS (laidS gs ++ ys) = posS 0 gs ∧ endS (laidS gs ++ ys) = (laidS gs).length ∧ textsS (laidS gs ++ ys) (posS 0 gs) = gs.map strOfNums := by
  have h := frames_laid gs hg ys hno
  refine ⟨h, ?_, ?_⟩
  · unfold endS; rw [h, endOf_pos]
  · have := texts_pos gs [] ys
    simpa using this
/-- Frames cut anywhere. -/
theorem told_cut (gs : List (List Int)) (hg : Good gs) (n k : Nat) (h1 : (laidS (gs.take n)).length ≤ k) (h2 : n < gs.length → k < (laidS (gs.take (n + 1))).length) :
    framesS ((laidS gs).take k) = posS 0 (gs.take n) ∧ endS ((laidS gs).take k) = (laidS (gs.take n)).length := by
  have e : (laidS gs).take k = laidS (gs.take n) ++ (laidS (gs.drop n)).take (k - (laidS (gs.take n)).length) := by
    conv => lhs; rw [← List.take_append_drop n gs, laidS_append]
    rw [List.take_append, List.take_of_length_le h1]
  have hno : findS (laidS (gs.take n) ++ (laidS (gs.drop n)).take (k - (laidS (gs.take n)).length)) ((laidS (gs.take n)).length : Int) = none := by
    by_cases hlt : n < gs.length
    · have h3 := h2 hlt
      rw [List.take_succ_eq_append_getElem hlt, laidS_append, List.length_append] at h3
      have hd : gs.drop n = gs[n] :: gs.drop (n + 1) := List.drop_eq_getElem_cons hlt
      have hgn := hg gs[n] (List.getElem_mem hlt)
      have h4 : (laidS [gs[n]]).length = (frameS gs[n]).length := by simp [laidS]
      rw [hd, laidS_cons, List.take_append_of_le_length (by omega)]
      exact findS_cut hgn.2.1 hgn.2.2 (laidS_byte (hg.take n)) (by omega)
    · have : gs.drop n = [] := List.drop_eq_nil_of_le (by omega)
      rw [this]
      simp only [laidS, List.flatMap_nil, List.take_nil, List.append_nil]
      exact findS_end _
  obtain ⟨q1, q2, _⟩ := told (gs.take n) (hg.take n) _ hno
  rw [e]
  exact ⟨q1, q2⟩
/-- One byte turned behind a frame's length. -/
theorem told_turned (gs : List (List Int)) (hg : Good gs) (n k : Nat) (hn : n < gs.length) (x : Int) (hx : 0 ≤ x ∧ x ≤ 255) (h1 : (laidS (gs.take n)).length + (putS ((gs.getD n []).length : Int)).length ≤ k) (h2 : k < (laidS (gs.take (n + 1))).length)
    (hne : x ≠ (laidS gs).getD k 0) : framesS ((laidS gs).set k x) = posS 0 (gs.take n) := by
  obtain ⟨s, t, hs⟩ : ∃ s t, gs.drop n = s :: t := ⟨_, _, List.drop_eq_getElem_cons hn⟩
  have hsm : s ∈ gs := List.mem_of_mem_drop (i := n) (by rw [hs]; simp)
  have hgd : gs.getD n [] = s := by
    have := congrArg (fun l => l.getD 0 []) hs
    simpa [List.getD_eq_getElem?_getD] using this
  have htk : gs.take (n + 1) = gs.take n ++ [s] := by
    rw [List.take_add, hs]
    rfl
  obtain ⟨g1, g2, g3⟩ := hg s hsm
  rw [hgd] at h1
  rw [htk, laidS_append, List.length_append, show (laidS [s]).length = (frameS s).length from by simp [laidS]] at h2
  have e : laidS gs = laidS (gs.take n) ++ (frameS s ++ laidS t) := by
    conv => lhs; rw [← List.take_append_drop n gs, laidS_append, hs, laidS_cons]
  have KEY := fun j hj hj2 hne => (told (gs.take n) (hg.take n) _ (findS_turned g1 g2 g3 (laidS (gs.take n)) (laidS t) (j := j) hx hj hj2 hne)).1
  rw [e] at hne
  rw [e]
  generalize laidS (gs.take n) = xs at *
  generalize laidS t = ys at *
  generalize frameS s = F at *
  generalize (putS (s.length : Int)).length = q at *
  clear e hs hgd htk hsm hg g1 g2 g3
  obtain ⟨j, rfl⟩ : ∃ j, k = xs.length + j := ⟨k - xs.length, by omega⟩
  rw [List.getD_eq_getElem?_getD, List.getElem?_append_right (by omega), Nat.add_sub_cancel_left, List.getElem?_append_left (by omega), ← List.getD_eq_getElem?_getD] at hne
  rw [List.set_append, if_neg (by omega), Nat.add_sub_cancel_left, List.set_append, if_pos (by omega)]
  exact KEY j (by omega) (by omega) hne
end Go.Proofs.Ytbpmmeagpefglaa
