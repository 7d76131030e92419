/-
  What Get answers, by letters: the program's and the document's own; contracts, for every world.
  Conditions: the slice shows its bytes; there is room for a copy.
-/
import Derived.Test.YtbpmmeagpefglaaFrameS
namespace Go.Proofs.Ytbpmmeagpefglaa
open Go.RowKit

/-- What Get tells: a body, a place, an error. -/
def getV (zs : List Int) (n : Nat) (at' : Int) : List Int × Int × Int :=
  if at' < 0 ∨ (n : Int) < at' then ([], 0, 1)
  else if at' = n then ([], 0, 3)
  else match findS zs at' with
    | none => ([], 0, 4)
    | some p => ((zs.drop p.1).take p.2, ((p.1 + p.2 : Nat) : Int), 0)

theorem getFP_var {zs : List Int} {n : Nat} {at' : Int} {base : Nat} {w' : World} {e : Ending} (hz : Bytes8 zs) (h : getFP zs n at' base w' e) :
    ∃ a' c', e = .returned (.tuple #[.slice a' (getV zs n at').1.length c', .int .i64 (getV zs n at').2.1, .int .i64 (getV zs n at').2.2]) ∧ Row .u8 w' a' (getV zs n at').1.length (getV zs n at').1 := by
  unfold getFP at h
  unfold getV
  split at h
  · rename_i h1
    simp only [if_pos h1]
    exact ⟨none, 0, h, nil_row .u8 w' none⟩
  · rename_i h1
    simp only [if_neg h1]
    split at h
    · rename_i h2
      simp only [if_pos h2]
      exact ⟨none, 0, h, nil_row .u8 w' none⟩
    · rename_i h2
      simp only [if_neg h2]
      split at h
      · rename_i h3
        simp only [h3]
        exact ⟨none, 0, h, nil_row .u8 w' none⟩
      · rename_i p h3
        obtain ⟨st, v⟩ := p
        obtain ⟨k1, k2, k3, k, _, _, hl, _⟩ := findS_some hz h3
        obtain ⟨a', c', rfl, ho⟩ := h
        simp only [h3, hl]
        exact ⟨a', c', rfl, ho.row8 (by simp only; omega) (fun z hz' => hz z (List.mem_of_mem_drop (List.mem_of_mem_take hz')))⟩

theorem getframe_var (at' : Int) (a : Option Addr) (n cap : Nat) (zs : List Int) (w : World) (ha : (Lit.int .i64 at').wf = true) (hc : n ≤ cap) (hr : Row .u8 w a n zs) :
    Calls Try.prog 18 #[.slice a n cap, .int .i64 at'] w fun e w' => (∃ a' c', e = .returned (.tuple #[.slice a' (getV zs n at').1.length c', .int .i64 (getV zs n at').2.1, .int .i64 (getV zs n at').2.2]) ∧ Row .u8 w' a' (getV zs n at').1.length (getV zs n at').1) ∧ Below w.heap.size w w' := by
  refine (getframe_any at' a n cap zs w ha hc hr).mono ?_
  rintro e w' ⟨h, hb⟩
  exact ⟨getFP_var hr.bytes h, hb⟩

set_option maxHeartbeats 2000000 in
set_option maxRecDepth 100000 in
theorem refget_any (at' : Int) (a : Option Addr) (n cap : Nat) (zs : List Int) (w : World) (ha : (Lit.int .i64 at').wf = true) (hc : n ≤ cap) (hn0 : a = none → cap = 0) (hr : Row .u8 w a n zs) :
    Calls Try.prog 19 #[.slice a n cap, .int .i64 at'] w fun e w' => getFP zs n at' w.heap.size w' e ∧ Below w.heap.size w w' := by
  have F := hide (one_any at' a n cap zs w ha hc hn0 hr)
  have hn := hr.2.1
  clear hr ha
  by_cases c1 : at' < 0
  · have HE : Hid (∀ w' e, e = .returned (.tuple #[.slice none 0 0, .int .i64 0, .int .i64 1]) → getFP zs n at' w.heap.size w' e) := by
      rintro w' e rfl; unfold getFP; rw [if_pos (Or.inl c1)]
    go_enter Try.func19, Try.ntmps19
    go_wp2
    go_ret3
    exact ⟨HE.out _ _ rfl, Below.refl _ _⟩
  by_cases c2 : (n : Int) < at'
  · have HE : Hid (∀ w' e, e = .returned (.tuple #[.slice none 0 0, .int .i64 0, .int .i64 1]) → getFP zs n at' w.heap.size w' e) := by
      rintro w' e rfl; unfold getFP; rw [if_pos (Or.inr c2)]
    go_enter Try.func19, Try.ntmps19
    go_wp2
    go_ret3
    exact ⟨HE.out _ _ rfl, Below.refl _ _⟩
  by_cases c3 : at' = n
  · have HE : Hid (∀ w' e, e = .returned (.tuple #[.slice none 0 0, .int .i64 0, .int .i64 3]) → getFP zs n at' w.heap.size w' e) := by
      rintro w' e rfl; unfold getFP; rw [if_neg (by omega), if_pos c3]
    have c4 : (at' == (n : Int)) = true := by simp [c3]
    clear c3
    go_enter Try.func19, Try.ntmps19
    go_wp2
    go_ret3
    exact ⟨HE.out _ _ rfl, Below.refl _ _⟩
  have c4 : (at' == (n : Int)) = false := by simp [c3]
  have HG : Hid (getFP zs n at' = fun base w' e => match findS zs at' with
    | none => e = .returned (.tuple #[.slice none 0 0, .int .i64 0, .int .i64 4])
    | some p => ∃ a' cap', e = .returned (.tuple #[.slice a' p.2 cap', .int .i64 ((p.1 + p.2 : Nat) : Int), .int .i64 0]) ∧ Mine w' base a' p.2 cap' ((zs.drop p.1).take p.2)) := by
    funext base w' e
    unfold getFP; rw [if_neg (by omega), if_neg c3]
    cases findS zs at' <;> rfl
  clear c3
  unfold oneP at F
  cases hf : findS zs at' with
  | none =>
    rw [hf] at F
    simp only at F
    have HE : Hid (∀ w' e, e = .returned (.tuple #[.slice none 0 0, .int .i64 0, .int .i64 4]) → getFP zs n at' w.heap.size w' e) := by
      rintro w' e rfl; rw [HG.out]; simp only [hf]
    clear hf HG
    go_enter Try.func19, Try.ntmps19
    go_wp2_with fail
    refine F.out.mono ?_
    rintro e w1 ⟨rfl, k1⟩
    have K1 := hide (bel_al k1 (Nat.le_refl _) (.cells #[.int .i64 0, .slice none 0 0, .int .i64 0] 52))
    clear k1
    go_wp2
    go_ret3
    exact ⟨HE.out _ _ rfl, K1⟩
  | some p =>
    obtain ⟨st, v⟩ := p
    rw [hf] at F
    simp only at F
    have HE : Hid (∀ w' e a' cap', e = .returned (.tuple #[.slice a' v cap', .int .i64 ((st : Int) + v), .int .i64 0]) → Mine w' w.heap.size a' v cap' ((zs.drop st).take v) → getFP zs n at' w.heap.size w' e) := by
      intro w' e a' cap' he ho; rw [HG.out]; simp only [hf]; exact ⟨a', cap', he, ho⟩
    clear hf HG
    generalize (zs.drop st).take v = bs at *
    generalize (st : Int) + v = nx at *
    go_enter Try.func19, Try.ntmps19
    go_wp2_with fail
    refine F.out.mono ?_
    rintro e w1 ⟨⟨a1, c1, rfl, o1⟩, k1⟩
    have FB1 := hide (fb_new w1 at' (.slice a1 v c1) nx)
    have K1 := hide (bel_al k1 (Nat.le_refl _) (.cells #[.int .i64 at', .slice a1 v c1, .int .i64 nx] 52))
    have O1 := hide (o1.alloc (.cells #[.int .i64 at', .slice a1 v c1, .int .i64 nx] 52))
    clear o1 k1 F
    go_upto_region 8 with fail
    obtain ⟨W, hW⟩ : ∃ W, w1.alloc (.cells #[.int .i64 at', .slice a1 v c1, .int .i64 nx] 52) = W := ⟨_, rfl⟩
    rw [hW] at FB1 K1 O1 ⊢
    clear hW
    obtain ⟨c0, c1, c2, _⟩ := FB1.out.cell
    generalize w1.heap.size = g at *
    go_region
    go_wp2
    go_ret3
    exact ⟨HE.out _ _ a1 _ rfl O1.out.drew, K1.out.drew⟩
end Go.Proofs.Ytbpmmeagpefglaa
