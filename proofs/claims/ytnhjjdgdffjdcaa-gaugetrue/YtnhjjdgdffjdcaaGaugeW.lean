/-
  What a gauge knows of floats added one by one to none: its ends are two of them and bound all that are numbers; how many are numbers, how many are none.
  Conditions: the floats are words; fewer than 1000 where they are counted.
-/
import Derived.Test.YtnhjjdgdffjdcaaGaugeK
namespace Go.Proofs.Ytnhjjdgdffjdcaa
open Go.RowKit

structure Ends (l : List Int) (g : Gz) : Prop where
  none : g.n = 0 → ∀ x ∈ l, nanI x = true
  lo : g.n ≠ 0 → g.lo ∈ l
  hi : g.n ≠ 0 → g.hi ∈ l
  all : ∀ x ∈ l, nanI x = false → keyS g.lo ≤ keyS x ∧ keyS x ≤ keyS g.hi
  nums : l.length < 1000 → g.n = (l.countP fun x => !nanI x : Nat)
  nans : l.length < 1000 → g.nans = (l.countP nanI : Nat)

theorem ends_more {l : List Int} {g : Gz} {x : Int} (h : Ends l g) (hg : GW g) (c : chkG g = true) : Ends (l ++ [x]) (addG g x) := by
  have cn : ∀ p : Int → Bool, (l ++ [x]).countP p = l.countP p + if p x then 1 else 0 := by
    intro p; rw [List.countP_append, List.countP_singleton]
  have hlen : (l ++ [x]).length = l.length + 1 := by simp
  have le1 : ∀ p : Int → Bool, l.countP p ≤ l.length := fun p => List.countP_le_length
  cases e : nanI x
  · rw [addG_one hg e]
    have hn := hg.n.1
    have hs : addS g.n 1 ≠ 0 := fun z => by have := (addS_zero hg.n w1).1 z; omega
    by_cases z : g.n = 0
    · rw [if_pos z, if_pos z]
      refine ⟨fun k => absurd k hs, fun _ => by simp, fun _ => by simp, ?_, ?_, ?_⟩
      · intro y hy ey
        rcases List.mem_append.1 hy with k | k
        · rw [h.none z y k] at ey; cases ey
        · rw [List.mem_singleton.1 k]; exact ⟨Int.le_refl _, Int.le_refl _⟩
      · intro k
        rw [cn, e]
        have := h.nums (by omega)
        show addS g.n 1 = _
        have := le1 (fun x => !nanI x)
        unfold addS; rw [if_pos (by omega)]
        simp; omega
      · intro k
        rw [cn, e]
        have := h.nans (by omega)
        simp; omega
    · rw [if_neg z, if_neg z]
      obtain ⟨e1, e2, e3⟩ := chk_some c z
      refine ⟨fun k => absurd k hs, fun _ => ?_, fun _ => ?_, ?_, ?_, ?_⟩
      · show lo2 g.lo x ∈ _
        unfold lo2; split
        · simp
        · exact List.mem_append_left _ (h.lo z)
      · show hi2 g.hi x ∈ _
        unfold hi2; split
        · simp
        · exact List.mem_append_left _ (h.hi z)
      · intro y hy ey
        show keyS (lo2 g.lo x) ≤ _ ∧ _ ≤ keyS (hi2 g.hi x)
        rw [lo2_key e1 e, hi2_key e2 e]
        rcases List.mem_append.1 hy with k | k
        · have := h.all y k ey; omega
        · rw [List.mem_singleton.1 k]; omega
      · intro k
        rw [cn, e]
        have := h.nums (by omega)
        show addS g.n 1 = _
        have := le1 (fun x => !nanI x)
        unfold addS; rw [if_pos (by omega)]
        simp; omega
      · intro k
        rw [cn, e]
        have := h.nans (by omega)
        simp; omega
  · rw [addG_none hg c e]
    refine ⟨?_, fun k => List.mem_append_left _ (h.lo k), fun k => List.mem_append_left _ (h.hi k), ?_, ?_, ?_⟩
    · intro k y hy
      rcases List.mem_append.1 hy with k' | k'
      · exact h.none k y k'
      · rw [List.mem_singleton.1 k']; exact e
    · intro y hy ey
      rcases List.mem_append.1 hy with k | k
      · exact h.all y k ey
      · rw [List.mem_singleton.1 k, e] at ey; cases ey
    · intro k
      rw [cn, e]
      have := h.nums (by omega)
      simp; omega
    · intro k
      rw [cn, e]
      have := h.nans (by omega)
      show addS g.nans 1 = _
      have := le1 nanI
      unfold addS; rw [if_pos (by omega)]
      simp; omega
theorem ends_from (m : List Int) : ∀ (l : List Int) (g : Gz), Ends l g → GW g → chkG g = true → (∀ x ∈ m, Word x) → Ends (l ++ m) (addAll g m) := by
  induction m with
  | nil => intro l g h _ _ _; rw [List.append_nil]; exact h
  | cons x m ih =>
    intro l g h hg c k
    have hx := k x (by simp)
    have := ih (l ++ [x]) (addG g x) (ends_more h hg c) (addG_word hg hx) (addG_chk hg hx c) fun y hy => k y (by simp [hy])
    rw [List.append_assoc] at this
    exact this
theorem ends_all {l : List Int} (k : ∀ x ∈ l, Word x) : Ends l (addAll g0 l) :=
  ends_from l [] g0 ⟨fun _ _ h => absurd h (by simp), fun h => absurd rfl h, fun h => absurd rfl h, fun _ h => absurd h (by simp), fun _ => rfl, fun _ => rfl⟩ g0W chk0 k
end Go.Proofs.Ytnhjjdgdffjdcaa
