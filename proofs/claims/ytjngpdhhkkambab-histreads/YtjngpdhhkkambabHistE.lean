/-
  The document's own answer of layer 7 (the laws' reference): the bytes of a list of buckets, in the shorter form: a contract, for every world.
  Conditions: the slice shows its buckets, which may be.
-/
import Derived.Test.YtjngpdhhkkambabHistD
namespace Go.Proofs.Ytjngpdhhkkambab
open Go.RowKit

theorem putH_dense {l : Bks} (h : l ≠ []) (h1 : (denseS l).length < (sparseS l).length) : putH l = denseS l := by unfold putH; rw [if_pos ⟨h, h1⟩]
theorem putH_sparse {l : Bks} (h : l = [] ∨ ¬ (denseS l).length < (sparseS l).length) : putH l = sparseS l := by
  unfold putH
  rw [if_neg]
  rintro ⟨h1, h2⟩
  rcases h with h | h
  · exact h1 h
  · exact h h2

set_option maxHeartbeats 2000000 in
theorem refputH_any (a : Option Addr) (n cap : Nat) (l : Bks) (w : World) (hr : RowB w a n l) (hck : checkS l = true) :
    Calls Try.prog 15 #[.slice a n cap] w fun e w' => ∃ a' c', e = .returned (.slice a' (putH l).length c') ∧ Mine w' w.heap.size a' (putH l).length c' (putH l) ∧ Below w.heap.size w w' := by
  have S := hide (refsparse_any a n cap l w hr hck)
  have hl := hr.1
  have hg : Good l := ⟨hck, fit_words hr.2.2.1⟩
  have HR := hide hr
  by_cases h0 : n = 0
  · subst h0
    have hz : l = [] := List.length_eq_zero_iff.1 hl
    rw [putH_sparse (Or.inl hz)]
    generalize sparseS l = X at *
    have D := hide (refdense_none a cap)
    clear hr hz hl
    go_enter Try.func15, Try.ntmps15
    go_wp2_with fail
    refine S.out.mono ?_
    rintro e w1 ⟨a1, c1, rfl, o1, k1⟩
    go_wp2_with fail
    refine (D.out _).mono ?_
    rintro e w2 ⟨rfl, rfl⟩
    have O1 := hide o1
    have K1 := hide k1
    clear o1 k1 S D
    go_wp2
    go_ret
    exact ⟨a1, c1, rfl, O1, K1⟩
  · have hne : l ≠ [] := by rintro rfl; simp at hl; omega
    have D := hide (fun w1 (hb : Below w.heap.size w w1) => refdense_any a n cap l w1 (hr.below hb (Nat.le_refl _)) hck (by omega))
    have hd0 : 1 ≤ (denseS l).length := by simp [denseS]
    by_cases hlt : (denseS l).length < (sparseS l).length
    · rw [putH_dense hne hlt]
      have t1 : ((denseS l).length : Int) < ((sparseS l).length : Int) := by omega
      generalize sparseS l = X at *
      generalize denseS l = Y at *
      generalize X.length = LX at *
      generalize Y.length = LY at *
      have t0 : (0 : Int) < (LY : Int) := by omega
      clear hr hl hne hlt
      go_enter Try.func15, Try.ntmps15
      go_wp2_with fail
      refine S.out.mono ?_
      rintro e w1 ⟨a1, c1, rfl, o1, k1⟩
      have D1 := hide (D.out w1 k1)
      have K1 := hide k1
      clear o1 k1 S D
      go_wp2_with fail
      refine D1.out.mono ?_
      rintro e w2 ⟨a2, c2, rfl, o2, k2⟩
      have O2 := hide (o2.mono K1.out.size)
      have K2 : Hid (Below w.heap.size w w2) := bel_to K1.out (Nat.le_refl _) k2
      clear o2 k2 D1
      go_wp2
      go_ret
      exact ⟨a2, c2, rfl, O2, K2⟩
    · rw [putH_sparse (Or.inr hlt)]
      have t1 : ¬ ((denseS l).length : Int) < ((sparseS l).length : Int) := by omega
      generalize sparseS l = X at *
      generalize denseS l = Y at *
      generalize X.length = LX at *
      generalize Y.length = LY at *
      have t0 : (0 : Int) < (LY : Int) := by omega
      clear hr hl hne hlt
      go_enter Try.func15, Try.ntmps15
      go_wp2_with fail
      refine S.out.mono ?_
      rintro e w1 ⟨a1, c1, rfl, o1, k1⟩
      have D1 := hide (D.out w1 k1)
      have K1 := hide k1
      have O1 := hide o1
      clear o1 k1 S D
      go_wp2_with fail
      refine D1.out.mono ?_
      rintro e w2 ⟨a2, c2, rfl, o2, k2⟩
      have O2 := hide (O1.out.below k2 (Nat.le_refl _))
      have K2 : Hid (Below w.heap.size w w2) := bel_to K1.out (Nat.le_refl _) k2
      clear o2 k2 D1 O1
      go_wp2
      go_ret
      exact ⟨a1, c1, rfl, O2, K2⟩
end Go.Proofs.Ytjngpdhhkkambab
