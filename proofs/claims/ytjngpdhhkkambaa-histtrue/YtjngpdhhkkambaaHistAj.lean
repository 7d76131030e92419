/-
  A number put into a list that is in order; the least n of which n times b is enough; numbers written over a row of the call's own.
  Conditions: as each theorem says.
-/
import Derived.Test.YtjngpdhhkkambaaHistAi
import Derived.Test.YtjngpdhhkkambaaHistC
namespace Go.Proofs.Ytjngpdhhkkambaa
open Go.RowKit

/-- A number put in at place k. -/
def putIn (S : List Int) (k : Nat) (y : Int) : List Int := S.take k ++ y :: S.drop k
theorem putIn_perm (S : List Int) (k : Nat) (y : Int) : (putIn S k y).Perm (y :: S) := by
  unfold putIn
  refine List.perm_middle.trans ?_
  rw [List.take_append_drop]
theorem putIn_len (S : List Int) (k : Nat) (y : Int) : (putIn S k y).length = S.length + 1 := by
  rw [(putIn_perm S k y).length_eq, List.length_cons]
theorem putIn_sorted {S : List Int} (hs : S.Pairwise (· ≤ ·)) {k : Nat} {y : Int} (h1 : k = 0 ∨ S.getD (k - 1) 0 ≤ y) (hk : k ≤ S.length) (h2 : ∀ j, k ≤ j → j < S.length → y < S.getD j 0) : (putIn S k y).Pairwise (· ≤ ·) := by
  unfold putIn
  have hsplit : (S.take k ++ S.drop k).Pairwise (· ≤ ·) := by rw [List.take_append_drop]; exact hs
  rw [List.pairwise_append] at hsplit ⊢
  obtain ⟨p1, p2, p3⟩ := hsplit
  have hd : ∀ x ∈ S.drop k, y < x := by
    intro x hx
    obtain ⟨i, hi, rfl⟩ := List.getElem_of_mem hx
    rw [List.length_drop] at hi
    have := h2 (k + i) (by omega) (by omega)
    rw [List.getD_eq_getElem?_getD, List.getElem?_eq_getElem (by omega)] at this
    rw [List.getElem_drop]
    simpa using this
  have ht : ∀ x ∈ S.take k, x ≤ y := by
    intro x hx
    rcases h1 with rfl | h1
    · simp at hx
    · obtain ⟨i, hi, rfl⟩ := List.getElem_of_mem hx
      rw [List.length_take] at hi
      rw [List.getElem_take]
      rw [List.getD_eq_getElem?_getD, List.getElem?_eq_getElem (by omega)] at h1
      simp only [Option.getD_some] at h1
      by_cases hik : i = k - 1
      · subst hik; exact h1
      · exact Int.le_trans ((List.pairwise_iff_getElem.1 hs) i (k - 1) (by omega) (by omega) (by omega)) h1
  refine ⟨p1, List.pairwise_cons.2 ⟨fun x hx => Int.le_of_lt (hd x hx), p2⟩, ?_⟩
  intro x hx z hz
  rcases List.mem_cons.1 hz with rfl | hz
  · exact ht x hx
  · exact p3 x hx z hz

theorem want_least {n m a b : Int} (ha : Word a) (hm : Word m) (hb : Word b) (h0 : 0 < b) (h : a ≤ b) (n1 : 1 ≤ n) (n2 : n ≤ m) (h1 : n = 1 ∨ (n - 1) * b < m * a) (h2 : n = m ∨ m * a ≤ n * b) : wantS m a b = n := by
  rw [want_eq ha hm hb h0 h, Int.mul_comm a m]
  have h3 : m * a ≤ n * b := by
    rcases h2 with rfl | h2
    · exact Int.mul_le_mul_of_nonneg_left h (by omega)
    · exact h2
  have c1 : (m * a + b - 1) / b < n + 1 := by
    refine Int.ediv_lt_of_lt_mul h0 ?_
    rw [Int.add_mul]; omega
  rcases h1 with rfl | h1
  · split <;> omega
  · have c2 : n ≤ (m * a + b - 1) / b := by
      refine Int.le_ediv_of_mul_le h0 ?_
      have : (n - 1) * b = n * b - b := by rw [Int.sub_mul]; omega
      omega
    rw [if_neg (by omega)]; omega

theorem Own.stored {w : World} {base g n cap : Nat} {zs : List Int} {e : TypeId} {k : IntKind} (h : Own e k w base (some ⟨g, 0, none⟩) n cap zs) (j : Nat) (v : Int) : Own e k (w.setCell ⟨g, j, none⟩ (.int k v)) base (some ⟨g, 0, none⟩) n cap (zs.set j v) := by
  have := (World.ownsRow.stored h j (.int k v)).1
  unfold Own
  rw [List.map_set]
  exact this
theorem Own.putAt {w : World} {base g n cap : Nat} {zs : List Int} {e : TypeId} {k : IntKind} (h : Own e k w base (some ⟨g, 0, none⟩) n cap zs) (o : Nat) (l : List Int) : Own e k (w.setCells g o (l.map (Value.int k))) base (some ⟨g, 0, none⟩) n cap (Go.Proofs.Ytjngpdhhkkambaa.putAt zs o l) := by
  induction l generalizing w zs o with
  | nil => exact h
  | cons v r ih => exact ih (h.stored o v) (o + 1)
theorem Own.ch {S : Nat → Prop} {w w' : World} {base n cap : Nat} {zs : List Int} {a : Option Addr} {e : TypeId} {k : IntKind} (h : Own e k w base a n cap zs) (c : Ch S w w') (hn : ∀ g, base ≤ g → ¬ S g) : Own e k w' base a n cap zs := row_ch h c (fun g hg => hn g (own_block h g hg))
theorem moved (S : List Int) {k i : Nat} (hl : S.length = i) (hk : k ≤ i) (y : Int) : (putAt (S ++ [0]) (k + 1) (S.drop k)).set k y = putIn S k y := by
  have hd : (S.drop k).length = i - k := by rw [List.length_drop]; omega
  rw [putAt_eq _ _ _ (by rw [List.length_append, hd]; simp; omega), hd, List.drop_of_length_le (l := S ++ [0]) (by simp; omega), List.append_nil]
  unfold putIn
  obtain ⟨z, hz⟩ : ∃ z, (S ++ [0]).take (k + 1) = S.take k ++ [z] := by
    refine ⟨(S ++ [0]).getD k 0, ?_⟩
    rw [take_ints (by simp; omega), List.take_append_of_le_length (by omega)]
  rw [hz, List.append_assoc, List.set_append_right _ _ (by rw [List.length_take]; omega)]
  rw [show k - (S.take k).length = 0 by rw [List.length_take]; omega]
  rfl
theorem copy_seen {w : World} {base g i cap : Nat} {S : List Int} (h : Own 22 .u64 w base (some ⟨g, 0, none⟩) (i + 1) cap (S ++ [0])) {k : Nat} (hl : S.length = i) (hk : k ≤ i) (ty : TypeId) (D E : Option Addr) (c1 c2 : Nat)
    (hD : k < i → D = some ⟨g, k + 1, none⟩) (hE : k < i → E = some ⟨g, k, none⟩) :
    (Builtin.copy_ #[54, 54] ty #[.slice D (i - k) c1, .slice E (i + 1 - k) c2]).run Try.prog w = .ok (goInt ((i - k : Nat) : Int)) (w.setCells g (k + 1) ((S.drop k).map (Value.int .u64))) := by
  have hs : (Try.prog.info? 22).map (·.size) = some 1 := by kernel_rfl
  by_cases hki : k < i
  · rw [hD hki, hE hki]
    have hd : ((S.drop k).map (Value.int .u64)).length = i - k := by rw [List.length_map, List.length_drop]; omega
    have := run_copy_cells (P := Try.prog) w 54 54 ty 22 g (k + 1) (i - k) c1 ⟨g, k, none⟩ (i + 1 - k) c2 ((S.drop k).map (Value.int .u64)) Try.underlying54 hs (by rw [hd]; exact (Nat.min_eq_right (by omega)).symm) ?_ ?_ ?_ ?_
    · rw [this, hd]
    · intro j v hj
      have hjl := (List.getElem?_eq_some_iff.1 hj).1
      rw [hd] at hjl
      rw [Addr.add_lit, World.ownsRow.cellAt h (k + j) (by omega), List.map_append, List.getElem?_append_left (by simp; omega), ← hj, List.getElem?_map, List.getElem?_map, List.getElem?_drop]
    · intro j hj
      rw [hd] at hj
      rw [World.ownsRow.cellAt h (k + 1 + j) (by omega), List.getElem?_eq_getElem (by simp; omega)]
      rfl
    · intro j _
      exact World.ownsRow.frozenAt h _
    · intro v hv
      obtain ⟨z, _, rfl⟩ := List.mem_map.1 hv
      rfl
  · have e : i - k = 0 := by omega
    rw [e, run_copy_none (P := Try.prog) w _ _ ty 22 D E 0 c1 (i + 1 - k) c2 Try.underlying54 hs (by simp)]
    rw [List.drop_of_length_le (by omega)]
    rfl
end Go.Proofs.Ytjngpdhhkkambaa
