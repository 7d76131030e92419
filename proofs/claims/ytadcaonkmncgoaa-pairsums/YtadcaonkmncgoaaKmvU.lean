/-
  The document's own answer of layer 8 (the laws' reference): plain facts of two lists put together.
  Conditions: as each theorem says.
-/
import Derived.Test.YtadcaonkmncgoaaKmvA
import Derived.BigQuiet
namespace Go.Proofs.Ytadcaonkmncgoaa
open Go.RowKit
set_option maxRecDepth 20000

theorem up_nil : Up [] := List.Pairwise.nil
theorem up_drop {l : List Int} (hl : Up l) (n : Nat) : Up (l.drop n) := List.Pairwise.sublist (List.drop_sublist n l) hl
theorem uni_none {b : List Int} (hb : Up b) : uni [] b = b := up_ext (up_uni up_nil) hb (fun x => by rw [mem_uni]; simp)
theorem uni_lt {x y : Int} {a b : List Int} (ha : Up (x :: a)) (hb : Up (y :: b)) (h : x < y) : uni (x :: a) (y :: b) = x :: uni a (y :: b) := by
  have ha' := List.pairwise_cons.1 ha
  have hb' := List.pairwise_cons.1 hb
  refine up_ext (up_uni ha) (List.pairwise_cons.2 ⟨fun z hz => ?_, up_uni ha'.2⟩) (fun z => by rw [mem_uni, List.mem_cons (a := z) (b := x), List.mem_cons (a := z) (b := x), mem_uni, or_assoc])
  rcases mem_uni.1 hz with hz | hz
  · exact ha'.1 z hz
  · rcases List.mem_cons.1 hz with rfl | hz
    · exact h
    · have := hb'.1 z hz; omega
theorem uni_gt {x y : Int} {a b : List Int} (ha : Up (x :: a)) (hb : Up (y :: b)) (h : y < x) : uni (x :: a) (y :: b) = y :: uni (x :: a) b := by
  rw [uni_comm ha hb, uni_lt hb ha h, uni_comm (List.pairwise_cons.1 hb).2 ha]
theorem uni_eq {x : Int} {a b : List Int} (ha : Up (x :: a)) (hb : Up (x :: b)) : uni (x :: a) (x :: b) = x :: uni a b := by
  have ha' := List.pairwise_cons.1 ha
  have hb' := List.pairwise_cons.1 hb
  refine up_ext (up_uni ha) (List.pairwise_cons.2 ⟨fun z hz => ?_, up_uni ha'.2⟩) (fun z => by rw [mem_uni, List.mem_cons, List.mem_cons, List.mem_cons, mem_uni]; exact ⟨fun h => by rcases h with (h | h) | (h | h) <;> simp [h], fun h => by rcases h with h | h | h <;> simp [h]⟩)
  rcases mem_uni.1 hz with hz | hz
  · exact ha'.1 z hz
  · exact hb'.1 z hz
theorem mg_lt {l m zs : List Int} {i k : Nat} (hl : Up l) (hm : Up m) (h : uni l m = zs ++ uni (l.drop i) (m.drop k)) (hi : i < l.length) (hk : k < m.length) (hx : l.getD i 0 < m.getD k 0) :
    uni l m = (zs ++ [l.getD i 0]) ++ uni (l.drop (i + 1)) (m.drop k) := by
  have u1 := up_drop hl i
  have u2 := up_drop hm k
  rw [drop_num hi] at h u1
  rw [drop_num hk] at h u2 ⊢
  rw [h, uni_lt u1 u2 hx, List.append_assoc]; rfl
theorem mg_gt {l m zs : List Int} {i k : Nat} (hl : Up l) (hm : Up m) (h : uni l m = zs ++ uni (l.drop i) (m.drop k)) (hi : i < l.length) (hk : k < m.length) (hx : m.getD k 0 < l.getD i 0) :
    uni l m = (zs ++ [m.getD k 0]) ++ uni (l.drop i) (m.drop (k + 1)) := by
  have u1 := up_drop hl i
  have u2 := up_drop hm k
  rw [drop_num hi] at h u1 ⊢
  rw [drop_num hk] at h u2
  rw [h, uni_gt u1 u2 hx, List.append_assoc]; rfl
theorem mg_eq {l m zs : List Int} {i k : Nat} (hl : Up l) (hm : Up m) (h : uni l m = zs ++ uni (l.drop i) (m.drop k)) (hi : i < l.length) (hk : k < m.length) (hx : l.getD i 0 = m.getD k 0) :
    uni l m = (zs ++ [l.getD i 0]) ++ uni (l.drop (i + 1)) (m.drop (k + 1)) := by
  have u1 := up_drop hl i
  have u2 := up_drop hm k
  rw [drop_num hi] at h u1
  rw [drop_num hk] at h u2
  rw [← hx] at h u2
  rw [h, uni_eq u1 u2, List.append_assoc]; rfl
theorem mg_left {l m zs : List Int} {i k : Nat} (h : uni l m = zs ++ uni (l.drop i) (m.drop k)) (hi : i < l.length) (hk : m.length ≤ k) :
    uni l m = (zs ++ [l.getD i 0]) ++ uni (l.drop (i + 1)) (m.drop k) := by
  rw [List.drop_of_length_le hk] at h ⊢
  rw [drop_num hi] at h
  rw [h, List.append_assoc]; rfl
theorem mg_right {l m zs : List Int} {i k : Nat} (hm : Up m) (h : uni l m = zs ++ uni (l.drop i) (m.drop k)) (hi : l.length ≤ i) (hk : k < m.length) :
    uni l m = (zs ++ [m.getD k 0]) ++ uni (l.drop i) (m.drop (k + 1)) := by
  rw [List.drop_of_length_le hi] at h ⊢
  rw [uni_none (up_drop hm _)] at h ⊢
  rw [drop_num hk] at h
  rw [h, List.append_assoc]; rfl
theorem mg_end {l m zs : List Int} {i k : Nat} (h : uni l m = zs ++ uni (l.drop i) (m.drop k)) (hi : l.length ≤ i) (hk : m.length ≤ k) (hz : zs.length ≤ 1024) : (uni l m).take 1024 = zs := by
  rw [List.drop_of_length_le hi, List.drop_of_length_le hk] at h
  rw [h]
  show (zs ++ []).take 1024 = zs
  rw [List.append_nil, List.take_of_length_le hz]
theorem mg_full {l m zs r : List Int} (h : uni l m = zs ++ r) (hz : zs.length = 1024) : (uni l m).take 1024 = zs := by
  rw [h, ← hz, List.take_left']
  rfl
theorem words_getD {l : List Int} (h : ∀ x ∈ l, W64 x) (i : Nat) : W64 (l.getD i 0) := by
  rw [List.getD_eq_getElem?_getD]
  by_cases hi : i < l.length
  · rw [List.getElem?_eq_getElem hi]; exact h _ (List.getElem_mem _)
  · rw [List.getElem?_eq_none (by omega)]; exact ⟨by decide, by decide⟩
theorem own_drewN {e : TypeId} {k : IntKind} {w : World} {base n cap : Nat} {a : Option Addr} {zs : List Int} (h : Own e k w base a n cap zs) (q : Nat) : Own e k (w.drewN q) base a n cap zs :=
  h.below (B := w.heap.size) ⟨rfl, rfl, rfl, Nat.le_refl _, fun _ _ => rfl⟩ (Nat.le_refl _)
end Go.Proofs.Ytadcaonkmncgoaa
