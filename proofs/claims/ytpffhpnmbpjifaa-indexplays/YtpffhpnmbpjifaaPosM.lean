/-
  Lists of lists of numbers in memory, and the document's Most: a contract, for every world.
  Conditions: at most ten lists of at most 200 numbers each.
-/
import Derived.Test.YtpffhpnmbpjifaaPosS
namespace Go.Proofs.Ytpffhpnmbpjifaa
open Go.RowKit
set_option maxRecDepth 20000

/-- A row of lists. -/
def RowII (w : World) (a : Option Addr) (n : Nat) (ls : List (List Int)) : Prop :=
  ls.length = n ∧ n * 24 ≤ 140737488355328 ∧ (n = 0 ∨ ∃ b off, a = some ⟨b, off, none⟩ ∧ ∀ i, i < n → ∃ a' n' c', w.cell? ⟨b, off + i, none⟩ = some (.slice a' n' c') ∧ SlI w a' n' c' (ls.getD i []))
section
variable {w w' : World} {a : Option Addr} {n : Nat} {ls : List (List Int)}
theorem RowII.below {B : Nat} (h : RowII w a n ls) (hb : Below B w w') (hB : w.heap.size ≤ B) : RowII w' a n ls := by
  obtain ⟨h1, h2, h3⟩ := h
  refine ⟨h1, h2, ?_⟩
  rcases h3 with h3 | ⟨b, off, rfl, hc⟩
  · exact Or.inl h3
  · refine Or.inr ⟨b, off, rfl, fun i hi => ?_⟩
    obtain ⟨a', n', c', q1, q2⟩ := hc i hi
    have hlt : b < w.heap.size := World.block_lt_of_cell? w _ q1
    refine ⟨a', n', c', ?_, q2.below hb hB⟩
    rw [hb.cell (p := ⟨b, off + i, none⟩) (show b < B by omega)]
    exact q1
theorem RowII.at' (h : RowII w a n ls) {i : Nat} (hi : i < n) : ∃ b off a' n' c', a = some ⟨b, off, none⟩ ∧ w.cell? ⟨b, off + i, none⟩ = some (.slice a' n' c') ∧ SlI w a' n' c' (ls.getD i []) := by
  obtain ⟨h1, h2, h3 | ⟨b, off, rfl, hc⟩⟩ := h
  · omega
  · obtain ⟨a', n', c', q1, q2⟩ := hc i hi
    exact ⟨b, off, a', n', c', rfl, q1, q2⟩
end
theorem getL_mem {ls : List (List Int)} {i : Nat} (h : i < ls.length) : ls.getD i [] ∈ ls := by
  rw [List.getD_eq_getElem?_getD, List.getElem?_eq_getElem h]
  exact List.getElem_mem h
theorem takeL_get {ls : List (List Int)} {k : Nat} (h : k < ls.length) : ls.take (k + 1) = ls.take k ++ [ls.getD k []] := by
  rw [List.take_succ_eq_append_getElem h, List.getD_eq_getElem?_getD, List.getElem?_eq_getElem h]
  rfl
/-- All numbers of the first k lists, and of the first j of the next. -/
def unJ (ls : List (List Int)) (k j : Nat) : List Int := ((ls.take k).flatten ++ (ls.getD k []).take j).foldl (fun l v => insI v l) []
theorem unJ_up (ls : List (List Int)) (k j : Nat) : upI (unJ ls k j) := (foldI upI_nil).1
theorem unJ_len (ls : List (List Int)) (k j : Nat) (h : ∀ l ∈ ls, l.length ≤ 200) (hk : k ≤ 10) : (unJ ls k j).length ≤ 2400 := by
  have h1 := len_fold ((ls.take k).flatten ++ (ls.getD k []).take j) []
  have h2 : (ls.getD k []).length ≤ 200 := by
    by_cases hi : k < ls.length
    · exact h _ (getL_mem hi)
    · rw [List.getD_eq_getElem?_getD, List.getElem?_eq_none (by omega)]
      simp
  have h3 : ∀ (m : List (List Int)), (∀ l ∈ m, l.length ≤ 200) → m.flatten.length ≤ 200 * m.length := by
    intro m
    induction m with
    | nil => simp
    | cons x t ih =>
      intro hm
      have e1 := hm x (by simp)
      have e2 := ih (fun l hl => hm l (by simp [hl]))
      rw [List.flatten_cons, List.length_append, List.length_cons]
      omega
  have h4 := h3 (ls.take k) (fun l hl => h l (List.mem_of_mem_take hl))
  have h5 : (ls.take k).length ≤ k := List.length_take_le k ls
  unfold unJ
  simp only [List.length_nil, Nat.zero_add, List.length_append, List.length_take] at h1
  omega
theorem unJ_step {ls : List (List Int)} {k j : Nat} (hj : j < (ls.getD k []).length) : unJ ls k (j + 1) = insI ((ls.getD k []).getD j 0) (unJ ls k j) := by
  unfold unJ
  rw [take_get hj, ← List.append_assoc, List.foldl_append]
  rfl
theorem unJ_next {ls : List (List Int)} {k j : Nat} (hk : k < ls.length) (hj : (ls.getD k []).length ≤ j) : unJ ls k j = unJ ls (k + 1) 0 := by
  unfold unJ
  rw [takeL_get hk, List.flatten_append, List.take_of_length_le hj]
  simp
theorem unJ_all {ls : List (List Int)} {k : Nat} (hk : ls.length ≤ k) : unJ ls k 0 = unI ls := by
  unfold unJ unI
  rw [List.take_of_length_le hk]
  simp
theorem mem_unJ {ls : List (List Int)} {k j : Nat} {x : Int} (h : x ∈ unJ ls k j) : ∃ l ∈ ls, x ∈ l := by
  unfold unJ at h
  rw [(foldI upI_nil).2] at h
  rcases h with h | h
  · cases h
  · rcases List.mem_append.1 h with h | h
    · obtain ⟨l, hl, hx⟩ := List.mem_flatten.1 h
      exact ⟨l, List.mem_of_mem_take hl, hx⟩
    · by_cases hi : k < ls.length
      · exact ⟨_, getL_mem hi, List.mem_of_mem_take h⟩
      · rw [List.getD_eq_getElem?_getD, List.getElem?_eq_none (by omega)] at h
        simp at h
/-- Which of them may be told. -/
def manyB (ls : List (List Int)) (k : Int) (x : Int) : Bool := decide (k ≤ (cntI ls x : Int))
theorem cnt_step {ls : List (List Int)} {j : Nat} {x : Int} (h : j < ls.length) : cntI (ls.take (j + 1)) x = cntI (ls.take j) x + if x ∈ ls.getD j [] then 1 else 0 := by
  rw [takeL_get h]
  unfold cntI
  rw [List.countP_append]
  by_cases hx : x ∈ ls.getD j []
  · rw [if_pos hx, List.countP_cons, List.countP_nil, if_pos (decide_eq_true hx)]
  · rw [if_neg hx, List.countP_cons, List.countP_nil, if_neg (by rw [decide_eq_false hx]; decide)]
theorem keepM {wr v v' : World} {p q : Addr} {y z : Value} (hp : p.block < wr.heap.size) (hq : q.block < wr.heap.size) (hb : Below v.heap.size v v') (h : v.cell? p = some y ∧ v.cell? q = some z ∧ Hid (Below wr.heap.size wr v)) : v'.cell? p = some y ∧ v'.cell? q = some z ∧ Hid (Below wr.heap.size wr v') := by
  obtain ⟨h1, h2, h3⟩ := h
  have hs := h3.size
  refine ⟨?_, ?_, bel_to h3 (Nat.le_refl _) hb⟩
  · rw [hb.cell (by omega)]; exact h1
  · rw [hb.cell (by omega)]; exact h2

end Go.Proofs.Ytpffhpnmbpjifaa
