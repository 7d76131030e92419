/-
  The law of layer 8 on more than 1024 hashes with gaps that are told, of any layer that keeps its contracts.
  Conditions: the contracts.
-/
import Derived.Test.YtlhiikibbppodabKmvT
import Derived.Test.YtlhiikibbppodabPlace
namespace Go.Proofs.Ytlhiikibbppodab
open Go.RowKit

/-- Numbers with gaps: m of them, from the j-th on. -/
def apK (f d : Int) (j m : Nat) : List Int := (List.range m).map (fun t => f + ((j + t : Nat) : Int) * d)
theorem apK_len (f d : Int) (j m : Nat) : (apK f d j m).length = m := by simp [apK]
theorem apK_cons (f d : Int) (j m : Nat) : apK f d j (m + 1) = (f + (j : Int) * d) :: apK f d (j + 1) m := by
  unfold apK
  rw [List.range_succ_eq_map, List.map_cons, List.map_map]
  congr 1
  refine List.map_congr_left (fun t _ => ?_)
  show f + ((j + (t + 1) : Nat) : Int) * d = f + ((j + 1 + t : Nat) : Int) * d
  rw [show j + (t + 1) = j + 1 + t by omega]
theorem mem_apK {f d x : Int} {j m : Nat} (h : x ∈ apK f d j m) : ∃ t : Nat, t < m ∧ x = f + ((j + t : Nat) : Int) * d := by
  unfold apK at h
  obtain ⟨t, ht, rfl⟩ := List.mem_map.1 h
  exact ⟨t, List.mem_range.1 ht, rfl⟩
theorem apK_lt {f d x : Int} {j m : Nat} (hd : 0 < d) (h : x ∈ apK f d (j + 1) m) : f + (j : Int) * d < x := by
  obtain ⟨t, _, rfl⟩ := mem_apK h
  have : (j : Int) * d < ((j + 1 + t : Nat) : Int) * d := Int.mul_lt_mul_of_pos_right (by omega) hd
  omega
theorem apK_up {f d : Int} (hd : 0 < d) (j m : Nat) : Up (apK f d j m) := by
  induction m generalizing j with
  | zero => exact List.Pairwise.nil
  | succ m ih =>
    rw [apK_cons]
    exact List.pairwise_cons.2 ⟨fun x hx => apK_lt hd hx, ih (j + 1)⟩
theorem insK_first {h : Int} {l : List Int} (hl : ∀ x ∈ l, h < x) : insK h l = h :: l := by
  cases l with
  | nil => rfl
  | cons x t => rw [insK, if_pos (hl x (by simp))]
theorem apK_hash {f d : Int} (hd : 0 < d) (j m : Nat) : hashK 1024 ((apK f d (j + 1) m).take 1024) (f + (j : Int) * d) = (apK f d j (m + 1)).take 1024 := by
  unfold hashK
  rw [insK_take, insK_first (fun x hx => apK_lt hd hx), apK_cons]
theorem apK_words {f d : Int} (hf : 0 ≤ f) (hd : 0 < d) {j m : Nat} (h : f + ((j + m : Nat) : Int) * d < 18446744073709551616) : ∀ x ∈ apK f d j m, W64 x := by
  intro x hx
  obtain ⟨t, ht, rfl⟩ := mem_apK hx
  have h1 : (0 : Int) ≤ ((j + t : Nat) : Int) * d := Int.mul_nonneg (by omega) (by omega)
  have h2 : ((j + t : Nat) : Int) * d < ((j + m : Nat) : Int) * d := Int.mul_lt_mul_of_pos_right (by omega) hd
  exact ⟨by omega, by omega⟩
theorem apK_getD (f d : Int) (j m : Nat) {i : Nat} (h : i < m) : (apK f d j m).getD i 0 = f + ((j + i : Nat) : Int) * d := by
  unfold apK
  rw [List.getD_eq_getElem?_getD, List.getElem?_map, List.getElem?_range h]
  rfl
/-- What is told of the list of n of them. -/
theorem apK_few {f d : Int} (hf : 0 ≤ f) (hf2 : f < 1152921504606846976) (hd : 0 < d) (hd2 : d ≤ 1125899906842624) {n : Nat} (hn : n ≤ 1100) (h : n < 1024) :
    ((apK f d 0 n).take 1024).length = n ∧ distK ((apK f d 0 n).take 1024) = n := by
  have hl : ((apK f d 0 n).take 1024).length = n := by rw [List.length_take, apK_len]; omega
  have hb : ((0 + n : Nat) : Int) * d ≤ 1100 * 1125899906842624 := Int.mul_le_mul (by omega) hd2 (by omega) (by omega)
  have hck : chkK ((apK f d 0 n).take 1024) = true := up_chk (up_take (apK_up hd 0 n) _) (by omega) (fun x hx => apK_words hf hd (j := 0) (m := n) (by omega) x (List.mem_of_mem_take hx))
  refine ⟨hl, ?_⟩
  unfold distK
  rw [if_pos hck, if_pos (by omega), hl]
theorem apK_many {f d : Int} (hf : 0 ≤ f) (hf2 : f < 1152921504606846976) (hd : 0 < d) (hd2 : d ≤ 1125899906842624) {n : Nat} (hn : n ≤ 1100) (h : 1024 ≤ n) :
    ((apK f d 0 n).take 1024).length = 1024 ∧ ((apK f d 0 n).take 1024).getD 0 0 = f ∧ ((apK f d 0 n).take 1024).getD 1023 0 = f + 1023 * d ∧ distK ((apK f d 0 n).take 1024) = 1023 * 18446744073709551616 / (f + 1023 * d + 1) := by
  have hl : ((apK f d 0 n).take 1024).length = 1024 := by rw [List.length_take, apK_len]; omega
  have hb : ((0 + n : Nat) : Int) * d ≤ 1100 * 1125899906842624 := Int.mul_le_mul (by omega) hd2 (by omega) (by omega)
  have hck : chkK ((apK f d 0 n).take 1024) = true := up_chk (up_take (apK_up hd 0 n) _) (by omega) (fun x hx => apK_words hf hd (j := 0) (m := n) (by omega) x (List.mem_of_mem_take hx))
  have g : ∀ i, i < 1024 → ((apK f d 0 n).take 1024).getD i 0 = f + ((0 + i : Nat) : Int) * d := by
    intro i hi
    rw [← apK_getD f d 0 n (i := i) (by omega), List.getD_eq_getElem?_getD, List.getElem?_take_of_lt hi, ← List.getD_eq_getElem?_getD]
  have g0 := g 0 (by omega)
  have g1 := g 1023 (by omega)
  have e0 : f + ((0 + 0 : Nat) : Int) * d = f := by simp
  have e1 : f + ((0 + 1023 : Nat) : Int) * d = f + 1023 * d := by simp
  rw [e0] at g0
  rw [e1] at g1
  refine ⟨hl, g0, g1, ?_⟩
  unfold distK
  rw [if_pos hck, if_neg (by omega), g1, if_neg (by omega)]

section
variable {At : World → Nat → (Nat → Prop) → List Int → Prop}
theorem PoolK.hash (I : KmvI At) {w W : World} (q1 q2 : List (Nat × List Int)) {g : Nat} {l : List Int} (h : PoolK At w W (q1 ++ (g, l) :: q2)) {x : Int} (hx : W64 x) :
    Calls Try.prog 9 #[.pointer (some ⟨g, 0, none⟩), .int .u64 x] W fun e W' => e = .returned (.tuple #[]) ∧ PoolK At w W' (q1 ++ (g, hashK 1024 l x) :: q2) := by
  obtain ⟨S, h1, h2, h3⟩ := (h.bound I).step I (l' := hashK 1024 l x)
  refine (I.hash g S l x W h1 hx).mono ?_
  rintro e W' ⟨rfl, st⟩
  exact ⟨rfl, h3 W' st⟩
theorem PoolK.new (I : KmvI At) {w W : World} {qs : List (Nat × List Int)} (h : PoolK At w W qs) :
    Calls Try.prog 13 #[] W fun e W' => ∃ g, e = .returned (.pointer (some ⟨g, 0, none⟩)) ∧ PoolK At w W' ((g, []) :: qs) := by
  refine (I.new W).mono ?_
  rintro e W' ⟨g, rfl, m⟩
  exact ⟨g, rfl, h.made I m⟩
theorem PoolK.distinct (I : KmvI At) {w W : World} (q1 q2 : List (Nat × List Int)) {g : Nat} {l : List Int} (h : PoolK At w W (q1 ++ (g, l) :: q2)) :
    Calls Try.prog 11 #[.pointer (some ⟨g, 0, none⟩)] W fun e W' => e = .returned (.int .u64 (distK l)) ∧ Below W.heap.size W W' ∧ PoolK At w W' (q1 ++ (g, l) :: q2) := by
  obtain ⟨S, h1, h2⟩ := h.has
  refine (I.distinct g S l W h1).mono ?_
  rintro e W' ⟨rfl, b⟩
  exact ⟨rfl, b, h.below I b⟩
end

end Go.Proofs.Ytlhiikibbppodab
