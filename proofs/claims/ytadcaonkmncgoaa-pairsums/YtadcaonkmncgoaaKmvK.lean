/-
  The least hashes of what came, as lists that rise: one more, two lists put together, the first n of them: plain laws.
  Conditions: as each theorem says.
-/
import Derived.Test.YtadcaonkmncgoaaVintL
namespace Go.Proofs.Ytadcaonkmncgoaa

/-- Each above the one ahead. -/
def Up (l : List Int) : Prop := l.Pairwise (· < ·)
/-- One more. -/
def insK (h : Int) : List Int → List Int
  | [] => [h]
  | x :: t => if h < x then h :: x :: t else if h = x then x :: t else x :: insK h t
/-- Two lists put together. -/
def uni (a : List Int) : List Int → List Int
  | [] => a
  | h :: t => uni (insK h a) t

theorem mem_insK {h x : Int} {l : List Int} : x ∈ insK h l ↔ x = h ∨ x ∈ l := by
  induction l with
  | nil => simp [insK]
  | cons y t ih =>
    rw [insK]
    split
    · simp
    · split
      · rename_i e; subst e; simp
      · simp only [List.mem_cons, ih]
        constructor
        · rintro (h | h | h)
          · exact Or.inr (Or.inl h)
          · exact Or.inl h
          · exact Or.inr (Or.inr h)
        · rintro (h | h | h)
          · exact Or.inr (Or.inl h)
          · exact Or.inl h
          · exact Or.inr (Or.inr h)
theorem up_insK {h : Int} {l : List Int} (hl : Up l) : Up (insK h l) := by
  unfold Up at *
  induction l with
  | nil => simp [insK]
  | cons y t ih =>
    have h1 := List.pairwise_cons.1 hl
    rw [insK]
    split
    · rename_i hy
      refine List.pairwise_cons.2 ⟨fun z hz => ?_, hl⟩
      rcases List.mem_cons.1 hz with rfl | hz
      · exact hy
      · exact Int.lt_trans hy (h1.1 z hz)
    · split
      · exact hl
      · refine List.pairwise_cons.2 ⟨fun z hz => ?_, ih h1.2⟩
        rcases mem_insK.1 hz with rfl | hz
        · omega
        · exact h1.1 z hz
theorem mem_uni {x : Int} {a b : List Int} : x ∈ uni a b ↔ x ∈ a ∨ x ∈ b := by
  induction b generalizing a with
  | nil => simp [uni]
  | cons h t ih =>
    rw [uni, ih, mem_insK, List.mem_cons]
    constructor
    · rintro ((h | h) | h)
      · exact Or.inr (Or.inl h)
      · exact Or.inl h
      · exact Or.inr (Or.inr h)
    · rintro (h | h | h)
      · exact Or.inl (Or.inr h)
      · exact Or.inl (Or.inl h)
      · exact Or.inr h
theorem up_uni {a b : List Int} (ha : Up a) : Up (uni a b) := by
  induction b generalizing a with
  | nil => exact ha
  | cons h t ih => exact ih (up_insK ha)
/-- Two lists that rise and hold the same are one. -/
theorem up_ext {l m : List Int} (hl : Up l) (hm : Up m) (h : ∀ x, x ∈ l ↔ x ∈ m) : l = m := by
  unfold Up at *
  induction l generalizing m with
  | nil =>
    cases m with
    | nil => rfl
    | cons y t => exact absurd ((h y).2 (List.mem_cons_self ..)) (by simp)
  | cons x s ih =>
    cases m with
    | nil => exact absurd ((h x).1 (List.mem_cons_self ..)) (by simp)
    | cons y t =>
      have h1 := List.pairwise_cons.1 hl
      have h2 := List.pairwise_cons.1 hm
      have e : x = y := by
        rcases List.mem_cons.1 ((h x).1 (List.mem_cons_self ..)) with e | e
        · exact e
        · rcases List.mem_cons.1 ((h y).2 (List.mem_cons_self ..)) with e' | e'
          · exact e'.symm
          · have := h1.1 y e'
            have := h2.1 x e
            omega
      subst e
      congr 1
      refine ih h1.2 h2.2 (fun z => ?_)
      constructor
      · intro hz
        rcases List.mem_cons.1 ((h z).1 (List.mem_cons_of_mem _ hz)) with e | e
        · have := h1.1 z hz; omega
        · exact e
      · intro hz
        rcases List.mem_cons.1 ((h z).2 (List.mem_cons_of_mem _ hz)) with e | e
        · have := h2.1 z hz; omega
        · exact e
theorem up_take {l : List Int} (hl : Up l) (n : Nat) : Up (l.take n) := List.Pairwise.sublist (List.take_sublist n l) hl
theorem uni_comm {a b : List Int} (ha : Up a) (hb : Up b) : uni a b = uni b a := up_ext (up_uni ha) (up_uni hb) (fun x => by rw [mem_uni, mem_uni]; exact or_comm)
theorem uni_assoc {a b c : List Int} (ha : Up a) : uni (uni a b) c = uni a (uni b c) :=
  up_ext (up_uni (up_uni ha)) (up_uni ha) (fun x => by rw [mem_uni, mem_uni, mem_uni, mem_uni]; exact or_assoc)
theorem uni_same {a b : List Int} (ha : Up a) (h : ∀ x ∈ b, x ∈ a) : uni a b = a := up_ext (up_uni ha) ha (fun x => by rw [mem_uni]; exact ⟨fun h' => h'.elim id (h x), Or.inl⟩)
theorem insK_there {h : Int} {l : List Int} (hl : Up l) (hm : h ∈ l) : insK h l = l := up_ext (up_insK hl) hl (fun x => by rw [mem_insK]; exact ⟨fun h' => h'.elim (fun e => e ▸ hm) id, Or.inr⟩)

/-- The first n of a list with one more: what stands behind the first n plays no part. -/
theorem insK_take {h : Int} {l : List Int} (n : Nat) : (insK h (l.take n)).take n = (insK h l).take n := by
  induction l generalizing n with
  | nil => simp
  | cons x t ih =>
    cases n with
    | zero => simp
    | succ n =>
      rw [List.take_succ_cons, insK, insK]
      split
      · rw [List.take_succ_cons, List.take_succ_cons]
        cases n with
        | zero => simp
        | succ n => rw [List.take_succ_cons, List.take_succ_cons, List.take_take]; congr 3; omega
      · split
        · rw [List.take_succ_cons, List.take_succ_cons, List.take_take]; congr 2; omega
        · rw [List.take_succ_cons, List.take_succ_cons, ih]
theorem uni_take_left {a b : List Int} (n : Nat) : (uni (a.take n) b).take n = (uni a b).take n := by
  induction b generalizing a with
  | nil => rw [uni, uni, List.take_take]; congr 1; omega
  | cons h t ih =>
    rw [uni, uni, ← ih (a := insK h (a.take n)), insK_take, ih]

/-- A hash is taken; of more than n the greatest one is dropped. -/
def hashK (n : Nat) (l : List Int) (h : Int) : List Int := (insK h l).take n
/-- Hashes are taken one by one. -/
def hashAll (n : Nat) (l m : List Int) : List Int := m.foldl (hashK n) l
theorem hashAll_uni {n : Nat} {l m : List Int} (hl : l.length ≤ n) : hashAll n l m = (uni l m).take n := by
  unfold hashAll
  suffices h : ∀ l : List Int, m.foldl (hashK n) (l.take n) = (uni l m).take n by
    have := h l
    rwa [List.take_of_length_le hl] at this
  intro l
  induction m generalizing l with
  | nil => rfl
  | cons h t ih =>
    rw [List.foldl_cons, uni, ← ih (insK h l)]
    congr 1
    unfold hashK
    rw [insK_take]
theorem hashK_up {n : Nat} {l : List Int} {h : Int} (hl : Up l) : Up (hashK n l h) := up_take (up_insK hl) n
theorem hashK_len (n : Nat) (l : List Int) (h : Int) : (hashK n l h).length ≤ n := by unfold hashK; rw [List.length_take]; omega
theorem hashAll_up {n : Nat} {l m : List Int} (hl : Up l) : Up (hashAll n l m) := by
  unfold hashAll
  induction m generalizing l with
  | nil => exact hl
  | cons h t ih => exact ih (hashK_up hl)
theorem hashAll_len {n : Nat} {l m : List Int} (hl : l.length ≤ n) : (hashAll n l m).length ≤ n := by
  unfold hashAll
  induction m generalizing l with
  | nil => exact hl
  | cons h t ih => exact ih (hashK_len n l h)
/-- To merge may be turned round and grouped. -/
theorem merge_turn {n : Nat} {a b c : List Int} (ha : Up a) (hb : Up b) (hc : Up c) (la : a.length ≤ n) (lb : b.length ≤ n) (lc : c.length ≤ n) :
    hashAll n (hashAll n a b) c = hashAll n (hashAll n c b) a ∧ hashAll n (hashAll n a b) c = hashAll n a (hashAll n b c) := by
  have e1 : ∀ x y z : List Int, x.length ≤ n → hashAll n (hashAll n x y) z = (uni (uni x y) z).take n := by
    intro x y z hx
    rw [hashAll_uni (hashAll_len hx), hashAll_uni hx, uni_take_left]
  refine ⟨?_, ?_⟩
  · rw [e1 a b c la, e1 c b a lc]
    congr 1
    refine up_ext (up_uni (up_uni ha)) (up_uni (up_uni hc)) (fun x => ?_)
    simp only [mem_uni]
    constructor
    · rintro ((h | h) | h)
      · exact Or.inr h
      · exact Or.inl (Or.inr h)
      · exact Or.inl (Or.inl h)
    · rintro ((h | h) | h)
      · exact Or.inr h
      · exact Or.inl (Or.inr h)
      · exact Or.inl (Or.inl h)
  · rw [e1 a b c la, hashAll_uni la, uni_assoc ha]
    have e2 : (uni a (hashAll n b c)).take n = (uni (hashAll n b c) a).take n := by rw [uni_comm ha (hashAll_up hb)]
    rw [e2, hashAll_uni lb, uni_take_left, uni_comm (up_uni hb) ha]
/-- What is there already changes nothing. -/
theorem merge_there {n : Nat} {a b : List Int} (ha : Up a) (la : a.length ≤ n) : hashAll n (hashAll n a b) b = hashAll n a b := by
  rw [hashAll_uni (hashAll_len la), hashAll_uni la, uni_take_left]
  congr 1
  exact uni_same (up_uni ha) (fun x hx => mem_uni.2 (Or.inr hx))

/-- The dropped one: a list that rises, of one more than n, without its last. -/
theorem drop_last {l : List Int} {n : Nat} (h : l.length = n + 1) : l.take n = l.dropLast := by
  rw [List.dropLast_eq_take, h, Nat.add_sub_cancel]
theorem up_last {l : List Int} (hl : Up l) {x : Int} (hx : x ∈ l) : x ≤ l.getLastD 0 := by
  unfold Up at hl
  induction l generalizing x with
  | nil => simp at hx
  | cons y t ih =>
    have h1 := List.pairwise_cons.1 hl
    cases t with
    | nil => simp at hx; subst hx; simp
    | cons z t =>
      have e : (y :: z :: t).getLastD 0 = (z :: t).getLastD 0 := by simp [List.getLastD]
      rw [e]
      rcases List.mem_cons.1 hx with rfl | hx
      · have := ih h1.2 (x := z) (List.mem_cons_self ..)
        have := h1.1 z (List.mem_cons_self ..)
        omega
      · exact ih h1.2 hx
theorem insK_len {h : Int} {l : List Int} (hl : Up l) : (insK h l).length = if h ∈ l then l.length else l.length + 1 := by
  split
  · rename_i hm; rw [insK_there hl hm]
  · rename_i hm
    clear hl
    induction l with
    | nil => rfl
    | cons x t ih =>
      simp only [List.mem_cons, not_or] at hm
      rw [insK]
      split
      · simp
      · rw [if_neg hm.1, List.length_cons, ih hm.2, List.length_cons]
end Go.Proofs.Ytadcaonkmncgoaa
