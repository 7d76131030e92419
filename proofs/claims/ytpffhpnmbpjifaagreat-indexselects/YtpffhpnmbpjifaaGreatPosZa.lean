/-
  Rising lists of numbers, plainly: what is in at least so many of them, what is in one and not in the other. No function is named. Lists of numbers by the laws and the document (Ints, SameInts, Rises, in, put, Less): contracts, for every world. Rising lists by the document (put, Less, Most): contracts, for every world. Lists of lists of numbers in memory, and the document's Most: a contract, for every world.
  Conditions: as each theorem says; the slices show their numbers; as each theorem says; the slices show their numbers; at most so many as each theorem says; at most ten lists of at most 200 numbers each.
-/
import Derived.WalkKit
import Derived.Test.YtpffhpnmbpjifaaGreatVintZa
import Derived.Test.YtpffhpnmbpjifaaGreatRows
import Derived.Laws.AppendOwnNone
import Derived.Deep.RegionHeld3
import Derived.Deep.DeepCutAuto
import Derived.Deep.CutBlock
namespace Go.Proofs.YtpffhpnmbpjifaaGreat

/-- Each above the one ahead. -/
def upI (l : List Int) : Prop := l.Pairwise (· < ·)
instance (l : List Int) : Decidable (upI l) := by unfold upI; infer_instance
theorem upI_ext : ∀ {l m : List Int}, upI l → upI m → (∀ x, x ∈ l ↔ x ∈ m) → l = m
  | [], [], _, _, _ => rfl
  | [], y :: m, _, _, h => by
    have := (h y).2 (by simp)
    cases this
  | x :: l, [], _, _, h => by
    have := (h x).1 (by simp)
    cases this
  | x :: l, y :: m, hl, hm, h => by
    obtain ⟨l1, l2⟩ := List.pairwise_cons.1 hl
    obtain ⟨m1, m2⟩ := List.pairwise_cons.1 hm
    have hxy : x = y := by
      have h1 := (h x).1 (by simp)
      have h2 := (h y).2 (by simp)
      rcases List.mem_cons.1 h1 with e | e
      · exact e
      · rcases List.mem_cons.1 h2 with e' | e'
        · exact e'.symm
        · have := m1 x e
          have := l1 y e'
          omega
    subst hxy
    congr 1
    refine upI_ext l2 m2 (fun z => ?_)
    constructor
    · intro hz
      rcases List.mem_cons.1 ((h z).1 (List.mem_cons_of_mem _ hz)) with e | e
      · have := l1 z hz
        omega
      · exact e
    · intro hz
      rcases List.mem_cons.1 ((h z).2 (List.mem_cons_of_mem _ hz)) with e | e
      · have := m1 z hz
        omega
      · exact e
theorem upI_filter {l : List Int} (f : Int → Bool) (h : upI l) : upI (l.filter f) := List.Pairwise.filter f h
theorem upI_take {l : List Int} (k : Nat) (h : upI l) : upI (l.take k) := h.sublist (List.take_sublist k l)
theorem upI_nil : upI [] := List.Pairwise.nil
theorem upI_snoc {l : List Int} {x : Int} : upI (l ++ [x]) ↔ upI l ∧ ∀ y ∈ l, y < x := by
  unfold upI
  rw [List.pairwise_append]
  simp
/-- By neighbours. -/
theorem upI_step {l : List Int} {k : Nat} (hk : k + 1 < l.length) (h : upI (l.take (k + 1))) : upI (l.take (k + 2)) ↔ l[k] < l[k + 1] := by
  have e : l.take (k + 2) = l.take (k + 1) ++ [l[k + 1]] := by
    rw [List.take_succ_eq_append_getElem hk]
  have e1 : l.take (k + 1) = l.take k ++ [l[k]] := by
    rw [List.take_succ_eq_append_getElem (by omega)]
  rw [e, upI_snoc]
  constructor
  · rintro ⟨-, h2⟩
    exact h2 _ (by rw [e1]; exact List.mem_append_right _ (List.mem_singleton.2 rfl))
  · intro h2
    refine ⟨h, fun y hy => ?_⟩
    rw [e1] at hy h
    rcases List.mem_append.1 hy with h3 | h3
    · have := (upI_snoc.1 h).2 y h3
      omega
    · simp at h3
      omega
/-- One more, at its place. -/
def insI (v : Int) : List Int → List Int
  | [] => [v]
  | x :: l => if v < x then v :: x :: l else if v = x then x :: l else x :: insI v l
theorem mem_insI {v x : Int} {l : List Int} : x ∈ insI v l ↔ x = v ∨ x ∈ l := by
  induction l with
  | nil => simp [insI]
  | cons y l ih =>
    unfold insI
    split
    · simp
    · split
      · rename_i h1 h2
        subst h2
        simp
      · rw [List.mem_cons, ih, List.mem_cons]
        constructor
        · rintro (h | h | h)
          · exact Or.inr (Or.inl h)
          · exact Or.inl h
          · exact Or.inr (Or.inr h)
        · rintro (h | h | h)
          · exact Or.inr (Or.inl h)
          · exact Or.inl h
          · exact Or.inr (Or.inr h)
theorem upI_insI {v : Int} {l : List Int} (h : upI l) : upI (insI v l) := by
  induction l with
  | nil => simp [insI, upI]
  | cons y l ih =>
    obtain ⟨h1, h2⟩ := List.pairwise_cons.1 h
    unfold insI
    split
    · rename_i hv
      refine List.pairwise_cons.2 ⟨fun z hz => ?_, h⟩
      rcases List.mem_cons.1 hz with e | e
      · omega
      · have := h1 z e
        omega
    · split
      · exact h
      · rename_i hv hv2
        refine List.pairwise_cons.2 ⟨fun z hz => ?_, ih h2⟩
        rcases mem_insI.1 hz with e | e
        · omega
        · exact h1 z e
/-- All numbers of these lists. -/
def unI (ls : List (List Int)) : List Int := ls.flatten.foldl (fun l v => insI v l) []
theorem foldI {ls l : List Int} (h : upI l) : upI (ls.foldl (fun l v => insI v l) l) ∧ ∀ x, x ∈ ls.foldl (fun l v => insI v l) l ↔ x ∈ l ∨ x ∈ ls := by
  induction ls generalizing l with
  | nil => exact ⟨h, fun x => by simp⟩
  | cons v t ih =>
    obtain ⟨i1, i2⟩ := ih (l := insI v l) (upI_insI h)
    refine ⟨i1, fun x => ?_⟩
    rw [List.foldl_cons, i2, mem_insI, List.mem_cons]
    constructor
    · rintro ((h | h) | h)
      · exact Or.inr (Or.inl h)
      · exact Or.inl h
      · exact Or.inr (Or.inr h)
    · rintro (h | h | h)
      · exact Or.inl (Or.inr h)
      · exact Or.inl (Or.inl h)
      · exact Or.inr h
theorem upI_unI (ls : List (List Int)) : upI (unI ls) := (foldI upI_nil).1
theorem mem_unI {ls : List (List Int)} {x : Int} : x ∈ unI ls ↔ ∃ l ∈ ls, x ∈ l := by
  unfold unI
  rw [(foldI upI_nil).2]
  simp
/-- In how many of them. -/
def cntI (ls : List (List Int)) (x : Int) : Nat := ls.countP (fun l => decide (x ∈ l))
theorem cntI_pos {ls : List (List Int)} {x : Int} : 1 ≤ cntI ls x ↔ ∃ l ∈ ls, x ∈ l := by
  unfold cntI
  rw [Nat.one_le_iff_ne_zero, Ne, List.countP_eq_zero]
  simp
/-- What is in at least k of them, if all rise. -/
def mostS (ls : List (List Int)) (k : Int) : List Int := if k < 1 ∨ ¬ ∀ l ∈ ls, upI l then [] else (unI ls).filter (fun x => decide (k ≤ (cntI ls x : Int)))
/-- What is in the one and not in the other, if both rise. -/
def lessS (a b : List Int) : List Int := if upI a ∧ upI b then a.filter (fun x => decide (x ∉ b)) else []
theorem upI_most (ls : List (List Int)) (k : Int) : upI (mostS ls k) := by
  unfold mostS
  split
  · exact upI_nil
  · exact upI_filter _ (upI_unI ls)
theorem mem_most {ls : List (List Int)} {k x : Int} : x ∈ mostS ls k ↔ 1 ≤ k ∧ (∀ l ∈ ls, upI l) ∧ k ≤ (cntI ls x : Int) := by
  unfold mostS
  split
  · rename_i h
    constructor
    · intro h2
      cases h2
    · rintro ⟨h1, h2, -⟩
      rcases h with h | h
      · omega
      · exact absurd h2 h
  · rename_i h
    rw [List.mem_filter, mem_unI, decide_eq_true_eq]
    have h1 : 1 ≤ k := by
      by_cases hk : k < 1
      · exact absurd (Or.inl hk) h
      · omega
    have h2 : ∀ l ∈ ls, upI l := Classical.byContradiction fun hn => h (Or.inr hn)
    constructor
    · rintro ⟨-, h3⟩
      exact ⟨h1, h2, h3⟩
    · rintro ⟨-, -, h3⟩
      exact ⟨cntI_pos.1 (by omega), h3⟩
theorem upI_less (a b : List Int) : upI (lessS a b) := by
  unfold lessS
  split
  · rename_i h
    exact upI_filter _ h.1
  · exact upI_nil
theorem mem_less {a b : List Int} {x : Int} : x ∈ lessS a b ↔ (upI a ∧ upI b) ∧ x ∈ a ∧ x ∉ b := by
  unfold lessS
  split
  · rename_i h
    rw [List.mem_filter, decide_eq_true_eq]
    exact ⟨fun q => ⟨h, q⟩, fun q => q.2⟩
  · rename_i h
    exact ⟨fun q => (by cases q), fun q => absurd q.1 h⟩
theorem cntI_one (a : List Int) (x : Int) : cntI [a] x = if x ∈ a then 1 else 0 := by
  unfold cntI
  by_cases h : x ∈ a <;> simp [h]
theorem cntI_cons (a : List Int) (ls : List (List Int)) (x : Int) : cntI (a :: ls) x = cntI ls x + if x ∈ a then 1 else 0 := by
  unfold cntI
  by_cases h : x ∈ a <;> simp [h]
theorem cntI_nil (x : Int) : cntI [] x = 0 := rfl
theorem cntI_le (ls : List (List Int)) (x : Int) : cntI ls x ≤ ls.length := List.countP_le_length
/-- And, Or of two. -/
abbrev andS (a b : List Int) : List Int := mostS [a, b] 2
abbrev orS (a b : List Int) : List Int := mostS [a, b] 1
theorem mem_and {a b : List Int} {x : Int} : x ∈ andS a b ↔ (upI a ∧ upI b) ∧ x ∈ a ∧ x ∈ b := by
  unfold andS
  rw [mem_most]
  simp only [cntI_cons, cntI_nil, List.mem_cons, List.not_mem_nil, or_false, forall_eq_or_imp, forall_eq]
  by_cases h1 : x ∈ a <;> by_cases h2 : x ∈ b <;> simp [h1, h2]
theorem mem_or {a b : List Int} {x : Int} : x ∈ orS a b ↔ (upI a ∧ upI b) ∧ (x ∈ a ∨ x ∈ b) := by
  unfold orS
  rw [mem_most]
  simp only [cntI_cons, cntI_nil, List.mem_cons, List.not_mem_nil, or_false, forall_eq_or_imp, forall_eq]
  by_cases h1 : x ∈ a <;> by_cases h2 : x ∈ b <;> simp [h1, h2]
theorem most_one {a : List Int} (h : upI a) : mostS [a] 1 = a := by
  refine upI_ext (upI_most _ _) h (fun x => ?_)
  rw [mem_most, cntI_one]
  by_cases hx : x ∈ a <;> simp [hx, h]
theorem most_three {a : List Int} (h : upI a) : mostS [a, a, a] 1 = a := by
  refine upI_ext (upI_most _ _) h (fun x => ?_)
  rw [mem_most]
  simp only [cntI_cons, cntI_nil, List.mem_cons, List.not_mem_nil, or_false, forall_eq_or_imp, forall_eq]
  by_cases hx : x ∈ a <;> simp [hx, h]
theorem and_comm' (a b : List Int) : andS a b = andS b a := upI_ext (upI_most _ _) (upI_most _ _) (fun x => by
  rw [mem_and, mem_and]
  constructor
  · rintro ⟨⟨h1, h2⟩, h3, h4⟩
    exact ⟨⟨h2, h1⟩, h4, h3⟩
  · rintro ⟨⟨h1, h2⟩, h3, h4⟩
    exact ⟨⟨h2, h1⟩, h4, h3⟩)
theorem or_comm' (a b : List Int) : orS a b = orS b a := upI_ext (upI_most _ _) (upI_most _ _) (fun x => by
  rw [mem_or, mem_or]
  constructor
  · rintro ⟨⟨h1, h2⟩, h3⟩
    exact ⟨⟨h2, h1⟩, h3.symm⟩
  · rintro ⟨⟨h1, h2⟩, h3⟩
    exact ⟨⟨h2, h1⟩, h3.symm⟩)
theorem and_assoc' {a b c : List Int} (ha : upI a) (hc : upI c) : andS (andS a b) c = andS a (andS b c) := upI_ext (upI_most _ _) (upI_most _ _) (fun x => by
  have u1 : upI (andS a b) := upI_most _ _
  have u2 : upI (andS b c) := upI_most _ _
  rw [mem_and, mem_and, mem_and, mem_and]
  constructor
  · rintro ⟨-, ⟨⟨-, h2⟩, h3, h4⟩, h5⟩
    exact ⟨⟨ha, u2⟩, h3, ⟨h2, hc⟩, h4, h5⟩
  · rintro ⟨-, h3, ⟨h2, -⟩, h4, h5⟩
    exact ⟨⟨u1, hc⟩, ⟨⟨ha, h2⟩, h3, h4⟩, h5⟩)
theorem or_assoc' {a b c : List Int} (ha : upI a) (hb : upI b) (hc : upI c) : orS (orS a b) c = orS a (orS b c) := upI_ext (upI_most _ _) (upI_most _ _) (fun x => by
  have u1 : upI (orS a b) := upI_most _ _
  have u2 : upI (orS b c) := upI_most _ _
  rw [mem_or, mem_or, mem_or, mem_or]
  constructor
  · rintro ⟨-, ⟨-, h | h⟩ | h⟩
    · exact ⟨⟨ha, u2⟩, Or.inl h⟩
    · exact ⟨⟨ha, u2⟩, Or.inr ⟨⟨hb, hc⟩, Or.inl h⟩⟩
    · exact ⟨⟨ha, u2⟩, Or.inr ⟨⟨hb, hc⟩, Or.inr h⟩⟩
  · rintro ⟨-, h | ⟨-, h | h⟩⟩
    · exact ⟨⟨u1, hc⟩, Or.inl ⟨⟨ha, hb⟩, Or.inl h⟩⟩
    · exact ⟨⟨u1, hc⟩, Or.inl ⟨⟨ha, hb⟩, Or.inr h⟩⟩
    · exact ⟨⟨u1, hc⟩, Or.inr h⟩)
theorem less_and {a b : List Int} (ha : upI a) (hb : upI b) : orS (lessS a b) (andS a b) = a := upI_ext (upI_most _ _) ha (fun x => by
  rw [mem_or, mem_less, mem_and]
  constructor
  · rintro ⟨-, ⟨-, h, -⟩ | ⟨-, h, -⟩⟩
    · exact h
    · exact h
  · intro h
    refine ⟨⟨upI_less _ _, upI_most _ _⟩, ?_⟩
    by_cases h2 : x ∈ b
    · exact Or.inr ⟨⟨ha, hb⟩, h, h2⟩
    · exact Or.inl ⟨⟨ha, hb⟩, h, h2⟩)
theorem and_self' {a : List Int} (h : upI a) : andS a a = a := upI_ext (upI_most _ _) h (fun x => by
  rw [mem_and]
  exact ⟨fun q => q.2.1, fun q => ⟨⟨h, h⟩, q, q⟩⟩)
theorem less_self (a : List Int) : lessS a a = [] := upI_ext (upI_less _ _) upI_nil (fun x => by
  rw [mem_less]
  exact ⟨fun q => absurd q.2.1 q.2.2, fun q => by cases q⟩)
theorem less_nil {a : List Int} (h : upI a) : lessS a [] = a := upI_ext (upI_less _ _) h (fun x => by
  rw [mem_less]
  exact ⟨fun q => q.2.1, fun q => ⟨⟨h, upI_nil⟩, q, by simp⟩⟩)
/-- In at least k: in at least k - 1. -/
theorem most_down {ls : List (List Int)} {k : Int} (hk : 1 < k) : lessS (mostS ls k) (mostS ls (k - 1)) = [] := upI_ext (upI_less _ _) upI_nil (fun x => by
  rw [mem_less, mem_most, mem_most]
  constructor
  · rintro ⟨-, ⟨h1, h2, h3⟩, h4⟩
    exact absurd ⟨by omega, h2, by omega⟩ h4
  · intro q
    cases q)
/-- In all of them: in each. -/
theorem most_all {ls : List (List Int)} {a : List Int} (ha : a ∈ ls) : lessS (mostS ls ls.length) a = [] := upI_ext (upI_less _ _) upI_nil (fun x => by
  rw [mem_less, mem_most]
  constructor
  · rintro ⟨-, ⟨-, -, h3⟩, h4⟩
    have h5 : cntI ls x = ls.length := by
      have := cntI_le ls x
      omega
    unfold cntI at h5
    rw [List.countP_eq_length] at h5
    have := h5 a ha
    rw [decide_eq_true_eq] at this
    exact absurd this h4
  · intro q
    cases q)
theorem most_more (ls : List (List Int)) : mostS ls (ls.length + 1) = [] := upI_ext (upI_most _ _) upI_nil (fun x => by
  rw [mem_most]
  constructor
  · rintro ⟨-, -, h3⟩
    have := cntI_le ls x
    omega
  · intro q
    cases q)
/-- How many there are. -/
theorem len_ins (v : Int) (l : List Int) : (insI v l).length ≤ l.length + 1 := by
  induction l with
  | nil => simp [insI]
  | cons y l ih =>
    unfold insI
    split
    · simp
    · split
      · simp
      · simp only [List.length_cons]
        omega
theorem len_fold (ls l : List Int) : (ls.foldl (fun l v => insI v l) l).length ≤ l.length + ls.length := by
  induction ls generalizing l with
  | nil => simp
  | cons v t ih =>
    have h1 := ih (insI v l)
    have h2 := len_ins v l
    rw [List.foldl_cons, List.length_cons]
    omega
theorem len_most (ls : List (List Int)) (k : Int) : (mostS ls k).length ≤ ls.flatten.length := by
  unfold mostS
  split
  · simp
  · have h1 : ((unI ls).filter (fun x => decide (k ≤ (cntI ls x : Int)))).length ≤ (unI ls).length := List.length_filter_le _ _
    have h2 := len_fold ls.flatten []
    unfold unI at h1 ⊢
    simp only [List.length_nil, Nat.zero_add] at h2
    omega
theorem len_less (a b : List Int) : (lessS a b).length ≤ a.length := by
  unfold lessS
  split
  · exact List.length_filter_le _ _
  · simp
end Go.Proofs.YtpffhpnmbpjifaaGreat

namespace Go.Proofs.YtpffhpnmbpjifaaGreat
open Go.RowKit
set_option maxRecDepth 20000

theorem Tryz.infoI : (Tryz.prog.info? 3).map (fun i => (i.zero, i.size, i.bytes)) = some (some (.int .i64 0), 1, 8) := by kernel_rfl
/-- Numbers of the call's own. -/
abbrev MineI (w : World) (base : Nat) (a : Option Addr) (n cap : Nat) (zs : List Int) : Prop := Own 3 .i64 w base a n cap zs
/-- A list of numbers, as a slice may be. -/
def SlI (w : World) (a : Option Addr) (n cap : Nat) (zs : List Int) : Prop := Row .i64 w a n zs ∧ n ≤ cap ∧ (a = none → cap = 0)
section
variable {w w' : World} {a : Option Addr} {n cap : Nat} {zs : List Int}
theorem SlI.below {B : Nat} (h : SlI w a n cap zs) (hb : Below B w w') (hB : w.heap.size ≤ B) : SlI w' a n cap zs := ⟨h.1.below hb hB, h.2⟩
theorem SlI.len (h : SlI w a n cap zs) : zs.length = n := h.1.1
theorem SlI.wf (h : SlI w a n cap zs) : ∀ z ∈ zs, (Lit.int .i64 z).wf = true := h.1.2.2.1
theorem sli_nil (w : World) : SlI w none 0 0 [] := ⟨⟨rfl, by omega, fun z hz => (by cases hz), Or.inl rfl⟩, Nat.le_refl _, fun _ => rfl⟩
theorem MineI.sl {base : Nat} (h : MineI w base a n cap zs) (hn : n ≤ 281474976710656) (hz : ∀ z ∈ zs, (Lit.int .i64 z).wf = true) : SlI w a n cap zs := ⟨h.row hn hz, h.capped⟩
/-- Its cell at place i. -/
theorem SlI.at' (h : SlI w a n cap zs) {i : Nat} (hi : i < n) : ∃ b off, a = some ⟨b, off, none⟩ ∧ w.cell? ⟨b, off + i, none⟩ = some (.int .i64 (zs.getD i 0)) := by
  obtain ⟨⟨_, _, _, h0 | ⟨b, off, rfl, hc⟩⟩, _⟩ := h
  · omega
  · exact ⟨b, off, rfl, hc i hi⟩
end
theorem getD_mem' {zs : List Int} {i : Nat} (h : i < zs.length) : zs.getD i 0 ∈ zs := by
  rw [List.getD_eq_getElem?_getD, List.getElem?_eq_getElem h]
  exact List.getElem_mem h
theorem getD_is {zs : List Int} {i : Nat} (h : i < zs.length) : zs.getD i 0 = zs[i] := by
  rw [List.getD_eq_getElem?_getD, List.getElem?_eq_getElem h]
  rfl
theorem take_get {ls : List Int} {k : Nat} (h : k < ls.length) : ls.take (k + 1) = ls.take k ++ [ls.getD k 0] := by
  rw [List.take_succ_eq_append_getElem h, getD_is h]
/-- The append of a row behind numbers of the call's own. -/
theorem wpList_append_ints {P : Program} (w : World) {ops : Array Oper} {rest : List Oper} {o : Oper} {a : Act} {Q : Exit → Act → World → Prop} (hgd : o.guard = none) (s x : Operand) (t : TypeId)
    (ho : o.op = .call { callee := .builtin .append, args := #[s, x], argTypes := #[t, t] })
    (base : Nat) (e : TypeId) (i : TypeInfo) (ht : P.underlying t = some (.slice e)) (hi : P.info? e = some i) (hz : i.zero = some (.int .i64 0)) (hsize : i.size = 1) (hby : i.bytes = 8)
    (ao : Option Addr) (n cap : Nat) (zs : List Int) (hs : a.eval s = .slice ao n cap) (hown : Own e .i64 w base ao n cap zs)
    (bo : Option Addr) (m c : Nat) (news : List Int) (hx : a.eval x = .slice bo m c) (hrow : Row .i64 w bo m news) (hbo : bo = none → c = 0)
    (hbytes : (n + m) * 8 ≤ 140737488355328) (hbase : base ≤ w.heap.size)
    (h : ∀ a' cap' w', Own e .i64 w' base a' (n + m) cap' (zs ++ news) → Below base w w' → Ch (fun k => (Value.slice ao n cap).ownBlock = some k) w w' → wpList P ops Q rest (a.put o.dst (.slice a' (n + m) cap')) w') : wpList P ops Q (o :: rest) a w := by
  cases bo with
  | none =>
    have h0 := hrow.nz rfl
    subst h0
    obtain rfl := hbo rfl
    have hz : news = [] := List.length_eq_zero_iff.1 hrow.1
    subst hz
    refine wpList_append_own_none hgd s x t ho base e i 1 ht hi _ n (zs.map (Value.int .i64)) hs hown hx ?_
    have := h ao cap w (by rw [List.append_nil]; exact hown) (Below.refl _ _) (Ch.refl _ _)
    exact this
  | some ad =>
    refine wpList_append_own w hgd s x t ho base e i (.int .i64 0) 1 8 ht hi hz hsize hby rfl (by decide) _ n (zs.map (Value.int .i64)) hs hown ad m c (news.map (Value.int .i64)) hx (by simp [hrow.1]) hrow.cells (one_cell .i64 news) (by unfold maxLen; omega) (by omega) hbase ?_
    intro v' w' h1 h2 _
    rw [← List.map_append] at h1
    obtain ⟨a', cap', rfl, h3⟩ := own_form h1
    exact h a' cap' w' h3 ((Below.refl _ _).grown h2 hbase (own_block hown)) (Ch.grown h2)
theorem one_introw (w : World) (k : Int) (e : TypeId) : Row .i64 (w.alloc (.cells #[.int .i64 k] e)) (some ⟨w.heap.size, 0, none⟩) 1 [k] ↔ (Lit.int .i64 k).wf = true := by
  constructor
  · intro h
    exact h.2.2.1 k (by simp)
  · intro h
    refine ⟨rfl, by omega, fun z hz => by simp at hz; rw [hz]; exact h, Or.inr ⟨w.heap.size, 0, rfl, fun i hi => ?_⟩⟩
    obtain rfl : i = 0 := by omega
    rw [World.cell?_alloc_mark]
    rfl

set_option maxHeartbeats 1000000 in
theorem samei_any (a : Option Addr) (n cap : Nat) (xs : List Int) (b : Option Addr) (m capb : Nat) (ys : List Int) (w : World) (hx : SlI w a n cap xs) (hy : SlI w b m capb ys) :
    Calls Tryz.prog 11 #[.slice a n cap, .slice b m capb] w fun e w' => e = .returned (.bool (decide (xs = ys))) ∧ Below w.heap.size w w' := by
  have hl := hx.1.1
  have hm := hy.1.1
  have hn := hx.1.2.1
  have hn2 := hy.1.2.1
  by_cases he : n = m
  · subst he
    have HX := hide hx
    have HY := hide hy
    have HL := hide hl
    have HM := hide hm
    clear hx hy hl hm
    go_enter Tryz.func11, Tryz.ntmps11
    go_wp2
    go_loopw [5] (fun i wr => ∃ k : Nat, k ≤ n ∧ i = .int .i64 k ∧ Hid (xs.take k = ys.take k) ∧ Hid (Below w.heap.size w wr)) (fun i _ => n - (intOf i).toNat)
    case atStart => exact ⟨0, by omega, rfl, by show _ = _; simp, Below.refl _ _⟩
    case round =>
      obtain ⟨k, hk, rfl, HT, HW⟩ := hrel
      by_cases hlt : k < n
      · obtain ⟨x0, o0, rfl, g0⟩ := (HX.out.below HW.out (Nat.le_refl _)).at' hlt
        obtain ⟨x1, o1, rfl, g1⟩ := (HY.out.below HW.out (Nat.le_refl _)).at' hlt
        have S0 := hide (take_get (ls := xs) (k := k) (by rw [HL.out]; exact hlt))
        have S1 := hide (take_get (ls := ys) (k := k) (by rw [HM.out]; exact hlt))
        have i1 : (0 : Int) ≤ (k : Int) := by omega
        have i2 : (k : Int) < (n : Int) := by omega
        have HG : Hid (xs.getD k 0 ≠ ys.getD k 0 → xs ≠ ys) := fun h e => h (by rw [e])
        generalize xs.getD k 0 = p at *
        generalize ys.getD k 0 = q at *
        by_cases hpq : p = q
        · subst hpq
          have HT2 : Hid (xs.take (k + 1) = ys.take (k + 1)) := by show _ = _; rw [S0.out, S1.out, HT.out]
          have t : (p != p) = false := by simp
          go_wp2
          go_region
          go_wp2
          go_roundw
          case rel => exact ⟨k + 1, by omega, by go_num, HT2, HW.out.drew⟩
          case measure => simp [intOf]; omega
        · have t : (p != q) = true := by simpa using hpq
          have HN : Hid (decide (xs = ys) = false) := by show _ = _; simpa using HG.out hpq
          clear hpq
          go_wp2
          go_region
          go_wp2
          go_ret
          refine ⟨?_, HW.out.drew⟩
          show Ending.returned (.bool false) = _
          rw [HN.out]
      · have : k = n := by omega
        subst this
        have HN : Hid (decide (xs = ys) = true) := by
          have := HT.out
          rw [List.take_of_length_le (by rw [HL.out]; omega), List.take_of_length_le (by rw [HM.out]; omega)] at this
          show _ = _
          simpa using this
        go_wp2
        go_ret
        refine ⟨?_, HW.out⟩
        show Ending.returned (.bool true) = _
        rw [HN.out]
  · have hne : decide (xs = ys) = false := by
      simp only [decide_eq_false_iff_not]
      rintro rfl
      omega
    have t : ((n : Int) != (m : Int)) = true := by simp; omega
    rw [hne]
    clear hne hl hm hx hy
    go_enter Tryz.func11, Tryz.ntmps11
    go_wp2
    go_ret
    exact ⟨rfl, Below.refl _ _⟩
theorem upI_all {l : List Int} {n : Nat} (hl : l.length ≤ n) (h : upI (l.take n)) : upI l := by rwa [List.take_of_length_le hl] at h
end Go.Proofs.YtpffhpnmbpjifaaGreat

namespace Go.Proofs.YtpffhpnmbpjifaaGreat
open Go.RowKit
set_option maxRecDepth 20000

theorem slice_toI (a : Option Addr) (n cap k : Nat) (hk : k ≤ cap) (w : World) :
    (Instr.slice 33 (.slice a n cap) none (some (.int .i64 (k : Int))) none).run Tryz.prog w = .ok (.slice a k cap) w := by
  rw [run_slice_h (P := Tryz.prog) w 33 a n cap Tryz.underlying33 .i64 (k : Int) (by omega) (by omega)]
  have hs : (sizeOf (Tryz.prog.elem 33)).run Tryz.prog w = .ok 1 w := by kernel_rfl
  rw [hs]
  simp only [Result.andThen, sliced, Int.toNat_natCast, Nat.zero_mul, Nat.sub_zero]
  cases a with
  | none => simp
  | some x => simp [Addr.add]
theorem slice_fromI (a : Option Addr) (n cap k : Nat) (hk : k ≤ n) (w : World) :
    (Instr.slice 33 (.slice a n cap) (some (.int .i64 (k : Int))) none none).run Tryz.prog w = .ok (.slice (if cap = k then a else a.map (·.add k)) (n - k) (cap - k)) w := by
  rw [run_slice_l (P := Tryz.prog) w 33 a n cap Tryz.underlying33 .i64 (k : Int) (by omega) (by omega)]
  have hs : (sizeOf (Tryz.prog.elem 33)).run Tryz.prog w = .ok 1 w := by kernel_rfl
  rw [hs]
  simp only [Result.andThen, sliced, Int.toNat_natCast, Nat.mul_one]
theorem insI_mem {v : Int} {l : List Int} (hu : upI l) (h : v ∈ l) : insI v l = l := upI_ext (upI_insI hu) hu (fun x => by
  rw [mem_insI]
  exact ⟨fun q => q.elim (fun e => e ▸ h) id, Or.inr⟩)
theorem insI_cut {v : Int} {l : List Int} {k : Nat} (hu : upI l) (h1 : ∀ x ∈ l.take k, x < v) (h2 : ∀ x ∈ l.drop k, v < x) : l.take k ++ [v] ++ l.drop k = insI v l := by
  refine upI_ext ?_ (upI_insI hu) (fun x => ?_)
  · have hu' : upI (l.take k ++ l.drop k) := by rw [List.take_append_drop]; exact hu
    unfold upI at hu' ⊢
    rw [List.pairwise_append] at hu'
    rw [List.pairwise_append, List.pairwise_append]
    obtain ⟨p1, p2, p3⟩ := hu'
    refine ⟨⟨p1, by simp, fun x hx y hy => ?_⟩, p2, fun x hx y hy => ?_⟩
    · simp at hy
      rw [hy]
      exact h1 x hx
    · rcases List.mem_append.1 hx with hx | hx
      · exact p3 x hx y hy
      · simp at hx
        rw [hx]
        exact h2 y hy
  · rw [mem_insI, List.append_assoc, List.mem_append, List.mem_append]
    have e : x ∈ l ↔ x ∈ l.take k ∨ x ∈ l.drop k := by rw [← List.mem_append, List.take_append_drop]
    rw [e]
    simp only [List.mem_singleton]
    constructor
    · rintro (h | h | h)
      · exact Or.inr (Or.inl h)
      · exact Or.inl h
      · exact Or.inr (Or.inr h)
    · rintro (h | h | h)
      · exact Or.inr (Or.inl h)
      · exact Or.inl h
      · exact Or.inr (Or.inr h)
theorem drop_get {l : List Int} {k : Nat} (h : k < l.length) : l.drop k = l.getD k 0 :: l.drop (k + 1) := by
  rw [List.drop_eq_getElem_cons h, getD_is h]
theorem take_below {v : Int} {l : List Int} {k : Nat} (hu : upI l) (hv : v ∉ l) (hk : k + 1 ≤ l.length) (h : ¬ v < l.getD k 0) : ∀ x ∈ l.take (k + 1), x < v := by
  intro x hx
  have hne : x ≠ v := fun e => hv (e ▸ List.mem_of_mem_take hx)
  rw [take_get (by omega)] at hx
  have hu2 := upI_take (k + 1) hu
  rw [take_get (by omega)] at hu2
  rcases List.mem_append.1 hx with h1 | h1
  · have := (upI_snoc.1 hu2).2 x h1
    omega
  · rw [List.mem_singleton] at h1
    omega

/-- Is it not among these? -/
def outB (ys : List Int) (x : Int) : Bool := decide (x ∉ ys)
end Go.Proofs.YtpffhpnmbpjifaaGreat

namespace Go.Proofs.YtpffhpnmbpjifaaGreat
open Go.RowKit
set_option maxRecDepth 20000

/-- A row of lists. -/
def RowII (w : World) (a : Option Addr) (n : Nat) (ls : List (List Int)) : Prop :=
  ls.length = n ∧ n * 24 ≤ 140737488355328 ∧ (n = 0 ∨ ∃ b off, a = some ⟨b, off, none⟩ ∧ ∀ i, i < n → ∃ a' n' c', w.cell? ⟨b, off + i, none⟩ = some (.slice a' n' c') ∧ SlI w a' n' c' (ls.getD i []))
section
variable {w w' : World} {a : Option Addr} {n : Nat} {ls : List (List Int)}
theorem RowII.below {B : Nat} (h : RowII w a n ls) (hb : Below B w w') (hB : w.heap.size ≤ B) : RowII w' a n ls := by
  obtain ⟨h1, h2, h3⟩ := h
  refine ⟨h1, h2, ?_⟩
  rcases h3 with h3 | ⟨b, off, rfl, hc⟩
  · exact Or.inl h3
  · refine Or.inr ⟨b, off, rfl, fun i hi => ?_⟩
    obtain ⟨a', n', c', q1, q2⟩ := hc i hi
    have hlt : b < w.heap.size := World.block_lt_of_cell? w _ q1
    refine ⟨a', n', c', ?_, q2.below hb hB⟩
    rw [hb.cell (p := ⟨b, off + i, none⟩) (show b < B by omega)]
    exact q1
theorem RowII.at' (h : RowII w a n ls) {i : Nat} (hi : i < n) : ∃ b off a' n' c', a = some ⟨b, off, none⟩ ∧ w.cell? ⟨b, off + i, none⟩ = some (.slice a' n' c') ∧ SlI w a' n' c' (ls.getD i []) := by
  obtain ⟨h1, h2, h3 | ⟨b, off, rfl, hc⟩⟩ := h
  · omega
  · obtain ⟨a', n', c', q1, q2⟩ := hc i hi
    exact ⟨b, off, a', n', c', rfl, q1, q2⟩
end
theorem getL_mem {ls : List (List Int)} {i : Nat} (h : i < ls.length) : ls.getD i [] ∈ ls := by
  rw [List.getD_eq_getElem?_getD, List.getElem?_eq_getElem h]
  exact List.getElem_mem h
theorem takeL_get {ls : List (List Int)} {k : Nat} (h : k < ls.length) : ls.take (k + 1) = ls.take k ++ [ls.getD k []] := by
  rw [List.take_succ_eq_append_getElem h, List.getD_eq_getElem?_getD, List.getElem?_eq_getElem h]
  rfl
/-- All numbers of the first k lists, and of the first j of the next. -/
def unJ (ls : List (List Int)) (k j : Nat) : List Int := ((ls.take k).flatten ++ (ls.getD k []).take j).foldl (fun l v => insI v l) []
theorem unJ_up (ls : List (List Int)) (k j : Nat) : upI (unJ ls k j) := (foldI upI_nil).1
theorem unJ_len (ls : List (List Int)) (k j : Nat) (h : ∀ l ∈ ls, l.length ≤ 200) (hk : k ≤ 10) : (unJ ls k j).length ≤ 2400 := by
  have h1 := len_fold ((ls.take k).flatten ++ (ls.getD k []).take j) []
  have h2 : (ls.getD k []).length ≤ 200 := by
    by_cases hi : k < ls.length
    · exact h _ (getL_mem hi)
    · rw [List.getD_eq_getElem?_getD, List.getElem?_eq_none (by omega)]
      simp
  have h3 : ∀ (m : List (List Int)), (∀ l ∈ m, l.length ≤ 200) → m.flatten.length ≤ 200 * m.length := by
    intro m
    induction m with
    | nil => simp
    | cons x t ih =>
      intro hm
      have e1 := hm x (by simp)
      have e2 := ih (fun l hl => hm l (by simp [hl]))
      rw [List.flatten_cons, List.length_append, List.length_cons]
      omega
  have h4 := h3 (ls.take k) (fun l hl => h l (List.mem_of_mem_take hl))
  have h5 : (ls.take k).length ≤ k := List.length_take_le k ls
  unfold unJ
  simp only [List.length_nil, Nat.zero_add, List.length_append, List.length_take] at h1
  omega
theorem unJ_step {ls : List (List Int)} {k j : Nat} (hj : j < (ls.getD k []).length) : unJ ls k (j + 1) = insI ((ls.getD k []).getD j 0) (unJ ls k j) := by
  unfold unJ
  rw [take_get hj, ← List.append_assoc, List.foldl_append]
  rfl
theorem unJ_next {ls : List (List Int)} {k j : Nat} (hk : k < ls.length) (hj : (ls.getD k []).length ≤ j) : unJ ls k j = unJ ls (k + 1) 0 := by
  unfold unJ
  rw [takeL_get hk, List.flatten_append, List.take_of_length_le hj]
  simp
theorem unJ_all {ls : List (List Int)} {k : Nat} (hk : ls.length ≤ k) : unJ ls k 0 = unI ls := by
  unfold unJ unI
  rw [List.take_of_length_le hk]
  simp
theorem mem_unJ {ls : List (List Int)} {k j : Nat} {x : Int} (h : x ∈ unJ ls k j) : ∃ l ∈ ls, x ∈ l := by
  unfold unJ at h
  rw [(foldI upI_nil).2] at h
  rcases h with h | h
  · cases h
  · rcases List.mem_append.1 h with h | h
    · obtain ⟨l, hl, hx⟩ := List.mem_flatten.1 h
      exact ⟨l, List.mem_of_mem_take hl, hx⟩
    · by_cases hi : k < ls.length
      · exact ⟨_, getL_mem hi, List.mem_of_mem_take h⟩
      · rw [List.getD_eq_getElem?_getD, List.getElem?_eq_none (by omega)] at h
        simp at h
/-- Which of them may be told. -/
def manyB (ls : List (List Int)) (k : Int) (x : Int) : Bool := decide (k ≤ (cntI ls x : Int))
theorem cnt_step {ls : List (List Int)} {j : Nat} {x : Int} (h : j < ls.length) : cntI (ls.take (j + 1)) x = cntI (ls.take j) x + if x ∈ ls.getD j [] then 1 else 0 := by
  rw [takeL_get h]
  unfold cntI
  rw [List.countP_append]
  by_cases hx : x ∈ ls.getD j []
  · rw [if_pos hx, List.countP_cons, List.countP_nil, if_pos (decide_eq_true hx)]
  · rw [if_neg hx, List.countP_cons, List.countP_nil, if_neg (by rw [decide_eq_false hx]; decide)]
theorem keepM {wr v v' : World} {p q : Addr} {y z : Value} (hp : p.block < wr.heap.size) (hq : q.block < wr.heap.size) (hb : Below v.heap.size v v') (h : v.cell? p = some y ∧ v.cell? q = some z ∧ Hid (Below wr.heap.size wr v)) : v'.cell? p = some y ∧ v'.cell? q = some z ∧ Hid (Below wr.heap.size wr v') := by
  obtain ⟨h1, h2, h3⟩ := h
  have hs := h3.size
  refine ⟨?_, ?_, bel_to h3 (Nat.le_refl _) hb⟩
  · rw [hb.cell (by omega)]; exact h1
  · rw [hb.cell (by omega)]; exact h2

end Go.Proofs.YtpffhpnmbpjifaaGreat
