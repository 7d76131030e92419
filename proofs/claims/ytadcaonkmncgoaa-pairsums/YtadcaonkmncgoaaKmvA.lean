/-
  Rows of words: numbers of a row, of none too, behind numbers of the call's own; lists that rise told one by one.
  Conditions: as each theorem says.
-/
import Derived.Test.YtadcaonkmncgoaaKmvK
import Derived.Test.YtadcaonkmncgoaaVintA
import Derived.Test.YtadcaonkmncgoaaRows
import Derived.Laws.AppendOwnNone
namespace Go.Proofs.Ytadcaonkmncgoaa
open Go.RowKit
set_option maxRecDepth 20000

theorem Try.infoU : (Try.prog.info? 26).map (fun i => (i.zero, i.size, i.bytes)) = some (some (.int .u64 0), 1, 8) := by kernel_rfl
/-- Words in memory of the call's own. -/
abbrev OwnU (w : World) (base : Nat) (a : Option Addr) (n cap : Nat) (zs : List Int) : Prop := Own 26 .u64 w base a n cap zs
theorem wfs_of {l : List Int} (h : ∀ x ∈ l, W64 x) : ∀ x ∈ l, (Lit.int .u64 x).wf = true := fun x hx => wf_of_u64 (h x hx)
theorem OwnU.rowU {w : World} {base n cap : Nat} {a : Option Addr} {zs : List Int} (h : OwnU w base a n cap zs) (hn : n ≤ 281474976710656) (hz : ∀ x ∈ zs, W64 x) : Row .u64 w a n zs := Own.row h hn (wfs_of hz)
theorem take_num {l : List Int} {k : Nat} (h : k < l.length) : l.take (k + 1) = l.take k ++ [l.getD k 0] := by
  rw [List.take_succ_eq_append_getElem h, List.getD_eq_getElem?_getD, List.getElem?_eq_getElem h]
  rfl
theorem drop_num {l : List Int} {k : Nat} (h : k < l.length) : l.drop k = l.getD k 0 :: l.drop (k + 1) := by
  rw [List.drop_eq_getElem_cons h, List.getD_eq_getElem?_getD, List.getElem?_eq_getElem h]
  rfl

/-- The append of a row's words, of none too, behind words of the call's own. -/
theorem wpList_append_words {P : Program} (w : World) {ops : Array Oper} {rest : List Oper} {o : Oper} {a : Act} {Q : Exit → Act → World → Prop} (hgd : o.guard = none) (s x : Operand) (t : TypeId)
    (ho : o.op = .call { callee := .builtin .append, args := #[s, x], argTypes := #[t, t] })
    (base : Nat) (e : TypeId) (i : TypeInfo) (ht : P.underlying t = some (.slice e)) (hi : P.info? e = some i) (hz : i.zero = some (.int .u64 0)) (hsize : i.size = 1) (hby : i.bytes = 8)
    (ao : Option Addr) (n cap : Nat) (zs : List Int) (hs : a.eval s = .slice ao n cap) (hown : Own e .u64 w base ao n cap zs)
    (bo : Option Addr) (m c : Nat) (news : List Int) (hx : a.eval x = .slice bo m c) (hrow : Row .u64 w bo m news) (hbo : bo = none → c = 0)
    (hbytes : (n + m) * 8 ≤ 140737488355328) (hbase : base ≤ w.heap.size)
    (h : ∀ a' cap' w', Own e .u64 w' base a' (n + m) cap' (zs ++ news) → Below base w w' → wpList P ops Q rest (a.put o.dst (.slice a' (n + m) cap')) w') : wpList P ops Q (o :: rest) a w := by
  cases bo with
  | none =>
    have h0 := hrow.nz rfl
    subst h0
    obtain rfl := hbo rfl
    have hz : news = [] := List.length_eq_zero_iff.1 hrow.1
    subst hz
    refine wpList_append_own_none hgd s x t ho base e i 1 ht hi _ n (zs.map (Value.int .u64)) hs hown hx ?_
    have := h ao cap w (by rw [List.append_nil]; exact hown) (Below.refl _ _)
    exact this
  | some ad =>
    refine wpList_append_own w hgd s x t ho base e i (.int .u64 0) 1 8 ht hi hz hsize hby rfl (by decide) _ n (zs.map (Value.int .u64)) hs hown ad m c (news.map (Value.int .u64)) hx (by simp [hrow.1]) hrow.cells (one_cell .u64 news) (by unfold maxLen; omega) (by omega) hbase ?_
    intro v' w' h1 h2 _
    rw [← List.map_append] at h1
    obtain ⟨a', cap', rfl, h3⟩ := own_form h1
    exact h a' cap' w' h3 ((Below.refl _ _).grown h2 hbase (own_block hown))

/-- Whether each is above the one ahead, behind p. -/
def upT : Int → List Int → Bool
  | _, [] => true
  | p, x :: t => decide (p < x) && upT x t
def chkK (l : List Int) : Bool := upT (-1) l && decide (l.length ≤ 1024)
def endK (p : Int) (l : List Int) : Int := l.foldl (fun _ x => x) p
theorem upT_snoc (p : Int) (l : List Int) (x : Int) : upT p (l ++ [x]) = (upT p l && decide (endK p l < x)) := by
  induction l generalizing p with
  | nil => show (decide (p < x) && true) = (true && decide (p < x)); rw [Bool.and_true, Bool.true_and]
  | cons y t ih => rw [List.cons_append, upT, upT, ih, Bool.and_assoc]; rfl
theorem endK_snoc (p : Int) (l : List Int) (x : Int) : endK p (l ++ [x]) = x := by unfold endK; rw [List.foldl_append]; rfl
theorem upT_append (p : Int) (l m : List Int) : upT p (l ++ m) = (upT p l && upT (endK p l) m) := by
  induction l generalizing p with
  | nil => simp [upT, endK]
  | cons y t ih => rw [List.cons_append, upT, upT, ih, Bool.and_assoc]; rfl
theorem upT_prefix {p : Int} {l : List Int} (k : Nat) (h : upT p (l.take k) = false) : upT p l = false := by
  rw [← List.take_append_drop k l, upT_append, h, Bool.false_and]
theorem upT_up {p : Int} {l : List Int} (h : upT p l = true) : Up l ∧ ∀ x ∈ l, p < x := by
  unfold Up
  induction l generalizing p with
  | nil => exact ⟨List.Pairwise.nil, by simp⟩
  | cons y t ih =>
    rw [upT, Bool.and_eq_true, decide_eq_true_eq] at h
    obtain ⟨h1, h2⟩ := ih h.2
    refine ⟨List.pairwise_cons.2 ⟨h2, h1⟩, fun x hx => ?_⟩
    rcases List.mem_cons.1 hx with rfl | hx
    · exact h.1
    · have := h2 x hx; omega
theorem up_upT {p : Int} {l : List Int} (h : Up l) (hp : ∀ x ∈ l, p < x) : upT p l = true := by
  unfold Up at h
  induction l generalizing p with
  | nil => rfl
  | cons y t ih =>
    have h1 := List.pairwise_cons.1 h
    rw [upT, Bool.and_eq_true, decide_eq_true_eq]
    exact ⟨hp y (List.mem_cons_self ..), ih h1.2 h1.1⟩
theorem chk_up {l : List Int} (h : chkK l = true) : Up l ∧ l.length ≤ 1024 := by
  unfold chkK at h
  rw [Bool.and_eq_true, decide_eq_true_eq] at h
  exact ⟨(upT_up h.1).1, h.2⟩
theorem up_chk {l : List Int} (h : Up l) (hl : l.length ≤ 1024) (hw : ∀ x ∈ l, W64 x) : chkK l = true := by
  unfold chkK
  rw [Bool.and_eq_true, decide_eq_true_eq]
  exact ⟨up_upT h (fun x hx => by have := (hw x hx).1; omega), hl⟩
theorem words_insK {h : Int} {l : List Int} (hh : W64 h) (hl : ∀ x ∈ l, W64 x) : ∀ x ∈ insK h l, W64 x := fun x hx => (mem_insK.1 hx).elim (fun e => e ▸ hh) (hl x)
theorem words_hashK {n : Nat} {h : Int} {l : List Int} (hh : W64 h) (hl : ∀ x ∈ l, W64 x) : ∀ x ∈ hashK n l h, W64 x := fun x hx => words_insK hh hl x (List.mem_of_mem_take hx)

/-- Where a hash would stand: so many are below it. -/
theorem insK_at {h : Int} {l : List Int} {k : Nat} (h1 : ∀ x ∈ l.take k, x < h) (h2 : k = l.length ∨ (k < l.length ∧ h < l.getD k 0)) : insK h l = l.take k ++ h :: l.drop k := by
  induction l generalizing k with
  | nil => simp [insK]
  | cons x t ih =>
    cases k with
    | zero =>
      rcases h2 with h2 | ⟨_, h2⟩
      · simp at h2
      · rw [insK, if_pos (by simpa using h2)]; rfl
    | succ k =>
      have hx := h1 x (by simp)
      rw [insK, if_neg (by omega), if_neg (by omega), ih (k := k) (fun z hz => h1 z (by simp [hz])) (by
        rcases h2 with h2 | ⟨h2, h3⟩
        · left; simpa using h2
        · right; exact ⟨by simpa using h2, by simpa using h3⟩)]
      rfl
end Go.Proofs.Ytadcaonkmncgoaa
