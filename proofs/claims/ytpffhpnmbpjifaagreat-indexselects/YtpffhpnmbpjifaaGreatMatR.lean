/-
  A row of matchers of the call's own, that grows by one; texts copied behind none. No function is named.
  Conditions: as each theorem says.
-/
import Derived.Test.YtpffhpnmbpjifaaGreatMatM
import Derived.Test.YtpffhpnmbpjifaaGreatLabZb
namespace Go.Proofs.YtpffhpnmbpjifaaGreat
open Go.RowKit
set_option maxRecDepth 20000

theorem Tryz.infoM : (Tryz.prog.info? 26).map (fun i => (i.zero, i.size, i.bytes)) = some (some (.agg #[.int .i64 0, .string .empty, .string .empty, .slice none 0 0, .slice none 0 0]), 5, 88) := by kernel_rfl
theorem Tryz.infoS : (Tryz.prog.info? 9).map (fun i => (i.zero, i.size, i.bytes)) = some (some (.string .empty), 1, 16) := by kernel_rfl
def flatM (hs : List Hm) : List Value := hs.flatMap Hm.cells
theorem flatM_cons (x : Hm) (l : List Hm) : flatM (x :: l) = x.cells ++ flatM l := by simp [flatM]
theorem flatM_append (l m : List Hm) : flatM (l ++ m) = flatM l ++ flatM m := by simp [flatM]
theorem flatM_len (l : List Hm) : (flatM l).length = l.length * 5 := by
  induction l with
  | nil => rfl
  | cons x t ih => rw [flatM_cons, List.length_append, ih]; simp only [Hm.cells, List.length_cons, List.length_nil]; omega
theorem flatM_get (l : List Hm) (i : Nat) (x : Hm) (h : l[i]? = some x) (j : Nat) (v : Value) (hv : x.cells[j]? = some v) : (flatM l)[i * 5 + j]? = some v := by
  have hj : j < 5 := (List.getElem?_eq_some_iff.1 hv).1
  induction l generalizing i with
  | nil => simp at h
  | cons y t ih =>
    rw [flatM_cons]
    cases i with
    | zero =>
      simp only [List.getElem?_cons_zero, Option.some.injEq] at h
      subst h
      rw [Nat.zero_mul, Nat.zero_add, List.getElem?_append_left (by show j < 5; exact hj)]
      exact hv
    | succ i =>
      simp only [List.getElem?_cons_succ] at h
      rw [List.getElem?_append_right (by show 5 ≤ _; omega), show (i + 1) * 5 + j - y.cells.length = i * 5 + j by show (i + 1) * 5 + j - 5 = _; omega]
      exact ih i h
theorem cells_one (h : Hm) : ∀ u ∈ h.cells, u.oneCell' = true := by
  intro u hu
  simp only [Hm.cells, List.mem_cons, List.not_mem_nil, or_false] at hu
  rcases hu with rfl | rfl | rfl | rfl | rfl <;> rfl
/-- Matchers in memory of the call's own. -/
def OwnM (w : World) (base : Nat) (a : Option Addr) (n cap : Nat) (l : List Hm) : Prop := w.ownsRow base 26 5 (.slice a n cap) n (flatM l)
theorem ownM_nil (w : World) (base : Nat) : OwnM w base none 0 0 [] := World.ownsRow_nil _ _ _ _
section
variable {w w' : World} {base n cap : Nat} {a : Option Addr} {l : List Hm}
theorem OwnM.len (h : OwnM w base a n cap l) : l.length = n := by
  have := h.1
  rw [flatM_len] at this
  omega
theorem OwnM.capped (h : OwnM w base a n cap l) : n ≤ cap ∧ (a = none → n = 0 ∧ cap = 0) := by
  unfold OwnM at h
  rcases h.2 with ⟨h1, h2⟩ | ⟨g, c, cur, h1, _, _, h4, _⟩
  · simp only [Value.slice.injEq] at h1
    exact ⟨by omega, fun _ => ⟨by omega, by omega⟩⟩
  · simp only [Value.slice.injEq, true_and] at h1
    obtain ⟨rfl, rfl⟩ := h1
    exact ⟨h4, fun h => by simp at h⟩
theorem OwnM.ch {S : Nat → Prop} (h : OwnM w base a n cap l) (c : Ch S w w') (hn : ∀ g, (Value.slice a n cap).ownBlock = some g → ¬ S g) : OwnM w' base a n cap l := row_ch h c hn
theorem OwnM.below {B : Nat} (h : OwnM w base a n cap l) (hb : Below B w w') (hB : w.heap.size ≤ B) : OwnM w' base a n cap l := h.ch (Ch.of_below (hb.mono hB)) (fun _ _ => id)
theorem OwnM.alloc (h : OwnM w base a n cap l) (o : Obj) : OwnM (w.alloc o) base a n cap l := h.below ((Below.refl _ _).alloc (Nat.le_refl _) _) (Nat.le_refl _)
theorem OwnM.block (h : OwnM w base a n cap l) : ∀ g, (Value.slice a n cap).ownBlock = some g → base ≤ g ∧ g < w.heap.size := fun _ hg => ⟨(row_cells h hg).2, (row_cells h hg).1.lt⟩
/-- One of its matchers. -/
theorem OwnM.kid (h : OwnM w base a n cap l) {i : Nat} {x : Hm} (hi : l[i]? = some x) : ∃ g, a = some ⟨g, 0, none⟩ ∧ (Value.slice a n cap).ownBlock = some g ∧ five w g (0 + i * 5) x := by
  have hl := h.len
  have hlt : i < l.length := (List.getElem?_eq_some_iff.1 hi).1
  unfold OwnM at h
  rcases id h.2 with ⟨h1, h2⟩ | ⟨g, c, cur, h1, _⟩
  · omega
  · simp only [Value.slice.injEq, true_and] at h1
    obtain ⟨rfl, rfl⟩ := h1
    refine ⟨g, rfl, rfl, fun j v hv => ?_⟩
    have hj : j < 5 := (List.getElem?_eq_some_iff.1 hv).1
    rw [Nat.zero_add, World.ownsRow.cellAt h (i * 5 + j) (by omega)]
    exact flatM_get l i x hi j v hv
end
/-- One matcher behind a row of the call's own: where the longer row lies. -/
theorem wpList_pushM {P : Program} (w : World) {ops : Array Oper} {rest : List Oper} {o : Oper} {a : Act} {Q : Exit → Act → World → Prop} (hgd : o.guard = none) (s x : Operand) (t : TypeId)
    (ho : o.op = .call { callee := .builtin .append, args := #[s, x], argTypes := #[t, t] })
    (base : Nat) (i : TypeInfo) (ht : P.underlying t = some (.slice 26)) (hi : P.info? 26 = some i) (hz : i.zero = some (.agg #[.int .i64 0, .string .empty, .string .empty, .slice none 0 0, .slice none 0 0])) (hsize : i.size = 5) (hby : i.bytes = 88)
    (ao : Option Addr) (n cap : Nat) (l : List Hm) (hs : a.eval s = .slice ao n cap) (hown : OwnM w base ao n cap l)
    (ad : Addr) (c : Nat) (h' : Hm) (hx : a.eval x = .slice (some ad) 1 c) (hc : ∀ j u, h'.cells[j]? = some u → w.cell? (ad.add j) = some u)
    (hbytes : (n + 1) * 88 ≤ 140737488355328) (hbase : base ≤ w.heap.size)
    (h : ∀ g' cap' w', OwnM w' base (some ⟨g', 0, none⟩) (n + 1) cap' (l ++ [h']) → Ch (fun k => (Value.slice ao n cap).ownBlock = some k) w w' → Below base w w' → ((Value.slice ao n cap).ownBlock = some g' ∨ w.heap.size ≤ g') → wpList P ops Q rest (a.put o.dst (.slice (some ⟨g', 0, none⟩) (n + 1) cap')) w') : wpList P ops Q (o :: rest) a w := by
  have hlen : (flatM l).length = n * 5 := hown.1
  have hfl : flatM l ++ h'.cells = flatM (l ++ [h']) := by rw [flatM_append]; simp [flatM]
  have hcl : h'.cells.length = 1 * 5 := rfl
  have form : ∀ {w' : World} {b : Nat} {v' : Value}, w'.ownsRow b 26 5 v' (n + 1) (flatM l ++ h'.cells) → ∃ g' cap', v' = .slice (some ⟨g', 0, none⟩) (n + 1) cap' ∧ b ≤ g' := by
    intro w' b v' q
    rcases q.2 with ⟨_, h2⟩ | ⟨g, c', cur, h1, h2, _⟩
    · omega
    · exact ⟨g, c', h1, h2⟩
  have grow : cap < n + 1 → (ao = none → n = 0 ∧ cap = 0) → (∀ b, ao = some b → ∀ j u', (flatM l)[j]? = some u' → w.cell? (b.add j) = some u') → wpList P ops Q (o :: rest) a w := by
    intro hf hnone hcells
    refine wpList_append_grows w hgd s x t ho 26 i (.agg #[.int .i64 0, .string .empty, .string .empty, .slice none 0 0, .slice none 0 0]) 5 88 ht hi hz hsize hby rfl (by decide) ao n cap (flatM l) hs hnone hlen hcells ad 1 c h'.cells hx hcl hc (cells_one h') hf (by unfold maxLen; omega) hbytes ?_
    intro v' w' h2 h3
    obtain ⟨g', cap', rfl, hg⟩ := form h2
    have h4 : OwnM w' base (some ⟨g', 0, none⟩) (n + 1) cap' (l ++ [h']) := by
      unfold OwnM
      rw [← hfl]
      refine ⟨h2.1, ?_⟩
      rcases h2.2 with h5 | ⟨g, c', cur, h5, h6, h7⟩
      · exact .inl h5
      · exact .inr ⟨g, c', cur, h5, by omega, h7⟩
    have h5 : w.grownBy w' (Value.slice ao n cap).ownBlock := ⟨h3.os, h3.tape, h3.output, h3.size, fun k hk _ => h3.block k hk (by simp)⟩
    exact h g' cap' w' h4 (Ch.grown h5) ((Below.refl _ _).grown h5 hbase (fun g hg => (hown.block g hg).1)) (Or.inr hg)
  rcases id hown.2 with ⟨h2, h3⟩ | ⟨g, c', cur, h2, h3, h4, h5, _⟩
  · simp only [Value.slice.injEq] at h2
    obtain ⟨rfl, rfl, rfl⟩ := h2
    exact grow (by omega) (fun _ => ⟨rfl, rfl⟩) (fun b hb => by simp at hb)
  · simp only [Value.slice.injEq, true_and] at h2
    obtain ⟨rfl, rfl⟩ := h2
    by_cases hroom : n + 1 ≤ cap
    · refine wpList_append_fits w hgd s x t ho base 26 i 5 ht hi hsize g n cap (flatM l) hs hown ad 1 c h'.cells hx hcl hc (cells_one h') hroom ?_
      intro w' h6 h7
      rw [hfl] at h6
      exact h g cap w' h6 (Ch.grown h7) ((Below.refl _ _).grown h7 hbase (fun g hg => (hown.block g hg).1)) (Or.inl rfl)
    · exact grow (by omega) (fun hb => by simp at hb) (fun b hb => by simp at hb; subst hb; exact World.ownsRow.cells (g := g) hown rfl)
/-- Texts copied behind none. -/
theorem wpList_copy_texts {P : Program} (w : World) {ops : Array Oper} {rest : List Oper} {o : Oper} {a : Act} {Q : Exit → Act → World → Prop} (hgd : o.guard = none) (s x : Operand) (t : TypeId)
    (ho : o.op = .call { callee := .builtin .append, args := #[s, x], argTypes := #[t, t] })
    (i : TypeInfo) (ht : P.underlying t = some (.slice 9)) (hi : P.info? 9 = some i) (hz : i.zero = some (.string .empty)) (hsize : i.size = 1) (hby : i.bytes = 16)
    (hs : a.eval s = .slice none 0 0) (S : Nat → Prop) (bo : Option Addr) (m c : Nat) (ss : List ByteArray) (hx : a.eval x = .slice bo m c) (hrow : TxR S w bo m ss) (hbo : bo = none → c = 0)
    (h : ∀ a' cap' w', TxR (fun k => w.heap.size ≤ k) w' a' m ss → m ≤ cap' → (a' = none → cap' = 0) → Below w.heap.size w w' → wpList P ops Q rest (a.put o.dst (.slice a' m cap')) w') : wpList P ops Q (o :: rest) a w := by
  obtain ⟨h1, h2, h3, h4⟩ := hrow
  have key : ∀ ad, bo = some ad → wpList P ops Q (o :: rest) a w := by
    rintro ad rfl
    refine wpList_append_own w hgd s x t ho w.heap.size 9 i (.string .empty) 1 16 ht hi hz hsize hby rfl (by decide) _ 0 [] hs (World.ownsRow_nil _ _ _ _) ad m c (ss.map Value.string) hx (by simp [h1]) ?_ (texts_oneCell ss) (by unfold maxLen; omega) (by omega) (Nat.le_refl _) ?_
    · intro j u hj
      rw [List.getElem?_map] at hj
      by_cases hl : j < ss.length
      · rw [List.getElem?_eq_getElem hl] at hj
        rcases h4 with h4 | ⟨b, off, he, _, hcell⟩
        · omega
        · simp only [Option.some.injEq] at he
          subst he
          rw [Addr.add_lit, hcell j (by omega), List.getD_eq_getElem?_getD, List.getElem?_eq_getElem hl]
          simpa using hj
      · rw [List.getElem?_eq_none (by omega)] at hj
        simp at hj
    · intro v' w' q1 q2 _
      rw [Nat.zero_add, List.nil_append] at q1
      have hb : Below w.heap.size w w' := (Below.refl _ _).grown q2 (Nat.le_refl _) (fun g hg => by simp [Value.ownBlock] at hg)
      rcases id q1.2 with ⟨rfl, hm⟩ | ⟨g, cap', cur, rfl, hg, _, hcp, _⟩
      · subst hm
        exact h none 0 w' ⟨h1, h2, h3, Or.inl rfl⟩ (Nat.le_refl _) (fun _ => rfl) hb
      · refine h _ cap' w' ⟨h1, h2, h3, ?_⟩ hcp (fun e => by simp at e) hb
        by_cases h0 : m = 0
        · exact Or.inl h0
        · right
          refine ⟨g, 0, rfl, hg, fun j hj => ?_⟩
          rw [Nat.zero_add, World.ownsRow.cellAt q1 j (by omega), List.getElem?_map, List.getD_eq_getElem?_getD, List.getElem?_eq_getElem (by omega)]
          rfl
  cases bo with
  | some ad => exact key ad rfl
  | none =>
    have hm : m = 0 := by
      rcases h4 with h4 | ⟨b, off, he, _⟩
      · exact h4
      · simp at he
    subst hm
    obtain rfl := hbo rfl
    refine wpList_append_own_none hgd s x t ho w.heap.size 9 i 1 ht hi _ 0 [] hs (World.ownsRow_nil _ _ _ _) hx ?_
    exact h none 0 w ⟨h1, h2, h3, Or.inl rfl⟩ (Nat.le_refl _) (fun _ => rfl) (Below.refl _ _)
end Go.Proofs.YtpffhpnmbpjifaaGreat
