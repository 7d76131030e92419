/-
  Observations in memory: as cells, in memory of the call's own, one row put behind another, a row cut.
  Conditions: the observations lie in memory; there is room for a copy.
-/
import Derived.Test.YtadcaonkmncgoaaPairO
import Derived.Laws.AppendOwnNone
namespace Go.Proofs.Ytadcaonkmncgoaa
open Go.RowKit
set_option maxRecDepth 20000

theorem keep1 {w v v' : World} {k0 : Nat} {h0 : Hd} {s0 : Sp} (hb : Below v.heap.size v v')
    (q : ((World.cell? v ⟨k0, 0, none⟩ = some (.slice (Hd.a h0) (Hd.n h0) (Hd.c h0))) ∧ (World.cell? v ⟨k0, 1, none⟩ = some (.slice (Hd.k h0) (Hd.m h0) (Hd.d h0))) ∧ (World.cell? v ⟨k0, 2, none⟩ = some (.int .u64 (Gz.n s0.g))) ∧ (World.cell? v ⟨k0, 3, none⟩ = some (.int .u64 (Gz.nans s0.g))) ∧ (World.cell? v ⟨k0, 4, none⟩ = some (.int .u64 (Gz.lo s0.g))) ∧ (World.cell? v ⟨k0, 5, none⟩ = some (.int .u64 (Gz.hi s0.g)))) ∧ Hid (Pool w v [(k0, h0, s0)])) :
    ((World.cell? v' ⟨k0, 0, none⟩ = some (.slice (Hd.a h0) (Hd.n h0) (Hd.c h0))) ∧ (World.cell? v' ⟨k0, 1, none⟩ = some (.slice (Hd.k h0) (Hd.m h0) (Hd.d h0))) ∧ (World.cell? v' ⟨k0, 2, none⟩ = some (.int .u64 (Gz.n s0.g))) ∧ (World.cell? v' ⟨k0, 3, none⟩ = some (.int .u64 (Gz.nans s0.g))) ∧ (World.cell? v' ⟨k0, 4, none⟩ = some (.int .u64 (Gz.lo s0.g))) ∧ (World.cell? v' ⟨k0, 5, none⟩ = some (.int .u64 (Gz.hi s0.g)))) ∧ Hid (Pool w v' [(k0, h0, s0)]) := by
  have p := q.2.out.below hb
  exact ⟨p.at 0 rfl, p⟩

theorem Try.infoO : (Try.prog.info? 46).map (fun i => (i.zero, i.size, i.bytes)) = some (some (.agg #[.int .u64 0, .string .empty, .int .u64 0]), 3, 32) := by kernel_rfl
def flatO (l : List Ob) : List Value := l.flatMap fun x => [.int .u64 x.v, .string x.t, .int .u64 x.b]
theorem flatO_cons (x : Ob) (l : List Ob) : flatO (x :: l) = [.int .u64 x.v, .string x.t, .int .u64 x.b] ++ flatO l := by simp [flatO]
theorem flatO_append (l m : List Ob) : flatO (l ++ m) = flatO l ++ flatO m := by simp [flatO]
theorem flatO_len (l : List Ob) : (flatO l).length = l.length * 3 := by
  induction l with
  | nil => rfl
  | cons x t ih => rw [flatO_cons, List.length_append, ih]; simp only [List.length_cons, List.length_nil]; omega
theorem flatO_get (l : List Ob) (i : Nat) (h : i < l.length) : (flatO l)[i * 3]? = some (.int .u64 (l.getD i ob0).v) ∧ (flatO l)[i * 3 + 1]? = some (.string (l.getD i ob0).t) ∧ (flatO l)[i * 3 + 2]? = some (.int .u64 (l.getD i ob0).b) := by
  induction l generalizing i with
  | nil => simp at h
  | cons x t ih =>
    rw [flatO_cons]
    cases i with
    | zero => simp
    | succ i =>
      simp only [List.length_cons] at h
      obtain ⟨h1, h2, h3⟩ := ih i (by omega)
      rw [List.getElem?_append_right (by simp; omega), List.getElem?_append_right (by simp; omega), List.getElem?_append_right (by simp; omega), List.getD_cons_succ]
      simp only [List.length_cons, List.length_nil]
      rw [show (i + 1) * 3 - (0 + 1 + 1 + 1) = i * 3 by omega, show (i + 1) * 3 + 1 - (0 + 1 + 1 + 1) = i * 3 + 1 by omega, show (i + 1) * 3 + 2 - (0 + 1 + 1 + 1) = i * 3 + 2 by omega]
      exact ⟨h1, h2, h3⟩
theorem flatO_one (l : List Ob) : ∀ u ∈ flatO l, u.oneCell' = true := by
  intro u hu
  obtain ⟨x, _, hx⟩ := List.mem_flatMap.1 hu
  simp at hx
  rcases hx with rfl | rfl | rfl <;> rfl
theorem RowO.cells {w : World} {ad : Addr} {n : Nat} {l : List Ob} (h : RowO w (some ad) n l) (j : Nat) (u : Value) (hj : (flatO l)[j]? = some u) : w.cell? (ad.add j) = some u := by
  have hlt : j < (flatO l).length := (List.getElem?_eq_some_iff.1 hj).1
  rw [flatO_len] at hlt
  obtain ⟨h1, _, _, h0 | ⟨b, off, he, hcell⟩⟩ := h
  · omega
  · simp only [Option.some.injEq] at he
    subst he
    rw [Addr.add_lit]
    obtain ⟨g1, g2, g3⟩ := flatO_get l (j / 3) (by omega)
    obtain ⟨c1, c2, c3⟩ := hcell (j / 3) (by omega)
    have e : j % 3 = 0 ∨ j % 3 = 1 ∨ j % 3 = 2 := by omega
    rcases e with e | e | e
    · rw [show j / 3 * 3 = j by omega] at g1 c1
      rw [c1, ← g1, hj]
    · rw [show j / 3 * 3 + 1 = j by omega] at g2
      rw [show off + j / 3 * 3 + 1 = off + j by omega] at c2
      rw [c2, ← g2, hj]
    · rw [show j / 3 * 3 + 2 = j by omega] at g3
      rw [show off + j / 3 * 3 + 2 = off + j by omega] at c3
      rw [c3, ← g3, hj]

/-- Observations in memory of the call's own. -/
def OwnO (w : World) (base : Nat) (a : Option Addr) (n cap : Nat) (l : List Ob) : Prop := w.ownsRow base 46 3 (.slice a n cap) n (flatO l)
theorem ownO_nil (w : World) (base : Nat) : OwnO w base none 0 0 [] := World.ownsRow_nil _ _ _ _
theorem ownO_form {w : World} {base n : Nat} {v : Value} {l : List Ob} (h : w.ownsRow base 46 3 v n (flatO l)) : ∃ a cap, v = .slice a n cap ∧ OwnO w base a n cap l := by
  have h0 := h
  rcases h.2 with ⟨rfl, rfl⟩ | ⟨g, cap, cur, rfl, _⟩
  · exact ⟨none, 0, rfl, h0⟩
  · exact ⟨_, _, rfl, h0⟩
theorem OwnO.len {w : World} {base n cap : Nat} {a : Option Addr} {l : List Ob} (h : OwnO w base a n cap l) : l.length = n := by
  have := h.1
  rw [flatO_len] at this
  omega
theorem OwnO.capped {w : World} {base n cap : Nat} {a : Option Addr} {l : List Ob} (h : OwnO w base a n cap l) : n ≤ cap ∧ (a = none → n = 0 ∧ cap = 0) := by
  unfold OwnO at h
  rcases h.2 with ⟨h1, h2⟩ | ⟨g, c, cur, h1, _, _, h4, _⟩
  · simp only [Value.slice.injEq] at h1
    exact ⟨by omega, fun _ => ⟨by omega, by omega⟩⟩
  · simp only [Value.slice.injEq, true_and] at h1
    obtain ⟨rfl, rfl⟩ := h1
    exact ⟨h4, fun h => by simp at h⟩
theorem OwnO.row {w : World} {base n cap : Nat} {a : Option Addr} {l : List Ob} (h : OwnO w base a n cap l) (hn : n * 32 ≤ 140737488355328) (hf : ∀ o ∈ l, ObW o) : RowO w a n l := by
  have hl := h.len
  refine ⟨hl, hn, hf, ?_⟩
  unfold OwnO at h
  rcases id h.2 with ⟨h1, h2⟩ | ⟨g, c, cur, h1, _⟩
  · exact Or.inl h2
  · right
    simp only [Value.slice.injEq, true_and] at h1
    obtain ⟨rfl, rfl⟩ := h1
    refine ⟨g, 0, rfl, fun i hi => ?_⟩
    obtain ⟨g1, g2, g3⟩ := flatO_get l i (by omega)
    rw [Nat.zero_add, h.cellAt (i * 3) (by omega), h.cellAt (i * 3 + 1) (by omega), h.cellAt (i * 3 + 2) (by omega)]
    exact ⟨g1, g2, g3⟩
theorem OwnO.ch {S : Nat → Prop} {w w' : World} {base n cap : Nat} {a : Option Addr} {l : List Ob} (h : OwnO w base a n cap l) (c : Ch S w w') (hn : ∀ g, (Value.slice a n cap).ownBlock = some g → ¬ S g) : OwnO w' base a n cap l := row_ch h c hn
theorem OwnO.below {B : Nat} {w w' : World} {base n cap : Nat} {a : Option Addr} {l : List Ob} (h : OwnO w base a n cap l) (hb : Below B w w') (hB : w.heap.size ≤ B) : OwnO w' base a n cap l := h.ch (Ch.of_below (hb.mono hB)) (fun _ _ => id)
theorem OwnO.block {w : World} {base n cap : Nat} {a : Option Addr} {l : List Ob} (h : OwnO w base a n cap l) : ∀ g, (Value.slice a n cap).ownBlock = some g → base ≤ g := fun _ hg => (row_cells h hg).2

/-- Observations, of none too, behind a row of the call's own. -/
theorem wpList_append_obs {P : Program} (w : World) {ops : Array Oper} {rest : List Oper} {o : Oper} {a : Act} {Q : Exit → Act → World → Prop} (hgd : o.guard = none) (s x : Operand) (t : TypeId)
    (ho : o.op = .call { callee := .builtin .append, args := #[s, x], argTypes := #[t, t] })
    (base : Nat) (i : TypeInfo) (ht : P.underlying t = some (.slice 46)) (hi : P.info? 46 = some i) (hz : i.zero = some (.agg #[.int .u64 0, .string .empty, .int .u64 0])) (hsize : i.size = 3) (hby : i.bytes = 32)
    (ao : Option Addr) (n cap : Nat) (l : List Ob) (hs : a.eval s = .slice ao n cap) (hown : OwnO w base ao n cap l)
    (bo : Option Addr) (m c : Nat) (news : List Ob) (hx : a.eval x = .slice bo m c) (hrow : RowO w bo m news) (hbo : bo = none → c = 0)
    (hbytes : (n + m) * 32 ≤ 140737488355328) (hbase : base ≤ w.heap.size)
    (h : ∀ a' cap' w', OwnO w' base a' (n + m) cap' (l ++ news) → Below base w w' → wpList P ops Q rest (a.put o.dst (.slice a' (n + m) cap')) w') : wpList P ops Q (o :: rest) a w := by
  cases bo with
  | none =>
    have h0 : m = 0 := by
      obtain ⟨_, _, _, h | ⟨_, _, e, _⟩⟩ := hrow
      · exact h
      · simp at e
    subst h0
    obtain rfl := hbo rfl
    have hz : news = [] := List.length_eq_zero_iff.1 hrow.1
    subst hz
    refine wpList_append_own_none hgd s x t ho base 46 i 3 ht hi _ n (flatO l) hs hown hx ?_
    have := h ao cap w (by rw [List.append_nil]; exact hown) (Below.refl _ _)
    exact this
  | some ad =>
    refine wpList_append_own w hgd s x t ho base 46 i (.agg #[.int .u64 0, .string .empty, .int .u64 0]) 3 32 ht hi hz hsize hby rfl (by decide) _ n (flatO l) hs hown ad m c (flatO news) hx (by rw [flatO_len, hrow.1]) hrow.cells (flatO_one news) (by unfold maxLen; omega) hbytes hbase ?_
    intro v' w' h1 h2 _
    rw [← flatO_append] at h1
    obtain ⟨a', cap', rfl, h3⟩ := ownO_form h1
    exact h a' cap' w' h3 ((Below.refl _ _).grown h2 hbase hown.block)

/-- The same, for an operation of a region that draws its order. -/
theorem wp_append_obs {P : Program} {w : World} {o : Oper} {a : Act} {K : Act → World → Prop} {Q : Exit → Act → World → Prop} (s x : Operand) (t : TypeId)
    (ho : o.op = .call { callee := .builtin .append, args := #[s, x], argTypes := #[t, t] })
    (base : Nat) (i : TypeInfo) (ht : P.underlying t = some (.slice 46)) (hi : P.info? 46 = some i) (hz : i.zero = some (.agg #[.int .u64 0, .string .empty, .int .u64 0])) (hsize : i.size = 3) (hby : i.bytes = 32)
    (ao : Option Addr) (n cap : Nat) (l : List Ob) (hs : a.eval s = .slice ao n cap) (hown : OwnO w base ao n cap l)
    (bo : Option Addr) (m c : Nat) (news : List Ob) (hx : a.eval x = .slice bo m c) (hrow : RowO w bo m news) (hbo : bo = none → c = 0)
    (hbytes : (n + m) * 32 ≤ 140737488355328) (hbase : base ≤ w.heap.size)
    (h : ∀ a' cap' w', OwnO w' base a' (n + m) cap' (l ++ news) → Below base w w' → K (a.put o.dst (.slice a' (n + m) cap')) w') : o.wp P a w K Q := by
  cases bo with
  | none =>
    have h0 : m = 0 := by
      obtain ⟨_, _, _, h | ⟨_, _, e, _⟩⟩ := hrow
      · exact h
      · simp at e
    subst h0
    obtain rfl := hbo rfl
    have hz : news = [] := List.length_eq_zero_iff.1 hrow.1
    subst hz
    have hrun := run_append_owned_none (P := P) (w := w) base t o.type 46 i 3 ht hi _ n (flatO l) hown
    unfold Oper.wp
    simp [execOp, ho, resolve, invoke, builtin, hs, hx, hrun, Result.andThen]
    have := h ao cap w (by rw [List.append_nil]; exact hown) (Below.refl _ _)
    exact this
  | some ad =>
    refine wp_append_own w s x t ho base 46 i (.agg #[.int .u64 0, .string .empty, .int .u64 0]) 3 32 ht hi hz hsize hby rfl (by decide) _ n (flatO l) hs hown ad m c (flatO news) hx (by rw [flatO_len, hrow.1]) hrow.cells (flatO_one news) (by unfold maxLen; omega) hbytes hbase ?_
    intro v' w' h1 h2 _
    rw [← flatO_append] at h1
    obtain ⟨a', cap', rfl, h3⟩ := ownO_form h1
    exact h a' cap' w' h3 ((Below.refl _ _).grown h2 hbase hown.block)

/-- Behind none. -/
theorem wp_append_obs0 {P : Program} {w : World} {o : Oper} {a : Act} {K : Act → World → Prop} {Q : Exit → Act → World → Prop} (s x : Operand) (t : TypeId)
    (ho : o.op = .call { callee := .builtin .append, args := #[s, x], argTypes := #[t, t] })
    (base : Nat) (i : TypeInfo) (ht : P.underlying t = some (.slice 46)) (hi : P.info? 46 = some i) (hz : i.zero = some (.agg #[.int .u64 0, .string .empty, .int .u64 0])) (hsize : i.size = 3) (hby : i.bytes = 32)
    (hs : a.eval s = .slice none 0 0)
    (bo : Option Addr) (m c : Nat) (news : List Ob) (hx : a.eval x = .slice bo m c) (hrow : RowO w bo m news) (hbo : bo = none → c = 0)
    (hbytes : m * 32 ≤ 140737488355328) (hbase : base ≤ w.heap.size)
    (h : ∀ a' cap' w', OwnO w' base a' m cap' news → Below base w w' → K (a.put o.dst (.slice a' m cap')) w') : o.wp P a w K Q := by
  refine wp_append_obs s x t ho base i ht hi hz hsize hby none 0 0 [] hs (ownO_nil _ _) bo m c news hx hrow hbo (by omega) hbase ?_
  intro a' c' w' o' b'
  rw [Nat.zero_add, List.nil_append] at o'
  rw [Nat.zero_add]
  exact h a' c' w' o' b'

theorem slice_toO (a : Option Addr) (n cap k : Nat) (hk : k ≤ cap) (w : World) :
    (Instr.slice 22 (.slice a n cap) none (some (.int .i64 (k : Int))) none).run Try.prog w = .ok (.slice a k cap) w := by
  rw [run_slice_h (P := Try.prog) w 22 a n cap Try.underlying22 .i64 (k : Int) (by omega) (by omega)]
  have hs : (sizeOf (Try.prog.elem 22)).run Try.prog w = .ok 3 w := by kernel_rfl
  rw [hs]
  simp only [Result.andThen, sliced, Int.toNat_natCast, Nat.zero_mul, Nat.sub_zero]
  cases a with
  | none => simp
  | some x => simp [Addr.add]
theorem slice_fromO (a : Option Addr) (n cap k : Nat) (hk : k ≤ n) (w : World) :
    (Instr.slice 22 (.slice a n cap) (some (.int .i64 (k : Int))) none none).run Try.prog w = .ok (.slice (if cap = k then a else a.map (·.add (k * 3))) (n - k) (cap - k)) w := by
  rw [run_slice_l (P := Try.prog) w 22 a n cap Try.underlying22 .i64 (k : Int) (by omega) (by omega)]
  have hs : (sizeOf (Try.prog.elem 22)).run Try.prog w = .ok 3 w := by kernel_rfl
  rw [hs]
  simp only [Result.andThen, sliced, Int.toNat_natCast]
theorem RowO.to {w : World} {a : Option Addr} {n : Nat} {l : List Ob} (h : RowO w a n l) (m : Nat) (hk : m ≤ n) : RowO w a m (l.take m) := by
  obtain ⟨h1, h2, h3, h4⟩ := h
  refine ⟨by rw [List.length_take]; omega, by omega, fun z hz => h3 z (List.mem_of_mem_take hz), ?_⟩
  rcases h4 with h4 | ⟨b, off, rfl, hc⟩
  · exact Or.inl (by omega)
  · refine Or.inr ⟨b, off, rfl, fun i hi => ?_⟩
    have e : (l.take m).getD i ob0 = l.getD i ob0 := by simp [hi]
    rw [e]
    exact hc i (by omega)
theorem RowO.from {w : World} {a : Option Addr} {n cap : Nat} {l : List Ob} (h : RowO w a n l) (m : Nat) (hk : m ≤ n) (hc : n ≤ cap) : RowO w (if cap = m then a else a.map (·.add (m * 3))) (n - m) (l.drop m) := by
  obtain ⟨h1, h2, h3, h4⟩ := h
  refine ⟨by rw [List.length_drop]; omega, by omega, fun z hz => h3 z (List.mem_of_mem_drop hz), ?_⟩
  by_cases e : m = n
  · exact Or.inl (by omega)
  rcases h4 with h4 | ⟨b, off, rfl, hcell⟩
  · exact Or.inl (by omega)
  · refine Or.inr ⟨b, off + m * 3, ?_, fun i hi => ?_⟩
    · rw [if_neg (by omega)]
      simp [Addr.add_lit]
    · have e2 : (l.drop m).getD i ob0 = l.getD (m + i) ob0 := by simp
      rw [e2, show off + m * 3 + i * 3 = off + (m + i) * 3 by omega]
      exact hcell (m + i) (by omega)
theorem from_nil {a : Option Addr} {n cap m : Nat} (h : a = none → n = 0 ∧ cap = 0) (hm : m ≤ n) : (if cap = m then a else a.map (·.add (m * 3))) = none → cap - m = 0 := by
  intro e
  by_cases c : cap = m
  · omega
  · rw [if_neg c] at e
    have : a = none := by simpa using e
    have := h this
    omega
end Go.Proofs.Ytadcaonkmncgoaa
