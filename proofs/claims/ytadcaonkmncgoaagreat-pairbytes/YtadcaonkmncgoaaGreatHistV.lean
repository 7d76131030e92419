/-
  The document's own answer of layer 7 (the laws' reference): two lists of buckets as one: a contract, for every world.
  Conditions: the slices show their buckets; there is room for both.
-/
import Derived.Test.YtadcaonkmncgoaaGreatHistS
import Derived.Test.YtadcaonkmncgoaaGreatVintR
import Derived.Deep.DeepCutAuto
namespace Go.Proofs.YtadcaonkmncgoaaGreat
open Go.RowKit
set_option maxRecDepth 20000

/-- Buckets behind a list of the call's own: the operation alone. -/
theorem wp_append_bks {P : Program} (w : World) {o : Oper} {a : Act} {K : Act → World → Prop} {Q : Exit → Act → World → Prop} (s x : Operand) (t : TypeId)
    (ho : o.op = .call { callee := .builtin .append, args := #[s, x], argTypes := #[t, t] })
    (base : Nat) (i : TypeInfo) (ht : P.underlying t = some (.slice 63)) (hi : P.info? 63 = some i) (hz : i.zero = some (.agg #[.int .i64 0, .int .u64 0])) (hsize : i.size = 2) (hby : i.bytes = 16)
    (ao : Option Addr) (n cap : Nat) (l : Bks) (hs : a.eval s = .slice ao n cap) (hown : OwnB w base ao n cap l)
    (ad : Addr) (m c : Nat) (news : Bks) (hx : a.eval x = .slice (some ad) m c) (hm : news.length = m) (hc : ∀ j u, (flatB news)[j]? = some u → w.cell? (ad.add j) = some u)
    (hbytes : (n + m) * 16 ≤ 140737488355328) (hbase : base ≤ w.heap.size)
    (h : ∀ a' cap' w', OwnB w' base a' (n + m) cap' (l ++ news) → Below base w w' → K (a.put o.dst (.slice a' (n + m) cap')) w') : o.wp P a w K Q := by
  refine wp_append_own w s x t ho base 63 i (.agg #[.int .i64 0, .int .u64 0]) 2 16 ht hi hz hsize hby rfl (by decide) _ n (flatB l) hs hown ad m c (flatB news) hx (by rw [flatB_len, hm]) hc (flatB_one news) (by unfold maxLen; omega) hbytes hbase ?_
  intro v' w' h1 h2 _
  rw [← flatB_append] at h1
  obtain ⟨a', cap', rfl, h3⟩ := ownB_form h1
  exact h a' cap' w' h3 ((Below.refl _ _).grown h2 hbase hown.block)

theorem mrg_left {l r : Bks} {p q : Nat} (hp : p < l.length) (h : q < r.length → (l.getD p (0, 0)).1 < (r.getD q (0, 0)).1) : mrg (l.drop p) (r.drop q) = l.getD p (0, 0) :: mrg (l.drop (p + 1)) (r.drop q) := by
  rw [drop_bks hp]
  by_cases hq : q < r.length
  · have h4 := h hq
    rw [drop_bks hq]
    generalize l.getD p (0, 0) = xa at *
    generalize r.getD q (0, 0) = xb at *
    obtain ⟨x, c⟩ := xa
    obtain ⟨y, d⟩ := xb
    rw [mrg_cons, if_pos h4]
  · rw [List.drop_of_length_le (l := r) (by omega), mrg_nil, mrg_nil]
theorem mrg_right {l r : Bks} {p q : Nat} (hq : q < r.length) (h : p < l.length → (r.getD q (0, 0)).1 < (l.getD p (0, 0)).1) : mrg (l.drop p) (r.drop q) = r.getD q (0, 0) :: mrg (l.drop p) (r.drop (q + 1)) := by
  rw [drop_bks hq]
  by_cases hp : p < l.length
  · have h4 := h hp
    rw [drop_bks hp]
    generalize l.getD p (0, 0) = xa at *
    generalize r.getD q (0, 0) = xb at *
    obtain ⟨x, c⟩ := xa
    obtain ⟨y, d⟩ := xb
    simp only at h4
    rw [mrg_cons, if_neg (by omega), if_pos h4]
  · rw [List.drop_of_length_le (l := l) (by omega), nil_mrg, nil_mrg]
theorem mrg_both {l r : Bks} {p q : Nat} (hp : p < l.length) (hq : q < r.length) (h : (l.getD p (0, 0)).1 = (r.getD q (0, 0)).1) : mrg (l.drop p) (r.drop q) = ((l.getD p (0, 0)).1, satS (l.getD p (0, 0)).2 (r.getD q (0, 0)).2) :: mrg (l.drop (p + 1)) (r.drop (q + 1)) := by
  rw [drop_bks hp, drop_bks hq]
  generalize l.getD p (0, 0) = xa at *
  generalize r.getD q (0, 0) = xb at *
  obtain ⟨x, c⟩ := xa
  obtain ⟨y, d⟩ := xb
  simp only at h
  rw [mrg_cons, if_neg (by omega), if_neg (by omega)]

end Go.Proofs.YtadcaonkmncgoaaGreat
