/-
  The document's own answers of layer 5 (the laws' reference): a frame's bytes; what the laws share: appends of rows, sums of texts, a new reader.
  Conditions: the slices show their bytes; there is room for them.
-/
import Derived.Test.YtbpmmeagpefglaaFrameA
import Derived.Test.YtbpmmeagpefglaaSumW
import Derived.Test.YtbpmmeagpefglaaVintX
import Derived.Test.YtbpmmeagpefglaaVintF
import Derived.Laws.AppendOwnNone
import Derived.Laws.Concat
namespace Go.Proofs.Ytbpmmeagpefglaa
open Go.RowKit

/-- The append of a row's bytes, of none too, behind bytes of the call's own. -/
theorem wpList_append_row {P : Program} (w : World) {ops : Array Oper} {rest : List Oper} {o : Oper} {a : Act} {Q : Exit → Act → World → Prop} (hgd : o.guard = none) (s x : Operand) (t : TypeId)
    (ho : o.op = .call { callee := .builtin .append, args := #[s, x], argTypes := #[t, t] })
    (base : Nat) (e : TypeId) (i : TypeInfo) (ht : P.underlying t = some (.slice e)) (hi : P.info? e = some i) (hz : i.zero = some (.int .u8 0)) (hsize : i.size = 1) (hby : i.bytes = 1)
    (ao : Option Addr) (n cap : Nat) (zs : List Int) (hs : a.eval s = .slice ao n cap) (hown : Own e .u8 w base ao n cap zs)
    (bo : Option Addr) (m c : Nat) (news : List Int) (hx : a.eval x = .slice bo m c) (hrow : Row .u8 w bo m news) (hbo : bo = none → c = 0)
    (hbytes : n + m ≤ 140737488355328) (hbase : base ≤ w.heap.size)
    (h : ∀ a' cap' w', Own e .u8 w' base a' (n + m) cap' (zs ++ news) → Below base w w' → wpList P ops Q rest (a.put o.dst (.slice a' (n + m) cap')) w') : wpList P ops Q (o :: rest) a w := by
  cases bo with
  | none =>
    have h0 := hrow.nz rfl
    subst h0
    obtain rfl := hbo rfl
    have hz : news = [] := List.length_eq_zero_iff.1 hrow.1
    subst hz
    refine wpList_append_own_none hgd s x t ho base e i 1 ht hi _ n (zs.map (Value.int .u8)) hs hown hx ?_
    have := h ao cap w (by rw [List.append_nil]; exact hown) (Below.refl _ _)
    exact this
  | some ad =>
    refine wpList_append_own w hgd s x t ho base e i (.int .u8 0) 1 1 ht hi hz hsize hby rfl (by decide) _ n (zs.map (Value.int .u8)) hs hown ad m c (news.map (Value.int .u8)) hx (by simp [hrow.1]) hrow.cells (one_cell .u8 news) (by unfold maxLen; omega) (by omega) hbase ?_
    intro v' w' h1 h2 _
    rw [← List.map_append] at h1
    obtain ⟨a', cap', rfl, h3⟩ := own_form h1
    exact h a' cap' w' h3 ((Below.refl _ _).grown h2 hbase (own_block hown))

theorem rb_new (w : World) (a : Option Addr) (n cap : Nat) (p : Int) : RB (w.alloc (.cells #[.slice a n cap, .int .i64 p, .bool false] 78)) w.heap.size a n cap p false := heap_alloc_new w _

theorem add_str (xs ys : List Int) (h : xs.length + ys.length ≤ 281474976710656) (w : World) :
    (Op.stringOp .add (strOfNums xs) (strOfNums ys)).run Try.prog w = .ok (.string (strOfNums (xs ++ ys))) w := by
  rw [run_string_add_sum (P := Try.prog) w _ _ (by rw [strOfNums_size, strOfNums_size]; omega), strOf_append]

set_option maxHeartbeats 2000000 in
set_option maxRecDepth 100000 in
theorem refframe_any (b : Option Addr) (m capb : Nat) (bs : List Int) (w : World) (hr : Row .u8 w b m bs) (hb : b = none → capb = 0) (hm : m ≤ 1048576) :
    Calls Try.prog 17 #[.slice b m capb] w fun e w' => ∃ a' cap', e = .returned (.slice a' (frameS bs).length cap') ∧ Mine w' w.heap.size a' (frameS bs).length cap' (frameS bs) ∧ Below w.heap.size w w' := by
  obtain ⟨i0, hi, hz0, hz1, hz2⟩ := info_parts Try.info5
  have M := hide (refof_any b m capb bs w hr)
  have P := hide (refput_any (m : Int) w (w64_len (by omega)))
  have HR := hide hr
  have hq := putS_len (m : Int)
  have hw := moreS_word (s := 0) (by decide) hr.bytes
  have HF : Hid (frameS bs = putS (m : Int) ++ (quad (moreS 0 bs) ++ bs)) := by show _ = _; unfold frameS sumB; rw [hr.1]
  have HFL : Hid ((frameS bs).length = (putS (m : Int)).length + 4 + m) := by show _ = _; rw [frameS_len, hr.1, Nat.add_assoc]
  clear hr
  generalize moreS 0 bs = s at *
  generalize putS (m : Int) = p at *
  generalize frameS bs = F at *
  obtain ⟨q, hqq⟩ : ∃ q, p.length = q := ⟨_, rfl⟩
  rw [hqq] at P hq HFL
  clear hqq
  obtain ⟨s0, s1⟩ := hw
  have HQ : Hid (∀ W : World, Row .u8 (W.alloc (.cells #[.int .u8 (s % 256), .int .u8 (s / 256 % 256), .int .u8 (s / 65536 % 256), .int .u8 (s / 16777216)] 5)) (some ⟨W.heap.size, 0, none⟩) 4 (quad s)) := by
    intro W
    have := four_row W s
    unfold four_ at this
    rwa [show s / 16777216 % 256 = s / 16777216 from by omega] at this
  go_enter Try.func17, Try.ntmps17
  go_wp2_with fail
  refine M.out.mono ?_
  rintro e w' ⟨rfl, rfl⟩
  go_wp2_with fail
  refine P.out.mono ?_
  rintro e w1 ⟨a1, c1, rfl, o1, k1⟩
  have O1 := hide o1
  have K1 := hide k1
  have hsz := k1.size
  clear o1 k1 M P
  have HQ1 := hide (HQ.out w1)
  have HS : Hid (Src 5 .u8 (w1.alloc (.cells #[.int .u8 (s % 256), .int .u8 (s / 256 % 256), .int .u8 (s / 65536 % 256), .int .u8 (s / 16777216)] 5)) w'.heap.size a1 q c1 p) := Or.inl (O1.out.alloc _)
  have HBW : Hid (w'.heap.size ≤ (w1.alloc (.cells #[.int .u8 (s % 256), .int .u8 (s / 256 % 256), .int .u8 (s / 65536 % 256), .int .u8 (s / 16777216)] 5)).heap.size) := by show _ ≤ _; simp; omega
  go_wp2_with (at_builtin; refine wpList_append_src _ rfl _ _ 25 rfl w'.heap.size 5 i0 1 Try.underlying25 hi hz0 hz1 hz2 a1 q c1 p rfl HS.out ⟨w1.heap.size, 0, none⟩ 4 4 (quad s) rfl (by omega) HQ1.out (by omega) (by omega) HBW.out ?_)
  intro a2 c2 w2 o2 k2
  have O2 := hide o2
  have K2 : Hid (Below w'.heap.size w' w2) := (K1.out.alloc hsz _).trans k2
  have RB2 := hide (HR.out.below K2.out (Nat.le_refl _))
  have hsz2 := K2.out.size
  clear o2 k2 O1 K1 HR HS HBW HQ1 HQ
  go_wp2_with (at_builtin; refine wpList_append_row _ rfl _ _ 25 rfl w'.heap.size 5 i0 Try.underlying25 hi hz0 hz1 hz2 a2 (q + 4) c2 (p ++ quad s) rfl O2.out b m capb bs rfl RB2.out hb (by omega) hsz2 ?_)
  intro a3 c3 w3 o3 k3
  rw [← HF.out, ← HFL.out] at o3
  have O3 := hide o3
  have K3 : Hid (Below w'.heap.size w' w3) := K2.out.trans k3
  rw [← HFL.out]
  clear o3 k3 O2 K2 RB2
  go_wp2
  go_ret
  exact ⟨a3, c3, rfl, O3, K3⟩
end Go.Proofs.Ytbpmmeagpefglaa
