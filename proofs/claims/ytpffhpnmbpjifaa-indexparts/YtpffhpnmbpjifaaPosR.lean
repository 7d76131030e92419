/-
  Lists of numbers by the laws and the document (Ints, SameInts, Rises, in, put, Less): contracts, for every world.
  Conditions: the slices show their numbers; as each theorem says.
-/
import Derived.Test.YtpffhpnmbpjifaaPosK
import Derived.Test.YtpffhpnmbpjifaaVintA
import Derived.Test.YtpffhpnmbpjifaaChK
import Derived.Test.YtpffhpnmbpjifaaRows
import Derived.WalkKit
import Derived.Laws.AppendOwnNone
namespace Go.Proofs.Ytpffhpnmbpjifaa
open Go.RowKit
set_option maxRecDepth 20000

theorem Try.infoI : (Try.prog.info? 3).map (fun i => (i.zero, i.size, i.bytes)) = some (some (.int .i64 0), 1, 8) := by kernel_rfl
/-- Numbers of the call's own. -/
abbrev MineI (w : World) (base : Nat) (a : Option Addr) (n cap : Nat) (zs : List Int) : Prop := Own 3 .i64 w base a n cap zs
/-- A list of numbers, as a slice may be. -/
def SlI (w : World) (a : Option Addr) (n cap : Nat) (zs : List Int) : Prop := Row .i64 w a n zs ∧ n ≤ cap ∧ (a = none → cap = 0)
section
variable {w w' : World} {a : Option Addr} {n cap : Nat} {zs : List Int}
theorem SlI.below {B : Nat} (h : SlI w a n cap zs) (hb : Below B w w') (hB : w.heap.size ≤ B) : SlI w' a n cap zs := ⟨h.1.below hb hB, h.2⟩
theorem SlI.len (h : SlI w a n cap zs) : zs.length = n := h.1.1
theorem SlI.wf (h : SlI w a n cap zs) : ∀ z ∈ zs, (Lit.int .i64 z).wf = true := h.1.2.2.1
theorem sli_nil (w : World) : SlI w none 0 0 [] := ⟨⟨rfl, by omega, fun z hz => (by cases hz), Or.inl rfl⟩, Nat.le_refl _, fun _ => rfl⟩
theorem MineI.sl {base : Nat} (h : MineI w base a n cap zs) (hn : n ≤ 281474976710656) (hz : ∀ z ∈ zs, (Lit.int .i64 z).wf = true) : SlI w a n cap zs := ⟨h.row hn hz, h.capped⟩
/-- Its cell at place i. -/
theorem SlI.at' (h : SlI w a n cap zs) {i : Nat} (hi : i < n) : ∃ b off, a = some ⟨b, off, none⟩ ∧ w.cell? ⟨b, off + i, none⟩ = some (.int .i64 (zs.getD i 0)) := by
  obtain ⟨⟨_, _, _, h0 | ⟨b, off, rfl, hc⟩⟩, _⟩ := h
  · omega
  · exact ⟨b, off, rfl, hc i hi⟩
end
theorem getD_mem' {zs : List Int} {i : Nat} (h : i < zs.length) : zs.getD i 0 ∈ zs := by
  rw [List.getD_eq_getElem?_getD, List.getElem?_eq_getElem h]
  exact List.getElem_mem h
theorem getD_is {zs : List Int} {i : Nat} (h : i < zs.length) : zs.getD i 0 = zs[i] := by
  rw [List.getD_eq_getElem?_getD, List.getElem?_eq_getElem h]
  rfl
theorem take_get {ls : List Int} {k : Nat} (h : k < ls.length) : ls.take (k + 1) = ls.take k ++ [ls.getD k 0] := by
  rw [List.take_succ_eq_append_getElem h, getD_is h]
/-- The append of a row behind numbers of the call's own. -/
theorem wpList_append_ints {P : Program} (w : World) {ops : Array Oper} {rest : List Oper} {o : Oper} {a : Act} {Q : Exit → Act → World → Prop} (hgd : o.guard = none) (s x : Operand) (t : TypeId)
    (ho : o.op = .call { callee := .builtin .append, args := #[s, x], argTypes := #[t, t] })
    (base : Nat) (e : TypeId) (i : TypeInfo) (ht : P.underlying t = some (.slice e)) (hi : P.info? e = some i) (hz : i.zero = some (.int .i64 0)) (hsize : i.size = 1) (hby : i.bytes = 8)
    (ao : Option Addr) (n cap : Nat) (zs : List Int) (hs : a.eval s = .slice ao n cap) (hown : Own e .i64 w base ao n cap zs)
    (bo : Option Addr) (m c : Nat) (news : List Int) (hx : a.eval x = .slice bo m c) (hrow : Row .i64 w bo m news) (hbo : bo = none → c = 0)
    (hbytes : (n + m) * 8 ≤ 140737488355328) (hbase : base ≤ w.heap.size)
    (h : ∀ a' cap' w', Own e .i64 w' base a' (n + m) cap' (zs ++ news) → Below base w w' → Ch (fun k => (Value.slice ao n cap).ownBlock = some k) w w' → wpList P ops Q rest (a.put o.dst (.slice a' (n + m) cap')) w') : wpList P ops Q (o :: rest) a w := by
  cases bo with
  | none =>
    have h0 := hrow.nz rfl
    subst h0
    obtain rfl := hbo rfl
    have hz : news = [] := List.length_eq_zero_iff.1 hrow.1
    subst hz
    refine wpList_append_own_none hgd s x t ho base e i 1 ht hi _ n (zs.map (Value.int .i64)) hs hown hx ?_
    have := h ao cap w (by rw [List.append_nil]; exact hown) (Below.refl _ _) (Ch.refl _ _)
    exact this
  | some ad =>
    refine wpList_append_own w hgd s x t ho base e i (.int .i64 0) 1 8 ht hi hz hsize hby rfl (by decide) _ n (zs.map (Value.int .i64)) hs hown ad m c (news.map (Value.int .i64)) hx (by simp [hrow.1]) hrow.cells (one_cell .i64 news) (by unfold maxLen; omega) (by omega) hbase ?_
    intro v' w' h1 h2 _
    rw [← List.map_append] at h1
    obtain ⟨a', cap', rfl, h3⟩ := own_form h1
    exact h a' cap' w' h3 ((Below.refl _ _).grown h2 hbase (own_block hown)) (Ch.grown h2)
theorem one_introw (w : World) (k : Int) (e : TypeId) : Row .i64 (w.alloc (.cells #[.int .i64 k] e)) (some ⟨w.heap.size, 0, none⟩) 1 [k] ↔ (Lit.int .i64 k).wf = true := by
  constructor
  · intro h
    exact h.2.2.1 k (by simp)
  · intro h
    refine ⟨rfl, by omega, fun z hz => by simp at hz; rw [hz]; exact h, Or.inr ⟨w.heap.size, 0, rfl, fun i hi => ?_⟩⟩
    obtain rfl : i = 0 := by omega
    rw [World.cell?_alloc_mark]
    rfl

set_option maxHeartbeats 1000000 in
theorem samei_any (a : Option Addr) (n cap : Nat) (xs : List Int) (b : Option Addr) (m capb : Nat) (ys : List Int) (w : World) (hx : SlI w a n cap xs) (hy : SlI w b m capb ys) :
    Calls Try.prog 14 #[.slice a n cap, .slice b m capb] w fun e w' => e = .returned (.bool (decide (xs = ys))) ∧ Below w.heap.size w w' := by
  have hl := hx.1.1
  have hm := hy.1.1
  have hn := hx.1.2.1
  have hn2 := hy.1.2.1
  by_cases he : n = m
  · subst he
    have HX := hide hx
    have HY := hide hy
    have HL := hide hl
    have HM := hide hm
    clear hx hy hl hm
    go_enter Try.func14, Try.ntmps14
    go_wp2
    go_loopw [5] (fun i wr => ∃ k : Nat, k ≤ n ∧ i = .int .i64 k ∧ Hid (xs.take k = ys.take k) ∧ Hid (Below w.heap.size w wr)) (fun i _ => n - (intOf i).toNat)
    case atStart => exact ⟨0, by omega, rfl, by show _ = _; simp, Below.refl _ _⟩
    case round =>
      obtain ⟨k, hk, rfl, HT, HW⟩ := hrel
      by_cases hlt : k < n
      · obtain ⟨x0, o0, rfl, g0⟩ := (HX.out.below HW.out (Nat.le_refl _)).at' hlt
        obtain ⟨x1, o1, rfl, g1⟩ := (HY.out.below HW.out (Nat.le_refl _)).at' hlt
        have S0 := hide (take_get (ls := xs) (k := k) (by rw [HL.out]; exact hlt))
        have S1 := hide (take_get (ls := ys) (k := k) (by rw [HM.out]; exact hlt))
        have i1 : (0 : Int) ≤ (k : Int) := by omega
        have i2 : (k : Int) < (n : Int) := by omega
        have HG : Hid (xs.getD k 0 ≠ ys.getD k 0 → xs ≠ ys) := fun h e => h (by rw [e])
        generalize xs.getD k 0 = p at *
        generalize ys.getD k 0 = q at *
        by_cases hpq : p = q
        · subst hpq
          have HT2 : Hid (xs.take (k + 1) = ys.take (k + 1)) := by show _ = _; rw [S0.out, S1.out, HT.out]
          have t : (p != p) = false := by simp
          go_wp2
          go_region
          go_wp2
          go_roundw
          case rel => exact ⟨k + 1, by omega, by go_num, HT2, HW.out.drew⟩
          case measure => simp [intOf]; omega
        · have t : (p != q) = true := by simpa using hpq
          have HN : Hid (decide (xs = ys) = false) := by show _ = _; simpa using HG.out hpq
          clear hpq
          go_wp2
          go_region
          go_wp2
          go_ret
          refine ⟨?_, HW.out.drew⟩
          show Ending.returned (.bool false) = _
          rw [HN.out]
      · have : k = n := by omega
        subst this
        have HN : Hid (decide (xs = ys) = true) := by
          have := HT.out
          rw [List.take_of_length_le (by rw [HL.out]; omega), List.take_of_length_le (by rw [HM.out]; omega)] at this
          show _ = _
          simpa using this
        go_wp2
        go_ret
        refine ⟨?_, HW.out⟩
        show Ending.returned (.bool true) = _
        rw [HN.out]
  · have hne : decide (xs = ys) = false := by
      simp only [decide_eq_false_iff_not]
      rintro rfl
      omega
    have t : ((n : Int) != (m : Int)) = true := by simp; omega
    rw [hne]
    clear hne hl hm hx hy
    go_enter Try.func14, Try.ntmps14
    go_wp2
    go_ret
    exact ⟨rfl, Below.refl _ _⟩
theorem upI_all {l : List Int} {n : Nat} (hl : l.length ≤ n) (h : upI (l.take n)) : upI l := by rwa [List.take_of_length_le hl] at h
end Go.Proofs.Ytpffhpnmbpjifaa
