/-
  The keys of a map of words, told in some order, each once; collected in a new row; put in order: contracts, for every world. What an iterator over a map's keys tells, collected in a new row: contracts, for every world. A new row of words put in order; the words of a map in order: contracts, for every world.
  Conditions: the map reads as a set of words, of at most 2^20; the row is the call's own; the map reads as a set of words, of at most 2^20.
-/
import Derived.Test.YtlhiikibbppodaaSortJ
import Derived.Maps.OwnSet
import Derived.Maps.RangeWalk
import Derived.Sort.MapsRangeIn
import Derived.RangeFuncSeq
import Derived.RangeFuncNested
import Derived.RangeFuncBound
import Derived.RangeFuncCalls
import Derived.RangeFuncLeaves
import Derived.RangeFuncBox
import Derived.Shelf.AbstractIn
import Derived.WalkKit
import Derived.OwnWalkIn
import Derived.TacticsInMore
import Derived.RegionIn
import Derived.LoopNIn
import Derived.LoopIn
import Derived.Maps.AppendAt
namespace Go.Proofs.Ytlhiikibbppodaa
open Go.RowKit Go.Maps Go.Shelf

abbrev keyU : Keyed Try.prog 31 := int_keyed Try.underlying31
/-- A map of words in block b that reads as D. -/
abbrev MapU (w : World) (b n : Nat) (D : DataW Unit) : Prop := w.ownsMap Try.prog 31 (unitElem (H := Unit)) b n D
theorem sameU (x y : Int) : (Lit.int .u64 x).sameKey (Lit.int .u64 y) = decide (x = y) := by
  by_cases e : x = y
  · subst e; simp [Lit.sameKey]
  · rw [decide_eq_false e]
    exact sameKey_ne (fun h => e (by cases h; rfl))

/-- The words that came so far, while those that 'left' tells are still to come. -/
structure CollU (D : DataW Unit) (left : Lit → Bool) (zs : List Int) : Prop where
  nd : zs.Nodup
  mem : ∀ x, x ∈ zs ↔ (W64 x ∧ Maps.has D (.int .u64 x) = true ∧ left (.int .u64 x) = false)
theorem CollU.start (D : DataW Unit) : CollU D (Maps.has D) [] := ⟨List.nodup_nil, fun x => by simp⟩
theorem CollU.step {D : DataW Unit} {left : Lit → Bool} {zs : List Int} (h : CollU D left zs) {x : Int} (hx : W64 x) (hl : left (.int .u64 x) = true) (hh : Maps.has D (.int .u64 x) = true) :
    CollU D (fun z => left z && !z.sameKey (.int .u64 x)) (zs ++ [x]) := by
  have hn : x ∉ zs := fun e => by rw [(h.mem x).1 e |>.2.2] at hl; cases hl
  refine ⟨List.nodup_append.2 ⟨h.nd, by simp, fun a ha b hb => ?_⟩, fun y => ?_⟩
  · simp at hb; subst hb; rintro rfl; exact hn ha
  · rw [List.mem_append, h.mem y, List.mem_singleton, sameU]
    by_cases e : y = x
    · subst e; simp [hx, hh]
    · simp [e]
/-- The words of a map, each once. -/
def SetOfU (D : DataW Unit) (zs : List Int) : Prop := zs.Nodup ∧ ∀ x, x ∈ zs ↔ (W64 x ∧ Maps.has D (.int .u64 x) = true)
theorem CollU.done {D : DataW Unit} {left : Lit → Bool} {zs : List Int} (h : CollU D left zs) (hl : ∀ k, left k = false) : SetOfU D zs := ⟨h.nd, fun x => by rw [h.mem x, hl]; simp⟩

theorem keys_any (b : Nat) (w : World) :
    Calls Try.prog 40 #[.map (some b)] w fun e w' => e = .returned (.func (.func 51) #[] #[.pointer (some ⟨w.heap.size, 0, none⟩)]) ∧ w' = w.alloc (.cells #[.map (some b)] 67) := by
  go_enter Try.func40, Try.ntmps40
  go_wp2
  go_ret
  exact ⟨rfl, rfl⟩

set_option maxHeartbeats 2000000 in
set_option maxRecDepth 100000 in
theorem keys_stops (m : Nat) (hm1 : 1 ≤ m) (w0 : World) (Bm b nn : Nat) (D : DataW Unit) (hbox : Boxed w0 Bm 67 (.map (some b))) (hown0 : MapU w0 b nn D) :
    SeqStopsK Fence.wide m Try.prog 51 #[.pointer (some ⟨Bm, 0, none⟩)] (fun x : Int => #[.int .u64 x]) KeepsWalks (SetOfU D) (fun _ => True) (Maps.size D) w0 := fun l J Jx W hW hJ hJx hY h0 => by
  have hm := (boxed_below hbox hW).cell
  have hown : MapU W b nn D := hown0.kept (below_grown hW) (by simp)
  refine callsIn_of_wp Try.func51 rfl trivial ?_ rfl
  simp only [Try.ntmps51, List.size_toArray, List.length_cons, List.length_nil, Nat.reduceAdd, Nat.reduceSub, Array.replicate_succ, Array.replicate_zero, List.push_toArray, List.append_toArray, List.nil_append, List.cons_append]
  gi_wp2_with (first
    | (gi_at_range; refine wpListIn_range_own _ rfl _ 67 rfl 31 74 keyU Try.underlying67 _ b nn _ rfl hown ?_; intro w1 hrg0 hg0 hs0)
    | gi_in)
  try go_frame
  gi_loopw [3] (fun _ wr => ∃ (left : Lit → Bool) (cnt : Nat) (zs : List Int), wr.ranges Try.prog 31 (unitElem (H := Unit)) b W.heap.size nn D left cnt ∧ zs.length + cnt ≤ Maps.size D ∧ CollU D left zs ∧ J zs wr)
    (fun _ wr => wr.rangeLeft b W.heap.size)
  case atStart =>
    exact ⟨_, _, [], hrg0, by simp, CollU.start D, hJ [] W w1 none h0 hg0 (fun r e => by cases e)⟩
  case round =>
    obtain ⟨left, cnt, zs, hrg, hcs, hC, hJs⟩ := hrel
    gi_wp2_with (first
      | (gi_at_next; refine wpListIn_next_ranges _ rfl _ rfl 31 keyU (unitElem (H := Unit)) (Value.int .u64) id (fun key kl hk => by obtain ⟨x, hx, _⟩ := Maps.keyOf_int_inv Try.underlying31 hk; exact ⟨x, hx⟩) (fun v _ _ => ⟨v, rfl⟩) b W.heap.size nn _ _ _ rfl hrg ?_ ?_)
      | gi_in)
    · intro hc0 hl0
      gi_wp2
      go_end0
      exact ⟨⟨_, rfl⟩, .inl ⟨zs, hC.done hl0, hJs⟩⟩
    · intro x c kl yd yp w2 cnt2 hkey hlk hv hat hrg2 hlt hg2 hs2 hen
      obtain ⟨x', ex, rfl, hwx⟩ := Maps.keyOf_int_inv Try.underlying31 hkey
      cases ex
      have hJ2 : J zs w2 := hJ zs wr w2 (some W.heap.size) hJs hg2 (fun r e => by cases e; exact ⟨Nat.le_refl _, hrg.iter_walk⟩)
      obtain ⟨fn, tmps, assign, body, hy, hR⟩ := hY zs x w2 hJ2 (by omega)
      clear hs2
      gi_wp2
      refine hR.mono ?_
      have hC2 := hC.step (u64_of_wf hwx) hlk (Maps.has_true_of_atKey hat)
      rintro e W3 (⟨rfl, hJ3, hk3⟩ | ⟨rfl, hJx3⟩)
      · gi_wp2
        have hrg3 := hrg2.of_walks hk3
        go_roundw
        case rel => exact ⟨_, cnt2, zs ++ [x], hrg3, by simp; omega, hC2, hJ3⟩
        case measure => rw [hrg3.left_eq, hrg.left_eq]; exact hlt
      · gi_wp2
        refine bodyPost_ret (results_none rfl _ _ _) rfl ?_
        exact ⟨⟨_, rfl⟩, .inr ⟨_, trivial, hJx3⟩⟩
end Go.Proofs.Ytlhiikibbppodaa

namespace Go.Proofs.Ytlhiikibbppodaa
open Go.RowKit Go.Maps Go.Shelf
attribute [local go_sem] Oper.semAt_some

/-- What lies in s's box while the words come. -/
def BoxS (n0 B : Nat) (pre : List Int) (W : World) : Prop := ∃ v, Boxed W B 22 v ∧ W.ownsRow n0 31 1 v pre.length (pre.map (Value.int .u64)) ∧ True

set_option maxHeartbeats 2000000 in
set_option maxRecDepth 100000 in
theorem appendseq_any (Bm b nn : Nat) (D : DataW Unit) (w : World) (hN : Maps.size D ≤ 1048576) (hbox : Boxed w Bm 67 (.map (some b))) (hown : MapU w b nn D) :
    Calls Try.prog 57 #[.slice none 0 0, .func (.func 51) #[] #[.pointer (some ⟨Bm, 0, none⟩)]] w fun e w' => ∃ a n cap zs, e = .returned (.slice a n cap) ∧ OwnU w' w.heap.size a n cap zs ∧ SetOfU D zs ∧ Below w.heap.size w w' := by
  have HSeq := hide (fun w0 h1 h2 => keys_stops 8 (by omega) w0 Bm b nn D h1 h2)
  have HBx := hide hbox
  have HOw := hide hown
  obtain ⟨i0, hi0⟩ := info_parts Try.infoU
  have HI := hide hi0
  clear hbox hown hi0
  refine (callsIn_wide (n := 9)).1 ?_
  refine callsIn_of_wp_marks Try.func57 rfl trivial ?_ rfl
  simp only [Try.ntmps57, List.size_toArray, List.length_cons, List.length_nil, Nat.reduceAdd, Nat.reduceSub, Array.replicate_succ, Array.replicate_zero, List.push_toArray, List.append_toArray, List.nil_append, List.cons_append]
  gi_wp2_with fail
  have hmx : Try.prog.follows .mixedOrders = true := by kernel_rfl
  have hb1 : Boxed (w.alloc (.cells #[.slice none 0 0] 22)) w.heap.size 22 (.slice none 0 0) := Boxed.new w _ _
  have hb2 := HBx.out.alloc (.cells #[.slice none 0 0] 22)
  have ho2 := HOw.out.alloc (.cells #[.slice none 0 0] 22)
  have hB0 : Below w.heap.size w (w.alloc (.cells #[.slice none 0 0] 22)) := (Below.refl _ w).alloc (Nat.le_refl _) _
  have hsz : (w.alloc (.cells #[.slice none 0 0] 22)).heap.size = w.heap.size + 1 := by simp
  obtain ⟨W0, hW0⟩ : ∃ W0, w.alloc (.cells #[.slice none 0 0] 22) = W0 := ⟨_, rfl⟩
  rw [hW0] at hb1 hb2 ho2 hB0 hsz ⊢
  clear hW0
  refine wpIn_rangeFunc_ownF rfl (by omega) (gf := 51) (lb := #[.pointer (some ⟨Bm, 0, none⟩)]) rfl trivial (enters_of Try.func51 (by kernel_rfl) rfl)
    (HSeq.out W0 hb2 ho2) walksK_t (walksK_b (w := W0)) (Below.refl _ _) (fun _ => rfl)
    (fun pre W => BoxS w.heap.size w.heap.size pre W ∧ Below w.heap.size w W)
    (fun _ _ _ => False)
    (OwnFrom.and (Own.from (holdsRow_own _ _ _ _ _ _ _ _) _) (ownFrom_below (Nat.le_refl _) (by omega)))
    (fun _ _ _ _ _ hs _ _ => hs)
    ⟨⟨_, hb1, World.ownsRow_nil _ _ _ _, trivial⟩, hB0⟩
    (fun x => { tmps := #[.slice none 0 0, .func (.func 51) #[] #[.pointer (some ⟨Bm, 0, none⟩)], .pointer (some ⟨w.heap.size, 0, none⟩), undef, .slice none 0 0, .int .u64 x, .func (.func 51) #[] #[.pointer (some ⟨Bm, 0, none⟩)], .int .u64 x, undef, undef, undef, undef, undef], defers := [] }) ?assign ?body ?done ?stop
  case assign =>
    intro l x W K hK
    gi_wp2
    exact hK
  case body =>
    rintro l pre x W ⟨⟨v, hv, hrow, -⟩, hB⟩ hpre
    have hcell := hv.cell
    have hs1 : w.heap.size ≤ W.heap.size := hB.size
    gi_wp2_with (gi_at_builtin; refine wpListIn_append_own _ rfl _ _ 22 rfl w.heap.size 31 i0 (.int .u64 0) 1 8 Try.underlying22 HI.out.1 HI.out.2.1 HI.out.2.2.1 HI.out.2.2.2 rfl (by decide) _ _ _ rfl (hrow.alloc _) ⟨W.heap.size, 0, none⟩ 1 1 [.int .u64 x] rfl rfl (cell_one_new _ _ _) (by simp [Value.oneCell']) (by unfold maxLen; omega) (by omega) (by simp; omega) ?_; intro v' w1 hown' hgrow _; obtain ⟨g', cap', rfl⟩ := ownsRow_succ hown'; obtain ⟨hv1, hv2, hr2, hk2, hb2⟩ := hv.appended (by decide) hrow hs1 (Nat.le_refl _) hown' hgrow; have hc1 := hv1.cell; have hf1 := hv1.frozen)
    refine ⟨hk2, hk2.walks, ⟨_, hv2, ?_, trivial⟩, hB.trans hb2⟩
    rw [List.length_append, List.map_append]
    exact hr2
  case done =>
    rintro Dd xs W hD hS ⟨⟨v, hv, hrow, -⟩, hB⟩ hK
    have hcell := hv.cell
    obtain ⟨ao, cap, rfl⟩ := row_form hrow
    gi_wp2
    refine ⟨by simp, .inl ⟨_, _, rfl, run_takeDeferred hK, ?_⟩⟩
    refine ⟨_, results_tmp rfl _ _ _, ao, xs.length, cap, xs, rfl, ?_, hS, ?_⟩
    · exact ownsRow_putObj hrow _ hK rfl
    · exact hB.trans (belowK_b (w := w) (Nat.le_refl _) _ Dd _ _ (by omega) hK rfl rfl)
  case stop =>
    rintro D c pre W _ _ h _
    exact h.elim
end Go.Proofs.Ytlhiikibbppodaa

namespace Go.Proofs.Ytlhiikibbppodaa
open Go.RowKit Go.Maps

theorem own_srow {w : World} {base n cap : Nat} {a : Option Addr} {zs : List Int} (h : OwnU w base a n cap zs) (hn : n ≤ 1048576) :
    (a = none ∧ n = 0 ∧ zs = []) ∨ ∃ g, a = some ⟨g, 0, none⟩ ∧ base ≤ g ∧ cap ≤ maxLen ∧ SRow w g cap zs.toArray := by
  have hl : zs.length = n := h.len
  unfold OwnU Own at h
  rcases h.2 with ⟨h1, h2⟩ | ⟨g, c, cur, h1, hb, hg, h4, h5, h6, h7⟩
  · simp only [Value.slice.injEq] at h1
    exact Or.inl ⟨h1.1, h2, List.length_eq_zero_iff.1 (by omega)⟩
  · simp only [Value.slice.injEq, true_and] at h1
    obtain ⟨rfl, rfl⟩ := h1
    refine Or.inr ⟨g, rfl, hb, h5, ⟨by simpa [hl] using h4, by simp [hl]; omega, cur, hg, by omega, fun i hi => ?_⟩⟩
    have hi' : i < zs.length := by simpa using hi
    have e : (cur.toList.take (n * 1))[i]? = (zs.map (Value.int .u64))[i]? := by rw [h7]
    rw [List.getElem?_take, if_pos (by omega), List.getElem?_map, List.getElem?_eq_getElem hi', Array.getElem?_toList] at e
    rw [e]
    simp [hi']
theorem srow_own {w : World} {base g cap : Nat} {d : Array Int} (h : SRow w g cap d) (hb : base ≤ g) (hc : cap ≤ maxLen) : OwnU w base (some ⟨g, 0, none⟩) d.size cap d.toList := by
  unfold OwnU Own
  obtain ⟨cur, h1, h2, h3⟩ := h.heap
  refine ⟨by simp, Or.inr ⟨g, cap, cur, rfl, hb, h1, h.fits, hc, by omega, ?_⟩⟩
  apply List.ext_getElem?
  intro i
  rw [Nat.mul_one, List.getElem?_take, List.getElem?_map]
  by_cases hi : i < d.size
  · rw [if_pos hi, Array.getElem?_toList, h3 i hi, Array.getElem?_toList, Array.getElem?_eq_getElem hi]
    simp [hi]
  · rw [if_neg hi, List.getElem?_eq_none (by simpa using hi)]
    rfl
theorem inOrder_list {d r : Array Int} (h : InOrder 0 d.size d r) : r.size = d.size ∧ r.toList.Perm d.toList ∧ r.toList.Pairwise (· ≤ ·) := by
  obtain ⟨⟨h1, -, h3⟩, h4⟩ := h
  refine ⟨h1, ?_, ?_⟩
  · have e1 : r.extract 0 d.size = r := by rw [← h1]; simp
    have e2 : d.extract 0 d.size = d := by simp
    rwa [e1, e2] at h3
  · rw [List.pairwise_iff_getElem]
    intro i j hi hj hij
    have hi' : i < r.size := by simpa using hi
    have hj' : j < r.size := by simpa using hj
    have := h4 i j (Nat.zero_le _) hij (by omega)
    simp only [ltI, Go.Sort.ltInt, decide_eq_false_iff_not, getElem!_pos, hi', hj'] at this
    simp only [Array.getElem_toList]
    omega
theorem below0 {a : Nat} {d : Array Int} : Go.Sort.Below ltI 0 a d := Or.inl rfl

theorem ins0_any (v : Value) (w : World) : Calls Try.prog 61 #[v, .int .i64 0, .int .i64 0] w fun e w' => e = .returned (.tuple #[]) ∧ w' = w := by
  go_enter Try.func61, Try.ntmps61
  go_wp2
  go_loopw [6] (fun x6 wr => x6 = .int .i64 1 ∧ wr = w) (fun _ _ => 0)
  case atStart => exact ⟨rfl, rfl⟩
  case round =>
    obtain ⟨rfl, rfl⟩ := hrel
    go_wp2
    go_end0
    exact ⟨rfl, rfl⟩
theorem pdq0_any (v : Value) (lim : Int) (w : World) : Calls Try.prog 58 #[v, .int .i64 0, .int .i64 0, .int .i64 lim] w fun e w' => e = .returned (.tuple #[]) ∧ w' = w := by
  have I := hide (ins0_any v w)
  go_enter Try.func58, Try.ntmps58
  go_wp2
  go_loopw [1, 2, 3, 8, 9] (fun x1 x2 x3 x8 x9 wr => x1 = .int .i64 0 ∧ x2 = .int .i64 0 ∧ x3 = .int .i64 lim ∧ x8 = .bool true ∧ x9 = .bool true ∧ wr = w) (fun _ _ _ _ _ _ => 0)
  case atStart => exact ⟨rfl, rfl, rfl, rfl, rfl, rfl⟩
  case round =>
    obtain ⟨rfl, rfl, rfl, rfl, rfl, rfl⟩ := hrel
    go_wp2_with fail
    refine I.out.mono ?_
    rintro e w1 ⟨rfl, rfl⟩
    go_wp2
    refine bodyPost_ret (results_none rfl _ _ _) rfl ?_
    exact ⟨rfl, rfl⟩

set_option maxHeartbeats 1000000 in
theorem sort_any (base : Nat) (a : Option Addr) (n cap : Nat) (zs : List Int) (w : World) (h : OwnU w base a n cap zs) (hn : n ≤ 1048576) :
    Calls Try.prog 50 #[.slice a n cap] w fun e w' => e = .returned (.tuple #[]) ∧ (∃ zs', OwnU w' base a n cap zs' ∧ zs'.Perm zs ∧ zs'.Pairwise (· ≤ ·)) ∧ Below base w w' := by
  have B := hide (fun W => Try.bits_Len (n : Int) W (by omega) (by omega))
  rw [Int.toNat_natCast] at B
  have hk : Lib.bitLen n ≤ 64 := Lib.bitLen_le n 64 (by omega) (by omega)
  rcases own_srow h hn with ⟨rfl, rfl, rfl⟩ | ⟨g, rfl, hb, hc, hs⟩
  · have P := hide (fun lim => pdq0_any (.slice none 0 cap) lim w)
    have H := hide h
    generalize Lib.bitLen 0 = k at *
    clear h
    go_enter Try.func50, Try.ntmps50
    go_wp2_with fail
    refine (B.out _).mono ?_
    rintro e w1 ⟨rfl, rfl⟩
    go_wp2_with fail
    refine (P.out _).mono ?_
    rintro e w1 ⟨rfl, rfl⟩
    go_wp2
    go_end0
    exact ⟨rfl, ⟨[], H.out, List.Perm.refl _, List.Pairwise.nil⟩, Below.refl _ _⟩
  · have hl : zs.length = n := h.len
    have hz : zs.toArray.size = n := by simpa using hl
    have HZ := hide hz
    have HB := hide hb
    have HC := hide hc
    have hlt := hs.lt
    have HBS : Hid (base ≤ w.heap.size) := by show _ ≤ _; omega
    have P := hide (pdq_all g cap cap n n zs.toArray 0 n (Lib.bitLen n) w (by omega) hz hs (by omega) (Nat.le_refl _) below0 hk)
    generalize Lib.bitLen n = k at *
    clear h hs hb hc hl hz hlt
    go_enter Try.func50, Try.ntmps50
    go_wp2_with fail
    refine (B.out _).mono ?_
    rintro e w1 ⟨rfl, rfl⟩
    go_wp2_with fail
    refine P.out.mono ?_
    rintro e w1 ⟨rfl, r, hr, sr, ch⟩
    have HR := hide hr
    have SR := hide sr
    have CR := hide ch
    clear hr sr ch P
    go_wp2
    go_end0
    have h2 := HR.out
    rw [← HZ.out] at h2
    obtain ⟨q1, q2, q3⟩ := inOrder_list h2
    refine ⟨rfl, ⟨r.toList, ?_, by simpa using q2, q3⟩, CR.out.below HBS.out (fun k hk e => by have := HB.out; omega)⟩
    have := srow_own SR.out HB.out HC.out
    rwa [q1, HZ.out] at this

theorem collect_any (Bm b nn : Nat) (D : DataW Unit) (w : World) (hN : Maps.size D ≤ 1048576) (hbox : Boxed w Bm 67 (.map (some b))) (hown : MapU w b nn D) :
    Calls Try.prog 49 #[.func (.func 51) #[] #[.pointer (some ⟨Bm, 0, none⟩)]] w fun e w' => ∃ a n cap zs, e = .returned (.slice a n cap) ∧ OwnU w' w.heap.size a n cap zs ∧ SetOfU D zs ∧ Below w.heap.size w w' := by
  have A := hide (appendseq_any Bm b nn D w hN hbox hown)
  clear hbox hown
  go_enter Try.func49, Try.ntmps49
  go_wp2_with fail
  refine A.out.mono ?_
  rintro e w1 ⟨a, n, cap, zs, rfl, h1, h2, h3⟩
  have H1 := hide h1
  have H2 := hide h2
  have H3 := hide h3
  clear h1 h2 h3 A
  go_wp2
  go_ret
  exact ⟨a, n, cap, zs, rfl, H1.out, H2.out, H3.out⟩

/-- A rising list is the set that a map reads as. -/
structure IsSetU (D : DataW Unit) (l : List Int) : Prop where
  up : Up l
  words : ∀ x ∈ l, W64 x
  mem : ∀ x, W64 x → (x ∈ l ↔ Maps.has D (.int .u64 x) = true)
  size : Maps.size D = l.length
theorem set_sorted {D : DataW Unit} {l zs zs' : List Int} (h : IsSetU D l) (hz : SetOfU D zs) (hp : zs'.Perm zs) (hs : zs'.Pairwise (· ≤ ·)) : zs' = l := by
  refine up_ext ?_ h.up (fun x => ?_)
  · unfold Up
    have hnd : zs'.Nodup := hp.nodup_iff.2 hz.1
    exact (hs.and hnd).imp (fun hab => by have h1 := hab.1; have h2 := hab.2; omega)
  · rw [hp.mem_iff, hz.2 x]
    exact ⟨fun hx => (h.mem x hx.1).2 hx.2, fun hx => ⟨h.words x hx, (h.mem x (h.words x hx)).1 hx⟩⟩
theorem set_len {D : DataW Unit} {l zs : List Int} (h : IsSetU D l) (hz : SetOfU D zs) : zs.length = l.length := by
  have hnd : l.Nodup := h.up.imp (fun hab e => by omega)
  exact ((List.perm_ext_iff_of_nodup hz.1 hnd).2 (fun x => by
    rw [hz.2 x]
    exact ⟨fun hx => (h.mem x hx.1).2 hx.2, fun hx => ⟨h.words x hx, (h.mem x (h.words x hx)).1 hx⟩⟩)).length_eq

theorem sorted_any (Bm b nn : Nat) (D : DataW Unit) (l : List Int) (w : World) (hl : IsSetU D l) (hN : l.length ≤ 1048576) (hbox : Boxed w Bm 67 (.map (some b))) (hown : MapU w b nn D) :
    Calls Try.prog 39 #[.func (.func 51) #[] #[.pointer (some ⟨Bm, 0, none⟩)]] w fun e w' => ∃ a cap, e = .returned (.slice a l.length cap) ∧ OwnU w' w.heap.size a l.length cap l ∧ Below w.heap.size w w' := by
  have C := hide (collect_any Bm b nn D w (by rw [hl.size]; exact hN) hbox hown)
  have HL := hide hl
  have HN := hide hN
  clear hbox hown hl hN
  go_enter Try.func39, Try.ntmps39
  go_wp2_with fail
  refine C.out.mono ?_
  rintro e w1 ⟨a, n, cap, zs, rfl, h1, h2, h3⟩
  have hn : n = l.length := h1.len.symm.trans (set_len HL.out h2)
  have S := hide (sort_any w.heap.size a n cap zs w1 h1 (by rw [hn]; exact HN.out))
  have HZ := hide h2
  have HB := hide h3
  have HNn := hide hn
  clear h1 h2 h3 C hn
  go_wp2_with fail
  refine S.out.mono ?_
  rintro e w2 ⟨rfl, ⟨zs', o2, p2, s2⟩, b2⟩
  have e2 := set_sorted HL.out HZ.out p2 s2
  have O2 := hide o2
  have B2 : Hid (Below w.heap.size w w2) := HB.out.trans b2
  have E2 := hide e2
  clear o2 p2 s2 b2 e2 S
  go_wp2
  go_ret
  have hn := HNn.out
  subst hn
  exact ⟨a, cap, rfl, E2.out ▸ O2.out, B2.out⟩
end Go.Proofs.Ytlhiikibbppodaa
