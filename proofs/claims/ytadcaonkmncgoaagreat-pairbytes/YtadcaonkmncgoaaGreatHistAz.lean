/-
  The program's own buckets: a number's bucket, a bucket's ends: contracts, for every world; they change nothing. The program's own hist.Check: whether buckets may be: its contract, for every world. A histogram's counts in memory: how they are read, written, cleared; what hist.New comes to. More in a histogram's bucket: Add, Merge, From: contracts, for every world. How many a histogram has seen: sums, Count, Rank: contracts, for every world; they change nothing. The buckets in which something was seen, as a list: a contract, for every world.
  Conditions: numbers are words of 64 bits; buckets any; the slice shows its buckets; as each theorem says; numbers are words of 64 bits; the slice shows its buckets and lies elsewhere than the histogram; the histogram lies where it is said to lie; numbers are words of 64 bits; the histogram lies where it is said to lie.
-/
import Derived.Test.YtadcaonkmncgoaaGreatHideK
import Derived.Test.YtadcaonkmncgoaaGreatHistPz
import Derived.Test.YtadcaonkmncgoaaGreatVintA
import Derived.Test.YtadcaonkmncgoaaGreatRows
import Derived.Test.YtadcaonkmncgoaaGreatShelf
import Derived.WalkKit
import Derived.WalkSpells
import Derived.Test.YtadcaonkmncgoaaGreatHistB
import Derived.Test.YtadcaonkmncgoaaGreatChK
import Derived.Lib.SliceRun
import Derived.Laws.Tables
import Derived.Test.YtadcaonkmncgoaaGreatWideZ
import Derived.Test.YtadcaonkmncgoaaGreatVintR
import Derived.Deep.Cut
import Derived.Test.YtadcaonkmncgoaaGreatHistS
import Derived.Deep.QuietTactic
import Derived.BigQuiet
namespace Go.Proofs.YtadcaonkmncgoaaGreat
open Go.RowKit
set_option maxRecDepth 20000

set_option maxHeartbeats 1000000 in
theorem bucket_any (v : Int) (w : World) (hv : W64 v) :
    Calls Tryz.prog 83 #[.int .u64 v] w fun e w' => e = .returned (.int .i64 (bucketS v)) ∧ w' = w := by
  obtain ⟨v0, v1⟩ := hv
  have L := hide (Tryz.bits_Len64 v w v0 (by omega))
  obtain ⟨n, rfl⟩ := Int.eq_ofNat_of_zero_le v0
  rw [Int.toNat_natCast] at L
  have hb := bucket_len (v := n) (by omega)
  have hm := bitLen_most n
  have hr := bucketS_range (v := (n : Int)) (by omega) (by omega)
  rw [hb] at hr ⊢
  clear hb
  have hq0 : 0 ≤ (n : Int) / 2 ^ (Lib.bitLen n - 8) := Int.ediv_nonneg (by omega) (Int.le_of_lt (two_pos _))
  have HE : Hid (((if (Lib.bitLen n : Int) - 8 < 0 then 0 else (Lib.bitLen n : Int) - 8)) = ((Lib.bitLen n - 8 : Nat) : Int)) := by show _ = _; split <;> omega
  generalize Lib.bitLen n = b at *
  have hmax : max ((b : Int) - 8) 0 = ((b - 8 : Nat) : Int) := by omega
  generalize hE : b - 8 = E at *
  generalize hQ : (n : Int) / 2 ^ E = Q at *
  go_enter Tryz.func83, Tryz.ntmps83
  go_wp2_with fail
  refine L.out.mono ?_
  rintro e w' ⟨rfl, rfl⟩
  clear L
  go_wp2
  go_ret
  exact ⟨rfl, rfl⟩

theorem isb_in (k : Int) (w : World) (h0 : 0 ≤ k) (h1 : k ≤ 7423) :
    Calls Tryz.prog 68 #[.int .i64 k] w fun e w' => e = .returned (.bool true) ∧ w' = w := by
  have HD : Hid (decide (k < 7424) = true) := decide_eq_true (by omega)
  go_enter Tryz.func68, Tryz.ntmps68
  go_wp2
  go_ret
  exact ⟨congrArg (fun b => Ending.returned (.bool b)) HD.out, rfl⟩
theorem isb_out (k : Int) (w : World) (hk : k < 0 ∨ 7424 ≤ k) :
    Calls Tryz.prog 68 #[.int .i64 k] w fun e w' => e = .returned (.bool false) ∧ w' = w := by
  by_cases h : k < 0
  · go_enter Tryz.func68, Tryz.ntmps68
    go_wp2
    go_ret
    exact ⟨rfl, rfl⟩
  · have HD : Hid (decide (k < 7424) = false) := decide_eq_false (by omega)
    go_enter Tryz.func68, Tryz.ntmps68
    go_wp2
    go_ret
    exact ⟨congrArg (fun b => Ending.returned (.bool b)) HD.out, rfl⟩
end Go.Proofs.YtadcaonkmncgoaaGreat

namespace Go.Proofs.YtadcaonkmncgoaaGreat
open Go.RowKit
set_option maxRecDepth 20000

set_option maxHeartbeats 4000000 in
theorem check_any (a : Option Addr) (n cap : Nat) (l : Bks) (w : World) (hr : RowB w a n l) :
    Calls Tryz.prog 45 #[.slice a n cap] w fun e w' => e = .returned (.bool (checkS l)) ∧ Below w.heap.size w w' := by
  have HR := hide hr
  have HL := hide hr.1
  have hn := hr.2.1
  clear hr
  go_enter Tryz.func45, Tryz.ntmps45
  go_wp2
  go_loopw [3, 8] (fun p i wr => ∃ k : Nat, k ≤ n ∧ i = .int .i64 k ∧ p = .int .i64 (lastD (-1) (l.take k)) ∧ Hid (checkF (-1) (l.take k) = true) ∧ Hid (Below w.heap.size w wr)) (fun _ i _ => n - (intOf i).toNat)
  case atStart => exact ⟨0, by omega, rfl, rfl, rfl, Below.refl _ _⟩
  case round =>
    obtain ⟨k, hk, rfl, rfl, HT, HW⟩ := hrel
    by_cases hlt : k < n
    · obtain ⟨b, off, rfl, hcc⟩ := HR.out.at' hlt
      obtain ⟨f0, f1⟩ := hcc wr HW.out
      have HFit := hide (getD_fit HR.out.2.2.1 k)
      have i1 : (0 : Int) ≤ (k : Int) := by omega
      have i2 : (k : Int) < (n : Int) := by omega
      have HC2 : Hid (∀ (x y : Int), l.getD k (0, 0) = (x, y) → checkF (-1) (l.take (k + 1)) = decide (lastD (-1) (l.take k) < x ∧ x ≤ 7423 ∧ 0 < y) ∧ lastD (-1) (l.take (k + 1)) = x) := by
        intro x y hxy
        rw [take_bks (l := l) (k := k) (by rw [HL.out]; exact hlt), hxy, checkF_snoc, HT.out, Bool.true_and, lastD_snoc]
        exact ⟨rfl, rfl⟩
      have hge := (checkF_lastD HT.out).1
      have HD : Hid (checkF (-1) (l.take (k + 1)) = false → checkS l = false) := fun h => checkF_prefix (k + 1) h
      clear hcc
      generalize l.getD k (0, 0) = x at *
      obtain ⟨x, y⟩ := x
      simp only at f0 f1
      have hw := u64_of_wf HFit.out.2
      have y0 := hw.1
      simp only at y0
      have HCK := hide (HC2.out x y rfl).1
      have HLA := hide (HC2.out x y rfl).2
      clear HC2 hw HFit
      generalize lastD (-1) (l.take k) = L at *
      clear HT
      by_cases c1 : x < 0 ∨ 7424 ≤ x
      · have I2 := hide (fun w => isb_out x w c1)
        have HF : Hid (checkS l = false) := HD.out (by rw [HCK.out]; simp only [decide_eq_false_iff_not]; omega)
        clear HCK HD c1
        go_wp2_with fail
        refine (I2.out _).mono ?_
        rintro e w' ⟨rfl, rfl⟩
        go_wp2
        go_ret
        rw [HF.out]
        refine ⟨rfl, ?_⟩
        exact bel_al HW.out (Nat.le_refl _) _
      have I1 := hide (fun w => isb_in x w (by omega) (by omega))
      by_cases c2 : x ≤ L
      · have HF : Hid (checkS l = false) := HD.out (by rw [HCK.out]; simp only [decide_eq_false_iff_not]; omega)
        clear HCK HD
        go_wp2_with fail
        refine (I1.out _).mono ?_
        rintro e w' ⟨rfl, rfl⟩
        go_wp2
        go_ret
        rw [HF.out]
        refine ⟨rfl, ?_⟩
        exact bel_al HW.out (Nat.le_refl _) _
      by_cases c3 : y = 0
      · have d3 : (y == 0) = true := by simpa using c3
        have HF : Hid (checkS l = false) := HD.out (by rw [HCK.out]; simp only [decide_eq_false_iff_not]; omega)
        clear HCK HD c3
        go_wp2_with fail
        refine (I1.out _).mono ?_
        rintro e w' ⟨rfl, rfl⟩
        go_wp2
        go_ret
        rw [HF.out]
        refine ⟨rfl, ?_⟩
        exact bel_al HW.out (Nat.le_refl _) _
      have d3 : (y == 0) = false := by simpa using c3
      have HF : Hid (checkF (-1) (l.take (k + 1)) = true) := by
        show _ = _
        rw [HCK.out]; simp only [decide_eq_true_eq]; omega
      clear HCK HD
      go_wp2_with fail
      refine (I1.out _).mono ?_
      rintro e w' ⟨rfl, rfl⟩
      go_wp2
      go_roundw
      case rel => exact ⟨k + 1, by omega, by go_num, by rw [HLA.out], HF, bel_al HW.out (Nat.le_refl _) _⟩
      case measure => simp [intOf]; omega
    · have : k = n := by omega
      subst this
      have HE : Hid (checkS l = true) := by
        have := HT.out
        rw [List.take_of_length_le (by rw [HL.out]; omega)] at this
        exact this
      go_wp2
      go_ret
      rw [HE.out]
      exact ⟨rfl, HW.out⟩
end Go.Proofs.YtadcaonkmncgoaaGreat

namespace Go.Proofs.YtadcaonkmncgoaaGreat
open Go.RowKit
set_option maxRecDepth 20000

/-- Counts as cells of memory. -/
def arrV (H : List Int) : Array Value := (H.map (Value.int .u64)).toArray
/-- A histogram that lies at block g. -/
structure HistAt (w : World) (g : Nat) (H : List Int) : Prop where
  heap : w.heap[g]? = some (.cells (arrV H) 113 (0, 0))
  len : H.length = 7424
  words : WordsH H

theorem arrV_get (H : List Int) (i : Nat) (h : i < H.length) : (arrV H)[i]? = some (.int .u64 (H.getD i 0)) := by
  unfold arrV
  rw [List.getElem?_toArray, List.getElem?_map, List.getElem?_eq_getElem h, List.getD_eq_getElem?_getD, List.getElem?_eq_getElem h]
  rfl
theorem arrV_set (H : List Int) (i : Nat) (v : Int) : (arrV H).setIfInBounds i (.int .u64 v) = arrV (H.set i v) := by
  unfold arrV
  rw [List.setIfInBounds_toArray, List.map_set]
theorem HistAt.lt {w : World} {g : Nat} {H : List Int} (h : HistAt w g H) : g < w.heap.size := (Array.getElem?_eq_some_iff.1 h.heap).1
theorem HistAt.cell {w : World} {g : Nat} {H : List Int} (h : HistAt w g H) {i : Nat} (hi : i < 7424) : w.cell? ⟨g, i, none⟩ = some (.int .u64 (H.getD i 0)) := by
  rw [cell_of_row w g i _ _ (0, 0) h.heap]
  exact arrV_get H i (by rw [h.len]; exact hi)
theorem HistAt.frozen {w : World} {g : Nat} {H : List Int} (h : HistAt w g H) (i : Nat) : w.frozen? ⟨g, i, none⟩ = false := frozen_of_row w g i _ _ h.heap
theorem HistAt.set {w : World} {g : Nat} {H : List Int} (h : HistAt w g H) (i : Nat) {v : Int} (hv : 0 ≤ v ∧ v < 18446744073709551616) : HistAt (w.setCell ⟨g, i, none⟩ (.int .u64 v)) g (H.set i v) :=
  ⟨by rw [heap_setCell_same w g i _ _ _ h.heap, arrV_set], by rw [List.length_set]; exact h.len, words_set h.words i hv⟩
theorem HistAt.below {B : Nat} {w w' : World} {g : Nat} {H : List Int} (h : HistAt w g H) (hb : Below B w w') (hg : g < B) : HistAt w' g H := ⟨(hb.block g hg).trans h.heap, h.len, h.words⟩
theorem HistAt.ch {S : Nat → Prop} {w w' : World} {g : Nat} {H : List Int} (h : HistAt w g H) (c : Ch S w w') (hn : ¬ S g) : HistAt w' g H := ⟨(c.block g h.lt hn).trans h.heap, h.len, h.words⟩
theorem HistAt.drew {w : World} {g : Nat} {H : List Int} (h : HistAt w g H) : HistAt w.drew g H := ⟨h.heap, h.len, h.words⟩
theorem HistAt.alloc {w : World} {g : Nat} {H : List Int} (h : HistAt w g H) (o : Obj) : HistAt (w.alloc o) g H := h.below ((Below.refl w.heap.size w).alloc (Nat.le_refl _) o) h.lt
theorem HistAt.getD {w : World} {g : Nat} {H : List Int} (h : HistAt w g H) (i : Nat) : 0 ≤ H.getD i 0 ∧ H.getD i 0 < 18446744073709551616 := by
  have := atH_word h.words (i : Int)
  unfold atH at this
  rwa [if_neg (by omega), Int.toNat_natCast] at this
theorem getD_atH {H : List Int} (i : Nat) : H.getD i 0 = atH H (i : Int) := by
  unfold atH
  rw [if_neg (by omega), Int.toNat_natCast]

/-- Counts written one behind the other. -/
def putAt : List Int → Nat → List Int → List Int
  | H, _, [] => H
  | H, o, v :: r => putAt (H.set o v) (o + 1) r
theorem putAt_eq (H : List Int) (o : Nat) (l : List Int) (h : o + l.length ≤ H.length) : putAt H o l = H.take o ++ l ++ H.drop (o + l.length) := by
  induction l generalizing H o with
  | nil => simp [putAt]
  | cons v r ih =>
    simp only [List.length_cons] at h
    rw [putAt, ih _ _ (by rw [List.length_set]; omega)]
    have h1 : (H.set o v).take (o + 1) = H.take o ++ [v] := by
      rw [List.take_succ_eq_append_getElem (by rw [List.length_set]; omega), List.take_set_of_le (by omega), List.getElem_set_self]
    have h2 : (H.set o v).drop (o + 1 + r.length) = H.drop (o + (v :: r).length) := by
      rw [List.drop_set_of_lt (by omega)]
      congr 1
      simp only [List.length_cons]; omega
    rw [h1, h2]
    simp
theorem putAt_all {H l : List Int} (h : l.length = H.length) : putAt H 0 l = l := by
  rw [putAt_eq H 0 l (by omega)]
  simp [h]
theorem HistAt.setCells {w : World} {g : Nat} {H : List Int} (h : HistAt w g H) (o : Nat) {l : List Int} (hl : WordsH l) : HistAt (w.setCells g o (l.map (Value.int .u64))) g (putAt H o l) := by
  induction l generalizing w H o with
  | nil => exact h
  | cons v r ih => exact ih (h.set o (hl v (List.mem_cons_self ..))) (o + 1) (fun x hx => hl x (List.mem_cons_of_mem _ hx))
theorem below_cells {B : Nat} {a w : World} {g : Nat} (hg : B ≤ g) (h : Below B a w) (vs : List Value) (o : Nat) : Below B a (w.setCells g o vs) := by
  induction vs generalizing w o with
  | nil => exact h
  | cons v r ih => exact ih (h.setCell (p := ⟨g, o, none⟩) hg v) (o + 1)

set_option maxRecDepth 100000 in
theorem zero_hist (w : World) : (zeroValue 113).run Tryz.prog w = .ok (.agg (arrV H0)) w := by kernel_rfl
/-- A new variable of a type whose nought has many cells. -/
theorem wpList_alloc0 {P : Program} {w : World} {ops : Array Oper} {rest : List Oper} {o : Oper} {a : Act} {Q : Exit → Act → World → Prop} (hgd : o.guard = none) (t : TypeId)
    (ho : o.op = .alloc t) {Z : Array Value} (hb : ∀ w, (zeroValue t).run P w = .ok (.agg Z) w)
    (h : wpList P ops Q rest (a.put o.dst (.pointer (some ⟨w.heap.size, 0, none⟩))) (w.alloc (.cells Z t))) : wpList P ops Q (o :: rest) a w := by
  refine wpList_plain hgd fun K hK => ?_
  unfold Oper.wp
  simp [execOp, ho, Instr.alloc, hb, newVar, newRow, Value.cells, Result.andThen]
  exact hK _ _ h
theorem hist_made (w : World) {Z : Array Value} (hZ : arrV H0 = Z) : HistAt (w.alloc (.cells Z 113)) w.heap.size H0 := by
  subst hZ
  exact ⟨World.alloc_heap_new w _, H0_len, H0_words⟩
/-- 'clear' of all counts. -/
theorem run_clear_all {w : World} {g : Nat} {H : List Int} (h : HistAt w g H) (ty : TypeId) (c : Nat) :
    (Builtin.clear_ #[23] ty #[.slice (some ⟨g, 0, none⟩) 7424 c]).run Tryz.prog w = .ok (.tuple #[]) (w.setCells g 0 (H0.map (Value.int .u64))) := by
  have hz : ∀ w, (zeroValue 24).run Tryz.prog w = .ok (.int .u64 0) w := fun w => by kernel_rfl
  have e : H0.map (Value.int .u64) = List.replicate 7424 (.int .u64 0) := by unfold H0; rw [List.map_replicate]
  rw [e]
  refine Lib.run_clear_slice w _ _ ty _ Tryz.underlying23 hz rfl rfl g 0 7424 c (by omega) (fun j hj => ?_) (fun j _ => ?_)
  · rw [Nat.zero_add, h.cell hj]; rfl
  · rw [Nat.zero_add]; exact h.frozen j

set_option maxHeartbeats 1000000 in
theorem new_any (w : World) : Calls Tryz.prog 72 #[] w fun e w' => e = .returned (.pointer (some ⟨w.heap.size, 0, none⟩)) ∧ HistAt w' w.heap.size H0 ∧ Below w.heap.size w w' := by
  have HB : Hid (∀ w, (zeroValue 113).run Tryz.prog w = .ok (.agg (arrV H0)) w) := zero_hist
  obtain ⟨Z, HZ⟩ : ∃ Z, Hid (arrV H0 = Z) := ⟨_, rfl⟩
  rw [HZ.out] at HB
  have h1 := hist_made w HZ.out
  have hcl := run_clear_all h1 0 7424
  have HF : Hid (HistAt ((w.alloc (.cells Z 113)).setCells w.heap.size 0 (H0.map (Value.int .u64))) w.heap.size H0) := by
    have := h1.setCells 0 H0_words
    rwa [putAt_all rfl] at this
  have HW : Hid (Below w.heap.size w ((w.alloc (.cells Z 113)).setCells w.heap.size 0 (H0.map (Value.int .u64)))) := below_cells (Nat.le_refl _) (bel_al (Below.refl _ _) (Nat.le_refl _) _) _ _
  clear h1
  generalize H0.map (Value.int .u64) = Y at *
  go_enter Tryz.func72, Tryz.ntmps72
  go_wp2_with (refine wpList_alloc0 rfl _ rfl HB.out ?_)
  go_ret
  exact ⟨rfl, HF.out, HW.out⟩
end Go.Proofs.YtadcaonkmncgoaaGreat

namespace Go.Proofs.YtadcaonkmncgoaaGreat
open Go.RowKit
set_option maxRecDepth 20000

theorem RowB.ch {S : Nat → Prop} {w w' : World} {a : Option Addr} {n : Nat} {l : Bks} (h : RowB w a n l) (c : Ch S w w') (hn : 0 < n → ∀ x, a = some x → ¬ S x.block) : RowB w' a n l := by
  obtain ⟨h1, h2, h3, h4⟩ := h
  refine ⟨h1, h2, h3, ?_⟩
  rcases h4 with h4 | ⟨b, off, rfl, hc⟩
  · exact Or.inl h4
  · right
    refine ⟨b, off, rfl, fun i hi => ?_⟩
    have hlt : b < w.heap.size := World.block_lt_of_cell? w _ (hc i hi).1
    have hb := c.block b hlt (hn (by omega) _ rfl)
    have e : ∀ o, w'.cell? ⟨b, o, none⟩ = w.cell? ⟨b, o, none⟩ := fun o => by simp only [World.cell?, hb]
    rw [e, e]
    exact hc i hi
theorem RowB.lt {w : World} {x : Addr} {n : Nat} {l : Bks} (h : RowB w (some x) n l) (hn : 0 < n) : x.block < w.heap.size := by
  obtain ⟨-, -, -, h | ⟨b, off, he, hc⟩⟩ := h
  · omega
  · simp only [Option.some.injEq] at he
    subst he
    exact World.block_lt_of_cell? w _ (hc 0 hn).1

set_option maxHeartbeats 2000000 in
theorem more_any (g : Nat) (H : List Int) (bk n : Int) (w : World) (b0 : 0 ≤ bk) (b1 : bk ≤ 7423) (hn : 0 ≤ n ∧ n < 18446744073709551616) (hH : HistAt w g H) :
    Calls Tryz.prog 82 #[.pointer (some ⟨g, 0, none⟩), .int .i64 bk, .int .u64 n] w fun e w' => e = .returned (.tuple #[]) ∧ HistAt w' g (H.set bk.toNat (satS (atH H bk) n)) ∧ Ch (fun k => k = g) w w' := by
  obtain ⟨k, rfl⟩ := Int.eq_ofNat_of_zero_le b0
  have hk : k < 7424 := by omega
  have hc := hH.cell hk
  have hf := hH.frozen k
  have hw := hH.getD k
  have A := hide (fun w => add_any (H.getD k 0) n hw hn w)
  have HS := hide (hH.set k (satS_word hw hn))
  rw [Int.toNat_natCast, ← getD_atH]
  have hx : addS (H.getD k 0) n = satS (H.getD k 0) n := rfl
  rw [hx] at A
  have HC : Hid (∀ u, Ch (fun j => j = g) w (w.setCell ⟨g, k, none⟩ u)) := fun u => ⟨rfl, rfl, rfl, (KeepsWalks.setCell w _ u).size, fun j _ hn => Below.heap_setCell _ ⟨g, k, none⟩ _ j hn⟩
  have i1 : (0 : Int) ≤ (k : Int) := by omega
  have i2 : (k : Int) < 7424 := by omega
  clear hH hx hw
  generalize satS (H.getD k 0) n = Z at *
  generalize H.getD k 0 = y at *
  generalize H.set k Z = H2 at *
  go_enter Tryz.func82, Tryz.ntmps82
  go_upto_region 0 with fail
  refine wp_region_held_drew (S := fun _ => True) (by kernel_rfl) trivial (fun hHeld => ?_)
  refine held_take (i := 0) (d := (some 6)) (v := ?_) rfl rfl (by kernel_rfl) (by kernel_rfl) (by kernel_rfl) (fun _ _ _ h => h) (Or.inl ⟨by rfl, ?_⟩) (by first | assumption | rfl | trivial) ?_
  rotate_left 1
  · (intro w hSw; (try dsimp only at hSw); (try subst hSw); go_simp; try with_reducible rfl)
  simp only [Act.put, List.setIfInBounds_toArray, List.set_cons_zero, List.set_cons_succ]
  refine held_take (i := 1) (d := (some 7)) (v := ?_) rfl rfl (by kernel_rfl) (by kernel_rfl) (by kernel_rfl) (fun _ _ _ h => h) (Or.inl ⟨by rfl, ?_⟩) (by first | assumption | rfl | trivial) ?_
  rotate_left 1
  · (intro w hSw; (try dsimp only at hSw); (try subst hSw); go_simp; try with_reducible rfl)
  simp only [Act.put, List.setIfInBounds_toArray, List.set_cons_zero, List.set_cons_succ]
  refine held_take (i := 2) (d := (some 8)) (v := ?_) rfl rfl (by kernel_rfl) (by kernel_rfl) (by kernel_rfl) (fun _ _ _ h => h) (Or.inl ⟨by rfl, ?_⟩) (by first | assumption | rfl | trivial) ?_
  rotate_left 1
  · (intro w hSw; (try dsimp only at hSw); (try subst hSw); go_simp; try with_reducible rfl)
  simp only [Act.put, List.setIfInBounds_toArray, List.set_cons_zero, List.set_cons_succ]
  refine held_take (i := 3) (d := (some 9)) (v := ?_) rfl rfl (by kernel_rfl) (by kernel_rfl) (by kernel_rfl) (fun _ _ _ h => h) (Or.inl ⟨by rfl, ?_⟩) (by first | assumption | rfl | trivial) ?_
  rotate_left 1
  · (intro w hSw; (try dsimp only at hSw); (try subst hSw); go_simp; try with_reducible rfl)
  simp only [Act.put, List.setIfInBounds_toArray, List.set_cons_zero, List.set_cons_succ]
  refine held_take (i := 4) (d := (some 10)) (v := ?_) rfl rfl (by kernel_rfl) (by kernel_rfl) (by kernel_rfl) (fun _ _ _ h => h) (Or.inl ⟨by rfl, ?_⟩) (by first | assumption | rfl | trivial) ?_
  rotate_left 1
  · (intro w hSw; (try dsimp only at hSw); (try subst hSw); go_simp; try with_reducible rfl)
  simp only [Act.put, List.setIfInBounds_toArray, List.set_cons_zero, List.set_cons_succ]
  refine held_take (i := 5) (d := (some 11)) (v := ?_) rfl rfl (by kernel_rfl) (by kernel_rfl) (by kernel_rfl) (fun _ _ _ h => h) (Or.inl ⟨by rfl, ?_⟩) (by first | assumption | rfl | trivial) ?_
  rotate_left 1
  · (intro w hSw; (try dsimp only at hSw); (try subst hSw); go_simp; try with_reducible rfl)
  simp only [Act.put, List.setIfInBounds_toArray, List.set_cons_zero, List.set_cons_succ]
  refine held_take (i := 6) (d := (some 12)) (v := ?_) rfl rfl (by kernel_rfl) (by kernel_rfl) (by kernel_rfl) (fun _ _ _ h => h) (Or.inl ⟨by rfl, ?_⟩) (by first | assumption | rfl | trivial) ?_
  rotate_left 1
  · (intro w hSw; (try dsimp only at hSw); (try subst hSw); go_simp; try with_reducible rfl)
  simp only [Act.put, List.setIfInBounds_toArray, List.set_cons_zero, List.set_cons_succ]
  refine held_take (i := 8) (d := (some 14)) (v := ?_) rfl rfl (by kernel_rfl) (by kernel_rfl) (by kernel_rfl) (fun _ _ _ h => h) (Or.inl ⟨by rfl, ?_⟩) (by first | assumption | rfl | trivial) ?_
  rotate_left 1
  · (intro w hSw; (try dsimp only at hSw); (try subst hSw); go_simp; try with_reducible rfl)
  simp only [Act.put, List.setIfInBounds_toArray, List.set_cons_zero, List.set_cons_succ]
  refine held_take (i := 10) (d := (some 16)) (v := ?_) rfl rfl (by kernel_rfl) (by kernel_rfl) (by kernel_rfl) (fun _ _ _ h => h) (Or.inl ⟨by rfl, ?_⟩) (by first | assumption | rfl | trivial) ?_
  rotate_left 1
  · (intro w hSw; (try dsimp only at hSw); (try subst hSw); go_simp; try with_reducible rfl)
  simp only [Act.put, List.setIfInBounds_toArray, List.set_cons_zero, List.set_cons_succ]
  refine held_take (i := 11) (d := (some 17)) (v := ?_) rfl rfl (by kernel_rfl) (by kernel_rfl) (by kernel_rfl) (fun _ _ _ h => h) (Or.inl ⟨by rfl, ?_⟩) (by first | assumption | rfl | trivial) ?_
  rotate_left 1
  · (intro w hSw; (try dsimp only at hSw); (try subst hSw); go_simp; try with_reducible rfl)
  simp only [Act.put, List.setIfInBounds_toArray, List.set_cons_zero, List.set_cons_succ]
  refine held_next (i := 7) (by kernel_rfl) rfl (by rfl) (fun K hK => ?_)
  go_simp
  refine hK.out _ _ trivial ?_
  clear hK
  refine held_next (i := 9) (by kernel_rfl) rfl (by rfl) (fun K hK => ?_)
  go_simp
  refine (A.out _).mono ?_
  rintro e W4 ⟨rfl, rfl⟩
  go_wp2_with fail
  refine hK.out _ _ trivial ?_
  clear hK
  refine held_take (i := 12) (d := (some 18)) (v := ?_) rfl rfl (by kernel_rfl) (by kernel_rfl) (by kernel_rfl) (fun _ _ _ h => h) (Or.inl ⟨by rfl, ?_⟩) (by first | assumption | rfl | trivial) ?_
  rotate_left 1
  · (intro w hSw; (try dsimp only at hSw); (try subst hSw); go_simp; try with_reducible rfl)
  simp only [Act.put, List.setIfInBounds_toArray, List.set_cons_zero, List.set_cons_succ]
  refine held_next (i := 13) (by kernel_rfl) rfl (by rfl) (fun K hK => ?_)
  go_simp
  refine hK.out _ _ trivial ?_
  clear hK
  refine wpAnyH_done (by kernel_rfl) ?_ _
  go_wp2
  go_end0
  have hC := HC.out (.int .u64 Z)
  exact ⟨rfl, HS.out.drew, ⟨hC.os, hC.tape, hC.output, hC.size, hC.block⟩⟩

/-- One number more. -/
def addH (H : List Int) (v n : Int) : List Int := H.set (bucketS v).toNat (satS (atH H (bucketS v)) n)
theorem hadd_any (g : Nat) (H : List Int) (v n : Int) (w : World) (hv : W64 v) (hn : 0 ≤ n ∧ n < 18446744073709551616) (hH : HistAt w g H) :
    Calls Tryz.prog 74 #[.pointer (some ⟨g, 0, none⟩), .int .u64 v, .int .u64 n] w fun e w' => e = .returned (.tuple #[]) ∧ HistAt w' g (addH H v n) ∧ Ch (fun k => k = g) w w' := by
  have B := hide (bucket_any v w hv)
  obtain ⟨b0, b1⟩ := bucketS_range hv.1 hv.2
  have M := hide (more_any g H (bucketS v) n w b0 b1 hn hH)
  unfold addH
  clear hH hv
  generalize bucketS v = bk at *
  go_enter Tryz.func74, Tryz.ntmps74
  go_wp2_with fail
  refine B.out.mono ?_
  rintro e w' ⟨rfl, rfl⟩
  go_wp2_with fail
  refine M.out.mono ?_
  rintro e w2 ⟨rfl, h1, h2⟩
  have H1 := hide h1
  have H2 := hide h2
  clear h1 h2 M B
  go_wp2
  go_end0
  exact ⟨rfl, H1.out, H2.out⟩

theorem addAll_snoc (H : List Int) (l : Bks) (x : Int × Int) : addAll H (l ++ [x]) = (addAll H l).set x.1.toNat (satS (atH (addAll H l) x.1) x.2) := by
  unfold addAll
  rw [List.foldl_append]
  rfl
theorem HistAt.challoc {S : Nat → Prop} {w wr : World} {g : Nat} {H : List Int} (h : HistAt wr g H) (_c : Ch S w wr) (o : Obj) : HistAt (wr.alloc o) g H := h.alloc o
end Go.Proofs.YtadcaonkmncgoaaGreat

namespace Go.Proofs.YtadcaonkmncgoaaGreat
open Go.RowKit
set_option maxRecDepth 20000

theorem take_ints {l : List Int} {k : Nat} (h : k < l.length) : l.take (k + 1) = l.take k ++ [l.getD k 0] := by
  rw [List.take_succ_eq_append_getElem h, List.getD_eq_getElem?_getD, List.getElem?_eq_getElem h]
  rfl
theorem drop_ints {l : List Int} {k : Nat} (h : k < l.length) : l.drop k = l.getD k 0 :: l.drop (k + 1) := by
  rw [List.drop_eq_getElem_cons h, List.getD_eq_getElem?_getD, List.getElem?_eq_getElem h]
  rfl
theorem wordsH_take {l : List Int} (h : WordsH l) (k : Nat) : WordsH (l.take k) := fun x hx => h x (List.mem_of_mem_take hx)

theorem count_spS {w : World} {g : Nat} {H : List Int} (hH : HistAt w g H) : satAll 0 (H.take 7424) = countS (spS H) := by
  unfold countS
  rw [count_same hH.words, List.take_of_length_le (by rw [hH.len]; omega)]
theorem slice_seen (g k : Nat) (hk : k < 7424) (w : World) :
    (Instr.sliceAt 111 (.pointer (some ⟨g, 0, none⟩)) none (some (.int .i64 ((k : Int) + 1))) none).run Tryz.prog w = .ok (.slice (some ⟨g, 0, none⟩) (k + 1) 7424) w := by
  have hl : Tryz.prog.arrayLen 111 = 7424 := by kernel_rfl
  rw [run_sliceAt_array_h (P := Tryz.prog) w 111 ⟨g, 0, none⟩ Tryz.underlying111 .i64 ((k : Int) + 1) (by omega) (by rw [hl]; omega), hl]
  have hs : (sizeOf (Tryz.prog.elem 111)).run Tryz.prog w = .ok 1 w := by kernel_rfl
  rw [hs]
  simp only [Result.andThen, slicedAt, show ((k : Int) + 1).toNat = k + 1 by omega]
  simp [Addr.add]
end Go.Proofs.YtadcaonkmncgoaaGreat

namespace Go.Proofs.YtadcaonkmncgoaaGreat
open Go.RowKit
set_option maxRecDepth 20000

theorem spF_snoc (k : Int) (H : List Int) (y : Int) : spF k (H ++ [y]) = spF k H ++ (if 0 < y then [(k + H.length, y)] else []) := by
  induction H generalizing k with
  | nil =>
    simp only [List.nil_append, spF, List.length_nil]
    split
    · simp
    · rfl
  | cons c t ih =>
    rw [List.cons_append, spF, spF, ih, List.length_cons]
    rw [show k + 1 + (t.length : Int) = k + ((t.length + 1 : Nat) : Int) by omega]
    split <;> simp
theorem spF_len (k : Int) (H : List Int) : (spF k H).length ≤ H.length := by
  induction H generalizing k with
  | nil => exact Nat.le_refl _
  | cons c t ih =>
    have := ih (k + 1)
    rw [spF]
    split <;> simp only [List.length_cons] <;> omega

set_option maxHeartbeats 4000000 in
theorem hbuckets_any (g : Nat) (H : List Int) (w : World) (hH : HistAt w g H) :
    Calls Tryz.prog 77 #[.pointer (some ⟨g, 0, none⟩)] w fun e w' => ∃ a' c', e = .returned (.slice a' (spS H).length c') ∧ OwnB w' w.heap.size a' (spS H).length c' (spS H) ∧ Below w.heap.size w w' := by
  obtain ⟨i0, hi, hz0, hz1, hz2⟩ := info_parts Tryz.infoB
  have HH := hide hH
  clear hH
  go_enter Tryz.func77, Tryz.ntmps77
  go_wp2
  go_loopw [3, 11] (fun m i wr => ∃ (am : Option Addr) (nm cm k : Nat) (pre : Bks), m = .slice am nm cm ∧ i = .int .i64 k ∧ k ≤ 7424 ∧ nm ≤ k ∧ Hid (pre.length = nm ∧ pre = spF 0 (H.take k)) ∧ Hid (OwnB wr w.heap.size am nm cm pre) ∧ Hid (Below w.heap.size w wr)) (fun _ i _ => 7424 - (intOf i).toNat)
  case atStart => exact ⟨none, 0, 0, 0, [], rfl, rfl, by omega, by omega, ⟨rfl, rfl⟩, ownB_nil _ _, Below.refl _ _⟩
  case round =>
    obtain ⟨am, nm, cm, k, pre, rfl, rfl, hk, hnm, HP, HO, HB⟩ := hrel
    have HBW : Hid (w.heap.size ≤ wr.heap.size) := HB.out.size
    by_cases hlt : k < 7424
    · have hc := (HH.out.below HB.out HH.out.lt).cell (i := k) (by omega)
      have hy := HH.out.getD k
      have HTK := hide (take_ints (l := H) (k := k) (by rw [HH.out.len]; omega))
      have HLK : Hid ((H.take k).length = k) := by show _ = _; rw [List.length_take, HH.out.len]; omega
      have i1 : (0 : Int) ≤ (k : Int) := by omega
      have i2 : (k : Int) < 7424 := by omega
      generalize H.getD k 0 = y at *
      obtain ⟨y0, y1⟩ := hy
      by_cases hp : 0 < y
      · have HN : Hid ((pre ++ [((k : Int), y)]).length = nm + 1 ∧ pre ++ [((k : Int), y)] = spF 0 (H.take (k + 1))) := by
          refine ⟨by rw [List.length_append, HP.out.1]; rfl, ?_⟩
          rw [HTK.out, spF_snoc, if_pos hp, ← HP.out.2, HLK.out]
          simp
        go_wp2_with (at_builtin; refine wpList_append_bks _ rfl _ _ 22 rfl w.heap.size i0 Tryz.underlying22 hi hz0 hz1 hz2 am nm cm pre rfl (HO.out.alloc _) ⟨wr.heap.size, 0, none⟩ 1 1 [((k : Int), y)] rfl rfl (two_cells wr ((k : Int), y) _) (by omega) (by have := HBW.out; simp; omega) ?_)
        intro a2 c2 w2 o2 b2
        have O2 := hide o2
        have K2 : Hid (Below w.heap.size w w2) := (bel_al HB.out (Nat.le_refl _) _).trans b2
        clear o2 b2 HO HB hc
        go_wp2
        go_roundw
        case rel => exact ⟨a2, nm + 1, c2, k + 1, _, rfl, by go_num, by omega, by omega, HN, O2, K2⟩
        case measure => simp [intOf]; omega
      · have HN : Hid (pre.length = nm ∧ pre = spF 0 (H.take (k + 1))) := by
          refine ⟨HP.out.1, ?_⟩
          rw [HTK.out, spF_snoc, if_neg hp, ← HP.out.2]
          simp
        go_wp2
        go_roundw
        case rel => exact ⟨am, nm, cm, k + 1, pre, rfl, by go_num, by omega, by omega, HN, HO, HB⟩
        case measure => simp [intOf]; omega
    · have : k = 7424 := by omega
      subst this
      have HE : Hid (pre = spS H ∧ (spS H).length = nm) := by
        have h1 := HP.out.2
        rw [List.take_of_length_le (by rw [HH.out.len]; omega)] at h1
        refine ⟨h1, ?_⟩
        show (spF 0 H).length = nm
        rw [← h1]
        exact HP.out.1
      rw [HE.out.1] at HO
      go_wp2
      go_ret
      rw [HE.out.2]
      exact ⟨am, cm, rfl, HO, HB⟩
end Go.Proofs.YtadcaonkmncgoaaGreat
