/-
  What the law's own layer of frames ('laid') comes to: a contract, for every world.
  Conditions: the slice shows its texts.
-/
import Derived.Test.YtbpmmeagpefglabFrameP
import Derived.Test.YtbpmmeagpefglabFrameL
import Derived.Test.YtbpmmeagpefglabFrameC
import Derived.Lib.ConvBytes
namespace Go.Proofs.Ytbpmmeagpefglab
open Go.RowKit

/-- A slice of n texts that shows ss. -/
def RowX (w : World) (a : Option Addr) (n : Nat) (ss : List ByteArray) : Prop :=
  ss.length = n ∧ n ≤ 140737488355328 ∧ (n = 0 ∨ ∃ b off, a = some ⟨b, off, none⟩ ∧ ∀ i, i < n → w.cell? ⟨b, off + i, none⟩ = some (.string (ss.getD i ByteArray.empty)))
theorem RowX.below {B : Nat} {w w' : World} {a : Option Addr} {n : Nat} {ss : List ByteArray} (h : RowX w a n ss) (hb : Below B w w') (hB : w.heap.size ≤ B) : RowX w' a n ss := by
  obtain ⟨h1, h3, h4⟩ := h
  refine ⟨h1, h3, ?_⟩
  rcases h4 with h4 | ⟨b, off, rfl, hc⟩
  · exact Or.inl h4
  · right
    refine ⟨b, off, rfl, fun i hi => ?_⟩
    have hlt : b < w.heap.size := World.block_lt_of_cell? w _ (hc i hi)
    rw [hb.cell (p := ⟨b, off + i, none⟩) (Nat.lt_of_lt_of_le hlt hB)]
    exact hc i hi

/-- Texts that the law lays. -/
def fitsB (s : ByteArray) : Bool := decide (1 ≤ s.size ∧ s.size ≤ 2000)
def bodiesK (ss : List ByteArray) (k : Nat) : List (List Int) := ((ss.take k).filter fitsB).map numsOf
/-- Where each frame ends. -/
def endsFrom : Nat → List (List Int) → List Int
  | _, [] => []
  | k, s :: t => ((k + (frameS s).length : Nat) : Int) :: endsFrom (k + (frameS s).length) t
def endsS (gs : List (List Int)) : List Int := endsFrom 0 gs

theorem endsFrom_snoc (gs : List (List Int)) (s : List Int) (k : Nat) : endsFrom k (gs ++ [s]) = endsFrom k gs ++ [((k + (laidS (gs ++ [s])).length : Nat) : Int)] := by
  induction gs generalizing k with
  | nil => simp [endsFrom, laidS]
  | cons r t ih => rw [List.cons_append, endsFrom, ih, endsFrom, List.cons_append, laidS_cons, List.length_append, ← Nat.add_assoc k]
theorem endsS_snoc (gs : List (List Int)) (s : List Int) : endsS (gs ++ [s]) = endsS gs ++ [((laidS (gs ++ [s])).length : Int)] := by
  have := endsFrom_snoc gs s 0
  rwa [Nat.zero_add] at this
theorem endsFrom_len (gs : List (List Int)) (k : Nat) : (endsFrom k gs).length = gs.length := by
  induction gs generalizing k with
  | nil => rfl
  | cons r t ih => rw [endsFrom, List.length_cons, ih, List.length_cons]
theorem endsFrom_get (gs : List (List Int)) (k j : Nat) (hj : j < gs.length) : (endsFrom k gs).getD j 0 = ((k + (laidS (gs.take (j + 1))).length : Nat) : Int) := by
  induction gs generalizing k j with
  | nil => simp at hj
  | cons r t ih =>
    rw [endsFrom, List.take_succ_cons, laidS_cons, List.length_append]
    cases j with
    | zero => simp [laidS]
    | succ j => rw [List.getD_cons_succ, ih _ j (by simpa using hj), Nat.add_assoc]
theorem endsS_get (gs : List (List Int)) (j : Nat) (hj : j < gs.length) : (endsS gs).getD j 0 = ((laidS (gs.take (j + 1))).length : Int) := by
  have := endsFrom_get gs 0 j hj
  rwa [Nat.zero_add] at this

theorem bodiesK_yes {ss : List ByteArray} {k : Nat} (hk : k < ss.length) (h : fitsB (ss.getD k ByteArray.empty) = true) : bodiesK ss (k + 1) = bodiesK ss k ++ [numsOf (ss.getD k ByteArray.empty)] := by
  unfold bodiesK
  rw [List.getD_eq_getElem?_getD, List.getElem?_eq_getElem hk] at h ⊢
  rw [List.take_succ_eq_append_getElem hk, List.filter_append, List.map_append]
  simp only [Option.getD_some] at h ⊢
  simp [h]
theorem bodiesK_no {ss : List ByteArray} {k : Nat} (hk : k < ss.length) (h : fitsB (ss.getD k ByteArray.empty) = false) : bodiesK ss (k + 1) = bodiesK ss k := by
  unfold bodiesK
  rw [List.getD_eq_getElem?_getD, List.getElem?_eq_getElem hk] at h
  rw [List.take_succ_eq_append_getElem hk, List.filter_append, List.map_append]
  simp only [Option.getD_some] at h ⊢
  simp [h]
theorem bodiesK_good (ss : List ByteArray) (k : Nat) : Good (bodiesK ss k) := by
  intro s hs
  obtain ⟨b, hb, rfl⟩ := List.mem_map.1 hs
  have h := (List.mem_filter.1 hb).2
  unfold fitsB at h
  have h' := of_decide_eq_true h
  rw [numsOf_len]
  exact ⟨by omega, by omega, fun z hz => u8_of_wf (numsOf_wf b z hz)⟩
theorem bodiesK_short (ss : List ByteArray) (k : Nat) : (laidS (bodiesK ss k)).length ≤ 2014 * k ∧ (bodiesK ss k).length ≤ k := by
  have h1 : (bodiesK ss k).length ≤ k := by
    unfold bodiesK
    rw [List.length_map]
    exact Nat.le_trans (List.length_filter_le _ _) (by rw [List.length_take]; omega)
  have h2 : ∀ gs : List (List Int), (∀ s ∈ gs, s.length ≤ 2000) → (laidS gs).length ≤ 2014 * gs.length := by
    intro gs hg
    induction gs with
    | nil => simp [laidS]
    | cons s t ih =>
      have := frameS_long s
      have := hg s (by simp)
      have := ih (fun x hx => hg x (List.mem_cons_of_mem _ hx))
      rw [laidS_cons, List.length_append, List.length_cons]; omega
  refine ⟨Nat.le_trans (h2 _ ?_) (Nat.mul_le_mul_left _ h1), h1⟩
  intro s hs
  obtain ⟨b, hb, rfl⟩ := List.mem_map.1 hs
  have h := (List.mem_filter.1 hb).2
  unfold fitsB at h
  have h' := of_decide_eq_true h
  rw [numsOf_len]
  omega

theorem conv_row (w : World) (s : ByteArray) (hs : s.size ≤ 281474976710656) : Row .u8 (Lib.bytesWorld w 5 s) (some ⟨w.heap.size, 0, none⟩) s.size (numsOf s) := by
  refine ⟨numsOf_len s, hs, numsOf_wf s, Or.inr ⟨w.heap.size, 0, rfl, fun i hi => ?_⟩⟩
  rw [Nat.zero_add, Lib.bytesWorld_cell w _ s i hi]
  unfold numsOf
  have hl : i < s.data.toList.length := by rw [Array.length_toList]; exact hi
  rw [List.getD_eq_getElem?_getD, List.getD_eq_getElem?_getD, List.getElem?_map, List.getElem?_eq_getElem hl]
  rfl
theorem conv_below (w : World) (s : ByteArray) : Below w.heap.size w (Lib.bytesWorld w 5 s) := by
  refine ⟨rfl, rfl, rfl, by rw [Lib.bytesWorld_size]; omega, fun k hk => Lib.bytesWorld_at_old w _ s k hk⟩

set_option maxHeartbeats 4000000 in
set_option maxRecDepth 100000 in
theorem laid_any (a : Option Addr) (n cap : Nat) (ss : List ByteArray) (w : World) (hr : RowX w a n ss) :
    Calls Try.prog 8 #[.slice a n cap] w fun e w' => ∃ ab cb ae ce, e = .returned (.tuple #[.slice ab (laidS (bodiesK ss 20)).length cb, .slice ae (bodiesK ss 20).length ce, .bool true]) ∧
      Mine w' w.heap.size ab (laidS (bodiesK ss 20)).length cb (laidS (bodiesK ss 20)) ∧ w'.ownsRow w.heap.size 3 1 (.slice ae (bodiesK ss 20).length ce) (bodiesK ss 20).length ((endsS (bodiesK ss 20)).map (Value.int .i64)) ∧ Below w.heap.size w w' := by
  obtain ⟨i1, hi1, hz10, hz11, hz12⟩ := info_parts Try.infoI
  have HR := hide hr
  have HLS : Hid (ss.length = n) := hr.1
  have hn := hr.2.1
  clear hr
  go_enter Try.func8, Try.ntmps8
  go_wp2
  go_loopw [5, 6, 7] (fun x y i wr => ∃ (ab : Option Addr) (nb cb : Nat) (ae : Option Addr) (ne ce k : Nat), x = .slice ab nb cb ∧ y = .slice ae ne ce ∧ i = .int .i64 k ∧ k ≤ n ∧ k ≤ 20 ∧ nb ≤ 40280 ∧ ne ≤ 20 ∧ Hid ((laidS (bodiesK ss k)).length = nb ∧ (bodiesK ss k).length = ne) ∧
    Hid (Mine wr w.heap.size ab nb cb (laidS (bodiesK ss k))) ∧ Hid (wr.ownsRow w.heap.size 3 1 (.slice ae ne ce) ne ((endsS (bodiesK ss k)).map (Value.int .i64))) ∧ Hid (Below w.heap.size w wr)) (fun _ _ i _ => 20 - (intOf i).toNat)
  case atStart => exact ⟨none, 0, 0, none, 0, 0, 0, rfl, rfl, rfl, by omega, by omega, by omega, by omega, ⟨rfl, rfl⟩, own_nil _ _ _ _, World.ownsRow_nil _ _ _ _, Below.refl _ _⟩
  case round =>
    obtain ⟨ab, nb, cb, ae, ne, ce, k, rfl, rfl, rfl, hk, hk20, hnb, hne, HL, HO, HE, HW⟩ := hrel
    by_cases hlt : k < n ∧ k < 20
    · obtain ⟨h1, h2⟩ := hlt
      have h1' : (k : Int) < n := by omega
      have h2' : (k : Int) < 20 := by omega
      obtain ⟨_, _, h0 | ⟨bs, off, rfl, hcell⟩⟩ := HR.out.below HW.out (Nat.le_refl _)
      · omega
      have hck := hcell k h1
      clear hcell
      have hkl : k < ss.length := by rw [HLS.out]; exact h1
      have BY := hide (bodiesK_yes (ss := ss) hkl)
      have BN := hide (bodiesK_no (ss := ss) hkl)
      have HG := hide (bodiesK_good ss (k + 1))
      have HSH := hide (bodiesK_short ss (k + 1))
      clear hkl
      obtain ⟨s, hs⟩ : ∃ s, ss.getD k ByteArray.empty = s := ⟨_, rfl⟩
      rw [hs] at hck BY BN
      clear hs
      by_cases hf : 1 ≤ s.size ∧ s.size ≤ 2000
      · obtain ⟨f1, f2⟩ := hf
        have t1 : ¬ ((s.size : Int) < 1) := by omega
        have t2 : ¬ ((2000 : Int) < s.size) := by omega
        have HB : Hid (bodiesK ss (k + 1) = bodiesK ss k ++ [numsOf s]) := BY.out (decide_eq_true ⟨f1, f2⟩)
        have hcv := Lib.run_convert_string_bytes (P := Try.prog) wr 9 22 5 s Try.underlying9 Try.underlying22 Try.underlying5
        have KC := hide (conv_below wr s)
        have HO0 := hide (HO.out.row8 (by omega) (laidS_byte (bodiesK_good ss k)))
        have P := hide (put_frame ab nb cb (laidS (bodiesK ss k)) (some ⟨wr.heap.size, 0, none⟩) s.size (grownCap wr s.size 0 5) (numsOf s) (Lib.bytesWorld wr 5 s) (HO0.out.below KC.out (Nat.le_refl _)) (conv_row wr s (by omega)) (by omega) f1 (by omega))
        have HLL : Hid (laidS (bodiesK ss (k + 1)) = laidS (bodiesK ss k) ++ frameS (numsOf s)) := by show _ = _; rw [HB.out, laidS_append, laidS_cons]; simp [laidS]
        have HNB : Hid ((laidS (bodiesK ss (k + 1))).length = nb + (frameS (numsOf s)).length) := by show _ = _; rw [HLL.out, List.length_append, HL.out.1]
        have HNE : Hid ((bodiesK ss (k + 1)).length = ne + 1) := by show _ = _; rw [HB.out, List.length_append, HL.out.2]; rfl
        have HEE : Hid (endsS (bodiesK ss (k + 1)) = endsS (bodiesK ss k) ++ [((nb + (frameS (numsOf s)).length : Nat) : Int)]) := by show _ = _; rw [← HNB.out, HB.out, endsS_snoc]
        rw [← HLL.out] at P
        have hS1 := HSH.out.1
        have hS2 := HSH.out.2
        rw [HNB.out] at hS1
        rw [HNE.out] at hS2
        have HLB := hide (laidS_byte HG.out)
        clear HO HO0 BY BN HB HLL HG HSH
        generalize (frameS (numsOf s)).length = q at *
        have HEW := hide (row_ch HE.out (Ch.of_below KC.out) (fun _ _ => id))
        have KW : Hid (Below w.heap.size w (Lib.bytesWorld wr 5 s)) := bel_to HW.out (Nat.le_refl _) KC.out
        generalize Lib.bytesWorld wr 5 s = wb at *
        go_wp2_with fail
        refine P.out.mono ?_
        rintro e w2 ⟨a2, c2, rfl, o2, k2⟩
        have O2 := hide (o2.mono (base' := w.heap.size) KW.out.size)
        have E2 := hide (row_ch HEW.out (Ch.of_below k2) (fun _ _ => id))
        have K2 : Hid (Below w.heap.size w w2) := bel_to KW.out (Nat.le_refl _) k2
        have hsz2 : w.heap.size ≤ w2.heap.size := K2.out.size
        clear o2 k2 P HE HEW KW HW KC hck hcv
        go_wp2_with (at_builtin; refine wpList_push _ rfl _ _ 30 rfl w.heap.size 3 i1 (.int .i64 0) 8 Try.underlying30 hi1 hz10 hz11 hz12 rfl ae ne ce ((endsS (bodiesK ss k)).map (Value.int .i64)) rfl (E2.out.alloc _) ⟨w2.heap.size, 0, none⟩ 1 (.int .i64 ((nb : Int) + q)) rfl (one_intcell w2 _ _) rfl (by unfold maxLen; omega) (by omega) (by simp; omega) ?_)
        intro g3 c3 w3 o3 g3' n3
        have C3 : Hid (Ch (fun g => (Value.slice ae ne ce).ownBlock = some g) w2 w3) := ((Ch.refl (fun g => (Value.slice ae ne ce).ownBlock = some g) w2).alloc (.cells #[.int .i64 ((nb : Int) + q)] 3)).trans (Ch.grown g3')
        have O3 := hide (row_ch O2.out C3.out (fun g h h' => (row_cells E2.out h').1.ne (row_cells O2.out h).1 (by decide) rfl))
        have E3 : Hid (w3.ownsRow w.heap.size 3 1 (.slice (some ⟨g3, 0, none⟩) (ne + 1) c3) (ne + 1) ((endsS (bodiesK ss (k + 1))).map (Value.int .i64))) := by
          show w3.ownsRow _ _ _ _ _ _
          rw [HEE.out, List.map_append]
          exact o3
        have K3 : Hid (Below w.heap.size w w3) := K2.out.trans (C3.out.below hsz2 (fun g hg h => by have := (row_cells E2.out h).2; omega))
        clear o3 g3' n3 C3 O2 E2 K2
        go_wp2
        go_roundw
        case rel => exact ⟨a2, nb + q, c2, some ⟨g3, 0, none⟩, ne + 1, c3, k + 1, rfl, rfl, by go_num, by omega, by omega, by omega, by omega, ⟨HNB.out, HNE.out⟩, O3, E3, K3⟩
        case measure => simp [intOf]; omega
      · have HB : Hid (bodiesK ss (k + 1) = bodiesK ss k) := BN.out (decide_eq_false hf)
        have hf' : s.size < 1 ∨ 2000 < s.size := by omega
        clear BY BN hf HG HSH
        rcases hf' with f1 | f1
        · have t1 : (s.size : Int) < 1 := by omega
          go_wp2
          go_roundw
          case rel => exact ⟨ab, nb, cb, ae, ne, ce, k + 1, rfl, rfl, by go_num, by omega, by omega, hnb, hne, by rw [HB.out]; exact HL, by rw [HB.out]; exact HO, by rw [HB.out]; exact HE, HW⟩
          case measure => simp [intOf]; omega
        · have t1 : ¬ ((s.size : Int) < 1) := by omega
          have t2 : (2000 : Int) < s.size := by omega
          go_wp2
          go_roundw
          case rel => exact ⟨ab, nb, cb, ae, ne, ce, k + 1, rfl, rfl, by go_num, by omega, by omega, hnb, hne, by rw [HB.out]; exact HL, by rw [HB.out]; exact HO, by rw [HB.out]; exact HE, HW⟩
          case measure => simp [intOf]; omega
    · have HB : Hid (bodiesK ss 20 = bodiesK ss k) := by
        show _ = _
        unfold bodiesK
        by_cases e : k = 20
        · rw [e]
        · have : k = n := by omega
          rw [List.take_of_length_le (by rw [HLS.out]; omega), List.take_of_length_le (i := k) (by rw [HLS.out]; omega)]
      have hk' : ¬ ((k : Int) < n) ∨ ¬ ((k : Int) < 20) := by omega
      have HF : Hid ((laidS (bodiesK ss 20)).length = nb ∧ (bodiesK ss 20).length = ne ∧ Mine wr w.heap.size ab nb cb (laidS (bodiesK ss 20)) ∧ wr.ownsRow w.heap.size 3 1 (.slice ae ne ce) ne ((endsS (bodiesK ss 20)).map (Value.int .i64))) := by
        rw [HB.out]; exact ⟨HL.out.1, HL.out.2, HO.out, HE.out⟩
      have HEND : Hid (∀ e : Ending, e = .returned (.tuple #[.slice ab nb cb, .slice ae ne ce, .bool true]) → ∃ ab cb ae ce, e = .returned (.tuple #[.slice ab (laidS (bodiesK ss 20)).length cb, .slice ae (bodiesK ss 20).length ce, .bool true]) ∧
          Mine wr w.heap.size ab (laidS (bodiesK ss 20)).length cb (laidS (bodiesK ss 20)) ∧ wr.ownsRow w.heap.size 3 1 (.slice ae (bodiesK ss 20).length ce) (bodiesK ss 20).length ((endsS (bodiesK ss 20)).map (Value.int .i64)) ∧ Below w.heap.size w wr) := by
        obtain ⟨q1, q2, q3, q4⟩ := HF.out
        rintro e rfl
        rw [q1, q2]
        exact ⟨ab, cb, ae, ce, rfl, q3, q4, HW.out⟩
      clear HF HB HL HO HE hlt
      rcases hk' with h | h
      · go_wp2
        go_ret3
        exact HEND.out _ rfl
      · by_cases h3 : (k : Int) < n
        · go_wp2
          go_ret3
          exact HEND.out _ rfl
        · go_wp2
          go_ret3
          exact HEND.out _ rfl
end Go.Proofs.Ytbpmmeagpefglab
