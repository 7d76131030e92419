/-
  What fnv.Each hands back: its iterator, over a row of its own that holds each text's number, in order: a contract, for every world.
  Conditions: the slice shows its texts, each as long as a text may be; there is room for 8 bytes a text.
-/
import Derived.Test.YtllipocbaknkpaaFnvC
import Derived.Deep.RegionWith
import Derived.Deep.DrawnRows
namespace Go.Proofs.Ytllipocbaknkpaa
open Go.RowKit
attribute [local go_sem ↓] Go.wp_at_zero Go.wp_at_succ

/-- A text's number. -/
def numOf (s : ByteArray) : Int := fnvOf (numsOf s)
/-- The row once k numbers are laid. -/
def laidN (ss : List ByteArray) (k : Nat) : List Int := (ss.take k).map numOf ++ List.replicate (ss.length - k) 0

theorem numOf_word (s : ByteArray) : W64 (numOf s) := fnvOf_word _
theorem laidN_start (ss : List ByteArray) : laidN ss 0 = List.replicate ss.length 0 := by simp [laidN]
theorem laidN_end (ss : List ByteArray) : laidN ss ss.length = ss.map numOf := by simp [laidN]
theorem laidN_len (ss : List ByteArray) {k : Nat} (hk : k ≤ ss.length) : (laidN ss k).length = ss.length := by simp [laidN]; omega
theorem laidN_step (ss : List ByteArray) {k : Nat} (hk : k < ss.length) : (laidN ss k).set k (numOf (ss.getD k ByteArray.empty)) = laidN ss (k + 1) := by
  obtain ⟨m, hm⟩ : ∃ m, ss.length - k = m + 1 := ⟨ss.length - k - 1, by omega⟩
  have hm2 : ss.length - (k + 1) = m := by omega
  have hl : ((ss.take k).map numOf).length = k := by rw [List.length_map, List.length_take]; omega
  unfold laidN
  rw [hm, hm2, List.set_append_right _ _ (by omega), hl, Nat.sub_self, List.replicate_succ, List.set_cons_zero, take_text hk, List.map_append, List.append_assoc]
  rfl

theorem own_stored {w : World} {base g n cap : Nat} {zs : List Int} (h : Own 22 .u64 w base (some ⟨g, 0, none⟩) n cap zs) (j : Nat) (z : Int) :
    Own 22 .u64 (w.setCell ⟨g, j, none⟩ (.int .u64 z)) base (some ⟨g, 0, none⟩) n cap (zs.set j z) := by
  have := (World.ownsRow.stored h j (.int .u64 z)).1
  rw [← List.map_set] at this
  exact this

set_option maxHeartbeats 2000000 in
theorem each_any (a : Option Addr) (n cap : Nat) (ss : List ByteArray) (w : World) (hr : RowX w a n ss) (hn : n * 8 ≤ 140737488355328) (hss : ∀ s ∈ ss, s.size ≤ maxLen) :
    Calls Try.prog 13 #[.slice a n cap] w fun e w' => ∃ Bk g, e = .returned (.func (.func 16) #[] #[.pointer (some ⟨Bk, 0, none⟩)]) ∧ Boxed w' Bk 30 (.slice (some ⟨g, 0, none⟩) n n) ∧
      Own 22 .u64 w' w.heap.size (some ⟨g, 0, none⟩) n n (ss.map numOf) ∧ Below w.heap.size w w' := by
  obtain ⟨i1, hi1, hz10, hz11, hz12⟩ := info_parts Try.infoN
  have HR := hide hr
  have HL := hide hr.1
  have HSS := hide hss
  clear hr hss
  go_enter Try.func13, Try.ntmps13
  go_wp2_with (refine wpList_make_full _ rfl _ _ 30 rfl w.heap.size 22 i1 (.int .u64 0) 1 Try.underlying30 hi1 hz10 hz11 .i64 .i64 _ _ n rfl rfl rfl rfl (by rw [hz12]; omega) (by unfold maxLen; omega) (Nat.le_refl _) ?_)
  intro w1 o1 g1
  have O1 : Hid (Own 22 .u64 w1 w.heap.size (some ⟨w.heap.size, 0, none⟩) n n (laidN ss 0)) := by
    show w1.ownsRow _ _ _ _ _ _
    rw [laidN_start, List.map_replicate, HL.out]
    rw [← toList_madeCells_one]; exact o1
  have K1 : Hid (Below w.heap.size w w1) := (Below.refl _ _).grown g1 (Nat.le_refl _) (fun k hk => by simp at hk)
  have HG1 : Hid (w.heap.size < w1.heap.size) := by
    obtain ⟨_, h | ⟨g, c, cur, h1, _, h3, _⟩⟩ := id O1.out
    · simp at h
    · simp only [Value.slice.injEq, Option.some.injEq, Addr.mk.injEq, and_true, true_and] at h1
      obtain ⟨rfl, _⟩ := h1
      exact (Array.getElem?_eq_some_iff.1 h3).1
  have O2 := hide (O1.out.alloc (.cells #[.slice (some ⟨w.heap.size, 0, none⟩) n n] 30))
  have B2 := hide (Boxed.new w1 30 (.slice (some ⟨w.heap.size, 0, none⟩) n n))
  have K2 := hide (bel_al K1.out (Nat.le_refl _) (.cells #[.slice (some ⟨w.heap.size, 0, none⟩) n n] 30))
  clear o1 g1 O1 K1
  go_wp2
  go_loopw [11] (fun i wr => ∃ (k : Nat), k ≤ n ∧ i = .int .i64 k ∧ Hid (Own 22 .u64 wr w.heap.size (some ⟨w.heap.size, 0, none⟩) n n (laidN ss k)) ∧ Hid (Boxed wr w1.heap.size 30 (.slice (some ⟨w.heap.size, 0, none⟩) n n)) ∧ Hid (Below w.heap.size w wr)) (fun i _ => n - (intOf i).toNat)
  case atStart => exact ⟨0, by omega, rfl, O2, B2, K2⟩
  case round =>
    obtain ⟨k, hk, rfl, HO, HB, HK⟩ := hrel
    by_cases hlt : k < n
    · obtain ⟨-, -, h0 | ⟨b, off, rfl, hc⟩⟩ := HR.out
      · omega
      have hlt0 : b < w.heap.size := World.block_lt_of_cell? w _ (hc k hlt)
      have hck : wr.cell? ⟨b, off + k, none⟩ = some (.string (ss.getD k ByteArray.empty)) := by
        rw [HK.out.cell (p := ⟨b, off + k, none⟩) hlt0]
        exact hc k hlt
      have hsz : (ss.getD k ByteArray.empty).size ≤ 9223372036854775807 := getD_text HSS.out (by rw [HL.out]; exact hlt)
      have C := hide (fun w' => fnvOf_any (ss.getD k ByteArray.empty) w' hsz)
      have HN : Hid ((laidN ss k).length = n) := by show _ = _; rw [laidN_len ss (by rw [HL.out]; exact hk), HL.out]
      have hbox := HB.out.cell
      have hfz := World.ownsRow.frozenAt HO.out k
      have hcl : wr.cell? ⟨w.heap.size, k, none⟩ = some (.int .u64 ((laidN ss k).getD k 0)) := by
        have h1 := World.ownsRow.cellAt HO.out k (by omega)
        rw [h1, List.getElem?_map, List.getElem?_eq_getElem (by rw [HN.out]; exact hlt), List.getD_eq_getElem?_getD, List.getElem?_eq_getElem (by rw [HN.out]; exact hlt)]
        rfl
      have HO2 : Hid (Own 22 .u64 (wr.setCell ⟨w.heap.size, k, none⟩ (.int .u64 (fnvOf (numsOf (ss.getD k ByteArray.empty))))) w.heap.size (some ⟨w.heap.size, 0, none⟩) n n (laidN ss (k + 1))) := by
        show Own _ _ _ _ _ _ _ _
        rw [← laidN_step ss (by rw [HL.out]; exact hlt)]
        exact own_stored HO.out k _
      have HB2 : Hid (∀ v, Boxed (wr.setCell ⟨w.heap.size, k, none⟩ v) w1.heap.size 30 (.slice (some ⟨w.heap.size, 0, none⟩) n n)) := fun v => (Below.heap_setCell _ ⟨w.heap.size, k, none⟩ _ _ (by have := HG1.out; show w1.heap.size ≠ w.heap.size; omega)).trans HB.out
      have HK2 : Hid (∀ v, Below w.heap.size w (wr.setCell ⟨w.heap.size, k, none⟩ v)) := fun v => HK.out.setCell (p := ⟨w.heap.size, k, none⟩) (Nat.le_refl _) v
      generalize fnvOf (numsOf (ss.getD k ByteArray.empty)) = v at *
      generalize ss.getD k ByteArray.empty = s at *
      generalize (laidN ss k).getD k 0 = z at *
      clear hc hsz HO HN HB HK
      go_wp2_with fail
      go_region_with (go_at_call 7; refine (C.out _).mono ?_; rintro e w' ⟨rfl, rfl⟩)
      all_goals go_wp2
      all_goals go_roundw
      case rel => exact ⟨k + 1, by omega, by go_num, HO2.out.drew, HB2.out _, (HK2.out _).drew⟩
      case measure => simp [intOf]; omega
      case rel => exact ⟨k + 1, by omega, by go_num, HO2.out.drew, HB2.out _, (HK2.out _).drew⟩
      case measure => simp [intOf]; omega
    · have : k = n := by omega
      subst this
      have HE : Hid (laidN ss k = ss.map numOf) := by show _ = _; rw [← HL.out, laidN_end]
      rw [HE.out] at HO
      go_wp2
      go_ret
      exact ⟨w1.heap.size, w.heap.size, rfl, HB, HO, HK⟩
end Go.Proofs.Ytllipocbaknkpaa
